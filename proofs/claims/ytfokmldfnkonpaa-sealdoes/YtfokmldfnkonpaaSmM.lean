/-
  What a machine of orders has, with no memory in it: its orders, one behind the other; what carrying out an entry makes of it, and what it tells.
-/
import Derived.Test.YtfokmldfnkonpaaCodB
namespace Go.Proofs.Ytfokmldfnkonpaa
open Go.RowKit

/-- An order. -/
structure Or where
  id : Int
  tok : ByteArray
  cart : ByteArray
  ep : Int
  cut : List Int
  deriving DecidableEq
def zeroOr : Or := ⟨0, ⟨#[]⟩, ⟨#[]⟩, 0, []⟩
/-- A machine: its orders, and how many entries were carried out. -/
structure Sm where
  os : List Or
  dn : Nat
def noSm : Sm := ⟨[], 0⟩
def cntO (c : ByteArray) (os : List Or) : Nat := (os.filter fun o => decide (o.cart = c)).length
def findO (t : ByteArray) (os : List Or) : Option Or := os.find? fun o => decide (o.tok = t)
def enO (o : Or) : En := ⟨false, o.tok, o.cart, o.ep, o.cut⟩
structure SmOk (g : Sm) : Prop where
  ids : ∀ (k : Nat) o, g.os[k]? = some o → o.id = (k : Int) + 1
  toks : ∀ (i j : Nat) a b, g.os[i]? = some a → g.os[j]? = some b → a.tok = b.tok → i = j
  eps : ∀ (k : Nat) o, g.os[k]? = some o → o.ep = (cntO o.cart (g.os.take k) : Int)
  right : ∀ o ∈ g.os, RightEn (enO o) = true
  few : g.os.length ≤ 65536
theorem noSm_ok : SmOk noSm := ⟨fun k o h => by simp [noSm] at h, fun i j a b h => by simp [noSm] at h, fun k o h => by simp [noSm] at h, fun o h => by simp [noSm] at h, by simp [noSm]⟩
def newO (g : Sm) (e : En) : Or := ⟨(g.os.length : Int) + 1, e.tok, e.cart, e.ep, e.cut⟩
/-- Which way an entry goes: 0 it may not be, 1 a Noop, 2 its token has an order, 3 stale, 4 full, 5 it makes an order. -/
def wayO (g : Sm) (e : En) : Nat :=
  if RightEn e = true then
    if e.noop = true then 1
    else if (findO e.tok g.os).isSome = true then 2
    else if e.ep ≠ (cntO e.cart g.os : Int) then 3
    else if 65536 ≤ g.os.length then 4 else 5
  else 0
def codeO : Nat → Int
  | 0 => 1
  | 3 => 190
  | 4 => 2
  | _ => 0
def doR (g : Sm) (e : En) : Or := if wayO g e = 2 then (findO e.tok g.os).getD zeroOr else if wayO g e = 5 then newO g e else zeroOr
def doS (g : Sm) (e : En) : Sm := if wayO g e = 0 then g else if wayO g e = 5 then ⟨g.os ++ [newO g e], g.dn + 1⟩ else ⟨g.os, g.dn + 1⟩
section
variable {g : Sm} {e : En}
theorem way0 (h : ¬ RightEn e = true) : wayO g e = 0 := by unfold wayO; rw [if_neg h]
theorem way1 (h : RightEn e = true) (hn : e.noop = true) : wayO g e = 1 := by unfold wayO; rw [if_pos h, if_pos hn]
theorem way2 (h : RightEn e = true) (hn : e.noop = false) {o : Or} (hf : findO e.tok g.os = some o) : wayO g e = 2 := by unfold wayO; rw [if_pos h, hn, if_neg (by decide), hf]; rfl
theorem way3 (h : RightEn e = true) (hn : e.noop = false) (hf : findO e.tok g.os = none) (he : e.ep ≠ (cntO e.cart g.os : Int)) : wayO g e = 3 := by unfold wayO; rw [if_pos h, hn, if_neg (by decide), hf, if_neg (by decide), if_pos he]
theorem way4 (h : RightEn e = true) (hn : e.noop = false) (hf : findO e.tok g.os = none) (he : e.ep = (cntO e.cart g.os : Int)) (hl : 65536 ≤ g.os.length) : wayO g e = 4 := by unfold wayO; rw [if_pos h, hn, if_neg (by decide), hf, if_neg (by decide), if_neg (fun k => k he), if_pos hl]
theorem way5 (h : RightEn e = true) (hn : e.noop = false) (hf : findO e.tok g.os = none) (he : e.ep = (cntO e.cart g.os : Int)) (hl : ¬ 65536 ≤ g.os.length) : wayO g e = 5 := by unfold wayO; rw [if_pos h, hn, if_neg (by decide), hf, if_neg (by decide), if_neg (fun k => k he), if_neg hl]
theorem of_way5 (h : wayO g e = 5) : RightEn e = true ∧ e.noop = false ∧ findO e.tok g.os = none ∧ e.ep = (cntO e.cart g.os : Int) ∧ g.os.length < 65536 := by
  unfold wayO at h
  by_cases h1 : RightEn e = true
  · rw [if_pos h1] at h
    by_cases h2 : e.noop = true
    · rw [if_pos h2] at h; cases h
    · rw [if_neg h2] at h
      by_cases h3 : (findO e.tok g.os).isSome = true
      · rw [if_pos h3] at h; cases h
      · rw [if_neg h3] at h
        by_cases h4 : e.ep ≠ (cntO e.cart g.os : Int)
        · rw [if_pos h4] at h; cases h
        · rw [if_neg h4] at h
          by_cases h5 : 65536 ≤ g.os.length
          · rw [if_pos h5] at h; cases h
          · exact ⟨h1, by simpa using h2, by simpa using h3, by simpa using h4, by omega⟩
  · rw [if_neg h1] at h; cases h
theorem findO_mem {t : ByteArray} {os : List Or} {o : Or} (h : findO t os = some o) : o ∈ os ∧ o.tok = t := ⟨List.mem_of_find?_eq_some h, by simpa using List.find?_some h⟩
theorem findO_none {t : ByteArray} {os : List Or} (h : findO t os = none) : ∀ o ∈ os, o.tok ≠ t := by simpa [findO] using h
theorem findO_snoc (t : ByteArray) (os : List Or) (o : Or) : findO t (os ++ [o]) = (findO t os).or (if o.tok = t then some o else none) := by
  unfold findO
  rw [List.find?_append]
  by_cases h : o.tok = t <;> simp [h]
theorem cntO_snoc (c : ByteArray) (os : List Or) (o : Or) : cntO c (os ++ [o]) = cntO c os + (if o.cart = c then 1 else 0) := by
  unfold cntO
  rw [List.filter_append, List.length_append]
  by_cases h : o.cart = c <;> simp [h]
theorem cntO_le (c : ByteArray) (os : List Or) : cntO c os ≤ os.length := List.length_filter_le _ _
theorem get_snoc {os : List Or} {o a : Or} {k : Nat} (h : (os ++ [o])[k]? = some a) : (k < os.length ∧ os[k]? = some a) ∨ (k = os.length ∧ a = o) := by
  by_cases hk : k < os.length
  · rw [List.getElem?_append_left hk] at h
    exact .inl ⟨hk, h⟩
  · have hlt := (List.getElem?_eq_some_iff.1 h).1
    simp at hlt
    have e1 : k = os.length := by omega
    subst e1
    simp at h
    exact .inr ⟨rfl, h.symm⟩
theorem dn_ok (h : SmOk g) (n : Nat) : SmOk ⟨g.os, n⟩ := ⟨h.ids, h.toks, h.eps, h.right, h.few⟩
theorem doS_ok (h : SmOk g) (e : En) : SmOk (doS g e) := by
  unfold doS
  by_cases h0 : wayO g e = 0
  · rw [if_pos h0]; exact h
  · rw [if_neg h0]
    by_cases h5 : wayO g e = 5
    · rw [if_pos h5]
      obtain ⟨hr, hn, hf, he, hl⟩ := of_way5 h5
      have hno := findO_none hf
      refine ⟨fun k o hk => ?_, fun i j a b hi hj hab => ?_, fun k o hk => ?_, fun o ho => ?_, by simp; omega⟩
      · rcases get_snoc hk with ⟨_, h1⟩ | ⟨rfl, rfl⟩
        · exact h.ids k o h1
        · rfl
      · rcases get_snoc hi with ⟨_, h1⟩ | ⟨h1', h1⟩ <;> rcases get_snoc hj with ⟨_, h2⟩ | ⟨h2', h2⟩
        · exact h.toks i j a b h1 h2 hab
        · exact absurd (hab.trans (by rw [h2]; rfl)) (hno a (List.mem_of_getElem? h1))
        · exact absurd (hab.symm.trans (by rw [h1]; rfl)) (hno b (List.mem_of_getElem? h2))
        · omega
      · show o.ep = (cntO o.cart ((g.os ++ [newO g e]).take k) : Int)
        rcases get_snoc hk with ⟨h0, h1⟩ | ⟨rfl, rfl⟩
        · rw [List.take_append_of_le_length (by omega)]
          exact h.eps k o h1
        · rw [List.take_append_of_le_length (Nat.le_refl _), List.take_length]
          exact he
      · rcases List.mem_append.1 ho with h1 | h1
        · exact h.right o h1
        · simp at h1
          subst h1
          have e1 : enO (newO g e) = e := by
            obtain ⟨np, t, c, ep, cu⟩ := e
            simp at hn
            subst hn
            rfl
          rw [e1]
          exact hr
    · rw [if_neg h5]; exact dn_ok h _
theorem doS_dn (e : En) : (doS g e).dn ≤ g.dn + 1 := by
  unfold doS
  split
  · omega
  · split <;> simp
theorem doS_os (e : En) : (doS g e).os = if wayO g e = 5 then g.os ++ [newO g e] else g.os := by
  unfold doS
  by_cases h0 : wayO g e = 0
  · rw [if_pos h0, if_neg (by rw [h0]; decide)]
  · rw [if_neg h0]
    split <;> rfl
/-- Of each token its Id; of each cart how many orders it has. -/
def idF (g : Sm) (t : ByteArray) : Option Int := (findO t g.os).map (·.id)
def epF (g : Sm) (c : ByteArray) : Option Int := if cntO c g.os = 0 then none else some (cntO c g.os : Int)
theorem epF_getD (g : Sm) (c : ByteArray) : (epF g c).getD 0 = (cntO c g.os : Int) := by
  unfold epF
  by_cases h : cntO c g.os = 0 <;> simp [h]
theorem idF_new (hf : findO e.tok g.os = none) (n : Nat) (t : ByteArray) : idF ⟨g.os ++ [newO g e], n⟩ t = if t = e.tok then some ((g.os.length : Int) + 1) else idF g t := by
  unfold idF
  show (findO t (g.os ++ [newO g e])).map _ = _
  rw [findO_snoc]
  by_cases h : t = e.tok
  · subst h
    rw [hf, if_pos rfl]
    simp [newO]
  · have h' : ¬ (newO g e).tok = t := fun k => h k.symm
    rw [if_neg h', if_neg h, Option.or_none]
theorem epF_new (n : Nat) (c : ByteArray) : epF ⟨g.os ++ [newO g e], n⟩ c = if c = e.cart then some ((cntO e.cart g.os : Int) + 1) else epF g c := by
  unfold epF
  show (if cntO c (g.os ++ [newO g e]) = 0 then none else some (cntO c (g.os ++ [newO g e]) : Int)) = _
  rw [cntO_snoc]
  by_cases h : c = e.cart
  · subst h
    have h1 : (newO g e).cart = e.cart := rfl
    rw [if_pos h1, if_pos rfl, if_neg (by omega)]
    congr 1
  · have h' : ¬ (newO g e).cart = c := fun k => h k.symm
    rw [if_neg h', if_neg h]
    rfl
/-- The order of an Id. -/
def getO (g : Sm) (id : Int) : Option Or := if 1 ≤ id ∧ id ≤ (g.os.length : Int) then g.os[(id - 1).toNat]? else none
theorem getO_at {k : Nat} (hk : k < g.os.length) : getO g ((k : Int) + 1) = some g.os[k] := by
  unfold getO
  rw [if_pos (by omega), show ((k : Int) + 1 - 1).toNat = k by omega, List.getElem?_eq_getElem hk]
theorem getO_none {id : Int} (h : id < 1 ∨ (g.os.length : Int) < id) : getO g id = none := by unfold getO; rw [if_neg (by omega)]
theorem get_id (h : SmOk g) (t : ByteArray) : getO g ((idF g t).getD 0) = findO t g.os := by
  unfold idF
  cases hf : findO t g.os with
  | none => exact getO_none (.inl (by simp))
  | some o =>
    obtain ⟨hm, _⟩ := findO_mem hf
    obtain ⟨k, hk, rfl⟩ := List.mem_iff_getElem.1 hm
    have := h.ids k _ (List.getElem?_eq_getElem hk)
    simp only [Option.map_some, Option.getD_some]
    rw [this]
    exact getO_at hk
theorem find_at (h : SmOk g) {k : Nat} (hk : k < g.os.length) : findO g.os[k].tok g.os = some g.os[k] := by
  cases hf : findO g.os[k].tok g.os with
  | none => exact absurd rfl (findO_none hf _ (List.getElem_mem hk))
  | some o =>
    obtain ⟨hm, ht⟩ := findO_mem hf
    obtain ⟨j, hj, rfl⟩ := List.mem_iff_getElem.1 hm
    have := h.toks j k _ _ (List.getElem?_eq_getElem hj) (List.getElem?_eq_getElem hk) ht
    subst this
    rfl
end
end Go.Proofs.Ytfokmldfnkonpaa
