/-
  pannierref16.vote of any; the document's acceptor and what it tells (mathematics).
-/
import Derived.Test.YtfmnbehopdmahaaGreatAvE
import Derived.Test.YtfmnbehopdmahaaGreatScLa
import Derived.Test.YtfmnbehopdmahaaGreatCodA
namespace Go.Proofs.YtfmnbehopdmahaaGreat
open Go.RowKit Go.Maps

theorem findV_none : ∀ {xs : List VoM} {s : Int} {k : Nat}, findV xs s k = -1 → ∀ x ∈ xs, x.slot ≠ s
  | [], _, _, _ => fun x h => by cases h
  | y :: r, s, k, h => fun x hx => by
    by_cases he : y.slot = s
    · simp only [findV, if_pos he] at h
      omega
    · simp only [findV, if_neg he] at h
      rcases List.mem_cons.1 hx with h1 | h1
      · rw [h1]; exact he
      · exact findV_none h x h1
theorem RaAt.vote {w : World} {B x : Nat} {nd : Int} {pr : Int × Int} {xs : List VoM} {eo : Option Addr} {cap : Nat} (h : RaAt w B x nd pr xs eo cap) (hB : B ≤ w.heap.size) (v : VoM) (hv : VoOk w v) (hl : ∀ b off, v.en.ao = some ⟨b, off, none⟩ → v.en.e.cut ≠ [] → b < B) (hn : findV xs v.slot 0 = -1 → xs.length < 4096) :
    Calls Tryz.prog 24 #[.pointer (some ⟨x, 0, none⟩), v.val] w fun e w' => e = .returned (.bool (chgV xs v)) ∧ VotR B w x nd pr eo (voteV xs v) w' := by
  rcases findV_or xs v.slot 0 with h1 | ⟨j, h1, h2, _⟩
  · have e1 : chgV xs v = true := by unfold chgV; rw [if_neg (by omega)]
    have e2 : voteV xs v = insV xs (leadV xs v.slot) v := by unfold voteV; rw [if_neg (by omega)]
    rw [e1, e2]
    exact h.vote_new hB v hv hl (hn h1) h1
  · rw [Nat.zero_add] at h2
    have h3 : (findV xs v.slot 0).toNat = j := by rw [h2]; rfl
    have e1 : chgV xs v = !(decide ((xs.getD j default).bal = v.bal) && decide ((xs.getD j default).en.e = v.en.e)) := by unfold chgV; rw [if_pos (by omega), h3]
    have e2 : voteV xs v = xs.set j v := by unfold voteV; rw [if_pos (by omega), h3]
    rw [e1, e2]
    exact h.vote_has v hv hl h1 h2
/-- A row of votes that rises is what an acceptor has. -/
structure TwV (xs : List VoM) (a : Ac) : Prop where
  ns : xs.map (·.slot) = a.ks
  fs : ∀ x ∈ xs, a.f x.slot = some x.vt
theorem TwV.len {xs : List VoM} {a : Ac} (h : TwV xs a) : xs.length = a.ks.length := by rw [← h.ns, List.length_map]
theorem TwV.lead {xs : List VoM} {a : Ac} (h : TwV xs a) (s : Int) : leadV xs s = aheadOf a.ks s := by
  rw [← h.ns]
  clear h
  induction xs with
  | nil => rfl
  | cons x r ih =>
    unfold aheadOf at ih ⊢
    by_cases hh : x.slot < s
    · simp [leadV, hh, ih]
    · simp [leadV, hh]
theorem TwV.none {xs : List VoM} {a : Ac} (h : TwV xs a) (hg : AcOk a) (s : Int) : findV xs s 0 = -1 ↔ a.f s = none := by
  constructor
  · intro h1
    cases hh : a.f s with
    | none => rfl
    | some y =>
      have hm : s ∈ a.ks := (hg.has s).2 (by rw [hh]; rfl)
      rw [← h.ns] at hm
      obtain ⟨z, hz, e⟩ := List.mem_map.1 hm
      exact absurd e (findV_none h1 z hz)
  · intro h1
    rcases findV_or xs s 0 with h2 | ⟨j, h2, _, h4⟩
    · exact h2
    · rw [vo_getD h2] at h4
      have := h.fs xs[j] (List.getElem_mem h2)
      rw [h4, h1] at this
      cases this
theorem TwV.found {xs : List VoM} {a : Ac} (h : TwV xs a) {s : Int} (hf : ¬ findV xs s 0 = -1) : ∃ j, ∃ hj : j < xs.length, findV xs s 0 = (j : Int) ∧ xs[j].slot = s ∧ a.f s = some xs[j].vt := by
  rcases findV_or xs s 0 with h2 | ⟨j, h2, h3, h4⟩
  · exact absurd h2 hf
  · rw [vo_getD h2] at h4
    rw [Nat.zero_add] at h3
    have := h.fs xs[j] (List.getElem_mem h2)
    rw [h4] at this
    exact ⟨j, h2, h3, h4, this⟩
theorem TwV.chg {xs : List VoM} {a : Ac} (h : TwV xs a) (hg : AcOk a) (v : VoM) : chgV xs v = decide (a.f v.slot ≠ some (v.bal, v.en.e)) := by
  by_cases hf : findV xs v.slot 0 = -1
  · have h1 := (h.none hg v.slot).1 hf
    unfold chgV
    rw [if_neg (by omega), h1]
    simp
  · obtain ⟨j, hj, h1, h2, h3⟩ := h.found hf
    unfold chgV
    rw [if_pos (by omega), h3, h1]
    simp only [Int.toNat_natCast, vo_getD hj, VoM.vt]
    by_cases e1 : xs[j].bal = v.bal <;> by_cases e2 : xs[j].en.e = v.en.e <;> simp [e1, e2]
theorem TwV.vote {xs : List VoM} {a : Ac} (h : TwV xs a) (hg : AcOk a) (v : VoM) : TwV (voteV xs v) (voteA a v.slot v.vt) := by
  by_cases hf : findV xs v.slot 0 = -1
  · have h1 := (h.none hg v.slot).1 hf
    have hns : v.slot ∉ a.ks := fun hm => by have := (hg.has v.slot).1 hm; rw [h1] at this; cases this
    have e : voteV xs v = insV xs (leadV xs v.slot) v := by unfold voteV; rw [if_neg (by omega)]
    rw [e, h.lead]
    refine ⟨?_, fun y hy => ?_⟩
    · show _ = putS a.ks v.slot
      unfold putS insV
      rw [if_pos]
      · rw [List.map_append, List.map_append, List.map_take, List.map_drop, h.ns]; rfl
      · by_cases e : aheadOf a.ks v.slot = a.ks.length
        · exact .inl e
        · refine .inr (fun e2 => hns ?_)
          have hl : aheadOf a.ks v.slot < a.ks.length := by have := aheadOf_le a.ks v.slot; omega
          rw [show a.ks.getD (aheadOf a.ks v.slot) 0 = a.ks[aheadOf a.ks v.slot] by simp [List.getD, List.getElem?_eq_getElem hl]] at e2
          rw [← e2]
          exact List.getElem_mem hl
    · show (if y.slot = v.slot then some v.vt else a.f y.slot) = _
      rcases insV_mem hy with h6 | h6
      · rw [if_neg (fun e => hns (by rw [← e, ← h.ns]; exact List.mem_map.2 ⟨y, h6, rfl⟩))]
        exact h.fs y h6
      · rw [h6, if_pos rfl]
  · obtain ⟨j, hj, h1, h2, h3⟩ := h.found hf
    have hm : v.slot ∈ a.ks := (hg.has _).2 (by rw [h3]; rfl)
    have e : voteV xs v = xs.set j v := by unfold voteV; rw [if_pos (by omega), h1]; rfl
    have hset : (xs.map (·.slot)).set j v.slot = xs.map (·.slot) := by
      refine List.ext_getElem (by simp) (fun i h5 h6 => ?_)
      rw [List.getElem_set]
      split
      · rename_i e; subst e; simp [h2]
      · rfl
    rw [e]
    refine ⟨?_, fun y hy => ?_⟩
    · show _ = putS a.ks v.slot
      rw [putS_old hg.rise hm, List.map_set, hset, h.ns]
    · show (if y.slot = v.slot then some v.vt else a.f y.slot) = _
      by_cases e5 : y.slot = v.slot
      · rw [if_pos e5]
        obtain ⟨i, hi, rfl⟩ := List.mem_iff_getElem.1 hy
        rw [List.length_set] at hi
        by_cases e6 : j = i
        · subst e6
          simp
        · have e7 : (xs.set j v)[i]'(by rw [List.length_set]; exact hi) = xs[i] := by rw [List.getElem_set, if_neg e6]
          rw [e7] at e5
          have hr := hg.rise
          rw [← h.ns] at hr
          exfalso
          have e8 : (xs.map (·.slot))[i]'(by simpa using hi) = (xs.map (·.slot))[j]'(by simpa using hj) := by simp [e5, h2]
          have hp := List.pairwise_iff_getElem.1 hr
          rcases Nat.lt_or_gt_of_ne e6 with h7 | h7
          · have := hp j i (by simpa using hj) (by simpa using hi) h7; omega
          · have := hp i j (by simpa using hi) (by simpa using hj) h7; omega
      · rw [if_neg e5]
        rcases List.mem_or_eq_of_mem_set hy with h8 | h8
        · exact h.fs y h8
        · rw [h8] at e5; exact absurd rfl e5
theorem TwV.above {xs : List VoM} {a : Ac} (h : TwV xs a) (s : Int) : (aboveV xs s xs.length).map VoM.sv = fromTo a s a.ks.length := by
  unfold aboveV fromTo
  rw [List.take_length, List.take_length, ← h.ns, List.filter_map, List.map_map]
  refine (List.map_congr_left (fun y hy => ?_))
  have hy' := (List.mem_filter.1 hy).1
  show (y.slot, y.vt) = (y.slot, (a.f y.slot).getD dfVt)
  rw [h.fs y hy']
  rfl
theorem TwV.prom {xs : List VoM} {a : Ac} (h : TwV xs a) (b : Int × Int) : TwV xs (promA a b) := ⟨h.ns, h.fs⟩
/-- Whether a vote changes what is told, where the promise rises with it. -/
theorem chg_or {a : Ac} (hg : AcOk a) {x : MsM} (hc : ¬ 0 < cmpB a.pr x.bal) : (decide (a.pr ≠ x.bal) || decide (a.f x.slot ≠ some (x.bal, x.en.e))) = decide (a.f x.slot ≠ some (x.bal, x.en.e)) := by
  by_cases e : a.pr = x.bal
  · simp [e]
  · have h1 : a.f x.slot ≠ some (x.bal, x.en.e) := fun hh => by
      have h2 := (hg.right _ _ hh).2.2
      have h3 : cmpB x.bal a.pr ≤ 0 := h2
      have h4 := cmpB_neg a.pr x.bal
      exact e (cmpB_zero.1 (by omega))
    simp [h1]
end Go.Proofs.YtfmnbehopdmahaaGreat
/-
  Seals in memory: what a slice of api.Seal holds ('HeldSl'), what append makes of one. No function of the program is named here.
-/
namespace Go.Proofs.YtfmnbehopdmahaaGreat
open Go.RowKit Go.ChangeShapes Go.WideShapes Go.Deep Go.Maps

structure Sl where
  tok : ByteArray
  cart : ByteArray
  ep : Int
  cut : List Int
  deriving DecidableEq
def zeroSl : Sl := ⟨⟨#[]⟩, ⟨#[]⟩, 0, []⟩
/-- A seal with the place of its cut. -/
structure SlM where
  e : Sl
  ao : Option Addr
  cap : Nat
def zeroSM : SlM := ⟨zeroSl, none, 0⟩
instance : Inhabited SlM := ⟨zeroSM⟩
def SlM.cells (x : SlM) : List Value := [.string x.e.tok, .string x.e.cart, .int .i64 x.e.ep, .slice x.ao x.e.cut.length x.cap]
abbrev SlM.val (x : SlM) : Value := .agg #[.string x.e.tok, .string x.e.cart, .int .i64 x.e.ep, .slice x.ao x.e.cut.length x.cap]
structure SlOk (w : World) (x : SlM) : Prop where
  cut : HV w x.ao x.cap x.e.cut
  ie : I64 x.e.ep
  ht : x.e.tok.size ≤ maxLen
  hc : x.e.cart.size ≤ maxLen
theorem SlOk.below {w w' : World} {x : SlM} (h : SlOk w x) (hb : Below w.heap.size w w') : SlOk w' x := ⟨h.cut.below hb, h.ie, h.ht, h.hc⟩
def AllS (w : World) (xs : List SlM) : Prop := ∀ x ∈ xs, SlOk w x
theorem AllS.below {w w' : World} {xs : List SlM} (h : AllS w xs) (hb : Below w.heap.size w w') : AllS w' xs := fun x hx => (h x hx).below hb
/-- A slice of seals holds xs. -/
def HeldSl (w : World) (ao : Option Addr) (xs : List SlM) : Prop :=
  AllS w xs ∧ (xs = [] ∨ ∃ b off, ao = some ⟨b, off, none⟩ ∧ b < w.heap.size ∧ ∀ j (hj : j < xs.length) c u, xs[j].cells[c]? = some u → w.cell? ⟨b, off + j * 4 + c, none⟩ = some u)
theorem HeldSl.below {w w' : World} {ao : Option Addr} {xs : List SlM} (h : HeldSl w ao xs) (hb : Below w.heap.size w w') : HeldSl w' ao xs := by
  refine ⟨h.1.below hb, ?_⟩
  rcases h.2 with h0 | ⟨b, off, h1, h2, h3⟩
  · exact .inl h0
  · exact .inr ⟨b, off, h1, Nat.lt_of_lt_of_le h2 hb.size, fun j hj c u hu => (hb.cell (p := ⟨b, off + j * 4 + c, none⟩) h2).trans (h3 j hj c u hu)⟩
theorem HeldSl.at {w : World} {ao : Option Addr} {xs : List SlM} (h : HeldSl w ao xs) {j : Nat} (hj : j < xs.length) : ∃ b off, ao = some ⟨b, off, none⟩ ∧ b < w.heap.size ∧ w.cell? ⟨b, off + j * 4, none⟩ = some (.string xs[j].e.tok) ∧ w.cell? ⟨b, off + j * 4 + 1, none⟩ = some (.string xs[j].e.cart) ∧
    w.cell? ⟨b, off + j * 4 + 2, none⟩ = some (.int .i64 xs[j].e.ep) ∧ w.cell? ⟨b, off + j * 4 + 3, none⟩ = some (.slice xs[j].ao xs[j].e.cut.length xs[j].cap) := by
  rcases h.2 with h0 | ⟨b, off, h1, h2, h3⟩
  · subst h0
    cases hj
  · exact ⟨b, off, h1, h2, h3 j hj 0 _ rfl, h3 j hj 1 _ rfl, h3 j hj 2 _ rfl, h3 j hj 3 _ rfl⟩
def flatS (xs : List SlM) : List Value := xs.flatMap SlM.cells
theorem flatS_snoc (xs : List SlM) (x : SlM) : flatS (xs ++ [x]) = flatS xs ++ x.cells := by simp [flatS]
theorem flatS_len : ∀ xs : List SlM, (flatS xs).length = xs.length * 4
  | [] => rfl
  | x :: r => by
    have := flatS_len r
    unfold flatS at this ⊢
    rw [List.flatMap_cons, List.length_append, this, List.length_cons]
    show 4 + _ = _
    omega
theorem flatS_get : ∀ (xs : List SlM) (j : Nat) (hj : j < xs.length) (c : Nat) (u : Value), xs[j].cells[c]? = some u → (flatS xs)[j * 4 + c]? = some u
  | [], j, hj, _, _, _ => by cases hj
  | x :: r, 0, _, c, u, h => by
    simp only [List.getElem_cons_zero] at h
    have hc : c < 4 := (List.getElem?_eq_some_iff.1 h).1
    unfold flatS
    rw [List.flatMap_cons, Nat.zero_mul, Nat.zero_add, List.getElem?_append_left (show c < 4 from hc)]
    exact h
  | x :: r, j + 1, hj, c, u, h => by
    simp only [List.getElem_cons_succ] at h
    have := flatS_get r j (by simpa using hj) c u h
    unfold flatS at this ⊢
    rw [List.flatMap_cons, List.getElem?_append_right (show x.cells.length ≤ _ by show 4 ≤ _; omega)]
    rw [show (j + 1) * 4 + c - x.cells.length = j * 4 + c by show _ - 4 = _; omega]
    exact this
/-- What an owned row of seals holds. -/
theorem heldSl_of_own {w : World} {B : Nat} {v : Value} {xs : List SlM} {n : Nat} (hn : xs.length = n) (h : w.ownsRow B 37 4 v n (flatS xs)) (hx : AllS w xs) : ∃ ao cap, v = .slice ao n cap ∧ n ≤ cap ∧ HeldSl w ao xs := by
  subst hn
  obtain ⟨eo, cap, rfl, hnc, hc⟩ := own_form8 h
  refine ⟨eo, cap, rfl, hnc, hx, ?_⟩
  by_cases h0 : xs = []
  · exact .inl h0
  · obtain ⟨g, rfl, _, hg, hcell⟩ := hc (List.length_pos_iff.2 h0)
    refine .inr ⟨g, 0, rfl, hg, fun j hj c u hu => ?_⟩
    rw [Nat.zero_add]
    exact hcell _ _ (flatS_get xs j hj c u hu)
theorem Tryz.infoSl : (Tryz.prog.info? 37).map (fun i => (i.zero, i.size, i.bytes)) = some (some (.agg #[.string ⟨#[]⟩, .string ⟨#[]⟩, .int .i64 0, .slice none 0 0]), 4, 64) := by kernel_rfl
theorem sl_one (x : SlM) : ∀ u ∈ x.cells, u.oneCell' = true := by
  intro u hu
  simp [SlM.cells] at hu
  rcases hu with rfl | rfl | rfl | rfl <;> rfl
end Go.Proofs.YtfmnbehopdmahaaGreat
