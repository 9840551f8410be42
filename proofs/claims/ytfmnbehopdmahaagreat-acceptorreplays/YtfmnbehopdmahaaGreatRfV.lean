/-
  What bytes say, with no memory in it: readers of numbers, texts, lists, entries, votes, events, messages; each reads what was written, and what it reads is written so.
-/
import Derived.Test.YtfmnbehopdmahaaGreatScLa
import Derived.Test.YtfmnbehopdmahaaGreatEvMay
import Derived.Test.YtfmnbehopdmahaaGreatCodZ
import Derived.Deep.AppendLies
import Derived.Deep.RegionHeld3
import Derived.Deep.QuietTactic
import Derived.BigQuiet
namespace Go.Proofs.YtfmnbehopdmahaaGreat
open Go.RowKit

/-- A reader: what bytes begin with, and the bytes behind it. -/
abbrev Rdr (α : Type) := List Int → Option (α × List Int)
/-- p reads just what e writes of those that R holds of. -/
structure Reads {α : Type} (p : Rdr α) (e : α → List Int) (R : α → Prop) : Prop where
  fwd : ∀ x s, R x → p (e x ++ s) = some (x, s)
  back : ∀ b x s, AllB b → p b = some (x, s) → R x ∧ b = e x ++ s
theorem allB_tail {a b : List Int} (h : AllB (a ++ b)) : AllB b := fun c hc => h c (List.mem_append_right _ hc)
/-- A number of at most most. -/
def pNum (most : Nat) : Rdr Int := fun b => if (dec 0 0 b).2.2 = 0 ∧ (dec 0 0 b).1 ≤ most then some (((dec 0 0 b).1 : Int), b.drop (dec 0 0 b).2.1) else none
theorem pNum_reads {most : Nat} (hm : most < 18446744073709551616) : Reads (pNum most) (fun x => enc x.toNat) (fun x => 0 ≤ x ∧ x ≤ (most : Int)) := by
  refine ⟨fun x s hx => ?_, fun b x s hb h => ?_⟩
  · have h1 : x.toNat < 18446744073709551616 := by omega
    unfold pNum
    rw [dec_enc h1 s]
    rw [if_pos ⟨rfl, by show x.toNat ≤ most; omega⟩]
    have h2 : ((x.toNat : Nat) : Int) = x := by omega
    show some (((x.toNat : Nat) : Int), (enc x.toNat ++ s).drop (enc x.toNat).length) = _
    rw [h2, List.drop_left]
  · unfold pNum at h
    split at h
    · rename_i hc
      obtain ⟨h1, h2⟩ := hc
      obtain ⟨X, n, Er, hd⟩ : ∃ X n Er, dec 0 0 b = (X, n, Er) := ⟨_, _, _, rfl⟩
      rw [hd] at h h1 h2
      simp only at h h1 h2
      subst h1
      obtain ⟨h3, _, h5, _⟩ := dec_back hb hd
      cases h
      refine ⟨⟨by omega, by omega⟩, ?_⟩
      show b = enc (X : Int).toNat ++ b.drop n
      rw [Int.toNat_natCast, h3, List.take_append_drop]
    · cases h
/-- One behind the other. -/
def pSeq {α β : Type} (p : Rdr α) (q : Rdr β) : Rdr (α × β) := fun b => (p b).bind fun r => (q r.2).bind fun t => some ((r.1, t.1), t.2)
theorem Reads.seq {α β : Type} {p : Rdr α} {q : Rdr β} {e : α → List Int} {f : β → List Int} {R : α → Prop} {S : β → Prop} (h : Reads p e R) (k : Reads q f S) : Reads (pSeq p q) (fun x => e x.1 ++ f x.2) (fun x => R x.1 ∧ S x.2) := by
  refine ⟨fun x s hx => ?_, fun b x s hb hp => ?_⟩
  · unfold pSeq
    rw [List.append_assoc, h.fwd x.1 _ hx.1]
    show ((q (f x.2 ++ s)).bind _) = _
    rw [k.fwd x.2 s hx.2]
    rfl
  · unfold pSeq at hp
    cases h1 : p b with
    | none => rw [h1] at hp; cases hp
    | some r =>
      rw [h1] at hp
      obtain ⟨y, b1⟩ := r
      obtain ⟨hr, he⟩ := h.back b y b1 hb h1
      have hb1 : AllB b1 := allB_tail (he ▸ hb)
      change ((q b1).bind fun t => some ((y, t.1), t.2)) = some (x, s) at hp
      cases h2 : q b1 with
      | none => rw [h2] at hp; cases hp
      | some t =>
        rw [h2] at hp
        obtain ⟨z, b2⟩ := t
        obtain ⟨hs, hf⟩ := k.back b1 z b2 hb1 h2
        cases hp
        exact ⟨⟨hr, hs⟩, by rw [he, hf, List.append_assoc]⟩
/-- The same under another name. -/
def pMap {α β : Type} (f : α → β) (p : Rdr α) : Rdr β := fun b => (p b).map fun r => (f r.1, r.2)
theorem Reads.map {α β : Type} {p : Rdr α} {e : α → List Int} {R : α → Prop} (h : Reads p e R) (f : α → β) (g : β → α) {e' : β → List Int} {R' : β → Prop} (hfg : ∀ y, R' y → f (g y) = y ∧ R (g y) ∧ e (g y) = e' y) (hgf : ∀ x, R x → R' (f x) ∧ e' (f x) = e x) : Reads (pMap f p) e' R' := by
  refine ⟨fun y s hy => ?_, fun b y s hb hp => ?_⟩
  · obtain ⟨h1, h2, h3⟩ := hfg y hy
    unfold pMap
    rw [← h3, h.fwd (g y) s h2]
    show some (f (g y), s) = _
    rw [h1]
  · unfold pMap at hp
    cases h1 : p b with
    | none => rw [h1] at hp; cases hp
    | some r =>
      rw [h1] at hp
      obtain ⟨x, b1⟩ := r
      obtain ⟨hr, he⟩ := h.back b x b1 hb h1
      cases hp
      obtain ⟨h2, h3⟩ := hgf x hr
      exact ⟨h2, by rw [h3]; exact he⟩
/-- Only those that may be. -/
def pIf {α : Type} (c : α → Bool) (p : Rdr α) : Rdr α := fun b => (p b).bind fun r => if c r.1 = true then some r else none
theorem Reads.only {α : Type} {p : Rdr α} {e : α → List Int} {R : α → Prop} (h : Reads p e R) (c : α → Bool) : Reads (pIf c p) e (fun x => R x ∧ c x = true) := by
  refine ⟨fun x s hx => ?_, fun b x s hb hp => ?_⟩
  · unfold pIf
    rw [h.fwd x s hx.1]
    show (if c x = true then some (x, s) else none) = _
    rw [if_pos hx.2]
  · unfold pIf at hp
    cases h1 : p b with
    | none => rw [h1] at hp; cases hp
    | some r =>
      rw [h1] at hp
      obtain ⟨y, b1⟩ := r
      change (if c y = true then some (y, b1) else none) = some (x, s) at hp
      by_cases hc : c y = true
      · rw [if_pos hc] at hp
        cases hp
        obtain ⟨hr, he⟩ := h.back b x s hb h1
        exact ⟨⟨hr, hc⟩, he⟩
      · rw [if_neg hc] at hp
        cases hp
theorem Reads.same {α : Type} {p : Rdr α} {e e' : α → List Int} {R R' : α → Prop} (h : Reads p e R) (hR : ∀ x, R x ↔ R' x) (he : ∀ x, R x → e x = e' x) : Reads p e' R' :=
  ⟨fun x s hx => by rw [← he x ((hR x).2 hx)]; exact h.fwd x s ((hR x).2 hx), fun b x s hb hp => by obtain ⟨h1, h2⟩ := h.back b x s hb hp; exact ⟨(hR x).1 h1, by rw [← he x h1]; exact h2⟩⟩
/-- n items. -/
def pRep {α : Type} (p : Rdr α) : Nat → Rdr (List α)
  | 0 => fun b => some ([], b)
  | n + 1 => fun b => (p b).bind fun r => (pRep p n r.2).bind fun t => some (r.1 :: t.1, t.2)
theorem Reads.rep {α : Type} {p : Rdr α} {e : α → List Int} {R : α → Prop} (h : Reads p e R) : ∀ n, Reads (pRep p n) (fun l => l.flatMap e) (fun l => l.length = n ∧ ∀ x ∈ l, R x)
  | 0 => ⟨fun l s hl => by obtain rfl : l = [] := List.eq_nil_of_length_eq_zero hl.1; rfl, fun b l s _ hp => by cases hp; exact ⟨⟨rfl, fun x hx => by cases hx⟩, rfl⟩⟩
  | n + 1 => by
    have ih := h.rep n
    refine ⟨fun l s hl => ?_, fun b l s hb hp => ?_⟩
    · obtain ⟨h1, h2⟩ := hl
      match l, h1 with
      | x :: r, h1 =>
        show (p ((x :: r).flatMap e ++ s)).bind _ = _
        rw [List.flatMap_cons, List.append_assoc, h.fwd x _ (h2 x List.mem_cons_self)]
        show (pRep p n (r.flatMap e ++ s)).bind _ = _
        rw [ih.fwd r s ⟨by simpa using h1, fun y hy => h2 y (List.mem_cons_of_mem _ hy)⟩]
        rfl
    · change ((p b).bind fun r => (pRep p n r.2).bind fun t => some (r.1 :: t.1, t.2)) = some (l, s) at hp
      cases h1 : p b with
      | none => rw [h1] at hp; cases hp
      | some r =>
        rw [h1] at hp
        obtain ⟨y, b1⟩ := r
        obtain ⟨hr, he⟩ := h.back b y b1 hb h1
        have hb1 : AllB b1 := allB_tail (he ▸ hb)
        change ((pRep p n b1).bind fun t => some (y :: t.1, t.2)) = some (l, s) at hp
        cases h2 : pRep p n b1 with
        | none => rw [h2] at hp; cases hp
        | some t =>
          rw [h2] at hp
          obtain ⟨z, b2⟩ := t
          obtain ⟨⟨h3, h4⟩, hf⟩ := ih.back b1 z b2 hb1 h2
          cases hp
          refine ⟨⟨by simp [h3], fun x hx => ?_⟩, by rw [he, hf, List.flatMap_cons, List.append_assoc]⟩
          rcases List.mem_cons.1 hx with rfl | hx
          · exact hr
          · exact h4 x hx
/-- A list of at most most items. -/
def pList {α : Type} (most : Nat) (p : Rdr α) : Rdr (List α) := fun b => (pNum most b).bind fun r => pRep p r.1.toNat r.2
theorem Reads.list {α : Type} {p : Rdr α} {e : α → List Int} {R : α → Prop} (h : Reads p e R) {most : Nat} (hm : most < 18446744073709551616) : Reads (pList most p) (fun l => enc l.length ++ l.flatMap e) (fun l => l.length ≤ most ∧ ∀ x ∈ l, R x) := by
  have hn := pNum_reads hm
  refine ⟨fun l s hl => ?_, fun b l s hb hp => ?_⟩
  · unfold pList
    rw [List.append_assoc]
    have h1 := hn.fwd (l.length : Int) (l.flatMap e ++ s) ⟨by omega, by have := hl.1; omega⟩
    simp only [Int.toNat_natCast] at h1
    rw [h1]
    show pRep p (l.length : Int).toNat (l.flatMap e ++ s) = _
    rw [Int.toNat_natCast]
    exact (h.rep l.length).fwd l s ⟨rfl, hl.2⟩
  · unfold pList at hp
    cases h1 : pNum most b with
    | none => rw [h1] at hp; cases hp
    | some r =>
      rw [h1] at hp
      obtain ⟨x, b1⟩ := r
      obtain ⟨hr, he⟩ := hn.back b x b1 hb h1
      have hb1 : AllB b1 := allB_tail (he ▸ hb)
      change pRep p x.toNat b1 = some (l, s) at hp
      obtain ⟨⟨h2, h3⟩, hf⟩ := (h.rep x.toNat).back b1 l s hb1 hp
      refine ⟨⟨by omega, h3⟩, ?_⟩
      rw [he, hf, h2, List.append_assoc]
theorem strNums_ofR {l : List Int} (h : AllB l) : strNums (strOfNums l) = l := by
  unfold strNums
  rw [strOfNums_data, List.map_map]
  conv => rhs; rw [← List.map_id l]
  apply List.map_congr_left
  intro c hc
  have := h c hc
  have h2 : c.toNat < 256 := by omega
  simp [Nat.mod_eq_of_lt h2]
  omega
theorem nums_inj : ∀ {x y : List UInt8}, x.map (fun c => (c.toNat : Int)) = y.map (fun c => (c.toNat : Int)) → x = y
  | [], [], _ => rfl
  | [], _ :: _, h => by cases h
  | _ :: _, [], h => by cases h
  | u :: x, v :: y, h => by
    rw [List.map_cons, List.map_cons] at h
    obtain ⟨h1, h2⟩ := List.cons.inj h
    have h3 : u.toNat = v.toNat := by omega
    rw [UInt8.toNat_inj.1 h3, nums_inj h2]
theorem strNums_inj {a b : ByteArray} (h : strNums a = strNums b) : a = b := by
  obtain ⟨⟨x⟩⟩ := a
  obtain ⟨⟨y⟩⟩ := b
  have h2 : x = y := nums_inj h
  rw [h2]
theorem strOf_nums (s : ByteArray) : strOfNums (strNums s) = s := strNums_inj (strNums_ofR (strNums_byte s))
/-- A text of at most most bytes. -/
def pText (most : Nat) : Rdr ByteArray := fun b => (pNum most b).bind fun r => if r.1.toNat ≤ r.2.length then some (strOfNums (r.2.take r.1.toNat), r.2.drop r.1.toNat) else none
theorem pText_reads {most : Nat} (hm : most < 18446744073709551616) : Reads (pText most) encText (fun s => s.size ≤ most) := by
  have hn := pNum_reads hm
  refine ⟨fun x s hx => ?_, fun b x s hb hp => ?_⟩
  · unfold pText encText
    rw [List.append_assoc]
    have h1 := hn.fwd (x.size : Int) (strNums x ++ s) ⟨by omega, by omega⟩
    simp only [Int.toNat_natCast] at h1
    rw [h1]
    show (if (x.size : Int).toNat ≤ (strNums x ++ s).length then some (strOfNums ((strNums x ++ s).take (x.size : Int).toNat), (strNums x ++ s).drop (x.size : Int).toNat) else none) = _
    have h2 : x.size = (strNums x).length := (strNums_len x).symm
    rw [Int.toNat_natCast, if_pos (by rw [List.length_append]; omega), h2, List.take_left, List.drop_left, strOf_nums]
  · unfold pText at hp
    cases h1 : pNum most b with
    | none => rw [h1] at hp; cases hp
    | some r =>
      rw [h1] at hp
      obtain ⟨n, b1⟩ := r
      obtain ⟨hr, he⟩ := hn.back b n b1 hb h1
      have hb1 : AllB b1 := allB_tail (he ▸ hb)
      change (if n.toNat ≤ b1.length then some (strOfNums (b1.take n.toNat), b1.drop n.toNat) else none) = some (x, s) at hp
      by_cases hc : n.toNat ≤ b1.length
      · rw [if_pos hc] at hp
        cases hp
        have h3 : AllB (b1.take n.toNat) := fun c hc => hb1 c (List.mem_of_mem_take hc)
        have h4 : (strOfNums (b1.take n.toNat)).size = n.toNat := by rw [strOfNums_size, List.length_take]; omega
        refine ⟨by rw [h4]; omega, ?_⟩
        unfold encText
        rw [h4, strNums_ofR h3, List.append_assoc, List.take_append_drop]
        exact he
      · rw [if_neg hc] at hp
        cases hp
theorem enc_0 : enc 0 = [0] := enc_lt (by decide)
theorem enc_1 : enc 1 = [1] := enc_lt (by decide)
def pBool : Rdr Bool := pMap (fun x => decide (x = 1)) (pNum 1)
theorem pBool_reads : Reads pBool encBC (fun _ => True) :=
  (pNum_reads (most := 1) (by decide)).map (fun x => decide (x = 1)) (fun b => if b then 1 else 0)
    (fun b _ => by cases b; exact ⟨rfl, ⟨by decide, by decide⟩, enc_0⟩; exact ⟨rfl, ⟨by decide, by decide⟩, enc_1⟩)
    (fun x hx => ⟨trivial, by
      have : x = 0 ∨ x = 1 := by omega
      rcases this with rfl | rfl
      · exact enc_0.symm
      · exact enc_1.symm⟩)
def pName : Rdr ByteArray := pIf nameS (pText 32)
theorem pName_reads : Reads pName encText (fun s => nameS s = true) :=
  ((pText_reads (most := 32) (by decide)).only nameS).same (fun s => ⟨fun h => h.2, fun h => ⟨by unfold nameS at h; simp only [Bool.and_eq_true, decide_eq_true_eq] at h; exact h.1.2, h⟩⟩) (fun _ _ => rfl)
theorem encNC_flat : ∀ v : List Int, encNC v = v.flatMap (fun x => enc x.toNat)
  | [] => rfl
  | x :: r => by rw [encNC, encNC_flat r, List.flatMap_cons]
def pVec : Rdr (List Int) := pIf (fun v => decide (v.length = 0) || decide (v.getD (v.length - 1) 0 ≠ 0)) (pList 7 (pNum 2147483647))
theorem pVec_reads : Reads pVec encVC (fun v => rightVC v = true) :=
  (((pNum_reads (most := 2147483647) (by decide)).list (most := 7) (by decide)).only _).same
    (fun v => by
      unfold rightVC
      rw [Bool.and_eq_true, Bool.and_eq_true]
      constructor
      · rintro ⟨⟨h1, h2⟩, h3⟩
        exact ⟨decide_eq_true (fun x hx => h2 x hx), decide_eq_true h1, h3⟩
      · rintro ⟨h1, h2, h3⟩
        exact ⟨⟨of_decide_eq_true h2, fun x hx => of_decide_eq_true h1 x hx⟩, h3⟩)
    (fun v _ => by unfold encVC; rw [encNC_flat])
/-- A seal, as an entry that is no Noop. -/
def pSeal : Rdr En := pMap (fun t => ⟨false, t.1, t.2.1, t.2.2.1, t.2.2.2⟩) (pSeq pName (pSeq pName (pSeq (pNum 2147483647) pVec)))
theorem pSeal_reads : Reads pSeal encSe (fun e => e.noop = false ∧ RightSe e = true) := by
  refine (pName_reads.seq (pName_reads.seq ((pNum_reads (most := 2147483647) (by decide)).seq pVec_reads))).map _ (fun e => (e.tok, e.cart, e.ep, e.cut)) (fun e he => ?_) (fun t ht => ?_)
  · obtain ⟨np, tk, ct, ep, cut⟩ := e
    obtain ⟨rfl, h⟩ := he
    unfold RightSe at h
    simp only [Bool.and_eq_true] at h
    obtain ⟨h1, h2, h3, h4⟩ := h
    exact ⟨rfl, ⟨h1, h2, of_decide_eq_true h3, h4⟩, by simp [encSe]⟩
  · obtain ⟨tk, ct, ep, cut⟩ := t
    obtain ⟨h1, h2, h3, h4⟩ := ht
    refine ⟨⟨rfl, ?_⟩, by simp [encSe]⟩
    unfold RightSe
    simp only [Bool.and_eq_true]
    exact ⟨h1, h2, decide_eq_true h3, h4⟩
/-- An entry. -/
def pEntry : Rdr En := fun b => (pBool b).bind fun r => if r.1 = true then some (noopEn, r.2) else pSeal r.2
theorem emptySe_noop {e : En} (hn : e.noop = true) (h : EmptySe e = true) : e = noopEn := by
  obtain ⟨np, ⟨⟨tk⟩⟩, ⟨⟨ct⟩⟩, ep, cut⟩ := e
  unfold EmptySe at h
  simp only [Bool.and_eq_true, decide_eq_true_eq] at h
  obtain ⟨h1, h2, h3, h4⟩ := h
  have e1 : tk = [] := List.eq_nil_of_length_eq_zero h1
  have e2 : ct = [] := List.eq_nil_of_length_eq_zero h2
  have e4 : cut = [] := List.eq_nil_of_length_eq_zero h4
  simp only at hn h3
  subst hn e1 e2 h3 e4
  rfl
theorem pEntry_reads : Reads pEntry encEn (fun e => RightEn e = true) := by
  refine ⟨fun e s he => ?_, fun b e s hb hp => ?_⟩
  · unfold pEntry encEn
    rw [List.append_assoc, pBool_reads.fwd e.noop _ trivial]
    show (if e.noop = true then some (noopEn, (if e.noop = true then [] else encSe e) ++ s) else pSeal ((if e.noop = true then [] else encSe e) ++ s)) = _
    unfold RightEn at he
    cases hn : e.noop with
    | true =>
      rw [hn] at he
      rw [if_pos rfl, if_pos rfl, emptySe_noop hn he]
      rfl
    | false =>
      rw [hn] at he
      rw [if_neg (by decide), if_neg (by decide)]
      exact pSeal_reads.fwd e s ⟨hn, he⟩
  · unfold pEntry at hp
    cases h1 : pBool b with
    | none => rw [h1] at hp; cases hp
    | some r =>
      rw [h1] at hp
      obtain ⟨t, b1⟩ := r
      obtain ⟨_, he⟩ := pBool_reads.back b t b1 hb h1
      have hb1 : AllB b1 := allB_tail (he ▸ hb)
      change (if t = true then some (noopEn, b1) else pSeal b1) = some (e, s) at hp
      cases t with
      | true =>
        rw [if_pos rfl] at hp
        cases hp
        exact ⟨by decide, by rw [he]; rfl⟩
      | false =>
        rw [if_neg (by decide)] at hp
        obtain ⟨⟨h2, h3⟩, h4⟩ := pSeal_reads.back b1 e s hb1 hp
        refine ⟨by unfold RightEn; rw [h2]; exact h3, ?_⟩
        unfold encEn
        rw [he, h4, h2, if_neg (by decide), List.append_assoc]
def pBal : Rdr (Int × Int) := pSeq (pNum 2147483647) (pNum 6)
theorem pBal_reads : Reads pBal (fun b => enc b.1.toNat ++ enc b.2.toNat) (fun b => RightBal b = true) :=
  ((pNum_reads (most := 2147483647) (by decide)).seq (pNum_reads (most := 6) (by decide))).same (fun b => by unfold RightBal; rw [Bool.and_eq_true]; exact ⟨fun h => ⟨decide_eq_true h.1, decide_eq_true h.2⟩, fun h => ⟨of_decide_eq_true h.1, of_decide_eq_true h.2⟩⟩) (fun _ _ => rfl)
/-- A vote. -/
abbrev VoD := Int × ((Int × Int) × En)
def encVoD (x : VoD) : List Int := enc x.1.toNat ++ (enc x.2.1.1.toNat ++ enc x.2.1.2.toNat) ++ encEn x.2.2
def RightVoD (x : VoD) : Bool := decide (0 ≤ x.1 ∧ x.1 ≤ 2147483647) && (RightBal x.2.1 && RightEn x.2.2)
def pVoted : Rdr VoD := pSeq (pNum 2147483647) (pSeq pBal pEntry)
theorem pVoted_reads : Reads pVoted encVoD (fun x => RightVoD x = true) :=
  ((pNum_reads (most := 2147483647) (by decide)).seq (pBal_reads.seq pEntry_reads)).same (fun x => by unfold RightVoD; rw [Bool.and_eq_true, Bool.and_eq_true]; exact ⟨fun h => ⟨decide_eq_true h.1, h.2⟩, fun h => ⟨of_decide_eq_true h.1, h.2⟩⟩) (fun x _ => by unfold encVoD; simp)
/-- An event. -/
def pEvent : Rdr Ev := pMap (fun t => ⟨t.1, t.2.1, t.2.2.1, t.2.2.2.1, t.2.2.2.2.1, t.2.2.2.2.2.1, t.2.2.2.2.2.2.1, t.2.2.2.2.2.2.2⟩) (pSeq (pNum 6) (pSeq (pNum 2147483647) (pSeq pVec (pSeq pName (pSeq (pNum 2147483647) (pSeq pName (pSeq (pNum 1000) pBool)))))))
theorem pEvent_reads : Reads pEvent encEvC (fun e => RightEvC e = true) := by
  refine ((pNum_reads (most := 6) (by decide)).seq ((pNum_reads (most := 2147483647) (by decide)).seq (pVec_reads.seq (pName_reads.seq ((pNum_reads (most := 2147483647) (by decide)).seq (pName_reads.seq ((pNum_reads (most := 1000) (by decide)).seq pBool_reads))))))).map _ (fun e => (e.o, e.s, e.deps, e.cart, e.epoch, e.sku, e.qty, e.clears)) (fun e he => ?_) (fun t ht => ?_)
  · unfold RightEvC at he
    simp only [Bool.and_eq_true] at he
    obtain ⟨h1, h2, h3, h4, h5, h6, h7⟩ := he
    exact ⟨rfl, ⟨of_decide_eq_true h1, of_decide_eq_true h2, h3, h4, of_decide_eq_true h5, h6, of_decide_eq_true h7, trivial⟩, by simp [encEvC]⟩
  · obtain ⟨h1, h2, h3, h4, h5, h6, h7, _⟩ := ht
    refine ⟨?_, by simp [encEvC]⟩
    unfold RightEvC
    simp only [Bool.and_eq_true]
    exact ⟨decide_eq_true h1, decide_eq_true h2, h3, h4, decide_eq_true h5, h6, decide_eq_true h7⟩
/-- A message without its places. -/
structure MsD where
  kind : Int
  frm : Int
  to : Int
  bal : Int × Int
  slot : Int
  en : En
  vs : List VoD
  seen : List Int
  evs : List Ev
  time : Int
def encMsD (x : MsD) : List Int := enc x.kind.toNat ++ enc x.frm.toNat ++ enc x.to.toNat ++ (enc x.bal.1.toNat ++ enc x.bal.2.toNat) ++ enc x.slot.toNat ++ encEn x.en ++ (enc x.vs.length ++ x.vs.flatMap encVoD) ++ encVC x.seen ++ (enc x.evs.length ++ x.evs.flatMap encEvC) ++ enc x.time.toNat
structure RightMsD (x : MsD) : Prop where
  k : 0 ≤ x.kind ∧ x.kind ≤ 255
  f : 0 ≤ x.frm ∧ x.frm ≤ 6
  t : 0 ≤ x.to ∧ x.to ≤ 6
  b : RightBal x.bal = true
  s : 0 ≤ x.slot ∧ x.slot ≤ 2147483647
  e : RightEn x.en = true
  v : x.vs.length ≤ 4096 ∧ ∀ y ∈ x.vs, RightVoD y = true
  n : rightVC x.seen = true
  w : x.evs.length ≤ 4096 ∧ ∀ y ∈ x.evs, RightEvC y = true
  i : 0 ≤ x.time ∧ x.time ≤ 4611686018427387904
def pMsg : Rdr MsD := pMap (fun t => ⟨t.1, t.2.1, t.2.2.1, t.2.2.2.1, t.2.2.2.2.1, t.2.2.2.2.2.1, t.2.2.2.2.2.2.1, t.2.2.2.2.2.2.2.1, t.2.2.2.2.2.2.2.2.1, t.2.2.2.2.2.2.2.2.2⟩) (pSeq (pNum 255) (pSeq (pNum 6) (pSeq (pNum 6) (pSeq pBal (pSeq (pNum 2147483647) (pSeq pEntry (pSeq (pList 4096 pVoted) (pSeq pVec (pSeq (pList 4096 pEvent) (pNum 4611686018427387904))))))))))
theorem pMsg_reads : Reads pMsg encMsD RightMsD := by
  refine ((pNum_reads (most := 255) (by decide)).seq ((pNum_reads (most := 6) (by decide)).seq ((pNum_reads (most := 6) (by decide)).seq (pBal_reads.seq ((pNum_reads (most := 2147483647) (by decide)).seq (pEntry_reads.seq ((pVoted_reads.list (most := 4096) (by decide)).seq (pVec_reads.seq ((pEvent_reads.list (most := 4096) (by decide)).seq (pNum_reads (most := 4611686018427387904) (by decide))))))))))).map _ (fun x => (x.kind, x.frm, x.to, x.bal, x.slot, x.en, x.vs, x.seen, x.evs, x.time)) (fun x hx => ?_) (fun t ht => ?_)
  · exact ⟨rfl, ⟨hx.k, hx.f, hx.t, hx.b, hx.s, hx.e, hx.v, hx.n, hx.w, hx.i⟩, by simp [encMsD]⟩
  · obtain ⟨h1, h2, h3, h4, h5, h6, h7, h8, h9, h10⟩ := ht
    exact ⟨⟨h1, h2, h3, h4, h5, h6, h7, h8, h9, h10⟩, by simp [encMsD]⟩
/-- What a message in memory says. -/
def VoM.d (x : VoM) : VoD := (x.slot, x.bal, x.en.e)
def MsM.d (x : MsM) : MsD := ⟨x.kind, x.frm, x.to, x.bal, x.slot, x.en.e, x.vs.map VoM.d, x.seen, x.evs.map (fun y => y.e), x.time⟩
theorem flatMap_mapR {α β : Type} (f : α → β) (g : β → List Int) : ∀ l : List α, (l.map f).flatMap g = l.flatMap (fun x => g (f x))
  | [] => rfl
  | x :: r => by rw [List.map_cons, List.flatMap_cons, List.flatMap_cons, flatMap_mapR f g r]
theorem encMs_d (x : MsM) : encMs x = encMsD x.d := by
  unfold encMs encMsD encVos encEvs
  simp only [MsM.d, List.length_map, flatMap_mapR]
  rfl
theorem rightMs_d {x : MsM} (h : RightMs x = true) : RightMsD x.d := by
  unfold RightMs RightVs RightEs at h
  simp only [Bool.and_eq_true, List.all_eq_true] at h
  obtain ⟨h1, h2, h3, h4, h5, h6, ⟨h7, h8⟩, h9, ⟨h10, h11⟩, h12⟩ := h
  refine ⟨of_decide_eq_true h1, of_decide_eq_true h2, of_decide_eq_true h3, h4, of_decide_eq_true h5, h6, ⟨?_, ?_⟩, h9, ⟨?_, ?_⟩, of_decide_eq_true h12⟩
  · show (x.vs.map VoM.d).length ≤ 4096
    rw [List.length_map]
    exact of_decide_eq_true h7
  · intro y hy
    obtain ⟨z, hz, rfl⟩ := List.mem_map.1 hy
    exact h8 z hz
  · show (x.evs.map (fun y => y.e)).length ≤ 4096
    rw [List.length_map]
    exact of_decide_eq_true h10
  · intro y hy
    obtain ⟨z, hz, rfl⟩ := List.mem_map.1 hy
    exact h11 z hz
end Go.Proofs.YtfmnbehopdmahaaGreat
/-
  What is written is bytes; the two forms of an event's bytes are one.
-/
namespace Go.Proofs.YtfmnbehopdmahaaGreat
open Go.RowKit Go.Maps

theorem encByP (x : Nat) : AllB (enc x) := enc_byte x
theorem encNC_byP : ∀ v : List Int, AllB (encNC v)
  | [] => fun c h => (by cases h)
  | x :: r => (encByP _).append (encNC_byP r)
theorem encVC_byP (v : List Int) : AllB (encVC v) := (encByP _).append (encNC_byP v)
theorem encText_byP (s : ByteArray) : AllB (encText s) := (encByP _).append (strNums_byte s)
theorem encBC_byP (b : Bool) : AllB (encBC b) := fun c h => by cases b <;> simp [encBC] at h <;> omega
theorem encSe_byP (e : En) : AllB (encSe e) := (((encText_byP _).append (encText_byP _)).append (encByP _)).append (encVC_byP _)
theorem encEn_byP (e : En) : AllB (encEn e) := (encBC_byP _).append (by split; exact fun c h => (by cases h); exact encSe_byP e)
theorem encVo_byP (x : VoM) : AllB (encVo x) := ((encByP _).append ((encByP _).append (encByP _))).append (encEn_byP _)
theorem encEvC_byP (e : Ev) : AllB (encEvC e) := (((((((encByP _).append (encByP _)).append (encVC_byP _)).append (encText_byP _)).append (encByP _)).append (encText_byP _)).append (encByP _)).append (encBC_byP _)
theorem encMs_byP (x : MsM) : AllB (encMs x) := by
  have h1 : AllB (encVos x.vs) := (encByP _).append (fun c h => by obtain ⟨y, _, hy⟩ := List.mem_flatMap.1 h; exact encVo_byP y c hy)
  have h2 : AllB (encEvs x.evs) := (encByP _).append (fun c h => by obtain ⟨y, _, hy⟩ := List.mem_flatMap.1 h; exact encEvC_byP y.e c hy)
  exact (((((((((encByP _).append (encByP _)).append (encByP _)).append ((encByP _).append (encByP _))).append (encByP _)).append (encEn_byP _)).append h1).append (encVC_byP _)).append h2).append (encByP _)
theorem encN_same : ∀ v : List Int, encN v = encNC v
  | [] => rfl
  | x :: r => by simp only [encN, encNC, encN_same r]
theorem encEv_same (e : Ev) : encEv e = encEvC e := by
  unfold encEv encEvC encV encVC
  rw [encN_same]
  rfl
theorem rightEv_same (e : Ev) : RightEv e = RightEvC e := rfl
end Go.Proofs.YtfmnbehopdmahaaGreat
/-
  The document's writers (pannierref01): rows of bytes of their own, appended to each other in regions that draw their order.
-/
namespace Go.Proofs.YtfmnbehopdmahaaGreat
open Go.RowKit Go.Maps
attribute [local go_sem] Oper.semAt_some

/-- A row of bytes of its own, in the block g. -/
structure Rw (B : Nat) (V : World) (g : Nat) (v : Value) (bs : List Int) : Prop where
  own : V.ownsRow B 5 1 v bs.length (nums bs)
  blk : v.ownBlock = some g
  byte : AllB bs
  pos : 0 < bs.length
section
variable {B g h : Nat} {V V' : World} {v : Value} {bs : List Int}
theorem Rw.lt (r : Rw B V g v bs) : g < V.heap.size := (r.own.lt g r.blk).2
theorem Rw.dr (r : Rw B V g v bs) : Rw B V.drew g v bs := ⟨r.own, r.blk, r.byte, r.pos⟩
theorem Rw.below (r : Rw B V g v bs) (hb : Below V.heap.size V V') : Rw B V' g v bs := ⟨ownsRow_below r.own hb (Nat.le_refl _), r.blk, r.byte, r.pos⟩
theorem Rw.grown (r : Rw B V g v bs) (hg : V.grownBy V' (some h)) (hne : g ≠ h) : Rw B V' g v bs := by
  refine ⟨?_, r.blk, r.byte, r.pos⟩
  refine (Turns.of_grown (F := fun k => k = h) hg fun k hk => by simpa using hk.symm).row r.own ?_
  intro k hk
  rw [r.blk] at hk
  injection hk with hk
  subst hk
  exact hne
theorem Rw.form (r : Rw B V g v bs) : ∃ c, v = .slice (some ⟨g, 0, none⟩) bs.length c ∧ bs.length ≤ c := by
  have hp := r.pos
  rcases r.own.2 with ⟨_, h0⟩ | ⟨g', cap, cur, hv, _, _, hc, _⟩
  · omega
  · have hb := r.blk
    rw [hv] at hb
    have : g' = g := by simpa [Value.ownBlock] using hb
    subst this
    exact ⟨cap, hv, by omega⟩
theorem Rw.held (r : Rw B V g v bs) : ∃ c, v = .slice (some ⟨g, 0, none⟩) bs.length c ∧ Held V (some ⟨g, 0, none⟩) bs.length c bs := by
  obtain ⟨ao, cp, hv, hh⟩ := held_of_own r.own r.byte
  obtain ⟨c, hv', _⟩ := r.form
  have e := hv.symm.trans hv'
  injection e with e1 e2 e3
  subst e1 e3
  exact ⟨cp, hv, hh⟩
end
/-- What a writer's call leaves: a new row, and the rows that were. -/
def EncP (B : Nat) (W V : World) (bs : List Int) (e : Ending) (w' : World) : Prop := ∃ v g, e = .returned v ∧ Hid (Rw B w' g v bs) ∧ Below B W w' ∧ Hid (∀ g0 v0 bs0, Rw B V g0 v0 bs0 → Rw B w' g0 v0 bs0 ∧ g0 ≠ g)
/-- What a writer answers. -/
def WrP (bs : List Int) (w : World) (e : Ending) (w' : World) : Prop := ∃ v, e = .returned v ∧ w'.ownsRow w.heap.size 5 1 v bs.length (nums bs) ∧ Below w.heap.size w w'
theorem enc_step {P : Program} {f : FuncId} {args : Array Value} {B : Nat} {W V : World} {bs : List Int} (h : Calls P f args V (WrP bs V)) (hb : AllB bs) (hp : 0 < bs.length) (hV : Below B W V) (hB : B ≤ W.heap.size) : Calls P f args V (EncP B W V bs) := by
  refine h.mono ?_
  rintro e w' ⟨v, rfl, ho, hbel⟩
  have hs := hV.size
  have hBV : B ≤ V.heap.size := Nat.le_trans hB hs
  obtain ⟨g, c, hv, hg, hlt⟩ := World.ownsRow.form ho hp
  have hk : v.ownBlock = some g := by rw [hv]; rfl
  refine ⟨v, g, rfl, ⟨ownsRow_base ho hBV, hk, hb, hp⟩, hV.trans (hbel.mono hBV), ?_⟩
  intro g0 v0 bs0 r0
  refine ⟨r0.below hbel, ?_⟩
  have := r0.lt
  omega
theorem Rw.alloc {B g : Nat} {V : World} {v : Value} {bs : List Int} (r : Rw B V g v bs) (o : Obj) : Rw B (V.alloc o) g v bs := ⟨r.own.alloc _, r.blk, r.byte, r.pos⟩
/-- A byte in a block of its own. -/
theorem Rw.one {B : Nat} (V : World) (c : Int) (hc : 0 ≤ c ∧ c ≤ 255) (hB : B ≤ V.heap.size) : Rw B (V.alloc (.cells #[.int .u8 c] 5)) V.heap.size (.slice (some ⟨V.heap.size, 0, none⟩) 1 1) [c] :=
  ⟨⟨rfl, .inr ⟨V.heap.size, 1, #[.int .u8 c], rfl, hB, heap_alloc_new V _, Nat.le_refl _, by unfold maxLen; omega, rfl, rfl⟩⟩, rfl, fun x hx => by simp at hx; omega, Nat.one_pos⟩
/-- What an append leaves. -/
def AppQ (B : Nat) (W V : World) (g : Nat) (bs : List Int) (v' : Value) (w' : World) : Prop := ∃ g', Hid (Rw B w' g' v' bs) ∧ Below B W w' ∧ Hid (∀ g0 v0 bs0, Rw B V g0 v0 bs0 → g0 ≠ g → Rw B w' g0 v0 bs0)
theorem appQ_of {B : Nat} {W V w' : World} {g g' cap : Nat} {v : Value} {bs bs1 : List Int} (hR : Rw B V g v bs) (hb1 : AllB bs1) (hV : Below B W V) (hB : B ≤ W.heap.size)
    (hown : w'.ownsRow B 5 1 (.slice (some ⟨g', 0, none⟩) (bs.length + bs1.length) cap) (bs.length + bs1.length) (nums bs ++ nums bs1)) (hgrow : V.grownBy w' v.ownBlock) : AppQ B W V g (bs ++ bs1) (.slice (some ⟨g', 0, none⟩) (bs.length + bs1.length) cap) w' := by
  have hBV : B ≤ V.heap.size := Nat.le_trans hB hV.size
  have hp := hR.pos
  rw [hR.blk] at hgrow
  refine ⟨g', ⟨by rw [nums_append, List.length_append]; exact hown, rfl, hR.byte.append hb1, by rw [List.length_append]; omega⟩, hV.trans ((Below.refl _ _).grown hgrow hBV (fun k hk => ?_)), ?_⟩
  · exact (hR.own.lt k (by rw [hR.blk]; exact hk)).1
  · intro g0 v0 bs0 r0 hne
    exact r0.grown hgrow hne
theorem step_append_rw {ops : Array Oper} {o : Oper} {a : Act} {K : Act → World → Prop} {Q : Exit → Act → World → Prop} {E : Prop} (V : World) (hgd : o.guard = none) (s x : Operand)
    (ho : o.op = .call { callee := .builtin .append, args := #[s, x], argTypes := #[66, 66] })
    (B : Nat) (W : World) (g g1 : Nat) (v v1 : Value) (bs bs1 : List Int) (hs : a.eval s = v) (hx : a.eval x = v1) (hR : Rw B V g v bs) (hR1 : Rw B V g1 v1 bs1) (hsum : bs.length + bs1.length ≤ 140737488355328) (hV : Below B W V) (hB : B ≤ W.heap.size)
    (h : ∀ v' w', AppQ B W V g (bs ++ bs1) v' w' → K (a.put o.dst v') w') :
    if Region.wanted o (yielded ops a.tmps) = true then Oper.wp Tryz.prog o a V K Q else E := by
  obtain ⟨i0, hi, hz0, hz1, hz2⟩ := info_parts Tryz.info5
  obtain ⟨c1, hv1, hh1⟩ := hR1.held
  have hp1 := hR1.pos
  refine step_append_lies V hgd s x 66 ho B 5 i0 (.int .u8 0) 1 1 Tryz.underlying66 hi hz0 hz1 hz2 rfl (by decide) v bs.length (nums bs) hs hR.own ⟨g1, 0, none⟩ bs1.length c1 (nums bs1) (hx.trans hv1) (by rw [nums_len]; omega) (hh1.news _ rfl) (nums_one bs1) hp1 (by unfold maxLen; omega) (by omega) (Nat.le_trans hB hV.size) _ rfl ?_
  intro g' cap w' hown hgrow _ _
  exact h _ w' (appQ_of hR hR1.byte hV hB hown hgrow)
theorem wpList_append_rw {ops : Array Oper} {rest : List Oper} {o : Oper} {a : Act} {Q : Exit → Act → World → Prop} (V : World) (hgd : o.guard = none) (s x : Operand)
    (ho : o.op = .call { callee := .builtin .append, args := #[s, x], argTypes := #[66, 66] })
    (B : Nat) (W : World) (g g1 : Nat) (v v1 : Value) (bs bs1 : List Int) (hs : a.eval s = v) (hx : a.eval x = v1) (hR : Rw B V g v bs) (hR1 : Rw B V g1 v1 bs1) (hsum : bs.length + bs1.length ≤ 140737488355328) (hV : Below B W V) (hB : B ≤ W.heap.size)
    (h : ∀ v' w', AppQ B W V g (bs ++ bs1) v' w' → wpList Tryz.prog ops Q rest (a.put o.dst v') w') : wpList Tryz.prog ops Q (o :: rest) a V := by
  obtain ⟨i0, hi, hz0, hz1, hz2⟩ := info_parts Tryz.info5
  obtain ⟨c1, hv1, hh1⟩ := hR1.held
  have hp1 := hR1.pos
  refine wpList_append_lies V hgd s x 66 ho B 5 i0 (.int .u8 0) 1 1 Tryz.underlying66 hi hz0 hz1 hz2 rfl (by decide) v bs.length (nums bs) hs hR.own ⟨g1, 0, none⟩ bs1.length c1 (nums bs1) (hx.trans hv1) (by rw [nums_len]; omega) (hh1.news _ rfl) (nums_one bs1) hp1 (by unfold maxLen; omega) (by omega) (Nat.le_trans hB hV.size) _ rfl ?_
  intro g' cap w' hown hgrow _ _
  exact h _ w' (appQ_of hR hR1.byte hV hB hown hgrow)
theorem below_dr1 {B : Nat} {W V : World} (h : Below B W V) : Below B W V.drew := below_dn h 1
end Go.Proofs.YtfmnbehopdmahaaGreat
/-
  The document's writer of a vector (pannierref01.vector).
-/
namespace Go.Proofs.YtfmnbehopdmahaaGreat
open Go.RowKit Go.Maps
attribute [local go_sem] Oper.semAt_some

set_option maxRecDepth 100000 in
set_option maxHeartbeats 1000000 in
theorem rvectorW (w : World) (ao : Option Addr) (cap : Nat) (v : List Int) (m : Nat) (hm : v.length = m) (hv : HV w ao cap v) (h7 : m ≤ 7) (hin : InVC v) :
    Calls Tryz.prog 70 #[.slice ao m cap] w (WrP (encVC v) w) := by
  have l0 := enc_le10 (x := m) (by omega)
  have hwr : IntKind.u64.wrap (m : Int) = (m : Int) := by rw [IntKind.wrap_u64]; omega
  have HBL : Hid (w.heap.size ≤ w.heap.size) := Nat.le_refl _
  have HA : Hid (Calls Tryz.prog 67 #[.int .u64 (m : Int)] w (EncP w.heap.size w w (enc m))) := by
    have h := refUint_any (m : Int) w (by omega) (by omega)
    rw [Int.toNat_natCast] at h
    exact enc_step h (enc_byte _) (enc_pos _) (Below.refl _ _) (Nat.le_refl _)
  have HM := hid hm
  have HVV := hid hv
  have HIN := hid hin
  have HL0 := hid l0
  clear hm hv hin l0
  go_enter Tryz.func70, Tryz.ntmps70
  go_wp2_with fail
  refine HA.out.mono ?_
  rintro e w1 ⟨v1, g1, rfl, hr1, hb1, hk1⟩
  have HB1 := hid hb1
  clear hb1 hk1 HA
  go_wp2
  go_loopw [3, 4] (fun b i wr => ∃ k : Nat, k ≤ m ∧ i = .int .i64 k ∧ ∃ g, Hid (Rw w.heap.size wr g b (enc m ++ encNC (v.take k)) ∧ Below w.heap.size w wr)) (fun _ i _ => m - (intOf i).toNat)
  case atStart => exact ⟨0, Nat.zero_le _, rfl, g1, by rw [List.take_zero]; show Rw _ _ _ _ (enc m ++ []); rw [List.append_nil]; exact hr1.out, HB1.out⟩
  case round =>
    obtain ⟨k, hk, rfl, g, HR⟩ := hrel
    by_cases hlt : k < m
    · have hlt' : (k : Int) < (m : Int) := by omega
      have hkx : Hid (k < v.length) := (by rw [HM.out]; exact hlt : k < v.length)
      have HKM : Hid (k + 1 ≤ m) := (by omega : k + 1 ≤ m)
      rcases (HVV.out.below HR.out.2).held.2 with h0 | ⟨b, off, hao, hb, hc⟩
      · exfalso
        have := hkx.out
        rw [h0] at this
        cases this
      have gk := hc k hkx.out
      have HX2 := hid (HIN.out _ (getD_mem hkx.out))
      have HTK := hid (encN_takeC hkx.out)
      have HLN : Hid ((encNC (v.take k)).length ≤ 70) := by
        have h1 := encN_lenC (inV_takeC HIN.out k)
        have h2 : (v.take k).length ≤ 7 := by rw [List.length_take]; omega
        show _ ≤ _
        omega
      subst hao
      clear hc
      obtain ⟨X, HX⟩ : ∃ X, Hid (v.getD k 0 = X) := ⟨_, hid rfl⟩
      rw [HX.out] at gk HX2 HTK
      have hwx : IntKind.u64.wrap X = X := by have := HX2.out; rw [IntKind.wrap_u64]; omega
      have HAN : Hid (Calls Tryz.prog 67 #[.int .u64 X] wr (EncP w.heap.size w wr (enc X.toNat))) := by
        have h := refUint_any X wr HX2.out.1 (by have := HX2.out; omega)
        exact enc_step h (enc_byte _) (enc_pos _) HR.out.2 (Nat.le_refl _)
      have HLX : Hid ((enc X.toNat).length ≤ 10) := enc_le10 (by have := HX2.out; omega)
      have HSM : Hid ((enc m ++ encNC (v.take k)).length + (enc X.toNat).length ≤ 140737488355328) := by
        have h1 := HLN.out
        have h2 := HLX.out
        have h3 := HL0.out
        show _ ≤ _
        rw [List.length_append]
        omega
      go_wp2_with fail
      refine HAN.out.mono ?_
      rintro e w2 ⟨v2, g2, rfl, hr2, hb2, hk2⟩
      go_wp2_with (at_builtin; refine wpList_append_rw _ rfl _ _ rfl w.heap.size w g g2 u3 v2 _ _ rfl rfl (hk2.out _ _ _ HR.out.1).1 hr2.out HSM.out hb2 HBL.out ?_; rintro v3 w3 ⟨g3, hr3, hb3, hk3⟩)
      have HB3 := hid hb3
      clear hb2 hb3 HAN
      go_wp2
      go_roundw
      case rel =>
        refine ⟨k + 1, HKM.out, by go_num, g3, ?_, HB3.out⟩
        rw [HTK.out, ← List.append_assoc]
        exact hr3.out
      case measure => simp [intOf]; have := HKM.out; omega
    · have hlt' : ¬ (k : Int) < (m : Int) := by omega
      have hke : Hid (v.take k = v) := by show _ = _; rw [List.take_of_length_le]; have := HM.out; omega
      rw [hke.out] at HR
      have HE : Hid (∃ g, Rw w.heap.size wr g u3 (encVC v)) := by
        refine ⟨g, ?_⟩
        unfold encVC
        rw [HM.out]
        exact HR.out.1
      go_wp2
      go_ret
      obtain ⟨_, he⟩ := HE.out
      exact ⟨_, rfl, he.own, HR.out.2⟩
end Go.Proofs.YtfmnbehopdmahaaGreat
