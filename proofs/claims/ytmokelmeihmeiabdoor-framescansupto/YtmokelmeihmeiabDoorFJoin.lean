/-
  Plain mathematics of frames, one behind the other: what is told of them ('pays', 'endP'), of frames that are cut off, and of frames put again. No function of the program is named here.
-/
import Derived.Test.YtmokelmeihmeiabDoorFEnd
namespace Go.Proofs.YtmokelmeihmeiabDoor
open Go.RowKit

def paysF : Nat → List Int → List ByteArray
  | 0, _ => []
  | f + 1, bs => match fstOf bs with
    | none => []
    | some p => strOfNums p :: paysF f (bs.drop (8 + p.length))
def endF : Nat → List Int → Nat
  | 0, _ => 0
  | f + 1, bs => match fstOf bs with
    | none => 0
    | some p => 8 + p.length + endF f (bs.drop (8 + p.length))
/-- The payloads of the frames of bytes. -/
def pays (bs : List Int) : List ByteArray := paysF bs.length bs
/-- How many bytes these frames have. -/
def endP (bs : List Int) : Nat := endF bs.length bs

theorem scanFrom_pays : ∀ (f k : Nat) (bs : List Int), (scanFrom f k bs).map (·.2) = paysF f (bs.drop k)
  | 0, _, _ => rfl
  | f + 1, k, bs => by
    unfold scanFrom paysF
    cases hf : fstOf (bs.drop k) with
    | none => rfl
    | some p =>
      simp only [List.map_cons, List.drop_drop]
      rw [scanFrom_pays f (k + 8 + p.length) bs, show k + 8 + p.length = k + (8 + p.length) by omega]
theorem endFrom_pays : ∀ (f k : Nat) (bs : List Int), endFrom f k bs = k + endF f (bs.drop k)
  | 0, _, _ => rfl
  | f + 1, k, bs => by
    unfold endFrom endF
    cases hf : fstOf (bs.drop k) with
    | none => rfl
    | some p =>
      simp only [List.drop_drop]
      rw [endFrom_pays f (k + 8 + p.length) bs, show k + 8 + p.length = k + (8 + p.length) by omega, Nat.add_assoc]
theorem scan_pays (bs : List Int) : (scanAll bs).map (·.2) = pays bs := by
  have := scanFrom_pays bs.length 0 bs
  simpa [scanAll, pays] using this
theorem end_pays (bs : List Int) : endN bs = endP bs := by
  have := endFrom_pays bs.length 0 bs
  simpa [endN, endP] using this

theorem paysF_fuel : ∀ (f g : Nat) (bs : List Int), bs.length ≤ f → bs.length ≤ g → paysF f bs = paysF g bs ∧ endF f bs = endF g bs
  | 0, g, bs, hf, _ => by
    have : bs = [] := List.eq_nil_of_length_eq_zero (by omega)
    subst this
    cases g with
    | zero => exact ⟨rfl, rfl⟩
    | succ g => exact ⟨rfl, rfl⟩
  | f + 1, 0, bs, _, hg => by
    have : bs = [] := List.eq_nil_of_length_eq_zero (by omega)
    subst this
    exact ⟨rfl, rfl⟩
  | f + 1, g + 1, bs, hf, hg => by
    unfold paysF endF
    cases h : fstOf bs with
    | none => exact ⟨rfl, rfl⟩
    | some p =>
      have := paysF_fuel f g (bs.drop (8 + p.length)) (by simp only [List.length_drop]; omega) (by simp only [List.length_drop]; omega)
      simp only
      rw [this.1, this.2]
      exact ⟨rfl, rfl⟩

theorem pays_none {bs : List Int} (h : fstOf bs = none) : pays bs = [] ∧ endP bs = 0 := by
  unfold pays endP
  cases bs with
  | nil => exact ⟨rfl, rfl⟩
  | cons b r => simp [paysF, endF, h]
theorem pays_some {bs p : List Int} (h : fstOf bs = some p) : pays bs = strOfNums p :: pays (bs.drop (8 + p.length)) ∧ endP bs = 8 + p.length + endP (bs.drop (8 + p.length)) := by
  have h8 := (fst_some h).1
  unfold pays endP
  obtain ⟨n, hn⟩ : ∃ n, bs.length = n + 1 := ⟨bs.length - 1, by omega⟩
  rw [hn]
  have := paysF_fuel n (bs.drop (8 + p.length)).length (bs.drop (8 + p.length)) (by simp only [List.length_drop]; omega) (Nat.le_refl _)
  rw [← this.1, ← this.2]
  simp [paysF, endF, h]

theorem be4_rd4 {bs : List Int} (hb : AllB bs) (h : 4 ≤ bs.length) : be4 (rd4 bs) = bs.take 4 := by
  match bs, h with
  | a :: b :: c :: d :: r, _ =>
    have ha := hb a (by simp)
    have hb' := hb b (by simp)
    have hc := hb c (by simp)
    have hd := hb d (by simp)
    simp only [be4, rd4, List.getD_cons_zero, List.getD_cons_succ, List.take_succ_cons, List.take_zero, List.cons.injEq, and_true]
    refine ⟨?_, ?_, ?_, ?_⟩ <;> omega

theorem take_split {bs : List Int} {n : Nat} (h : 8 + n ≤ bs.length) : bs.take (8 + n) = bs.take 4 ++ (bs.drop 4).take 4 ++ (bs.take (8 + n)).drop 8 := by
  apply List.ext_getElem?
  intro i
  simp only [List.append_assoc, List.getElem?_append, List.length_take, List.length_drop, List.getElem?_take, List.getElem?_drop]
  have e1 : min 4 bs.length = 4 := by omega
  have e2 : min 4 (bs.length - 4) = 4 := by omega
  rw [e1, e2]
  by_cases h1 : i < 4
  · simp [h1]; omega
  · by_cases h2 : i - 4 < 4
    · rw [if_neg h1, if_pos h2, if_pos (by omega), if_pos h2]
      congr 1; omega
    · rw [if_neg h1, if_neg h2]
      congr 1
      · simp; omega
      · congr 1; omega

/-- The frame with which bytes begin is its payload's. -/
theorem fst_frame {bs p : List Int} (hb : AllB bs) (h : fstOf bs = some p) : bs.take (8 + p.length) = frameOf p ∧ p.length ≤ 65536 ∧ AllB p := by
  obtain ⟨h8, hn, hn2, hs, hp, hl⟩ := fst_some h
  have hpb : AllB p := by rw [hp]; exact (hb.take _).drop _
  refine ⟨?_, by omega, hpb⟩
  have t4 := be4_rd4 hb (by omega)
  have t8 := be4_rd4 (hb.drop 4) (by simp only [List.length_drop]; omega)
  rw [hl, take_split hn2]
  unfold frameOf
  rw [hl, t4, ← hs, t8, ← hp]

theorem fst_of_frame {p r : List Int} (hb : AllB p) (hl : p.length ≤ 65536) : fstOf (frameOf p ++ r) = some p := by
  have hr : rd4 (frameOf p ++ r) = p.length := by
    unfold frameOf
    rw [List.append_assoc, List.append_assoc]
    exact rd4_be (by omega) _
  have hc : crc (be4 p.length ++ p) < 4294967296 := crc_lt ((be4_byte (by omega)).append hb)
  have hd : (frameOf p ++ r).drop 4 = be4 (crc (be4 p.length ++ p)) ++ (p ++ r) := by
    unfold frameOf
    simp [be4]
  have ht : (frameOf p ++ r).take 4 = be4 p.length := by
    unfold frameOf
    simp [be4]
  have hq : ((frameOf p ++ r).take (8 + p.length)).drop 8 = p := by
    have : (frameOf p ++ r).take (8 + p.length) = frameOf p := by
      rw [List.take_append_of_le_length (by rw [frameOf_len]; exact Nat.le_refl _), List.take_of_length_le (by rw [frameOf_len]; exact Nat.le_refl _)]
    rw [this]
    unfold frameOf
    simp [be4]
  unfold fstOf
  rw [hr, hd, ht, hq, rd4_be hc]
  rw [if_neg (by simp only [List.length_append, frameOf_len]; omega), if_pos rfl]

/-- All payloads' frames, one behind the other. -/
def framesOf (ls : List ByteArray) : List Int := (ls.map fun s => frameOf (strNums s)).flatten
theorem framesOf_nil : framesOf [] = [] := rfl
theorem framesOf_cons (s : ByteArray) (ls : List ByteArray) : framesOf (s :: ls) = frameOf (strNums s) ++ framesOf ls := by simp [framesOf]
theorem framesOf_append (a b : List ByteArray) : framesOf (a ++ b) = framesOf a ++ framesOf b := by simp [framesOf]

theorem strOf_nums (s : ByteArray) : strOfNums (strNums s) = s := by
  unfold strOfNums strNums
  cases s with
  | mk d => simp [List.map_map, Function.comp_def]

theorem frame_drop (p r : List Int) : (frameOf p ++ r).drop (8 + p.length) = r := by
  have : (8 + p.length) = (frameOf p).length := by rw [frameOf_len]
  rw [this, List.drop_left]

/-- The frames of frames and further bytes. -/
theorem pays_join : ∀ (ls : List ByteArray) (r : List Int), (∀ s ∈ ls, s.size ≤ 65536) → pays (framesOf ls ++ r) = ls ++ pays r ∧ endP (framesOf ls ++ r) = (framesOf ls).length + endP r
  | [], r, _ => by simp [framesOf]
  | s :: ls, r, h => by
    have hs := h s (by simp)
    have ih := pays_join ls r (fun x hx => h x (by simp [hx]))
    rw [framesOf_cons, List.append_assoc]
    have h1 := pays_some (fst_of_frame (r := framesOf ls ++ r) (strNums_byte s) (by rw [strNums_len]; exact hs))
    rw [frame_drop, strOf_nums] at h1
    rw [h1.1, h1.2, ih.1, ih.2]
    refine ⟨by simp, ?_⟩
    simp only [List.length_append, frameOf_len]
    omega

/-- Payloads, put again. -/
theorem again_pays : ∀ (n : Nat) (bs : List Int), bs.length ≤ n → AllB bs → framesOf (pays bs) = bs.take (endP bs) ∧ ∀ s ∈ pays bs, s.size ≤ 65536
  | n, bs, hn, hb => by
    cases hf : fstOf bs with
    | none =>
      have := pays_none hf
      rw [this.1, this.2]
      exact ⟨by simp [framesOf], fun s hs => by cases hs⟩
    | some p =>
      obtain ⟨ht, hl, hp⟩ := fst_frame hb hf
      have hs := pays_some hf
      have h8 := (fst_some hf).1
      match n, hn with
      | 0, hn => omega
      | n + 1, hn =>
        have ih := again_pays n (bs.drop (8 + p.length)) (by simp only [List.length_drop]; omega) (hb.drop _)
        rw [hs.1, hs.2, framesOf_cons, strNums_of hp, ← ht, ih.1]
        refine ⟨(List.take_add (i := 8 + p.length)).symm, ?_⟩
        intro s hs'
        rcases List.mem_cons.1 hs' with rfl | hs'
        · rw [strOf_size]; exact hl
        · exact ih.2 s hs'
termination_by n => n

/-- A frame that is cut off. -/
theorem fst_cut {p : List Int} (hl : p.length ≤ 65536) (r : List Int) {k : Nat} (hk : k < 8 + p.length) : fstOf ((frameOf p ++ r).take k) = none := by
  unfold fstOf
  rw [if_pos]
  by_cases h8 : k < 8
  · left; simp only [List.length_take]; omega
  · right; right
    have hr : rd4 ((frameOf p ++ r).take k) = p.length := by
      have : (frameOf p ++ r).take k = be4 p.length ++ ((be4 (crc (be4 p.length ++ p)) ++ (p ++ r)).take (k - 4)) := by
        unfold frameOf
        rw [List.append_assoc, List.append_assoc, List.take_append, be4_len, List.take_of_length_le (by rw [be4_len]; omega)]
      rw [this]
      exact rd4_be (by omega) _
    rw [hr]
    simp only [List.length_take]
    omega

/-- How many of the frames are whole in the first k bytes. -/
def wholeN : List ByteArray → Nat → Nat
  | [], _ => 0
  | s :: ls, k => if 8 + s.size ≤ k then wholeN ls (k - (8 + s.size)) + 1 else 0
theorem wholeN_le : ∀ (ls : List ByteArray) (k : Nat), wholeN ls k ≤ ls.length
  | [], _ => Nat.le_refl _
  | s :: ls, k => by
    unfold wholeN
    split
    · have := wholeN_le ls (k - (8 + s.size)); simp only [List.length_cons]; omega
    · exact Nat.zero_le _

/-- Frames that are cut off anywhere. -/
theorem pays_cut : ∀ (ls : List ByteArray) (k : Nat), (∀ s ∈ ls, s.size ≤ 65536) → pays ((framesOf ls).take k) = ls.take (wholeN ls k) ∧ endP ((framesOf ls).take k) = (framesOf (ls.take (wholeN ls k))).length
  | [], k, _ => by simp [framesOf, pays, endP, paysF, endF, wholeN]
  | s :: ls, k, h => by
    have hs := h s (by simp)
    have hl : (strNums s).length ≤ 65536 := by rw [strNums_len]; exact hs
    have ih := pays_cut ls (k - (8 + s.size)) (fun x hx => h x (by simp [hx]))
    unfold wholeN
    by_cases hk : 8 + s.size ≤ k
    · rw [if_pos hk, framesOf_cons, List.take_append, List.take_of_length_le (by rw [frameOf_len, strNums_len]; omega), frameOf_len, strNums_len]
      have h1 := pays_some (fst_of_frame (r := (framesOf ls).take (k - (8 + s.size))) (strNums_byte s) hl)
      rw [frame_drop, strOf_nums] at h1
      rw [h1.1, h1.2, ih.1, ih.2, List.take_succ_cons, framesOf_cons]
      simp [frameOf_len, strNums_len]
    · rw [if_neg hk, framesOf_cons]
      have := pays_none (fst_cut hl (framesOf ls) (k := k) (by rw [strNums_len]; omega))
      rw [this.1, this.2]
      simp [framesOf]

theorem frames_len_take (ls : List ByteArray) (i : Nat) (h : i < ls.length) : (framesOf (ls.take (i + 1))).length = (framesOf (ls.take i)).length + (8 + (ls.getD i ByteArray.empty).size) := by
  rw [List.take_succ_eq_append_getElem h, framesOf_append]
  simp [framesOf, frameOf_len, strNums_len, List.getD, List.getElem?_eq_getElem h]

/-- 'wholeN' is what the loop over the ends counts. -/
theorem wholeN_eq : ∀ (ls : List ByteArray) (k m : Nat), m ≤ ls.length → (m = 0 ∨ (framesOf (ls.take m)).length ≤ k) → (m = ls.length ∨ k < (framesOf (ls.take (m + 1))).length) → wholeN ls k = m
  | [], k, m, hm, _, _ => by
    have : m = 0 := by simpa using hm
    subst this; rfl
  | s :: ls, k, 0, _, _, h2 => by
    unfold wholeN
    rw [if_neg]
    rcases h2 with h2 | h2
    · simp at h2
    · simp [framesOf, frameOf_len, strNums_len] at h2; omega
  | s :: ls, k, m + 1, hm, h1, h2 => by
    have e1 : (framesOf ((s :: ls).take (m + 1))).length = 8 + s.size + (framesOf (ls.take m)).length := by
      rw [List.take_succ_cons, framesOf_cons]; simp [frameOf_len, strNums_len]
    have e2 : (framesOf ((s :: ls).take (m + 1 + 1))).length = 8 + s.size + (framesOf (ls.take (m + 1))).length := by
      rw [List.take_succ_cons, framesOf_cons]; simp [frameOf_len, strNums_len]
    rw [e1] at h1
    rw [e2] at h2
    simp only [List.length_cons] at hm h2
    unfold wholeN
    rw [if_pos (by omega), wholeN_eq ls (k - (8 + s.size)) m (by omega) (by omega) (by omega)]

theorem frames_len_bulk (ls : List ByteArray) (i : Nat) : (framesOf (ls.take i)).length ≤ (framesOf ls).length := by
  conv => rhs; rw [← List.take_append_drop i ls, framesOf_append]
  simp
theorem framesOf_byte : ∀ {ls : List ByteArray}, (∀ s ∈ ls, s.size ≤ 65536) → AllB (framesOf ls)
  | [], _ => fun c hc => by simp [framesOf] at hc
  | s :: ls, h => by
    rw [framesOf_cons]
    exact (frameOf_byte (strNums_byte s) (by rw [strNums_len]; have := h s (by simp); omega)).append (framesOf_byte fun x hx => h x (by simp [hx]))
end Go.Proofs.YtmokelmeihmeiabDoor
