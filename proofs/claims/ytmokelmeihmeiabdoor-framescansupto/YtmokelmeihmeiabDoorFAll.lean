/-
  frame.All at a slice that is not nil: an iterator over a copy of its bytes; nothing that was there is written. And where frames stand: each place is the end of what stands ahead.
-/
import Derived.Test.YtmokelmeihmeiabDoorFLives
import Derived.Test.YtmokelmeihmeiabDoorFJoin
namespace Go.Proofs.YtmokelmeihmeiabDoor
open Go.RowKit

theorem clone_any (ad : Addr) (len cap : Nat) (bs : List Int) (w : World) (h : Held w (some ad) len cap bs) (hl : len ≤ 1000000000) :
    Calls Tryd.prog 22 #[.slice (some ad) len cap] w fun e w' => ∃ co cc, e = .returned (.slice co len cc) ∧ Held w' co len cc bs ∧ Below w.heap.size w w' ∧ ∀ a, co = some a → w.heap.size ≤ a.block := by
  obtain ⟨i0, hi, hz0, hz1, hz2⟩ := info_parts Tryd.info5
  have HH := hid h
  clear h
  have hba : Below w.heap.size w (w.alloc (.cells #[] 5)) := (Below.refl _ w).alloc (Nat.le_refl _) _
  go_enter Tryd.func22, Tryd.ntmps22
  have hq := fun W => Lib.run_eql_slice_nil (P := Tryd.prog) W 22 5 (some ad) len cap 0 0 Tryd.underlying22
  go_wp2_with (at_builtin; refine wpList_append_held _ rfl _ _ 22 rfl w.heap.size 5 i0 Tryd.underlying22 hi hz0 hz1 hz2 _ 0 [] rfl (own_made w _ (Nat.le_refl _)) allb_nil (some ad) len cap bs rfl (HH.out.below hba (Nat.le_refl _)) (by omega) (by simp) ?_)
  intro o1 c1 w1 hown1 hheld1 hb1 _
  have HH1 : Hid (Held w1 o1 len c1 bs) := hid (by simpa using hheld1)
  have HB1 : Hid (Below w.heap.size w w1) := hba.trans hb1
  have HK1 : Hid (∀ a, o1 = some a → w.heap.size ≤ a.block) := hid (fun a ha => by subst ha; exact own_lt hown1 a.block rfl)
  clear hown1 hheld1 hb1 hba
  go_wp2
  go_ret
  exact ⟨o1, c1, by simp, HH1.out, HB1.out, HK1.out⟩

theorem all_any (ad : Addr) (len cap : Nat) (bs : List Int) (w : World) (h : Held w (some ad) len cap bs) (hl : len ≤ 1000000000) :
    Calls Tryd.prog 14 #[.slice (some ad) len cap] w fun e w' => ∃ n co cc, e = .returned (.func (.func 24) #[] #[.pointer (some ⟨n, 0, none⟩)]) ∧ Boxed w' n 22 (.slice co len cc) ∧ Held w' co len cc bs ∧ Below w.heap.size w w' ∧ w.heap.size ≤ n ∧ ∀ a, co = some a → w.heap.size ≤ a.block := by
  go_enter Tryd.func14, Tryd.ntmps14
  go_wp2_with fail
  refine (clone_any ad len cap bs w h hl).mono ?_
  rintro e w1 ⟨co, cc, rfl, hh1, hb1, hk1⟩
  go_wp2_with fail
  refine (frames_any _ _ _ _).mono ?_
  rintro e w2 ⟨rfl, rfl⟩
  go_wp2
  go_ret
  have s1 := hb1.size
  exact ⟨_, co, cc, rfl, Boxed.new _ _ _, hh1.below ((Below.refl _ w1).alloc (Nat.le_refl _) _) (Nat.le_refl _), hb1.alloc s1 _, s1, hk1⟩

theorem all_eql (n : Nat) (W : World) : (binOp .eql 35 (.func (Fn.func 24) #[] #[.pointer (some ⟨n, 0, none⟩)]) .nilFunc).run Tryd.prog W = .ok (.bool false) W := by kernel_rfl

theorem scanFrom_place : ∀ (f k : Nat) (bs : List Int) (pre : List (Int × ByteArray)) (x : Int × ByteArray), k ≤ bs.length → bs.length ≤ 1000000000 → pre ++ [x] <+: scanFrom f k bs → x.1 = if pre = [] then (k : Int) else endOf pre
  | 0, k, bs, pre, x, _, _, h => by
    have := h.length_le
    simp [scanFrom] at this
  | f + 1, k, bs, pre, x, hk, hl, h => by
    unfold scanFrom at h
    cases hf : fstOf (bs.drop k) with
    | none =>
      rw [hf] at h
      have := h.length_le
      simp at this
    | some p =>
      rw [hf] at h
      have hr := fst_room hf
      cases pre with
      | nil =>
        simp only [List.nil_append] at h
        obtain ⟨t, ht⟩ := h
        simp only [List.cons_append, List.nil_append, List.cons.injEq] at ht
        rw [ht.1]
        simp
      | cons y pre =>
        obtain ⟨t, ht⟩ := h
        simp only [List.cons_append, List.cons.injEq] at ht
        have ih := scanFrom_place f (k + 8 + p.length) bs pre x (by omega) hl ⟨t, by rw [← ht.2]⟩
        rw [ih]
        simp only [reduceCtorEq, if_false]
        by_cases hp : pre = []
        · subst hp
          rw [if_pos rfl]
          unfold endOf
          simp only [List.getLast?_singleton]
          rw [ht.1]
          dsimp only
          rw [strOf_size, w64_in ((k : Int) + 8) (by omega), w64_in _ (by omega)]
          omega
        · rw [if_neg hp]
          unfold endOf
          rw [List.getLast?_cons_of_ne_nil hp]
theorem scanAll_place {bs : List Int} {pre : List (Int × ByteArray)} {x : Int × ByteArray} (hl : bs.length ≤ 1000000000) (h : pre ++ [x] <+: scanAll bs) : x.1 = endOf pre := by
  have := scanFrom_place _ _ _ _ _ (Nat.zero_le _) hl h
  rw [this]
  by_cases hp : pre = []
  · subst hp; rfl
  · rw [if_neg hp]
theorem scanAll_pay {bs : List Int} {pre : List (Int × ByteArray)} {x : Int × ByteArray} (h : pre ++ [x] <+: scanAll bs) : x.2 = (pays bs).getD pre.length ByteArray.empty := by
  obtain ⟨t, ht⟩ := h
  rw [← scan_pays, ← ht]
  simp [List.getD]
end Go.Proofs.YtmokelmeihmeiabDoor
