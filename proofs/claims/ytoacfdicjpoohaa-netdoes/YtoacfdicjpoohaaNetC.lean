/-
  Package net: Send and Twice.
-/
import Derived.Test.YtoacfdicjpoohaaNetB
namespace Go.Proofs.Ytoacfdicjpoohaa
open Go.RowKit Go.Maps

theorem hasNode_yes (w : World) (p : Nat) (x nodes : Int) (hc : w.cell? ⟨p, 0, none⟩ = some (.int .i64 nodes)) (h0 : 0 ≤ x) (h1 : x < nodes) :
    Calls Try.prog 20 #[.pointer (some ⟨p, 0, none⟩), .int .i64 x] w fun e w' => e = .returned (.bool true) ∧ w' = w := by
  have := hasNode_any w p x nodes hc
  rwa [decide_eq_true h0, decide_eq_true h1] at this
theorem hasNode_no (w : World) (p : Nat) (x nodes : Int) (hc : w.cell? ⟨p, 0, none⟩ = some (.int .i64 nodes)) (h : ¬ (0 ≤ x ∧ x < nodes)) :
    Calls Try.prog 20 #[.pointer (some ⟨p, 0, none⟩), .int .i64 x] w fun e w' => e = .returned (.bool false) ∧ w' = w := by
  have := hasNode_any w p x nodes hc
  rwa [show (decide (0 ≤ x) && decide (x < nodes)) = false by simp; omega] at this

theorem send_nil (w : World) (f t : Int) (s : ByteArray) : Calls Try.prog 7 #[.pointer none, .int .i64 f, .int .i64 t, .string s] w fun e w' => e = .returned (.tuple #[.int .i64 0, .int .i64 6]) ∧ w' = w := by
  go_enter Try.func7, Try.ntmps7
  go_wp2_with fail
  refine (closed_nil _).mono ?_
  rintro e w' ⟨rfl, rfl⟩
  go_wp2
  go_ret2
  exact ⟨rfl, rfl⟩

section
variable {w : World} {p bm : Nat} {v : Value} {nodes last : Int} {ps : List Pk} {D : DataW Value}

theorem send_arg (h : NetAt w p bm v nodes last ps D) (f t : Int) (s : ByteArray) (hbad : ¬ ((0 ≤ f ∧ f < nodes) ∧ (0 ≤ t ∧ t < nodes))) :
    Calls Try.prog 7 #[.pointer (some ⟨p, 0, none⟩), .int .i64 f, .int .i64 t, .string s] w fun e w' => e = .returned (.tuple #[.int .i64 0, .int .i64 1]) ∧ w' = w := by
  have HC := hid (h.blk.cell (i := 0) rfl)
  have HCL := hid h.closed
  clear h
  by_cases hf : 0 ≤ f ∧ f < nodes
  · have ht : Hid (¬ (0 ≤ t ∧ t < nodes)) := fun ht => hbad ⟨hf, ht⟩
    obtain ⟨f0, f1⟩ := hf
    clear hbad
    go_enter Try.func7, Try.ntmps7
    go_wp2_with fail
    refine HCL.out.mono ?_
    rintro e w' ⟨rfl, rfl⟩
    go_wp2_with fail
    refine (hasNode_yes _ _ _ _ HC.out f0 f1).mono ?_
    rintro e w' ⟨rfl, rfl⟩
    go_wp2_with fail
    refine (hasNode_no _ _ _ _ HC.out ht.out).mono ?_
    rintro e w' ⟨rfl, rfl⟩
    go_wp2
    go_ret2
    exact ⟨rfl, rfl⟩
  · have hf' := hid hf
    clear hbad hf
    go_enter Try.func7, Try.ntmps7
    go_wp2_with fail
    refine HCL.out.mono ?_
    rintro e w' ⟨rfl, rfl⟩
    go_wp2_with fail
    refine (hasNode_no _ _ _ _ HC.out hf'.out).mono ?_
    rintro e w' ⟨rfl, rfl⟩
    go_wp2
    go_ret2
    exact ⟨rfl, rfl⟩

theorem send_long (h : NetAt w p bm v nodes last ps D) (f t : Int) (s : ByteArray) (f0 : 0 ≤ f) (f1 : f < nodes) (t0 : 0 ≤ t) (t1 : t < nodes) (hs : 65536 < s.size) :
    Calls Try.prog 7 #[.pointer (some ⟨p, 0, none⟩), .int .i64 f, .int .i64 t, .string s] w fun e w' => e = .returned (.tuple #[.int .i64 0, .int .i64 3]) ∧ w' = w := by
  have HC := hid (h.blk.cell (i := 0) rfl)
  have HCL := hid h.closed
  have hs' : (65536 : Int) < (s.size : Int) := by omega
  clear h
  go_enter Try.func7, Try.ntmps7
  go_wp2_with fail
  refine HCL.out.mono ?_
  rintro e w' ⟨rfl, rfl⟩
  go_wp2_with fail
  refine (hasNode_yes _ _ _ _ HC.out f0 f1).mono ?_
  rintro e w' ⟨rfl, rfl⟩
  go_wp2_with fail
  refine (hasNode_yes _ _ _ _ HC.out t0 t1).mono ?_
  rintro e w' ⟨rfl, rfl⟩
  go_wp2
  go_ret2
  exact ⟨rfl, rfl⟩

theorem send_full (h : NetAt w p bm v nodes last ps D) (f t : Int) (s : ByteArray) (f0 : 0 ≤ f) (f1 : f < nodes) (t0 : 0 ≤ t) (t1 : t < nodes) (hs : ¬ 65536 < s.size) (hl : 65536 ≤ ps.length) :
    Calls Try.prog 7 #[.pointer (some ⟨p, 0, none⟩), .int .i64 f, .int .i64 t, .string s] w fun e w' => e = .returned (.tuple #[.int .i64 0, .int .i64 2]) ∧ Below w.heap.size w w' := by
  have HC := hid (h.blk.cell (i := 0) rfl)
  have HCL := hid h.closed
  have hs' : ¬ (65536 : Int) < (s.size : Int) := by omega
  have HH := hid h
  clear h
  go_enter Try.func7, Try.ntmps7
  go_wp2_with fail
  refine HCL.out.mono ?_
  rintro e w' ⟨rfl, rfl⟩
  go_wp2_with fail
  refine (hasNode_yes _ _ _ _ HC.out f0 f1).mono ?_
  rintro e w' ⟨rfl, rfl⟩
  go_wp2_with fail
  refine (hasNode_yes _ _ _ _ HC.out t0 t1).mono ?_
  rintro e w' ⟨rfl, rfl⟩
  go_wp2_with fail
  refine (clone_any s _ (by omega)).mono ?_
  rintro e w1 ⟨rfl, hb⟩
  have HB := hid hb
  clear hb
  go_wp2_with fail
  refine (put_full (HH.out.below HB.out (Nat.le_refl _)) _ _ _ hl).mono ?_
  rintro e w' ⟨rfl, rfl⟩
  go_wp2
  go_ret2
  exact ⟨rfl, HB.out⟩

/-- What a call that gives a new Id leaves. -/
def Gave (w w' : World) (p bm : Nat) (v : Value) (nodes last : Int) (ps : List Pk) (q : Pk) : Prop :=
  ∃ v' D', NetAt w' p bm v' nodes (last + 1) (ps ++ [q]) D' ∧ Turns (Foot p bm v) w w' ∧ (v'.ownBlock = v.ownBlock ∨ ∃ g, v'.ownBlock = some g ∧ w.heap.size ≤ g)
theorem Gave.ahead {w0 w1 : World} {q : Pk} (hb : Below w0.heap.size w0 w) (hg : Gave w w1 p bm v nodes last ps q) : Gave w0 w1 p bm v nodes last ps q := by
  obtain ⟨v', D', h, ht, ho⟩ := hg
  refine ⟨v', D', h, (Turns.of_below hb (Nat.le_refl _)).trans ht (fun i hi => .inl hi), ?_⟩
  rcases ho with e | ⟨g, e, hg⟩
  · exact .inl e
  · exact .inr ⟨g, e, Nat.le_trans hb.size hg⟩

theorem send_ok (h : NetAt w p bm v nodes last ps D) (f t : Int) (s : ByteArray) (f0 : 0 ≤ f) (f1 : f < nodes) (t0 : 0 ≤ t) (t1 : t < nodes) (hs : ¬ 65536 < s.size) (hl : ps.length < 65536) (hlast : last ≤ 4611686018427387904) :
    Calls Try.prog 7 #[.pointer (some ⟨p, 0, none⟩), .int .i64 f, .int .i64 t, .string s] w fun e w' => e = .returned (.tuple #[.int .i64 (last + 1), .int .i64 0]) ∧ Gave w w' p bm v nodes last ps ⟨last + 1, f, t, s⟩ := by
  have HC := hid (h.blk.cell (i := 0) rfl)
  have HCL := hid h.closed
  have hs' : ¬ (65536 : Int) < (s.size : Int) := by omega
  have HH := hid h
  clear h
  go_enter Try.func7, Try.ntmps7
  go_wp2_with fail
  refine HCL.out.mono ?_
  rintro e w' ⟨rfl, rfl⟩
  go_wp2_with fail
  refine (hasNode_yes _ _ _ _ HC.out f0 f1).mono ?_
  rintro e w' ⟨rfl, rfl⟩
  go_wp2_with fail
  refine (hasNode_yes _ _ _ _ HC.out t0 t1).mono ?_
  rintro e w' ⟨rfl, rfl⟩
  go_wp2_with fail
  refine (clone_any s _ (by omega)).mono ?_
  rintro e w1 ⟨rfl, hb⟩
  have HB := hid hb
  clear hb
  go_wp2_with fail
  refine (put_any (HH.out.below HB.out (Nat.le_refl _)) _ _ _ hl hlast).mono ?_
  rintro e w2 ⟨rfl, hg⟩
  have HG := hid hg
  clear hg
  go_wp2
  go_ret2
  exact ⟨rfl, Gave.ahead HB.out HG.out⟩

theorem twice_nil (w : World) (x : Int) : Calls Try.prog 11 #[.pointer none, .int .i64 x] w fun e w' => e = .returned (.tuple #[.int .i64 0, .int .i64 6]) ∧ Below w.heap.size w w' := by
  go_enter Try.func11, Try.ntmps11
  go_wp2_with fail
  refine (find_nil _ _).mono ?_
  rintro e w1 ⟨rfl, hb⟩
  have HB := hid hb
  clear hb
  unfold Pk.none
  go_wp2
  go_ret2
  exact ⟨rfl, HB.out.alloc HB.out.size _⟩

theorem twice_none (h : NetAt w p bm v nodes last ps D) (x : Int) (h0 : -9223372036854775808 ≤ x) (h1 : x ≤ 9223372036854775807) (hf : found ps x = none) :
    Calls Try.prog 11 #[.pointer (some ⟨p, 0, none⟩), .int .i64 x] w fun e w' => e = .returned (.tuple #[.int .i64 0, .int .i64 4]) ∧ Below w.heap.size w w' := by
  have hfi := find_any h x h0 h1
  rw [hf] at hfi
  have HF := hid hfi
  clear hfi h hf
  go_enter Try.func11, Try.ntmps11
  go_wp2_with fail
  refine HF.out.mono ?_
  rintro e w1 ⟨rfl, hb⟩
  have HB := hid hb
  clear hb
  unfold Pk.none
  go_wp2
  go_ret2
  exact ⟨rfl, HB.out.alloc HB.out.size _⟩

theorem twice_full (h : NetAt w p bm v nodes last ps D) (x : Int) (h0 : -9223372036854775808 ≤ x) (h1 : x ≤ 9223372036854775807) {q : Pk} (hf : found ps x = some q) (hl : 65536 ≤ ps.length) :
    Calls Try.prog 11 #[.pointer (some ⟨p, 0, none⟩), .int .i64 x] w fun e w' => e = .returned (.tuple #[.int .i64 0, .int .i64 2]) ∧ Below w.heap.size w w' := by
  have hfi := find_any h x h0 h1
  rw [hf] at hfi
  have HF := hid hfi
  have HH := hid h
  clear hfi h hf
  go_enter Try.func11, Try.ntmps11
  go_wp2_with fail
  refine HF.out.mono ?_
  rintro e w1 ⟨rfl, hb⟩
  have HB := hid hb
  clear hb
  unfold Pk.val
  go_wp2_with fail
  refine (put_full (HH.out.below (HB.out.alloc HB.out.size _) (Nat.le_refl _)) _ _ _ hl).mono ?_
  rintro e w' ⟨rfl, rfl⟩
  go_wp2
  go_ret2
  exact ⟨rfl, HB.out.alloc HB.out.size _⟩

theorem twice_ok (h : NetAt w p bm v nodes last ps D) (x : Int) (h0 : -9223372036854775808 ≤ x) (h1 : x ≤ 9223372036854775807) {q : Pk} (hf : found ps x = some q) (hl : ps.length < 65536) (hlast : last ≤ 4611686018427387904) :
    Calls Try.prog 11 #[.pointer (some ⟨p, 0, none⟩), .int .i64 x] w fun e w' => e = .returned (.tuple #[.int .i64 (last + 1), .int .i64 0]) ∧ Gave w w' p bm v nodes last ps ⟨last + 1, q.frm, q.dst, q.body⟩ := by
  have hfi := find_any h x h0 h1
  rw [hf] at hfi
  have HF := hid hfi
  have HH := hid h
  clear hfi h hf
  go_enter Try.func11, Try.ntmps11
  go_wp2_with fail
  refine HF.out.mono ?_
  rintro e w1 ⟨rfl, hb⟩
  have HB := hid hb
  clear hb
  unfold Pk.val
  go_wp2_with fail
  refine (put_any (HH.out.below (HB.out.alloc HB.out.size _) (Nat.le_refl _)) _ _ _ hl hlast).mono ?_
  rintro e w2 ⟨rfl, hg⟩
  have HG := hid hg
  clear hg
  go_wp2
  go_ret2
  exact ⟨rfl, Gave.ahead (HB.out.alloc HB.out.size _) HG.out⟩
end
end Go.Proofs.Ytoacfdicjpoohaa
