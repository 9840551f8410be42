/-
  Package net: a bag that the call itself made ('NetIn'); To and Fork of nobody; 'pannierlaw04.lives': true in whatever memory.
-/
import Derived.Test.YtoacfdicjpoohaaNetD
namespace Go.Proofs.Ytoacfdicjpoohaa
open Go.RowKit Go.Maps

/-- A bag whose blocks lie from B on, in a world that is as w0 was below B. -/
def NetIn (B : Nat) (w0 w : World) (p bm : Nat) (nodes last : Int) (ps : List Pk) : Prop :=
  ∃ v D, NetAt w p bm v nodes last ps D ∧ (∀ i, Foot p bm v i → B ≤ i) ∧ Below B w0 w ∧ B ≤ w.heap.size
section
variable {B : Nat} {w0 w w' : World} {p bm : Nat} {v : Value} {nodes last : Int} {ps : List Pk} {D : DataW Value}
theorem NetIn.gave {q : Pk} (h : ∀ i, Foot p bm v i → B ≤ i) (hb : Below B w0 w) (hB : B ≤ w.heap.size) (hg : Gave w w' p bm v nodes last ps q) : NetIn B w0 w' p bm nodes (last + 1) (ps ++ [q]) := by
  obtain ⟨v', D', hn, ht, ho⟩ := hg
  refine ⟨v', D', hn, ?_, hb.trans (ht.below h hB), Nat.le_trans hB ht.size⟩
  rintro i (rfl | rfl | hi)
  · exact h _ (.inl rfl)
  · exact h _ (.inr (.inl rfl))
  · rcases ho with e | ⟨g, e, hg⟩
    · exact h _ (.inr (.inr (by rw [← e]; exact hi)))
    · rw [e] at hi
      cases hi
      omega
theorem NetIn.took {k : Nat} (h : ∀ i, Foot p bm v i → B ≤ i) (hb : Below B w0 w) (hB : B ≤ w.heap.size) (hg : Took w w' p bm v nodes last ps k) : NetIn B w0 w' p bm nodes last (ps.eraseIdx k) := by
  obtain ⟨v', D', hn, ht, ho⟩ := hg
  refine ⟨v', D', hn, ?_, hb.trans (ht.below h hB), Nat.le_trans hB ht.size⟩
  rintro i (rfl | rfl | hi)
  · exact h _ (.inl rfl)
  · exact h _ (.inr (.inl rfl))
  · exact h _ (.inr (.inr (by rw [← ho]; exact hi)))
theorem NetIn.below (hn : NetAt w p bm v nodes last ps D) (h : ∀ i, Foot p bm v i → B ≤ i) (hb : Below B w0 w) (hB : B ≤ w.heap.size) (hw : Below w.heap.size w w') : NetIn B w0 w' p bm nodes last ps :=
  ⟨v, D, hn.below hw (Nat.le_refl _), h, hb.trans (hw.mono hB), Nat.le_trans hB hw.size⟩
theorem NetIn.new (w : World) (x : Int) : NetIn w.heap.size w ((w.alloc (.map #[] 0)).alloc (.cells #[.int .i64 x, .int .i64 0, .map (some w.heap.size), .slice none 0 0] 48)) (w.heap.size + 1) w.heap.size x 0 [] := by
  refine ⟨_, _, NetAt.new w x, ?_, ((Below.refl _ _).alloc (Nat.le_refl _) _).alloc (by simp) _, by simp; omega⟩
  rintro i (rfl | rfl | hi)
  · omega
  · omega
  · cases hi
end

theorem to_any (w : World) (a : Value) (x : Int) (ha : a = .pointer none ∨ ∃ p, a = .pointer (some ⟨p, 0, none⟩)) : Calls Try.prog 17 #[a, .int .i64 x] w fun e w' => e = .returned (.func (.func 31) #[] #[.pointer (some ⟨w.heap.size, 0, none⟩), .pointer (some ⟨w.heap.size + 1, 0, none⟩)]) ∧
    w' = (w.alloc (.cells #[a] 23)).alloc (.cells #[.int .i64 x] 3) := by
  rcases ha with rfl | ⟨p, rfl⟩
  · go_enter Try.func17, Try.ntmps17
    go_wp2
    go_ret
    exact ⟨rfl, rfl⟩
  · go_enter Try.func17, Try.ntmps17
    go_wp2
    go_ret
    exact ⟨rfl, rfl⟩
theorem to_there (n m : Nat) (W : World) : (binOp .eql 53 (.func (Fn.func 31) #[] #[.pointer (some ⟨n, 0, none⟩), .pointer (some ⟨m, 0, none⟩)]) .nilFunc).run Try.prog W = .ok (.bool false) W := by kernel_rfl
theorem eql_pk1 (W : World) : (binOp .eql 36 (.agg #[.int .i64 1, .int .i64 0, .int .i64 1, .string ⟨#[120]⟩]) (.agg #[.int .i64 1, .int .i64 0, .int .i64 1, .string ⟨#[120]⟩])).run Try.prog W = .ok (.bool true) W := by kernel_rfl

theorem fork_nil (w : World) : Calls Try.prog 15 #[.pointer none] w fun e w' => e = .returned (.pointer none) ∧ w' = w := by
  go_enter Try.func15, Try.ntmps15
  go_wp2_with fail
  refine (closed_nil _).mono ?_
  rintro e w' ⟨rfl, rfl⟩
  go_wp2
  go_ret
  exact ⟨rfl, rfl⟩
theorem at_nil (w : World) (x : Int) : Calls Try.prog 13 #[.pointer none, .int .i64 x] w fun e w' => e = .returned (.tuple #[.int .i64 0, .bool false]) ∧ w' = w := by
  go_enter Try.func13, Try.ntmps13
  go_wp2_with fail
  refine (len_nil _).mono ?_
  rintro e w' ⟨rfl, rfl⟩
  go_wp2
  go_ret2
  exact ⟨rfl, rfl⟩
theorem those_nil (w : World) (f : Value) : Calls Try.prog 32 #[.pointer none, f] w fun e w' => e = .returned (.slice none 0 0) ∧ w' = w := by
  go_enter Try.func32, Try.ntmps32
  go_wp2_with fail
  refine (closed_nil _).mono ?_
  rintro e w' ⟨rfl, rfl⟩
  go_wp2
  go_ret
  exact ⟨rfl, rfl⟩
theorem all_nil (w : World) : Calls Try.prog 29 #[.pointer none] w fun e w' => e = .returned (.slice none 0 0) ∧ w' = w := by
  go_enter Try.func29, Try.ntmps29
  go_wp2_with fail
  refine (those_nil _ _).mono ?_
  rintro e w' ⟨rfl, rfl⟩
  go_wp2
  go_ret
  exact ⟨rfl, rfl⟩

set_option maxRecDepth 100000 in
set_option maxHeartbeats 1000000 in
theorem lives_any (w : World) : Calls Try.prog 6 #[] w fun e w' => e = .returned (.bool true) ∧ Below w.heap.size w w' := by
  go_enter Try.func6, Try.ntmps6
  have htt := fun n m W => to_there n m W
  go_wp2_with fail
  refine (new_good w 2 (by decide) (by decide)).mono ?_
  rintro e w1 ⟨rfl, h'⟩
  have HN : Hid (NetIn w.heap.size w w1 (w.heap.size + 1) w.heap.size 2 0 []) := by subst h'; exact NetIn.new w 2
  clear h'
  generalize hp : w.heap.size + 1 = p at *
  clear hp
  go_wp2_with fail
  refine (to_any _ _ _ (.inr ⟨p, rfl⟩)).mono ?_
  rintro e w2 ⟨rfl, h'⟩
  have HN2 : Hid (NetIn w.heap.size w w2 p w.heap.size 2 0 []) := by
    subst h'
    obtain ⟨v, D, hn, hF, hb, hB⟩ := HN.out
    exact NetIn.below hn hF hb hB (((Below.refl _ _).alloc (Nat.le_refl _) _).alloc (by simp) _)
  clear h' HN
  go_wp2_with fail
  obtain ⟨v2, D2, hn2, hF2, hb2, hB2⟩ := HN2.out
  refine (send_ok hn2 0 1 ⟨#[120]⟩ (by decide) (by decide) (by decide) (by decide) (by decide) (by decide) (by decide)).mono ?_
  rintro e w3 ⟨rfl, hg⟩
  have HN3 := hid (NetIn.gave hF2 hb2 hB2 hg)
  clear hg hn2 hF2 hb2 hB2 HN2
  go_wp2_with fail
  obtain ⟨v3, D3, hn3, hF3, hb3, hB3⟩ := HN3.out
  refine (twice_ok hn3 1 (by decide) (by decide) (q := ⟨1, 0, 1, ⟨#[120]⟩⟩) rfl (by decide) (by decide)).mono ?_
  rintro e w4 ⟨rfl, hg⟩
  have HN4 := hid (NetIn.gave hF3 hb3 hB3 hg)
  clear hg hn3 hF3 hb3 hB3 HN3
  go_wp2_with fail
  obtain ⟨v4, D4, hn4, hF4, hb4, hB4⟩ := HN4.out
  have htk : Calls Try.prog 9 #[.pointer (some ⟨p, 0, none⟩), .int .i64 1] w4 fun e w' => e = .returned (.tuple #[.agg #[.int .i64 1, .int .i64 0, .int .i64 1, .string ⟨#[120]⟩], .int .i64 0]) ∧ Took w4 w' p w.heap.size v4 2 2 [⟨1, 0, 1, ⟨#[120]⟩⟩, ⟨2, 0, 1, ⟨#[120]⟩⟩] 0 := take_ok hn4 (k := 0) (by decide) (by decide)
  refine htk.mono ?_
  rintro e w5 ⟨rfl, hg⟩
  have HN5 : Hid (NetIn w.heap.size w w5 p w.heap.size 2 2 [⟨2, 0, 1, ⟨#[120]⟩⟩]) := NetIn.took hF4 hb4 hB4 hg
  clear hg hn4 hF4 hb4 hB4 HN4 htk
  go_wp2_with fail
  obtain ⟨v5, D5, hn5, hF5, hb5, hB5⟩ := HN5.out
  refine (take_none (hn5.alloc _) 1 (by decide) (by decide) rfl).mono ?_
  rintro e w6 ⟨rfl, hb⟩
  rw [World.size_alloc] at hb
  have hP6 : Blk w6 w5.heap.size 36 [.int .i64 1, .int .i64 0, .int .i64 1, .string ⟨#[120]⟩] := (Blk.new w5 36 [.int .i64 1, .int .i64 0, .int .i64 1, .string ⟨#[120]⟩]).below hb (Nat.lt_succ_self _)
  have HN6 : Hid (NetIn w.heap.size w w6 p w.heap.size 2 2 [⟨2, 0, 1, ⟨#[120]⟩⟩]) := NetIn.below hn5 hF5 hb5 hB5 (((Below.refl _ _).alloc (Nat.le_refl _) _).trans (hb.mono (Nat.le_succ _)))
  have q0 := hP6.cell (i := 0) rfl
  have q1 := hP6.cell (i := 1) rfl
  have q2 := hP6.cell (i := 2) rfl
  have q3 := hP6.cell (i := 3) rfl
  have hz := hP6.lt
  have heq := fun W => eql_pk1 W
  clear hb hP6 hn5 hF5 hb5 hB5 HN5
  unfold Pk.none
  go_wp2_with fail
  obtain ⟨v6, D6, hn6, hF6, hb6, hB6⟩ := HN6.out
  refine (len_any (hn6.alloc _)).mono ?_
  rintro e w7 ⟨rfl, h'⟩
  subst h'
  have HB6 := hid hb6
  have HS6 := hid hB6
  clear hn6 hF6 hb6 hB6 HN6
  go_wp2
  go_ret
  exact ⟨rfl, HB6.out.alloc HS6.out _⟩
end Go.Proofs.Ytoacfdicjpoohaa
