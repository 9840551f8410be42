/-
  Package cut: find and Belongs.
-/
import Derived.Test.YtkgfpnmifgifpaaSealB
import Derived.Laws.ResultCell
namespace Go.Proofs.Ytkgfpnmifgifpaa
open Go.RowKit Go.Maps

def zeroSlV : SlM := ⟨zeroSl, none, 0⟩
/-- The first seal to which e belongs. -/
def firstBel (e : Ev) (xs : List SlM) : Option SlM := xs.find? fun x => decide (Bel e x.e)
def FoundP (w : World) (o : Option SlM) (e : Ending) (w' : World) : Prop :=
  e = .returned (.tuple #[(o.getD zeroSlV).val, .bool o.isSome]) ∧ Below w.heap.size w w'
theorem firstBel_none {e : Ev} {xs : List SlM} (h : ∀ a (ha : a < xs.length), ¬ Bel e xs[a].e) : firstBel e xs = none := by
  unfold firstBel
  rw [List.find?_eq_none]
  intro x hx
  obtain ⟨a, ha, rfl⟩ := List.mem_iff_getElem.1 hx
  simpa using h a ha
theorem firstBel_some {e : Ev} {xs : List SlM} {k : Nat} (hk : k < xs.length) (h : ∀ a (ha : a < xs.length), a < k → ¬ Bel e xs[a].e) (hb : Bel e xs[k].e) : firstBel e xs = some xs[k] := by
  unfold firstBel
  rw [List.find?_eq_some_iff_getElem]
  exact ⟨by simpa using hb, k, hk, rfl, fun j hj => by simpa using h j (by omega) hj⟩
set_option maxRecDepth 1000000 in
set_option maxHeartbeats 2000000 in
theorem findBel_any (w : World) (ao : Option Addr) (cap : Nat) (xs : List SlM) (n : Nat) (hn : xs.length = n) (h : HeldSl w ao xs) (hl : n ≤ 100000000) (y : EvM) (p : Nat) (hp : Blk w p 34 y.cells) :
    Calls Try.prog 26 #[.slice ao n cap, .func (.func 27) #[] #[.pointer (some ⟨p, 0, none⟩)]] w (FoundP w (firstBel y.e xs)) := by
  have HN := hid hn
  have H := hid h
  have HP := hid hp
  obtain ⟨W0, hW0⟩ : ∃ W, W = w.alloc (.cells #[.string ⟨#[]⟩, .string ⟨#[]⟩, .int .i64 0, .slice none 0 0] 50) := ⟨_, rfl⟩
  have HB0 : Hid (Below w.heap.size w W0) := by rw [hW0]; exact (Below.refl _ _).alloc (Nat.le_refl _) _
  have HK0 : Hid (Blk W0 w.heap.size 50 [.string ⟨#[]⟩, .string ⟨#[]⟩, .int .i64 0, .slice none 0 0]) := by rw [hW0]; exact Blk.new w _ _
  have HW0 := hid hW0
  clear hn h hp hW0
  go_enter Try.func26, Try.ntmps26
  go_wp2
  rw [← HW0.out]
  obtain ⟨r, hr⟩ : ∃ r, r = w.heap.size := ⟨_, rfl⟩
  rw [← hr] at HK0 ⊢
  have HRR := hid hr
  clear hr
  go_loopw [7, 10] (fun _ i wr => ∃ k : Nat, k ≤ n ∧ i = .int .i64 k ∧ Hid ((∀ a (ha : a < xs.length), a < k → ¬ Bel y.e xs[a].e) ∧ Below W0.heap.size W0 wr)) (fun _ i _ => n - (intOf i).toNat)
  case atStart => exact ⟨0, Nat.zero_le _, rfl, fun a _ ha => absurd ha (Nat.not_lt_zero _), Below.refl _ _⟩
  case round =>
    obtain ⟨k, hk, rfl, HR⟩ := hrel
    have HBR : Hid (Below w.heap.size w wr) := bt HB0.out HR.out.2
    by_cases hlt : k < n
    · have hlt' : (k : Int) < (n : Int) := by omega
      have hkx : Hid (k < xs.length) := (by rw [HN.out]; exact hlt : k < xs.length)
      obtain ⟨bb, off, hao, _, g0, g1, g2, g3⟩ := (H.out.below HBR.out).at hkx.out
      subst hao
      have HKM : Hid (k + 1 ≤ n) := (by omega : k + 1 ≤ n)
      have HOX := hid ((H.out.1 _ (List.getElem_mem hkx.out)).below HBR.out)
      obtain ⟨q, HQ⟩ : ∃ q, Hid (decide (Bel y.e (xs[k]'hkx.out).e) = q) := ⟨_, hid rfl⟩
      have HSO : Hid (q = true → firstBel y.e xs = some (xs[k]'hkx.out)) := fun hq => firstBel_some hkx.out HR.out.1 (of_decide_eq_true (HQ.out.trans hq))
      have HNX : Hid (q = false → ∀ a (ha : a < xs.length), a < k + 1 → ¬ Bel y.e xs[a].e) := fun hq a ha hak => by
        by_cases e : a = k
        · subst e
          exact of_decide_eq_false (HQ.out.trans hq)
        · exact HR.out.1 a ha (by omega)
      obtain ⟨X, HX⟩ : ∃ X, Hid (xs[k]'hkx.out = X) := ⟨_, hid rfl⟩
      rw [HX.out] at g0 g1 g2 g3 HOX HSO HQ
      obtain ⟨W1, hW1⟩ : ∃ W, W = wr.alloc (.cells X.cells.toArray 50) := ⟨_, rfl⟩
      have HB1 : Hid (Below wr.heap.size wr W1) := by rw [hW1]; exact (Below.refl _ _).alloc (Nat.le_refl _) _
      have HK1 : Hid (Blk W1 wr.heap.size 50 X.cells) := by rw [hW1]; exact Blk.new wr _ _
      have HCL := hid (belongs1_any W1 X y p ((HP.out.below HBR.out HP.out.lt).below HB1.out (Nat.lt_of_lt_of_le HP.out.lt HBR.out.size)) (HOX.out.below HB1.out))
      rw [HQ.out] at HCL
      have HW1 := hid hW1
      clear hW1 HX HQ HOX
      obtain ⟨⟨tok, cart, ep, cut⟩, ao1, cap1⟩ := X
      obtain ⟨XN, HXN⟩ : ∃ m, Hid (cut.length = m) := ⟨_, hid rfl⟩
      simp only [SlM.val, SlM.cells] at g0 g1 g2 g3 HCL HK1 HW1 HSO
      rw [HXN.out] at g3 HCL HK1 HW1
      go_wp2_with fail
      rw [← HW1.out]
      obtain ⟨pb, hpb⟩ : ∃ p, p = wr.heap.size := ⟨_, rfl⟩
      rw [← hpb] at HK1 ⊢
      clear hpb
      refine HCL.out.mono ?_
      rintro e w2 ⟨rfl, hb2⟩
      have HB2 := hid (bt HB1.out hb2)
      have hk2 := HK1.out.below hb2 HK1.out.lt
      have c0 := hk2.cell (i := 0) rfl
      have c1 := hk2.cell (i := 1) rfl
      have c2 := hk2.cell (i := 2) rfl
      have c3 := hk2.cell (i := 3) rfl
      have HBR2 : Hid (Below W0.heap.size W0 w2) := bt HR.out.2 HB2.out
      have hr2 := HK0.out.below HBR2.out HK0.out.lt
      have r0 := hr2.cell (i := 0) rfl
      have r1 := hr2.cell (i := 1) rfl
      have r2 := hr2.cell (i := 2) rfl
      have r3 := hr2.cell (i := 3) rfl
      have f0 := hr2.frozen 0
      have f1 := hr2.frozen 1
      have f2 := hr2.frozen 2
      have f3 := hr2.frozen 3
      have HR2 := hid hr2
      clear hb2 hk2 hr2 HCL g0 g1 g2 g3
      cases q
      · go_wp2
        go_roundw
        case rel => exact ⟨k + 1, HKM.out, by go_num, HNX.out (by trivial), HBR2.out⟩
        case measure => simp [intOf]; have := HKM.out; omega
      · obtain ⟨W3, hW3⟩ : ∃ W, W = (((w2.setCell ⟨r, 0, none⟩ (.string tok)).setCell ⟨r, 1, none⟩ (.string cart)).setCell ⟨r, 2, none⟩ (.int .i64 ep)).setCell ⟨r, 3, none⟩ (.slice ao1 XN cap1) := ⟨_, rfl⟩
        have hk3 : Blk W3 r 50 [.string tok, .string cart, .int .i64 ep, .slice ao1 XN cap1] := by rw [hW3]; exact (((HR2.out.set 0 (.string tok)).set 1 (.string cart)).set 2 (.int .i64 ep)).set 3 (.slice ao1 XN cap1)
        have t0 := hk3.cell (i := 0) rfl
        have t1 := hk3.cell (i := 1) rfl
        have t2 := hk3.cell (i := 2) rfl
        have t3 := hk3.cell (i := 3) rfl
        have HB3 : Hid (Below w.heap.size w W3) := by
          rw [hW3, HRR.out]
          exact (bt HB0.out HBR2.out).trans ((((((Turns.refl (fun i => i = w.heap.size) w2).setCell (p := ⟨w.heap.size, 0, none⟩) (.inl rfl) _).setCell (p := ⟨w.heap.size, 1, none⟩) (.inl rfl) _).setCell (p := ⟨w.heap.size, 2, none⟩) (.inl rfl) _).setCell (p := ⟨w.heap.size, 3, none⟩) (.inl rfl) _).below (fun i hi => by omega) (bt HB0.out HBR2.out).size)
        have HW3 := hid hW3
        have HSX := hid (HSO.out (by trivial))
        clear hW3 hk3
        go_wp2
        rw [← HW3.out]
        (try simp only [Exit.inBlock, Exit.then])
        refine bodyPost_ret (v := .tuple #[.agg #[.string tok, .string cart, .int .i64 ep, .slice ao1 XN cap1], .bool true]) ?_ rfl ⟨?_, HB3.out⟩
        · rw [results_cell_tmp rfl]
          go_simp
        · rw [HSX.out]
          simp [Option.getD, SlM.val, HXN.out]
    · have hlt' : ¬ (k : Int) < (n : Int) := by omega
      have HNO : Hid (firstBel y.e xs = none) := firstBel_none fun a ha => HR.out.1 a ha (by have := HN.out; omega)
      have hr2 := HK0.out.below HR.out.2 HK0.out.lt
      have r0 := hr2.cell (i := 0) rfl
      have r1 := hr2.cell (i := 1) rfl
      have r2 := hr2.cell (i := 2) rfl
      have r3 := hr2.cell (i := 3) rfl
      have f0 := hr2.frozen 0
      have f1 := hr2.frozen 1
      have f2 := hr2.frozen 2
      have f3 := hr2.frozen 3
      obtain ⟨W3, hW3⟩ : ∃ W, W = (((wr.setCell ⟨r, 0, none⟩ (.string ⟨#[]⟩)).setCell ⟨r, 1, none⟩ (.string ⟨#[]⟩)).setCell ⟨r, 2, none⟩ (.int .i64 0)).setCell ⟨r, 3, none⟩ (.slice none 0 0) := ⟨_, rfl⟩
      have hk3 : Blk W3 r 50 [.string ⟨#[]⟩, .string ⟨#[]⟩, .int .i64 0, .slice none 0 0] := by rw [hW3]; exact (((hr2.set 0 (.string ⟨#[]⟩)).set 1 (.string ⟨#[]⟩)).set 2 (.int .i64 0)).set 3 (.slice none 0 0)
      have t0 := hk3.cell (i := 0) rfl
      have t1 := hk3.cell (i := 1) rfl
      have t2 := hk3.cell (i := 2) rfl
      have t3 := hk3.cell (i := 3) rfl
      have HB3 : Hid (Below w.heap.size w W3) := by
        rw [hW3, HRR.out]
        exact HBR.out.trans ((((((Turns.refl (fun i => i = w.heap.size) wr).setCell (p := ⟨w.heap.size, 0, none⟩) (.inl rfl) _).setCell (p := ⟨w.heap.size, 1, none⟩) (.inl rfl) _).setCell (p := ⟨w.heap.size, 2, none⟩) (.inl rfl) _).setCell (p := ⟨w.heap.size, 3, none⟩) (.inl rfl) _).below (fun i hi => by omega) HBR.out.size)
      have HW3 := hid hW3
      clear hW3 hk3 hr2
      go_wp2
      rw [← HW3.out]
      (try simp only [Exit.inBlock, Exit.then])
      refine bodyPost_ret (v := .tuple #[.agg #[.string ⟨#[]⟩, .string ⟨#[]⟩, .int .i64 0, .slice none 0 0], .bool false]) ?_ rfl ⟨?_, HB3.out⟩
      · rw [results_cell_tmp rfl]
        go_simp
      · rw [HNO.out]
        rfl
end Go.Proofs.Ytkgfpnmifgifpaa
