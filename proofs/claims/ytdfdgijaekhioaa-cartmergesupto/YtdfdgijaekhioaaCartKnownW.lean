/-
  pannierlaw11.CartKnown answers true for any names and numbers.
-/
import Derived.Test.YtdfdgijaekhioaaCartP
namespace Go.Proofs.Ytdfdgijaekhioaa
open Go.RowKit Go.Maps

/-- A new slice of events. -/
theorem held_new {V : World} {xs : List EvM} (h : AllOk V xs) : HeldE (V.alloc (.cells (flatE xs).toArray 29)) (some ⟨V.heap.size, 0, none⟩) xs := by
  have hb := Blk.new V 29 (flatE xs)
  refine ⟨h.below ((Below.refl _ _).alloc (Nat.le_refl _) _), .inr ⟨_, 0, rfl, hb.lt, fun j hj c u hu => ?_⟩⟩
  rw [Nat.zero_add]
  exact hb.cell (flatE_get _ j hj c u hu)
def kx (name sku : ByteArray) (a : Int) : Ev := ⟨0, 1, [], name, 0, sku, a, true⟩
def ky (name sku : ByteArray) (b : Int) (seen : Bool) : Ev := ⟨1, 1, if seen then [1] else [], name, 0, sku, b, true⟩
theorem k_one (name sku : ByteArray) (a b : Int) (seen : Bool) : OneEach [kx name sku a, ky name sku b seen] := by
  intro e he f hf h1 h2
  simp at he hf
  rcases he with rfl | rfl <;> rcases hf with rfl | rfl
  · rfl
  · cases h1
  · cases h1
  · rfl
theorem k_count (name sku : ByteArray) (a b : Int) (seen : Bool) : (countOf name [kx name sku a, ky name sku b seen]).Perm (if seen then [ky name sku b seen] else [kx name sku a, ky name sku b seen]) := by
  have hne : kx name sku a ≠ ky name sku b seen := fun e => by
    have := congrArg Ev.o e
    cases this
  have h1 : ¬ Goes (ky name sku b seen) (kx name sku a) := fun h => by
    have := h.2.2.2.1.2
    simp [kx, ky, ofV] at this
  have hxx : ¬ Goes (kx name sku a) (kx name sku a) := fun h => h.2.2.2.2 rfl
  have hyy : ¬ Goes (ky name sku b seen) (ky name sku b seen) := fun h => h.2.2.2.2 rfl
  have h2 : Goes (kx name sku a) (ky name sku b seen) ↔ seen = true := by
    unfold Goes
    cases seen <;> simp [kx, ky, HasV, ofV]
  refine perm_of_mem (count_nodup _ _) ?_ (fun e => ?_)
  · cases seen
    · simp [hne]
    · simp
  · rw [count_mem (k_one name sku a b seen)]
    constructor
    · rintro ⟨h3, _, h5⟩
      simp at h3
      rcases h3 with rfl | rfl
      · have := h5 (ky name sku b seen) (by simp)
        rw [h2] at this
        simp [this]
      · cases seen <;> simp
    · intro h3
      have hy : ky name sku b seen ∈ [kx name sku a, ky name sku b seen] ∧ (ky name sku b seen).cart = name ∧ Stands [kx name sku a, ky name sku b seen] (ky name sku b seen) := ⟨by simp, rfl, fun f hf => by
        simp at hf
        rcases hf with rfl | rfl
        · exact h1
        · exact hyy⟩
      cases hs : seen
      · rw [hs] at h3 hy h2
        simp at h3
        rcases h3 with rfl | rfl
        · refine ⟨by simp, rfl, fun f hf => ?_⟩
          simp at hf
          rcases hf with rfl | rfl
          · exact hxx
          · rw [h2]; simp
        · exact hy
      · rw [hs] at h3 hy
        simp at h3
        subst h3
        exact hy
theorem k_q (name sku : ByteArray) (a b : Int) (seen : Bool) : linesQ name [kx name sku a, ky name sku b seen] sku = if seen then b else a + b := by
  unfold linesQ
  rw [qtyOf_perm (k_count name sku a b seen)]
  cases seen <;> simp [qtyOf, kx, ky]
theorem k_q' (name sku : ByteArray) (a b : Int) (seen : Bool) : linesQ name [ky name sku b seen, kx name sku a] sku = if seen then b else a + b := by
  rw [← k_q name sku a b seen]
  refine (linesQ_set (k_one name sku a b seen) (fun e => ?_) name sku).symm
  simp [or_comm]
theorem linesQ_nonneg {c : ByteArray} {l : List Ev} (h : ∀ e ∈ l, 0 ≤ e.qty) (s : ByteArray) : 0 ≤ linesQ c l s :=
  qtyOf_nonneg fun e he => h e (by
    have h1 := firstsFrom_sub _ _ e he
    exact (ofCart_mem.1 (standOf_mem.1 h1).1).1)
/-- Lines, and of: how many of an article events have. -/
theorem linesOf_q {f : ByteArray → Int} {ls : List Ln} (h : LinesOf f ls) (hf : ∀ s, 0 ≤ f s) {s : ByteArray} {q : Int} (hq : f s = q) : ofL s ls = q := by rw [ofL_lines h hf, hq]
theorem i64_small {x : Int} (h0 : 0 ≤ x) (h1 : x ≤ 1000) : I64 x := by unfold I64; omega
set_option maxRecDepth 1000000 in
set_option maxHeartbeats 4000000 in
theorem cartKnown_walk (name sku : ByteArray) (a b : Int) (seen : Bool) (w : World) (hs0 : name.size ≤ maxLen) (hs1 : sku.size ≤ maxLen) (_ : -9223372036854775808 ≤ a ∧ a ≤ 9223372036854775807) (_ : -9223372036854775808 ≤ b ∧ b ≤ 9223372036854775807) :
    Calls Try.prog 7 #[.string name, .string sku, .int .i64 a, .int .i64 b, .bool seen] w fun e w' => e = .returned (.bool true) ∧ Below w.heap.size w w' := by
  have HLV := hid (lives11_any w)
  have HS0 := hid hs0
  have HS1 := hid hs1
  clear hs0 hs1
  by_cases hr : 1 ≤ a ∧ a ≤ 1000 ∧ 1 ≤ b ∧ b ≤ 1000
  rotate_left 1
  · go_enter Try.func7, Try.ntmps7
    go_wp2_with fail
    refine HLV.out.mono ?_
    rintro e w1 ⟨rfl, hb⟩
    have HB := hid hb
    clear hb
    by_cases h1 : a < 1
    · go_wp2
      go_ret
      exact ⟨rfl, HB.out⟩
    by_cases h2 : 1000 < a
    · go_wp2
      go_ret
      exact ⟨rfl, HB.out⟩
    by_cases h3 : b < 1
    · go_wp2
      go_ret
      exact ⟨rfl, HB.out⟩
    have h4 : 1000 < b := by omega
    go_wp2
    go_ret
    exact ⟨rfl, HB.out⟩
  · obtain ⟨h1, h2, h3, h4⟩ := hr
    have k1 : ¬ a < 1 := by omega
    have k2 : ¬ 1000 < a := by omega
    have k3 : ¬ b < 1 := by omega
    have k4 : ¬ 1000 < b := by omega
    cases seen
    · go_enter Try.func7, Try.ntmps7
      go_wp2_with fail
      refine HLV.out.mono ?_
      rintro e w1 ⟨rfl, hb⟩
      have HB := hid hb
      clear hb
      go_wp2_with fail
      obtain ⟨V, hV⟩ : ∃ V, V = ((w1.alloc (.cells #[.int .i64 0, .int .i64 1, .slice none 0 0, .string name, .int .i64 0, .string sku, .int .i64 a, .bool true] 29)).alloc (.cells #[.int .i64 1, .int .i64 1, .slice none 0 0, .string name, .int .i64 0, .string sku, .int .i64 b, .bool true] 29)) := ⟨_, rfl⟩
      have HBV : Hid (Below w1.heap.size w1 V) := by rw [hV]; exact ((Below.refl _ _).alloc (Nat.le_refl _) _).alloc (by simp) _
      have HKX : Hid (Blk V w1.heap.size 29 [.int .i64 0, .int .i64 1, .slice none 0 0, .string name, .int .i64 0, .string sku, .int .i64 a, .bool true]) := by rw [hV]; exact (Blk.new w1 _ _).alloc _
      have HKY : Hid (Blk V (w1.heap.size + 1) 29 [.int .i64 1, .int .i64 1, .slice none 0 0, .string name, .int .i64 0, .string sku, .int .i64 b, .bool true]) := by
        have := Blk.new (w1.alloc (.cells #[.int .i64 0, .int .i64 1, .slice none 0 0, .string name, .int .i64 0, .string sku, .int .i64 a, .bool true] 29)) 29 [.int .i64 1, .int .i64 1, .slice none 0 0, .string name, .int .i64 0, .string sku, .int .i64 b, .bool true]
        rw [World.size_alloc] at this
        rw [hV]
        exact this
      have HZ : Hid (w1.heap.size + 1 + 1 = V.heap.size) := by show _ = _; rw [hV]; simp only [World.size_alloc]
      have HOK : Hid (AllOk V [⟨kx name sku a, none, 0⟩, ⟨ky name sku b false, none, 0⟩]) := by
        intro x hx
        simp at hx
        rcases hx with rfl | rfl
        · exact ⟨hv_none _ 0, by unfold I64; simp [kx], by unfold I64; simp [kx], by unfold I64; simp [kx], i64_small (x := a) (by omega) (by omega), HS0.out, HS1.out⟩
        · exact ⟨hv_none _ 0, by unfold I64; simp [ky], by unfold I64; simp [ky], by unfold I64; simp [ky], i64_small (x := b) (by omega) (by omega), HS0.out, HS1.out⟩
      have HDL : Hid (∀ x : EvM, x ∈ [(⟨kx name sku a, none, 0⟩ : EvM), ⟨ky name sku b false, none, 0⟩] → x.e.deps.length ≤ 1048576) := by
        intro x hx
        simp at hx
        rcases hx with rfl | rfl <;> simp [kx, ky]
      have HQL : Hid (∀ x : EvM, x ∈ [(⟨kx name sku a, none, 0⟩ : EvM), ⟨ky name sku b false, none, 0⟩] → 0 ≤ x.e.qty ∧ x.e.qty ≤ 1000) := by
        intro x hx
        simp at hx
        rcases hx with rfl | rfl <;> simp [kx, ky] <;> omega
      have HL1 := hid (lines_any _ (some ⟨V.heap.size, 0, none⟩) 2 [⟨kx name sku a, none, 0⟩, ⟨ky name sku b false, none, 0⟩] 2 rfl (held_new HOK.out) (by decide) HDL.out HQL.out name)
      have HL2 := hid (fun U (hU : Below V.heap.size V U) => lines_any _ (some ⟨U.heap.size, 0, none⟩) 2 [⟨ky name sku b false, none, 0⟩, ⟨kx name sku a, none, 0⟩] 2 rfl (held_new (V := U) (fun x hx => (HOK.out x (by simp at hx ⊢; exact hx.symm)).below hU)) (by decide) (fun x hx => HDL.out x (by simp at hx ⊢; exact hx.symm)) (fun x hx => HQL.out x (by simp at hx ⊢; exact hx.symm)) name)
      have HQ1 : Hid (linesQ name ([(⟨kx name sku a, none, 0⟩ : EvM), ⟨ky name sku b false, none, 0⟩].map (·.e)) sku = a + b) := k_q name sku a b false
      have HQ2 : Hid (linesQ name ([(⟨ky name sku b false, none, 0⟩ : EvM), ⟨kx name sku a, none, 0⟩].map (·.e)) sku = a + b) := k_q' name sku a b false
      have HP1 : Hid (∀ s, 0 ≤ linesQ name ([(⟨kx name sku a, none, 0⟩ : EvM), ⟨ky name sku b false, none, 0⟩].map (·.e)) s) := linesQ_nonneg (fun e he => by obtain ⟨x, hx, rfl⟩ := List.mem_map.1 he; exact (HQL.out x hx).1)
      have HP2 : Hid (∀ s, 0 ≤ linesQ name ([(⟨ky name sku b false, none, 0⟩ : EvM), ⟨kx name sku a, none, 0⟩].map (·.e)) s) := linesQ_nonneg (fun e he => by obtain ⟨x, hx, rfl⟩ := List.mem_map.1 he; exact (HQL.out x (by simp at hx ⊢; exact hx.symm)).1)
      have HV := hid hV
      clear hV
      rw [← HV.out, HZ.out]
      generalize linesQ name ([(⟨kx name sku a, none, 0⟩ : EvM), ⟨ky name sku b false, none, 0⟩].map (·.e)) = f1 at *
      generalize linesQ name ([(⟨ky name sku b false, none, 0⟩ : EvM), ⟨kx name sku a, none, 0⟩].map (·.e)) = f2 at *
      simp only [flatE, EvM.cells, kx, ky, List.flatMap_cons, List.flatMap_nil, List.append_nil, List.cons_append, List.nil_append, List.length_nil, Bool.false_eq_true, if_false] at HL1 HL2
      refine HL1.out.mono ?_
      rintro e w2 ⟨v, ls, rfl, hls, hll, hrow, hb2⟩
      obtain ⟨n, HNL⟩ : ∃ n, Hid (ls.length = n) := ⟨_, hid rfl⟩
      rw [HNL.out] at hrow hll
      obtain ⟨ao, cap, rfl, hh⟩ := heldL_of_own HNL.out hrow
      have HO := hid (of11_any w2 ao cap ls n HNL.out hll hh sku)
      rw [linesOf_q hls HP1.out HQ1.out] at HO
      have HB2 : Hid (Below V.heap.size V w2) := bt ((Below.refl _ _).alloc (Nat.le_refl _) _) hb2
      clear hls hll hrow hb2 hh HL1
      go_wp2_with fail
      refine HO.out.mono ?_
      rintro e w3 ⟨rfl, rfl⟩
      have hkx := HKX.out.below HB2.out HKX.out.lt
      have hky := HKY.out.below HB2.out HKY.out.lt
      have x0 := hkx.cell (i := 0) rfl
      have x1 := hkx.cell (i := 1) rfl
      have x2 := hkx.cell (i := 2) rfl
      have x3 := hkx.cell (i := 3) rfl
      have x4 := hkx.cell (i := 4) rfl
      have x5 := hkx.cell (i := 5) rfl
      have x6 := hkx.cell (i := 6) rfl
      have x7 := hkx.cell (i := 7) rfl
      have y0 := hky.cell (i := 0) rfl
      have y1 := hky.cell (i := 1) rfl
      have y2 := hky.cell (i := 2) rfl
      have y3 := hky.cell (i := 3) rfl
      have y4 := hky.cell (i := 4) rfl
      have y5 := hky.cell (i := 5) rfl
      have y6 := hky.cell (i := 6) rfl
      have y7 := hky.cell (i := 7) rfl
      clear hkx hky HO
      go_wp2_with fail
      refine (HL2.out _ HB2.out).mono ?_
      rintro e w4 ⟨v, ls, rfl, hls, hll, hrow, hb4⟩
      obtain ⟨n, HNL⟩ : ∃ n, Hid (ls.length = n) := ⟨_, hid rfl⟩
      rw [HNL.out] at hrow hll
      obtain ⟨ao, cap, rfl, hh⟩ := heldL_of_own HNL.out hrow
      have HO := hid (of11_any w4 ao cap ls n HNL.out hll hh sku)
      rw [linesOf_q hls HP2.out HQ2.out] at HO
      have HB4 : Hid (Below w.heap.size w w4) := bt HB.out (bt HBV.out (bt HB2.out (bt ((Below.refl _ _).alloc (Nat.le_refl _) _) hb4)))
      clear hls hll hrow hb4 hh HL2 x0 x1 x2 x3 x4 x5 x6 x7 y0 y1 y2 y3 y4 y5 y6 y7
      go_wp2_with fail
      refine HO.out.mono ?_
      rintro e w5 ⟨rfl, rfl⟩
      go_wp2
      go_ret
      exact ⟨by simp, HB4.out⟩
    · go_enter Try.func7, Try.ntmps7
      go_wp2_with fail
      refine HLV.out.mono ?_
      rintro e w1 ⟨rfl, hb⟩
      have HB := hid hb
      clear hb
      go_wp2_with fail
      obtain ⟨V, hV⟩ : ∃ V, V = (((w1.alloc (.cells #[.int .i64 0, .int .i64 1, .slice none 0 0, .string name, .int .i64 0, .string sku, .int .i64 a, .bool true] 29)).alloc (.cells #[.int .i64 1, .int .i64 1, .slice (some ⟨w1.heap.size + 1 + 1, 0, none⟩) 1 1, .string name, .int .i64 0, .string sku, .int .i64 b, .bool true] 29)).alloc (.cells #[.int .i64 1] 3)) := ⟨_, rfl⟩
      have HBV : Hid (Below w1.heap.size w1 V) := by rw [hV]; exact (((Below.refl _ _).alloc (Nat.le_refl _) _).alloc (by simp) _).alloc (by simp; omega) _
      have HKX : Hid (Blk V w1.heap.size 29 [.int .i64 0, .int .i64 1, .slice none 0 0, .string name, .int .i64 0, .string sku, .int .i64 a, .bool true]) := by rw [hV]; exact ((Blk.new w1 _ _).alloc _).alloc _
      have HKY : Hid (Blk V (w1.heap.size + 1) 29 [.int .i64 1, .int .i64 1, .slice (some ⟨w1.heap.size + 1 + 1, 0, none⟩) 1 1, .string name, .int .i64 0, .string sku, .int .i64 b, .bool true]) := by
        have := (Blk.new (w1.alloc (.cells #[.int .i64 0, .int .i64 1, .slice none 0 0, .string name, .int .i64 0, .string sku, .int .i64 a, .bool true] 29)) 29 [.int .i64 1, .int .i64 1, .slice (some ⟨w1.heap.size + 1 + 1, 0, none⟩) 1 1, .string name, .int .i64 0, .string sku, .int .i64 b, .bool true]).alloc (.cells #[.int .i64 1] 3)
        rw [World.size_alloc] at this
        rw [hV]
        exact this
      have HB1 : Hid (Blk V (w1.heap.size + 1 + 1) 3 [.int .i64 1]) := by
        have := Blk.new ((w1.alloc (.cells #[.int .i64 0, .int .i64 1, .slice none 0 0, .string name, .int .i64 0, .string sku, .int .i64 a, .bool true] 29)).alloc (.cells #[.int .i64 1, .int .i64 1, .slice (some ⟨w1.heap.size + 1 + 1, 0, none⟩) 1 1, .string name, .int .i64 0, .string sku, .int .i64 b, .bool true] 29)) 3 [.int .i64 1]
        rw [World.size_alloc, World.size_alloc] at this
        rw [hV]
        exact this
      have HZ : Hid (w1.heap.size + 1 + 1 + 1 = V.heap.size) := by show _ = _; rw [hV]; simp only [World.size_alloc]
      have HOK : Hid (AllOk V [⟨kx name sku a, none, 0⟩, ⟨ky name sku b true, some ⟨w1.heap.size + 1 + 1, 0, none⟩, 1⟩]) := by
        intro x hx
        simp at hx
        rcases hx with rfl | rfl
        · exact ⟨hv_none _ 0, by unfold I64; simp [kx], by unfold I64; simp [kx], by unfold I64; simp [kx], i64_small (x := a) (by omega) (by omega), HS0.out, HS1.out⟩
        · exact ⟨⟨⟨fun x hx => by simp [ky] at hx; subst hx; decide, .inr ⟨_, 0, rfl, HB1.out.lt, fun j hj => by obtain rfl : j = 0 := (by simp [ky] at hj; omega); exact HB1.out.cell rfl⟩⟩, (by simp [ky]), (by simp [ky])⟩, by unfold I64; simp [ky], by unfold I64; simp [ky], by unfold I64; simp [ky], i64_small (x := b) (by omega) (by omega), HS0.out, HS1.out⟩
      have HDL : Hid (∀ x : EvM, x ∈ [(⟨kx name sku a, none, 0⟩ : EvM), ⟨ky name sku b true, some ⟨w1.heap.size + 1 + 1, 0, none⟩, 1⟩] → x.e.deps.length ≤ 1048576) := by
        intro x hx
        simp at hx
        rcases hx with rfl | rfl <;> simp [kx, ky]
      have HQL : Hid (∀ x : EvM, x ∈ [(⟨kx name sku a, none, 0⟩ : EvM), ⟨ky name sku b true, some ⟨w1.heap.size + 1 + 1, 0, none⟩, 1⟩] → 0 ≤ x.e.qty ∧ x.e.qty ≤ 1000) := by
        intro x hx
        simp at hx
        rcases hx with rfl | rfl <;> simp [kx, ky] <;> omega
      have HL1 := hid (lines_any _ (some ⟨V.heap.size, 0, none⟩) 2 [⟨kx name sku a, none, 0⟩, ⟨ky name sku b true, some ⟨w1.heap.size + 1 + 1, 0, none⟩, 1⟩] 2 rfl (held_new HOK.out) (by decide) HDL.out HQL.out name)
      have HL2 := hid (fun U (hU : Below V.heap.size V U) => lines_any _ (some ⟨U.heap.size, 0, none⟩) 2 [⟨ky name sku b true, some ⟨w1.heap.size + 1 + 1, 0, none⟩, 1⟩, ⟨kx name sku a, none, 0⟩] 2 rfl (held_new (V := U) (fun x hx => (HOK.out x (by simp at hx ⊢; exact hx.symm)).below hU)) (by decide) (fun x hx => HDL.out x (by simp at hx ⊢; exact hx.symm)) (fun x hx => HQL.out x (by simp at hx ⊢; exact hx.symm)) name)
      have HQ1 : Hid (linesQ name ([(⟨kx name sku a, none, 0⟩ : EvM), ⟨ky name sku b true, some ⟨w1.heap.size + 1 + 1, 0, none⟩, 1⟩].map (·.e)) sku = b) := k_q name sku a b true
      have HQ2 : Hid (linesQ name ([(⟨ky name sku b true, some ⟨w1.heap.size + 1 + 1, 0, none⟩, 1⟩ : EvM), ⟨kx name sku a, none, 0⟩].map (·.e)) sku = b) := k_q' name sku a b true
      have HP1 : Hid (∀ s, 0 ≤ linesQ name ([(⟨kx name sku a, none, 0⟩ : EvM), ⟨ky name sku b true, some ⟨w1.heap.size + 1 + 1, 0, none⟩, 1⟩].map (·.e)) s) := linesQ_nonneg (fun e he => by obtain ⟨x, hx, rfl⟩ := List.mem_map.1 he; exact (HQL.out x hx).1)
      have HP2 : Hid (∀ s, 0 ≤ linesQ name ([(⟨ky name sku b true, some ⟨w1.heap.size + 1 + 1, 0, none⟩, 1⟩ : EvM), ⟨kx name sku a, none, 0⟩].map (·.e)) s) := linesQ_nonneg (fun e he => by obtain ⟨x, hx, rfl⟩ := List.mem_map.1 he; exact (HQL.out x (by simp at hx ⊢; exact hx.symm)).1)
      have HV := hid hV
      clear hV
      rw [← HV.out, HZ.out]
      generalize linesQ name ([(⟨kx name sku a, none, 0⟩ : EvM), ⟨ky name sku b true, some ⟨w1.heap.size + 1 + 1, 0, none⟩, 1⟩].map (·.e)) = f1 at *
      generalize linesQ name ([(⟨ky name sku b true, some ⟨w1.heap.size + 1 + 1, 0, none⟩, 1⟩ : EvM), ⟨kx name sku a, none, 0⟩].map (·.e)) = f2 at *
      simp only [flatE, EvM.cells, kx, ky, List.flatMap_cons, List.flatMap_nil, List.append_nil, List.cons_append, List.nil_append, List.length_nil, List.length_cons, Nat.zero_add, if_true] at HL1 HL2
      refine HL1.out.mono ?_
      rintro e w2 ⟨v, ls, rfl, hls, hll, hrow, hb2⟩
      obtain ⟨n, HNL⟩ : ∃ n, Hid (ls.length = n) := ⟨_, hid rfl⟩
      rw [HNL.out] at hrow hll
      obtain ⟨ao, cap, rfl, hh⟩ := heldL_of_own HNL.out hrow
      have HO := hid (of11_any w2 ao cap ls n HNL.out hll hh sku)
      rw [linesOf_q hls HP1.out HQ1.out] at HO
      have HB2 : Hid (Below V.heap.size V w2) := bt ((Below.refl _ _).alloc (Nat.le_refl _) _) hb2
      clear hls hll hrow hb2 hh HL1
      go_wp2_with fail
      refine HO.out.mono ?_
      rintro e w3 ⟨rfl, rfl⟩
      have hkx := HKX.out.below HB2.out HKX.out.lt
      have hky := HKY.out.below HB2.out HKY.out.lt
      have x0 := hkx.cell (i := 0) rfl
      have x1 := hkx.cell (i := 1) rfl
      have x2 := hkx.cell (i := 2) rfl
      have x3 := hkx.cell (i := 3) rfl
      have x4 := hkx.cell (i := 4) rfl
      have x5 := hkx.cell (i := 5) rfl
      have x6 := hkx.cell (i := 6) rfl
      have x7 := hkx.cell (i := 7) rfl
      have y0 := hky.cell (i := 0) rfl
      have y1 := hky.cell (i := 1) rfl
      have y2 := hky.cell (i := 2) rfl
      have y3 := hky.cell (i := 3) rfl
      have y4 := hky.cell (i := 4) rfl
      have y5 := hky.cell (i := 5) rfl
      have y6 := hky.cell (i := 6) rfl
      have y7 := hky.cell (i := 7) rfl
      clear hkx hky HO
      go_wp2_with fail
      refine (HL2.out _ HB2.out).mono ?_
      rintro e w4 ⟨v, ls, rfl, hls, hll, hrow, hb4⟩
      obtain ⟨n, HNL⟩ : ∃ n, Hid (ls.length = n) := ⟨_, hid rfl⟩
      rw [HNL.out] at hrow hll
      obtain ⟨ao, cap, rfl, hh⟩ := heldL_of_own HNL.out hrow
      have HO := hid (of11_any w4 ao cap ls n HNL.out hll hh sku)
      rw [linesOf_q hls HP2.out HQ2.out] at HO
      have HB4 : Hid (Below w.heap.size w w4) := bt HB.out (bt HBV.out (bt HB2.out (bt ((Below.refl _ _).alloc (Nat.le_refl _) _) hb4)))
      clear hls hll hrow hb4 hh HL2 x0 x1 x2 x3 x4 x5 x6 x7 y0 y1 y2 y3 y4 y5 y6 y7
      go_wp2_with fail
      refine HO.out.mono ?_
      rintro e w5 ⟨rfl, rfl⟩
      go_wp2
      go_ret
      exact ⟨by simp, HB4.out⟩
end Go.Proofs.Ytdfdgijaekhioaa
