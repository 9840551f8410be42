/-
  Do of the document's machine, whatever entry comes.
-/
import Derived.Test.YtfokmldfnkonpaaSdB
import Derived.Deep.RegionHeld3
import Derived.Deep.AppendLies
import Derived.Deep.RegionLaw
namespace Go.Proofs.Ytfokmldfnkonpaa
open Go.RowKit Go.Maps

/-- What the document's Do leaves and tells. -/
def DoL (B : Nat) (w : World) (p : Nat) (v : Value) (g : Sm) (x : En) (e : Ending) (w' : World) : Prop := ∃ bo cp v', e = .returned (.tuple #[OrM.val ⟨doR g x, bo, cp⟩, .bool (decide (wayO g x = 5)), .int .i64 (codeO (wayO g x))]) ∧ HV w' bo cp (doR g x).cut ∧ (∀ b off, bo = some ⟨b, off, none⟩ → (doR g x).cut ≠ [] → b < B) ∧ RfM B w' p v' (doS g x) ∧ Turns (FootN p v) w w' ∧ (v'.ownBlock = v.ownBlock ∨ ∃ k, v'.ownBlock = some k ∧ w.heap.size ≤ k)
theorem doL_zero {B : Nat} {w w' : World} {p : Nat} {v : Value} {g : Sm} {x : En} {n : Nat} {c : Int} (hn : wayO g x = n) (h2 : n ≠ 2) (h5 : n ≠ 5) (hc : codeO n = c) (hs : RfM B w' p v (doS g x)) (ht : Turns (FootN p v) w w') : DoL B w p v g x (.returned (.tuple #[.agg #[.int .i64 0, .string ⟨#[]⟩, .string ⟨#[]⟩, .int .i64 0, .slice none 0 0], .bool false, .int .i64 c])) w' := by
  have hr : doR g x = zeroOr := by unfold doR; rw [hn, if_neg h2, if_neg h5]
  refine ⟨none, 0, v, ?_, ?_, fun b off e => (by cases e), hs, ht, .inl rfl⟩
  · rw [hr, hn, decide_eq_false h5, hc]
    rfl
  · rw [hr]
    exact hv_nilS _
theorem RfM.bump {B : Nat} {w w' : World} {p : Nat} {v : Value} {g : Sm} (h : RfM B w p v g) (hw : w' = w.setCell ⟨p, 1, none⟩ (.int .i64 ((g.dn : Int) + 1))) : RfM B w' p v ⟨g.os, g.dn + 1⟩ ∧ Turns (fun i => i = p) w w' := by
  have ht : Turns (fun i => i = p) w w' := by rw [hw]; exact (Turns.refl (fun i => i = p) w).setCell (p := ⟨p, 1, none⟩) (.inl rfl) _
  obtain ⟨xs, h1, h2, h3⟩ := h.row
  refine ⟨⟨dn_ok h.ok _, ?_, ⟨xs, h1, ht.row h2 (fun k hk e => by subst e; exact h.blk.not_row (by decide) h2 hk.symm), fun x hx => (h3 x hx).turned (fun i hi => by rw [hi]; exact h.bp) ht⟩, h.bp⟩, ht⟩
  rw [hw]
  exact h.blk.set 1 _
theorem do_finR {B : Nat} {w wX W3 : World} {p pb : Nat} {v v0 : Value} {g : Sm} (hs : RfM B wX p v g) (ht : Turns (FootN p v0) w wX) (hq : w.heap.size ≤ pb) (hB : B ≤ pb) (hnf : ¬ FootN p v pb) (h9 : Turns (fun i => i = pb) wX W3) : RfM B W3 p v g ∧ Turns (FootN p v0) w W3 :=
  ⟨hs.turned h9 (fun i hi e => hnf (by rw [← e]; exact hi)) (fun i hi => by omega), ht.trans h9 (fun i hi => .inr (by omega))⟩
theorem HeldOr.news {w : World} {ad : Addr} {xs : List OrM} (h : HeldOr w (some ad) xs) : ∀ j u, (flatO xs)[j]? = some u → w.cell? (ad.add j) = some u := by
  intro i u hu
  have hlt := (List.getElem?_eq_some_iff.1 hu).1
  rw [flatO_len] at hlt
  rcases h with h0 | ⟨b, off, e, _, h3⟩
  · subst h0
    simp at hlt
  · cases e
    have hj : i / 5 < xs.length := by omega
    have hc : xs[i / 5].cells[i % 5]? = some u := by
      have hlen : i % 5 < xs[i / 5].cells.length := by show _ < 5; omega
      have h4 := flatO_get xs (i / 5) hj (i % 5) _ (List.getElem?_eq_getElem hlen)
      rw [show i / 5 * 5 + i % 5 = i by omega] at h4
      rw [hu] at h4
      rw [List.getElem?_eq_getElem hlen, h4]
    have h5 := h3 (i / 5) hj (i % 5) u hc
    rw [Addr.add_lit]
    rw [show off + i / 5 * 5 + i % 5 = off + i by omega] at h5
    exact h5
theorem flatO_one' (xs : List OrM) : ∀ u ∈ flatO xs, u.oneCell' = true := by
  intro u hu
  obtain ⟨x, _, hx⟩ := List.mem_flatMap.1 hu
  exact or_one x u hx
/-- append of orders to a row of the call's own, in a region that draws its order. -/
theorem step_append_or {ops : Array Oper} {o : Oper} {a : Act} {w : World} {K : Act → World → Prop} {Q : Exit → Act → World → Prop} {E : Prop} (hgd : o.guard = none) (s x : Operand)
    (ho : o.op = .call { callee := .builtin .append, args := #[s, x], argTypes := #[26, 26] })
    (base : Nat) (v : Value) (n : Nat) (ds : List OrM) (hn : ds.length = n) (hs : a.eval s = v) (hown : w.ownsRow base 32 5 v n (flatO ds))
    (ao : Option Addr) (m c : Nat) (xs : List OrM) (hm : xs.length = m) (hx : a.eval x = .slice ao m c) (hh : HeldOr w ao xs) (hsum : n + m ≤ 100000000) (hbase : base ≤ w.heap.size)
    (h : ∀ bo cp w', w'.ownsRow base 32 5 (.slice bo (n + m) cp) (n + m) (flatO (ds ++ xs)) → Below base w w' → w.grownBy w' v.ownBlock → K (a.put o.dst (.slice bo (n + m) cp)) w') :
    if Region.wanted o (yielded ops a.tmps) = true then Oper.wp Try.prog o a w K Q else E := by
  have hw : Region.wanted o (yielded ops a.tmps) = true := by simp [Region.wanted, hgd]
  rw [if_pos hw]
  obtain ⟨iI, hj, hy0, hy1, hy2⟩ := info_parts Try.infoOr
  cases ao with
  | none =>
    have hx0 : xs = [] := by
      rcases hh with h0 | ⟨b, off, e, _⟩
      · exact h0
      · cases e
    subst hx0
    obtain rfl : 0 = m := hm
    have hr := run_append_noneI (P := Try.prog) w base 26 o.type 32 iI 5 Try.underlying26 hj v n c _ hown
    rw [List.append_nil] at h
    simp only [Nat.add_zero] at h
    obtain ⟨eo, cap, hv, _, _⟩ := heldOr_of_own hn hown
    unfold Oper.wp execOp
    simp only [ho, resolve, invoke, builtin, Sem.run_bind, Sem.run_pure, Result.andThen_ok, List.map_toArray, List.map_cons, List.map_nil, hs, hx, hr]
    have := h eo cap w (by rw [← hv]; exact hown) (Below.refl _ _) (World.grownBy.refl _ _)
    rw [← hv] at this
    exact this
  | some ad =>
    obtain ⟨v', w', hr, hown', hgrow, _, _⟩ := run_append_own_at (P := Try.prog) w base 26 o.type 32 iI _ 5 72 Try.underlying26 hj hy0 hy1 hy2 rfl (by decide) v n (flatO ds) hown ad m c (flatO xs) (by rw [flatO_len, hm]) hh.news (flatO_one' xs) (by unfold maxLen; omega) (by omega) hbase
    unfold Oper.wp execOp
    simp only [ho, resolve, invoke, builtin, Sem.run_bind, Sem.run_pure, Result.andThen_ok, List.map_toArray, List.map_cons, List.map_nil, hs, hx, hr]
    rw [show flatO ds ++ flatO xs = flatO (ds ++ xs) by simp [flatO]] at hown'
    have hb : Below base w w' := (Below.refl _ _).grown hgrow hbase (fun k hk => (hown.lt k hk).1)
    obtain ⟨bo, cp, rfl, _, _⟩ := heldOr_of_own (by rw [List.length_append, hn, hm]) hown'
    exact h bo cp w' hown' hb hgrow
theorem step_copy_or {ops : Array Oper} {o : Oper} {a : Act} {w : World} {K : Act → World → Prop} {Q : Exit → Act → World → Prop} {E : Prop} (hgd : o.guard = none) (s x : Operand)
    (ho : o.op = .call { callee := .builtin .append, args := #[s, x], argTypes := #[26, 26] })
    (base : Nat) (g : Nat) (hs : a.eval s = .slice (some ⟨g, 0, none⟩) 0 0) (hown : w.ownsRow base 32 5 (.slice (some ⟨g, 0, none⟩) 0 0) 0 (flatO []))
    (ao : Option Addr) (m c : Nat) (xs : List OrM) (hm : xs.length = m) (hx : a.eval x = .slice ao m c) (hh : HeldOr w ao xs) (hsum : m ≤ 100000000) (hbase : base ≤ w.heap.size)
    (h : ∀ bo cp w', w'.ownsRow base 32 5 (.slice bo m cp) m (flatO xs) → Below base w w' → w.grownBy w' (some g) → K (a.put o.dst (.slice bo m cp)) w') :
    if Region.wanted o (yielded ops a.tmps) = true then Oper.wp Try.prog o a w K Q else E := by
  refine step_append_or hgd s x ho base _ 0 [] rfl hs hown ao m c xs hm hx hh (by omega) hbase ?_
  intro bo cp w' h1 h2 h3
  rw [Nat.zero_add] at h1 ⊢
  exact h bo cp w' h1 h2 h3
theorem ownO_made (w : World) (B : Nat) (hB : B ≤ w.heap.size) : (w.alloc (.cells #[] 32)).ownsRow B 32 5 (.slice (some ⟨w.heap.size, 0, none⟩) 0 0) 0 (flatO []) :=
  ⟨rfl, .inr ⟨w.heap.size, 0, #[], rfl, hB, World.alloc_heap_new w _, Nat.le_refl _, Nat.zero_le _, rfl, rfl⟩⟩
theorem ownO_made2 (w : World) (o : Obj) (B : Nat) (hB : B ≤ w.heap.size) : ((w.alloc o).alloc (.cells #[] 32)).ownsRow B 32 5 (.slice (some ⟨w.heap.size + 1, 0, none⟩) 0 0) 0 (flatO []) := by
  have := ownO_made (w.alloc o) B (by simp; omega)
  rw [World.size_alloc] at this
  exact this
theorem held_newO (V : World) (x : OrM) : HeldOr (V.alloc (.cells x.cells.toArray 32)) (some ⟨V.heap.size, 0, none⟩) [x] := .inr ⟨V.heap.size, 0, rfl, by simp, fun j hj c u hu => by
  have hj0 : j = 0 := by simp at hj; exact hj
  subst hj0
  have h1 := (Blk.new V 32 x.cells).cell hu
  simpa using h1⟩
theorem held_grownO {w w' : World} {b g : Nat} {xs : List OrM} (h : HeldOr w (some ⟨b, 0, none⟩) xs) (hg : w.grownBy w' (some g)) (hne : b ≠ g) : HeldOr w' (some ⟨b, 0, none⟩) xs := by
  rcases h with h0 | ⟨b', off, e, h2, h3⟩
  · exact .inl h0
  · cases e
    refine .inr ⟨b, 0, rfl, Nat.lt_of_lt_of_le h2 hg.size, fun j hj c u hu => ?_⟩
    have h4 := h3 j hj c u hu
    have h5 := hg.block b h2 (by simpa using hne)
    unfold World.cell? at h4 ⊢
    rw [h5]
    exact h4
theorem ScO.grown {W V U : World} (h : ScO W V) (hb : Below W.heap.size V U) : ScO W U := ⟨h.out.trans hb⟩
theorem ScO.size {W V : World} (h : ScO W V) : W.heap.size ≤ V.heap.size := h.out.size
set_option maxRecDepth 1000000 in
set_option maxHeartbeats 2000000 in
theorem RfM.do0 {B : Nat} {w : World} {p : Nat} {v : Value} {g : Sm} (h : RfM B w p v g) (hB : B ≤ w.heap.size) (np : Bool) (tk ct : ByteArray) (ep : Int) (dp : List Int) (ao1 : Option Addr) (cap1 : Nat) (hx : EnOk w ⟨⟨np, tk, ct, ep, dp⟩, ao1, cap1⟩) (hr : ¬ RightEn ⟨np, tk, ct, ep, dp⟩ = true) :
    Calls Try.prog 11 #[.pointer (some ⟨p, 0, none⟩), .agg #[.bool np, .string tk, .string ct, .int .i64 ep, .slice ao1 dp.length cap1]] w (DoL B w p v g ⟨np, tk, ct, ep, dp⟩) := by
  obtain ⟨XN, HXN⟩ : ∃ m, Hid (dp.length = m) := ⟨_, hid rfl⟩
  obtain ⟨W0, hW0⟩ : ∃ W, W = w.alloc (.cells #[.bool np, .string tk, .string ct, .int .i64 ep, .slice ao1 XN cap1] 39) := ⟨_, rfl⟩
  obtain ⟨W, hW⟩ : ∃ W, W = W0.alloc (.cells #[.int .i64 0, .string ⟨#[]⟩, .string ⟨#[]⟩, .int .i64 0, .slice none 0 0] 32) := ⟨_, rfl⟩
  have hz0 : W0.heap.size = w.heap.size + 1 := by rw [hW0]; simp
  have hb0 : Below w.heap.size w W0 := by rw [hW0]; exact (Below.refl _ _).alloc (Nat.le_refl _) _
  have HB : Hid (Below w.heap.size w W) := by rw [hW]; exact hb0.alloc hb0.size _
  have HK : Hid (Blk W w.heap.size 39 [.bool np, .string tk, .string ct, .int .i64 ep, .slice ao1 XN cap1]) := by rw [hW, hW0]; exact (Blk.new w _ _).alloc _
  have HR : Hid (Blk W (w.heap.size + 1) 32 [.int .i64 0, .string ⟨#[]⟩, .string ⟨#[]⟩, .int .i64 0, .slice none 0 0]) := by rw [hW, ← hz0]; exact Blk.new W0 _ _
  have HW : Hid (W = (w.alloc (.cells #[.bool np, .string tk, .string ct, .int .i64 ep, .slice ao1 XN cap1] 39)).alloc (.cells #[.int .i64 0, .string ⟨#[]⟩, .string ⟨#[]⟩, .int .i64 0, .slice none 0 0] 32)) := by show _ = _; rw [hW, hW0]
  obtain ⟨q, hq⟩ : ∃ q, q = w.heap.size := ⟨_, rfl⟩
  have HQ := hid hq
  rw [← hq] at HK HR
  have H := hid h
  have HBQ : Hid (B ≤ q) := by rw [hq]; exact hB
  have HS := hid (h.below HB.out)
  have HX := hid hx
  have HMAY := hid (rentry_any W ⟨⟨np, tk, ct, ep, dp⟩, ao1, cap1⟩ (hx.below HB.out))
  have HLQ : Hid (∀ i, FootN p v i → i < q) := fun i hi => by rw [HQ.out]; exact h.lt i hi
  simp only [EnM.val] at HMAY
  rw [HXN.out] at HMAY
  rw [HXN.out]
  have c0 := HK.out.cell (i := 0) rfl
  have c1 := HK.out.cell (i := 1) rfl
  have c2 := HK.out.cell (i := 2) rfl
  have c3 := HK.out.cell (i := 3) rfl
  have c4 := HK.out.cell (i := 4) rfl
  rw [HW.out] at c0 c1 c2 c3 c4
  have HWY : Hid (wayO g ⟨np, tk, ct, ep, dp⟩ = 0) := way0 hr
  have hrf : RightEn ⟨np, tk, ct, ep, dp⟩ = false := by simpa using hr
  rw [hrf] at HMAY
  clear h hx hB hW hW0 hz0 hb0 hq hr hrf
  go_enter Try.func11, Try.ntmps11
  rw [HQ.out] at c0 c1 c2 c3 c4
  go_wp2_with fail
  rw [← HW.out, ← HQ.out]
  refine HMAY.out.mono ?_
  rintro e w2 ⟨rfl, hb2⟩
  have HB2 := hid (bt' HB.out hb2)
  have HS2 := hid (HS.out.below hb2)
  have HK2 := hid (HK.out.below hb2 HK.out.lt)
  have HR2 := hid (HR.out.below hb2 HR.out.lt)
  have HTW2 : Hid (Turns (FootN p v) w w2) := Turns.of_below HB2.out (Nat.le_refl _)
  clear c0 c1 c2 c3 c4 hb2
  have hr7 := HR2.out
  have r0 := hr7.cell (i := 0) rfl
  have r1 := hr7.cell (i := 1) rfl
  have r2 := hr7.cell (i := 2) rfl
  have r3 := hr7.cell (i := 3) rfl
  have r4 := hr7.cell (i := 4) rfl
  have q0 := hr7.frozen 0
  have q1 := hr7.frozen 1
  have q2 := hr7.frozen 2
  have q3 := hr7.frozen 3
  have q4 := hr7.frozen 4
  obtain ⟨W3, hW3⟩ : ∃ V, V = st5 w2 (q + 1) (.int .i64 0) (.string ⟨#[]⟩) (.string ⟨#[]⟩) (.int .i64 0) (.slice none 0 0) := ⟨_, rfl⟩
  have hk9 : Blk W3 (q + 1) 32 [.int .i64 0, .string ⟨#[]⟩, .string ⟨#[]⟩, .int .i64 0, .slice none 0 0] := by rw [hW3]; exact st5_blk hr7 _ _ _ _ _
  have HT9 : Hid (Turns (fun i => i = (q + 1)) w2 W3) := by rw [hW3]; exact st5_turns _ _ _ _ _ _ _
  have k0 := hk9.cell (i := 0) rfl
  have k1 := hk9.cell (i := 1) rfl
  have k2 := hk9.cell (i := 2) rfl
  have k3 := hk9.cell (i := 3) rfl
  have k4 := hk9.cell (i := 4) rfl
  have HFI := hid (do_finR HS2.out HTW2.out (by have := HQ.out; omega) (by have := HBQ.out; omega) (fun hf => by have := HLQ.out _ hf; omega) HT9.out)
  have HFS : Hid (RfM B W3 p v (doS g ⟨np, tk, ct, ep, dp⟩)) := by rw [doS_way0 HWY.out]; exact HFI.out.1
  clear hr7 hk9
  go_wp2
  unfold st5 at hW3
  rw [← hW3]
  (try simp only [Exit.inBlock, Exit.then])
  refine bodyPost_ret (v := .tuple #[.agg #[.int .i64 0, .string ⟨#[]⟩, .string ⟨#[]⟩, .int .i64 0, .slice none 0 0], .bool false, .int .i64 1]) ?_ rfl (doL_zero HWY.out (by decide) (by decide) rfl HFS.out HFI.out.2)
  rw [results_cell_tmp2 rfl]
  go_simp
set_option maxRecDepth 1000000 in
set_option maxHeartbeats 2000000 in
theorem RfM.do1 {B : Nat} {w : World} {p : Nat} {v : Value} {g : Sm} (h : RfM B w p v g) (hB : B ≤ w.heap.size) (hdn : g.dn ≤ 4611686018427387904) (np : Bool) (tk ct : ByteArray) (ep : Int) (dp : List Int) (ao1 : Option Addr) (cap1 : Nat) (hx : EnOk w ⟨⟨np, tk, ct, ep, dp⟩, ao1, cap1⟩) (hr : RightEn ⟨np, tk, ct, ep, dp⟩ = true) (hn : np = true) :
    Calls Try.prog 11 #[.pointer (some ⟨p, 0, none⟩), .agg #[.bool np, .string tk, .string ct, .int .i64 ep, .slice ao1 dp.length cap1]] w (DoL B w p v g ⟨np, tk, ct, ep, dp⟩) := by
  subst hn
  obtain ⟨XN, HXN⟩ : ∃ m, Hid (dp.length = m) := ⟨_, hid rfl⟩
  obtain ⟨W0, hW0⟩ : ∃ W, W = w.alloc (.cells #[.bool true, .string tk, .string ct, .int .i64 ep, .slice ao1 XN cap1] 39) := ⟨_, rfl⟩
  obtain ⟨W, hW⟩ : ∃ W, W = W0.alloc (.cells #[.int .i64 0, .string ⟨#[]⟩, .string ⟨#[]⟩, .int .i64 0, .slice none 0 0] 32) := ⟨_, rfl⟩
  have hz0 : W0.heap.size = w.heap.size + 1 := by rw [hW0]; simp
  have hb0 : Below w.heap.size w W0 := by rw [hW0]; exact (Below.refl _ _).alloc (Nat.le_refl _) _
  have HB : Hid (Below w.heap.size w W) := by rw [hW]; exact hb0.alloc hb0.size _
  have HK : Hid (Blk W w.heap.size 39 [.bool true, .string tk, .string ct, .int .i64 ep, .slice ao1 XN cap1]) := by rw [hW, hW0]; exact (Blk.new w _ _).alloc _
  have HR : Hid (Blk W (w.heap.size + 1) 32 [.int .i64 0, .string ⟨#[]⟩, .string ⟨#[]⟩, .int .i64 0, .slice none 0 0]) := by rw [hW, ← hz0]; exact Blk.new W0 _ _
  have HW : Hid (W = (w.alloc (.cells #[.bool true, .string tk, .string ct, .int .i64 ep, .slice ao1 XN cap1] 39)).alloc (.cells #[.int .i64 0, .string ⟨#[]⟩, .string ⟨#[]⟩, .int .i64 0, .slice none 0 0] 32)) := by show _ = _; rw [hW, hW0]
  obtain ⟨q, hq⟩ : ∃ q, q = w.heap.size := ⟨_, rfl⟩
  have HQ := hid hq
  rw [← hq] at HK HR
  have H := hid h
  have HBQ : Hid (B ≤ q) := by rw [hq]; exact hB
  have HS := hid (h.below HB.out)
  have HX := hid hx
  have HMAY := hid (rentry_any W ⟨⟨true, tk, ct, ep, dp⟩, ao1, cap1⟩ (hx.below HB.out))
  have HLQ : Hid (∀ i, FootN p v i → i < q) := fun i hi => by rw [HQ.out]; exact h.lt i hi
  simp only [EnM.val] at HMAY
  rw [HXN.out] at HMAY
  rw [HXN.out]
  have c0 := HK.out.cell (i := 0) rfl
  have c1 := HK.out.cell (i := 1) rfl
  have c2 := HK.out.cell (i := 2) rfl
  have c3 := HK.out.cell (i := 3) rfl
  have c4 := HK.out.cell (i := 4) rfl
  rw [HW.out] at c0 c1 c2 c3 c4
  have HD0 := hid hdn
  have HWY : Hid (wayO g ⟨true, tk, ct, ep, dp⟩ = 1) := way1 hr rfl
  rw [hr] at HMAY
  clear h hx hB hdn hW hW0 hz0 hb0 hq hr
  go_enter Try.func11, Try.ntmps11
  rw [HQ.out] at c0 c1 c2 c3 c4
  go_wp2_with fail
  rw [← HW.out, ← HQ.out]
  refine HMAY.out.mono ?_
  rintro e w2 ⟨rfl, hb2⟩
  have HB2 := hid (bt' HB.out hb2)
  have HS2 := hid (HS.out.below hb2)
  have HK2 := hid (HK.out.below hb2 HK.out.lt)
  have HR2 := hid (HR.out.below hb2 HR.out.lt)
  have HTW2 : Hid (Turns (FootN p v) w w2) := Turns.of_below HB2.out (Nat.le_refl _)
  clear c0 c1 c2 c3 c4 hb2
  have a3 := HS2.out.blk.cell (i := 1) rfl
  have y3 := HS2.out.blk.frozen 1
  obtain ⟨DN, HDN⟩ : ∃ d, Hid (g.dn = d) := ⟨_, hid rfl⟩
  rw [HDN.out] at a3
  have hadd : wrap64 ((DN : Int) + 1) = (DN : Int) + 1 := by have := HD0.out; rw [HDN.out] at this; exact wrapO (by omega) (by omega)
  obtain ⟨W5, hW5⟩ : ∃ V, V = w2.setCell ⟨p, 1, none⟩ (.int .i64 ((DN : Int) + 1)) := ⟨_, rfl⟩
  have HW5 := hid hW5
  have HSB := hid (HS2.out.bump (w' := W5) (by rw [HDN.out]; exact hW5))
  have HS5 := hid HSB.out.1
  have HT5 : Hid (Turns (FootN p v) w W5) := HTW2.out.trans HSB.out.2 (fun i hi => .inl (.inl hi))
  have HPQ : Hid (p < q) := HLQ.out p (.inl rfl)
  have HK5 := hid (HSB.out.2.blk HK2.out (fun e => by have := HPQ.out; omega))
  have HR5 := hid (HSB.out.2.blk HR2.out (fun e => by have := HPQ.out; omega))
  have k0 := HK5.out.cell (i := 0) rfl
  have k1 := HK5.out.cell (i := 1) rfl
  have k2 := HK5.out.cell (i := 2) rfl
  have k3 := HK5.out.cell (i := 3) rfl
  have k4 := HK5.out.cell (i := 4) rfl
  have HB5 : Hid (B ≤ W5.heap.size) := Nat.le_trans (Nat.le_trans HBQ.out (by rw [HQ.out]; exact Nat.le_refl _)) HT5.out.size
  rw [hW5] at k0 k1 k2 k3 k4
  clear hW5
  have hr7 := HR5.out
  clear HSB
  have r0z := hr7.cell (i := 0) rfl
  have r1z := hr7.cell (i := 1) rfl
  have r2z := hr7.cell (i := 2) rfl
  have r3z := hr7.cell (i := 3) rfl
  have r4z := hr7.cell (i := 4) rfl
  have q0z := hr7.frozen 0
  have q1z := hr7.frozen 1
  have q2z := hr7.frozen 2
  have q3z := hr7.frozen 3
  have q4z := hr7.frozen 4
  obtain ⟨W3, hW3⟩ : ∃ V, V = st5 W5 (q + 1) (.int .i64 0) (.string ⟨#[]⟩) (.string ⟨#[]⟩) (.int .i64 0) (.slice none 0 0) := ⟨_, rfl⟩
  have hk9z : Blk W3 (q + 1) 32 [.int .i64 0, .string ⟨#[]⟩, .string ⟨#[]⟩, .int .i64 0, .slice none 0 0] := by rw [hW3]; exact st5_blk hr7 _ _ _ _ _
  have HT9z : Hid (Turns (fun i => i = (q + 1)) W5 W3) := by rw [hW3]; exact st5_turns _ _ _ _ _ _ _
  have k0z := hk9z.cell (i := 0) rfl
  have k1z := hk9z.cell (i := 1) rfl
  have k2z := hk9z.cell (i := 2) rfl
  have k3z := hk9z.cell (i := 3) rfl
  have k4z := hk9z.cell (i := 4) rfl
  have HFI := hid (do_finR HS5.out HT5.out (by have := HQ.out; omega) (by have := HBQ.out; omega) (fun hf => by have := HLQ.out _ hf; omega) HT9z.out)
  have HFS : Hid (RfM B W3 p v (doS g ⟨true, tk, ct, ep, dp⟩)) := by rw [doS_way HWY.out (by decide) (by decide)]; exact HFI.out.1
  clear hr7 hk9z
  rw [HW5.out] at r0z r1z r2z r3z r4z q0z q1z q2z q3z q4z hW3
  go_wp2
  unfold st5 at hW3
  rw [← hW3]
  (try simp only [Exit.inBlock, Exit.then])
  refine bodyPost_ret (v := .tuple #[.agg #[.int .i64 0, .string ⟨#[]⟩, .string ⟨#[]⟩, .int .i64 0, .slice none 0 0], .bool false, .int .i64 0]) ?_ rfl (doL_zero HWY.out (by decide) (by decide) rfl HFS.out HFI.out.2)
  rw [results_cell_tmp2 rfl]
  go_simp
set_option maxRecDepth 1000000 in
set_option maxHeartbeats 2000000 in
theorem RfM.do2 {B : Nat} {w : World} {p : Nat} {v : Value} {g : Sm} (h : RfM B w p v g) (hB : B ≤ w.heap.size) (hdn : g.dn ≤ 4611686018427387904) (np : Bool) (tk ct : ByteArray) (ep : Int) (dp : List Int) (ao1 : Option Addr) (cap1 : Nat) (hx : EnOk w ⟨⟨np, tk, ct, ep, dp⟩, ao1, cap1⟩) (hr : RightEn ⟨np, tk, ct, ep, dp⟩ = true) (hn : np = false) (oid oep : Int) (otk oct : ByteArray) (odp : List Int) (hf : findO tk g.os = some ⟨oid, otk, oct, oep, odp⟩) :
    Calls Try.prog 11 #[.pointer (some ⟨p, 0, none⟩), .agg #[.bool np, .string tk, .string ct, .int .i64 ep, .slice ao1 dp.length cap1]] w (DoL B w p v g ⟨np, tk, ct, ep, dp⟩) := by
  subst hn
  obtain ⟨XN, HXN⟩ : ∃ m, Hid (dp.length = m) := ⟨_, hid rfl⟩
  obtain ⟨W0, hW0⟩ : ∃ W, W = w.alloc (.cells #[.bool false, .string tk, .string ct, .int .i64 ep, .slice ao1 XN cap1] 39) := ⟨_, rfl⟩
  obtain ⟨W, hW⟩ : ∃ W, W = W0.alloc (.cells #[.int .i64 0, .string ⟨#[]⟩, .string ⟨#[]⟩, .int .i64 0, .slice none 0 0] 32) := ⟨_, rfl⟩
  have hz0 : W0.heap.size = w.heap.size + 1 := by rw [hW0]; simp
  have hb0 : Below w.heap.size w W0 := by rw [hW0]; exact (Below.refl _ _).alloc (Nat.le_refl _) _
  have HB : Hid (Below w.heap.size w W) := by rw [hW]; exact hb0.alloc hb0.size _
  have HK : Hid (Blk W w.heap.size 39 [.bool false, .string tk, .string ct, .int .i64 ep, .slice ao1 XN cap1]) := by rw [hW, hW0]; exact (Blk.new w _ _).alloc _
  have HR : Hid (Blk W (w.heap.size + 1) 32 [.int .i64 0, .string ⟨#[]⟩, .string ⟨#[]⟩, .int .i64 0, .slice none 0 0]) := by rw [hW, ← hz0]; exact Blk.new W0 _ _
  have HW : Hid (W = (w.alloc (.cells #[.bool false, .string tk, .string ct, .int .i64 ep, .slice ao1 XN cap1] 39)).alloc (.cells #[.int .i64 0, .string ⟨#[]⟩, .string ⟨#[]⟩, .int .i64 0, .slice none 0 0] 32)) := by show _ = _; rw [hW, hW0]
  obtain ⟨q, hq⟩ : ∃ q, q = w.heap.size := ⟨_, rfl⟩
  have HQ := hid hq
  rw [← hq] at HK HR
  have H := hid h
  have HBQ : Hid (B ≤ q) := by rw [hq]; exact hB
  have HS := hid (h.below HB.out)
  have HX := hid hx
  have HMAY := hid (rentry_any W ⟨⟨false, tk, ct, ep, dp⟩, ao1, cap1⟩ (hx.below HB.out))
  have HLQ : Hid (∀ i, FootN p v i → i < q) := fun i hi => by rw [HQ.out]; exact h.lt i hi
  simp only [EnM.val] at HMAY
  rw [HXN.out] at HMAY
  rw [HXN.out]
  have c0 := HK.out.cell (i := 0) rfl
  have c1 := HK.out.cell (i := 1) rfl
  have c2 := HK.out.cell (i := 2) rfl
  have c3 := HK.out.cell (i := 3) rfl
  have c4 := HK.out.cell (i := 4) rfl
  rw [HW.out] at c0 c1 c2 c3 c4
  have HD0 := hid hdn
  have HWY : Hid (wayO g ⟨false, tk, ct, ep, dp⟩ = 2) := way2 hr rfl hf
  have HFO := hid hf
  obtain ⟨ON, HON⟩ : ∃ m, Hid (odp.length = m) := ⟨_, hid rfl⟩
  rw [hr] at HMAY
  clear h hx hB hdn hW hW0 hz0 hb0 hq hr hf
  go_enter Try.func11, Try.ntmps11
  rw [HQ.out] at c0 c1 c2 c3 c4
  go_wp2_with fail
  rw [← HW.out, ← HQ.out]
  refine HMAY.out.mono ?_
  rintro e w2 ⟨rfl, hb2⟩
  have HB2 := hid (bt' HB.out hb2)
  have HS2 := hid (HS.out.below hb2)
  have HK2 := hid (HK.out.below hb2 HK.out.lt)
  have HR2 := hid (HR.out.below hb2 HR.out.lt)
  have HTW2 : Hid (Turns (FootN p v) w w2) := Turns.of_below HB2.out (Nat.le_refl _)
  clear c0 c1 c2 c3 c4 hb2
  have a3 := HS2.out.blk.cell (i := 1) rfl
  have y3 := HS2.out.blk.frozen 1
  obtain ⟨DN, HDN⟩ : ∃ d, Hid (g.dn = d) := ⟨_, hid rfl⟩
  rw [HDN.out] at a3
  have hadd : wrap64 ((DN : Int) + 1) = (DN : Int) + 1 := by have := HD0.out; rw [HDN.out] at this; exact wrapO (by omega) (by omega)
  obtain ⟨W5, hW5⟩ : ∃ V, V = w2.setCell ⟨p, 1, none⟩ (.int .i64 ((DN : Int) + 1)) := ⟨_, rfl⟩
  have HW5 := hid hW5
  have HSB := hid (HS2.out.bump (w' := W5) (by rw [HDN.out]; exact hW5))
  have HS5 := hid HSB.out.1
  have HT5 : Hid (Turns (FootN p v) w W5) := HTW2.out.trans HSB.out.2 (fun i hi => .inl (.inl hi))
  have HPQ : Hid (p < q) := HLQ.out p (.inl rfl)
  have HK5 := hid (HSB.out.2.blk HK2.out (fun e => by have := HPQ.out; omega))
  have HR5 := hid (HSB.out.2.blk HR2.out (fun e => by have := HPQ.out; omega))
  have k0 := HK5.out.cell (i := 0) rfl
  have k1 := HK5.out.cell (i := 1) rfl
  have k2 := HK5.out.cell (i := 2) rfl
  have k3 := HK5.out.cell (i := 3) rfl
  have k4 := HK5.out.cell (i := 4) rfl
  have HB5 : Hid (B ≤ W5.heap.size) := Nat.le_trans (Nat.le_trans HBQ.out (by rw [HQ.out]; exact Nat.le_refl _)) HT5.out.size
  rw [hW5] at k0 k1 k2 k3 k4
  clear hW5
  have HTK : Hid (Calls Try.prog 17 #[.pointer (some ⟨p, 0, none⟩), .string tk] W5 fun e w' => ∃ bo cp, e = .returned (.tuple #[.agg #[.int .i64 oid, .string otk, .string oct, .int .i64 oep, .slice bo ON cp], .bool true]) ∧ Hid (HV w' bo cp odp ∧ ∀ b off, bo = some ⟨b, off, none⟩ → odp ≠ [] → b < B) ∧ Below W5.heap.size W5 w') := by
    have h1 := HS5.out.token HB5.out tk
    simp only at h1
    rw [HFO.out] at h1
    refine h1.mono ?_
    rintro e w' ⟨bo, cp, rfl, h2, h3, h4⟩
    refine ⟨bo, cp, ?_, ⟨h2, h3⟩, h4⟩
    simp only [OrM.val, Option.getD_some, Option.isSome_some]
    rw [HON.out]
  clear HSB
  go_wp2_with fail
  rw [← HW5.out]
  refine HTK.out.mono ?_
  rintro e w6 ⟨bo, cp, rfl, HV6, hb6⟩
  obtain ⟨W7, hW7⟩ : ∃ V, V = w6.alloc (.cells #[.int .i64 oid, .string otk, .string oct, .int .i64 oep, .slice bo ON cp] 32) := ⟨_, rfl⟩
  have hb7 : Below w6.heap.size w6 W7 := by rw [hW7]; exact (Below.refl _ _).alloc (Nat.le_refl _) _
  have hb57 := bt' hb6 hb7
  have HS7 := hid (HS5.out.below hb57)
  have hr7 := HR5.out.below hb57 HR5.out.lt
  have HT7 : Hid (Turns (FootN p v) w W7) := HT5.out.trans (Turns.of_below (F := fun _ => False) hb57 (Nat.le_refl _)) (fun _ h => h.elim)
  have HV7 : Hid (HV W7 bo cp odp ∧ ∀ b off, bo = some ⟨b, off, none⟩ → odp ≠ [] → b < B) := ⟨HV6.out.1.below hb7, HV6.out.2⟩
  have HW7 := hid hW7
  have r0z := hr7.cell (i := 0) rfl
  have r1z := hr7.cell (i := 1) rfl
  have r2z := hr7.cell (i := 2) rfl
  have r3z := hr7.cell (i := 3) rfl
  have r4z := hr7.cell (i := 4) rfl
  have q0z := hr7.frozen 0
  have q1z := hr7.frozen 1
  have q2z := hr7.frozen 2
  have q3z := hr7.frozen 3
  have q4z := hr7.frozen 4
  obtain ⟨W3, hW3⟩ : ∃ V, V = st5 W7 (q + 1) (.int .i64 oid) (.string otk) (.string oct) (.int .i64 oep) (.slice bo ON cp) := ⟨_, rfl⟩
  have hk9z : Blk W3 (q + 1) 32 [.int .i64 oid, .string otk, .string oct, .int .i64 oep, .slice bo ON cp] := by rw [hW3]; exact st5_blk hr7 _ _ _ _ _
  have HT9z : Hid (Turns (fun i => i = (q + 1)) W7 W3) := by rw [hW3]; exact st5_turns _ _ _ _ _ _ _
  have k0z := hk9z.cell (i := 0) rfl
  have k1z := hk9z.cell (i := 1) rfl
  have k2z := hk9z.cell (i := 2) rfl
  have k3z := hk9z.cell (i := 3) rfl
  have k4z := hk9z.cell (i := 4) rfl
  have HFI := hid (do_finR HS7.out HT7.out (by have := HQ.out; omega) (by have := HBQ.out; omega) (fun hf => by have := HLQ.out _ hf; omega) HT9z.out)
  have HFS : Hid (RfM B W3 p v (doS g ⟨false, tk, ct, ep, dp⟩)) := by rw [doS_way HWY.out (by decide) (by decide)]; exact HFI.out.1
  have HPO : Hid (∀ e, e = Ending.returned (.tuple #[.agg #[.int .i64 oid, .string otk, .string oct, .int .i64 oep, .slice bo ON cp], .bool false, .int .i64 0]) → DoL B w p v g ⟨false, tk, ct, ep, dp⟩ e W3) := fun e he => by
    have hdr : doR g ⟨false, tk, ct, ep, dp⟩ = ⟨oid, otk, oct, oep, odp⟩ := by unfold doR; rw [if_pos HWY.out, HFO.out]; rfl
    refine ⟨bo, cp, v, ?_, ?_, ?_, HFS.out, HFI.out.2, .inl rfl⟩
    · rw [he, hdr, HWY.out]
      simp only [OrM.val]
      rw [HON.out]
      rfl
    · rw [hdr]
      exact ⟨HV7.out.1.held.turned HT9z.out (fun b off e hne hF => by have := HV7.out.2 b off e hne; have := HBQ.out; omega), HV7.out.1.room, HV7.out.1.few⟩
    · rw [hdr]
      exact HV7.out.2
  have m7 : Blk W7 w6.heap.size 32 [.int .i64 oid, .string otk, .string oct, .int .i64 oep, .slice bo ON cp] := by rw [hW7]; exact Blk.new w6 _ _
  rw [hW7] at m7 r0z r1z r2z r3z r4z q0z q1z q2z q3z q4z
  have l0 := m7.cell (i := 0) rfl
  have l1 := m7.cell (i := 1) rfl
  have l2 := m7.cell (i := 2) rfl
  have l3 := m7.cell (i := 3) rfl
  have l4 := m7.cell (i := 4) rfl
  clear hr7 hk9z hb6 hb7 hb57 m7
  rw [hW7] at hW3
  clear hW7
  go_wp2
  unfold st5 at hW3
  rw [← hW3]
  (try simp only [Exit.inBlock, Exit.then])
  refine bodyPost_ret (v := .tuple #[.agg #[.int .i64 oid, .string otk, .string oct, .int .i64 oep, .slice bo ON cp], .bool false, .int .i64 0]) ?_ rfl (HPO.out _ rfl)
  rw [results_cell_tmp2 rfl]
  go_simp
set_option maxRecDepth 1000000 in
set_option maxHeartbeats 2000000 in
theorem RfM.do3 {B : Nat} {w : World} {p : Nat} {v : Value} {g : Sm} (h : RfM B w p v g) (hB : B ≤ w.heap.size) (hdn : g.dn ≤ 4611686018427387904) (np : Bool) (tk ct : ByteArray) (ep : Int) (dp : List Int) (ao1 : Option Addr) (cap1 : Nat) (hx : EnOk w ⟨⟨np, tk, ct, ep, dp⟩, ao1, cap1⟩) (hr : RightEn ⟨np, tk, ct, ep, dp⟩ = true) (hn : np = false) (hf : findO tk g.os = none) (he : ep ≠ (cntO ct g.os : Int)) :
    Calls Try.prog 11 #[.pointer (some ⟨p, 0, none⟩), .agg #[.bool np, .string tk, .string ct, .int .i64 ep, .slice ao1 dp.length cap1]] w (DoL B w p v g ⟨np, tk, ct, ep, dp⟩) := by
  subst hn
  obtain ⟨XN, HXN⟩ : ∃ m, Hid (dp.length = m) := ⟨_, hid rfl⟩
  obtain ⟨W0, hW0⟩ : ∃ W, W = w.alloc (.cells #[.bool false, .string tk, .string ct, .int .i64 ep, .slice ao1 XN cap1] 39) := ⟨_, rfl⟩
  obtain ⟨W, hW⟩ : ∃ W, W = W0.alloc (.cells #[.int .i64 0, .string ⟨#[]⟩, .string ⟨#[]⟩, .int .i64 0, .slice none 0 0] 32) := ⟨_, rfl⟩
  have hz0 : W0.heap.size = w.heap.size + 1 := by rw [hW0]; simp
  have hb0 : Below w.heap.size w W0 := by rw [hW0]; exact (Below.refl _ _).alloc (Nat.le_refl _) _
  have HB : Hid (Below w.heap.size w W) := by rw [hW]; exact hb0.alloc hb0.size _
  have HK : Hid (Blk W w.heap.size 39 [.bool false, .string tk, .string ct, .int .i64 ep, .slice ao1 XN cap1]) := by rw [hW, hW0]; exact (Blk.new w _ _).alloc _
  have HR : Hid (Blk W (w.heap.size + 1) 32 [.int .i64 0, .string ⟨#[]⟩, .string ⟨#[]⟩, .int .i64 0, .slice none 0 0]) := by rw [hW, ← hz0]; exact Blk.new W0 _ _
  have HW : Hid (W = (w.alloc (.cells #[.bool false, .string tk, .string ct, .int .i64 ep, .slice ao1 XN cap1] 39)).alloc (.cells #[.int .i64 0, .string ⟨#[]⟩, .string ⟨#[]⟩, .int .i64 0, .slice none 0 0] 32)) := by show _ = _; rw [hW, hW0]
  obtain ⟨q, hq⟩ : ∃ q, q = w.heap.size := ⟨_, rfl⟩
  have HQ := hid hq
  rw [← hq] at HK HR
  have H := hid h
  have HBQ : Hid (B ≤ q) := by rw [hq]; exact hB
  have HS := hid (h.below HB.out)
  have HX := hid hx
  have HMAY := hid (rentry_any W ⟨⟨false, tk, ct, ep, dp⟩, ao1, cap1⟩ (hx.below HB.out))
  have HLQ : Hid (∀ i, FootN p v i → i < q) := fun i hi => by rw [HQ.out]; exact h.lt i hi
  simp only [EnM.val] at HMAY
  rw [HXN.out] at HMAY
  rw [HXN.out]
  have c0 := HK.out.cell (i := 0) rfl
  have c1 := HK.out.cell (i := 1) rfl
  have c2 := HK.out.cell (i := 2) rfl
  have c3 := HK.out.cell (i := 3) rfl
  have c4 := HK.out.cell (i := 4) rfl
  rw [HW.out] at c0 c1 c2 c3 c4
  have HD0 := hid hdn
  have HWY : Hid (wayO g ⟨false, tk, ct, ep, dp⟩ = 3) := way3 hr rfl hf he
  have HFO := hid hf
  obtain ⟨cn, HCN⟩ : ∃ c : Nat, Hid (cntO ct g.os = c) := ⟨_, hid rfl⟩
  have hbn : (ep != (cn : Int)) = true := by rw [← HCN.out]; simpa using he
  rw [hr] at HMAY
  clear h hx hB hdn hW hW0 hz0 hb0 hq hr hf he
  go_enter Try.func11, Try.ntmps11
  rw [HQ.out] at c0 c1 c2 c3 c4
  go_wp2_with fail
  rw [← HW.out, ← HQ.out]
  refine HMAY.out.mono ?_
  rintro e w2 ⟨rfl, hb2⟩
  have HB2 := hid (bt' HB.out hb2)
  have HS2 := hid (HS.out.below hb2)
  have HK2 := hid (HK.out.below hb2 HK.out.lt)
  have HR2 := hid (HR.out.below hb2 HR.out.lt)
  have HTW2 : Hid (Turns (FootN p v) w w2) := Turns.of_below HB2.out (Nat.le_refl _)
  clear c0 c1 c2 c3 c4 hb2
  have a3 := HS2.out.blk.cell (i := 1) rfl
  have y3 := HS2.out.blk.frozen 1
  obtain ⟨DN, HDN⟩ : ∃ d, Hid (g.dn = d) := ⟨_, hid rfl⟩
  rw [HDN.out] at a3
  have hadd : wrap64 ((DN : Int) + 1) = (DN : Int) + 1 := by have := HD0.out; rw [HDN.out] at this; exact wrapO (by omega) (by omega)
  obtain ⟨W5, hW5⟩ : ∃ V, V = w2.setCell ⟨p, 1, none⟩ (.int .i64 ((DN : Int) + 1)) := ⟨_, rfl⟩
  have HW5 := hid hW5
  have HSB := hid (HS2.out.bump (w' := W5) (by rw [HDN.out]; exact hW5))
  have HS5 := hid HSB.out.1
  have HT5 : Hid (Turns (FootN p v) w W5) := HTW2.out.trans HSB.out.2 (fun i hi => .inl (.inl hi))
  have HPQ : Hid (p < q) := HLQ.out p (.inl rfl)
  have HK5 := hid (HSB.out.2.blk HK2.out (fun e => by have := HPQ.out; omega))
  have HR5 := hid (HSB.out.2.blk HR2.out (fun e => by have := HPQ.out; omega))
  have k0 := HK5.out.cell (i := 0) rfl
  have k1 := HK5.out.cell (i := 1) rfl
  have k2 := HK5.out.cell (i := 2) rfl
  have k3 := HK5.out.cell (i := 3) rfl
  have k4 := HK5.out.cell (i := 4) rfl
  have HB5 : Hid (B ≤ W5.heap.size) := Nat.le_trans (Nat.le_trans HBQ.out (by rw [HQ.out]; exact Nat.le_refl _)) HT5.out.size
  rw [hW5] at k0 k1 k2 k3 k4
  clear hW5
  have HTK : Hid (Calls Try.prog 17 #[.pointer (some ⟨p, 0, none⟩), .string tk] W5 fun e w' => ∃ bo cp, e = .returned (.tuple #[.agg #[.int .i64 0, .string ⟨#[]⟩, .string ⟨#[]⟩, .int .i64 0, .slice bo 0 cp], .bool false]) ∧ Below W5.heap.size W5 w') := by
    have h1 := HS5.out.token HB5.out tk
    simp only at h1
    rw [HFO.out] at h1
    refine h1.mono ?_
    rintro e w' ⟨bo, cp, rfl, _, _, h4⟩
    exact ⟨bo, cp, rfl, h4⟩
  clear HSB
  go_wp2_with fail
  rw [← HW5.out]
  refine HTK.out.mono ?_
  rintro e w6 ⟨bo, cp, rfl, hb6⟩
  obtain ⟨W7, hW7⟩ : ∃ V, V = w6.alloc (.cells #[.int .i64 0, .string ⟨#[]⟩, .string ⟨#[]⟩, .int .i64 0, .slice bo 0 cp] 32) := ⟨_, rfl⟩
  have hb7 : Below w6.heap.size w6 W7 := by rw [hW7]; exact (Below.refl _ _).alloc (Nat.le_refl _) _
  have hb57 := bt' hb6 hb7
  have HS7 := hid (HS5.out.below hb57)
  have HR7 := hid (HR5.out.below hb57 HR5.out.lt)
  have HK7 := hid (HK5.out.below hb57 HK5.out.lt)
  have HT7 : Hid (Turns (FootN p v) w W7) := HT5.out.trans (Turns.of_below (F := fun _ => False) hb57 (Nat.le_refl _)) (fun _ h => h.elim)
  have HW7 := hid hW7
  clear hb6 hb7 hb57 hW7
  go_wp2
  rw [← HW7.out]
  have j1 := HK7.out.cell (i := 1) rfl
  have j2 := HK7.out.cell (i := 2) rfl
  have j3 := HK7.out.cell (i := 3) rfl
  have HEPO : Hid (∀ n, Calls Try.prog 21 #[.pointer (some ⟨p, 0, none⟩), .string ct] (W7.drewN n) fun e w' => e = .returned (.int .i64 cn) ∧ w' = W7.drewN n) := fun n => by
    have h1 := (HS7.out.below (below_dn (Below.refl _ _) n)).epoch ct
    simp only at h1
    rw [HCN.out] at h1
    exact h1
  go_quiet (first | (go_at_call 21; refine Calls.quiet_of_same (HEPO.out _)))
  obtain ⟨W8, hW8⟩ : ∃ V, V = W7.drewN nq := ⟨_, rfl⟩
  have hb8 : Below W7.heap.size W7 W8 := by rw [hW8]; exact below_dn (Below.refl _ _) nq
  have HS8 := hid (HS7.out.below hb8)
  have HR8 := hid (HR7.out.below hb8 HR7.out.lt)
  have HK8 := hid (HK7.out.below hb8 HK7.out.lt)
  have HT8 : Hid (Turns (FootN p v) w W8) := HT7.out.trans (Turns.of_below (F := fun _ => False) hb8 (Nat.le_refl _)) (fun _ h => h.elim)
  rw [← hW8]
  have j1 := HK8.out.cell (i := 1) rfl
  have j2 := HK8.out.cell (i := 2) rfl
  have j3 := HK8.out.cell (i := 3) rfl
  clear hW8 hb8
  have hr7 := HR8.out
  have r0z := hr7.cell (i := 0) rfl
  have r1z := hr7.cell (i := 1) rfl
  have r2z := hr7.cell (i := 2) rfl
  have r3z := hr7.cell (i := 3) rfl
  have r4z := hr7.cell (i := 4) rfl
  have q0z := hr7.frozen 0
  have q1z := hr7.frozen 1
  have q2z := hr7.frozen 2
  have q3z := hr7.frozen 3
  have q4z := hr7.frozen 4
  obtain ⟨W3, hW3⟩ : ∃ V, V = st5 W8 (q + 1) (.int .i64 0) (.string ⟨#[]⟩) (.string ⟨#[]⟩) (.int .i64 0) (.slice none 0 0) := ⟨_, rfl⟩
  have hk9z : Blk W3 (q + 1) 32 [.int .i64 0, .string ⟨#[]⟩, .string ⟨#[]⟩, .int .i64 0, .slice none 0 0] := by rw [hW3]; exact st5_blk hr7 _ _ _ _ _
  have HT9z : Hid (Turns (fun i => i = (q + 1)) W8 W3) := by rw [hW3]; exact st5_turns _ _ _ _ _ _ _
  have k0z := hk9z.cell (i := 0) rfl
  have k1z := hk9z.cell (i := 1) rfl
  have k2z := hk9z.cell (i := 2) rfl
  have k3z := hk9z.cell (i := 3) rfl
  have k4z := hk9z.cell (i := 4) rfl
  have HFI := hid (do_finR HS8.out HT8.out (by have := HQ.out; omega) (by have := HBQ.out; omega) (fun hf => by have := HLQ.out _ hf; omega) HT9z.out)
  have HFS : Hid (RfM B W3 p v (doS g ⟨false, tk, ct, ep, dp⟩)) := by rw [doS_way HWY.out (by decide) (by decide)]; exact HFI.out.1
  clear hr7 hk9z
  go_wp2
  unfold st5 at hW3
  rw [← hW3]
  (try simp only [Exit.inBlock, Exit.then])
  refine bodyPost_ret (v := .tuple #[.agg #[.int .i64 0, .string ⟨#[]⟩, .string ⟨#[]⟩, .int .i64 0, .slice none 0 0], .bool false, .int .i64 190]) ?_ rfl (doL_zero HWY.out (by decide) (by decide) rfl HFS.out HFI.out.2)
  rw [results_cell_tmp2 rfl]
  go_simp
set_option maxRecDepth 1000000 in
set_option maxHeartbeats 2000000 in
theorem RfM.do4 {B : Nat} {w : World} {p : Nat} {v : Value} {g : Sm} (h : RfM B w p v g) (hB : B ≤ w.heap.size) (hdn : g.dn ≤ 4611686018427387904) (np : Bool) (tk ct : ByteArray) (ep : Int) (dp : List Int) (ao1 : Option Addr) (cap1 : Nat) (hx : EnOk w ⟨⟨np, tk, ct, ep, dp⟩, ao1, cap1⟩) (hr : RightEn ⟨np, tk, ct, ep, dp⟩ = true) (hn : np = false) (hf : findO tk g.os = none) (he : ep = (cntO ct g.os : Int)) (hl : 65536 ≤ g.os.length) :
    Calls Try.prog 11 #[.pointer (some ⟨p, 0, none⟩), .agg #[.bool np, .string tk, .string ct, .int .i64 ep, .slice ao1 dp.length cap1]] w (DoL B w p v g ⟨np, tk, ct, ep, dp⟩) := by
  obtain ⟨zs, ao, cap, hv, _, hz1, hzh, hzl⟩ := h.rowAt
  have HV0 := hid hv
  clear hv
  clear hz1 hzh hzl
  subst hn
  obtain ⟨XN, HXN⟩ : ∃ m, Hid (dp.length = m) := ⟨_, hid rfl⟩
  obtain ⟨W0, hW0⟩ : ∃ W, W = w.alloc (.cells #[.bool false, .string tk, .string ct, .int .i64 ep, .slice ao1 XN cap1] 39) := ⟨_, rfl⟩
  obtain ⟨W, hW⟩ : ∃ W, W = W0.alloc (.cells #[.int .i64 0, .string ⟨#[]⟩, .string ⟨#[]⟩, .int .i64 0, .slice none 0 0] 32) := ⟨_, rfl⟩
  have hz0 : W0.heap.size = w.heap.size + 1 := by rw [hW0]; simp
  have hb0 : Below w.heap.size w W0 := by rw [hW0]; exact (Below.refl _ _).alloc (Nat.le_refl _) _
  have HB : Hid (Below w.heap.size w W) := by rw [hW]; exact hb0.alloc hb0.size _
  have HK : Hid (Blk W w.heap.size 39 [.bool false, .string tk, .string ct, .int .i64 ep, .slice ao1 XN cap1]) := by rw [hW, hW0]; exact (Blk.new w _ _).alloc _
  have HR : Hid (Blk W (w.heap.size + 1) 32 [.int .i64 0, .string ⟨#[]⟩, .string ⟨#[]⟩, .int .i64 0, .slice none 0 0]) := by rw [hW, ← hz0]; exact Blk.new W0 _ _
  have HW : Hid (W = (w.alloc (.cells #[.bool false, .string tk, .string ct, .int .i64 ep, .slice ao1 XN cap1] 39)).alloc (.cells #[.int .i64 0, .string ⟨#[]⟩, .string ⟨#[]⟩, .int .i64 0, .slice none 0 0] 32)) := by show _ = _; rw [hW, hW0]
  obtain ⟨q, hq⟩ : ∃ q, q = w.heap.size := ⟨_, rfl⟩
  have HQ := hid hq
  rw [← hq] at HK HR
  have H := hid h
  have HBQ : Hid (B ≤ q) := by rw [hq]; exact hB
  have HS := hid (h.below HB.out)
  have HX := hid hx
  have HMAY := hid (rentry_any W ⟨⟨false, tk, ct, ep, dp⟩, ao1, cap1⟩ (hx.below HB.out))
  have HLQ : Hid (∀ i, FootN p v i → i < q) := fun i hi => by rw [HQ.out]; exact h.lt i hi
  simp only [EnM.val] at HMAY
  rw [HXN.out] at HMAY
  rw [HXN.out]
  have c0 := HK.out.cell (i := 0) rfl
  have c1 := HK.out.cell (i := 1) rfl
  have c2 := HK.out.cell (i := 2) rfl
  have c3 := HK.out.cell (i := 3) rfl
  have c4 := HK.out.cell (i := 4) rfl
  rw [HW.out] at c0 c1 c2 c3 c4
  have HD0 := hid hdn
  have HWY : Hid (wayO g ⟨false, tk, ct, ep, dp⟩ = 4) := way4 hr rfl hf he hl
  have HFO := hid hf
  obtain ⟨cn, HCN⟩ : ∃ c : Nat, Hid (cntO ct g.os = c) := ⟨_, hid rfl⟩
  have hbn : (ep != (cn : Int)) = false := by rw [← HCN.out]; simpa using he
  obtain ⟨N, HN⟩ : ∃ N, Hid (g.os.length = N) := ⟨_, hid rfl⟩
  have hle : (65536 : Int) ≤ (N : Int) := by rw [← HN.out]; omega
  rw [hr] at HMAY
  clear h hx hB hdn hW hW0 hz0 hb0 hq hr hf he hl
  go_enter Try.func11, Try.ntmps11
  rw [HQ.out] at c0 c1 c2 c3 c4
  go_wp2_with fail
  rw [← HW.out, ← HQ.out]
  refine HMAY.out.mono ?_
  rintro e w2 ⟨rfl, hb2⟩
  have HB2 := hid (bt' HB.out hb2)
  have HS2 := hid (HS.out.below hb2)
  have HK2 := hid (HK.out.below hb2 HK.out.lt)
  have HR2 := hid (HR.out.below hb2 HR.out.lt)
  have HTW2 : Hid (Turns (FootN p v) w w2) := Turns.of_below HB2.out (Nat.le_refl _)
  clear c0 c1 c2 c3 c4 hb2
  have a3 := HS2.out.blk.cell (i := 1) rfl
  have y3 := HS2.out.blk.frozen 1
  obtain ⟨DN, HDN⟩ : ∃ d, Hid (g.dn = d) := ⟨_, hid rfl⟩
  rw [HDN.out] at a3
  have hadd : wrap64 ((DN : Int) + 1) = (DN : Int) + 1 := by have := HD0.out; rw [HDN.out] at this; exact wrapO (by omega) (by omega)
  obtain ⟨W5, hW5⟩ : ∃ V, V = w2.setCell ⟨p, 1, none⟩ (.int .i64 ((DN : Int) + 1)) := ⟨_, rfl⟩
  have HW5 := hid hW5
  have HSB := hid (HS2.out.bump (w' := W5) (by rw [HDN.out]; exact hW5))
  have HS5 := hid HSB.out.1
  have HT5 : Hid (Turns (FootN p v) w W5) := HTW2.out.trans HSB.out.2 (fun i hi => .inl (.inl hi))
  have HPQ : Hid (p < q) := HLQ.out p (.inl rfl)
  have HK5 := hid (HSB.out.2.blk HK2.out (fun e => by have := HPQ.out; omega))
  have HR5 := hid (HSB.out.2.blk HR2.out (fun e => by have := HPQ.out; omega))
  have k0 := HK5.out.cell (i := 0) rfl
  have k1 := HK5.out.cell (i := 1) rfl
  have k2 := HK5.out.cell (i := 2) rfl
  have k3 := HK5.out.cell (i := 3) rfl
  have k4 := HK5.out.cell (i := 4) rfl
  have HB5 : Hid (B ≤ W5.heap.size) := Nat.le_trans (Nat.le_trans HBQ.out (by rw [HQ.out]; exact Nat.le_refl _)) HT5.out.size
  rw [hW5] at k0 k1 k2 k3 k4
  clear hW5
  have HTK : Hid (Calls Try.prog 17 #[.pointer (some ⟨p, 0, none⟩), .string tk] W5 fun e w' => ∃ bo cp, e = .returned (.tuple #[.agg #[.int .i64 0, .string ⟨#[]⟩, .string ⟨#[]⟩, .int .i64 0, .slice bo 0 cp], .bool false]) ∧ Below W5.heap.size W5 w') := by
    have h1 := HS5.out.token HB5.out tk
    simp only at h1
    rw [HFO.out] at h1
    refine h1.mono ?_
    rintro e w' ⟨bo, cp, rfl, _, _, h4⟩
    exact ⟨bo, cp, rfl, h4⟩
  clear HSB
  go_wp2_with fail
  rw [← HW5.out]
  refine HTK.out.mono ?_
  rintro e w6 ⟨bo, cp, rfl, hb6⟩
  obtain ⟨W7, hW7⟩ : ∃ V, V = w6.alloc (.cells #[.int .i64 0, .string ⟨#[]⟩, .string ⟨#[]⟩, .int .i64 0, .slice bo 0 cp] 32) := ⟨_, rfl⟩
  have hb7 : Below w6.heap.size w6 W7 := by rw [hW7]; exact (Below.refl _ _).alloc (Nat.le_refl _) _
  have hb57 := bt' hb6 hb7
  have HS7 := hid (HS5.out.below hb57)
  have HR7 := hid (HR5.out.below hb57 HR5.out.lt)
  have HK7 := hid (HK5.out.below hb57 HK5.out.lt)
  have HT7 : Hid (Turns (FootN p v) w W7) := HT5.out.trans (Turns.of_below (F := fun _ => False) hb57 (Nat.le_refl _)) (fun _ h => h.elim)
  have HW7 := hid hW7
  clear hb6 hb7 hb57 hW7
  go_wp2
  rw [← HW7.out]
  have j1 := HK7.out.cell (i := 1) rfl
  have j2 := HK7.out.cell (i := 2) rfl
  have j3 := HK7.out.cell (i := 3) rfl
  have HEPO : Hid (∀ n, Calls Try.prog 21 #[.pointer (some ⟨p, 0, none⟩), .string ct] (W7.drewN n) fun e w' => e = .returned (.int .i64 cn) ∧ w' = W7.drewN n) := fun n => by
    have h1 := (HS7.out.below (below_dn (Below.refl _ _) n)).epoch ct
    simp only at h1
    rw [HCN.out] at h1
    exact h1
  go_quiet (first | (go_at_call 21; refine Calls.quiet_of_same (HEPO.out _)))
  obtain ⟨W8, hW8⟩ : ∃ V, V = W7.drewN nq := ⟨_, rfl⟩
  have hb8 : Below W7.heap.size W7 W8 := by rw [hW8]; exact below_dn (Below.refl _ _) nq
  have HS8 := hid (HS7.out.below hb8)
  have HR8 := hid (HR7.out.below hb8 HR7.out.lt)
  have HK8 := hid (HK7.out.below hb8 HK7.out.lt)
  have HT8 : Hid (Turns (FootN p v) w W8) := HT7.out.trans (Turns.of_below (F := fun _ => False) hb8 (Nat.le_refl _)) (fun _ h => h.elim)
  rw [← hW8]
  have j1 := HK8.out.cell (i := 1) rfl
  have j2 := HK8.out.cell (i := 2) rfl
  have j3 := HK8.out.cell (i := 3) rfl
  clear hW8 hb8
  have hr7 := HR8.out
  have r0z := hr7.cell (i := 0) rfl
  have r1z := hr7.cell (i := 1) rfl
  have r2z := hr7.cell (i := 2) rfl
  have r3z := hr7.cell (i := 3) rfl
  have r4z := hr7.cell (i := 4) rfl
  have q0z := hr7.frozen 0
  have q1z := hr7.frozen 1
  have q2z := hr7.frozen 2
  have q3z := hr7.frozen 3
  have q4z := hr7.frozen 4
  obtain ⟨W3, hW3⟩ : ∃ V, V = st5 W8 (q + 1) (.int .i64 0) (.string ⟨#[]⟩) (.string ⟨#[]⟩) (.int .i64 0) (.slice none 0 0) := ⟨_, rfl⟩
  have hk9z : Blk W3 (q + 1) 32 [.int .i64 0, .string ⟨#[]⟩, .string ⟨#[]⟩, .int .i64 0, .slice none 0 0] := by rw [hW3]; exact st5_blk hr7 _ _ _ _ _
  have HT9z : Hid (Turns (fun i => i = (q + 1)) W8 W3) := by rw [hW3]; exact st5_turns _ _ _ _ _ _ _
  have k0z := hk9z.cell (i := 0) rfl
  have k1z := hk9z.cell (i := 1) rfl
  have k2z := hk9z.cell (i := 2) rfl
  have k3z := hk9z.cell (i := 3) rfl
  have k4z := hk9z.cell (i := 4) rfl
  have HFI := hid (do_finR HS8.out HT8.out (by have := HQ.out; omega) (by have := HBQ.out; omega) (fun hf => by have := HLQ.out _ hf; omega) HT9z.out)
  have HFS : Hid (RfM B W3 p v (doS g ⟨false, tk, ct, ep, dp⟩)) := by rw [doS_way HWY.out (by decide) (by decide)]; exact HFI.out.1
  have a0 := HS8.out.blk.cell (i := 0) rfl
  rw [HV0.out, HN.out] at a0
  clear hr7 hk9z
  go_wp2
  unfold st5 at hW3
  rw [← hW3]
  (try simp only [Exit.inBlock, Exit.then])
  refine bodyPost_ret (v := .tuple #[.agg #[.int .i64 0, .string ⟨#[]⟩, .string ⟨#[]⟩, .int .i64 0, .slice none 0 0], .bool false, .int .i64 2]) ?_ rfl (doL_zero HWY.out (by decide) (by decide) rfl HFS.out HFI.out.2)
  rw [results_cell_tmp2 rfl]
  go_simp
end Go.Proofs.Ytfokmldfnkonpaa
