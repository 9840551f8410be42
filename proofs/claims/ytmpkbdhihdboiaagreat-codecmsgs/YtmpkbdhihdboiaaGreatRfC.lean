/-
  The document's writers (pannierref01): an entry, an event, each in one form.
-/
import Derived.Test.YtmpkbdhihdboiaaGreatRfB
namespace Go.Proofs.YtmpkbdhihdboiaaGreat
open Go.RowKit Go.Maps
attribute [local go_sem] Oper.semAt_some

theorem reventW (w : World) (x : EvM) (hf : EvF x.e) (hv : HV w x.ao x.cap x.e.deps) : Calls Tryz.prog 49 #[x.val] w (WrP (encEvC x.e) w) := by
  obtain ⟨⟨o, s, dp, ct, ep, sk, q, b⟩, ao, cap⟩ := x
  cases b
  · exact revent_false w o s ao cap dp ct ep sk q hf hv
  · exact revent_true w o s ao cap dp ct ep sk q hf hv
set_option maxRecDepth 100000 in
set_option maxHeartbeats 1000000 in
theorem rentryN (w : World) (tk ct : ByteArray) (ep : Int) (ao : Option Addr) (n cap : Nat) :
    Calls Tryz.prog 47 #[.agg #[.bool true, .string tk, .string ct, .int .i64 ep, .slice ao n cap]] w (WrP [1] w) := by
  obtain ⟨W, hW⟩ : ∃ W, W = w.alloc (.cells #[.bool true, .string tk, .string ct, .int .i64 ep, .slice ao n cap] 28) := ⟨_, rfl⟩
  have HB : Hid (Below w.heap.size w W) := by rw [hW]; exact (Below.refl _ _).alloc (Nat.le_refl _) _
  have HK : Hid (Blk W w.heap.size 28 [.bool true, .string tk, .string ct, .int .i64 ep, .slice ao n cap]) := by rw [hW]; exact Blk.new w _ _
  have HW := hid hW
  have c0 := HK.out.cell (i := 0) rfl
  rw [HW.out] at c0
  clear hW
  go_enter Tryz.func47, Tryz.ntmps47
  go_wp2
  go_ret
  rw [← HW.out]
  have h1 := Rw.one (B := w.heap.size) W 1 (by decide) HB.out.size
  have hs : W.heap.size = w.heap.size + 1 := by rw [HW.out]; simp
  rw [hs] at h1
  refine ⟨_, rfl, ?_, HB.out.alloc HB.out.size _⟩
  exact h1.own
set_option maxRecDepth 100000 in
set_option maxHeartbeats 1000000 in
theorem rentryS (w : World) (tk ct : ByteArray) (ep : Int) (ao : Option Addr) (cap : Nat) (cut : List Int) (hf : SeF ⟨false, tk, ct, ep, cut⟩) (hv : HV w ao cap cut) :
    Calls Tryz.prog 47 #[.agg #[.bool false, .string tk, .string ct, .int .i64 ep, .slice ao cut.length cap]] w (WrP ([0] ++ encSe ⟨false, tk, ct, ep, cut⟩) w) := by
  have l1 := se_len hf
  obtain ⟨XN, HXN⟩ : ∃ m, Hid (cut.length = m) := ⟨_, hid rfl⟩
  obtain ⟨W, hW⟩ : ∃ W, W = w.alloc (.cells #[.bool false, .string tk, .string ct, .int .i64 ep, .slice ao cut.length cap] 28) := ⟨_, rfl⟩
  have HB : Hid (Below w.heap.size w W) := by rw [hW]; exact (Below.refl _ _).alloc (Nat.le_refl _) _
  have HK : Hid (Blk W w.heap.size 28 [.bool false, .string tk, .string ct, .int .i64 ep, .slice ao cut.length cap]) := by rw [hW]; exact Blk.new w _ _
  obtain ⟨U, hU⟩ : ∃ U, U = W.alloc (.cells #[.int .u8 0] 5) := ⟨_, rfl⟩
  have HBU : Hid (Below w.heap.size w U) := by rw [hU]; exact HB.out.alloc HB.out.size _
  have HR0 : Hid (Rw w.heap.size U W.heap.size (.slice (some ⟨W.heap.size, 0, none⟩) 1 1) [0]) := by rw [hU]; exact Rw.one W 0 (by decide) HB.out.size
  have HKU : Hid (Blk U w.heap.size 28 [.bool false, .string tk, .string ct, .int .i64 ep, .slice ao cut.length cap]) := by
    rw [hU]
    exact HK.out.below ((Below.refl W.heap.size W).alloc (Nat.le_refl _) _) HK.out.lt
  obtain ⟨b1, HE⟩ : ∃ b, Hid (encSe ⟨false, tk, ct, ep, cut⟩ = b ∧ b.length ≤ 200) := ⟨_, hid ⟨rfl, l1⟩⟩
  have HC : Hid (Calls Tryz.prog 78 #[.agg #[.string tk, .string ct, .int .i64 ep, .slice ao cut.length cap]] U (EncP w.heap.size w U b1)) := by
    have h := rsealW U tk ct ep ao cap cut false hf (hv.below HBU.out)
    rw [← HE.out.1]
    exact enc_step h (encSe_byP _) (by unfold encSe; simp only [List.length_append]; have := enc_pos ep.toNat; omega) HBU.out (Nat.le_refl _)
  rw [HE.out.1]
  rw [HXN.out] at HC HK HKU hW ⊢
  have HL : Hid (([0] : List Int).length + b1.length ≤ 140737488355328) := by have := HE.out.2; show _ ≤ _; simp only [List.length_cons, List.length_nil]; omega
  have hsz : W.heap.size = w.heap.size + 1 := by rw [hW]; simp
  have HSZ := hid hsz
  have HBL : Hid (w.heap.size ≤ w.heap.size) := Nat.le_refl _
  have HW := hid hW
  have HU := hid hU
  have c0 := HK.out.cell (i := 0) rfl
  have d1 := HKU.out.cell (i := 1) rfl
  have d2 := HKU.out.cell (i := 2) rfl
  have d3 := HKU.out.cell (i := 3) rfl
  have d4 := HKU.out.cell (i := 4) rfl
  rw [HU.out] at d1 d2 d3 d4
  rw [HW.out] at c0 d1 d2 d3 d4
  clear hW hU hf hv l1 hsz HE HXN
  go_enter Tryz.func47, Tryz.ntmps47
  go_wp2_with fail
  rw [← HW.out, ← HU.out]
  refine HC.out.mono ?_
  rintro e w1 ⟨v1, g1, rfl, hr1, hb1, hk1⟩
  rw [HSZ.out] at HR0
  go_wp2_with (at_builtin; refine wpList_append_rw _ rfl _ _ rfl w.heap.size w _ g1 _ v1 [0] b1 rfl rfl (hk1.out _ _ _ HR0.out).1 hr1.out HL.out hb1 HBL.out ?_; rintro v3 w3 ⟨g3, hr3, hb3, hk3⟩)
  have HB3 := hid hb3
  clear hb1 hb3 HC c0 d1 d2 d3 d4
  go_wp2
  go_ret
  exact ⟨_, rfl, hr3.out.own, HB3.out⟩
theorem rentryW (w : World) (x : EnM) (hf : x.e.noop = false → SeF x.e) (hv : HV w x.ao x.cap x.e.cut) : Calls Tryz.prog 47 #[x.val] w (WrP (encEn x.e) w) := by
  obtain ⟨⟨np, tk, ct, ep, cut⟩, ao, cap⟩ := x
  cases np
  · exact rentryS w tk ct ep ao cap cut (hf rfl) hv
  · have he : encEn ⟨true, tk, ct, ep, cut⟩ = [1] := by unfold encEn encBC; simp
    rw [he]
    exact rentryN w tk ct ep ao cut.length cap
end Go.Proofs.YtmpkbdhihdboiaaGreat
