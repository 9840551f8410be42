/-
  pannierlaw01.CodecApart answers true at every input.
-/
import Derived.Test.YtjjgojjllbdpkaaApA
import Derived.Deep.CutRange
import Derived.Deep.CutBlock
import Derived.Deep.QuietTactic
import Derived.BigQuiet
import Derived.Deep.RegionHeld3
namespace Go.Proofs.Ytjjgojjllbdpkaa
open Go.RowKit Go.Maps

theorem bytes_ne {a b : ByteArray} (h : ¬ a = b) : ¬ a.toList = b.toList := fun e => h (bytes_injC e)
set_option maxRecDepth 1000000 in
set_option maxHeartbeats 8000000 in
theorem codecApart_walk (x y : MsM) (u v : EvM) (w : World) (hx : MsOk w x) (hy : MsOk w y) (hu : EvOk w u) (hv : EvOk w v) :
    Calls Try.prog 3 #[x.val, y.val, u.val, v.val] w fun e w' => e = .returned (.bool true) ∧ Below w.heap.size w w' := by
  have HMA := hid (fun V (hV : Below w.heap.size w V) => msgT V x (hx.below hV))
  have HMB := hid (fun V (hV : Below w.heap.size w V) => msgT V y (hy.below hV))
  have HEA := hid (fun V (hV : Below w.heap.size w V) => eventT V u (hu.below hV))
  have HEB := hid (fun V (hV : Below w.heap.size w V) => eventT V v (hv.below hV))
  have HSM : Hid (RightMs x = true → ∀ V, Below w.heap.size w V → Calls Try.prog 7 #[x.val, y.val] V fun e w' => e = .returned (.bool (decide (x.d = y.d))) ∧ Below V.heap.size V w') := fun hr V hV => by
    have hf := rightMs_iff hr
    exact sameMsg_A V x y (hx.below hV) (hy.below hV) (by have := hf.vl; omega) (by have := hf.el; omega)
  have HSE := hid (fun V (hV : Below w.heap.size w V) => sameEv_any V u v (hu.below hV) (hv.below hV))
  have HDM := hid (fun (hr : RightMs x = true) (hq : RightMs y = true) => encMs_apart hr hq)
  have HDE := hid (fun (hr : RightEv u.e = true) (hq : RightEv v.e = true) => encEv_apart hr hq)
  generalize decide (x.d = y.d) = DM at *
  generalize decide (u.e = v.e) = DE at *
  generalize RightMs x = okA at *
  generalize RightMs y = okB at *
  generalize RightEv u.e = okE at *
  generalize RightEv v.e = okG at *
  generalize encMs x = bsA at *
  generalize encMs y = bsB at *
  generalize encEv u.e = bsE at *
  generalize encEv v.e = bsG at *
  clear hx hy hu hv
  obtain ⟨k1, f1, t1, ⟨r1, n1⟩, l1, ⟨⟨np1, tk1, ct1, ep1, dp1⟩, ao1, ca1⟩, vo1, vc1, vs1, so1, sc1, se1, eo1, ec1, es1, ti1⟩ := x
  obtain ⟨k2, f2, t2, ⟨r2, n2⟩, l2, ⟨⟨np2, tk2, ct2, ep2, dp2⟩, ao2, ca2⟩, vo2, vc2, vs2, so2, sc2, se2, eo2, ec2, es2, ti2⟩ := y
  obtain ⟨⟨o3, q3, dd3, c3, g3, u3, z3, b3⟩, do3, dc3⟩ := u
  obtain ⟨⟨o4, q4, dd4, c4, g4, u4, z4, b4⟩, do4, dc4⟩ := v
  simp only [MsM.val, EvM.val] at HMA HMB HEA HEB HSM HSE ⊢
  generalize dp1.length = XN1 at *
  generalize dp2.length = XN2 at *
  generalize vs1.length = VN1 at *
  generalize vs2.length = VN2 at *
  generalize se1.length = SN1 at *
  generalize se2.length = SN2 at *
  generalize es1.length = EN1 at *
  generalize es2.length = EN2 at *
  generalize dd3.length = DN3 at *
  generalize dd4.length = DN4 at *
  obtain ⟨W, hW⟩ : ∃ W, W = (((w.alloc (.cells #[.int .i64 k1, .int .i64 f1, .int .i64 t1, .int .i64 r1, .int .i64 n1, .int .i64 l1, .bool np1, .string tk1, .string ct1, .int .i64 ep1, .slice ao1 XN1 ca1, .slice vo1 VN1 vc1, .slice so1 SN1 sc1, .slice eo1 EN1 ec1, .int .i64 ti1] 32)).alloc (.cells #[.int .i64 k2, .int .i64 f2, .int .i64 t2, .int .i64 r2, .int .i64 n2, .int .i64 l2, .bool np2, .string tk2, .string ct2, .int .i64 ep2, .slice ao2 XN2 ca2, .slice vo2 VN2 vc2, .slice so2 SN2 sc2, .slice eo2 EN2 ec2, .int .i64 ti2] 32)).alloc (.cells #[.int .i64 o3, .int .i64 q3, .slice do3 DN3 dc3, .string c3, .int .i64 g3, .string u3, .int .i64 z3, .bool b3] 36)).alloc (.cells #[.int .i64 o4, .int .i64 q4, .slice do4 DN4 dc4, .string c4, .int .i64 g4, .string u4, .int .i64 z4, .bool b4] 36) := ⟨_, rfl⟩
  have HB : Hid (Below w.heap.size w W) := by rw [hW]; exact ((((Below.refl _ _).alloc (Nat.le_refl _) _).alloc (by simp) _).alloc (by simp; omega) _).alloc (by simp; omega) _
  have HBX : Hid (∀ V, Below W.heap.size W V → Below w.heap.size w V) := fun V hV => bt' HB.out hV
  have HK : Hid (Blk W w.heap.size 32 [.int .i64 k1, .int .i64 f1, .int .i64 t1, .int .i64 r1, .int .i64 n1, .int .i64 l1, .bool np1, .string tk1, .string ct1, .int .i64 ep1, .slice ao1 XN1 ca1, .slice vo1 VN1 vc1, .slice so1 SN1 sc1, .slice eo1 EN1 ec1, .int .i64 ti1] ∧ Blk W (w.heap.size + 1) 32 [.int .i64 k2, .int .i64 f2, .int .i64 t2, .int .i64 r2, .int .i64 n2, .int .i64 l2, .bool np2, .string tk2, .string ct2, .int .i64 ep2, .slice ao2 XN2 ca2, .slice vo2 VN2 vc2, .slice so2 SN2 sc2, .slice eo2 EN2 ec2, .int .i64 ti2] ∧ Blk W (w.heap.size + 1 + 1) 36 [.int .i64 o3, .int .i64 q3, .slice do3 DN3 dc3, .string c3, .int .i64 g3, .string u3, .int .i64 z3, .bool b3] ∧ Blk W (w.heap.size + 1 + 1 + 1) 36 [.int .i64 o4, .int .i64 q4, .slice do4 DN4 dc4, .string c4, .int .i64 g4, .string u4, .int .i64 z4, .bool b4]) := by
    rw [hW]
    refine ⟨(((Blk.new w _ _).alloc _).alloc _).alloc _, ?_, ?_, ?_⟩
    · have h1 := ((Blk.new (w.alloc (.cells #[.int .i64 k1, .int .i64 f1, .int .i64 t1, .int .i64 r1, .int .i64 n1, .int .i64 l1, .bool np1, .string tk1, .string ct1, .int .i64 ep1, .slice ao1 XN1 ca1, .slice vo1 VN1 vc1, .slice so1 SN1 sc1, .slice eo1 EN1 ec1, .int .i64 ti1] 32)) 32 [.int .i64 k2, .int .i64 f2, .int .i64 t2, .int .i64 r2, .int .i64 n2, .int .i64 l2, .bool np2, .string tk2, .string ct2, .int .i64 ep2, .slice ao2 XN2 ca2, .slice vo2 VN2 vc2, .slice so2 SN2 sc2, .slice eo2 EN2 ec2, .int .i64 ti2]).alloc (.cells #[.int .i64 o3, .int .i64 q3, .slice do3 DN3 dc3, .string c3, .int .i64 g3, .string u3, .int .i64 z3, .bool b3] 36)).alloc (.cells #[.int .i64 o4, .int .i64 q4, .slice do4 DN4 dc4, .string c4, .int .i64 g4, .string u4, .int .i64 z4, .bool b4] 36)
      rw [World.size_alloc] at h1
      exact h1
    · have h1 := (Blk.new ((w.alloc (.cells #[.int .i64 k1, .int .i64 f1, .int .i64 t1, .int .i64 r1, .int .i64 n1, .int .i64 l1, .bool np1, .string tk1, .string ct1, .int .i64 ep1, .slice ao1 XN1 ca1, .slice vo1 VN1 vc1, .slice so1 SN1 sc1, .slice eo1 EN1 ec1, .int .i64 ti1] 32)).alloc (.cells #[.int .i64 k2, .int .i64 f2, .int .i64 t2, .int .i64 r2, .int .i64 n2, .int .i64 l2, .bool np2, .string tk2, .string ct2, .int .i64 ep2, .slice ao2 XN2 ca2, .slice vo2 VN2 vc2, .slice so2 SN2 sc2, .slice eo2 EN2 ec2, .int .i64 ti2] 32)) 36 [.int .i64 o3, .int .i64 q3, .slice do3 DN3 dc3, .string c3, .int .i64 g3, .string u3, .int .i64 z3, .bool b3]).alloc (.cells #[.int .i64 o4, .int .i64 q4, .slice do4 DN4 dc4, .string c4, .int .i64 g4, .string u4, .int .i64 z4, .bool b4] 36)
      rw [World.size_alloc, World.size_alloc] at h1
      exact h1
    · have h1 := Blk.new (((w.alloc (.cells #[.int .i64 k1, .int .i64 f1, .int .i64 t1, .int .i64 r1, .int .i64 n1, .int .i64 l1, .bool np1, .string tk1, .string ct1, .int .i64 ep1, .slice ao1 XN1 ca1, .slice vo1 VN1 vc1, .slice so1 SN1 sc1, .slice eo1 EN1 ec1, .int .i64 ti1] 32)).alloc (.cells #[.int .i64 k2, .int .i64 f2, .int .i64 t2, .int .i64 r2, .int .i64 n2, .int .i64 l2, .bool np2, .string tk2, .string ct2, .int .i64 ep2, .slice ao2 XN2 ca2, .slice vo2 VN2 vc2, .slice so2 SN2 sc2, .slice eo2 EN2 ec2, .int .i64 ti2] 32)).alloc (.cells #[.int .i64 o3, .int .i64 q3, .slice do3 DN3 dc3, .string c3, .int .i64 g3, .string u3, .int .i64 z3, .bool b3] 36)) 36 [.int .i64 o4, .int .i64 q4, .slice do4 DN4 dc4, .string c4, .int .i64 g4, .string u4, .int .i64 z4, .bool b4]
      rw [World.size_alloc, World.size_alloc, World.size_alloc] at h1
      exact h1
  obtain ⟨p4, hp4⟩ : ∃ p, p = w.heap.size + 1 + 1 + 1 := ⟨_, rfl⟩
  obtain ⟨p3, hp3⟩ : ∃ p, p = w.heap.size + 1 + 1 := ⟨_, rfl⟩
  obtain ⟨p2, hp2⟩ : ∃ p, p = w.heap.size + 1 := ⟨_, rfl⟩
  obtain ⟨p1, hp1⟩ : ∃ p, p = w.heap.size := ⟨_, rfl⟩
  rw [← hp4, ← hp3, ← hp2, ← hp1] at HK
  have HW := hid hW
  have HP4 := hid hp4
  have HP3 := hid hp3
  have HP2 := hid hp2
  have HP1 := hid hp1
  clear hW hp4 hp3 hp2 hp1
  have jk := (HK.out.1).below (Below.refl _ _) (HK.out.1).lt
  have a0 := jk.cell (i := 0) rfl
  have a1 := jk.cell (i := 1) rfl
  have a2 := jk.cell (i := 2) rfl
  have a3 := jk.cell (i := 3) rfl
  have a4 := jk.cell (i := 4) rfl
  have a5 := jk.cell (i := 5) rfl
  have a6 := jk.cell (i := 6) rfl
  have a7 := jk.cell (i := 7) rfl
  have a8 := jk.cell (i := 8) rfl
  have a9 := jk.cell (i := 9) rfl
  have a10 := jk.cell (i := 10) rfl
  have a11 := jk.cell (i := 11) rfl
  have a12 := jk.cell (i := 12) rfl
  have a13 := jk.cell (i := 13) rfl
  have a14 := jk.cell (i := 14) rfl
  clear jk
  go_enter Try.func3, Try.ntmps3
  go_upto_region 1 with fail
  rw [← HW.out, ← HP4.out, ← HP3.out, ← HP2.out, ← HP1.out]
  clear HW HP4 HP3 HP2 HP1
  go_wp2_with fail
  refine (HMA.out W HB.out).mono ?_
  rintro e w1 ⟨ao5, n5, cp5, c5, rfl, ht5, hb1⟩
  have HT5 := hid ht5
  have HB1 := hid hb1
  clear ht5 hb1
  clear a0 a1 a2 a3 a4 a5 a6 a7 a8 a9 a10 a11 a12 a13 a14
  have jk := (HK.out.2.1).below HB1.out (HK.out.2.1).lt
  have b0 := jk.cell (i := 0) rfl
  have b1 := jk.cell (i := 1) rfl
  have b2 := jk.cell (i := 2) rfl
  have b3 := jk.cell (i := 3) rfl
  have b4 := jk.cell (i := 4) rfl
  have b5 := jk.cell (i := 5) rfl
  have b6 := jk.cell (i := 6) rfl
  have b7 := jk.cell (i := 7) rfl
  have b8 := jk.cell (i := 8) rfl
  have b9 := jk.cell (i := 9) rfl
  have b10 := jk.cell (i := 10) rfl
  have b11 := jk.cell (i := 11) rfl
  have b12 := jk.cell (i := 12) rfl
  have b13 := jk.cell (i := 13) rfl
  have b14 := jk.cell (i := 14) rfl
  clear jk
  go_wp2_with fail
  refine (HMB.out w1 (HBX.out w1 HB1.out)).mono ?_
  rintro e w2 ⟨ao6, n6, cp6, c6, rfl, ht6, hb2⟩
  have HT6 := hid ht6
  have HB2 := hid (bt' HB1.out hb2)
  have HB12 := hid hb2
  clear ht6 hb2
  clear b0 b1 b2 b3 b4 b5 b6 b7 b8 b9 b10 b11 b12 b13 b14
  have jk := (HK.out.2.2.1).below HB2.out (HK.out.2.2.1).lt
  have d0 := jk.cell (i := 0) rfl
  have d1 := jk.cell (i := 1) rfl
  have d2 := jk.cell (i := 2) rfl
  have d3 := jk.cell (i := 3) rfl
  have d4 := jk.cell (i := 4) rfl
  have d5 := jk.cell (i := 5) rfl
  have d6 := jk.cell (i := 6) rfl
  have d7 := jk.cell (i := 7) rfl
  clear jk
  go_wp2_with fail
  refine (HEA.out w2 (HBX.out w2 HB2.out)).mono ?_
  rintro e w3 ⟨ao7, n7, cp7, c7, rfl, ht7, hb3⟩
  have HT7 := hid ht7
  have HB3 := hid (bt' HB2.out hb3)
  have HB23 := hid hb3
  clear ht7 hb3
  clear d0 d1 d2 d3 d4 d5 d6 d7
  have jk := (HK.out.2.2.2).below HB3.out (HK.out.2.2.2).lt
  have h0 := jk.cell (i := 0) rfl
  have h1 := jk.cell (i := 1) rfl
  have h2 := jk.cell (i := 2) rfl
  have h3 := jk.cell (i := 3) rfl
  have h4 := jk.cell (i := 4) rfl
  have h5 := jk.cell (i := 5) rfl
  have h6 := jk.cell (i := 6) rfl
  have h7 := jk.cell (i := 7) rfl
  clear jk
  go_wp2_with fail
  refine (HEB.out w3 (HBX.out w3 HB3.out)).mono ?_
  rintro e w4 ⟨ao8, n8, cp8, c8, rfl, ht8, hb4⟩
  have HT8 := hid ht8
  have HB4 := hid (bt' HB3.out hb4)
  have HB34 := hid hb4
  clear ht8 hb4
  clear h0 h1 h2 h3 h4 h5 h6 h7
  go_wp2_with fail
  refine (lives_any _).mono ?_
  rintro e w5 ⟨rfl, hb5⟩
  have HB5 := hid (bt' HB4.out hb5)
  have HC5 : Hid (c5 = 0 → okA = true ∧ Held w5 ao5 n5 cp5 bsA) := fun h => ⟨(HT5.out h).1, (HT5.out h).2.below (bt' (bt' (bt' HB12.out HB23.out) HB34.out) hb5) (Nat.le_refl _)⟩
  have HC6 : Hid (c6 = 0 → okB = true ∧ Held w5 ao6 n6 cp6 bsB) := fun h => ⟨(HT6.out h).1, (HT6.out h).2.below (bt' (bt' HB23.out HB34.out) hb5) (Nat.le_refl _)⟩
  have HC7 : Hid (c7 = 0 → okE = true ∧ Held w5 ao7 n7 cp7 bsE) := fun h => ⟨(HT7.out h).1, (HT7.out h).2.below (bt' HB34.out hb5) (Nat.le_refl _)⟩
  have HC8 : Hid (c8 = 0 → okG = true ∧ Held w5 ao8 n8 cp8 bsG) := fun h => ⟨(HT8.out h).1, (HT8.out h).2.below hb5 (Nat.le_refl _)⟩
  clear hb5 HT5 HT6 HT7 HT8 HB12 HB23 HB34 HB1 HB2 HB3 HB4 HMA HMB HEA HEB
  go_upto_region 7 with fail
  go_cut [55] from 39 to 55 (fun s55 wx => s55 = .bool false ∧ Hid (Below w5.heap.size w5 wx))
  case first =>
    by_cases h5 : c5 = 0
    · by_cases h6 : c6 = 0
      · have i5 := HC5.out h5
        have i6 := HC6.out h6
        subst h5 h6
        obtain ⟨S1, hS1⟩ : ∃ S, S = strOfNums bsA := ⟨_, rfl⟩
        obtain ⟨S2, hS2⟩ : ∃ S, S = strOfNums bsB := ⟨_, rfl⟩
        have hDD : decide (S1 = S2) = DM := by rw [hS1, hS2]; exact HDM.out i5.1 i6.1
        have HSA : Hid (∀ V, ScP w5 V → (ScP w5 V ∧ (convert 37 9 (.slice ao5 n5 cp5)).run Try.prog V = .ok (.string S1) V ∧ (convert 37 9 (.slice ao6 n6 cp6)).run Try.prog V = .ok (.string S2) V ∧ V.cell? ⟨p1, 0, none⟩ = some (.int .i64 k1) ∧ V.cell? ⟨p1, 1, none⟩ = some (.int .i64 f1) ∧ V.cell? ⟨p1, 2, none⟩ = some (.int .i64 t1) ∧ V.cell? ⟨p1, 3, none⟩ = some (.int .i64 r1) ∧ V.cell? ⟨p1, 4, none⟩ = some (.int .i64 n1) ∧ V.cell? ⟨p1, 5, none⟩ = some (.int .i64 l1) ∧ V.cell? ⟨p1, 6, none⟩ = some (.bool np1) ∧ V.cell? ⟨p1, 7, none⟩ = some (.string tk1) ∧ V.cell? ⟨p1, 8, none⟩ = some (.string ct1) ∧ V.cell? ⟨p1, 9, none⟩ = some (.int .i64 ep1) ∧ V.cell? ⟨p1, 10, none⟩ = some (.slice ao1 XN1 ca1) ∧ V.cell? ⟨p1, 11, none⟩ = some (.slice vo1 VN1 vc1) ∧ V.cell? ⟨p1, 12, none⟩ = some (.slice so1 SN1 sc1) ∧ V.cell? ⟨p1, 13, none⟩ = some (.slice eo1 EN1 ec1) ∧ V.cell? ⟨p1, 14, none⟩ = some (.int .i64 ti1) ∧ V.cell? ⟨p2, 0, none⟩ = some (.int .i64 k2) ∧ V.cell? ⟨p2, 1, none⟩ = some (.int .i64 f2) ∧ V.cell? ⟨p2, 2, none⟩ = some (.int .i64 t2) ∧ V.cell? ⟨p2, 3, none⟩ = some (.int .i64 r2) ∧ V.cell? ⟨p2, 4, none⟩ = some (.int .i64 n2) ∧ V.cell? ⟨p2, 5, none⟩ = some (.int .i64 l2) ∧ V.cell? ⟨p2, 6, none⟩ = some (.bool np2) ∧ V.cell? ⟨p2, 7, none⟩ = some (.string tk2) ∧ V.cell? ⟨p2, 8, none⟩ = some (.string ct2) ∧ V.cell? ⟨p2, 9, none⟩ = some (.int .i64 ep2) ∧ V.cell? ⟨p2, 10, none⟩ = some (.slice ao2 XN2 ca2) ∧ V.cell? ⟨p2, 11, none⟩ = some (.slice vo2 VN2 vc2) ∧ V.cell? ⟨p2, 12, none⟩ = some (.slice so2 SN2 sc2) ∧ V.cell? ⟨p2, 13, none⟩ = some (.slice eo2 EN2 ec2) ∧ V.cell? ⟨p2, 14, none⟩ = some (.int .i64 ti2))) := fun V hV => by
          have k1 := run_convert_held (P := Try.prog) (i5.2.below hV.out (Nat.le_refl _)) 37 5 9 Try.underlying37 Try.underlying5 Try.underlying9
          have k2 := run_convert_held (P := Try.prog) (i6.2.below hV.out (Nat.le_refl _)) 37 5 9 Try.underlying37 Try.underlying5 Try.underlying9
          rw [← hS1] at k1
          rw [← hS2] at k2
          have ja := (HK.out.1).below (bt' HB5.out hV.out) (HK.out.1).lt
          have jb := (HK.out.2.1).below (bt' HB5.out hV.out) (HK.out.2.1).lt
          exact ⟨hV, k1, k2, ja.cell (i := 0) rfl, ja.cell (i := 1) rfl, ja.cell (i := 2) rfl, ja.cell (i := 3) rfl, ja.cell (i := 4) rfl, ja.cell (i := 5) rfl, ja.cell (i := 6) rfl, ja.cell (i := 7) rfl, ja.cell (i := 8) rfl, ja.cell (i := 9) rfl, ja.cell (i := 10) rfl, ja.cell (i := 11) rfl, ja.cell (i := 12) rfl, ja.cell (i := 13) rfl, ja.cell (i := 14) rfl, jb.cell (i := 0) rfl, jb.cell (i := 1) rfl, jb.cell (i := 2) rfl, jb.cell (i := 3) rfl, jb.cell (i := 4) rfl, jb.cell (i := 5) rfl, jb.cell (i := 6) rfl, jb.cell (i := 7) rfl, jb.cell (i := 8) rfl, jb.cell (i := 9) rfl, jb.cell (i := 10) rfl, jb.cell (i := 11) rfl, jb.cell (i := 12) rfl, jb.cell (i := 13) rfl, jb.cell (i := 14) rfl⟩
        have HCL : Hid (∀ V, ScP w5 V → Calls Try.prog 7 #[.agg #[.int .i64 k1, .int .i64 f1, .int .i64 t1, .int .i64 r1, .int .i64 n1, .int .i64 l1, .bool np1, .string tk1, .string ct1, .int .i64 ep1, .slice ao1 XN1 ca1, .slice vo1 VN1 vc1, .slice so1 SN1 sc1, .slice eo1 EN1 ec1, .int .i64 ti1], .agg #[.int .i64 k2, .int .i64 f2, .int .i64 t2, .int .i64 r2, .int .i64 n2, .int .i64 l2, .bool np2, .string tk2, .string ct2, .int .i64 ep2, .slice ao2 XN2 ca2, .slice vo2 VN2 vc2, .slice so2 SN2 sc2, .slice eo2 EN2 ec2, .int .i64 ti2]] V fun e w' => e = .returned (.bool DM) ∧ ScP w5 w') := fun V hV => (HSM.out i5.1 V (HBX.out V (bt' HB5.out hV.out))).mono (fun e w' hh => ⟨hh.1, hV.go hh.2⟩)
        obtain ⟨hsc, v1, v2, a0, a1, a2, a3, a4, a5, a6, a7, a8, a9, a10, a11, a12, a13, a14, b0, b1, b2, b3, b4, b5, b6, b7, b8, b9, b10, b11, b12, b13, b14⟩ := HSA.out _ (ScP.start w5)
        clear hsc hS1 hS2
        by_cases hss : S1 = S2
        · subst hss
          rw [decide_eq_true rfl] at hDD
          subst hDD
          have hq1 : (S1.toList == S1.toList) = true := by simp
          go_region_held3 (fun V => ScP w5 V ∧ (convert 37 9 (.slice ao5 n5 cp5)).run Try.prog V = .ok (.string S1) V ∧ (convert 37 9 (.slice ao6 n6 cp6)).run Try.prog V = .ok (.string S1) V ∧ V.cell? ⟨p1, 0, none⟩ = some (.int .i64 k1) ∧ V.cell? ⟨p1, 1, none⟩ = some (.int .i64 f1) ∧ V.cell? ⟨p1, 2, none⟩ = some (.int .i64 t1) ∧ V.cell? ⟨p1, 3, none⟩ = some (.int .i64 r1) ∧ V.cell? ⟨p1, 4, none⟩ = some (.int .i64 n1) ∧ V.cell? ⟨p1, 5, none⟩ = some (.int .i64 l1) ∧ V.cell? ⟨p1, 6, none⟩ = some (.bool np1) ∧ V.cell? ⟨p1, 7, none⟩ = some (.string tk1) ∧ V.cell? ⟨p1, 8, none⟩ = some (.string ct1) ∧ V.cell? ⟨p1, 9, none⟩ = some (.int .i64 ep1) ∧ V.cell? ⟨p1, 10, none⟩ = some (.slice ao1 XN1 ca1) ∧ V.cell? ⟨p1, 11, none⟩ = some (.slice vo1 VN1 vc1) ∧ V.cell? ⟨p1, 12, none⟩ = some (.slice so1 SN1 sc1) ∧ V.cell? ⟨p1, 13, none⟩ = some (.slice eo1 EN1 ec1) ∧ V.cell? ⟨p1, 14, none⟩ = some (.int .i64 ti1) ∧ V.cell? ⟨p2, 0, none⟩ = some (.int .i64 k2) ∧ V.cell? ⟨p2, 1, none⟩ = some (.int .i64 f2) ∧ V.cell? ⟨p2, 2, none⟩ = some (.int .i64 t2) ∧ V.cell? ⟨p2, 3, none⟩ = some (.int .i64 r2) ∧ V.cell? ⟨p2, 4, none⟩ = some (.int .i64 n2) ∧ V.cell? ⟨p2, 5, none⟩ = some (.int .i64 l2) ∧ V.cell? ⟨p2, 6, none⟩ = some (.bool np2) ∧ V.cell? ⟨p2, 7, none⟩ = some (.string tk2) ∧ V.cell? ⟨p2, 8, none⟩ = some (.string ct2) ∧ V.cell? ⟨p2, 9, none⟩ = some (.int .i64 ep2) ∧ V.cell? ⟨p2, 10, none⟩ = some (.slice ao2 XN2 ca2) ∧ V.cell? ⟨p2, 11, none⟩ = some (.slice vo2 VN2 vc2) ∧ V.cell? ⟨p2, 12, none⟩ = some (.slice so2 SN2 sc2) ∧ V.cell? ⟨p2, 13, none⟩ = some (.slice eo2 EN2 ec2) ∧ V.cell? ⟨p2, 14, none⟩ = some (.int .i64 ti2))
            ((refine HSA.out _ ?_; (repeat (first | with_reducible assumption | exact ScP.start _ | apply ScP.dr | apply ScP.alloc))))
            (first | (go_at_call 7; refine (HCL.out _ ?_).mono ?_; (repeat (first | with_reducible assumption | exact ScP.start _ | apply ScP.dr | apply ScP.alloc)); rintro e w9 ⟨rfl, hsc9⟩))
          all_goals
            go_wp2_with fail
            go_meet
            exact ⟨rfl, hsc9.out⟩
        · rw [decide_eq_false hss] at hDD
          subst hDD
          have hq2 := bytes_ne hss
          have hq1 : (S1.toList == S2.toList) = false := by simpa using hq2
          clear hss
          go_region_held3 (fun V => ScP w5 V ∧ (convert 37 9 (.slice ao5 n5 cp5)).run Try.prog V = .ok (.string S1) V ∧ (convert 37 9 (.slice ao6 n6 cp6)).run Try.prog V = .ok (.string S2) V ∧ V.cell? ⟨p1, 0, none⟩ = some (.int .i64 k1) ∧ V.cell? ⟨p1, 1, none⟩ = some (.int .i64 f1) ∧ V.cell? ⟨p1, 2, none⟩ = some (.int .i64 t1) ∧ V.cell? ⟨p1, 3, none⟩ = some (.int .i64 r1) ∧ V.cell? ⟨p1, 4, none⟩ = some (.int .i64 n1) ∧ V.cell? ⟨p1, 5, none⟩ = some (.int .i64 l1) ∧ V.cell? ⟨p1, 6, none⟩ = some (.bool np1) ∧ V.cell? ⟨p1, 7, none⟩ = some (.string tk1) ∧ V.cell? ⟨p1, 8, none⟩ = some (.string ct1) ∧ V.cell? ⟨p1, 9, none⟩ = some (.int .i64 ep1) ∧ V.cell? ⟨p1, 10, none⟩ = some (.slice ao1 XN1 ca1) ∧ V.cell? ⟨p1, 11, none⟩ = some (.slice vo1 VN1 vc1) ∧ V.cell? ⟨p1, 12, none⟩ = some (.slice so1 SN1 sc1) ∧ V.cell? ⟨p1, 13, none⟩ = some (.slice eo1 EN1 ec1) ∧ V.cell? ⟨p1, 14, none⟩ = some (.int .i64 ti1) ∧ V.cell? ⟨p2, 0, none⟩ = some (.int .i64 k2) ∧ V.cell? ⟨p2, 1, none⟩ = some (.int .i64 f2) ∧ V.cell? ⟨p2, 2, none⟩ = some (.int .i64 t2) ∧ V.cell? ⟨p2, 3, none⟩ = some (.int .i64 r2) ∧ V.cell? ⟨p2, 4, none⟩ = some (.int .i64 n2) ∧ V.cell? ⟨p2, 5, none⟩ = some (.int .i64 l2) ∧ V.cell? ⟨p2, 6, none⟩ = some (.bool np2) ∧ V.cell? ⟨p2, 7, none⟩ = some (.string tk2) ∧ V.cell? ⟨p2, 8, none⟩ = some (.string ct2) ∧ V.cell? ⟨p2, 9, none⟩ = some (.int .i64 ep2) ∧ V.cell? ⟨p2, 10, none⟩ = some (.slice ao2 XN2 ca2) ∧ V.cell? ⟨p2, 11, none⟩ = some (.slice vo2 VN2 vc2) ∧ V.cell? ⟨p2, 12, none⟩ = some (.slice so2 SN2 sc2) ∧ V.cell? ⟨p2, 13, none⟩ = some (.slice eo2 EN2 ec2) ∧ V.cell? ⟨p2, 14, none⟩ = some (.int .i64 ti2))
            ((refine HSA.out _ ?_; (repeat (first | with_reducible assumption | exact ScP.start _ | apply ScP.dr | apply ScP.alloc))))
            (first | (go_at_call 7; refine (HCL.out _ ?_).mono ?_; (repeat (first | with_reducible assumption | exact ScP.start _ | apply ScP.dr | apply ScP.alloc)); rintro e w9 ⟨rfl, hsc9⟩))
          all_goals
            go_wp2_with fail
            go_meet
            exact ⟨rfl, hsc9.out⟩
      · have h6b : (c6 == 0) = false := by simpa using h6
        subst h5
        clear h6
        go_quiet (fail)
        go_wp2_with fail
        go_meet
        exact ⟨rfl, below_dn (Below.refl _ _) _⟩
    · have h5b : (c5 == 0) = false := by simpa using h5
      clear h5
      go_quiet (fail)
      go_wp2_with fail
      go_meet
      exact ⟨rfl, below_dn (Below.refl _ _) _⟩
  case rest =>
    obtain ⟨rfl, HB6⟩ := hcut
    clear HC5 HC6 HSM HDM
    have HB7 := hid (bt' HB5.out HB6.out)
    go_upto_region 9 with fail
    by_cases h7 : c7 = 0
    · by_cases h8 : c8 = 0
      · have i7' := HC7.out h7
        have i8' := HC8.out h8
        have i7 := And.intro i7'.1 (i7'.2.below HB6.out (Nat.le_refl _))
        have i8 := And.intro i8'.1 (i8'.2.below HB6.out (Nat.le_refl _))
        clear i7' i8'
        subst h7 h8
        obtain ⟨S1, hS1⟩ : ∃ S, S = strOfNums bsE := ⟨_, rfl⟩
        obtain ⟨S2, hS2⟩ : ∃ S, S = strOfNums bsG := ⟨_, rfl⟩
        have hDD : decide (S1 = S2) = DE := by rw [hS1, hS2]; exact HDE.out i7.1 i8.1
        have HSA : Hid (∀ V, ScP wc V → (ScP wc V ∧ (convert 37 9 (.slice ao7 n7 cp7)).run Try.prog V = .ok (.string S1) V ∧ (convert 37 9 (.slice ao8 n8 cp8)).run Try.prog V = .ok (.string S2) V ∧ V.cell? ⟨p3, 0, none⟩ = some (.int .i64 o3) ∧ V.cell? ⟨p3, 1, none⟩ = some (.int .i64 q3) ∧ V.cell? ⟨p3, 2, none⟩ = some (.slice do3 DN3 dc3) ∧ V.cell? ⟨p3, 3, none⟩ = some (.string c3) ∧ V.cell? ⟨p3, 4, none⟩ = some (.int .i64 g3) ∧ V.cell? ⟨p3, 5, none⟩ = some (.string u3) ∧ V.cell? ⟨p3, 6, none⟩ = some (.int .i64 z3) ∧ V.cell? ⟨p3, 7, none⟩ = some (.bool b3) ∧ V.cell? ⟨p4, 0, none⟩ = some (.int .i64 o4) ∧ V.cell? ⟨p4, 1, none⟩ = some (.int .i64 q4) ∧ V.cell? ⟨p4, 2, none⟩ = some (.slice do4 DN4 dc4) ∧ V.cell? ⟨p4, 3, none⟩ = some (.string c4) ∧ V.cell? ⟨p4, 4, none⟩ = some (.int .i64 g4) ∧ V.cell? ⟨p4, 5, none⟩ = some (.string u4) ∧ V.cell? ⟨p4, 6, none⟩ = some (.int .i64 z4) ∧ V.cell? ⟨p4, 7, none⟩ = some (.bool b4))) := fun V hV => by
          have k1 := run_convert_held (P := Try.prog) (i7.2.below hV.out (Nat.le_refl _)) 37 5 9 Try.underlying37 Try.underlying5 Try.underlying9
          have k2 := run_convert_held (P := Try.prog) (i8.2.below hV.out (Nat.le_refl _)) 37 5 9 Try.underlying37 Try.underlying5 Try.underlying9
          rw [← hS1] at k1
          rw [← hS2] at k2
          have jd := (HK.out.2.2.1).below (bt' HB7.out hV.out) (HK.out.2.2.1).lt
          have jh := (HK.out.2.2.2).below (bt' HB7.out hV.out) (HK.out.2.2.2).lt
          exact ⟨hV, k1, k2, jd.cell (i := 0) rfl, jd.cell (i := 1) rfl, jd.cell (i := 2) rfl, jd.cell (i := 3) rfl, jd.cell (i := 4) rfl, jd.cell (i := 5) rfl, jd.cell (i := 6) rfl, jd.cell (i := 7) rfl, jh.cell (i := 0) rfl, jh.cell (i := 1) rfl, jh.cell (i := 2) rfl, jh.cell (i := 3) rfl, jh.cell (i := 4) rfl, jh.cell (i := 5) rfl, jh.cell (i := 6) rfl, jh.cell (i := 7) rfl⟩
        have HCL : Hid (∀ V, ScP wc V → Calls Try.prog 8 #[.agg #[.int .i64 o3, .int .i64 q3, .slice do3 DN3 dc3, .string c3, .int .i64 g3, .string u3, .int .i64 z3, .bool b3], .agg #[.int .i64 o4, .int .i64 q4, .slice do4 DN4 dc4, .string c4, .int .i64 g4, .string u4, .int .i64 z4, .bool b4]] V fun e w' => e = .returned (.bool DE) ∧ ScP wc w') := fun V hV => (HSE.out V (HBX.out V (bt' HB7.out hV.out))).mono (fun e w' hh => ⟨hh.1, hV.go hh.2⟩)
        obtain ⟨hsc, v1, v2, d0, d1, d2, d3, d4, d5, d6, d7, h0, h1, h2, h3, h4, h5, h6, h7⟩ := HSA.out _ (ScP.start wc)
        clear hsc hS1 hS2
        by_cases hss : S1 = S2
        · subst hss
          rw [decide_eq_true rfl] at hDD
          subst hDD
          have hq1 : (S1.toList == S1.toList) = true := by simp
          go_region_held3 (fun V => ScP wc V ∧ (convert 37 9 (.slice ao7 n7 cp7)).run Try.prog V = .ok (.string S1) V ∧ (convert 37 9 (.slice ao8 n8 cp8)).run Try.prog V = .ok (.string S1) V ∧ V.cell? ⟨p3, 0, none⟩ = some (.int .i64 o3) ∧ V.cell? ⟨p3, 1, none⟩ = some (.int .i64 q3) ∧ V.cell? ⟨p3, 2, none⟩ = some (.slice do3 DN3 dc3) ∧ V.cell? ⟨p3, 3, none⟩ = some (.string c3) ∧ V.cell? ⟨p3, 4, none⟩ = some (.int .i64 g3) ∧ V.cell? ⟨p3, 5, none⟩ = some (.string u3) ∧ V.cell? ⟨p3, 6, none⟩ = some (.int .i64 z3) ∧ V.cell? ⟨p3, 7, none⟩ = some (.bool b3) ∧ V.cell? ⟨p4, 0, none⟩ = some (.int .i64 o4) ∧ V.cell? ⟨p4, 1, none⟩ = some (.int .i64 q4) ∧ V.cell? ⟨p4, 2, none⟩ = some (.slice do4 DN4 dc4) ∧ V.cell? ⟨p4, 3, none⟩ = some (.string c4) ∧ V.cell? ⟨p4, 4, none⟩ = some (.int .i64 g4) ∧ V.cell? ⟨p4, 5, none⟩ = some (.string u4) ∧ V.cell? ⟨p4, 6, none⟩ = some (.int .i64 z4) ∧ V.cell? ⟨p4, 7, none⟩ = some (.bool b4))
            ((refine HSA.out _ ?_; (repeat (first | with_reducible assumption | exact ScP.start _ | apply ScP.dr | apply ScP.alloc))))
            (first | (go_at_call 8; refine (HCL.out _ ?_).mono ?_; (repeat (first | with_reducible assumption | exact ScP.start _ | apply ScP.dr | apply ScP.alloc)); rintro e w9 ⟨rfl, hsc9⟩))
          all_goals
            go_wp2
            go_ret
            exact ⟨rfl, HBX.out _ (bt' HB7.out hsc9.out)⟩
        · rw [decide_eq_false hss] at hDD
          subst hDD
          have hq2 := bytes_ne hss
          have hq1 : (S1.toList == S2.toList) = false := by simpa using hq2
          clear hss
          go_region_held3 (fun V => ScP wc V ∧ (convert 37 9 (.slice ao7 n7 cp7)).run Try.prog V = .ok (.string S1) V ∧ (convert 37 9 (.slice ao8 n8 cp8)).run Try.prog V = .ok (.string S2) V ∧ V.cell? ⟨p3, 0, none⟩ = some (.int .i64 o3) ∧ V.cell? ⟨p3, 1, none⟩ = some (.int .i64 q3) ∧ V.cell? ⟨p3, 2, none⟩ = some (.slice do3 DN3 dc3) ∧ V.cell? ⟨p3, 3, none⟩ = some (.string c3) ∧ V.cell? ⟨p3, 4, none⟩ = some (.int .i64 g3) ∧ V.cell? ⟨p3, 5, none⟩ = some (.string u3) ∧ V.cell? ⟨p3, 6, none⟩ = some (.int .i64 z3) ∧ V.cell? ⟨p3, 7, none⟩ = some (.bool b3) ∧ V.cell? ⟨p4, 0, none⟩ = some (.int .i64 o4) ∧ V.cell? ⟨p4, 1, none⟩ = some (.int .i64 q4) ∧ V.cell? ⟨p4, 2, none⟩ = some (.slice do4 DN4 dc4) ∧ V.cell? ⟨p4, 3, none⟩ = some (.string c4) ∧ V.cell? ⟨p4, 4, none⟩ = some (.int .i64 g4) ∧ V.cell? ⟨p4, 5, none⟩ = some (.string u4) ∧ V.cell? ⟨p4, 6, none⟩ = some (.int .i64 z4) ∧ V.cell? ⟨p4, 7, none⟩ = some (.bool b4))
            ((refine HSA.out _ ?_; (repeat (first | with_reducible assumption | exact ScP.start _ | apply ScP.dr | apply ScP.alloc))))
            (first | (go_at_call 8; refine (HCL.out _ ?_).mono ?_; (repeat (first | with_reducible assumption | exact ScP.start _ | apply ScP.dr | apply ScP.alloc)); rintro e w9 ⟨rfl, hsc9⟩))
          all_goals
            go_wp2
            go_ret
            exact ⟨rfl, HBX.out _ (bt' HB7.out hsc9.out)⟩
      · have h8b : (c8 != 0) = true := by simpa using h8
        subst h7
        clear h8
        go_quiet (fail)
        go_wp2
        go_ret
        exact ⟨rfl, below_dn (HBX.out _ HB7.out) _⟩
    · have h7b : (c7 != 0) = true := by simpa using h7
      clear h7
      go_quiet (fail)
      go_wp2
      go_ret
      exact ⟨rfl, below_dn (HBX.out _ HB7.out) _⟩
end Go.Proofs.Ytjjgojjllbdpkaa
