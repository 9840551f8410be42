/-
  pannierlaw03.DiskFalls answers true at every input.
-/
import Derived.Test.YtjfohnkfcfifeaaDiskX
import Derived.Test.YtjfohnkfcfifeaaRyF
import Derived.Test.YtjfohnkfcfifeaaOpOpen5
import Derived.Deep.CutRange
import Derived.Deep.CutBlock
import Derived.Deep.LoopGhost
import Derived.Deep.RegionHeld3
namespace Go.Proofs.Ytjfohnkfcfifeaa
open Go.RowKit Go.Maps
theorem HeldO.at {w : World} {ao : Option Addr} {os : List OpV} (h : HeldO w ao os) {k : Nat} (hk : k < os.length) : ∃ b off, ao = some ⟨b, off, none⟩ ∧ b < w.heap.size := by
  rcases h.2 with h0 | ⟨b, off, h1, h2, _⟩
  · rw [h0] at hk; cases hk
  · exact ⟨b, off, h1, h2⟩
/-- What is there of one Op, also later. -/
structure OpThere (W : World) (b off : Nat) (o : OpV) : Prop where
  c0 : W.cell? ⟨b, off, none⟩ = some (.int .i64 o.kind)
  c1 : W.cell? ⟨b, off + 1, none⟩ = some (.string o.name)
  c2 : W.cell? ⟨b, off + 2, none⟩ = some (.string o.to)
  c3 : W.cell? ⟨b, off + 3, none⟩ = some (.slice o.ba o.bl o.bc)
  c4 : W.cell? ⟨b, off + 4, none⟩ = some (.int .i64 o.n)
  c5 : W.cell? ⟨b, off + 5, none⟩ = some (.slice o.ka o.kl o.kc)
theorem HeldO.get {w W : World} {b off : Nat} {os : List OpV} (h : HeldO w (some ⟨b, off, none⟩) os) (hb : Below w.heap.size w W) {k : Nat} (hk : k < os.length) : OpThere W b (off + k * 6) (os[k]'hk) := by
  rcases h.2 with h0 | ⟨b', off', h1, h2, h3⟩
  · rw [h0] at hk; cases hk
  · cases h1
    have cc : ∀ c u, (os[k]'hk).cells[c]? = some u → W.cell? ⟨b, off + k * 6 + c, none⟩ = some u := fun c u hu => (hb.cell (by simpa using h2)).trans (h3 k hk c u hu)
    exact ⟨cc 0 _ rfl, cc 1 _ rfl, cc 2 _ rfl, cc 3 _ rfl, cc 4 _ rfl, cc 5 _ rfl⟩
theorem DiskIn.bel {B : Nat} {w wr : World} {p bm : Nat} {size c : Int} {fs : List Fl} (h : DiskIn B w wr p bm size c fs) : Below B w wr := by
  obtain ⟨D, hd, hF, hb, hB⟩ := h
  exact hb
theorem DiskIn.at {B : Nat} {w wr : World} {p bm : Nat} {size c : Int} {fs : List Fl} (h : DiskIn B w wr p bm size c fs) : ∃ D, DiskAt wr p bm size c fs D := by
  obtain ⟨D, hd, _⟩ := h
  exact ⟨D, hd⟩
set_option maxRecDepth 100000 in
set_option maxHeartbeats 4000000 in
theorem diskFalls_walk (ao : Option Addr) (cap : Nat) (os : List OpV) (bo : Option Addr) (bcap : Nat) (ts : List (ByteArray × Int)) (w : World) (ho : HeldO w ao os) (hl : os.length ≤ 140737488355328) (hi : ∀ o ∈ os, o.kl ≤ 140737488355328) (hj : ∀ o ∈ os, o.bl ≤ 140737488355328) (hT : HeldT w bo ts) :
    Calls Try.prog 4 #[.slice ao os.length cap, .slice bo ts.length bcap] w fun e w' => e = .returned (.bool true) ∧ Below w.heap.size w w' := by
  have HNW := hid (dnew_good w 4096 (by decide) (by decide))
  have HO := hid ho
  have HI := hid hi
  have HJ := hid hj
  have HTO := hid hT
  obtain ⟨n, hn⟩ : ∃ n, n = os.length := ⟨_, rfl⟩
  obtain ⟨m, hm⟩ : ∃ m, m = ts.length := ⟨_, rfl⟩
  have HN := hid hn
  have HM := hid hm
  rw [← hn] at hl ⊢
  rw [← hm]
  clear ho hi hn hj hT hm
  go_enter Try.func4, Try.ntmps4
  go_wp2_with fail
  refine HNW.out.mono ?_
  rintro e w1 ⟨rfl, h'⟩
  have HD : Hid (DiskIn w.heap.size w w1 (w.heap.size + 1) w.heap.size 4096 (-1) []) := by subst h'; exact DiskIn.new w 4096 (by omega) (by omega)
  clear h' HNW
  generalize w.heap.size + 1 = p at *
  obtain ⟨bm, hbm⟩ : ∃ bm, bm = w.heap.size := ⟨_, rfl⟩
  have HD1 : Hid (DiskIn w.heap.size w w1 p bm 4096 (-1) []) := by rw [hbm]; exact HD.out
  clear HD hbm
  go_wp2_with fail
  refine (dlives_any _).mono ?_
  rintro e w2 ⟨rfl, hb2⟩
  have HD2 : Hid (∃ fs, DiskIn w.heap.size w w2 p bm 4096 (-1) fs) := ⟨_, HD1.out.below hb2⟩
  clear hb2 HD1
  go_wp2
  go_loopw [7] (fun i wr => ∃ k : Nat, k ≤ n ∧ i = .int .i64 k ∧ Hid (∃ fs, DiskIn w.heap.size w wr p bm 4096 (-1) fs)) (fun i _ => n - (intOf i).toNat)
  case atStart => exact ⟨0, Nat.zero_le _, rfl, HD2⟩
  case round =>
    obtain ⟨k, hk, rfl, HD3⟩ := hrel
    clear HD2
    by_cases hlt : k < n
    · have hlt' : (k : Int) < (n : Int) := by omega
      have hk0 : (0 : Int) ≤ (k : Int) := by omega
      have HKM : Hid (k + 1 ≤ n) := hid hlt
      have hwk : wrap64 ((k : Int) + 1) = (k : Int) + 1 := wrapN (by omega) (by omega)
      have HWK := hid hwk
      have hkx : Hid (k < os.length) := (by have := HN.out; omega : k < os.length)
      obtain ⟨b, off, rfl, hbw⟩ := HO.out.at hkx.out
      obtain ⟨o, hoe⟩ : ∃ o, o = os[k]'hkx.out := ⟨_, rfl⟩
      have HG : Hid (∀ W, Below w.heap.size w W → OpThere W b (off + k * 6) o) := by
        intro W hW
        rw [hoe]
        exact HO.out.get hW hkx.out
      have HOH : Hid (OpH w o) := by
        show OpH w o
        rw [hoe]
        exact HO.out.1 _ (List.getElem_mem hkx.out)
      have HOJ : Hid (o.bl ≤ 140737488355328) := by
        show o.bl ≤ _
        rw [hoe]
        exact HJ.out _ (List.getElem_mem hkx.out)
      clear hoe
      obtain ⟨fs, hd⟩ := HD3.out
      have HD := hid hd
      have hop := HG.out wr hd.bel
      have c0 := hop.c0
      have c1 := hop.c1
      have c2 := hop.c2
      have c3 := hop.c3
      have c4 := hop.c4
      have c5 := hop.c5
      clear hd hop hlt
      by_cases k1 : 1 ≤ o.kind
      · have k1b : decide (1 ≤ o.kind) = true := by simp [k1]
        by_cases k5 : o.kind ≤ 5
        · have k5b : decide (o.kind ≤ 5) = true := by simp [k5]
          obtain ⟨bs, hbs⟩ := HOH.out.bytes
          have HST := hid (doesN (Dk.new (y := 4096) HD.out (by decide) (by decide)) o HOH.out.ok bs hbs HOJ.out ⟨k1, k5⟩)
          have hop2 := HG.out (wr.alloc (.cells #[.int .i64 4096, .slice none 0 0, .bool false, .int .i64 0] 43)) (HD.out.bel.alloc (by obtain ⟨D, _, _, _, hB⟩ := HD.out; exact hB) _)
          have e0 := hop2.c0
          have e1 := hop2.c1
          have e2 := hop2.c2
          have e3 := hop2.c3
          have e4 := hop2.c4
          have e5 := hop2.c5
          clear hbs hop2
          go_wp2_with (refine HST.out.mono ?_; rintro e w9 ⟨b9, fs9, rfl, hd9⟩; have HD9 := hid hd9; clear hd9)
          go_roundw
          case rel => exact ⟨k + 1, HKM.out, by go_num, ⟨_, HD9.out⟩⟩
          case measure => first | exact measNW HKM.out HWK.out | exact measN1 HKM.out
        · have k5b : decide (o.kind ≤ 5) = false := by simp; omega
          go_wp2
          go_roundw
          case rel => exact ⟨k + 1, HKM.out, by go_num, ⟨_, HD.out⟩⟩
          case measure => first | exact measNW HKM.out HWK.out | exact measN1 HKM.out
      · have k1b : decide (1 ≤ o.kind) = false := by simp; omega
        go_wp2
        go_roundw
        case rel => exact ⟨k + 1, HKM.out, by go_num, ⟨_, HD.out⟩⟩
        case measure => first | exact measNW HKM.out HWK.out | exact measN1 HKM.out
    · have hlt' : ¬ (k : Int) < (n : Int) := by omega
      clear hlt HO HI HJ HN
      obtain ⟨fs, hd⟩ := HD3.out
      have HD := hid hd
      obtain ⟨D, hda⟩ := hd.at
      have HDA := hid hda
      have HFI := hid (files_so hda)
      have hfew := hda.few
      clear hd hda HD3
      go_wp2_with fail
      refine HFI.out.mono ?_
      rintro e w4 ⟨v1, gs, rfl, hfv⟩
      obtain ⟨hgs, sgs, hrow, hb4⟩ := hfv
      have HD4 := hid (HD.out.below hb4)
      have HLG : Hid (gs.length = fs.length) := hgs.length_eq
      have HGS := hid hgs
      have HSG : Hid (SortF gs) := sgs
      have HR1 := hid (hrow : w4.ownsRow wr.heap.size 47 3 v1 fs.length (flatR (gs.map toRf)))
      obtain ⟨ao1, cp1, hv1, _, _⟩ := heldFr_of_own (xs := gs.map toRf) (by rw [List.length_map]; exact HLG.out) HR1.out
      subst hv1
      obtain ⟨L, hL⟩ : ∃ L, L = fs.length := ⟨_, rfl⟩
      have HL := hid hL
      rw [← hL] at HR1 hfew ⊢
      have HB4 := hid hb4
      obtain ⟨D4, hda4⟩ := HD4.out.at
      have HDA4 := hid hda4
      clear hgs sgs hrow hb4 hL hda4 HFI
      by_cases hok : okFrom fs [] ts
      · have HOK := hid hok
        have HCR := hid (crash_ok HDA4.out bo bcap ts (HTO.out.below HD4.out.bel (Nat.le_refl _)) hok)
        rw [← HM.out] at HCR
        clear hok
        go_wp2_with fail
        refine HCR.out.mono ?_
        rintro e w5 ⟨rfl, V, hn5⟩
        have HD5 := hid (HD4.out.now hn5)
        have HR5 : Hid (w5.ownsRow wr.heap.size 47 3 (.slice ao1 L cp1) L (flatR (gs.map toRf))) := by
          obtain ⟨D', _, ht, _⟩ := hn5
          exact ht.row HR1.out (fun b hb hf => by have := HDA.out.foot_lt b hf; have := (HR1.out.lt b hb).1; omega)
        obtain ⟨D5, hda5⟩ := HD5.out.at
        have HF5 := hid (files_so hda5)
        have hl5 : (fell ts V (fun _ => false) fs).length = L := by unfold fell; rw [List.length_map]; exact HL.out.symm
        have HL5 := hid hl5
        clear hn5 hda5 hl5 HCR
        go_wp2_with fail
        refine HF5.out.mono ?_
        rintro e w6 ⟨v2, hs, rfl, hfv6⟩
        obtain ⟨hhs, shs, hrow6, hb6⟩ := hfv6
        rw [HL5.out] at hrow6
        have HD6 := hid (HD5.out.below hb6)
        have HRR := hid (fell_rows HDA.out HOK.out V HGS.out HSG.out hhs shs)
        have HR6 := hid (hrow6 : w6.ownsRow w5.heap.size 47 3 v2 L (flatR (hs.map toRf)))
        have HLH : Hid ((hs.map toRf).length = L) := by
          show _ = _
          rw [List.length_map, hhs.length_eq]
          unfold fell
          rw [List.length_map]
          exact HL.out.symm
        have HLG2 : Hid ((gs.map toRf).length = L) := by
          show _ = _
          rw [List.length_map, HLG.out]
          exact HL.out.symm
        obtain ⟨ao2, cp2, hv2, _, hh2⟩ := heldFr_of_own HLH.out HR6.out
        obtain ⟨ao1', cp1', hv1', _, hh1⟩ := heldFr_of_own HLG2.out HR5.out
        cases hv1'
        subst hv2
        have HH2 := hid hh2
        have HH1 := hid (hh1.below hb6)
        have hLL : (L : Int) ≤ 64 := by rw [HL.out] at hfew ⊢; omega
        generalize gs.map toRf = G at *
        generalize hs.map toRf = H at *
        have HB6 : Hid (Below w.heap.size w w6) := HD6.out.bel
        clear hhs shs hrow6 hb6 hh1 hh2 HF5 hfew HL HDA HD HLG HGS HSG HD4 HB4 HDA4 HOK HD5 HR5 HR6 HR1 HD6
        go_wp2
        go_loopw [13] (fun i wq => ∃ k : Nat, k ≤ L ∧ i = .int .i64 k ∧ Hid (Below w6.heap.size w6 wq)) (fun i _ => L - (intOf i).toNat)
        case atStart => exact ⟨0, Nat.zero_le _, rfl, Below.refl _ _⟩
        case round =>
          obtain ⟨k2, hk2, rfl, HBQ⟩ := hrel
          by_cases hlt : k2 < L
          · have hlt' : (k2 : Int) < (L : Int) := by omega
            have hk0 : (0 : Int) ≤ (k2 : Int) := by omega
            have HKM : Hid (k2 + 1 ≤ L) := hid hlt
            have hwk : wrap64 ((k2 : Int) + 1) = (k2 : Int) + 1 := wrapN (by omega) (by omega)
            have HWK := hid hwk
            have HKG : Hid (k2 < G.length) := by show k2 < _; rw [HLG2.out]; exact hlt
            have HKH : Hid (k2 < H.length) := by show k2 < _; rw [HLH.out]; exact hlt
            have HF := hid (HRR.out k2 HKG.out HKH.out)
            obtain ⟨ba, oa, hao, hla, a0, a1, a2⟩ := (HH1.out.below HBQ.out).cellsD HKG.out
            obtain ⟨bb, ob, hbo, hlb, b0, b1, b2⟩ := (HH2.out.below HBQ.out).cellsD HKH.out
            obtain ⟨⟨qn, qb, qs⟩, HQ⟩ : ∃ z, Hid (G[k2]'HKG.out = z) := ⟨_, hid rfl⟩
            obtain ⟨⟨rn, rb, rs⟩, HQ2⟩ : ∃ z, Hid (H[k2]'HKH.out = z) := ⟨_, hid rfl⟩
            rw [HQ.out] at a0 a1 a2 HF
            rw [HQ2.out] at b0 b1 b2 HF
            obtain ⟨f1, f2, f3, f4, f5⟩ := HF.out
            simp only at f1 f2 f3 f4 f5 a0 a1 a2 b0 b1 b2
            subst f1 f2 hao hbo
            clear hlt HF
            have n1 := World.new_ne wr _ a0
            have n2 := World.new_ne wr _ b0
            go_wp2
            go_region_held3 (fun V => (V.cell? ⟨ba, oa + k2 * 3, none⟩ = some (.string rn) ∧ V.cell? ⟨ba, oa + k2 * 3 + 1, none⟩ = some (.string qb) ∧ V.cell? ⟨ba, oa + k2 * 3 + 2, none⟩ = some (.int .i64 qs)) ∧ V.cell? ⟨bb, ob + k2 * 3, none⟩ = some (.string rn) ∧ V.cell? ⟨bb, ob + k2 * 3 + 1, none⟩ = some (.string rb) ∧ V.cell? ⟨bb, ob + k2 * 3 + 2, none⟩ = some (.int .i64 (rb.size : Int))) (first | (refine ⟨⟨?_, ?_, ?_⟩, ?_, ?_, ?_⟩ <;> assumption) | go_keep) (fail)
            all_goals
              have HBN : Hid (∀ o1 o2, Below w6.heap.size w6 ((wr.alloc o1).alloc o2)) := fun o1 o2 => HBQ.out.trans ((((Below.refl wr.heap.size wr).alloc (Nat.le_refl _) o1).alloc (by simp) o2).mono HBQ.out.size)
              have hx1 : decide ((rb.size : Int) < qs) = false := by simp; omega
              have hx2 : decide ((qb.size : Int) < (rb.size : Int)) = false := by simp; omega
              have hx3 : (rn.toList != rn.toList) = false := by simp
              have hx4 : ((qb.extract 0 rb.size).toList != rb.toList) = false := by rw [f5]; simp
              have hx5 : ((rb.size : Int) != (rb.size : Int)) = false := by simp
              have hk00 : (0 : Int) ≤ (rb.size : Int) := by omega
              have hx6 : (rb.size : Int) ≤ (qb.size : Int) := by omega
              clear n1 n2 a0 a1 a2 b0 b1 b2 f3
              go_wp2
              go_quiet (fail)
              go_wp2
              go_roundw
              case rel => exact ⟨k2 + 1, HKM.out, by go_num, below_dnX (HBN.out _ _) _⟩
              case measure => first | exact measNW HKM.out HWK.out | exact measN1 HKM.out
          · have hlt' : ¬ (k2 : Int) < (L : Int) := by omega
            have HEND : Hid (Below w.heap.size w wr) := HB6.out.trans (HBQ.out.mono HB6.out.size)
            clear hlt
            go_wp2
            go_ret
            exact ⟨rfl, HEND.out⟩
      · have HCR := hid (crash_bad HDA4.out bo bcap ts (HTO.out.below HD4.out.bel (Nat.le_refl _)) hok)
        rw [← HM.out] at HCR
        clear hok
        go_wp2_with fail
        refine HCR.out.mono ?_
        rintro e w5 ⟨rfl, hn5⟩
        have HD5 := hid (HD4.out.now hn5)
        have HR5 : Hid (w5.ownsRow wr.heap.size 47 3 (.slice ao1 L cp1) L (flatR (gs.map toRf))) := by
          obtain ⟨D', _, ht, _⟩ := hn5
          exact ht.row HR1.out (fun b hb hf => by have := HDA.out.foot_lt b hf; have := (HR1.out.lt b hb).1; omega)
        obtain ⟨D5, hda5⟩ := HD5.out.at
        have HF5 := hid (files_so hda5)
        clear hn5 hda5 HCR
        go_wp2_with fail
        refine HF5.out.mono ?_
        rintro e w6 ⟨v2, hs, rfl, hfv6⟩
        obtain ⟨hhs, shs, hrow6, hb6⟩ := hfv6
        rw [← HL.out] at hrow6
        have HD6 := hid (HD5.out.below hb6)
        have HRR : Hid (hs = gs) := same_rows HDA.out HGS.out HSG.out hhs shs
        rw [HRR.out] at hrow6
        have HR6 := hid (hrow6 : w6.ownsRow w5.heap.size 47 3 v2 L (flatR (gs.map toRf)))
        have HLG2 : Hid ((gs.map toRf).length = L) := by
          show _ = _
          rw [List.length_map, HLG.out]
          exact HL.out.symm
        obtain ⟨ao2, cp2, hv2, _, hh2⟩ := heldFr_of_own HLG2.out HR6.out
        obtain ⟨ao1', cp1', hv1', _, hh1⟩ := heldFr_of_own HLG2.out HR5.out
        cases hv1'
        subst hv2
        have HH2 := hid hh2
        have HH1 := hid (hh1.below hb6)
        have hLL : (L : Int) ≤ 64 := by rw [HL.out] at hfew ⊢; omega
        have HB6 : Hid (Below w.heap.size w w6) := HD6.out.bel
        generalize gs.map toRf = G at *
        clear hhs shs hrow6 hb6 hh1 hh2 HF5 hfew HL HDA HD HLG HGS HSG HD4 HB4 HDA4 HD5 HR5 HR6 HR1 HD6 HRR
        go_wp2
        go_loopw [11] (fun i wq => ∃ k : Nat, k ≤ L ∧ i = .int .i64 k ∧ Hid (Below w6.heap.size w6 wq)) (fun i _ => L - (intOf i).toNat)
        case atStart => exact ⟨0, Nat.zero_le _, rfl, Below.refl _ _⟩
        case round =>
          obtain ⟨k2, hk2, rfl, HBQ⟩ := hrel
          by_cases hlt : k2 < L
          · have hlt' : (k2 : Int) < (L : Int) := by omega
            have hk0 : (0 : Int) ≤ (k2 : Int) := by omega
            have HKM : Hid (k2 + 1 ≤ L) := hid hlt
            have hwk : wrap64 ((k2 : Int) + 1) = (k2 : Int) + 1 := wrapN (by omega) (by omega)
            have HWK := hid hwk
            have HKG : Hid (k2 < G.length) := by show k2 < _; rw [HLG2.out]; exact hlt
            obtain ⟨ba, oa, hao, hla, a0, a1, a2⟩ := (HH1.out.below HBQ.out).cellsD HKG.out
            obtain ⟨bb, ob, hbo, hlb, b0, b1, b2⟩ := (HH2.out.below HBQ.out).cellsD HKG.out
            obtain ⟨⟨qn, qb, qs⟩, HQ⟩ : ∃ z, Hid (G[k2]'HKG.out = z) := ⟨_, hid rfl⟩
            rw [HQ.out] at a0 a1 a2 b0 b1 b2
            simp only at a0 a1 a2 b0 b1 b2
            subst hao hbo
            have hnq := fun W => neq_file W qn qb qs
            clear hlt
            go_wp2
            try go_quiet (fail)
            try go_wp2
            go_roundw
            case rel => exact ⟨k2 + 1, HKM.out, by go_num, by first | exact HBQ | exact below_dnX HBQ.out _⟩
            case measure => first | exact measNW HKM.out HWK.out | exact measN1 HKM.out
          · have hlt' : ¬ (k2 : Int) < (L : Int) := by omega
            have HEND : Hid (Below w.heap.size w wr) := HB6.out.trans (HBQ.out.mono HB6.out.size)
            clear hlt
            go_wp2
            go_ret
            exact ⟨rfl, HEND.out⟩
theorem diskFalls_open (ao : Option Addr) (cap : Nat) (os : List OpV) (bo : Option Addr) (bcap : Nat) (ts : List (ByteArray × Int)) (w : World) (ho : HeldO w ao os) (hl : os.length ≤ 140737488355328) (hi : ∀ o ∈ os, o.kl ≤ 140737488355328) (hj : ∀ o ∈ os, o.bl ≤ 140737488355328) (hT : ts.length ≤ 140737488355328 → HeldT w bo ts) (ht : ts.length ≤ 140737488355328) :
    Calls Try.prog 4 #[.slice ao os.length cap, .slice bo ts.length bcap] w fun e w' => e = .returned (.bool true) ∧ Below w.heap.size w w' := diskFalls_walk ao cap os bo bcap ts w ho hl hi hj (hT ht)
end Go.Proofs.Ytjfohnkfcfifeaa
