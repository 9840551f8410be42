/-
  pannierlaw03.DiskRoom answers true at every input.
-/
import Derived.Test.YtcjkpkeopofmbaaDiskX
import Derived.Test.YtcjkpkeopofmbaaOpOpen4
import Derived.Deep.CutRange
import Derived.Deep.CutBlock
import Derived.Deep.LoopGhost
import Derived.Deep.RegionHeld3
namespace Go.Proofs.Ytcjkpkeopofmbaa
open Go.RowKit Go.Maps

set_option maxRecDepth 100000 in
theorem room_bad (size : Int) (ao : Option Addr) (cap n : Nat) (w : World) (hbad : size < 0 ∨ 268435456 < size) :
    Calls Try.prog 6 #[.int .i64 size, .slice ao n cap] w fun e w' => e = .returned (.bool true) ∧ Below w.heap.size w w' := by
  have HNW := hid (dnew_bad w size hbad)
  by_cases h0 : size < 0
  · clear hbad
    go_enter Try.func6, Try.ntmps6
    go_wp2_with fail
    refine HNW.out.mono ?_
    rintro e w' ⟨rfl, rfl⟩
    go_wp2_with fail
    refine (dlives_any _).mono ?_
    rintro e w1 ⟨rfl, hb⟩
    have HB := hid hb
    clear hb
    go_wp2
    go_ret
    exact ⟨rfl, HB.out⟩
  · have h1 : 268435456 < size := by omega
    clear hbad
    go_enter Try.func6, Try.ntmps6
    go_wp2_with fail
    refine HNW.out.mono ?_
    rintro e w' ⟨rfl, rfl⟩
    go_wp2_with fail
    refine (dlives_any _).mono ?_
    rintro e w1 ⟨rfl, hb⟩
    have HB := hid hb
    clear hb
    go_wp2
    go_ret
    exact ⟨rfl, HB.out⟩

theorem HeldO.at {w : World} {ao : Option Addr} {os : List OpV} (h : HeldO w ao os) {k : Nat} (hk : k < os.length) : ∃ b off, ao = some ⟨b, off, none⟩ ∧ b < w.heap.size := by
  rcases h.2 with h0 | ⟨b, off, h1, h2, _⟩
  · rw [h0] at hk; cases hk
  · exact ⟨b, off, h1, h2⟩
/-- What is there of one Op, also later. -/
structure OpThere (W : World) (b off : Nat) (o : OpV) : Prop where
  c0 : W.cell? ⟨b, off, none⟩ = some (.int .i64 o.kind)
  c1 : W.cell? ⟨b, off + 1, none⟩ = some (.string o.name)
  c2 : W.cell? ⟨b, off + 2, none⟩ = some (.string o.to)
  c3 : W.cell? ⟨b, off + 3, none⟩ = some (.slice o.ba o.bl o.bc)
  c4 : W.cell? ⟨b, off + 4, none⟩ = some (.int .i64 o.n)
  c5 : W.cell? ⟨b, off + 5, none⟩ = some (.slice o.ka o.kl o.kc)
  ok : o.Ok
  bytes : ∃ bs, Held W o.ba o.bl o.bc bs
  keep : ∃ ts : List (ByteArray × Int), ts.length = o.kl ∧ HeldT W o.ka ts
theorem HeldO.get {w W : World} {b off : Nat} {os : List OpV} (h : HeldO w (some ⟨b, off, none⟩) os) (hb : Below w.heap.size w W) {k : Nat} (hk : k < os.length) (hl : (os[k]'hk).kl ≤ 140737488355328) : OpThere W b (off + k * 6) (os[k]'hk) := by
  have ho := h.1 _ (List.getElem_mem hk)
  rcases h.2 with h0 | ⟨b', off', h1, h2, h3⟩
  · rw [h0] at hk; cases hk
  · cases h1
    have cc : ∀ c u, (os[k]'hk).cells[c]? = some u → W.cell? ⟨b, off + k * 6 + c, none⟩ = some u := fun c u hu => (hb.cell (by simpa using h2)).trans (h3 k hk c u hu)
    obtain ⟨bs, hbs⟩ := ho.bytes
    obtain ⟨ts, t1, t2, t3, t4⟩ := ho.keep
    exact ⟨cc 0 _ rfl, cc 1 _ rfl, cc 2 _ rfl, cc 3 _ rfl, cc 4 _ rfl, cc 5 _ rfl, ho.ok, ⟨bs, hbs.below hb (Nat.le_refl _)⟩, ⟨ts, t1, (HeldT.below ⟨t2, t3, by omega, t4⟩ hb (Nat.le_refl _))⟩⟩

theorem num_a {a b : Int} {m : Nat} (h : a - b = (m : Int)) : b + (m : Int) = a := by omega
theorem num_b {L f : Nat} (h : L = f) (h64 : ¬ (64 : Int) ≤ (L : Int)) : f < 64 := by omega
theorem num_c {a b : Int} {m : Nat} (h : a - b = (m : Int)) : a < b + ((m + 1 : Nat) : Int) := by omega
theorem num_d {m : Nat} (h : m ≤ 65536) : m + 1 ≤ maxLen ∧ m ≤ maxLen := by unfold maxLen; omega
theorem DiskIn.drewN {B : Nat} {w wr : World} {p bm : Nat} {size c : Int} {fs : List Fl} (h : DiskIn B w wr p bm size c fs) (q : Nat) : DiskIn B w (wr.drewN q) p bm size c fs := by
  obtain ⟨D, hd, hF, hb, hB⟩ := h
  exact ⟨D, hd.turned (F := fun _ => False) ((Turns.refl _ _).drewN q) (fun _ _ h => h), hF, below_dn hb q, hB⟩
theorem DiskIn.bel {B : Nat} {w wr : World} {p bm : Nat} {size c : Int} {fs : List Fl} (h : DiskIn B w wr p bm size c fs) : Below B w wr := by
  obtain ⟨D, hd, hF, hb, hB⟩ := h
  exact hb

set_option maxRecDepth 100000 in
set_option maxHeartbeats 4000000 in
theorem room_good (size : Int) (ao : Option Addr) (cap : Nat) (os : List OpV) (w : World) (h0 : ¬ size < 0) (h1 : ¬ 268435456 < size) (ho : HeldO w ao os) (hl : os.length ≤ 140737488355328) (hi : ∀ o ∈ os, o.kl ≤ 140737488355328) :
    Calls Try.prog 6 #[.int .i64 size, .slice ao os.length cap] w fun e w' => e = .returned (.bool true) ∧ Below w.heap.size w w' := by
  have HNW := hid (dnew_good w size h0 h1)
  have HO := hid ho
  have HI := hid hi
  obtain ⟨n, hn⟩ : ∃ n, n = os.length := ⟨_, rfl⟩
  have HN := hid hn
  rw [← hn] at hl ⊢
  clear ho hi hn
  go_enter Try.func6, Try.ntmps6
  go_wp2_with fail
  refine HNW.out.mono ?_
  rintro e w1 ⟨rfl, h'⟩
  have HD : Hid (DiskIn w.heap.size w w1 (w.heap.size + 1) w.heap.size size (-1) []) := by subst h'; exact DiskIn.new w size (by omega) (by omega)
  clear h' HNW
  generalize w.heap.size + 1 = p at *
  obtain ⟨bm, hbm⟩ : ∃ bm, bm = w.heap.size := ⟨_, rfl⟩
  have HD1 : Hid (DiskIn w.heap.size w w1 p bm size (-1) []) := by rw [hbm]; exact HD.out
  clear HD hbm
  go_wp2_with fail
  refine (dlives_any _).mono ?_
  rintro e w2 ⟨rfl, hb2⟩
  have HD2 : Hid (∃ fs, DiskIn w.heap.size w w2 p bm size (-1) fs) := ⟨_, HD1.out.below hb2⟩
  clear hb2 HD1
  by_cases hbig : 65536 < size
  · have HBE : Hid (Below w.heap.size w w2) := by
      obtain ⟨fs, D, _, _, hb, _⟩ := HD2.out
      exact hb
    go_wp2
    go_ret
    exact ⟨rfl, HBE.out⟩
  have hbigb : decide (65536 < size) = false := by simp; omega
  go_wp2
  go_loopg [7, 8, 9, 10] n (fun gg s7 _ _ _ wr => ∃ k : Nat, k ≤ n ∧ n - k ≤ gg ∧ s7 = .int .i64 k ∧ Hid (∃ fs, DiskIn w.heap.size w wr p bm size (-1) fs))
  case atStart => exact ⟨0, by omega, by omega, rfl, HD2⟩
  case round =>
    obtain ⟨k, hk, hgg, rfl, HD3⟩ := hrel
    clear HD2
    by_cases hlt : k < n
    · have hlt' : (k : Int) < (n : Int) := by omega
      have hkx : Hid (k < os.length) := (by have := HN.out; omega : k < os.length)
      obtain ⟨b, off, rfl, hbw⟩ := HO.out.at hkx.out
      obtain ⟨o, hoe⟩ : ∃ o, o = os[k]'hkx.out := ⟨_, rfl⟩
      have HG : Hid (∀ W, Below w.heap.size w W → OpThere W b (off + k * 6) o) := by
        intro W hW
        rw [hoe]
        exact HO.out.get hW hkx.out (HI.out _ (List.getElem_mem hkx.out))
      clear hoe
      obtain ⟨fs, hd⟩ := HD3.out
      have HD := hid hd
      have hop := HG.out wr (by obtain ⟨D, _, _, hb, _⟩ := hd; exact hb)
      have c0 := hop.c0
      have c1 := hop.c1
      have c2 := hop.c2
      have c3 := hop.c3
      have c4 := hop.c4
      have c5 := hop.c5
      have HHOP := hid hop
      clear hd hop
      go_upto_block 2 with fail
      go_cut [] from 33 to 134 (fun wx => Hid (∃ fs, DiskIn w.heap.size w wx p bm size (-1) fs))
      case first =>
        by_cases k1 : o.kind = 1
        · have k1b : (o.kind == 1) = true := by simp [k1]
          obtain ⟨bs, hbs⟩ := HHOP.out.bytes
          have HST := hid (fun (q : Nat) => step_append (DiskIn.drewN HD.out q) o.name HHOP.out.ok.2.2.1 o.ba o.bl o.bc bs (hbs.drawn q))
          clear hbs
          go_wp2_with fail
          go_region_held3 (fun V => V.cell? ⟨b, off + k * 6 + 1, none⟩ = some (.string o.name) ∧ V.cell? ⟨b, off + k * 6 + 3, none⟩ = some (.slice o.ba o.bl o.bc)) (first | (refine ⟨?_, ?_⟩ <;> assumption) | go_keep)
            (first | (go_at_call 12; refine (HST.out _).mono ?_; rintro e w9 ⟨er, fs9, rfl, hd9⟩; have HD9 := hid hd9; have ho9 := HG.out w9 (DiskIn.bel hd9); have y1 := ho9.c1; have y3 := ho9.c3; clear hd9 ho9))
          all_goals
            go_wp2_with fail
            go_meet
            exact ⟨_, HD9.out⟩
        have k1b : (o.kind == 1) = false := by simp [k1]
        by_cases k2 : o.kind = 2
        · have k2b : (o.kind == 2) = true := by simp [k2]
          have HST := hid (step_sync HD.out o.name HHOP.out.ok.2.2.1)
          go_wp2_with fail
          refine HST.out.mono ?_
          rintro e w9 ⟨er, fs9, rfl, hd9⟩
          have HD9 := hid hd9
          clear hd9
          go_wp2_with fail
          go_meet
          exact ⟨_, HD9.out⟩
        have k2b : (o.kind == 2) = false := by simp [k2]
        by_cases k3 : o.kind = 3
        · have k3b : (o.kind == 3) = true := by simp [k3]
          have HST := hid (fun (q : Nat) => step_cut (DiskIn.drewN HD.out q) o.name HHOP.out.ok.2.2.1 o.n)
          go_wp2_with fail
          go_region_held3 (fun V => V.cell? ⟨b, off + k * 6 + 1, none⟩ = some (.string o.name) ∧ V.cell? ⟨b, off + k * 6 + 4, none⟩ = some (.int .i64 o.n)) (first | (refine ⟨?_, ?_⟩ <;> assumption) | go_keep)
            (first | (go_at_call 21; refine (HST.out _).mono ?_; rintro e w9 ⟨er, fs9, rfl, hd9⟩; have HD9 := hid hd9; have ho9 := HG.out w9 (DiskIn.bel hd9); have y1 := ho9.c1; have y3 := ho9.c4; clear hd9 ho9))
          all_goals
            go_wp2_with fail
            go_meet
            exact ⟨_, HD9.out⟩
        have k3b : (o.kind == 3) = false := by simp [k3]
        by_cases k4 : o.kind = 4
        · have k4b : (o.kind == 4) = true := by simp [k4]
          have HST := hid (fun (q : Nat) => step_rename (DiskIn.drewN HD.out q) o.name o.to HHOP.out.ok.2.2.1 HHOP.out.ok.2.2.2)
          go_wp2_with fail
          go_region_held3 (fun V => V.cell? ⟨b, off + k * 6 + 1, none⟩ = some (.string o.name) ∧ V.cell? ⟨b, off + k * 6 + 2, none⟩ = some (.string o.to)) (first | (refine ⟨?_, ?_⟩ <;> assumption) | go_keep)
            (first | (go_at_call 22; refine (HST.out _).mono ?_; rintro e w9 ⟨er, fs9, rfl, hd9⟩; have HD9 := hid hd9; have ho9 := HG.out w9 (DiskIn.bel hd9); have y1 := ho9.c1; have y3 := ho9.c2; clear hd9 ho9))
          all_goals
            go_wp2_with fail
            go_meet
            exact ⟨_, HD9.out⟩
        have k4b : (o.kind == 4) = false := by simp [k4]
        by_cases k5 : o.kind = 5
        · have k5b : (o.kind == 5) = true := by simp [k5]
          have HST := hid (step_remove HD.out o.name HHOP.out.ok.2.2.1)
          go_wp2_with fail
          refine HST.out.mono ?_
          rintro e w9 ⟨er, fs9, rfl, hd9⟩
          have HD9 := hid hd9
          clear hd9
          go_wp2_with fail
          go_meet
          exact ⟨_, HD9.out⟩
        have k5b : (o.kind == 5) = false := by simp [k5]
        by_cases k7 : o.kind = 7
        · have k7b : (o.kind == 7) = true := by simp [k7]
          obtain ⟨ts, ht1, ht2⟩ := HHOP.out.keep
          have HST := hid (step_crash HD.out o.ka o.kc ts ht2)
          rw [ht1] at HST
          clear ht1 ht2
          go_wp2_with fail
          refine HST.out.mono ?_
          rintro e w9 ⟨er, fs9, rfl, hd9⟩
          have HD9 := hid hd9
          clear hd9
          go_wp2_with fail
          go_meet
          exact ⟨_, HD9.out⟩
        have k7b : (o.kind == 7) = false := by simp [k7]
        go_wp2_with fail
        go_meet
        exact ⟨_, HD.out⟩
      case rest =>
        obtain ⟨fs2, hd2⟩ := hcut.out
        clear HD HHOP c0 c1 c2 c3 c4 c5 hcut HD3
        have HD4 := hid hd2
        clear hd2
        obtain ⟨D2, hda, _⟩ := HD4.out
        have HFI := hid (files_any hda)
        have htot : (total fs2 : Int) ≤ size := hda.room
        have hfew : fs2.length ≤ 64 := hda.few
        clear hda
        go_wp2_with fail
        refine HFI.out.mono ?_
        rintro e w5 ⟨v5, rfl, gs, hperm, _, hrow, hb5⟩
        have HD5 : Hid (DiskIn w.heap.size w w5 p bm size (-1) fs2) := HD4.out.below hb5
        have hglen : gs.length = fs2.length := hperm.length_eq
        have hgt : total gs = total fs2 := total_perm hperm
        have HGT := hid hgt
        have HROW := hid hrow
        have hform : ∃ eo cp, v5 = .slice eo gs.length cp ∧ (0 < gs.length → ∃ gg, eo = some ⟨gg, 0, none⟩ ∧ ∀ j (hj : j < gs.length), w5.cell? ⟨gg, j * 3 + 1, none⟩ = some (.string (strOfNums (gs[j]'hj).bytes))) := by
          rcases hrow.2 with ⟨e1, e2⟩ | ⟨gg, cp, cur, e1, _⟩
          · exact ⟨none, 0, by rw [e1, hglen, e2], fun h5 => by omega⟩
          · refine ⟨some ⟨gg, 0, none⟩, cp, by rw [e1, hglen], fun _ => ⟨gg, rfl, fun j hj => ?_⟩⟩
            have hob : v5.ownBlock = some gg := by rw [e1]; rfl
            have := hrow.cells hob _ _ (flatF_get hj)
            simpa [Addr.add_lit] using this
        obtain ⟨eo, cp5, rfl, hcl⟩ := hform
        have HCL := hid hcl
        obtain ⟨m, hm⟩ : ∃ m, m = gs.length := ⟨_, rfl⟩
        rw [← hm]
        have HM := hid hm
        have hm64 : m ≤ 64 := by omega
        have HTOT := hid htot
        clear hperm hrow hb5 hglen hgt hcl hm htot hfew HROW
        go_wp2
        go_loopg [8, 10] m (fun gg s8 s10 wq => ∃ j : Nat, j ≤ m ∧ m - j ≤ gg ∧ s10 = .int .i64 j ∧ s8 = .int .i64 (total (gs.take j) : Int) ∧ wq = w5)
        case atStart => exact ⟨0, by omega, by omega, rfl, rfl, rfl⟩
        case round =>
          obtain ⟨j, hj, hjg, rfl, rfl, rfl⟩ := hrel
          by_cases hjl : j < m
          · have hjl' : (j : Int) < (m : Int) := by omega
            have hjx : Hid (j < gs.length) := (by have := HM.out; omega : j < gs.length)
            obtain ⟨gg5, rfl, hcells⟩ := HCL.out (by have := hjx.out; omega)
            have d1 := hcells j hjx.out
            clear hcells
            have HTS := hid (total_take hjx.out)
            have HTL := hid (total_take_le gs (j + 1))
            rw [HTS.out] at HTL
            have hsl : ((strOfNums (gs[j]'hjx.out).bytes).size : Int) = ((gs[j]'hjx.out).bytes.length : Int) := by rw [strOf_len]
            have hwr : wrap64 ((total (gs.take j) : Int) + ((strOfNums (gs[j]'hjx.out).bytes).size : Int)) = ((total (gs.take (j + 1)) : Nat) : Int) := by
              rw [hsl, HTS.out]
              have h5 := HTL.out
              have h6 := HGT.out
              have h7 := HTOT.out
              unfold wrap64
              omega
            generalize strOfNums (gs[j]'hjx.out).bytes = str at *
            have HWR := hid hwr
            clear hsl hwr
            go_wp2_with fail
            go_roundg (m - (j + 1))
            case measure => omega
            case rel => exact ⟨j + 1, by omega, by omega, by go_num, by rw [HWR.out], rfl⟩
          · have hjl' : ¬ (j : Int) < (m : Int) := by omega
            have hjm : Hid (j = gs.length) := (by have := HM.out; omega : j = gs.length)
            obtain ⟨D5, hda5, _⟩ := HD5.out
            have HLF := hid (left_any hda5)
            clear hda5
            have hwr : wrap64 ((total (gs.take j) : Int) + (size - (total fs2 : Int))) = size := by
              rw [hjm.out, List.take_length, HGT.out]
              unfold wrap64
              omega
            have hne : (size != size) = false := by simp
            obtain ⟨T, hT⟩ : ∃ T : Nat, T = total (gs.take j) := ⟨_, rfl⟩
            rw [← hT] at hwr ⊢
            clear hT HCL
            go_wp2_with fail
            refine HLF.out.mono ?_
            rintro e w6 ⟨rfl, hb6⟩
            have HD6 : Hid (∃ fs, DiskIn w.heap.size w w6 p bm size (-1) fs) := ⟨_, HD5.out.below hb6⟩
            clear hb6
            go_wp2_with fail
            go_roundg (n - (k + 1))
            case measure => omega
            case rel => exact ⟨k + 1, by omega, by omega, by go_num, HD6⟩
    · have hlt' : ¬ (k : Int) < (n : Int) := by omega
      obtain ⟨fs, hd⟩ := HD3.out
      have HD := hid hd
      obtain ⟨D, hda, _⟩ := id hd
      have HLF := hid (left_any hda)
      have htot : (total fs : Int) ≤ size := hda.room
      obtain ⟨m, hm⟩ : ∃ m : Nat, size - (total fs : Int) = (m : Int) := ⟨(size - (total fs : Int)).toNat, by omega⟩
      rw [hm] at HLF
      have HMM := hid hm
      have hm6 : m ≤ 65536 := by omega
      clear hd hda htot hm HD3
      go_wp2_with fail
      refine HLF.out.mono ?_
      rintro e w4 ⟨rfl, hb4⟩
      have HD4 : Hid (DiskIn w.heap.size w w4 p bm size (-1) fs) := HD.out.below hb4
      clear hb4 HD
      obtain ⟨D4, hda4, _⟩ := HD4.out
      have HFI := hid (files_any hda4)
      clear hda4
      go_wp2_with fail
      refine HFI.out.mono ?_
      rintro e w5 ⟨v5, rfl, gs, _, _, hrow, hb5⟩
      have HD5 : Hid (DiskIn w.heap.size w w5 p bm size (-1) fs) := HD4.out.below hb5
      obtain ⟨eo, cp5, rfl⟩ : ∃ eo cp, v5 = .slice eo fs.length cp := by
        rcases hrow.2 with ⟨e1, e2⟩ | ⟨gg, cp, cur, e1, _⟩
        · exact ⟨none, 0, by rw [e1, e2]⟩
        · exact ⟨_, cp, e1⟩
      clear hrow hb5 HD4
      obtain ⟨L, hL⟩ : ∃ L, L = fs.length := ⟨_, rfl⟩
      rw [← hL]
      have HLL := hid hL
      clear hL
      by_cases h64 : (64 : Int) ≤ (L : Int)
      · go_wp2
        go_ret
        exact ⟨rfl, HD5.out.bel⟩
      · have HX3 := hid (num_b HLL.out h64)
        have HX2 := hid (num_a HMM.out)
        have HX1 := hid (num_c HMM.out)
        have HX4 := hid (num_d hm6)
        have hmk1 : ∀ W : World, (Instr.makeSlice 31 (.int .i64 ((m : Int) + 1)) (.int .i64 ((m : Int) + 1))).run Try.prog W = .ok (.slice (some ⟨W.heap.size, 0, none⟩) (m + 1) (m + 1)) (W.alloc (.cells (madeCells #[.int .u8 0] (m + 1)) 5)) := fun W =>
          run_make_row' (P := Try.prog) 31 5 (.int .u8 0) 1 Try.underlying31 Try.info5 rfl .i64 .i64 (m + 1) (by omega) (by omega) W
        have hmk2 : ∀ W : World, (Instr.makeSlice 31 (.int .i64 (m : Int)) (.int .i64 (m : Int))).run Try.prog W = .ok (.slice (some ⟨W.heap.size, 0, none⟩) m m) (W.alloc (.cells (madeCells #[.int .u8 0] m) 5)) := fun W =>
          run_make_row' (P := Try.prog) 31 5 (.int .u8 0) 1 Try.underlying31 Try.info5 rfl .i64 .i64 m (by omega) (by omega) W
        have hw1 : wrap64 ((m : Int) + 1) = (m : Int) + 1 := by unfold wrap64; omega
        have HA1 := hid (fill_over (HD5.out.below ((Below.refl _ _).alloc (Nat.le_refl _) _)) _ _ _ _ (held_made w5 (m + 1) HX4.out.1) HX1.out)
        go_wp2_with fail
        refine HA1.out.mono ?_
        rintro e w6 ⟨rfl, hd6⟩
        have HD6 := hid hd6
        have HA2 := hid (fill_up (HD6.out.below ((Below.refl _ _).alloc (Nat.le_refl _) _)) _ _ _ _ (held_made w6 m HX4.out.2) HX2.out HX3.out)
        clear hd6 HA1
        go_wp2_with fail
        refine HA2.out.mono ?_
        rintro e w7 ⟨rfl, fs7, hd7, ht7⟩
        have HD7 := hid hd7
        obtain ⟨D7, hda7, _⟩ := id hd7
        have HL7 := hid (left_any hda7)
        rw [Int.sub_eq_zero.2 ht7.symm] at HL7
        clear hd7 ht7 hda7 HA2
        go_wp2_with fail
        refine HL7.out.mono ?_
        rintro e w8 ⟨rfl, hb8⟩
        have HB8 : Hid (Below w.heap.size w w8) := (HD7.out.below hb8).bel
        clear hb8
        go_wp2
        go_ret
        exact ⟨rfl, HB8.out⟩

theorem diskRoom_walk (size : Int) (ao : Option Addr) (cap : Nat) (os : List OpV) (w : World) (_ : -9223372036854775808 ≤ size ∧ size ≤ 9223372036854775807) (ho : HeldO w ao os) (hl : os.length ≤ 140737488355328) (hi : ∀ o ∈ os, o.kl ≤ 140737488355328) :
    Calls Try.prog 6 #[.int .i64 size, .slice ao os.length cap] w fun e w' => e = .returned (.bool true) ∧ Below w.heap.size w w' := by
  by_cases hbad : size < 0 ∨ 268435456 < size
  · exact room_bad size ao cap os.length w hbad
  · exact room_good size ao cap os w (fun h => hbad (.inl h)) (fun h => hbad (.inr h)) ho hl hi
end Go.Proofs.Ytcjkpkeopofmbaa
