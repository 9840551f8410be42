/-
  The law's looks, when both disks have the same.
-/
import Derived.Test.YtjfohnkfcfifeaaRzB
import Derived.Test.YtjfohnkfcfifeaaRyB
import Derived.Test.YtjfohnkfcfifeaaDiskU
namespace Go.Proofs.Ytjfohnkfcfifeaa
open Go.RowKit Go.Maps
section
variable {w V : World} {p bm x : Nat} {size c : Int} {fs : List Fl} {g : Xd}
theorem Dk.xd (h : Dk w V p bm size c fs x size g) : ∃ eo cap, XdAt V w.heap.size x size g eo cap := by
  obtain ⟨D, eo, cap, h⟩ := h
  exact ⟨eo, cap, h.xd⟩
theorem looksS (h : Same3 fs c g) {gs : List Fl} (hp : gs.Perm fs) (hs : SortF gs) : gs.map toRf = g.L := by
  have hn : gs.Pairwise (fun x y => x.name ≠ y.name) := perm_names hp h.L.names
  exact SortR.eq ((hp.map toRf).trans h.L.perm) (hs.rf hn) h.L.sort
theorem offS (h : CallsA c g) : g.off = (c == 0) := by
  have := h.off
  by_cases hc : c = 0
  · rw [this.1 hc]
    simp [hc]
  · have h1 : g.off = false := by
      cases e : g.off with
      | false => rfl
      | true => exact absurd (this.2 e) hc
    rw [h1]
    simp [hc]
set_option maxRecDepth 100000 in
set_option maxHeartbeats 2000000 in
theorem looks_any (h : Dk w V p bm size c fs x size g) (hs : Same3 fs c g) : Calls Try.prog 12 #[.pointer (some ⟨p, 0, none⟩), .pointer (some ⟨x, 0, none⟩)] V fun e V' => e = .returned (.bool true) ∧ Below V.heap.size V V' := by
  have H := hid h
  have HS := hid hs
  obtain ⟨D, hda⟩ := h.da
  have HDA := hid hda
  have HFI := hid (files_so hda)
  obtain ⟨eo, cap, hxd⟩ := h.xd
  have HXD := hid hxd
  have HLN : Hid (g.L.length = fs.length) := hs.L.len
  clear h hs hda hxd
  go_enter Try.func12, Try.ntmps12
  go_wp2_with fail
  refine HFI.out.mono ?_
  rintro e w4 ⟨v1, gs, rfl, hfv⟩
  obtain ⟨hgs, sgs, hrow, hb4⟩ := hfv
  have HG : Hid (gs.map toRf = g.L) := looksS HS.out hgs sgs
  rw [HG.out, ← HLN.out] at hrow
  obtain ⟨L, hL⟩ : ∃ L, L = g.L.length := ⟨_, rfl⟩
  have HL := hid hL
  obtain ⟨ao1, cp1, hv1, _, hh1⟩ := heldFr_of_own rfl hrow
  subst hv1
  have HH1 := hid hh1
  have HB4 := hid hb4
  have HX4 := hid (HXD.out.below hb4)
  have HH2 : Hid (HeldFr w4 eo g.L) := HX4.out.held.1
  have c1 := HX4.out.blk.cell (i := 1) rfl
  have HLP := hid (left_any (HDA.out.below hb4 (Nat.le_refl _)))
  rw [← hL] at c1 ⊢
  clear hgs sgs hrow hb4 hh1 hL
  have HTT : Hid ((rtotal g.L : Int) = (total fs : Int)) := by show _ = _; rw [HS.out.L.tot]
  have HOF : Hid (g.off = (c == 0)) := offS HS.out.c
  have hf64 : (L : Int) ≤ 64 := by have := HX4.out.few; have := HL.out; omega
  go_wp2_with fail
  refine HLP.out.mono ?_
  rintro e w5 ⟨rfl, hb5⟩
  have HB5 := hid (btN HB4.out hb5)
  have HX5 := hid (HX4.out.below hb5)
  have HLD := hid (rleft_any HX5.out.rd)
  rw [HTT.out] at HLD
  have H15 := hid (HH1.out.below hb5)
  have hda5 := HDA.out.below HB5.out (Nat.le_refl _)
  have HOP := hid (off_any hda5)
  have HOD := hid (roffX HX5.out)
  rw [HOF.out] at HOD
  obtain ⟨lft, hlft⟩ : ∃ q, q = size - (total fs : Int) := ⟨_, rfl⟩
  rw [← hlft] at HLD ⊢
  obtain ⟨oc, hoc⟩ : ∃ q, q = (c == 0) := ⟨_, rfl⟩
  rw [← hoc] at HOD HOP
  have hlb : (lft != lft) = false := by simp
  have hob : (oc != oc) = false := by simp
  have c15 := HX5.out.blk.cell (i := 1) rfl
  rw [← HL.out] at c15
  clear hb5 hda5 HLP c1 hlft hoc
  go_wp2_with fail
  refine HLD.out.mono ?_
  rintro e w6 ⟨rfl, rfl⟩
  go_wp2_with fail
  refine HOP.out.mono ?_
  rintro e w6 ⟨rfl, rfl⟩
  go_wp2_with fail
  refine HOD.out.mono ?_
  rintro e w6 ⟨rfl, rfl⟩
  have HH25 := hid HX5.out.held.1
  have HX6 := hid HX5.out
  obtain ⟨W0, hW0, HBV, HA0, HA1, HAX⟩ : ∃ W0, W0 = w6 ∧ Hid (Below V.heap.size V W0) ∧ Hid (HeldFr W0 ao1 g.L) ∧ Hid (HeldFr W0 eo g.L) ∧ Hid (XdAt W0 w.heap.size x size g eo cap) := ⟨_, rfl, HB5, H15, HH25, HX6⟩
  rw [← hW0]
  clear hW0 HB5 H15 HH25 HX6 HX5 HLD HOP HOD HX4 HH2 HH1 HB4 HXD HDA HFI c15 HOF HTT
  go_wp2
  go_loopw [6] (fun i wq => ∃ k : Nat, k ≤ L ∧ i = .int .i64 k ∧ Hid (Below W0.heap.size W0 wq)) (fun i _ => L - (intOf i).toNat)
  case atStart => exact ⟨0, Nat.zero_le _, rfl, Below.refl _ _⟩
  case round =>
    obtain ⟨k2, hk2, rfl, HBQ⟩ := hrel
    by_cases hlt : k2 < L
    · have hlt' : (k2 : Int) < (L : Int) := by omega
      have hk0 : (0 : Int) ≤ (k2 : Int) := by omega
      have HKM : Hid (k2 + 1 ≤ L) := hid hlt
      have hwk : wrap64 ((k2 : Int) + 1) = (k2 : Int) + 1 := wrapN (by omega) (by omega)
      have HWK := hid hwk
      have HKG : Hid (k2 < g.L.length) := by show k2 < _; rw [← HL.out]; exact hlt
      obtain ⟨ba, oa, hao, hla, a0, a1, a2⟩ := (HA0.out.below HBQ.out).cellsD HKG.out
      obtain ⟨bb, ob, hbo, hlb2, b0, b1, b2⟩ := (HA1.out.below HBQ.out).cellsD HKG.out
      have d1 := (HAX.out.below HBQ.out).blk.cell (i := 1) rfl
      rw [← HL.out] at d1
      obtain ⟨⟨qn, qb, qs⟩, HQ⟩ : ∃ z, Hid (g.L[k2]'HKG.out = z) := ⟨_, hid rfl⟩
      rw [HQ.out] at a0 a1 a2 b0 b1 b2
      simp only at a0 a1 a2 b0 b1 b2
      subst hao hbo
      have hnq := fun W => neq_file W qn qb qs
      clear hlt
      go_wp2
      try go_quiet (fail)
      try go_wp2
      go_roundw
      case rel => exact ⟨k2 + 1, HKM.out, by go_num, by first | exact HBQ | exact below_dnX HBQ.out _⟩
      case measure => first | exact measNW HKM.out HWK.out | exact measN1 HKM.out
    · have hlt' : ¬ (k2 : Int) < (L : Int) := by omega
      have HEND := hid (btN HBV.out HBQ.out)
      clear hlt
      go_wp2
      go_ret
      exact ⟨rfl, HEND.out⟩
end
end Go.Proofs.Ytjfohnkfcfifeaa
/-
  A Crash of both; what Read answers.
-/
namespace Go.Proofs.Ytjfohnkfcfifeaa
open Go.RowKit Go.Maps
section
variable {w V : World} {p bm x : Nat} {size c : Int} {fs : List Fl} {g : Xd} {D : DataW Value} {ts : List (ByteArray × Int)} {s : ByteArray}
theorem ok_one (h : Alike fs g.L) (pre : List (ByteArray × Int)) (t : ByteArray × Int) : okOne fs pre t ↔ okR g pre t := by
  unfold okOne okR
  constructor
  · rintro ⟨h1, h2, f, h3, h4⟩
    refine ⟨h1, h2, h.isin h3, ?_⟩
    rw [h.at h3]
    show t.2 ≤ (((strOfNums f.bytes).size : Nat) : Int) - (f.sure : Int)
    rw [strOfNums_size]
    exact h4
  · rintro ⟨h1, h2, h3, h4⟩
    cases hf : ffind fs t.1 with
    | none => exact absurd (h.isnone.1 hf) h3
    | some f =>
      rw [h.at hf] at h4
      refine ⟨h1, h2, f, rfl, ?_⟩
      have h5 : t.2 ≤ (((strOfNums f.bytes).size : Nat) : Int) - (f.sure : Int) := h4
      rw [strOfNums_size] at h5
      exact h5
theorem ok_all (h : Alike fs g.L) : okFrom fs [] ts ↔ okRs g ts := by
  constructor
  · intro h1 i hi
    have := okFrom_at h1 hi
    rw [List.nil_append] at this
    exact (ok_one h _ _).1 this
  · intro h1
    refine okFrom_of (fun i hi => ?_)
    rw [List.nil_append]
    exact (ok_one h _ _).2 (h1 i hi)
theorem fell_toRf {f : Fl} (Vv : ByteArray → Value) (h : (f.sure : Int) + (tfind ts f.name).getD 0 = (fall ts f : Int)) : toRf (fellOne ts Vv (fun _ => false) f) = fellR ts (toRf f) := by
  have e : fellOne ts Vv (fun _ => false) f = f.cutTo (fall ts f) (Vv f.name) := rfl
  rw [e]
  unfold fellR keepOf
  show (⟨f.name, strOfNums (f.bytes.take (fall ts f)), ((fall ts f : Nat) : Int)⟩ : Rf) = ⟨f.name, (strOfNums f.bytes).extract 0 ((f.sure : Int) + (tfind ts f.name).getD 0).toNat, (f.sure : Int) + (tfind ts f.name).getD 0⟩
  rw [h, Int.toNat_natCast, str_take]
theorem Same3.crashOk (h : Same3 fs c g) (hd : DiskAt V p bm size c fs D) (hok : okFrom fs [] ts) (Vv : ByteArray → Value) : crashC g ts = 0 ∧ Same3 (fell ts Vv (fun _ => false) fs) (-1) (crashX g ts) := by
  have hok2 := (ok_all h.L).1 hok
  unfold crashC crashX
  rw [if_pos hok2, if_pos hok2]
  refine ⟨rfl, ⟨?_, ?_⟩, .inl ⟨rfl, by decide⟩⟩
  · have e : (fell ts Vv (fun _ => false) fs).map toRf = (fs.map toRf).map (fellR ts) := by
      unfold fell
      rw [List.map_map, List.map_map]
      refine List.map_congr_left (fun f hf => ?_)
      exact fell_toRf Vv (fell_bound hok hd.names hf (hd.files f hf).sure).2.1
    rw [e]
    exact h.L.perm.map _
  · exact h.L.sort.map (fun r => rfl)
theorem Same3.crashBad (h : Same3 fs c g) (hok : ¬ okFrom fs [] ts) : crashC g ts = 1 ∧ crashX g ts = g := by
  have hok2 : ¬ okRs g ts := fun e => hok ((ok_all h.L).2 e)
  unfold crashC crashX
  rw [if_neg hok2, if_neg hok2]
  exact ⟨rfl, rfl⟩
theorem Same3.ok (h : Same3 fs c g) (hd : DiskAt V p bm size c fs D) : XdOk g := by
  intro r hr
  obtain ⟨f, hf, rfl⟩ := List.mem_map.1 (h.L.perm.symm.subset hr)
  have := (hd.files f hf).sure
  refine ⟨by show (0 : Int) ≤ (f.sure : Int); omega, ?_⟩
  show (f.sure : Int) ≤ (((strOfNums f.bytes).size : Nat) : Int)
  rw [strOfNums_size]
  omega
/-- A crash of the program's. -/
def CrR (ts : List (ByteArray × Int)) (c : Int) (fs : List Fl) (er : Int) (fs' : List Fl) (c' : Int) : Prop := (okFrom fs [] ts ∧ er = 0 ∧ c' = -1 ∧ ∃ Vv, fs' = fell ts Vv (fun _ => false) fs) ∨ (¬ okFrom fs [] ts ∧ er = 1 ∧ Keep c fs fs' c')
theorem crash_chg (hd : DiskAt V p bm size c fs D) (ao : Option Addr) (cap : Nat) (hT : HeldT V ao ts) : Calls Try.prog 14 #[.pointer (some ⟨p, 0, none⟩), .slice ao ts.length cap] V (Chg (CrR ts c fs) V p bm size fs) := by
  by_cases hok : okFrom fs [] ts
  · refine (crash_ok hd ao cap ts hT hok).mono ?_
    rintro e w' ⟨rfl, Vv, hn⟩
    exact ⟨0, _, _, rfl, hn, .inl ⟨hok, rfl, rfl, Vv, rfl⟩⟩
  · refine (crash_bad hd ao cap ts hT hok).mono ?_
    rintro e w' ⟨rfl, hn⟩
    exact ⟨1, _, _, rfl, hn, .inr ⟨hok, rfl, rfl, rfl⟩⟩
theorem Same3.cr {er c' : Int} {fs' : List Fl} (h : Same3 fs c g) (hd : DiskAt V p bm size c fs D) (hr : CrR ts c fs er fs' c') : er = crashC g ts ∧ Same3 fs' c' (crashX g ts) := by
  rcases hr with ⟨h1, h2, h3, Vv, rfl⟩ | ⟨h1, h2, h3, h4⟩
  · obtain ⟨k1, k2⟩ := h.crashOk hd h1 Vv
    exact ⟨by rw [k1]; exact h2, by rw [h3]; exact k2⟩
  · obtain ⟨k1, k2⟩ := h.crashBad h1
    exact ⟨by rw [k1]; exact h2, by rw [k2, h3, h4]; exact h⟩
theorem Dk.crash {sz : Int} (h : Dk w V p bm size c fs x sz g) (hok : XdOk g) (hso : SortR g.L) (ao : Option Addr) (cap : Nat) (hT : HeldT w ao ts) : Calls Try.prog 35 #[.pointer (some ⟨x, 0, none⟩), .slice ao ts.length cap] V fun e w' => e = .returned (.int .i64 (crashC g ts)) ∧ Dk w w' p bm size c fs x sz (crashX g ts) ∧ KeptZ V w' := by
  obtain ⟨D, eo, cap', hk⟩ := id h
  have hz := hk.zfoot
  have hx := hk.xd
  refine h.call (fun eo2 cap2 hx2 => ?_)
  have h4 := blk_eqX hx2.blk hx.blk
  simp only [List.cons.injEq, Value.slice.injEq] at h4
  obtain ⟨_, ⟨e1, _, e2⟩, _⟩ := h4
  subst e1 e2
  refine hx.crash hok hso.names ao cap ts (hT.below h.bel (Nat.le_refl _)) ts.length rfl ?_
  intro a ha hne hf
  have := hz _ hf
  rcases hT.cell with h0 | ⟨b, off, h1, h2, _⟩
  · exact hne h0
  · rw [h1] at ha
    cases ha
    exact absurd h2 (by show ¬ b < _; have h9 : w.heap.size ≤ b := this; omega)
/-- What the program's Read answers. -/
def readP (fs : List Fl) (s : ByteArray) : ByteArray := match ffind fs s with
  | none => ⟨#[]⟩
  | some f => strOfNums f.bytes
def readPc (fs : List Fl) (s : ByteArray) : Int := match ffind fs s with
  | none => 4
  | some _ => 0
theorem read_p (hd : DiskAt V p bm size c fs D) (hs : s.size ≤ maxLen) : Calls Try.prog 16 #[.pointer (some ⟨p, 0, none⟩), .string s] V fun e w' => e = .returned (.tuple #[.string (readP fs s), .int .i64 (readPc fs s)]) ∧ w' = V := by
  unfold readP readPc
  cases hf : ffind fs s with
  | none => exact read_none hd s hs hf
  | some f => exact read_any hd s hs hf
theorem Same3.rd (h : Same3 fs c g) : readP fs s = readV g s ∧ readPc fs s = readC g s := by
  unfold readP readPc readV readC
  cases hf : ffind fs s with
  | none =>
    have := h.L.isnone.1 hf
    rw [if_pos this, if_pos this]
    exact ⟨rfl, rfl⟩
  | some f =>
    have := h.L.isin hf
    rw [if_neg this, if_neg this, h.L.at hf]
    exact ⟨rfl, rfl⟩
end
end Go.Proofs.Ytjfohnkfcfifeaa
