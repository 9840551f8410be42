/-
  The law's 'does', of Append, for any two disks.
-/
import Derived.Test.YtjfohnkfcfifeaaRyB
import Derived.Test.YtjfohnkfcfifeaaApps
namespace Go.Proofs.Ytjfohnkfcfifeaa
open Go.RowKit Go.Maps

theorem ownU_made (w : World) (B : Nat) (hB : B ≤ w.heap.size) : (w.alloc (.cells #[] 5)).ownsRow B 5 1 (.slice (some ⟨w.heap.size, 0, none⟩) 0 0) 0 (nums []) :=
  ⟨rfl, .inr ⟨w.heap.size, 0, #[], rfl, hB, World.alloc_heap_new w _, Nat.le_refl _, Nat.zero_le _, rfl, rfl⟩⟩
theorem ownU_blk {w : World} {B n : Nat} {v : Value} {bs : List Int} (h : w.ownsRow B 5 1 v n (nums bs)) (hp : 0 < n) : ∃ b cp cs, v = .slice (some ⟨b, 0, none⟩) n cp ∧ Blk w b 5 cs ∧ B ≤ b ∧ ∀ j, j < n → ∃ c : Int, cs[j]? = some (.int .u8 c) := by
  rcases h.2 with ⟨_, h0⟩ | ⟨b, cp, cur, rfl, hb, hg, hnc, hcm, hcs, htake⟩
  · omega
  · refine ⟨b, cp, cur.toList, rfl, by simpa [Blk] using hg, hb, fun j hj => ?_⟩
    have hlen := h.1
    have h1 : j < (nums bs).length := by omega
    have h2 := h.cells (g := b) rfl j _ (List.getElem?_eq_getElem h1)
    have h3 : w.heap[b]? = _ := hg
    rw [Addr.add_lit, Nat.zero_add] at h2
    unfold World.cell? at h2
    simp [h3] at h2
    refine ⟨bs[j]'(by simpa [nums] using h1), ?_⟩
    simp [nums] at h2
    simpa using h2
/-- The slice that the law makes of an op's bytes: a block of its own. -/
def OwnY (w0 : World) (p bm : Nat) (fs : List Fl) (box : Nat) (V : World) (bo : Option Addr) (m : Nat) : Prop := 0 < m → ∃ b cs, bo = some ⟨b, 0, none⟩ ∧ Blk V b 5 cs ∧ (∀ j, j < m → ∃ c : Int, cs[j]? = some (.int .u8 c)) ∧ ¬ DFoot p bm fs b ∧ w0.heap.size ≤ b ∧ b ≠ box
section
variable {w0 w V V1 : World} {p bm x box m : Nat} {size sz c c' : Int} {fs fs' : List Fl} {g : Xd} {bo : Option Addr}
theorem OwnY.prog (h : OwnY w0 p bm fs box V bo m) (hn : Now V V1 p bm size c' fs fs') : OwnY w0 p bm fs' box V1 bo m := fun h0 => by
  obtain ⟨b, cs, h1, h2, h3, h4, h5, h6⟩ := h h0
  refine ⟨b, cs, h1, now_blk hn h2 h4, h3, fun hf => ?_, h5, h6⟩
  obtain ⟨D', _, _, hF⟩ := hn
  rcases hF b hf with h7 | h7
  · exact h4 h7
  · have := h2.lt
    omega
theorem OwnY.put (h : OwnY w0 p bm fs box V bo m) (hd : Dk w0 V p bm size c fs x sz g) {ty : TypeId} {bc : List Value} (hb : Blk V box ty bc) {b j : Nat} {cs : List Value} (h1 : bo = some ⟨b, 0, none⟩) (h2 : Blk V b 5 cs) (_hj : j < m) (u : Int) (hW : V1 = V.setCell ⟨b, j, none⟩ (.int .u8 u)) : OwnY w0 p bm fs box V1 bo m ∧ Dk w0 V1 p bm size c fs x sz g ∧ Blk V1 box ty bc := by
  subst hW
  by_cases h0 : 0 < m
  · obtain ⟨b', cs', k1, k2, k3, k4, k5, k6⟩ := h h0
    obtain rfl : b = b' := by
      rw [h1] at k1
      cases k1
      rfl
    have ht : Turns (fun i => i = b) V (V.setCell ⟨b, j, none⟩ (.int .u8 u)) := (Turns.refl (fun i => i = b) V).setCell (p := ⟨b, j, none⟩) (.inl rfl) _
    refine ⟨fun _ => ⟨b, cs'.set j (.int .u8 u), h1, k2.set j _, fun i hi => ?_, k4, k5, k6⟩, ?_, ht.blk hb (fun e => k6 e.symm)⟩
    · obtain ⟨d, hd'⟩ := k3 i hi
      by_cases e : j = i
      · subst e
        refine ⟨u, ?_⟩
        rw [List.getElem?_set_self (List.getElem?_eq_some_iff.1 hd').1]
      · exact ⟨d, by rw [List.getElem?_set_ne e]; exact hd'⟩
    · obtain ⟨D, eo, cap, hk⟩ := hd
      refine ⟨D, eo, cap, hk.turned ht (fun i hi => by rw [hi]; exact k5) (fun i hi e => k4 (by rw [← e]; exact hi)) ?_⟩
      rintro i (e | e) rfl
      · rw [e] at k2
        exact absurd (blk_typeY k2 hk.xd.blk) (by decide)
      · exact k2.not_row (by decide) hk.xd.row e.symm
  · omega
set_option maxRecDepth 100000 in
set_option maxHeartbeats 2000000 in
theorem doesR_1 (hd : Dk w0 w p bm size c fs x sz g) (o : OpV) (hok : o.Ok) (bs : List Int) (hH : Held w0 o.ba o.bl o.bc bs) (hms : o.bl ≤ 140737488355328) (hk : o.kind = 1) :
    Calls Try.prog 11 #[.pointer (some ⟨p, 0, none⟩), .pointer (some ⟨x, 0, none⟩), .agg o.cells.toArray] w (Two (AppR size c fs o.name o.bl bs) (appC g sz o.name o.bl) (appX g sz o.name (strOfNums bs)) w0 p bm size x sz) := by
  obtain ⟨iU, hiU, hz0, hz1, hz2⟩ := info_parts Try.info5
  have kb : (o.kind == 1) = true := by simp [hk]
  have HOK := hid hok
  obtain ⟨Z, hZ⟩ : ∃ Z, Z = w.alloc (.cells o.cells.toArray 34) := ⟨_, rfl⟩
  have hbx : Below w.heap.size w Z := by rw [hZ]; exact (Below.refl _ w).alloc (Nat.le_refl _) _
  have hbk : Blk Z w.heap.size 34 o.cells := by rw [hZ]; exact Blk.new w 34 o.cells
  have k0 := (Blk.new w 34 o.cells).cell (i := 0) rfl
  have k3 := (Blk.new w 34 o.cells).cell (i := 3) rfl
  have HBK := hid hbk
  have HD := hid (hd.below hbx)
  have HBX := hid hbx
  have HH := hid ((hH.below hd.bel (Nat.le_refl _)).below hbx (Nat.le_refl _))
  have HH0 := hid hH
  have hft0 : ¬ DFoot p bm fs w.heap.size := fun h => by
    obtain ⟨D, hda⟩ := hd.da
    exact Nat.lt_irrefl _ (hda.foot_lt _ h)
  obtain ⟨N, hN⟩ : ∃ N, N = w.heap.size := ⟨_, rfl⟩
  have HNL : Hid (N < Z.heap.size ∧ w0.heap.size ≤ N) := by rw [hN]; exact ⟨hbk.lt, hd.grew⟩
  unfold OpV.cells at *
  rw [← hN] at HBK hft0
  have HFT0 := hid hft0
  clear hd hbx hbk hok hk hH hft0
  go_enter Try.func11, Try.ntmps11
  have hba : Below Z.heap.size Z (Z.alloc (.cells #[] 5)) := (Below.refl _ Z).alloc (Nat.le_refl _) _
  have hma := ownU_made Z Z.heap.size (Nat.le_refl _)
  have hhh := HH.out.below hba (Nat.le_refl _)
  have hzs : Z.heap.size = w.heap.size + 1 := by rw [hZ]; simp
  rw [hzs] at hma hba
  rw [hZ] at hma hba hhh
  go_wp2_with (
    at_builtin
    refine wpList_append_held _ rfl _ _ 31 rfl (w.heap.size + 1) 5 iU Try.underlying31 hiU hz0 hz1 hz2 _ 0 [] rfl hma (by intro q hq; cases hq) o.ba o.bl o.bc bs rfl hhh (by omega) (by simp) ?_
    intro bo cp W1 hown hheld hbel hgrew
    rw [Nat.zero_add] at hown hheld ⊢
    rw [List.nil_append] at hown hheld
    clear hgrew
    have HB1 : Hid (Below Z.heap.size Z W1) := by
      show Below Z.heap.size Z W1
      rw [hzs, hZ]
      exact hba.trans hbel
    have HD1 := hid (HD.out.below HB1.out)
    have hbk1 := HBK.out.below HB1.out HNL.out.1
    have HBK1 := hid hbk1
    rw [hN] at hbk1
    have y1 := hbk1.cell (i := 1) rfl
    obtain ⟨D1, hda1⟩ := HD1.out.da
    have HST1 := hid (append_chg hda1 o.name HOK.out.2.2.1 bo o.bl cp bs hheld)
    obtain ⟨D0, hda0⟩ := HD.out.da
    have HOY1 : Hid (OwnY w0 p bm fs N W1 bo o.bl) := fun h0 => by
      obtain ⟨b, cp', cs, e1, e2, e3, e4⟩ := ownU_blk hown h0
      cases e1
      refine ⟨b, cs, rfl, e2, e4, fun hf => ?_, ?_, ?_⟩
      · have := hda0.foot_lt _ hf
        omega
      · have := HNL.out
        omega
      · omega
    clear hown hheld hbel hda1 hda0 hbk1 hba hma hhh k0 k3)
  go_wp2_with (refine HST1.out.mono ?_; rintro e W2 ⟨er, fs2, c2, rfl, hn2, hr2⟩; have HR2 := hid hr2; have HD2 := hid (HD1.out.prog hn2); have HOY2 := hid (HOY1.out.prog hn2); have HBK2 := hid (now_blk hn2 HBK1.out HFT0.out); clear hn2 hr2)
  have HMS := hid hms
  have HN1 := hid hN
  have hmm : (o.bl : Int) ≤ 140737488355328 := by have := HMS.out; omega
  clear hms hzs hZ HST1 HOY1 HBK1 HD1 HB1 HD HBK HBX HH y1 hN
  go_loopw [9] (fun i wr => ∃ k : Nat, k ≤ o.bl ∧ i = .int .i64 k ∧ Hid (OwnY w0 p bm fs2 N wr bo o.bl) ∧ Hid (Dk w0 wr p bm size c2 fs2 x sz g) ∧ Hid (Blk wr N 34 [.int .i64 o.kind, .string o.name, .string o.to, .slice o.ba o.bl o.bc, .int .i64 o.n, .slice o.ka o.kl o.kc])) (fun i _ => o.bl - (intOf i).toNat)
  case atStart => exact ⟨0, Nat.zero_le _, rfl, HOY2, HD2, HBK2⟩
  case round =>
    obtain ⟨k, hk, rfl, HOW, HDW, HBW⟩ := hrel
    by_cases hlt : k < o.bl
    · have hlt' : (k : Int) < (o.bl : Int) := by omega
      have hk0 : (0 : Int) ≤ (k : Int) := by omega
      have HKM : Hid (k + 1 ≤ o.bl) := hid hlt
      have hwk : wrap64 ((k : Int) + 1) = (k : Int) + 1 := wrapN (by omega) (by omega)
      have HWK := hid hwk
      obtain ⟨b, cs, hbo, hbk, hcs, _⟩ := HOW.out (by omega)
      obtain ⟨d, hdk⟩ := hcs k hlt
      have HPUT : Hid (∀ u V1, V1 = wr.setCell ⟨b, k, none⟩ (.int .u8 u) → OwnY w0 p bm fs2 N V1 bo o.bl ∧ Dk w0 V1 p bm size c2 fs2 x sz g ∧ Blk V1 N 34 [.int .i64 o.kind, .string o.name, .string o.to, .slice o.ba o.bl o.bc, .int .i64 o.n, .slice o.ka o.kl o.kc]) := fun u V1 hV => HOW.out.put HDW.out HBW.out hbo hbk hlt u hV
      have q1 := hbk.cell hdk
      have q2 := hbk.frozen k
      subst hbo
      clear hbk hdk hcs hlt
      go_wp2
      go_roundw
      case rel =>
        obtain ⟨h1, h2, h3⟩ := HPUT.out _ _ rfl
        exact ⟨k + 1, HKM.out, by go_num, h1, h2, h3⟩
      case measure => first | exact measNW HKM.out HWK.out | exact measN1 HKM.out
    · have hlt' : ¬ (k : Int) < (o.bl : Int) := by omega
      have z1 := HBW.out.cell (i := 1) rfl
      have z3 := HBW.out.cell (i := 3) rfl
      rw [HN1.out] at z1 z3
      have HAP := hid (HDW.out.append o.name HOK.out.2.2.1 o.ba o.bl o.bc bs (HH0.out.below HDW.out.bel (Nat.le_refl _)))
      clear hlt
      go_wp2_with (refine HAP.out.mono ?_; rintro e W3 ⟨rfl, hd3, _⟩; have HD3 := hid hd3; clear hd3)
      go_ret
      exact ⟨_, _, _, rfl, HR2.out, HD3.out⟩
end
end Go.Proofs.Ytjfohnkfcfifeaa
