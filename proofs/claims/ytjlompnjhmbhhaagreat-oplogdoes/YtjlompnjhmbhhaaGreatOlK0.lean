/-
  The document's log in memory (pannierref10): its block, two rows of events; what a call leaves.
-/
import Derived.Test.YtjlompnjhmbhhaaGreatOrdK
import Derived.Deep.AppendLies
import Derived.Deep.RegionLaw
import Derived.Deep.QuietTactic
import Derived.BigQuiet
namespace Go.Proofs.YtjlompnjhmbhhaaGreat
open Go.RowKit Go.Maps

theorem wrapN {x : Int} (h0 : -9223372036854775808 ≤ x) (h1 : x ≤ 9223372036854775807) : wrap64 x = x := by unfold wrap64; omega
theorem wrapNI {x : Int} (h0 : -9223372036854775808 ≤ x) (h1 : x ≤ 9223372036854775807) : IntKind.i64.wrap x = x := by rw [IntKind.wrap_i64]; omega
theorem measNW {n k : Nat} (h : k + 1 ≤ n) (hw : wrap64 ((k : Int) + 1) = (k : Int) + 1) : n - (intOf (.int .i64 (wrap64 ((k : Int) + 1)))).toNat < n - (intOf (.int .i64 (k : Int))).toNat := by
  rw [hw]
  simp [intOf]
  omega
theorem measN1 {n k : Nat} (h : k + 1 ≤ n) : n - (intOf (.int .i64 ((k : Int) + 1))).toNat < n - (intOf (.int .i64 (k : Int))).toNat := by
  simp [intOf]
  omega
theorem ownsRow_baseL {w : World} {B B' e size n : Nat} {v : Value} {xs : List Value} (h : w.ownsRow B e size v n xs) (hB : B' ≤ B) : w.ownsRow B' e size v n xs := by
  refine ⟨h.1, ?_⟩
  rcases h.2 with h0 | ⟨g, cap, cur, h1, h2, h3⟩
  · exact .inl h0
  · exact .inr ⟨g, cap, cur, h1, Nat.le_trans hB h2, h3⟩
theorem blk_typeL {w : World} {b : Nat} {t t' : TypeId} {cs cs' : List Value} (h : Blk w b t cs) (k : Blk w b t' cs') : t = t' := by
  have h1 : w.heap[b]? = _ := h
  have h2 : w.heap[b]? = _ := k
  rw [h1] at h2
  cases h2
  rfl
theorem HeldE.drop {w : World} {b off : Nat} {xs : List EvM} (h : HeldE w (some ⟨b, off, none⟩) xs) (k : Nat) : HeldE w (some ⟨b, off + k * 8, none⟩) (xs.drop k) := by
  refine ⟨fun x hx => h.1 x (List.mem_of_mem_drop hx), ?_⟩
  rcases h.2 with h0 | ⟨b', off', h1, h2, h3⟩
  · left; rw [h0]; simp
  · cases h1
    refine .inr ⟨b, off + k * 8, rfl, h2, fun j hj c u hu => ?_⟩
    rw [List.length_drop] at hj
    have := h3 (k + j) (by omega) c u (by rw [List.getElem_drop] at hu; exact hu)
    rw [show off + (k + j) * 8 + c = off + k * 8 + j * 8 + c by rw [Nat.add_mul]; omega] at this
    exact this
theorem held_dropE {w : World} {b off cap : Nat} {xs : List EvM} (h : HeldE w (some ⟨b, off, none⟩) xs) (k : Nat) (hc : xs.length ≤ cap) : HeldE w (if cap = k then some ⟨b, off, none⟩ else some ⟨b, off + k * 8, none⟩) (xs.drop k) := by
  split
  · exact ⟨fun x hx => h.1 x (List.mem_of_mem_drop hx), .inl (List.drop_eq_nil_of_le (by omega))⟩
  · exact h.drop k
theorem held_grownE {w w' : World} {b g : Nat} {xs : List EvM} (h : HeldE w (some ⟨b, 0, none⟩) xs) (ha : AllOk w' xs) (hg : w.grownBy w' (some g)) (hne : b ≠ g) : HeldE w' (some ⟨b, 0, none⟩) xs := by
  refine ⟨ha, ?_⟩
  rcases h.2 with h0 | ⟨b', off, e, h2, h3⟩
  · exact .inl h0
  · cases e
    refine .inr ⟨b, 0, rfl, Nat.lt_of_lt_of_le h2 hg.size, fun j hj c u hu => ?_⟩
    have h4 := h3 j hj c u hu
    have h5 := hg.block b h2 (by simpa using hne)
    unfold World.cell? at h4 ⊢
    rw [h5]
    exact h4
/-- The document's log, with its events as they lie in memory. -/
structure Dm where
  L : List EvM
  W : List EvM
def evs (xs : List EvM) : List Ev := xs.map (·.e)
def Dm.d (g : Dm) : Dl := ⟨evs g.L, evs g.W⟩
theorem evs_len (xs : List EvM) : (evs xs).length = xs.length := List.length_map _
/-- Its block x, its rows behind the world w0, its events' vectors in w0. -/
structure DlAt (w0 w : World) (x : Nat) (g : Dm) (eo : Option Addr) (cap : Nat) (fo : Option Addr) (cap2 : Nat) : Prop where
  blk : Blk w x 30 [.slice eo g.L.length cap, .slice fo g.W.length cap2]
  rowL : w.ownsRow w0.heap.size 33 8 (.slice eo g.L.length cap) g.L.length (flatE g.L)
  rowW : w.ownsRow w0.heap.size 33 8 (.slice fo g.W.length cap2) g.W.length (flatE g.W)
  apart : ∀ b, (Value.slice eo g.L.length cap).ownBlock = some b → (Value.slice fo g.W.length cap2).ownBlock ≠ some b
  okL : AllOk w0 g.L
  okW : AllOk w0 g.W
  mayL : ∀ y ∈ g.L, MayE y.e
  mayW : ∀ y ∈ g.W, MayE y.e
  fewL : g.L.length ≤ 65536
  fewW : g.W.length ≤ 4096
  bel : Below w0.heap.size w0 w
  bx : w0.heap.size ≤ x
def FootR (x : Nat) (eo : Option Addr) (n cap : Nat) (fo : Option Addr) (m cap2 : Nat) (i : Nat) : Prop := i = x ∨ (Value.slice eo n cap).ownBlock = some i ∨ (Value.slice fo m cap2).ownBlock = some i
section
variable {w0 w w' : World} {x cap cap2 : Nat} {g : Dm} {eo fo : Option Addr}
theorem DlAt.turned {F : Nat → Prop} (h : DlAt w0 w x g eo cap fo cap2) (ht : Turns F w w') (hF : ∀ i, FootR x eo g.L.length cap fo g.W.length cap2 i → ¬ F i) (hB : ∀ i, F i → w0.heap.size ≤ i) : DlAt w0 w' x g eo cap fo cap2 :=
  ⟨ht.blk h.blk (hF x (.inl rfl)), ht.row h.rowL (fun b hb => hF b (.inr (.inl hb))), ht.row h.rowW (fun b hb => hF b (.inr (.inr hb))), h.apart, h.okL, h.okW, h.mayL, h.mayW, h.fewL, h.fewW, h.bel.trans (ht.below hB h.bel.size), h.bx⟩
theorem DlAt.below (h : DlAt w0 w x g eo cap fo cap2) (hb : Below w.heap.size w w') : DlAt w0 w' x g eo cap fo cap2 := h.turned (F := fun _ => False) (Turns.of_below hb (Nat.le_refl _)) (fun _ _ h => h) (fun _ h => h.elim)
theorem DlAt.heldL (h : DlAt w0 w x g eo cap fo cap2) : HeldE w eo g.L ∧ g.L.length ≤ cap := by
  obtain ⟨ao, cp, he, h1, h2⟩ := heldE_of_own rfl h.rowL (h.okL.below h.bel)
  cases he
  exact ⟨h2, h1⟩
theorem DlAt.heldW (h : DlAt w0 w x g eo cap fo cap2) : HeldE w fo g.W ∧ g.W.length ≤ cap2 := by
  obtain ⟨ao, cp, he, h1, h2⟩ := heldE_of_own rfl h.rowW (h.okW.below h.bel)
  cases he
  exact ⟨h2, h1⟩
theorem row_zero {B n : Nat} {v : Option Addr} {c : Nat} {xs : List Value} (h : w.ownsRow B 33 8 (.slice v n c) n xs) (hn : 0 < n) : ∃ b, v = some ⟨b, 0, none⟩ := by
  rcases h.2 with ⟨he, h0⟩ | ⟨g', c', cur, he, _⟩
  · cases he
    omega
  · cases he
    exact ⟨g', rfl⟩
theorem DlAt.foot_lt (h : DlAt w0 w x g eo cap fo cap2) : ∀ i, FootR x eo g.L.length cap fo g.W.length cap2 i → i < w.heap.size := by
  rintro i (rfl | hi | hi)
  · exact h.blk.lt
  · exact (h.rowL.lt i hi).2
  · exact (h.rowW.lt i hi).2
theorem DlAt.foot_ge (h : DlAt w0 w x g eo cap fo cap2) : ∀ i, FootR x eo g.L.length cap fo g.W.length cap2 i → w0.heap.size ≤ i := by
  rintro i (rfl | hi | hi)
  · exact h.bx
  · exact (h.rowL.lt i hi).1
  · exact (h.rowW.lt i hi).1
theorem DlAt.ne (h : DlAt w0 w x g eo cap fo cap2) : (∀ b, (Value.slice eo g.L.length cap).ownBlock = some b → b ≠ x) ∧ (∀ b, (Value.slice fo g.W.length cap2).ownBlock = some b → b ≠ x) := by
  constructor
  · rintro b hb rfl
    exact h.blk.not_row (by decide) h.rowL hb.symm
  · rintro b hb rfl
    exact h.blk.not_row (by decide) h.rowW hb.symm
/-- What a call leaves. -/
def DlTo (w0 w w' : World) (x : Nat) (F : Nat → Prop) (g : Dm) : Prop := ∃ eo' cap' fo' cap2', DlAt w0 w' x g eo' cap' fo' cap2' ∧ Turns F w w' ∧ ∀ i, FootR x eo' g.L.length cap' fo' g.W.length cap2' i → F i ∨ w.heap.size ≤ i
theorem DlTo.same (h : DlAt w0 w x g eo cap fo cap2) (hb : Below w.heap.size w w') : DlTo w0 w w' x (FootR x eo g.L.length cap fo g.W.length cap2) g := ⟨eo, cap, fo, cap2, h.below hb, Turns.of_below hb (Nat.le_refl _), fun _ hi => .inl hi⟩
theorem DlTo.trans {w1 w2 : World} {F : Nat → Prop} {g1 g2 : Dm} (h1 : DlTo w0 w w1 x F g1) (h2 : ∀ eo1 cap1 fo1 cap21, DlAt w0 w1 x g1 eo1 cap1 fo1 cap21 → DlTo w0 w1 w2 x (FootR x eo1 g1.L.length cap1 fo1 g1.W.length cap21) g2) : DlTo w0 w w2 x F g2 := by
  obtain ⟨eo1, cap1, fo1, cap21, ha, ht, hf⟩ := h1
  obtain ⟨eo2, cap2, fo2, cap22, hb, ht2, hf2⟩ := h2 eo1 cap1 fo1 cap21 ha
  refine ⟨eo2, cap2, fo2, cap22, hb, ht.trans ht2 hf, fun i hi => ?_⟩
  rcases hf2 i hi with h | h
  · exact hf i h
  · exact .inr (Nat.le_trans ht.size h)
end
end Go.Proofs.YtjlompnjhmbhhaaGreat
/-
  The document's log: Applied.
-/
namespace Go.Proofs.YtjlompnjhmbhhaaGreat
open Go.RowKit Go.Maps
set_option linter.unusedSimpArgs false

theorem vecL_len (L : List Ev) : (vecL L).length = 7 := by simp [vecL]
theorem vecL_snoc (L : List Ev) (e : Ev) (m : Nat) (hm : e.o = (m : Int)) (h7 : m < 7) (V : Int) (hV : (vecL L).getD m 0 = V) : vecL (L ++ [e]) = (vecL L).set m (V + 1) := by
  rw [vecL_getD, if_pos h7] at hV
  refine List.ext_getElem (by simp [vecL]) (fun j h1 h2 => ?_)
  have hj : j < 7 := by rw [vecL_len] at h1; exact h1
  rw [List.getElem_set]
  have e1 := vecL_getD (L ++ [e]) j
  have e2 := vecL_getD L j
  rw [if_pos hj, List.getD_eq_getElem?_getD, List.getElem?_eq_getElem h1] at e1
  have hjl : j < (vecL L).length := by rw [vecL_len]; exact hj
  rw [if_pos hj, List.getD_eq_getElem?_getD, List.getElem?_eq_getElem hjl] at e2
  simp only [Option.getD_some] at e1 e2
  rw [e1, e2, cntO_snoc]
  by_cases h : m = j
  · rw [if_pos (by rw [hm, h]), if_pos h, ← hV]
    subst h
    omega
  · rw [if_neg (by rw [hm]; omega), if_neg h]
theorem cntO_le (L : List Ev) (o : Int) : cntO L o ≤ L.length := List.length_filter_le _ _
theorem vecL_bound (L : List Ev) (h : L.length ≤ 100000) (j : Nat) : 0 ≤ (vecL L).getD j 0 ∧ (vecL L).getD j 0 ≤ 100000 := by
  rw [vecL_getD]
  split
  · have := cntO_le L (j : Int)
    omega
  · omega
theorem hv_vecL {w : World} {g : Nat} {L : List Ev} (h : Blk w g 3 ((vecL L).map (.int .i64 ·))) (hl : L.length ≤ 100000) : HV w (some ⟨g, 0, none⟩) 7 (vecL L) := by
  refine ⟨⟨fun y hy => ?_, .inr ⟨g, 0, rfl, h.lt, fun j hj => ?_⟩⟩, by rw [vecL_len]; exact Nat.le_refl _, by rw [vecL_len]; decide⟩
  · obtain ⟨j, hj, rfl⟩ := List.getElem_of_mem hy
    have := vecL_bound L hl j
    rw [List.getD_eq_getElem?_getD, List.getElem?_eq_getElem hj] at this
    simp at this
    omega
  · rw [Nat.zero_add]
    exact h.cell (by rw [List.getElem?_map, List.getElem?_eq_getElem hj, List.getD_eq_getElem?_getD, List.getElem?_eq_getElem hj]; rfl)
theorem take_snocE {xs : List EvM} {k : Nat} (hk : k < xs.length) : xs.take (k + 1) = xs.take k ++ [xs[k]] := by rw [List.take_add_one, List.getElem?_eq_getElem hk]; rfl
theorem evs_take_snoc {xs : List EvM} {k : Nat} (hk : k < xs.length) : evs (xs.take (k + 1)) = evs (xs.take k) ++ [xs[k].e] := by rw [take_snocE hk]; unfold evs; rw [List.map_append]; rfl
theorem evs_take_len (xs : List EvM) (k : Nat) : (evs (xs.take k)).length ≤ xs.length := by unfold evs; rw [List.length_map, List.length_take]; omega
set_option maxRecDepth 1000000 in
theorem DlAt.applied {w0 w : World} {x cap cap2 : Nat} {g : Dm} {eo fo : Option Addr} (h : DlAt w0 w x g eo cap fo cap2) : Calls Tryz.prog 23 #[.pointer (some ⟨x, 0, none⟩)] w (AnsV w (plainOf (vecL (evs g.L)))) := by
  have H := hid h
  obtain ⟨n, HN⟩ : ∃ n, Hid (g.L.length = n) := ⟨_, hid rfl⟩
  have HF : Hid (n ≤ 65536) := by rw [← HN.out]; exact h.fewL
  clear h
  have hmk : ∀ W, (Instr.makeSlice 23 (.int .i64 7) (.int .i64 7)).run Tryz.prog W = .ok (.slice (some ⟨W.heap.size, 0, none⟩) 7 7) (W.alloc (.cells #[.int .i64 0, .int .i64 0, .int .i64 0, .int .i64 0, .int .i64 0, .int .i64 0, .int .i64 0] 3)) := fun W => by
    have h := run_make_row' (P := Tryz.prog) 23 3 (.int .i64 0) 8 Tryz.underlying23 Tryz.infoInt rfl .i64 .i64 7 (by decide) (by decide) W
    rw [show madeCells #[.int .i64 0] 7 = #[.int .i64 0, .int .i64 0, .int .i64 0, .int .i64 0, .int .i64 0, .int .i64 0, .int .i64 0] by kernel_rfl] at h
    exact h
  obtain ⟨W1, hW1⟩ : ∃ V, V = w.alloc (.cells #[.int .i64 0, .int .i64 0, .int .i64 0, .int .i64 0, .int .i64 0, .int .i64 0, .int .i64 0] 3) := ⟨_, rfl⟩
  obtain ⟨q, hq⟩ : ∃ q, q = w.heap.size := ⟨_, rfl⟩
  have hb1 : Below w.heap.size w W1 := by rw [hW1]; exact (Below.refl _ _).alloc (Nat.le_refl _) _
  have HG1 : Hid (Blk W1 q 3 ((vecL (evs (g.L.take 0))).map (.int .i64 ·))) := by rw [hW1, hq]; exact Blk.new _ _ [.int .i64 0, .int .i64 0, .int .i64 0, .int .i64 0, .int .i64 0, .int .i64 0, .int .i64 0]
  have H1 := hid (H.out.below hb1)
  have HB1 := hid hb1
  have HFT : Hid (∀ i, FootR x eo g.L.length cap fo g.W.length cap2 i → ¬ i = q) := fun i hi e => by have := H.out.foot_lt i hi; omega
  have HGW : Hid (w.heap.size ≤ q) := by rw [hq]; exact Nat.le_refl _
  have HG0 : Hid (w0.heap.size ≤ q) := by rw [hq]; exact H.out.bel.size
  have HW1 := hid hW1
  have HG := hid hq
  clear hW1 hq hb1
  go_enter Tryz.func23, Tryz.ntmps23
  go_wp2
  rw [← HW1.out, ← HG.out]
  clear hmk
  go_loopw [4] (fun i wr => ∃ k : Nat, k ≤ n ∧ i = .int .i64 k ∧ Hid (Blk wr q 3 ((vecL (evs (g.L.take k))).map (.int .i64 ·)) ∧ Turns (fun i => i = q) W1 wr)) (fun i _ => n - (intOf i).toNat)
  case atStart => exact ⟨0, Nat.zero_le _, rfl, HG1.out, Turns.refl _ _⟩
  case round =>
    obtain ⟨k, hk, rfl, HR⟩ := hrel
    have H2 := hid (H1.out.turned HR.out.2 HFT.out (fun i hi => by rw [hi]; exact HG0.out))
    have HT := hid HR.out.2
    have HBK := hid HR.out.1
    have c1 := H2.out.blk.cell (i := 0) rfl
    rw [HN.out] at c1
    clear HR
    by_cases hlt : k < n
    · have hlt' : (k : Int) < (n : Int) := by omega
      have hk0 : (0 : Int) ≤ (k : Int) := by omega
      have HKX : Hid (k < g.L.length) := by rw [HN.out]; exact hlt
      have HKM : Hid (k + 1 ≤ n) := (by omega : k + 1 ≤ n)
      have hwk : wrap64 ((k : Int) + 1) = (k : Int) + 1 := wrapN (by omega) (by have := HF.out; omega)
      obtain ⟨b, off, hao, _, a0, _⟩ := H2.out.heldL.1.at HKX.out
      have HMD := hid (rightEv_iff (H.out.mayL _ (List.getElem_mem HKX.out)).1).o
      have HST := hid (evs_take_snoc HKX.out)
      have HLN : Hid ((evs (g.L.take k)).length ≤ 100000) := by
        have h1 := evs_take_len g.L k
        have h2 := HF.out
        have h3 := HN.out
        exact (by omega : (evs (g.L.take k)).length ≤ 100000)
      obtain ⟨y, HQ⟩ : ∃ y, Hid (g.L[k]'HKX.out = y) := ⟨_, hid rfl⟩
      rw [HQ.out] at a0 HST HMD
      obtain ⟨m, hm⟩ : ∃ m : Nat, y.e.o = (m : Int) := ⟨y.e.o.toNat, by have := HMD.out.1; omega⟩
      have HM := hid hm
      rw [hm] at a0 HMD
      subst hao
      have hm0 : (0 : Int) ≤ (m : Int) := by omega
      have hm7 : (m : Int) < 7 := by have := HMD.out.2; omega
      have hm7n : m < 7 := by omega
      obtain ⟨L, HL⟩ : ∃ L, Hid (evs (g.L.take k) = L) := ⟨_, hid rfl⟩
      rw [HL.out] at HST HLN HBK
      obtain ⟨V, HV⟩ : ∃ V, Hid ((vecL L).getD m 0 = V) := ⟨_, hid rfl⟩
      have HVB : Hid (0 ≤ V ∧ V ≤ 100000) := by rw [← HV.out]; exact vecL_bound L HLN.out m
      have hwv : wrap64 (V + 1) = V + 1 := wrapN (by have := HVB.out; omega) (by have := HVB.out; omega)
      have hLm : ((vecL L).map (.int .i64 ·) : List Value)[m]? = some (.int .i64 V) := by
        have h1 : m < (vecL L).length := by rw [vecL_len]; exact hm7n
        rw [List.getElem?_map, List.getElem?_eq_getElem h1, ← HV.out, List.getD_eq_getElem?_getD, List.getElem?_eq_getElem h1]
        rfl
      have HSN : Hid (vecL (L ++ [y.e]) = (vecL L).set m (V + 1)) := by show _ = _; exact vecL_snoc L y.e m HM.out hm7n V HV.out
      have HSE : Hid (Blk (wr.setCell ⟨q, m, none⟩ (.int .i64 (V + 1))) q 3 ((vecL (evs (g.L.take (k + 1)))).map (.int .i64 ·)) ∧ Turns (fun i => i = q) W1 (wr.setCell ⟨q, m, none⟩ (.int .i64 (V + 1)))) := by
        have hmap : ((vecL L).map (.int .i64 ·) : List Value).set m (.int .i64 (V + 1)) = ((vecL L).set m (V + 1)).map (.int .i64 ·) := by rw [List.map_set]
        refine ⟨?_, HT.out.setCell (p := ⟨q, m, none⟩) (.inl rfl) _⟩
        rw [HST.out, HSN.out, ← hmap]
        exact HBK.out.set m _
      have e2 := HBK.out.cell hLm
      have e3 := HBK.out.frozen m
      clear hLm hlt hk hm
      go_wp2
      go_roundw
      case rel => exact ⟨k + 1, HKM.out, by go_num, HSE.out⟩
      case measure => first | exact measNW HKM.out hwk | exact measN1 HKM.out
    · have hlt' : ¬ (k : Int) < (n : Int) := by omega
      have HE : Hid (g.L.take k = g.L) := List.take_of_length_le (by have := HN.out; omega)
      rw [HE.out] at HBK
      have HLN : Hid ((evs g.L).length ≤ 100000) := by
        rw [evs_len]
        have h2 := HF.out
        have h3 := HN.out
        exact (by omega : g.L.length ≤ 100000)
      have HPL := hid (rplain_any wr (some ⟨q, 0, none⟩) 7 (vecL (evs g.L)) 7 (vecL_len _) (hv_vecL HBK.out HLN.out))
      have HBE : Hid (Below w.heap.size w wr) := HB1.out.trans (HT.out.below (fun i hi => by rw [hi]; exact HGW.out) HB1.out.size)
      go_wp2_with fail
      refine HPL.out.mono ?_
      rintro e w5 ⟨bo, cp, rfl, hv5, hb5⟩
      have HV5 := hid hv5
      have HB5 := hid (bt HBE.out hb5)
      clear hv5 hb5
      go_wp2
      go_ret
      exact ⟨bo, cp, rfl, HV5.out, HB5.out⟩
end Go.Proofs.YtjlompnjhmbhhaaGreat
/-
  The document's log: May, ready.
-/
namespace Go.Proofs.YtjlompnjhmbhhaaGreat
open Go.RowKit Go.Maps
set_option linter.unusedSimpArgs false

set_option maxRecDepth 100000 in
set_option maxHeartbeats 1000000 in
theorem rmayE_any (w : World) (x : EvM) (hx : EvOk w x) : Calls Tryz.prog 10 #[x.val] w fun e w' => e = .returned (.bool (decide (MayE x.e))) ∧ Below w.heap.size w w' := by
  obtain ⟨W, hW⟩ : ∃ W, W = w.alloc (.cells x.cells.toArray 33) := ⟨_, rfl⟩
  have HB : Hid (Below w.heap.size w W) := by rw [hW]; exact (Below.refl _ _).alloc (Nat.le_refl _) _
  have HK : Hid (Blk W w.heap.size 33 x.cells) := by rw [hW]; exact Blk.new w _ _
  have HRE := hid (fun X : Beyond W => beyond_call X (reventL X.now x (hx.below (bt HB.out X.is))))
  have HOX := hid (hx.below HB.out)
  have HW := hid hW
  clear hW hx
  by_cases hr : RightEv x.e = true
  rotate_left 1
  · have HD : Hid (decide (MayE x.e) = false) := decide_eq_false fun h => hr h.1
    rw [HD.out]
    simp only [hr] at HRE
    clear hr HD
    obtain ⟨⟨o, s, dp, ct, ep, sk, qt, cl⟩, ao1, cap1⟩ := x
    obtain ⟨XN, HXN⟩ : ∃ m, Hid (dp.length = m) := ⟨_, hid rfl⟩
    simp only [EvM.val, EvM.cells] at HRE HW HK ⊢
    rw [HXN.out] at HRE HW HK ⊢
    have hkl := HK.out.lt
    have k0 := fun X : Beyond W => X.cell (HK.out.cell (i := 0) rfl) hkl
    have k1 := fun X : Beyond W => X.cell (HK.out.cell (i := 1) rfl) hkl
    have k2 := fun X : Beyond W => X.cell (HK.out.cell (i := 2) rfl) hkl
    have k3 := fun X : Beyond W => X.cell (HK.out.cell (i := 3) rfl) hkl
    have k4 := fun X : Beyond W => X.cell (HK.out.cell (i := 4) rfl) hkl
    have k5 := fun X : Beyond W => X.cell (HK.out.cell (i := 5) rfl) hkl
    have k6 := fun X : Beyond W => X.cell (HK.out.cell (i := 6) rfl) hkl
    have k7 := fun X : Beyond W => X.cell (HK.out.cell (i := 7) rfl) hkl
    clear hkl
    go_enter Tryz.func10, Tryz.ntmps10
    go_wp2
    rw [← HW.out]
    refine wp_region_beyond W (by kernel_rfl) (by kernel_rfl) (Below.refl _ _) ?_
    repeat (go_big_quiet_step (first | (go_at_call 29; exact HRE.out _) | fail))
    refine wpQuiet_nil ?_
    rintro _ ⟨X, rfl⟩
    have HBX := hid (bt HB.out X.is)
    go_wp2
    go_ret
    exact ⟨rfl, HBX.out⟩
  · have HRT := hid hr
    simp only [hr] at HRE
    clear hr
    obtain ⟨⟨o, s, dp, ct, ep, sk, qt, cl⟩, ao1, cap1⟩ := x
    obtain ⟨XN, HXN⟩ : ∃ m, Hid (dp.length = m) := ⟨_, hid rfl⟩
    simp only [EvM.val, EvM.cells] at HRE HW HK ⊢
    rw [HXN.out] at HRE HW HK ⊢
    have HOF := hid (fun X : Beyond W => beyond_same X (rof_any X.now ao1 cap1 dp XN HXN.out o (HOX.out.below X.is).deps.held))
    have hsr : 0 ≤ s ∧ s ≤ 2147483647 := (rightEv_iff HRT.out).s
    have hsub : IntKind.i64.wrap (s - 1) = s - 1 := by rw [IntKind.wrap_i64]; omega
    have hkl := HK.out.lt
    have k0 := fun X : Beyond W => X.cell (HK.out.cell (i := 0) rfl) hkl
    have k1 := fun X : Beyond W => X.cell (HK.out.cell (i := 1) rfl) hkl
    have k2 := fun X : Beyond W => X.cell (HK.out.cell (i := 2) rfl) hkl
    have k3 := fun X : Beyond W => X.cell (HK.out.cell (i := 3) rfl) hkl
    have k4 := fun X : Beyond W => X.cell (HK.out.cell (i := 4) rfl) hkl
    have k5 := fun X : Beyond W => X.cell (HK.out.cell (i := 5) rfl) hkl
    have k6 := fun X : Beyond W => X.cell (HK.out.cell (i := 6) rfl) hkl
    have k7 := fun X : Beyond W => X.cell (HK.out.cell (i := 7) rfl) hkl
    obtain ⟨z, HZ⟩ : ∃ z, Hid (ofV dp o = z) := ⟨_, hid rfl⟩
    rw [HZ.out] at HOF
    by_cases h1 : 1 ≤ s
    rotate_left 1
    · have HD : Hid (decide (MayE ⟨o, s, dp, ct, ep, sk, qt, cl⟩) = false) := decide_eq_false fun h => h1 h.2.1
      rw [HD.out]
      have hd1 : decide (1 ≤ s) = false := decide_eq_false h1
      clear hkl hsr hsub h1
      go_enter Tryz.func10, Tryz.ntmps10
      go_wp2
      rw [← HW.out]
      refine wp_region_beyond W (by kernel_rfl) (by kernel_rfl) (Below.refl _ _) ?_
      repeat (go_big_quiet_step (first | (go_at_call 29; exact HRE.out _) | fail))
      refine wpQuiet_nil ?_
      rintro _ ⟨X, rfl⟩
      have HBX := hid (bt HB.out X.is)
      go_wp2
      go_ret
      exact ⟨rfl, HBX.out⟩
    · have HD : Hid (decide (MayE ⟨o, s, dp, ct, ep, sk, qt, cl⟩) = decide (z = s - 1)) := by
        show _ = _
        rw [decide_eq_decide, ← HZ.out]
        exact ⟨fun h => h.2.2, fun h => ⟨HRT.out, h1, h⟩⟩
      rw [HD.out]
      have hd1 : decide (1 ≤ s) = true := decide_eq_true h1
      clear hkl hsr h1
      go_enter Tryz.func10, Tryz.ntmps10
      go_wp2
      rw [← HW.out]
      refine wp_region_beyond W (by kernel_rfl) (by kernel_rfl) (Below.refl _ _) ?_
      repeat (go_big_quiet_step (first | (go_at_call 29; exact HRE.out _) | (go_at_call 30; exact HOF.out _) | fail))
      refine wpQuiet_nil ?_
      rintro _ ⟨X, rfl⟩
      have HBX := hid (bt HB.out X.is)
      go_wp2
      go_ret
      exact ⟨ret_bool (by rw [Bool.eq_iff_iff]; simp), HBX.out⟩
set_option maxRecDepth 100000 in
set_option maxHeartbeats 1000000 in
theorem DlAt.ready {w0 w : World} {x cap cap2 : Nat} {g : Dm} {eo fo : Option Addr} (h : DlAt w0 w x g eo cap fo cap2) (y : EvM) (hy : EvOk w y) : Calls Tryz.prog 25 #[.pointer (some ⟨x, 0, none⟩), y.val] w fun e w' => e = .returned (.bool (decide (ReadyE (vecL (evs g.L)) y.e))) ∧ Below w.heap.size w w' := by
  obtain ⟨W, hW⟩ : ∃ W, W = w.alloc (.cells y.cells.toArray 33) := ⟨_, rfl⟩
  have HB : Hid (Below w.heap.size w W) := by rw [hW]; exact (Below.refl _ _).alloc (Nat.le_refl _) _
  have HK : Hid (Blk W w.heap.size 33 y.cells) := by rw [hW]; exact Blk.new w _ _
  have HAP := hid (h.below HB.out).applied
  have HLF : Hid ((evs g.L).length ≤ 65536) := by rw [evs_len]; exact h.fewL
  have HOX := hid (hy.below HB.out)
  have HW := hid hW
  clear hW hy h
  obtain ⟨V, HV⟩ : ∃ V, Hid (vecL (evs g.L) = V) := ⟨_, hid rfl⟩
  rw [HV.out] at HAP ⊢
  obtain ⟨⟨o, s, dp, ct, ep, sk, qt, cl⟩, ao1, cap1⟩ := y
  obtain ⟨XN, HXN⟩ : ∃ m, Hid (dp.length = m) := ⟨_, hid rfl⟩
  simp only [EvM.val, EvM.cells] at HW HK ⊢
  rw [HXN.out] at HW HK ⊢
  obtain ⟨pb, hpb⟩ : ∃ q, q = w.heap.size := ⟨_, rfl⟩
  rw [← hpb] at HK
  have HPB := hid hpb
  clear hpb
  obtain ⟨rb, HRB⟩ : ∃ rb, Hid (decide (ReadyE V ⟨o, s, dp, ct, ep, sk, qt, cl⟩) = rb) := ⟨_, hid rfl⟩
  rw [HRB.out]
  go_enter Tryz.func25, Tryz.ntmps25
  go_wp2_with fail
  rw [← HW.out, ← HPB.out]
  refine HAP.out.mono ?_
  rintro e w2 ⟨bo, cp, rfl, hv2, hb2⟩
  have HB2 := hid (bt HB.out hb2)
  have HK2 := hid (HK.out.below hb2 HK.out.lt)
  have HOX2 := hid (HOX.out.below hb2)
  obtain ⟨L, HL⟩ : ∃ L, Hid ((plainOf V).length = L) := ⟨_, hid rfl⟩
  rw [HL.out]
  have HOF := hid (fun X : Beyond w2 => beyond_same X (rof_any X.now bo cp (plainOf V) L HL.out o (hv2.below X.is).held))
  have HBL := hid (fun X : Beyond w2 => beyond_same X (rbelow_any X.now ao1 bo cap1 cp dp (plainOf V) XN L HXN.out HL.out (HOX2.out.below X.is).deps (hv2.below X.is)))
  have hofs : ofV (plainOf V) o = ofV V o := ofV_plainOf V o
  obtain ⟨z, HZ⟩ : ∃ z, Hid (ofV V o = z) := ⟨_, hid rfl⟩
  rw [hofs, HZ.out] at HOF
  obtain ⟨r, HR⟩ : ∃ z, Hid (decide (BelowV dp (plainOf V)) = z) := ⟨_, hid rfl⟩
  rw [HR.out] at HBL
  have HRE : Hid (rb = (decide (s = z + 1) && r)) := by
    show _ = _
    rw [← HRB.out, ← HR.out, ← HZ.out, Bool.eq_iff_iff]
    simp only [Bool.and_eq_true, decide_eq_true_eq, belowV_plainOf]
    exact Iff.rfl
  have hkl := HK2.out.lt
  have k0 := fun X : Beyond w2 => X.cell (HK2.out.cell (i := 0) rfl) hkl
  have k1 := fun X : Beyond w2 => X.cell (HK2.out.cell (i := 1) rfl) hkl
  have k2 := fun X : Beyond w2 => X.cell (HK2.out.cell (i := 2) rfl) hkl
  have HZB : Hid (wrap64 (z + 1) = z + 1) := by
    rw [← HZ.out, ← HV.out]
    have h1 : 0 ≤ ofV (vecL (evs g.L)) o ∧ ofV (vecL (evs g.L)) o ≤ (evs g.L).length := by
      unfold ofV
      split
      · omega
      · rw [vecL_getD]
        split
        · have := cntO_le (evs g.L) ((o.toNat : Nat) : Int)
          omega
        · omega
    have h2 : (evs g.L).length ≤ 65536 := HLF.out
    exact wrapN (by omega) (by omega)
  have hwz := HZB.out
  clear hkl hv2 hb2 hofs
  by_cases hs : s = z + 1
  · subst hs
    go_wp2
    refine wp_region_beyond w2 (by kernel_rfl) (by kernel_rfl) (Below.refl _ _) ?_
    repeat (go_big_quiet_step (first | (go_at_call 30; exact HOF.out _) | (go_at_call 52; exact HBL.out _) | fail))
    refine wpQuiet_nil ?_
    rintro _ ⟨X, rfl⟩
    have HBX := hid (bt HB2.out X.is)
    go_wp2
    go_ret
    exact ⟨by rw [HRE.out]; simp, HBX.out⟩
  · have HSN := hid hs
    have hse : (s == z + 1) = false := beq_eq_false_iff_ne.2 hs
    go_wp2
    refine wp_region_beyond w2 (by kernel_rfl) (by kernel_rfl) (Below.refl _ _) ?_
    repeat (go_big_quiet_step (first | (go_at_call 30; exact HOF.out _) | (go_at_call 52; exact HBL.out _) | fail))
    refine wpQuiet_nil ?_
    rintro _ ⟨X, rfl⟩
    have HBX := hid (bt HB2.out X.is)
    go_wp2
    go_ret
    exact ⟨by rw [HRE.out, decide_eq_false HSN.out]; rfl, HBX.out⟩
end Go.Proofs.YtjlompnjhmbhhaaGreat
/-
  The document's log: what Put makes of it (with no memory); rows that take a row's place.
-/
namespace Go.Proofs.YtjlompnjhmbhhaaGreat
open Go.RowKit Go.Maps
set_option linter.unusedSimpArgs false

/-- Where an event has its place. -/
def posM (W : List EvM) (e : Ev) : Nat := W.findIdx (fun y => !lessO y.e e)
theorem posM_eq (W : List EvM) (e : Ev) : posM W e = posO (evs W) e := by
  unfold posM posO evs
  rw [List.findIdx_map]
  rfl
theorem posM_le (W : List EvM) (e : Ev) : posM W e ≤ W.length := List.findIdx_le_length
def AheadM (W : List EvM) (e : Ev) (k : Nat) : Prop := ∀ j (h : j < W.length), j < k → lessO W[j].e e = true
theorem posM_at {W : List EvM} {e : Ev} {k : Nat} (hk : k < W.length) (h : AheadM W e k) (hn : lessO W[k].e e = false) : k = posM W e := by
  symm
  unfold posM
  rw [List.findIdx_eq hk]
  exact ⟨by simpa using hn, fun j hj => by simpa using h j (by omega) hj⟩
theorem posM_end {W : List EvM} {e : Ev} (h : AheadM W e W.length) : W.length = posM W e := by
  have h1 := posM_le W e
  by_cases h2 : posM W e < W.length
  · have h3 := List.findIdx_getElem (p := fun y : EvM => !lessO y.e e) (w := h2)
    have h4 := h _ h2 h2
    simp only [Bool.not_eq_true'] at h3
    rw [show W[posM W e].e = W[List.findIdx (fun y : EvM => !lessO y.e e) W].e from rfl, h3] at h4
    cases h4
  · omega
def insM (W : List EvM) (k : Nat) (y : EvM) : List EvM := W.take k ++ [y] ++ W.drop k
theorem insM_len {W : List EvM} {k : Nat} (hk : k ≤ W.length) (y : EvM) : (insM W k y).length = W.length + 1 := by
  unfold insM
  simp
  omega
theorem insM_mem {W : List EvM} {k : Nat} {y z : EvM} (h : z ∈ insM W k y) : z = y ∨ z ∈ W := by
  unfold insM at h
  rcases List.mem_append.1 h with h | h
  · rcases List.mem_append.1 h with h | h
    · exact .inr (List.mem_of_mem_take h)
    · exact .inl (List.mem_singleton.1 h)
  · exact .inr (List.mem_of_mem_drop h)
theorem insM_evs (W : List EvM) (y : EvM) : evs (insM W (posM W y.e) y) = insO (evs W) y.e := by
  unfold insM insO
  rw [← posM_eq]
  simp [evs, List.map_take, List.map_drop]
/-- Does an event of that dot wait? -/
def KnowM (W : List EvM) (e : Ev) : Prop := ∃ h : posM W e < W.length, W[posM W e].e.o = e.o ∧ W[posM W e].e.s = e.s
def dropE (W : List EvM) (k : Nat) : List EvM := W.take k ++ W.drop (k + 1)
theorem dropE_len {W : List EvM} {k : Nat} (hk : k < W.length) : (dropE W k).length + 1 = W.length := by
  unfold dropE
  simp
  omega
theorem dropE_mem {W : List EvM} {k : Nat} {z : EvM} (h : z ∈ dropE W k) : z ∈ W := by
  unfold dropE at h
  rcases List.mem_append.1 h with h | h
  · exact List.mem_of_mem_take h
  · exact List.mem_of_mem_drop h
/-- The first that is ready. -/
def nextM (g : Dm) : Nat := g.W.findIdx (fun y => decide (ReadyE (vecL (evs g.L)) y.e))
def stepM (g : Dm) : Dm := ⟨g.L ++ [g.W.getD (nextM g) zeroEM], dropE g.W (nextM g)⟩
def drainM : Nat → Dm → Dm
  | 0, g => g
  | n + 1, g => if 65536 ≤ g.L.length ∨ ¬ nextM g < g.W.length then g else drainM n (stepM g)
/-- What is left behind all steps. -/
def lastM (g : Dm) : Dm := drainM (g.W.length + 1) g
theorem lastM_stop {g : Dm} (h : 65536 ≤ g.L.length ∨ ¬ nextM g < g.W.length) : lastM g = g := by
  unfold lastM drainM
  rw [if_pos h]
theorem lastM_step {g : Dm} (h : g.L.length < 65536) (hn : nextM g < g.W.length) : lastM g = lastM (stepM g) := by
  unfold lastM
  have h1 : (stepM g).W.length + 1 = g.W.length := dropE_len hn
  rw [h1]
  conv => lhs; unfold drainM
  rw [if_neg (by omega)]
def NoneReady (g : Dm) (k : Nat) : Prop := ∀ j (h : j < g.W.length), j < k → ¬ ReadyE (vecL (evs g.L)) g.W[j].e
theorem nextM_at {g : Dm} {k : Nat} (hk : k < g.W.length) (h : NoneReady g k) (hr : ReadyE (vecL (evs g.L)) g.W[k].e) : k = nextM g := by
  symm
  unfold nextM
  rw [List.findIdx_eq hk]
  exact ⟨by simpa using hr, fun j hj => by simpa using h j (by omega) hj⟩
theorem nextM_none {g : Dm} (h : NoneReady g g.W.length) : ¬ nextM g < g.W.length := by
  intro hk
  have h1 := List.findIdx_getElem (p := fun y : EvM => decide (ReadyE (vecL (evs g.L)) y.e)) (w := hk)
  exact h _ hk hk (of_decide_eq_true h1)
section
variable {w0 w w4 w5 W : World} {x cap cap2 r cp : Nat} {g : Dm} {eo fo bo : Option Addr}
/-- A row of its own in the place of those that wait. -/
theorem dl_newW (h : DlAt w0 w x g eo cap fo cap2) (L' : List EvM) (hr : r = L'.length) (hl : L'.length ≤ 4096) (hok : AllOk w0 L') (hmay : ∀ y ∈ L', MayE y.e)
    (hb4 : Below w.heap.size w w4) (hs5 : Sc w4 w5) (hown : w5.ownsRow w4.heap.size 33 8 (.slice bo r cp) r (flatE L')) (hW : W = w5.setCell ⟨x, 1, none⟩ (.slice bo r cp)) : DlTo w0 w W x (FootR x eo g.L.length cap fo g.W.length cap2) ⟨g.L, L'⟩ := by
  subst hr
  have hb5 : Below w.heap.size w w5 := bt hb4 hs5.out
  have hk5 := h.blk.below hb5 h.blk.lt
  have t1 : Turns (fun i => i = x) w5 W := by rw [hW]; exact (Turns.refl (fun i => i = x) w5).setCell (p := ⟨x, 1, none⟩) (.inl rfl) _
  have h5 := h.below hb5
  have hxn : ∀ b, (Value.slice bo L'.length cp).ownBlock = some b → w4.heap.size ≤ b := fun b hb => (hown.lt b hb).1
  have hx4 := h.blk.lt
  have h45 := hb4.size
  refine ⟨eo, cap, bo, cp, ⟨?_, t1.row h5.rowL (fun b hb => h.ne.1 b hb), t1.row (ownsRow_baseL hown (Nat.le_trans h.bel.size h45)) (fun b hb e => by have := hxn b hb; omega), fun b hb hc => ?_, h.okL, hok, h.mayL, hmay, h.fewL, hl, h5.bel.trans (t1.below (fun i hi => by rw [hi]; exact h.bx) h5.bel.size), h.bx⟩, (Turns.of_below (F := FootR x eo g.L.length cap fo g.W.length cap2) hb5 (Nat.le_refl _)).trans t1 (fun i hi => .inl (.inl hi)), ?_⟩
  · rw [hW]
    exact hk5.set 1 _
  · have h1 := hxn b hc
    have h2 := (h.rowL.lt b hb).2
    omega
  · rintro i (hi | hi | hi)
    · exact .inl (.inl hi)
    · exact .inl (.inr (.inl hi))
    · exact .inr (Nat.le_trans h45 (hxn i hi))
/-- One more behind those that are applied. -/
theorem dl_newL (h : DlAt w0 w x g eo cap fo cap2) (y : EvM) (hr : r = g.L.length + 1) (hl : g.L.length < 65536) (hok : EvOk w0 y) (hmay : MayE y.e)
    (hb4 : Below w.heap.size w w4) (hown : w5.ownsRow w0.heap.size 33 8 (.slice bo r cp) r (flatE (g.L ++ [y]))) (hg : w4.grownBy w5 (Value.slice eo g.L.length cap).ownBlock) (hbo : (Value.slice bo r cp).ownBlock = (Value.slice eo g.L.length cap).ownBlock ∨ (Value.slice bo r cp).ownBlock = some w4.heap.size) (hW : W = w5.setCell ⟨x, 0, none⟩ (.slice bo r cp)) : DlTo w0 w W x (FootR x eo g.L.length cap fo g.W.length cap2) ⟨g.L ++ [y], g.W⟩ := by
  subst hr
  have h4 := h.below hb4
  have tg : Turns (fun i => (Value.slice eo g.L.length cap).ownBlock = some i) w4 w5 := Turns.of_grown hg (fun k e => e)
  have h5w : w5.ownsRow w0.heap.size 33 8 (.slice fo g.W.length cap2) g.W.length (flatE g.W) := tg.row h4.rowW (fun b hb hc => h.apart b hc hb)
  have hk5 := tg.blk h4.blk (fun hc => h.ne.1 x hc rfl)
  have t1 : Turns (fun i => i = x) w5 W := by rw [hW]; exact (Turns.refl (fun i => i = x) w5).setCell (p := ⟨x, 0, none⟩) (.inl rfl) _
  have hx4 := h.blk.lt
  have h45 := hb4.size
  have hlen : (g.L ++ [y]).length = g.L.length + 1 := by simp
  have hbel5 : Below w0.heap.size w0 w5 := h4.bel.trans (tg.below (fun i hi => (h.rowL.lt i hi).1) h4.bel.size)
  have hnx : ∀ b, (Value.slice bo (g.L.length + 1) cp).ownBlock = some b → ¬ b = x := fun b hb e => by
    rcases hbo with h1 | h1
    · rw [hb] at h1
      exact h.ne.1 b h1.symm e
    · rw [hb] at h1
      cases h1
      omega
  refine ⟨bo, cp, fo, cap2, ⟨?_, ?_, t1.row h5w (fun b hb => h.ne.2 b hb), fun b hb hc => ?_, fun z hz => ?_, h.okW, fun z hz => ?_, h.mayW, by rw [hlen]; omega, h.fewW, hbel5.trans (t1.below (fun i hi => by rw [hi]; exact h.bx) hbel5.size), h.bx⟩, ((Turns.of_below (F := FootR x eo g.L.length cap fo g.W.length cap2) hb4 (Nat.le_refl _)).trans tg (fun i hi => .inl (.inr (.inl hi)))).trans t1 (fun i hi => .inl (.inl hi)), ?_⟩
  · rw [hW]
    show Blk _ _ _ [.slice bo (g.L ++ [y]).length cp, _]
    rw [hlen]
    exact hk5.set 0 _
  · show W.ownsRow _ _ _ (.slice bo (g.L ++ [y]).length cp) (g.L ++ [y]).length _
    rw [hlen]
    exact t1.row hown hnx
  · have hb' : (Value.slice bo (g.L.length + 1) cp).ownBlock = some b := by rw [← hlen]; exact hb
    rcases hbo with h1 | h1
    · rw [hb'] at h1
      exact h.apart b h1.symm hc
    · rw [hb'] at h1
      cases h1
      have := (h.rowW.lt _ hc).2
      omega
  · rcases List.mem_append.1 hz with hz | hz
    · exact h.okL z hz
    · rw [List.mem_singleton.1 hz]; exact hok
  · rcases List.mem_append.1 hz with hz | hz
    · exact h.mayL z hz
    · rw [List.mem_singleton.1 hz]; exact hmay
  · rintro i (hi | hi | hi)
    · exact .inl (.inl hi)
    · have hi' : (Value.slice bo (g.L.length + 1) cp).ownBlock = some i := by rw [← hlen]; exact hi
      rcases hbo with h1 | h1
      · rw [hi'] at h1
        exact .inl (.inr (.inl h1.symm))
      · rw [hi'] at h1
        cases h1
        exact .inr h45
    · exact .inl (.inr (.inr hi))
end
theorem DlTo.ahead {w0 w w1 w' : World} {x cap cap2 : Nat} {g g' : Dm} {eo fo : Option Addr} (hb : Below w.heap.size w w1) (h : DlTo w0 w1 w' x (FootR x eo g.L.length cap fo g.W.length cap2) g') : DlTo w0 w w' x (FootR x eo g.L.length cap fo g.W.length cap2) g' := by
  obtain ⟨eo', cap', fo', cap2', h1, h2, h3⟩ := h
  exact ⟨eo', cap', fo', cap2', h1, (Turns.of_below (F := FootR x eo g.L.length cap fo g.W.length cap2) hb (Nat.le_refl _)).trans h2 (fun i hi => .inl hi), fun i hi => (h3 i hi).imp id (fun h => Nat.le_trans hb.size h)⟩
/-- Stands a dot ahead of another? -/
def LessD (a b c d : Int) : Prop := a < c ∨ a = c ∧ b < d
instance (a b c d : Int) : Decidable (LessD a b c d) := by unfold LessD; infer_instance
theorem rless_dot (w : World) (a b c d : Int) : Calls Tryz.prog 24 #[.agg #[.int .i64 a, .int .i64 b], .agg #[.int .i64 c, .int .i64 d]] w fun e w' => e = .returned (.bool (decide (LessD a b c d))) ∧ Below w.heap.size w w' := by
  have HB : Hid (Below w.heap.size w ((w.alloc (.cells #[.int .i64 a, .int .i64 b] 25)).alloc (.cells #[.int .i64 c, .int .i64 d] 25))) := ((Below.refl _ _).alloc (Nat.le_refl _) _).alloc (by simp) _
  by_cases h0 : a < c
  · go_enter Tryz.func24, Tryz.ntmps24
    go_wp2
    go_ret
    exact ⟨by rw [decide_eq_true (show LessD a b c d from .inl h0)]; simp [h0], HB.out⟩
  · by_cases h1 : a = c
    · subst h1
      by_cases h2 : b < d
      · go_enter Tryz.func24, Tryz.ntmps24
        go_wp2
        go_ret
        exact ⟨by rw [decide_eq_true (show LessD a b a d from .inr ⟨rfl, h2⟩)]; simp [h2], HB.out⟩
      · go_enter Tryz.func24, Tryz.ntmps24
        go_wp2
        go_ret
        exact ⟨by rw [decide_eq_false (show ¬ LessD a b a d by unfold LessD; omega)]; simp [h2], HB.out⟩
    · have he : (a == c) = false := beq_eq_false_iff_ne.2 h1
      go_enter Tryz.func24, Tryz.ntmps24
      go_wp2
      go_ret
      exact ⟨by rw [decide_eq_false (show ¬ LessD a b c d by unfold LessD; omega)]; simp [h0, h1], HB.out⟩
/-- append of events to a row of the call's own, in a region that draws its order; where the row lies then. -/
theorem step_append_evL {ops : Array Oper} {o : Oper} {a : Act} {w : World} {K : Act → World → Prop} {Q : Exit → Act → World → Prop} {E : Prop} (hgd : o.guard = none) (s x : Operand)
    (ho : o.op = .call { callee := .builtin .append, args := #[s, x], argTypes := #[22, 22] })
    (base : Nat) (v : Value) (n : Nat) (ds : List EvM) (hn : ds.length = n) (hs : a.eval s = v) (hown : w.ownsRow base 33 8 v n (flatE ds))
    (ad : Addr) (m c : Nat) (xs : List EvM) (hm : xs.length = m) (hx : a.eval x = .slice (some ad) m c) (hh : HeldE w (some ad) xs) (hsum : n + m ≤ 100000000) (hbase : base ≤ w.heap.size) (hok : ∀ V, Below base w V → AllOk V (ds ++ xs))
    (h : ∀ bo cp w', w'.ownsRow base 33 8 (.slice bo (n + m) cp) (n + m) (flatE (ds ++ xs)) → Below base w w' → w.grownBy w' v.ownBlock → ((Value.slice bo (n + m) cp).ownBlock = v.ownBlock ∨ (Value.slice bo (n + m) cp).ownBlock = some w.heap.size) → K (a.put o.dst (.slice bo (n + m) cp)) w') :
    if Region.wanted o (yielded ops a.tmps) = true then Oper.wp Tryz.prog o a w K Q else E := by
  have hw : Region.wanted o (yielded ops a.tmps) = true := by simp [Region.wanted, hgd]
  rw [if_pos hw]
  obtain ⟨iI, hj, hy0, hy1, hy2⟩ := info_parts Tryz.infoEv
  obtain ⟨v', w', hr, hown', hgrow, _, hwh⟩ := run_append_own_at (P := Tryz.prog) w base 22 o.type 33 iI _ 8 96 Tryz.underlying22 hj hy0 hy1 hy2 rfl (by decide) v n (flatE ds) hown ad m c (flatE xs) (by rw [flatE_len, hm]) hh.news (flatE_one xs) (by unfold maxLen; omega) (by omega) hbase
  unfold Oper.wp execOp
  simp only [ho, resolve, invoke, builtin, Sem.run_bind, Sem.run_pure, Result.andThen_ok, List.map_toArray, List.map_cons, List.map_nil, hs, hx, hr]
  rw [← flatE_append] at hown'
  have hb : Below base w w' := (Below.refl _ _).grown hgrow hbase (fun k hk => (hown.lt k hk).1)
  obtain ⟨bo, cp, rfl, _, _⟩ := heldE_of_own (by rw [List.length_append, hn, hm]) hown' (hok w' hb)
  exact h bo cp w' hown' hb hgrow hwh
/-- .. with what has been turned since w. -/
structure DlS (w0 w wr : World) (x : Nat) (F : Nat → Prop) (g : Dm) (eo : Option Addr) (cap : Nat) (fo : Option Addr) (cap2 : Nat) : Prop where
  at_ : DlAt w0 wr x g eo cap fo cap2
  turn : Turns F w wr
  foot : ∀ i, FootR x eo g.L.length cap fo g.W.length cap2 i → F i ∨ w.heap.size ≤ i
theorem DlS.to {w0 w wr : World} {x cap cap2 : Nat} {F : Nat → Prop} {g : Dm} {eo fo : Option Addr} (h : DlS w0 w wr x F g eo cap fo cap2) : DlTo w0 w wr x F g := ⟨eo, cap, fo, cap2, h.at_, h.turn, h.foot⟩
theorem DlS.below {w0 w wr w' : World} {x cap cap2 : Nat} {F : Nat → Prop} {g : Dm} {eo fo : Option Addr} (h : DlS w0 w wr x F g eo cap fo cap2) (hb : Below wr.heap.size wr w') : DlS w0 w w' x F g eo cap fo cap2 :=
  ⟨h.at_.below hb, h.turn.trans (Turns.of_below (F := F) hb (Nat.le_refl _)) (fun _ hi => .inl hi), h.foot⟩
theorem DlS.next {w0 w wr w' : World} {x cap cap2 : Nat} {F : Nat → Prop} {g g' : Dm} {eo fo : Option Addr} (h : DlS w0 w wr x F g eo cap fo cap2) (k : DlTo w0 wr w' x (FootR x eo g.L.length cap fo g.W.length cap2) g') : ∃ eo' cap' fo' cap2', DlS w0 w w' x F g' eo' cap' fo' cap2' := by
  obtain ⟨eo', cap', fo', cap2', h1, h2, h3⟩ := k
  exact ⟨eo', cap', fo', cap2', h1, h.turn.trans h2 h.foot, fun i hi => (h3 i hi).elim (h.foot i) (fun k => .inr (Nat.le_trans h.turn.size k))⟩
theorem DlTo.open {w0 w w' : World} {x : Nat} {F : Nat → Prop} {g : Dm} (k : DlTo w0 w w' x F g) : ∃ eo' cap' fo' cap2', DlS w0 w w' x F g eo' cap' fo' cap2' := by
  obtain ⟨eo', cap', fo', cap2', h1, h2, h3⟩ := k
  exact ⟨eo', cap', fo', cap2', h1, h2, h3⟩
/-- The loop's measure. -/
def muP (x : Nat) (v : Value) (w : World) : Nat := 2 * (match w.cell? ⟨x, 1, none⟩ with
  | some (.slice _ n _) => n
  | _ => 0) + (match v with
  | .bool true => 1
  | _ => 0)
theorem muP_eq {w0 w : World} {x cap cap2 : Nat} {g : Dm} {eo fo : Option Addr} (h : DlAt w0 w x g eo cap fo cap2) (b : Bool) : muP x (.bool b) w = 2 * g.W.length + (if b then 1 else 0) := by
  unfold muP
  rw [h.blk.cell (i := 1) rfl]
  cases b <;> rfl
theorem held_newE {V : World} {y : EvM} (h : EvOk (V.alloc (.cells y.cells.toArray 33)) y) : HeldE (V.alloc (.cells y.cells.toArray 33)) (some ⟨V.heap.size, 0, none⟩) [y] := by
  refine ⟨fun z hz => by rw [List.mem_singleton.1 hz]; exact h, .inr ⟨V.heap.size, 0, rfl, by simp, fun j hj c u hu => ?_⟩⟩
  have hj0 : j = 0 := by simp at hj; exact hj
  subst hj0
  have h1 := (Blk.new V 33 y.cells).cell hu
  simpa using h1
theorem Dl0 {w0 w : World} {xs : List EvM} (h : AllOk w0 xs) (hb : Below w0.heap.size w0 w) : AllOk w xs := h.below hb
end Go.Proofs.YtjlompnjhmbhhaaGreat
/-
  The document's log: Put, what it leaves.
-/
namespace Go.Proofs.YtjlompnjhmbhhaaGreat
open Go.RowKit Go.Maps
set_option linter.unusedSimpArgs false
theorem eql_dotL (W : World) (a b c d : Int) (h : ¬ (a = c ∧ b = d)) : (binOp .eql 25 (.agg #[.int .i64 a, .int .i64 b]) (.agg #[.int .i64 c, .int .i64 d])).run Tryz.prog W = .ok (.bool false) W := by
  by_cases h1 : a = c
  · have h2 : (b == d) = false := beq_eq_false_iff_ne.2 (fun e => h ⟨h1, e⟩)
    subst h1
    simp [go_sem, h2]
  · have h2 : (a == c) = false := beq_eq_false_iff_ne.2 h1
    simp [go_sem, h2]
/-- Which answer changes nothing. -/
inductive RNo (g : Dm) (e : Ev) : Int → Prop
  | wrong : ¬ MayE e → RNo g e 100
  | has : MayE e → HasV (vecL (evs g.L)) e.o e.s → RNo g e 5
  | known : MayE e → KnowM g.W e → RNo g e 5
  | full : MayE e → ¬ HasV (vecL (evs g.L)) e.o e.s → ¬ KnowM g.W e → 65536 ≤ g.L.length → RNo g e 2
  | fullW : MayE e → ¬ HasV (vecL (evs g.L)) e.o e.s → ¬ KnowM g.W e → g.L.length < 65536 → ¬ ReadyE (vecL (evs g.L)) e → 4096 ≤ g.W.length → RNo g e 2
theorem RNo.elim {g : Dm} {e : Ev} (h : ∃ c, RNo g e c) (hm : MayE e) (hh : ¬ HasV (vecL (evs g.L)) e.o e.s) (hk : ¬ KnowM g.W e) (hl : g.L.length < 65536) (hr : ReadyE (vecL (evs g.L)) e ∨ g.W.length < 4096) : False := by
  obtain ⟨c, h⟩ := h
  cases h with
  | wrong h1 => exact h1 hm
  | has _ h1 => exact hh h1
  | known _ h1 => exact hk h1
  | full _ _ _ h1 => omega
  | fullW _ _ _ _ h1 h2 =>
    rcases hr with hr | hr
    · exact h1 hr
    · omega
/-- What Put leaves. -/
inductive RPutP (w0 w : World) (x : Nat) (F : Nat → Prop) (g : Dm) (y : EvM) : Ending → World → Prop
  | no {w' : World} {c : Int} : RNo g y.e c → Below w.heap.size w w' → RPutP w0 w x F g y (.returned (.tuple #[.slice none 0 0, .int .i64 c])) w'
  | waits {w' : World} : MayE y.e → ¬ HasV (vecL (evs g.L)) y.e.o y.e.s → ¬ KnowM g.W y.e → g.L.length < 65536 → ¬ ReadyE (vecL (evs g.L)) y.e → g.W.length < 4096 → DlTo w0 w w' x F ⟨g.L, insM g.W (posM g.W y.e) y⟩ → RPutP w0 w x F g y (.returned (.tuple #[.slice none 0 0, .int .i64 0])) w'
  | goes {w' : World} {v : Value} : MayE y.e → ¬ HasV (vecL (evs g.L)) y.e.o y.e.s → ¬ KnowM g.W y.e → g.L.length < 65536 → ReadyE (vecL (evs g.L)) y.e → DlTo w0 w w' x F (lastM ⟨g.L ++ [y], g.W⟩) → w'.ownsRow w.heap.size 33 8 v ((lastM ⟨g.L ++ [y], g.W⟩).L.drop g.L.length).length (flatE ((lastM ⟨g.L ++ [y], g.W⟩).L.drop g.L.length)) → RPutP w0 w x F g y (.returned (.tuple #[v, .int .i64 0])) w'
end Go.Proofs.YtjlompnjhmbhhaaGreat
/-
  The document's log: what stays in a region that appends to a row in place.
-/
namespace Go.Proofs.YtjlompnjhmbhhaaGreat
open Go.RowKit Go.Maps

structure Tb (F : Nat → Prop) (W V : World) : Prop where
  out : Turns F W V
theorem Tb.start {F : Nat → Prop} (W : World) : Tb F W W := ⟨Turns.refl _ _⟩
theorem Tb.dr {F : Nat → Prop} {W V : World} (h : Tb F W V) : Tb F W V.drew := ⟨h.out.drew⟩
theorem Tb.alloc {F : Nat → Prop} {W V : World} (h : Tb F W V) (o : Obj) : Tb F W (V.alloc o) := ⟨h.out.alloc o⟩
theorem Tb.grown {F : Nat → Prop} {W V U : World} {row : Option Nat} (h : Tb F W V) (hg : V.grownBy U row) (hF : ∀ k, row = some k → F k) : Tb F W U := ⟨h.out.grown hg (fun k e => .inl (hF k e))⟩
def RowB (v : Value) (i : Nat) : Prop := v.ownBlock = some i
theorem row_dropE {w : World} {b cap m n : Nat} {xs : List EvM} (h : HeldE w (some ⟨b, 0, none⟩) xs) (hn : xs.length = n) (hc : n ≤ cap) (_hm : m ≤ n) : HeldE w (if cap = m then some ⟨b, 0, none⟩ else some ⟨b, 0 + m * 8, none⟩) (xs.drop m) := held_dropE h m (by omega)
theorem HeldE.drop0 {w : World} {b : Nat} {xs : List EvM} (h : HeldE w (some ⟨b, 0, none⟩) xs) (k : Nat) : HeldE w (some ⟨b, k * 8, none⟩) (xs.drop k) := by
  have h1 := h.drop k
  rw [Nat.zero_add] at h1
  exact h1
theorem held_drop0E {w : World} {b cap : Nat} {xs : List EvM} (h : HeldE w (some ⟨b, 0, none⟩) xs) (k : Nat) (hc : xs.length ≤ cap) : HeldE w (if cap = k then some ⟨b, 0, none⟩ else some ⟨b, k * 8, none⟩) (xs.drop k) := by
  have h1 := held_dropE h k hc
  rw [Nat.zero_add] at h1
  exact h1
theorem HeldE.dropN {w : World} {xs : List EvM} (h : HeldE w none xs) (k : Nat) : HeldE w none (xs.drop k) := by
  have h0 : xs = [] := by
    rcases h.2 with h0 | ⟨b, off, e, _⟩
    · exact h0
    · cases e
  subst h0
  simpa using h
theorem mu_ltO {w0 W wB : World} {x c1 c2 d1 d2 : Nat} {g1 g2 : Dm} {e1 e2 f1 f2 : Option Addr} (h1 : DlAt w0 W x g1 e1 c1 e2 c2) (h2 : DlAt w0 wB x g2 f1 d1 f2 d2) (h : g1.W.length + 1 = g2.W.length) : muP x (.bool true) W < muP x (.bool true) wB := by
  rw [muP_eq h1 true, muP_eq h2 true]
  simp
  omega
theorem row_someE {w : World} {B n c : Nat} {ad : Addr} {xs : List Value} (h : w.ownsRow B 33 8 (.slice (some ad) n c) n xs) : ∃ b, ad = ⟨b, 0, none⟩ := by
  rcases h.2 with ⟨he, _⟩ | ⟨g', c', cur, he, _⟩
  · cases he
  · cases he
    exact ⟨g', rfl⟩
end Go.Proofs.YtjlompnjhmbhhaaGreat
