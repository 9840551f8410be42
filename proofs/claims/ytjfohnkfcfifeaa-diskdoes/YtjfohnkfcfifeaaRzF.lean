/-
  The law's 'does', of Crash, for two disks that have the same.
-/
import Derived.Test.YtjfohnkfcfifeaaRzE
namespace Go.Proofs.Ytjfohnkfcfifeaa
open Go.RowKit Go.Maps

theorem Try.infoTorn : (Try.prog.info? 53).map (fun i => (i.zero, i.size, i.bytes)) = some (some (.agg #[.string ⟨#[]⟩, .int .i64 0]), 2, 24) := by kernel_rfl
def flatT (ts : List (ByteArray × Int)) : List Value := ts.flatMap (fun t => [.string t.1, .int .i64 t.2])
theorem flatT_len (ts : List (ByteArray × Int)) : (flatT ts).length = ts.length * 2 := by
  induction ts with
  | nil => rfl
  | cons t r ih => unfold flatT at ih ⊢; rw [List.flatMap_cons, List.length_append, ih, List.length_cons]; show 2 + _ = _; rw [List.length_cons]; omega
theorem flatT_get : ∀ (ts : List (ByteArray × Int)) (j : Nat) (hj : j < ts.length), (flatT ts)[j * 2]? = some (.string ts[j].1) ∧ (flatT ts)[j * 2 + 1]? = some (.int .i64 ts[j].2)
  | [], j, hj => by cases hj
  | t :: r, 0, _ => by simp [flatT]
  | t :: r, j + 1, h => by
    have hj : j < r.length := by simpa using h
    have := flatT_get r j hj
    have e1 : (j + 1) * 2 = j * 2 + 1 + 1 := by omega
    rw [e1]
    simpa [flatT] using this
theorem flatT_one (ts : List (ByteArray × Int)) : ∀ u ∈ flatT ts, u.oneCell' = true := by
  intro u hu
  obtain ⟨t, _, ht⟩ := List.mem_flatMap.1 hu
  simp at ht
  rcases ht with rfl | rfl <;> rfl
theorem HeldT.news {w : World} {ad : Addr} {ts : List (ByteArray × Int)} (h : HeldT w (some ad) ts) : ∀ j u, (flatT ts)[j]? = some u → w.cell? (ad.add j) = some u := by
  intro i u hu
  have hlt := (List.getElem?_eq_some_iff.1 hu).1
  rw [flatT_len] at hlt
  rcases h.cell with h0 | ⟨b, off, e, _, h3⟩
  · subst h0
    simp at hlt
  · cases e
    have hj : i / 2 < ts.length := by omega
    obtain ⟨g0, g1⟩ := flatT_get ts (i / 2) hj
    obtain ⟨c0, c1⟩ := h3 (i / 2) hj
    rw [Addr.add_lit]
    rcases Nat.mod_two_eq_zero_or_one i with hm | hm
    · have e2 : i / 2 * 2 = i := by omega
      rw [e2] at g0 c0
      rw [g0] at hu
      cases hu
      exact c0
    · have e2 : i / 2 * 2 + 1 = i := by omega
      rw [e2] at g1
      rw [Nat.add_assoc, e2] at c1
      rw [g1] at hu
      cases hu
      exact c1
theorem heldT_own {w : World} {B m : Nat} {v : Value} {ts : List (ByteArray × Int)} {w0 : World} {ao : Option Addr} (hT : HeldT w0 ao ts) (hm : ts.length = m) (h : w.ownsRow B 53 2 v m (flatT ts)) : ∃ bo cp, v = .slice bo m cp ∧ HeldT w bo ts := by
  obtain ⟨eo, cap, rfl, _, hc⟩ := own_formFr h
  refine ⟨eo, cap, rfl, hT.name, hT.num, hT.few, ?_⟩
  by_cases h0 : ts = []
  · exact .inl h0
  · obtain ⟨g, rfl, _, hg, hcell⟩ := hc (by rw [← hm]; exact List.length_pos_iff.2 h0)
    refine .inr ⟨g, 0, rfl, hg, fun j hj => ?_⟩
    rw [Nat.zero_add]
    obtain ⟨g0, g1⟩ := flatT_get ts j hj
    exact ⟨hcell _ _ g0, hcell _ _ g1⟩
theorem ownT_nil {w : World} {B g : Nat} (hg : Blk w g 53 []) (hB : B ≤ g) : w.ownsRow B 53 2 (.slice (some ⟨g, 0, none⟩) 0 0) 0 (flatT []) :=
  ⟨rfl, .inr ⟨g, 0, #[], rfl, hB, hg, Nat.le_refl _, Nat.zero_le _, rfl, rfl⟩⟩
/-- append([]api.Torn{}, x...) in a region. -/
theorem step_copy_torn {ops : Array Oper} {o : Oper} {a : Act} {w : World} {K : Act → World → Prop} {Q : Exit → Act → World → Prop} {E : Prop} (hgd : o.guard = none) (s x : Operand)
    (ho : o.op = .call { callee := .builtin .append, args := #[s, x], argTypes := #[32, 32] })
    (g : Nat) (hs : a.eval s = .slice (some ⟨g, 0, none⟩) 0 0) (hg : Blk w g 53 [])
    (ao : Option Addr) (m c : Nat) (ts : List (ByteArray × Int)) (hm : ts.length = m) (hx : a.eval x = .slice ao m c) (hh : HeldT w ao ts) (hsum : m ≤ 5864062014805)
    (h : ∀ bo cp w', HeldT w' bo ts → Below g w w' → K (a.put o.dst (.slice bo m cp)) w') :
    if Region.wanted o (yielded ops a.tmps) = true then Oper.wp Try.prog o a w K Q else E := by
  have hw : Region.wanted o (yielded ops a.tmps) = true := by simp [Region.wanted, hgd]
  rw [if_pos hw]
  obtain ⟨iI, hj, hy0, hy1, hy2⟩ := info_parts Try.infoTorn
  have hown := ownT_nil hg (Nat.le_refl _)
  cases ao with
  | none =>
    have hx0 : ts = [] := by
      rcases hh.cell with h0 | ⟨b, off, e, _⟩
      · exact h0
      · cases e
    subst hx0
    obtain rfl : 0 = m := hm
    have hr := run_append_noneFr (P := Try.prog) w g 32 o.type 53 iI 2 Try.underlying32 hj _ 0 c _ hown
    unfold Oper.wp execOp
    simp only [ho, resolve, invoke, builtin, Sem.run_bind, Sem.run_pure, Result.andThen_ok, List.map_toArray, List.map_cons, List.map_nil, hs, hx, hr]
    exact h _ _ w ⟨hh.name, hh.num, hh.few, .inl rfl⟩ (Below.refl _ _)
  | some ad =>
    obtain ⟨v', w', hr, hown', hgrow, _, _⟩ := run_append_own_at (P := Try.prog) w g 32 o.type 53 iI _ 2 24 Try.underlying32 hj hy0 hy1 hy2 rfl (by decide) _ 0 (flatT []) hown ad m c (flatT ts) (by rw [flatT_len, hm]) hh.news (flatT_one ts) (by unfold maxLen; omega) (by omega) (Nat.le_of_lt hg.lt)
    unfold Oper.wp execOp
    simp only [ho, resolve, invoke, builtin, Sem.run_bind, Sem.run_pure, Result.andThen_ok, List.map_toArray, List.map_cons, List.map_nil, hs, hx, hr]
    rw [Nat.zero_add] at hown'
    have hb : Below g w w' := (Below.refl _ _).grown hgrow (Nat.le_of_lt hg.lt) (fun k hk => (hown.lt k hk).1)
    obtain ⟨bo, cp, rfl, hT⟩ := heldT_own hh hm (show w'.ownsRow g 53 2 v' m (flatT ts) from hown')
    exact h bo cp w' hT hb
section
variable {w0 w : World} {p bm x : Nat} {size c : Int} {fs : List Fl} {g : Xd}
set_option maxRecDepth 100000 in
set_option maxHeartbeats 2000000 in
theorem doesS_7 (hd : Dk w0 w p bm size c fs x size g) (hs : Same3 fs c g) (o : OpV) (ts : List (ByteArray × Int)) (hT : HeldT w0 o.ka ts) (hl : ts.length = o.kl) (hms : o.kl ≤ 5864062014805) (hk : o.kind = 7) :
    Calls Try.prog 11 #[.pointer (some ⟨p, 0, none⟩), .pointer (some ⟨x, 0, none⟩), .agg o.cells.toArray] w fun e V => e = .returned (.bool true) ∧ DkS w0 V p bm x size := by
  have k1b : (o.kind == 1) = false := by simp [hk]
  have k2b : (o.kind == 2) = false := by simp [hk]
  have k3b : (o.kind == 3) = false := by simp [hk]
  have k4b : (o.kind == 4) = false := by simp [hk]
  have k5b : (o.kind == 5) = false := by simp [hk]
  have k6b : (o.kind == 6) = false := by simp [hk]
  have k9b : (o.kind == 9) = false := by simp [hk]
  have kb : (o.kind == 7) = true := by simp [hk]
  obtain ⟨Z, hZ⟩ : ∃ Z, Z = w.alloc (.cells o.cells.toArray 34) := ⟨_, rfl⟩
  have hbx : Below w.heap.size w Z := by rw [hZ]; exact (Below.refl _ w).alloc (Nat.le_refl _) _
  have hbk : Blk Z w.heap.size 34 o.cells := by rw [hZ]; exact Blk.new w 34 o.cells
  have hzs : Z.heap.size = w.heap.size + 1 := by rw [hZ]; simp
  have hnb := Blk.new Z 53 []
  rw [hzs] at hnb
  have hbn : Below Z.heap.size Z (Z.alloc (.cells #[] 53)) := (Below.refl _ Z).alloc (Nat.le_refl _) _
  have HBK := hid (hbk.alloc (.cells #[] 53))
  have HS := hid hs
  have HDW := hid hd
  have HBZ := hid (hbx.trans (hbn.mono (by rw [hzs]; exact Nat.le_succ _)))
  obtain ⟨D, hda⟩ := hd.da
  have HDA := hid hda
  have HXO : Hid (XdOk g) := hs.ok hda
  obtain ⟨cv, hcv⟩ : ∃ cv, cv = crashC g ts := ⟨_, rfl⟩
  have HCV := hid hcv
  have HT0 := hid hT
  have HTN := hid (((hT.below hd.bel (Nat.le_refl _)).below hbx (Nat.le_refl _)).below hbn (Nat.le_refl _))
  have HNB : Hid (Blk (Z.alloc (.cells #[] 53)) (w.heap.size + 1) 53 []) := hnb
  have HL := hid hl
  have HMS := hid hms
  have HFT : Hid (¬ DFoot p bm fs w.heap.size) := fun h => by
    obtain ⟨D, hda⟩ := hd.da
    exact Nat.lt_irrefl _ (hda.foot_lt _ h)
  have k0 := (Blk.new w 34 o.cells).cell (i := 0) rfl
  have k5 := (Blk.new w 34 o.cells).cell (i := 5) rfl
  have n1 := World.new_ne _ _ k5
  rw [hZ] at HNB HTN HBK HBZ hbn
  have HZS : Hid (Z.heap.size = w.heap.size + 1) := hzs
  rw [hZ] at HZS
  unfold OpV.cells at *
  have hccb : (cv == cv) = true := by simp
  clear hd hs hk hT hl hms hbx hbk hbn hnb hzs hZ hda hcv
  go_enter Try.func11, Try.ntmps11
  go_wp2_with fail
  go_region_held3 (fun V => V.cell? ⟨w.heap.size, 5, none⟩ = some (.slice o.ka o.kl o.kc)) (first | assumption | go_keep)
    (first
      | (refine step_copy_torn rfl _ _ rfl (w.heap.size + 1) rfl (by repeat (first | with_reducible exact HNB.out | with_reducible apply Blk.drew)) o.ka o.kl o.kc ts HL.out rfl (by first | with_reducible exact HTN.out | exact HTN.out.below (drew_below _) (Nat.le_refl _) | exact HTN.out.below (dn_below _ _) (Nat.le_refl _)) HMS.out ?_; intro bo cp w4 hT4 hb4; have HB4 : Hid (Below w.heap.size w w4) := (by refine Below.trans ?_ (hb4.mono (Nat.le_succ _)); first | with_reducible exact HBZ.out | with_reducible exact HBZ.out.drew | with_reducible exact below_dnX HBZ.out _); have hbk4 : Blk w4 w.heap.size 34 [.int .i64 o.kind, .string o.name, .string o.to, .slice o.ba o.bl o.bc, .int .i64 o.n, .slice o.ka o.kl o.kc] := Blk.below (by first | with_reducible exact HBK.out | with_reducible exact HBK.out.drew | with_reducible exact HBK.out.drewN _) hb4 (Nat.lt_succ_self _); have HBK4 := hid hbk4; have y5 := hbk4.cell (i := 5) rfl; have HST4 : Hid (Calls Try.prog 14 #[.pointer (some ⟨p, 0, none⟩), .slice bo o.kl cp] w4 (Chg (CrR ts c fs) w4 p bm size fs)) := (by show Calls _ _ _ _ _; rw [← HL.out]; exact crash_chg (HDA.out.below HB4.out (Nat.le_refl _)) bo cp hT4); clear hT4 hb4 hbk4)
      | (go_at_call 14; refine HST4.out.mono ?_; rintro e w9 ⟨er, fs9, c9, rfl, hn9, hr9⟩; obtain ⟨he9, hs9⟩ := HS.out.cr HDA.out hr9; rw [← HCV.out] at he9; subst he9; have HS9 := hid hs9; have HD9 := hid ((HDW.out.below HB4.out).prog hn9); have hb9 := now_blk hn9 HBK4.out HFT.out; have HB9 := hid hb9; have z5 := hb9.cell (i := 5) rfl; have HCX9 := hid (HD9.out.crash HXO.out HS.out.L.sort o.ka o.kc HT0.out); rw [HL.out, ← HCV.out] at HCX9; clear hn9 hr9 hs9 hb9)
      | (go_at_call 35; refine HCX9.out.mono ?_; rintro e w10 ⟨rfl, hd10, hk10⟩; have HD10 := hid hd10; have hb10 := hk10 _ _ _ HB9.out (by decide) (by decide); have u5 := hb10.cell (i := 5) rfl; clear hd10 hk10 hb10))
  all_goals
    go_wp2
    go_ret
    exact ⟨rfl, _, _, _, HD10.out, HS9.out⟩
end
end Go.Proofs.Ytjfohnkfcfifeaa
