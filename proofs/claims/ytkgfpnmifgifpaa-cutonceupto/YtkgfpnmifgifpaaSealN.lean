/-
  Package cut: Split: all events come, in one of two lists.
-/
import Derived.Test.YtkgfpnmifgifpaaSealM
import Derived.Test.YtkgfpnmifgifpaaSealD
import Derived.Test.YtkgfpnmifgifpaaCartQ
namespace Go.Proofs.Ytkgfpnmifgifpaa
open Go.RowKit Go.Maps

/-- append(out, e), and where it lies then. -/
theorem wpList_append_evb {ops : Array Oper} {rest : List Oper} {o : Oper} {a : Act} {Q : Exit → Act → World → Prop} (W0 W : World) (x : EvM) (hW : W = W0.alloc (.cells x.cells.toArray 34)) (hgd : o.guard = none) (s xx : Operand)
    (ho : o.op = .call { callee := .builtin .append, args := #[s, xx], argTypes := #[22, 22] }) (B : Nat) (v : Value) (ds : List EvM) (hs : a.eval s = v) (g : Nat) (hx : a.eval xx = .slice (some ⟨g, 0, none⟩) 1 1) (hg : g = W0.heap.size) (hown : W0.ownsRow B 34 8 v ds.length (flatE ds)) (hB : B ≤ W0.heap.size) (hl : ds.length < 1466015503701)
    (h : ∀ v' w', w'.ownsRow B 34 8 v' (ds ++ [x]).length (flatE (ds ++ [x])) → Below B W0 w' → W.grownBy w' v.ownBlock → (v'.ownBlock = v.ownBlock ∨ v'.ownBlock = some W.heap.size) → wpList Try.prog ops Q rest (a.put o.dst v') w') :
    wpList Try.prog ops Q (o :: rest) a W := by
  subst hW
  subst hg
  obtain ⟨iI, hj, hy0, hy1, hy2⟩ := info_parts Try.infoEv
  have hnb := Blk.new W0 34 x.cells
  refine wpList_append_own_at _ hgd s xx 22 ho B 34 iI _ 8 96 Try.underlying22 hj hy0 hy1 hy2 rfl (by decide) v ds.length (flatE ds) hs (hown.alloc _) ⟨W0.heap.size, 0, none⟩ 1 1 x.cells hx rfl (fun j u hu => ?_) (ev_one x) (by unfold maxLen; omega) (by omega) (by simp; omega) ?_
  · rw [Addr.add_lit, Nat.zero_add]
    exact hnb.cell hu
  · intro v' w' hown' hgrow _ hb
    refine h v' w' ?_ (((Below.refl _ _).alloc hB _).grown hgrow (by simp; omega) (fun k hk => (hown.lt k hk).1)) hgrow hb
    rw [flatE_snoc, List.length_append]
    exact hown'
/-- Two rows of events, apart from one another. -/
structure Two2 (B : Nat) (w : World) (v u : Value) (ds es : List EvM) : Prop where
  rv : w.ownsRow B 34 8 v ds.length (flatE ds)
  ru : w.ownsRow B 34 8 u es.length (flatE es)
  ne : ∀ g, v.ownBlock = some g → u.ownBlock ≠ some g
theorem Two2.below {B : Nat} {w w' : World} {v u : Value} {ds es : List EvM} (h : Two2 B w v u ds es) (hb : Below w.heap.size w w') : Two2 B w' v u ds es := by
  have ht : Turns (fun _ => False) w w' := Turns.of_below hb (Nat.le_refl _)
  exact ⟨ht.row h.rv (fun _ _ h => h), ht.row h.ru (fun _ _ h => h), h.ne⟩
theorem Two2.symm {B : Nat} {w : World} {v u : Value} {ds es : List EvM} (h : Two2 B w v u ds es) : Two2 B w u v es ds := ⟨h.ru, h.rv, fun g h1 h2 => h.ne g h2 h1⟩
theorem Two2.set {B : Nat} {w : World} {v u : Value} {ds es : List EvM} (h : Two2 B w v u ds es) {p : Nat} (hv : ∀ g, v.ownBlock = some g → g ≠ p) (hu : ∀ g, u.ownBlock = some g → g ≠ p) (i : Nat) (x : Value) : Two2 B (w.setCell ⟨p, i, none⟩ x) v u ds es := by
  have ht : Turns (fun j => j = p) w (w.setCell ⟨p, i, none⟩ x) := (Turns.refl (fun j => j = p) w).setCell (p := ⟨p, i, none⟩) (.inl rfl) _
  exact ⟨ht.row h.rv hv, ht.row h.ru hu, h.ne⟩
theorem Two2.more {B : Nat} {w W w' : World} {v u v' : Value} {ds es ds' : List EvM} (h : Two2 B w v u ds es) (hW : Below w.heap.size w W) (hg : W.grownBy w' v.ownBlock) (hob : v'.ownBlock = v.ownBlock ∨ v'.ownBlock = some W.heap.size) (hr : w'.ownsRow B 34 8 v' ds'.length (flatE ds')) : Two2 B w' v' u ds' es := by
  have h2 := h.below hW
  refine ⟨hr, h2.ru.kept hg ?_, fun g h1 h3 => ?_⟩
  · cases hu : u.ownBlock with
    | none => exact .inl rfl
    | some g =>
      right
      intro e
      exact h.ne g e.symm hu
  · rcases hob with hob | hob
    · exact h.ne g (hob ▸ h1) h3
    · rw [hob] at h1
      cases h1
      have := (h2.ru.lt _ h3).2
      omega
def SplitP (w : World) (n : Nat) (e : Ending) (w' : World) : Prop := ∃ o1 a c1 o2 b c2, e = .returned (.tuple #[.slice o1 a c1, .slice o2 b c2]) ∧ a + b = n ∧ Below w.heap.size w w'
set_option maxRecDepth 1000000 in
set_option maxHeartbeats 4000000 in
theorem split_any (w : World) (lo : Option Addr) (lc : Nat) (xs : List EvM) (n : Nat) (hn : xs.length = n) (hx : HeldE w lo xs) (hl : n ≤ 100000000) (so : Option Addr) (cs : Nat) (ss : List SlM) (m : Nat) (hm : ss.length = m) (hs : HeldSl w so ss) (hls : m ≤ 100000000) :
    Calls Try.prog 12 #[.slice lo n lc, .slice so m cs] w (SplitP w n) := by
  have HN := hid hn
  have HM := hid hm
  have HX := hid hx
  have HS := hid hs
  have HBC := hid (byCart_any w so cs ss m hm hs hls)
  clear hn hm hx hs
  go_enter Try.func12, Try.ntmps12
  go_wp2_with fail
  refine HBC.out.mono ?_
  rintro e w1 ⟨mm, N, D, rfl, hrows, hb1⟩
  have HRO := hid hrows
  have HB1 := hid hb1
  clear hrows hb1 HBC
  go_wp2
  go_loopw [4, 5, 8, 9, 10, 15] (fun v u _ _ _ i wr => ∃ k : Nat, ∃ ds es : List EvM, k ≤ n ∧ i = .int .i64 k ∧ Hid (ds.length + es.length = k ∧ Two2 w1.heap.size wr v u ds es ∧ Below w1.heap.size w1 wr)) (fun _ _ _ _ _ i _ => n - (intOf i).toNat)
  case atStart => exact ⟨0, [], [], Nat.zero_le _, rfl, rfl, ⟨World.ownsRow_nil _ _ _ _, World.ownsRow_nil _ _ _ _, fun g h => by cases h⟩, Below.refl _ _⟩
  case round =>
    obtain ⟨k, ds, es, hk, rfl, HR⟩ := hrel
    by_cases hlt : k < n
    · have hlt' : (k : Int) < (n : Int) := by omega
      have hkx : Hid (k < xs.length) := (by rw [HN.out]; exact hlt : k < xs.length)
      have HBw : Hid (Below w.heap.size w wr) := bt HB1.out HR.out.2.2
      obtain ⟨bb, off, hao, hbb, g0, g1, g2, g3, g4, g5, g6, g7⟩ := (HX.out.below HBw.out).at hkx.out
      have HKM : Hid (k + 1 ≤ n) := (by omega : k + 1 ≤ n)
      have HOX := hid ((HX.out.1 _ (List.getElem_mem hkx.out)).below HBw.out)
      subst hao
      obtain ⟨X, HXX⟩ : ∃ X, Hid (xs[k]'hkx.out = X) := ⟨_, hid rfl⟩
      rw [HXX.out] at g0 g1 g2 g3 g4 g5 g6 g7 HOX
      obtain ⟨⟨o, s, dp, ct, ep, sk, qt, cl⟩, ao1, cap1⟩ := X
      obtain ⟨DN, HDN⟩ : ∃ m, Hid (dp.length = m) := ⟨_, hid rfl⟩
      simp only at g0 g1 g2 g3 g4 g5 g6 g7
      rw [HDN.out] at g2
      obtain ⟨W1, hW1⟩ : ∃ W, W = wr.alloc (.cells #[.int .i64 o, .int .i64 s, .slice ao1 DN cap1, .string ct, .int .i64 ep, .string sk, .int .i64 qt, .bool cl] 34) := ⟨_, rfl⟩
      have HBb : Hid (Below wr.heap.size wr W1) := by rw [hW1]; exact (Below.refl _ _).alloc (Nat.le_refl _) _
      have HK1 : Hid (Blk W1 wr.heap.size 34 [.int .i64 o, .int .i64 s, .slice ao1 DN cap1, .string ct, .int .i64 ep, .string sk, .int .i64 qt, .bool cl]) := by rw [hW1]; exact Blk.new wr _ _
      have HDI := hid (HOX.out.deps.held.below HBb.out)
      have HDF : Hid (dp.length ≤ 17592186044416) := HOX.out.deps.few
      have c2 := HK1.out.cell (i := 2) rfl
      have HCS : Hid (ct.size ≤ maxLen) := HOX.out.hc
      have HT1 := hid (HR.out.2.1.below HBb.out)
      have HNV : Hid ((∀ g, u4.ownBlock = some g → g ≠ wr.heap.size) ∧ (∀ g, u5.ownBlock = some g → g ≠ wr.heap.size)) := ⟨fun g hg => by have := (HR.out.2.1.rv.lt g hg).2; omega, fun g hg => by have := (HR.out.2.1.ru.lt g hg).2; omega⟩
      have HW1 := hid hW1
      rw [hW1] at c2
      clear hW1 hbb
      have HP2 : Hid (∀ w2, Below W1.heap.size W1 w2 → Blk w2 wr.heap.size 34 [.int .i64 o, .int .i64 s, .slice ao1 DN cap1, .string ct, .int .i64 ep, .string sk, .int .i64 qt, .bool cl]) := fun w2 hb => HK1.out.below hb HK1.out.lt
      obtain ⟨zs, zv, hzv, hzs, hzl, hzo⟩ := HRO.out.at ct
      obtain ⟨zo, zc, hzz⟩ := own_slice' hzo
      subst hzz
      have HZV := hid hzv
      have HZS := hid hzs
      have HZL := hid hzl
      have HZO := hid hzo
      clear hzv hzs hzl hzo
      have HST : Hid (∀ w2, Below W1.heap.size W1 w2 → ∀ x, Below w1.heap.size w1 (w2.setCell ⟨wr.heap.size, 2, none⟩ x)) := fun w2 hb x => by
        have h1 : Below w1.heap.size w1 w2 := bt HR.out.2.2 (bt HBb.out hb)
        exact h1.setCell (p := ⟨wr.heap.size, 2, none⟩) HR.out.2.2.size x
      have HLK : Hid (∀ V, Below w1.heap.size w1 V → (Instr.lookup 66 (.map (some mm)) (.string ct) false).run Try.prog V = .ok (.slice zo zs.length zc) V) := fun V hV => (HRO.out.below hV).lookup HCS.out HZV.out
      go_wp2_with (at_builtin; rw [← HW1.out]; refine wpList_append_nil _ rfl _ _ rfl rfl ao1 cap1 dp DN HDN.out rfl HDI.out HDF.out ?_; intro bo cp w2 hv2 _ hb2; have HV2 := hid hv2; have HB2 := hid hb2; have hk2 := HP2.out _ hb2; have d2 := hk2.cell (i := 2) rfl; have f2 := hk2.frozen 2; have hk3 := hk2.set 2 (.slice bo DN cp); have t0 := hk3.cell (i := 0) rfl; have t1 := hk3.cell (i := 1) rfl; have t2 := hk3.cell (i := 2) rfl; have t3 := hk3.cell (i := 3) rfl; have t4 := hk3.cell (i := 4) rfl; have t5 := hk3.cell (i := 5) rfl; have t6 := hk3.cell (i := 6) rfl; have t7 := hk3.cell (i := 7) rfl; have hlk := HLK.out _ (HST.out _ hb2 (.slice bo DN cp)); clear hv2 hb2 c2 hk2 hk3)
      obtain ⟨W3, hW3⟩ : ∃ W, W = w2.setCell ⟨wr.heap.size, 2, none⟩ (.slice bo DN cp) := ⟨_, rfl⟩
      have HK3 : Hid (Blk W3 wr.heap.size 34 [.int .i64 o, .int .i64 s, .slice bo DN cp, .string ct, .int .i64 ep, .string sk, .int .i64 qt, .bool cl]) := by rw [hW3]; exact (HP2.out _ HB2.out).set 2 _
      have HT3 : Hid (Two2 w1.heap.size W3 u4 u5 ds es) := by rw [hW3]; exact (HT1.out.below HB2.out).set HNV.out.1 HNV.out.2 2 _
      have HB3 : Hid (Below w1.heap.size w1 W3) := by rw [hW3]; exact HST.out _ HB2.out _
      have HW3w : Hid (Below w.heap.size w W3) := bt HB1.out HB3.out
      have hrow3 : W3.ownsRow w.heap.size 50 4 (.slice zo zs.length zc) zs.length (flatS zs) := (Turns.of_below (F := fun _ => False) HB3.out (Nat.le_refl _)).row HZO.out (fun _ _ h => h)
      obtain ⟨zo', zc', hze, _, hheld⟩ := heldSl_of_own rfl hrow3 (fun x hx => (HS.out.below HW3w.out).1 x (HZS.out x hx))
      cases hze
      have HBE := hid (belongs_any W3 ⟨⟨o, s, dp, ct, ep, sk, qt, cl⟩, bo, cp⟩ zo zc zs zs.length rfl hheld (by have := HZL.out; rw [HM.out] at this; omega))
      simp only [EvM.val] at HBE
      rw [HDN.out] at HBE
      obtain ⟨r, HRR⟩ : ∃ r, Hid (belIs ⟨o, s, dp, ct, ep, sk, qt, cl⟩ zs = r) := ⟨_, hid rfl⟩
      obtain ⟨q, HQQ⟩ : ∃ r, Hid (belEp ⟨o, s, dp, ct, ep, sk, qt, cl⟩ zs = r) := ⟨_, hid rfl⟩
      rw [HRR.out, HQQ.out] at HBE
      rw [← hW3]
      have HXC : Hid (∀ V : World, V.alloc (.cells #[.int .i64 o, .int .i64 s, .slice bo DN cp, .string ct, .int .i64 ep, .string sk, .int .i64 qt, .bool cl] 34) = V.alloc (.cells (EvM.cells ⟨⟨o, s, dp, ct, ep, sk, qt, cl⟩, bo, cp⟩).toArray 34)) := fun V => by
        simp only [EvM.cells]
        rw [HDN.out]
      have HSZ : Hid (ds.length < 1466015503701 ∧ es.length < 1466015503701) := by have := HR.out.1; constructor <;> omega
      obtain ⟨p, hp⟩ : ∃ p, p = wr.heap.size := ⟨_, rfl⟩
      rw [← hp] at HK3 ⊢
      clear hW3 hrow3 hheld hp t0 t1 t2 t3 t4 t5 t6 t7 hlk d2 f2 HRR HQQ HP2 HST HLK
      refine HBE.out.mono ?_
      rintro e w4 ⟨rfl, hb4⟩
      have hk4 := HK3.out.below hb4 HK3.out.lt
      have t0 := hk4.cell (i := 0) rfl
      have t1 := hk4.cell (i := 1) rfl
      have t2 := hk4.cell (i := 2) rfl
      have t3 := hk4.cell (i := 3) rfl
      have t4 := hk4.cell (i := 4) rfl
      have t5 := hk4.cell (i := 5) rfl
      have t6 := hk4.cell (i := 6) rfl
      have t7 := hk4.cell (i := 7) rfl
      have HT4 := hid (HT3.out.below hb4)
      have HB4 : Hid (Below w1.heap.size w1 w4) := bt HB3.out hb4
      clear hb4 hk4 HBE
      cases r
      · go_wp2_with (at_builtin; refine wpList_append_evb w4 _ ⟨⟨o, s, dp, ct, ep, sk, qt, cl⟩, bo, cp⟩ (HXC.out _) rfl _ _ rfl w1.heap.size u5 es rfl _ rfl rfl HT4.out.ru HB4.out.size HSZ.out.2 ?_; intro v' w5 hown5 hb5 hg5 hob5; have HT5 := hid ((HT4.out.symm.more ((Below.refl _ _).alloc (Nat.le_refl _) _) hg5 hob5 hown5).symm); have HB5 := hid (HB4.out.trans hb5); clear hown5 hb5 hg5 hob5)
        go_wp2
        go_roundw
        case rel => exact ⟨k + 1, ds, _, HKM.out, by go_num, by have := HR.out.1; rw [List.length_append]; show _ + (_ + 1) = _; omega, HT5.out, HB5.out⟩
        case measure => simp [intOf]; have := HKM.out; omega
      · go_wp2_with (at_builtin; refine wpList_append_evb w4 _ ⟨⟨o, s, dp, ct, ep, sk, qt, cl⟩, bo, cp⟩ (HXC.out _) rfl _ _ rfl w1.heap.size u4 ds rfl _ rfl rfl HT4.out.rv HB4.out.size HSZ.out.1 ?_; intro v' w5 hown5 hb5 hg5 hob5; have HT5 := hid (HT4.out.more ((Below.refl _ _).alloc (Nat.le_refl _) _) hg5 hob5 hown5); have HB5 := hid (HB4.out.trans hb5); clear hown5 hb5 hg5 hob5)
        go_wp2
        go_roundw
        case rel => exact ⟨k + 1, _, es, HKM.out, by go_num, by have := HR.out.1; rw [List.length_append]; show _ + 1 + _ = _; omega, HT5.out, HB5.out⟩
        case measure => simp [intOf]; have := HKM.out; omega
    · have hlt' : ¬ (k : Int) < (n : Int) := by omega
      obtain ⟨o1, c1, hv1⟩ := own_slice' HR.out.2.1.rv
      obtain ⟨o2, c2, hv2⟩ := own_slice' HR.out.2.1.ru
      subst hv1
      subst hv2
      have HE : Hid (ds.length + es.length = n) := by have := HR.out.1; show _ = _; omega
      have HBw : Hid (Below w.heap.size w wr) := bt HB1.out HR.out.2.2
      go_wp2
      go_ret2
      exact ⟨_, _, _, _, _, _, rfl, HE.out, HBw.out⟩
end Go.Proofs.Ytkgfpnmifgifpaa
