/-
  LinLooser: the walk.
-/
import Derived.Test.YtfjmhfbmphdjiaaLnN
namespace Go.Proofs.Ytfjmhfbmphdjiaa
open Go.RowKit Go.Maps

theorem wrap_natL {k : Nat} (h : k < 2932031007402) : wrap64 (k : Int) = (k : Int) := wrapS (by omega) (by omega)
def looseB (s : Sn) (by_ : Int) : Int := if by_ < s.b then s.b - by_ else s.b
def looseE (s : Sn) (by_ : Int) : Int := if 0 < s.e ∧ s.e < 2305843009213693952 then s.e + by_ else s.e
def looseS (s : Sn) (by_ : Int) : Sn := ⟨s.co, s.tok, looseB s by_, looseE s by_, s.id⟩
theorem loose_looser {s : Sn} {by_ : Int} (h0 : 0 ≤ by_) : Looser s (looseS s by_) := by
  refine ⟨rfl, rfl, rfl, ?_, ?_, ?_⟩
  · show looseB s by_ ≤ _
    unfold looseB
    split <;> omega
  · show _ ≤ looseE s by_
    unfold looseE
    split <;> omega
  · show looseE s by_ = 0 ↔ _
    unfold looseE
    split <;> omega
theorem loose_may {s : Sn} {by_ : Int} (h0 : 0 ≤ by_) (h1 : by_ ≤ 1048576) (h : mayS s = true) : mayS (looseS s by_) = true := by
  have := mayS_iff.1 h
  refine mayS_iff.2 ?_
  show (1 ≤ looseB s by_ ∧ looseB s by_ < MT ∧ 0 ≤ s.id) ∧ (looseE s by_ = 0 → s.id = 0) ∧ (looseE s by_ ≠ 0 → looseB s by_ ≤ looseE s by_ ∧ looseE s by_ < MT)
  unfold MT at *
  unfold looseB looseE
  split <;> split <;> omega
theorem loose_ok {s : Sn} {by_ : Int} (h0 : 0 ≤ by_) (h1 : by_ ≤ 1048576) (hm : mayS s = true) (h : SnOk s) : SnOk (looseS s by_) := by
  have := mayS_iff.1 hm
  have hb := h.ib
  have he := h.ie
  unfold I64 at hb he
  refine ⟨h.ht, ?_, ?_, h.ii⟩
  · show I64 (looseB s by_)
    unfold I64 looseB
    split <;> omega
  · show I64 (looseE s by_)
    unfold I64 looseE
    split <;> omega
theorem row_setS {w : World} {B e size g n cap : Nat} {xs : List Value} (h : w.ownsRow B e size (.slice (some ⟨g, 0, none⟩) n cap) n xs) {j : Nat} (u : Value) : (w.setCell ⟨g, j, none⟩ u).ownsRow B e size (.slice (some ⟨g, 0, none⟩) n cap) n (xs.set j u) := by
  refine ⟨by rw [List.length_set]; exact h.1, ?_⟩
  rcases h.2 with ⟨h0, _⟩ | ⟨g', cap', cur, he, hB, hg, hn, hm, hsz, htk⟩
  · cases h0
  · cases he
    have hb : Blk w g e cur.toList := hg
    refine .inr ⟨g, cap, (cur.toList.set j u).toArray, rfl, hB, hb.set j u, hn, hm, by simp [hsz], ?_⟩
    show (cur.toList.set j u).take (n * size) = xs.set j u
    rw [← htk, List.take_set]
theorem row_frozenS {w : World} {B e size g n cap : Nat} {xs : List Value} (h : w.ownsRow B e size (.slice (some ⟨g, 0, none⟩) n cap) n xs) (j : Nat) : w.frozen? ⟨g, j, none⟩ = false := by
  rcases h.2 with ⟨h0, _⟩ | ⟨g', cap', cur, he, hB, hg, _⟩
  · cases h0
  · cases he
    exact (show Blk w g e cur.toList from hg).frozen j
theorem row_cellS {w : World} {B e g n cap : Nat} {xs : List Sn} (h : w.ownsRow B e 5 (.slice (some ⟨g, 0, none⟩) n cap) n (flatN xs)) {k : Nat} (hk : k < xs.length) {c : Nat} {u : Value} (hu : xs[k].cells[c]? = some u) : w.cell? ⟨g, k * 5 + c, none⟩ = some u := by
  have := h.cells (g := g) rfl _ _ (flatN_get xs k hk c u hu)
  simpa [Addr.add_lit] using this
theorem flatN_setB : ∀ (xs : List Sn) (k : Nat) (hk : k < xs.length) (b : Int), (flatN xs).set (k * 5 + 2) (.int .i64 b) = flatN (xs.set k ⟨xs[k].co, xs[k].tok, b, xs[k].e, xs[k].id⟩)
  | [], k, hk, _ => by cases hk
  | x :: r, 0, _, b => by simp [flatN, Sn.cells]
  | x :: r, k + 1, hk, b => by
    have := flatN_setB r k (by simpa using hk) b
    unfold flatN at this ⊢
    simp only [List.getElem_cons_succ, List.set_cons_succ, List.flatMap_cons]
    rw [← this, List.set_append, if_neg (show ¬ (k + 1) * 5 + 2 < x.cells.length by show ¬ _ < 5; omega), show (k + 1) * 5 + 2 - x.cells.length = k * 5 + 2 by show _ - 5 = _; omega]
theorem flatN_setE : ∀ (xs : List Sn) (k : Nat) (hk : k < xs.length) (e : Int), (flatN xs).set (k * 5 + 3) (.int .i64 e) = flatN (xs.set k ⟨xs[k].co, xs[k].tok, xs[k].b, e, xs[k].id⟩)
  | [], k, hk, _ => by cases hk
  | x :: r, 0, _, e => by simp [flatN, Sn.cells]
  | x :: r, k + 1, hk, e => by
    have := flatN_setE r k (by simpa using hk) e
    unfold flatN at this ⊢
    simp only [List.getElem_cons_succ, List.set_cons_succ, List.flatMap_cons]
    rw [← this, List.set_append, if_neg (show ¬ (k + 1) * 5 + 3 < x.cells.length by show ¬ _ < 5; omega), show (k + 1) * 5 + 3 - x.cells.length = k * 5 + 3 by show _ - 5 = _; omega]
theorem looser_check {xs : List Sn} {ts : List ByteArray} {k : Nat} (hk : k < xs.length) {by_ : Int} (h0 : 0 ≤ by_) (h1 : by_ ≤ 1048576) (h : checkL xs ts = 0) : checkL (xs.set k (looseS xs[k] by_)) ts = 0 := by
  have hr := check_ok.1 h
  rw [split_at hk] at hr
  have := hr.looser (loose_looser h0) (loose_may h0 h1)
  rw [List.set_eq_take_append_cons_drop, if_pos hk]
  exact check_ok.2 this
/-- A row of the call's own, its k-th sight being s. -/
structure RowK (w1 : World) (V : World) (g n cp k : Nat) (xs : List Sn) (s : Sn) : Prop where
  own : V.ownsRow w1.heap.size 31 5 (.slice (some ⟨g, 0, none⟩) n cp) n (flatN (xs.set k s))
  new : w1.heap.size ≤ g
  bel : Below w1.heap.size w1 V
theorem RowK.setB {w1 V : World} {g n cp k : Nat} {xs : List Sn} {s : Sn} (h : RowK w1 V g n cp k xs s) (hk : k < xs.length) (b : Int) : RowK w1 (V.setCell ⟨g, k * 5 + 2, none⟩ (.int .i64 b)) g n cp k xs ⟨s.co, s.tok, b, s.e, s.id⟩ := by
  refine ⟨?_, h.new, h.bel.setCell (p := ⟨g, _, none⟩) h.new _⟩
  have := row_setS h.own (j := k * 5 + 2) (.int .i64 b)
  rw [flatN_setB (xs.set k s) k (by simpa using hk)] at this
  simpa using this
theorem RowK.setE {w1 V : World} {g n cp k : Nat} {xs : List Sn} {s : Sn} (h : RowK w1 V g n cp k xs s) (hk : k < xs.length) (e : Int) : RowK w1 (V.setCell ⟨g, k * 5 + 3, none⟩ (.int .i64 e)) g n cp k xs ⟨s.co, s.tok, s.b, e, s.id⟩ := by
  refine ⟨?_, h.new, h.bel.setCell (p := ⟨g, _, none⟩) h.new _⟩
  have := row_setS h.own (j := k * 5 + 3) (.int .i64 e)
  rw [flatN_setE (xs.set k s) k (by simpa using hk)] at this
  simpa using this
theorem RowK.cells {w1 V : World} {g n cp k : Nat} {xs : List Sn} {s : Sn} (h : RowK w1 V g n cp k xs s) (hk : k < xs.length) : V.cell? ⟨g, k * 5 + 2, none⟩ = some (.int .i64 s.b) ∧ V.cell? ⟨g, k * 5 + 3, none⟩ = some (.int .i64 s.e) ∧ V.frozen? ⟨g, k * 5 + 2, none⟩ = false ∧ V.frozen? ⟨g, k * 5 + 3, none⟩ = false :=
  ⟨row_cellS h.own (k := k) (by simpa using hk) (c := 2) (by simp [Sn.cells]), row_cellS h.own (k := k) (by simpa using hk) (c := 3) (by simp [Sn.cells]), row_frozenS h.own _, row_frozenS h.own _⟩
theorem RowK.held {w1 V : World} {g n cp k : Nat} {xs : List Sn} {s : Sn} (h : RowK w1 V g n cp k xs s) (hn : xs.length = n) (hx : AllSn xs) (hs : SnOk s) : HeldSn V (some ⟨g, 0, none⟩) (xs.set k s) := by
  obtain ⟨ao, cap, he, _, hh⟩ := heldSn_of_own (xs := xs.set k s) (by simpa using hn) h.own (fun x hx' => by
    rcases List.mem_or_eq_of_mem_set hx' with h1 | h1
    · exact hx x h1
    · rw [h1]; exact hs)
  cases he
  exact hh
theorem below_from_alloc {w w' : World} {o : Obj} (h : Below w.heap.size (w.alloc o) w') : Below w.heap.size w w' := (one_new w o).trans h
theorem own_some {w : World} {B e sz n c : Nat} {b : Option Addr} {xs : List Value} (hn : 0 < n) (h : w.ownsRow B e sz (.slice b n c) n xs) : ∃ g, b = some ⟨g, 0, none⟩ := by
  rcases h.2 with ⟨_, h0⟩ | ⟨g, cap, cur, he, _⟩
  · omega
  · cases he
    exact ⟨g, rfl⟩
theorem wrap_subL {a b : Int} (h1 : 1 ≤ a) (h2 : a < 4611686018427387904) (h3 : 0 ≤ b) (h4 : b ≤ 1048576) : wrap64 (a - b) = a - b := wrapS (by omega) (by omega)
theorem wrap_addL {a b : Int} (h1 : 0 < a) (h2 : a < 2305843009213693952) (h3 : 0 ≤ b) (h4 : b ≤ 1048576) : wrap64 (a + b) = a + b := wrapS (by omega) (by omega)
set_option maxRecDepth 1000000 in
set_option maxHeartbeats 4000000 in
theorem linLooser_walk (ao : Option Addr) (cap : Nat) (xs : List Sn) (bo : Option Addr) (cb : Nat) (ts : List ByteArray) (at_ by_ : Int) (w : World) (h : HeldSn w ao xs ∧ xs.length ≤ cap) (hl : xs.length ≤ 2932031007402) (hs : HeldStr w bo ts) (hls : ts.length ≤ 8796093022208) (_ha : -9223372036854775808 ≤ at_ ∧ at_ ≤ 9223372036854775807) (_hb : -9223372036854775808 ≤ by_ ∧ by_ ≤ 9223372036854775807) :
    Calls Try.prog 6 #[.slice ao xs.length cap, .slice bo ts.length cb, .int .i64 at_, .int .i64 by_] w fun e w' => e = .returned (.bool true) ∧ Below w.heap.size w w' := by
  obtain ⟨n, hn⟩ : ∃ n, xs.length = n := ⟨_, rfl⟩
  obtain ⟨m, hm⟩ : ∃ m, ts.length = m := ⟨_, rfl⟩
  have HL := hid (lives25 w)
  have HCK : Hid (∀ V, Below w.heap.size w V → ∀ yo yc (ys : List Sn) k, ys.length = k → HeldSn V yo ys → k ≤ 2932031007402 → Calls Try.prog 9 #[.slice yo k yc, .slice bo m cb] V (SaysI V (checkL ys ts))) := fun V hV yo yc ys k hk hy hly => check_any V yo yc ys k hk hy hly bo cb ts m hm (hs.below hV) (by rw [← hm]; exact hls)
  have H := hid h.1
  have HNN : Hid (n ≤ 2932031007402) := by rw [← hn]; exact hl
  have HN := hid hn
  rw [hn, hm]
  clear h hs hls hn hm hl _ha _hb
  go_enter Try.func6, Try.ntmps6
  go_wp2_with fail
  refine HL.out.mono ?_
  rintro e w1 ⟨rfl, hb1⟩
  have HB1 := hid hb1
  clear hb1 HL
  have HC1 := hid (HCK.out w1 HB1.out ao cap xs n HN.out (H.out.below HB1.out) HNN.out)
  obtain ⟨c, HCC⟩ : ∃ c, Hid (checkL xs ts = c) := ⟨_, hid rfl⟩
  rw [HCC.out] at HC1
  go_wp2_with fail
  refine HC1.out.mono ?_
  rintro e w2 ⟨rfl, hb2⟩
  have HB2 : Hid (Below w.heap.size w w2) := bt' HB1.out hb2
  clear hb2 HC1
  by_cases hc : c = 0
  · subst hc
    by_cases hn0 : n = 0
    · subst hn0
      go_wp2
      go_ret
      exact ⟨rfl, HB2.out⟩
    · have hn1 : ¬ (n : Int) = 0 := by omega
      have hnb : ((n : Int) == 0) = false := by simpa using hn0
      by_cases hby0 : by_ < 0
      · go_wp2
        go_ret
        exact ⟨rfl, HB2.out⟩
      · by_cases hby1 : 1048576 < by_
        · go_wp2
          go_ret
          exact ⟨rfl, HB2.out⟩
        · obtain ⟨t, k, ht, hkn, hcase⟩ := rem_place at_ (show 0 < n by omega)
          have HKX : Hid (k < xs.length) := by rw [HN.out]; exact hkn
          have HBY : Hid (0 ≤ by_ ∧ by_ ≤ 1048576) := ⟨by omega, by omega⟩
          have hkk : (k : Int) < (n : Int) := by omega
          have hwk : wrap64 (k : Int) = (k : Int) := wrap_natL (Nat.lt_of_lt_of_le hkn HNN.out)
          have HMY : Hid (mayS (xs[k]'HKX.out) = true) := (check_ok.1 HCC.out).may _ (List.getElem_mem HKX.out)
          have HOK : Hid (SnOk (xs[k]'HKX.out)) := H.out.1 _ (List.getElem_mem HKX.out)
          have HLC := hid (looser_check HKX.out HBY.out.1 HBY.out.2 HCC.out)
          have HLO := hid (loose_ok HBY.out.1 HBY.out.2 HMY.out HOK.out)
          have HSK : Hid (xs.set k (xs[k]'HKX.out) = xs) := List.set_getElem_self HKX.out
          have HRK : Hid (∀ V g cp, V.ownsRow w2.heap.size 31 5 (.slice (some ⟨g, 0, none⟩) n cp) n (flatN xs) → Below w2.heap.size w2 V → RowK w2 V g n cp k xs (xs[k]'HKX.out)) := fun V g cp hown hbel => ⟨by rw [HSK.out]; exact hown, (hown.lt g rfl).1, hbel⟩
          obtain ⟨X, HX⟩ : ∃ X, Hid (xs[k]'HKX.out = X) := ⟨_, hid rfl⟩
          rw [HX.out] at HMY HLC HLO HRK
          have HMB := hid (mayS_iff.1 HMY.out)
          have HSET : Hid (∀ y, (xs.set k y).length = n) := fun y => by rw [List.length_set]; exact HN.out
          have HEND : Hid (∀ V g cp, RowK w2 V g n cp k xs (looseS X by_) → Calls Try.prog 9 #[.slice (some ⟨g, 0, none⟩) n cp, .slice bo m cb] V (SaysI V 0)) := fun V g cp hr => by
            have := HCK.out V (bt' HB2.out hr.bel) (some ⟨g, 0, none⟩) cp (xs.set k (looseS X by_)) n (HSET.out _) (hr.held HN.out H.out.1 HLO.out) HNN.out
            rwa [HLC.out] at this
          have HH2 := hid (H.out.below HB2.out)
          have HPOS : Hid (0 < n) := Nat.lt_of_le_of_lt (Nat.zero_le k) hkn
          clear HCK HX HMY HLC HLO HSK
          obtain ⟨co, tok, sb, se, id⟩ := X
          simp only [looseS, looseB, looseE] at HEND
          simp only at HMB
          rcases hcase with ⟨ht0, htk⟩ | ⟨ht0, htk⟩
          · by_cases hsb : by_ < sb
            · have hw1 : wrap64 (sb - by_) = sb - by_ := wrap_subL HMB.out.1.1 HMB.out.1.2.1 HBY.out.1 HBY.out.2
              by_cases hse : 0 < se
              · by_cases hse2 : se < 2305843009213693952
                · have hw2 : wrap64 (se + by_) = se + by_ := wrap_addL hse hse2 HBY.out.1 HBY.out.2
                  have HEN : Hid (∀ V cp g, RowK w2 V g n cp k xs ⟨co, tok, sb - by_, se + by_, id⟩ → Calls Try.prog 9 #[.slice (some ⟨g, 0, none⟩) n cp, .slice bo m cb] V (SaysI V 0)) := fun V cp g hr => HEND.out V g cp (by rw [if_pos hsb, if_pos ⟨hse, hse2⟩]; exact hr)
                  go_wp2_with (at_builtin; refine wpList_copy_sns rfl _ _ rfl w2.heap.size _ rfl (ownN_made w2 _ (Nat.le_refl _)) ao n cap xs HN.out rfl (HH2.out.below (one_new _ _)) HNN.out ((one_new w2 _).size) ?_; intro b3 c3 w3 hown3 hh3 hb3; have HO3 := hid hown3; have HB3 := hid (below_from_alloc hb3); clear hown3 hh3 hb3; obtain ⟨g, hg3⟩ := own_some HPOS.out HO3.out; subst hg3; have HR3 := hid (HRK.out w3 g c3 HO3.out HB3.out); obtain ⟨c2, c3', f2, f3⟩ := HR3.out.cells HKX.out; simp only at c2 c3'; have HR4 := hid (HR3.out.setB HKX.out (sb - by_)); (try simp only at HR4); obtain ⟨d2, d3, e2, e3⟩ := HR4.out.cells HKX.out; simp only at d2 d3; have HR5 := hid (HR4.out.setE HKX.out (se + by_)); (try simp only at HR5); clear HO3)
                  have HC5 := hid (HEN.out _ c3 g HR5.out)
                  have HB5 := hid (bt' HB2.out HR5.out.bel)
                  refine HC5.out.mono ?_
                  rintro e w6 ⟨rfl, hb6⟩
                  have HB6 : Hid (Below w.heap.size w w6) := bt' HB5.out hb6
                  clear hb6
                  go_wp2
                  go_ret
                  exact ⟨rfl, HB6.out⟩
                · have HEN : Hid (∀ V cp g, RowK w2 V g n cp k xs ⟨co, tok, sb - by_, se, id⟩ → Calls Try.prog 9 #[.slice (some ⟨g, 0, none⟩) n cp, .slice bo m cb] V (SaysI V 0)) := fun V cp g hr => HEND.out V g cp (by rw [if_pos hsb, if_neg (fun hh => hse2 hh.2)]; exact hr)
                  have hsd2 : decide (se < 2305843009213693952) = false := decide_eq_false hse2
                  go_wp2_with (at_builtin; refine wpList_copy_sns rfl _ _ rfl w2.heap.size _ rfl (ownN_made w2 _ (Nat.le_refl _)) ao n cap xs HN.out rfl (HH2.out.below (one_new _ _)) HNN.out ((one_new w2 _).size) ?_; intro b3 c3 w3 hown3 hh3 hb3; have HO3 := hid hown3; have HB3 := hid (below_from_alloc hb3); clear hown3 hh3 hb3; obtain ⟨g, hg3⟩ := own_some HPOS.out HO3.out; subst hg3; have HR3 := hid (HRK.out w3 g c3 HO3.out HB3.out); obtain ⟨c2, c3', f2, f3⟩ := HR3.out.cells HKX.out; simp only at c2 c3'; have HR4 := hid (HR3.out.setB HKX.out (sb - by_)); (try simp only at HR4); obtain ⟨d2, d3, e2, e3⟩ := HR4.out.cells HKX.out; simp only at d2 d3; have HR5 := hid (HR4.out); (try simp only at HR5); clear HO3)
                  have HC5 := hid (HEN.out _ c3 g HR5.out)
                  have HB5 := hid (bt' HB2.out HR5.out.bel)
                  refine HC5.out.mono ?_
                  rintro e w6 ⟨rfl, hb6⟩
                  have HB6 : Hid (Below w.heap.size w w6) := bt' HB5.out hb6
                  clear hb6
                  go_wp2
                  go_ret
                  exact ⟨rfl, HB6.out⟩
              · have HEN : Hid (∀ V cp g, RowK w2 V g n cp k xs ⟨co, tok, sb - by_, se, id⟩ → Calls Try.prog 9 #[.slice (some ⟨g, 0, none⟩) n cp, .slice bo m cb] V (SaysI V 0)) := fun V cp g hr => HEND.out V g cp (by rw [if_pos hsb, if_neg (fun hh => hse hh.1)]; exact hr)
                have hsd2 : decide (0 < se) = false := decide_eq_false hse
                go_wp2_with (at_builtin; refine wpList_copy_sns rfl _ _ rfl w2.heap.size _ rfl (ownN_made w2 _ (Nat.le_refl _)) ao n cap xs HN.out rfl (HH2.out.below (one_new _ _)) HNN.out ((one_new w2 _).size) ?_; intro b3 c3 w3 hown3 hh3 hb3; have HO3 := hid hown3; have HB3 := hid (below_from_alloc hb3); clear hown3 hh3 hb3; obtain ⟨g, hg3⟩ := own_some HPOS.out HO3.out; subst hg3; have HR3 := hid (HRK.out w3 g c3 HO3.out HB3.out); obtain ⟨c2, c3', f2, f3⟩ := HR3.out.cells HKX.out; simp only at c2 c3'; have HR4 := hid (HR3.out.setB HKX.out (sb - by_)); (try simp only at HR4); obtain ⟨d2, d3, e2, e3⟩ := HR4.out.cells HKX.out; simp only at d2 d3; have HR5 := hid (HR4.out); (try simp only at HR5); clear HO3)
                have HC5 := hid (HEN.out _ c3 g HR5.out)
                have HB5 := hid (bt' HB2.out HR5.out.bel)
                refine HC5.out.mono ?_
                rintro e w6 ⟨rfl, hb6⟩
                have HB6 : Hid (Below w.heap.size w w6) := bt' HB5.out hb6
                clear hb6
                go_wp2
                go_ret
                exact ⟨rfl, HB6.out⟩
            · have hsd : decide (by_ < sb) = false := decide_eq_false hsb
              by_cases hse : 0 < se
              · by_cases hse2 : se < 2305843009213693952
                · have hw2 : wrap64 (se + by_) = se + by_ := wrap_addL hse hse2 HBY.out.1 HBY.out.2
                  have HEN : Hid (∀ V cp g, RowK w2 V g n cp k xs ⟨co, tok, sb, se + by_, id⟩ → Calls Try.prog 9 #[.slice (some ⟨g, 0, none⟩) n cp, .slice bo m cb] V (SaysI V 0)) := fun V cp g hr => HEND.out V g cp (by rw [if_neg hsb, if_pos ⟨hse, hse2⟩]; exact hr)
                  go_wp2_with (at_builtin; refine wpList_copy_sns rfl _ _ rfl w2.heap.size _ rfl (ownN_made w2 _ (Nat.le_refl _)) ao n cap xs HN.out rfl (HH2.out.below (one_new _ _)) HNN.out ((one_new w2 _).size) ?_; intro b3 c3 w3 hown3 hh3 hb3; have HO3 := hid hown3; have HB3 := hid (below_from_alloc hb3); clear hown3 hh3 hb3; obtain ⟨g, hg3⟩ := own_some HPOS.out HO3.out; subst hg3; have HR3 := hid (HRK.out w3 g c3 HO3.out HB3.out); obtain ⟨c2, c3', f2, f3⟩ := HR3.out.cells HKX.out; simp only at c2 c3'; have HR4 := hid (HR3.out); (try simp only at HR4); have HR5 := hid (HR4.out.setE HKX.out (se + by_)); (try simp only at HR5); clear HO3)
                  have HC5 := hid (HEN.out _ c3 g HR5.out)
                  have HB5 := hid (bt' HB2.out HR5.out.bel)
                  refine HC5.out.mono ?_
                  rintro e w6 ⟨rfl, hb6⟩
                  have HB6 : Hid (Below w.heap.size w w6) := bt' HB5.out hb6
                  clear hb6
                  go_wp2
                  go_ret
                  exact ⟨rfl, HB6.out⟩
                · have HEN : Hid (∀ V cp g, RowK w2 V g n cp k xs ⟨co, tok, sb, se, id⟩ → Calls Try.prog 9 #[.slice (some ⟨g, 0, none⟩) n cp, .slice bo m cb] V (SaysI V 0)) := fun V cp g hr => HEND.out V g cp (by rw [if_neg hsb, if_neg (fun hh => hse2 hh.2)]; exact hr)
                  have hsd2 : decide (se < 2305843009213693952) = false := decide_eq_false hse2
                  go_wp2_with (at_builtin; refine wpList_copy_sns rfl _ _ rfl w2.heap.size _ rfl (ownN_made w2 _ (Nat.le_refl _)) ao n cap xs HN.out rfl (HH2.out.below (one_new _ _)) HNN.out ((one_new w2 _).size) ?_; intro b3 c3 w3 hown3 hh3 hb3; have HO3 := hid hown3; have HB3 := hid (below_from_alloc hb3); clear hown3 hh3 hb3; obtain ⟨g, hg3⟩ := own_some HPOS.out HO3.out; subst hg3; have HR3 := hid (HRK.out w3 g c3 HO3.out HB3.out); obtain ⟨c2, c3', f2, f3⟩ := HR3.out.cells HKX.out; simp only at c2 c3'; have HR4 := hid (HR3.out); (try simp only at HR4); have HR5 := hid (HR4.out); (try simp only at HR5); clear HO3)
                  have HC5 := hid (HEN.out _ c3 g HR5.out)
                  have HB5 := hid (bt' HB2.out HR5.out.bel)
                  refine HC5.out.mono ?_
                  rintro e w6 ⟨rfl, hb6⟩
                  have HB6 : Hid (Below w.heap.size w w6) := bt' HB5.out hb6
                  clear hb6
                  go_wp2
                  go_ret
                  exact ⟨rfl, HB6.out⟩
              · have HEN : Hid (∀ V cp g, RowK w2 V g n cp k xs ⟨co, tok, sb, se, id⟩ → Calls Try.prog 9 #[.slice (some ⟨g, 0, none⟩) n cp, .slice bo m cb] V (SaysI V 0)) := fun V cp g hr => HEND.out V g cp (by rw [if_neg hsb, if_neg (fun hh => hse hh.1)]; exact hr)
                have hsd2 : decide (0 < se) = false := decide_eq_false hse
                go_wp2_with (at_builtin; refine wpList_copy_sns rfl _ _ rfl w2.heap.size _ rfl (ownN_made w2 _ (Nat.le_refl _)) ao n cap xs HN.out rfl (HH2.out.below (one_new _ _)) HNN.out ((one_new w2 _).size) ?_; intro b3 c3 w3 hown3 hh3 hb3; have HO3 := hid hown3; have HB3 := hid (below_from_alloc hb3); clear hown3 hh3 hb3; obtain ⟨g, hg3⟩ := own_some HPOS.out HO3.out; subst hg3; have HR3 := hid (HRK.out w3 g c3 HO3.out HB3.out); obtain ⟨c2, c3', f2, f3⟩ := HR3.out.cells HKX.out; simp only at c2 c3'; have HR4 := hid (HR3.out); (try simp only at HR4); have HR5 := hid (HR4.out); (try simp only at HR5); clear HO3)
                have HC5 := hid (HEN.out _ c3 g HR5.out)
                have HB5 := hid (bt' HB2.out HR5.out.bel)
                refine HC5.out.mono ?_
                rintro e w6 ⟨rfl, hb6⟩
                have HB6 : Hid (Below w.heap.size w w6) := bt' HB5.out hb6
                clear hb6
                go_wp2
                go_ret
                exact ⟨rfl, HB6.out⟩
          · subst htk
            by_cases hsb : by_ < sb
            · have hw1 : wrap64 (sb - by_) = sb - by_ := wrap_subL HMB.out.1.1 HMB.out.1.2.1 HBY.out.1 HBY.out.2
              by_cases hse : 0 < se
              · by_cases hse2 : se < 2305843009213693952
                · have hw2 : wrap64 (se + by_) = se + by_ := wrap_addL hse hse2 HBY.out.1 HBY.out.2
                  have HEN : Hid (∀ V cp g, RowK w2 V g n cp k xs ⟨co, tok, sb - by_, se + by_, id⟩ → Calls Try.prog 9 #[.slice (some ⟨g, 0, none⟩) n cp, .slice bo m cb] V (SaysI V 0)) := fun V cp g hr => HEND.out V g cp (by rw [if_pos hsb, if_pos ⟨hse, hse2⟩]; exact hr)
                  go_wp2_with (at_builtin; refine wpList_copy_sns rfl _ _ rfl w2.heap.size _ rfl (ownN_made w2 _ (Nat.le_refl _)) ao n cap xs HN.out rfl (HH2.out.below (one_new _ _)) HNN.out ((one_new w2 _).size) ?_; intro b3 c3 w3 hown3 hh3 hb3; have HO3 := hid hown3; have HB3 := hid (below_from_alloc hb3); clear hown3 hh3 hb3; obtain ⟨g, hg3⟩ := own_some HPOS.out HO3.out; subst hg3; have HR3 := hid (HRK.out w3 g c3 HO3.out HB3.out); obtain ⟨c2, c3', f2, f3⟩ := HR3.out.cells HKX.out; simp only at c2 c3'; have HR4 := hid (HR3.out.setB HKX.out (sb - by_)); (try simp only at HR4); obtain ⟨d2, d3, e2, e3⟩ := HR4.out.cells HKX.out; simp only at d2 d3; have HR5 := hid (HR4.out.setE HKX.out (se + by_)); (try simp only at HR5); clear HO3)
                  have HC5 := hid (HEN.out _ c3 g HR5.out)
                  have HB5 := hid (bt' HB2.out HR5.out.bel)
                  refine HC5.out.mono ?_
                  rintro e w6 ⟨rfl, hb6⟩
                  have HB6 : Hid (Below w.heap.size w w6) := bt' HB5.out hb6
                  clear hb6
                  go_wp2
                  go_ret
                  exact ⟨rfl, HB6.out⟩
                · have HEN : Hid (∀ V cp g, RowK w2 V g n cp k xs ⟨co, tok, sb - by_, se, id⟩ → Calls Try.prog 9 #[.slice (some ⟨g, 0, none⟩) n cp, .slice bo m cb] V (SaysI V 0)) := fun V cp g hr => HEND.out V g cp (by rw [if_pos hsb, if_neg (fun hh => hse2 hh.2)]; exact hr)
                  have hsd2 : decide (se < 2305843009213693952) = false := decide_eq_false hse2
                  go_wp2_with (at_builtin; refine wpList_copy_sns rfl _ _ rfl w2.heap.size _ rfl (ownN_made w2 _ (Nat.le_refl _)) ao n cap xs HN.out rfl (HH2.out.below (one_new _ _)) HNN.out ((one_new w2 _).size) ?_; intro b3 c3 w3 hown3 hh3 hb3; have HO3 := hid hown3; have HB3 := hid (below_from_alloc hb3); clear hown3 hh3 hb3; obtain ⟨g, hg3⟩ := own_some HPOS.out HO3.out; subst hg3; have HR3 := hid (HRK.out w3 g c3 HO3.out HB3.out); obtain ⟨c2, c3', f2, f3⟩ := HR3.out.cells HKX.out; simp only at c2 c3'; have HR4 := hid (HR3.out.setB HKX.out (sb - by_)); (try simp only at HR4); obtain ⟨d2, d3, e2, e3⟩ := HR4.out.cells HKX.out; simp only at d2 d3; have HR5 := hid (HR4.out); (try simp only at HR5); clear HO3)
                  have HC5 := hid (HEN.out _ c3 g HR5.out)
                  have HB5 := hid (bt' HB2.out HR5.out.bel)
                  refine HC5.out.mono ?_
                  rintro e w6 ⟨rfl, hb6⟩
                  have HB6 : Hid (Below w.heap.size w w6) := bt' HB5.out hb6
                  clear hb6
                  go_wp2
                  go_ret
                  exact ⟨rfl, HB6.out⟩
              · have HEN : Hid (∀ V cp g, RowK w2 V g n cp k xs ⟨co, tok, sb - by_, se, id⟩ → Calls Try.prog 9 #[.slice (some ⟨g, 0, none⟩) n cp, .slice bo m cb] V (SaysI V 0)) := fun V cp g hr => HEND.out V g cp (by rw [if_pos hsb, if_neg (fun hh => hse hh.1)]; exact hr)
                have hsd2 : decide (0 < se) = false := decide_eq_false hse
                go_wp2_with (at_builtin; refine wpList_copy_sns rfl _ _ rfl w2.heap.size _ rfl (ownN_made w2 _ (Nat.le_refl _)) ao n cap xs HN.out rfl (HH2.out.below (one_new _ _)) HNN.out ((one_new w2 _).size) ?_; intro b3 c3 w3 hown3 hh3 hb3; have HO3 := hid hown3; have HB3 := hid (below_from_alloc hb3); clear hown3 hh3 hb3; obtain ⟨g, hg3⟩ := own_some HPOS.out HO3.out; subst hg3; have HR3 := hid (HRK.out w3 g c3 HO3.out HB3.out); obtain ⟨c2, c3', f2, f3⟩ := HR3.out.cells HKX.out; simp only at c2 c3'; have HR4 := hid (HR3.out.setB HKX.out (sb - by_)); (try simp only at HR4); obtain ⟨d2, d3, e2, e3⟩ := HR4.out.cells HKX.out; simp only at d2 d3; have HR5 := hid (HR4.out); (try simp only at HR5); clear HO3)
                have HC5 := hid (HEN.out _ c3 g HR5.out)
                have HB5 := hid (bt' HB2.out HR5.out.bel)
                refine HC5.out.mono ?_
                rintro e w6 ⟨rfl, hb6⟩
                have HB6 : Hid (Below w.heap.size w w6) := bt' HB5.out hb6
                clear hb6
                go_wp2
                go_ret
                exact ⟨rfl, HB6.out⟩
            · have hsd : decide (by_ < sb) = false := decide_eq_false hsb
              by_cases hse : 0 < se
              · by_cases hse2 : se < 2305843009213693952
                · have hw2 : wrap64 (se + by_) = se + by_ := wrap_addL hse hse2 HBY.out.1 HBY.out.2
                  have HEN : Hid (∀ V cp g, RowK w2 V g n cp k xs ⟨co, tok, sb, se + by_, id⟩ → Calls Try.prog 9 #[.slice (some ⟨g, 0, none⟩) n cp, .slice bo m cb] V (SaysI V 0)) := fun V cp g hr => HEND.out V g cp (by rw [if_neg hsb, if_pos ⟨hse, hse2⟩]; exact hr)
                  go_wp2_with (at_builtin; refine wpList_copy_sns rfl _ _ rfl w2.heap.size _ rfl (ownN_made w2 _ (Nat.le_refl _)) ao n cap xs HN.out rfl (HH2.out.below (one_new _ _)) HNN.out ((one_new w2 _).size) ?_; intro b3 c3 w3 hown3 hh3 hb3; have HO3 := hid hown3; have HB3 := hid (below_from_alloc hb3); clear hown3 hh3 hb3; obtain ⟨g, hg3⟩ := own_some HPOS.out HO3.out; subst hg3; have HR3 := hid (HRK.out w3 g c3 HO3.out HB3.out); obtain ⟨c2, c3', f2, f3⟩ := HR3.out.cells HKX.out; simp only at c2 c3'; have HR4 := hid (HR3.out); (try simp only at HR4); have HR5 := hid (HR4.out.setE HKX.out (se + by_)); (try simp only at HR5); clear HO3)
                  have HC5 := hid (HEN.out _ c3 g HR5.out)
                  have HB5 := hid (bt' HB2.out HR5.out.bel)
                  refine HC5.out.mono ?_
                  rintro e w6 ⟨rfl, hb6⟩
                  have HB6 : Hid (Below w.heap.size w w6) := bt' HB5.out hb6
                  clear hb6
                  go_wp2
                  go_ret
                  exact ⟨rfl, HB6.out⟩
                · have HEN : Hid (∀ V cp g, RowK w2 V g n cp k xs ⟨co, tok, sb, se, id⟩ → Calls Try.prog 9 #[.slice (some ⟨g, 0, none⟩) n cp, .slice bo m cb] V (SaysI V 0)) := fun V cp g hr => HEND.out V g cp (by rw [if_neg hsb, if_neg (fun hh => hse2 hh.2)]; exact hr)
                  have hsd2 : decide (se < 2305843009213693952) = false := decide_eq_false hse2
                  go_wp2_with (at_builtin; refine wpList_copy_sns rfl _ _ rfl w2.heap.size _ rfl (ownN_made w2 _ (Nat.le_refl _)) ao n cap xs HN.out rfl (HH2.out.below (one_new _ _)) HNN.out ((one_new w2 _).size) ?_; intro b3 c3 w3 hown3 hh3 hb3; have HO3 := hid hown3; have HB3 := hid (below_from_alloc hb3); clear hown3 hh3 hb3; obtain ⟨g, hg3⟩ := own_some HPOS.out HO3.out; subst hg3; have HR3 := hid (HRK.out w3 g c3 HO3.out HB3.out); obtain ⟨c2, c3', f2, f3⟩ := HR3.out.cells HKX.out; simp only at c2 c3'; have HR4 := hid (HR3.out); (try simp only at HR4); have HR5 := hid (HR4.out); (try simp only at HR5); clear HO3)
                  have HC5 := hid (HEN.out _ c3 g HR5.out)
                  have HB5 := hid (bt' HB2.out HR5.out.bel)
                  refine HC5.out.mono ?_
                  rintro e w6 ⟨rfl, hb6⟩
                  have HB6 : Hid (Below w.heap.size w w6) := bt' HB5.out hb6
                  clear hb6
                  go_wp2
                  go_ret
                  exact ⟨rfl, HB6.out⟩
              · have HEN : Hid (∀ V cp g, RowK w2 V g n cp k xs ⟨co, tok, sb, se, id⟩ → Calls Try.prog 9 #[.slice (some ⟨g, 0, none⟩) n cp, .slice bo m cb] V (SaysI V 0)) := fun V cp g hr => HEND.out V g cp (by rw [if_neg hsb, if_neg (fun hh => hse hh.1)]; exact hr)
                have hsd2 : decide (0 < se) = false := decide_eq_false hse
                go_wp2_with (at_builtin; refine wpList_copy_sns rfl _ _ rfl w2.heap.size _ rfl (ownN_made w2 _ (Nat.le_refl _)) ao n cap xs HN.out rfl (HH2.out.below (one_new _ _)) HNN.out ((one_new w2 _).size) ?_; intro b3 c3 w3 hown3 hh3 hb3; have HO3 := hid hown3; have HB3 := hid (below_from_alloc hb3); clear hown3 hh3 hb3; obtain ⟨g, hg3⟩ := own_some HPOS.out HO3.out; subst hg3; have HR3 := hid (HRK.out w3 g c3 HO3.out HB3.out); obtain ⟨c2, c3', f2, f3⟩ := HR3.out.cells HKX.out; simp only at c2 c3'; have HR4 := hid (HR3.out); (try simp only at HR4); have HR5 := hid (HR4.out); (try simp only at HR5); clear HO3)
                have HC5 := hid (HEN.out _ c3 g HR5.out)
                have HB5 := hid (bt' HB2.out HR5.out.bel)
                refine HC5.out.mono ?_
                rintro e w6 ⟨rfl, hb6⟩
                have HB6 : Hid (Below w.heap.size w w6) := bt' HB5.out hb6
                clear hb6
                go_wp2
                go_ret
                exact ⟨rfl, HB6.out⟩
  · have hcn : (c != 0) = true := by simpa using hc
    go_wp2
    go_ret
    exact ⟨rfl, HB2.out⟩
end Go.Proofs.Ytfjmhfbmphdjiaa
