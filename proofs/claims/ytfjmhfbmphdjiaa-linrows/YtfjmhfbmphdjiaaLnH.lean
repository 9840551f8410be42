/-
  Package lin: Bounds.
-/
import Derived.Test.YtfjmhfbmphdjiaaLnG
namespace Go.Proofs.Ytfjmhfbmphdjiaa
open Go.RowKit Go.Maps

def MT : Int := 4611686018427387904
def begsL (xs : List Sn) (t : ByteArray) : List Int := (xs.filter fun s => decide (s.tok = t) && s.co).map (·.b)
def nonsL (xs : List Sn) (t : ByteArray) : List Int := (xs.filter fun s => decide (s.tok = t) && (!s.co && (decide (s.e ≠ 0) && decide (s.id = 0)))).map (·.b)
def endsL (xs : List Sn) (t : ByteArray) (i : Int) : List Int := (xs.filter fun s => decide (s.tok = t) && (decide (s.e ≠ 0) && decide (s.id = i))).map (·.e)
def firstL (xs : List Sn) (t : ByteArray) : Int := if begsL xs t = [] then MT else maxI (nonsL xs t ++ [minI (begsL xs t)])
def lastL (xs : List Sn) (t : ByteArray) (i : Int) : Int := if endsL xs t i = [] then MT else minI (endsL xs t i)
theorem begs_moms (xs : List Sn) (t : ByteArray) (p : Nat) : momsOf false [.of p t, .co] xs = begsL xs t := by
  unfold momsOf begsL
  congr 1
  apply List.filter_congr
  intro s _
  simp [Qf.sem]
theorem nons_moms (xs : List Sn) (t : ByteArray) (p q : Nat) : momsOf false [.of p t, .st, .en, .told q 0] xs = nonsL xs t := by
  unfold momsOf nonsL
  congr 1
  apply List.filter_congr
  intro s _
  simp [Qf.sem]
theorem ends_moms (xs : List Sn) (t : ByteArray) (i : Int) (p q : Nat) : momsOf true [.of p t, .en, .told q i] xs = endsL xs t i := by
  unfold momsOf endsL
  congr 1
  apply List.filter_congr
  intro s _
  simp [Qf.sem]
/-- What Bounds answers. -/
def BndP (w : World) (a b : Int) (e : Ending) (w' : World) : Prop := e = .returned (.tuple #[.int .i64 a, .int .i64 b]) ∧ Below w.heap.size w w'
theorem madeI_slice {w w' : World} {ys : List Int} {v : Value} (h : w'.ownsRow w.heap.size 3 1 v ys.length (ints ys)) (hx : ∀ x ∈ ys, -9223372036854775808 ≤ x ∧ x ≤ 9223372036854775807) (hl : ys.length ≤ 17592186044416) : ∃ ao cap, v = .slice ao ys.length cap ∧ HeldInt w' ao ys := by
  obtain ⟨ao, cap, h1, h2⟩ := hv_of_own h hx hl
  exact ⟨ao, cap, h1, h2.held⟩
theorem madeI_slice2 {w' : World} {B : Nat} {ys : List Int} {v : Value} (h : w'.ownsRow B 3 1 v ys.length (ints ys)) (hx : ∀ x ∈ ys, -9223372036854775808 ≤ x ∧ x ≤ 9223372036854775807) (hl : ys.length ≤ 17592186044416) : ∃ ao cap, v = .slice ao ys.length cap ∧ HeldInt w' ao ys := by
  obtain ⟨ao, cap, h1, h2⟩ := hv_of_own h hx hl
  exact ⟨ao, cap, h1, h2.held⟩
theorem foldl_min_rng {a b : Int} : ∀ (r : List Int) (x : Int), (a ≤ x ∧ x ≤ b) → (∀ y ∈ r, a ≤ y ∧ y ≤ b) → a ≤ r.foldl min x ∧ r.foldl min x ≤ b
  | [], _, h, _ => h
  | y :: r, x, h, hr => foldl_min_rng r (min x y) (by have := hr y List.mem_cons_self; omega) (fun z hz => hr z (List.mem_cons_of_mem _ hz))
theorem minI_rng {a b : Int} {xs : List Int} (h : xs ≠ []) (hx : ∀ y ∈ xs, a ≤ y ∧ y ≤ b) : a ≤ minI xs ∧ minI xs ≤ b := by
  cases xs with
  | nil => exact absurd rfl h
  | cons x r => exact foldl_min_rng r x (hx x List.mem_cons_self) (fun z hz => hx z (List.mem_cons_of_mem _ hz))
set_option maxRecDepth 1000000 in
set_option maxHeartbeats 2000000 in
theorem bounds_any (w : World) (lo : Option Addr) (lc : Nat) (xs : List Sn) (n : Nat) (hn : xs.length = n) (hx : HeldSn w lo xs) (hlx : n ≤ 2932031007402) (t : ByteArray) (i : Int) :
    Calls Try.prog 11 #[.slice lo n lc, .string t, .int .i64 i] w (BndP w (firstL xs t) (lastL xs t i)) := by
  have HN := hid hn
  have H := hid hx
  have HLX := hid hlx
  have HAL := hid hx.1
  clear hn hx hlx
  obtain ⟨FI, HFI⟩ : ∃ m, Hid (firstL xs t = m) := ⟨_, hid rfl⟩
  obtain ⟨LA, HLA⟩ : ∃ m, Hid (lastL xs t i = m) := ⟨_, hid rfl⟩
  rw [HFI.out, HLA.out]
  have HOF : Hid (∀ V, Calls Try.prog 22 #[.string t] V fun e w' => ∃ p, e = .returned (Qf.of p t).val ∧ (Qf.of p t).In w' ∧ Below V.heap.size V w') := fun V => of_any V t
  have HT0 : Hid (∀ V, Calls Try.prog 27 #[.int .i64 0] V fun e w' => ∃ p, e = .returned (Qf.told p 0).val ∧ (Qf.told p 0).In w' ∧ Below V.heap.size V w') := fun V => told_any V 0
  have HTI : Hid (∀ V, Calls Try.prog 27 #[.int .i64 i] V fun e w' => ∃ p, e = .returned (Qf.told p i).val ∧ (Qf.told p i).In w' ∧ Below V.heap.size V w') := fun V => told_any V i
  have HM1 : Hid (∀ V p g, Below w.heap.size w V → HeldQ V g [.of p t, .co] → Calls Try.prog 20 #[.slice lo n lc, .func (.func 21) #[] #[], .slice (some ⟨g, 0, none⟩) 2 2] V (MadeI V (begsL xs t))) := fun V p g hV hq => by
    have := moments_false V lo lc xs n HN.out (H.out.below hV) HLX.out g 2 _ hq 2 rfl (by omega)
    rwa [begs_moms] at this
  have HM2 : Hid (∀ V p q g, Below w.heap.size w V → HeldQ V g [.of p t, .st, .en, .told q 0] → Calls Try.prog 20 #[.slice lo n lc, .func (.func 21) #[] #[], .slice (some ⟨g, 0, none⟩) 4 4] V (MadeI V (nonsL xs t))) := fun V p q g hV hq => by
    have := moments_false V lo lc xs n HN.out (H.out.below hV) HLX.out g 4 _ hq 4 rfl (by omega)
    rwa [nons_moms] at this
  have HM3 : Hid (∀ V p q g, Below w.heap.size w V → HeldQ V g [.of p t, .en, .told q i] → Calls Try.prog 20 #[.slice lo n lc, .func (.func 29) #[] #[], .slice (some ⟨g, 0, none⟩) 3 3] V (MadeI V (endsL xs t i))) := fun V p q g hV hq => by
    have := moments_true V lo lc xs n HN.out (H.out.below hV) HLX.out g 3 _ hq 3 rfl (by omega)
    rwa [ends_moms] at this
  have HSB : Hid ((∀ x ∈ begsL xs t, -9223372036854775808 ≤ x ∧ x ≤ 9223372036854775807) ∧ (begsL xs t).length ≤ 2932031007402) := by
    rw [← begs_moms xs t 0]
    refine ⟨moms_ok HAL.out, Nat.le_trans (moms_len _ _ _) (by rw [HN.out]; exact HLX.out)⟩
  have HSN : Hid ((∀ x ∈ nonsL xs t, -9223372036854775808 ≤ x ∧ x ≤ 9223372036854775807) ∧ (nonsL xs t).length ≤ 2932031007402) := by
    rw [← nons_moms xs t 0 0]
    refine ⟨moms_ok HAL.out, Nat.le_trans (moms_len _ _ _) (by rw [HN.out]; exact HLX.out)⟩
  have HSE : Hid ((∀ x ∈ endsL xs t i, -9223372036854775808 ≤ x ∧ x ≤ 9223372036854775807) ∧ (endsL xs t i).length ≤ 2932031007402) := by
    rw [← ends_moms xs t i 0 0]
    refine ⟨moms_ok HAL.out, Nat.le_trans (moms_len _ _ _) (by rw [HN.out]; exact HLX.out)⟩
  have HF : Hid (FI = if begsL xs t = [] then MT else maxI (nonsL xs t ++ [minI (begsL xs t)])) := HFI.out.symm
  have HL : Hid (LA = if endsL xs t i = [] then MT else minI (endsL xs t i)) := HLA.out.symm
  clear HFI HLA
  obtain ⟨BS, HBS⟩ : ∃ l, Hid (begsL xs t = l) := ⟨_, hid rfl⟩
  obtain ⟨NS, HNS⟩ : ∃ l, Hid (nonsL xs t = l) := ⟨_, hid rfl⟩
  obtain ⟨ES, HES⟩ : ∃ l, Hid (endsL xs t i = l) := ⟨_, hid rfl⟩
  rw [HBS.out] at HM1 HSB HF
  rw [HNS.out] at HM2 HSN HF
  rw [HES.out] at HM3 HSE HL
  clear HBS HNS HES
  go_enter Try.func11, Try.ntmps11
  go_wp2_with fail
  refine (HOF.out _).mono ?_
  rintro e w1 ⟨p1, rfl, hin1, hb1⟩
  obtain ⟨W1, hW1⟩ : ∃ W, W = w1.alloc (.cells #[(Qf.of p1 t).val, Qf.co.val] 38) := ⟨_, rfl⟩
  have HB1 : Hid (Below w.heap.size w W1) := by rw [hW1]; exact bt' hb1 (one_new _ _)
  have HQ1 : Hid (HeldQ W1 w1.heap.size [.of p1 t, .co]) := by
    rw [hW1]
    refine ⟨Blk.new w1 _ _, fun q hq => ?_⟩
    rcases List.mem_cons.1 hq with h | h
    · rw [h]; exact hin1.below (one_new _ _)
    · rw [List.mem_singleton.1 h]; trivial
  have HC1 := hid (HM1.out W1 p1 _ HB1.out HQ1.out)
  have HW1 := hid hW1
  clear hin1 hb1 hW1 HQ1
  simp only [Qf.val] at HW1 ⊢
  go_wp2_with fail
  rw [← HW1.out]
  refine HC1.out.mono ?_
  rintro e w2 ⟨v2, rfl, hown2, hb2⟩
  obtain ⟨ao2, cap2, hv2, hh2⟩ := madeI_slice hown2 HSB.out.1 (Nat.le_trans HSB.out.2 (by omega))
  subst hv2
  have HH2 := hid hh2
  have HB2 : Hid (Below w.heap.size w w2) := bt' HB1.out hb2
  clear hown2 hb2 hh2 HC1
  by_cases hb0 : BS = []
  · have HFE : Hid (FI = MT) := by rw [HF.out, if_pos hb0]; exact rfl
    subst hb0
    go_wp2_with fail
    refine (HOF.out _).mono ?_
    rintro e y1 ⟨p5, rfl, hin5, hb5⟩
    have HBY1 : Hid (Below w.heap.size w y1) := bt' HB2.out hb5
    have HIN5 := hid hin5
    clear hin5 hb5
    simp only [Qf.val]
    go_wp2_with fail
    refine (HTI.out _).mono ?_
    rintro e y2 ⟨p6, rfl, hin6, hb6⟩
    have HIN5b := hid (HIN5.out.below hb6)
    have HBY2 : Hid (Below w.heap.size w y2) := bt' HBY1.out hb6
    obtain ⟨Y, hY⟩ : ∃ W, W = y2.alloc (.cells #[(Qf.of p5 t).val, Qf.en.val, (Qf.told p6 i).val] 38) := ⟨_, rfl⟩
    have HBY : Hid (Below w.heap.size w Y) := by rw [hY]; exact bt' HBY2.out (one_new _ _)
    have HQ5 : Hid (HeldQ Y y2.heap.size [.of p5 t, .en, .told p6 i]) := by
      rw [hY]
      refine ⟨Blk.new y2 _ _, fun q hq => ?_⟩
      simp only [List.mem_cons, List.not_mem_nil, or_false] at hq
      rcases hq with h | h | h
      · rw [h]; exact HIN5b.out.below (one_new _ _)
      · rw [h]; trivial
      · rw [h]; exact hin6.below (one_new _ _)
    have HC5 := hid (HM3.out Y p5 p6 _ HBY.out HQ5.out)
    have HY := hid hY
    clear hin6 hb6 hY HQ5 HIN5 HIN5b
    simp only [Qf.val] at HY ⊢
    go_wp2_with fail
    rw [← HY.out]
    refine HC5.out.mono ?_
    rintro e y3 ⟨v5, rfl, hown5, hb5⟩
    obtain ⟨ao5, cap5, hv5, hh5⟩ := madeI_slice hown5 HSE.out.1 (Nat.le_trans HSE.out.2 (by omega))
    subst hv5
    have HBY3 : Hid (Below w.heap.size w y3) := bt' HBY.out hb5
    have HH5 := hid hh5
    clear hown5 hb5 hh5 HC5
    by_cases he : ES = []
    · have HLE : Hid (LA = MT) := by rw [HL.out, if_pos he]; exact rfl
      subst he
      go_wp2
      go_ret2
      exact ⟨by rw [HLE.out, HFE.out]; rfl, HBY3.out⟩
    · have HLE : Hid (LA = minI ES) := by rw [HL.out, if_neg he]; exact rfl
      have HMN := hid (min_any y3 ao5 cap5 ES ES.length rfl HH5.out (List.length_pos_iff.2 he) (Nat.le_trans HSE.out.2 (by omega)))
      have hpos : 0 < ES.length := List.length_pos_iff.2 he
      obtain ⟨ne, HNE⟩ : ∃ k, Hid (ES.length = k) := ⟨_, hid rfl⟩
      rw [HNE.out] at hpos HMN ⊢
      have hpos' : (0 : Int) < (ne : Int) := by omega
      obtain ⟨mn, HMI⟩ : ∃ k, Hid (minI ES = k) := ⟨_, hid rfl⟩
      rw [HMI.out] at HMN HLE
      clear he
      go_wp2_with fail
      refine HMN.out.mono ?_
      rintro e y4 ⟨rfl, hy4⟩
      rw [hy4]
      go_wp2
      go_ret2
      exact ⟨by rw [HLE.out, HFE.out]; rfl, HBY3.out⟩
  · have HFE : Hid (FI = maxI (NS ++ [minI BS])) := by rw [HF.out, if_neg hb0]; exact rfl
    have hpos0 : 0 < BS.length := List.length_pos_iff.2 hb0
    obtain ⟨nb, HNB⟩ : ∃ k, Hid (BS.length = k) := ⟨_, hid rfl⟩
    rw [HNB.out] at hpos0 ⊢
    have hpos1 : (0 : Int) < (nb : Int) := by omega
    have HMB : Hid (∀ V, Below w2.heap.size w2 V → Calls Try.prog 28 #[.slice ao2 nb cap2] V fun e w' => e = .returned (.int .i64 (minI BS)) ∧ w' = V) := fun V hV => min_any V ao2 cap2 BS nb HNB.out (HH2.out.below hV) hpos0 (by have := HSB.out.2; rw [HNB.out] at this; omega)
    obtain ⟨mb, HMI0⟩ : ∃ k, Hid (minI BS = k) := ⟨_, hid rfl⟩
    rw [HMI0.out] at HMB HFE
    have HIM : Hid (-9223372036854775808 ≤ mb ∧ mb ≤ 9223372036854775807) := by
      rw [← HMI0.out]
      exact minI_rng hb0 HSB.out.1
    clear hb0
    go_wp2_with fail
    refine (HOF.out _).mono ?_
    rintro e x1 ⟨p2, rfl, hin2, hbx1⟩
    have HIN2 := hid hin2
    have HBX1 := hid hbx1
    clear hin2 hbx1
    simp only [Qf.val]
    go_wp2_with fail
    refine (HT0.out _).mono ?_
    rintro e x2 ⟨p3, rfl, hin3, hbx2⟩
    have HIN2b := hid (HIN2.out.below hbx2)
    have HBX2 : Hid (Below w2.heap.size w2 x2) := bt' HBX1.out hbx2
    obtain ⟨X, hX⟩ : ∃ W, W = x2.alloc (.cells #[(Qf.of p2 t).val, Qf.st.val, Qf.en.val, (Qf.told p3 0).val] 38) := ⟨_, rfl⟩
    have HBX : Hid (Below w2.heap.size w2 X) := by rw [hX]; exact bt' HBX2.out (one_new _ _)
    have HQ2 : Hid (HeldQ X x2.heap.size [.of p2 t, .st, .en, .told p3 0]) := by
      rw [hX]
      refine ⟨Blk.new x2 _ _, fun q hq => ?_⟩
      simp only [List.mem_cons, List.not_mem_nil, or_false] at hq
      rcases hq with h | h | h | h
      · rw [h]; exact HIN2b.out.below (one_new _ _)
      · rw [h]; trivial
      · rw [h]; trivial
      · rw [h]; exact hin3.below (one_new _ _)
    have HC2 := hid (HM2.out X p2 p3 _ (bt' HB2.out HBX.out) HQ2.out)
    have HX := hid hX
    clear hin3 hbx2 hX HQ2 HIN2 HIN2b
    simp only [Qf.val] at HX ⊢
    go_wp2_with fail
    rw [← HX.out]
    refine HC2.out.mono ?_
    rintro e x3 ⟨v3, rfl, hown3, hbx3⟩
    have HBX3 : Hid (Below w2.heap.size w2 x3) := bt' HBX.out hbx3
    have HOW3 := hid hown3
    have HS3 : Hid (X.heap.size ≤ x3.heap.size) := hbx3.size
    have HXB : Hid (w.heap.size ≤ X.heap.size) := (bt' HB2.out HBX.out).size
    clear hown3 hbx3 HC2
    go_wp2_with fail
    refine (HMB.out _ HBX3.out).mono ?_
    rintro e x4 ⟨rfl, hx4⟩
    rw [hx4]
    clear hx4
    go_wp2_with (at_builtin; refine wpList_append_one x3 _ mb rfl rfl _ _ rfl X.heap.size v3 NS rfl rfl HOW3.out HS3.out (Nat.lt_of_le_of_lt HSN.out.2 (by omega)) ?_; intro v4 x5 hown5 hb5; have HOW5 := hid hown5; have HBB5 := hid hb5; clear hown5 hb5)
    obtain ⟨ao6, cap6, hv6, hh6⟩ := madeI_slice2 HOW5.out (fun x hx => by
      rcases List.mem_append.1 hx with h | h
      · exact HSN.out.1 x h
      · rw [List.mem_singleton.1 h]; exact HIM.out) (by rw [List.length_append]; have := HSN.out.2; show _ + 1 ≤ _; omega)
    subst hv6
    have HMX := hid (max_any x5 ao6 cap6 (NS ++ [mb]) (NS ++ [mb]).length rfl hh6 (by rw [List.length_append]; show 0 < _ + 1; omega) (by rw [List.length_append]; have := HSN.out.2; show _ + 1 ≤ _; omega))
    obtain ⟨nl, HNL⟩ : ∃ k, Hid ((NS ++ [mb]).length = k) := ⟨_, hid rfl⟩
    rw [HNL.out] at HMX ⊢
    have HBX5 : Hid (Below w.heap.size w x5) := (bt' HB2.out HBX3.out).trans (HBB5.out.mono HXB.out)
    obtain ⟨mx, HMXI⟩ : ∃ k, Hid (maxI (NS ++ [mb]) = k) := ⟨_, hid rfl⟩
    rw [HMXI.out] at HMX HFE
    clear hh6
    go_wp2_with fail
    refine HMX.out.mono ?_
    rintro e x6 ⟨rfl, hx6⟩
    rw [hx6]
    clear hx6
    go_wp2_with fail
    refine (HOF.out _).mono ?_
    rintro e y1 ⟨p5, rfl, hin5, hb5⟩
    have HBY1 : Hid (Below w.heap.size w y1) := bt' HBX5.out hb5
    have HIN5 := hid hin5
    clear hin5 hb5
    simp only [Qf.val]
    go_wp2_with fail
    refine (HTI.out _).mono ?_
    rintro e y2 ⟨p6, rfl, hin6, hb6⟩
    have HIN5b := hid (HIN5.out.below hb6)
    have HBY2 : Hid (Below w.heap.size w y2) := bt' HBY1.out hb6
    obtain ⟨Y, hY⟩ : ∃ W, W = y2.alloc (.cells #[(Qf.of p5 t).val, Qf.en.val, (Qf.told p6 i).val] 38) := ⟨_, rfl⟩
    have HBY : Hid (Below w.heap.size w Y) := by rw [hY]; exact bt' HBY2.out (one_new _ _)
    have HQ5 : Hid (HeldQ Y y2.heap.size [.of p5 t, .en, .told p6 i]) := by
      rw [hY]
      refine ⟨Blk.new y2 _ _, fun q hq => ?_⟩
      simp only [List.mem_cons, List.not_mem_nil, or_false] at hq
      rcases hq with h | h | h
      · rw [h]; exact HIN5b.out.below (one_new _ _)
      · rw [h]; trivial
      · rw [h]; exact hin6.below (one_new _ _)
    have HC5 := hid (HM3.out Y p5 p6 _ HBY.out HQ5.out)
    have HY := hid hY
    clear hin6 hb6 hY HQ5 HIN5 HIN5b
    simp only [Qf.val] at HY ⊢
    go_wp2_with fail
    rw [← HY.out]
    refine HC5.out.mono ?_
    rintro e y3 ⟨v5, rfl, hown5, hb5⟩
    obtain ⟨ao5, cap5, hv5, hh5⟩ := madeI_slice hown5 HSE.out.1 (Nat.le_trans HSE.out.2 (by omega))
    subst hv5
    have HBY3 : Hid (Below w.heap.size w y3) := bt' HBY.out hb5
    have HH5 := hid hh5
    clear hown5 hb5 hh5 HC5
    by_cases he : ES = []
    · have HLE : Hid (LA = MT) := by rw [HL.out, if_pos he]; exact rfl
      subst he
      go_wp2
      go_ret2
      exact ⟨by rw [HLE.out, HFE.out]; rfl, HBY3.out⟩
    · have HLE : Hid (LA = minI ES) := by rw [HL.out, if_neg he]; exact rfl
      have HMN := hid (min_any y3 ao5 cap5 ES ES.length rfl HH5.out (List.length_pos_iff.2 he) (Nat.le_trans HSE.out.2 (by omega)))
      have hpos : 0 < ES.length := List.length_pos_iff.2 he
      obtain ⟨ne, HNE⟩ : ∃ k, Hid (ES.length = k) := ⟨_, hid rfl⟩
      rw [HNE.out] at hpos HMN ⊢
      have hpos' : (0 : Int) < (ne : Int) := by omega
      obtain ⟨mn, HMI⟩ : ∃ k, Hid (minI ES = k) := ⟨_, hid rfl⟩
      rw [HMI.out] at HMN HLE
      clear he
      go_wp2_with fail
      refine HMN.out.mono ?_
      rintro e y4 ⟨rfl, hy4⟩
      rw [hy4]
      go_wp2
      go_ret2
      exact ⟨by rw [HLE.out, HFE.out]; rfl, HBY3.out⟩
end Go.Proofs.Ytfjmhfbmphdjiaa
