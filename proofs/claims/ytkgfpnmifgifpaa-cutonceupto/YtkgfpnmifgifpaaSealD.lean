/-
  Package cut: Belongs, Order, Open.
-/
import Derived.Test.YtkgfpnmifgifpaaSealC
import Derived.Test.YtkgfpnmifgifpaaCartSn
namespace Go.Proofs.Ytkgfpnmifgifpaa
open Go.RowKit Go.Maps

/-- The Epoch of the seal to which e belongs; whether there is one. -/
def belEp (e : Ev) (ss : List SlM) : Int := ((firstBel e ss).getD zeroSlV).e.ep
def belIs (e : Ev) (ss : List SlM) : Bool := (firstBel e ss).isSome
set_option maxRecDepth 100000 in
set_option maxHeartbeats 1000000 in
theorem belongs_any (w : World) (y : EvM) (ao : Option Addr) (cap : Nat) (ss : List SlM) (n : Nat) (hn : ss.length = n) (h : HeldSl w ao ss) (hl : n ≤ 100000000) :
    Calls Try.prog 10 #[y.val, .slice ao n cap] w fun e w' => e = .returned (.tuple #[.int .i64 (belEp y.e ss), .bool (belIs y.e ss)]) ∧ Below w.heap.size w w' := by
  obtain ⟨W, hW⟩ : ∃ W, W = w.alloc (.cells y.cells.toArray 34) := ⟨_, rfl⟩
  have HB : Hid (Below w.heap.size w W) := by rw [hW]; exact (Below.refl _ _).alloc (Nat.le_refl _) _
  have hk : Blk W w.heap.size 34 y.cells := by rw [hW]; exact Blk.new w _ _
  have HF := hid (findBel_any W ao cap ss n hn (h.below HB.out) hl y w.heap.size hk)
  have HEP : Hid (belEp y.e ss = ((firstBel y.e ss).getD zeroSlV).e.ep) := rfl
  have HIS : Hid (belIs y.e ss = (firstBel y.e ss).isSome) := rfl
  rw [HEP.out, HIS.out]
  obtain ⟨q, HQ⟩ : ∃ q, Hid ((firstBel y.e ss).isSome = q) := ⟨_, hid rfl⟩
  unfold FoundP at HF
  obtain ⟨X, HX⟩ : ∃ X, Hid ((firstBel y.e ss).getD zeroSlV = X) := ⟨_, hid rfl⟩
  rw [HX.out, HQ.out] at HF ⊢
  have HW := hid hW
  clear hW hk hn h HEP HIS HQ HX
  obtain ⟨⟨o2, s2, d2, c2, p2, k2, q2, b2⟩, ao2, cap2⟩ := y
  obtain ⟨⟨tok, cart, ep, cut⟩, ao1, cap1⟩ := X
  simp only [SlM.val, EvM.val, EvM.cells] at HF HW ⊢
  obtain ⟨XN, HXN⟩ : ∃ m, Hid (cut.length = m) := ⟨_, hid rfl⟩
  obtain ⟨YN, HYN⟩ : ∃ m, Hid (d2.length = m) := ⟨_, hid rfl⟩
  rw [HXN.out] at HF
  rw [HYN.out] at HW ⊢
  go_enter Try.func10, Try.ntmps10
  go_wp2_with fail
  rw [← HW.out]
  refine HF.out.mono ?_
  rintro e w1 ⟨rfl, hb⟩
  have HB1 := hid (bt HB.out hb)
  have HB2 : Hid (Below w.heap.size w (w1.alloc (.cells #[.string tok, .string cart, .int .i64 ep, .slice ao1 XN cap1] 50))) := HB1.out.alloc HB1.out.size _
  clear hb HF
  go_wp2
  go_ret2
  exact ⟨rfl, HB2.out⟩
theorem open1_any (V : World) (a : Int) (i : Bool) : Calls Try.prog 35 #[.int .i64 a, .bool i] V fun e w' => e = .returned (.bool (!i)) ∧ w' = V := by
  go_enter Try.func35, Try.ntmps35
  go_wp2
  go_ret
  exact ⟨rfl, rfl⟩
theorem order1_any (V : World) (a : Int) (i : Bool) (p : Nat) (q : Int) (hp : V.cell? ⟨p, 0, none⟩ = some (.int .i64 q)) : Calls Try.prog 34 #[.int .i64 a, .bool i, .pointer (some ⟨p, 0, none⟩)] V fun e w' => e = .returned (.bool (i && decide (a = q))) ∧ w' = V := by
  cases i
  · go_enter Try.func34, Try.ntmps34
    go_wp2
    go_ret
    exact ⟨rfl, rfl⟩
  · go_enter Try.func34, Try.ntmps34
    go_wp2
    go_ret
    exact ⟨by simp; rfl, rfl⟩
/-- The cart's events for which b holds of where they belong. -/
def pickL (name : ByteArray) (ss : List SlM) (b : Int → Bool → Bool) (xs : List EvM) : List EvM := xs.filter fun x => decide (x.e.cart = name) && b (belEp x.e (ownOf name ss)) (belIs x.e (ownOf name ss))
theorem pick_take {name : ByteArray} {ss : List SlM} {b : Int → Bool → Bool} {xs : List EvM} {k : Nat} (hk : k < xs.length) : pickL name ss b (xs.take (k + 1)) = pickL name ss b (xs.take k) ++ (if (decide (xs[k].e.cart = name) && b (belEp xs[k].e (ownOf name ss)) (belIs xs[k].e (ownOf name ss))) = true then [xs[k]] else []) := by
  unfold pickL
  rw [List.take_succ_eq_append_getElem hk, List.filter_append]
  congr 1
  split
  · next h => simp [h]
  · next h => simp [h]
theorem pick_len (name : ByteArray) (ss : List SlM) (b : Int → Bool → Bool) (xs : List EvM) : (pickL name ss b xs).length ≤ xs.length := List.length_filter_le _ _
theorem pick_sub {name : ByteArray} {ss : List SlM} {b : Int → Bool → Bool} {xs : List EvM} : ∀ x ∈ pickL name ss b xs, x ∈ xs := fun _ hx => (List.mem_filter.1 hx).1
/-- What Order and Open answer. -/
def LinesP (w : World) (f : ByteArray → Int) (e : Ending) (w' : World) : Prop := ∃ lo ln lc, e = .returned (.slice lo ln lc) ∧ LinesAt f w' lo ln ∧ Below w.heap.size w w'
set_option maxRecDepth 1000000 in
set_option maxHeartbeats 4000000 in
theorem openLines_any (w : World) (ao so : Option Addr) (ca cs : Nat) (xs : List EvM) (ss : List SlM) (n m : Nat) (hn : xs.length = n) (hm : ss.length = m) (h : HeldE w ao xs) (hs : HeldSl w so ss) (hl : n ≤ 4194304) (hls : m ≤ 100000000) (hd : ∀ x ∈ xs, x.e.deps.length ≤ 1048576) (hq : ∀ x ∈ xs, 0 ≤ x.e.qty ∧ x.e.qty ≤ 1000) (name : ByteArray) {f : ByteArray → Int} (hf : linesQ name ((pickL name ss (fun _ i => !i) xs).map (·.e)) = f) :
    Calls Try.prog 33 #[.slice ao n ca, .slice so m cs, .string name, .func (.func 35) #[] #[]] w (LinesP w f) := by
  have HN := hid hn
  have HX := hid h
  have HD := hid hd
  have HQ := hid hq
  have HF := hid hf
  have HSO := hid (sealsOf_any w so cs ss m hm hs hls name)
  obtain ⟨os, HOS⟩ : ∃ os, Hid (ownOf name ss = os) := ⟨_, hid rfl⟩
  have HOA : Hid (AllS w os) := by rw [← HOS.out]; exact fun x hx => hs.1 x (ownOf_sub x hx)
  obtain ⟨mo, HMO⟩ : ∃ k, Hid (os.length = k) := ⟨_, hid rfl⟩
  have hmo : mo ≤ 100000000 := by have h1 := ownOf_len name ss; rw [HOS.out, HMO.out] at h1; omega
  rw [HOS.out] at HSO
  unfold MadeS at HSO
  rw [HMO.out] at HSO
  have HPT := hid (fun k (hk : k < xs.length) => pick_take (name := name) (ss := ss) (b := (fun _ i => !i)) hk)
  rw [HOS.out] at HPT
  clear hn hm h hs hd hq hf
  go_enter Try.func33, Try.ntmps33
  go_wp2_with fail
  refine HSO.out.mono ?_
  rintro e w1 ⟨v, rfl, hrow, hb⟩
  have HB1 := hid hb
  obtain ⟨oo, oc, hv, _, hho⟩ := heldSl_of_own HMO.out hrow (HOA.out.below hb)
  have HHO := hid hho
  subst hv
  clear hrow hb hho HSO
  go_wp2
  go_loopw [10, 12, 18] (fun out _ i wr => ∃ k : Nat, k ≤ n ∧ i = .int .i64 k ∧ Hid (wr.ownsRow w1.heap.size 34 8 out (pickL name ss (fun _ i => !i) (xs.take k)).length (flatE (pickL name ss (fun _ i => !i) (xs.take k))) ∧ Below w1.heap.size w1 wr)) (fun _ _ i _ => n - (intOf i).toNat)
  case atStart => exact ⟨0, Nat.zero_le _, rfl, World.ownsRow_nil _ _ _ _, Below.refl _ _⟩
  case round =>
    obtain ⟨k, hk, rfl, HR⟩ := hrel
    by_cases hlt : k < n
    · have hlt' : (k : Int) < (n : Int) := by omega
      have hkx : Hid (k < xs.length) := (by rw [HN.out]; exact hlt : k < xs.length)
      obtain ⟨bb, off, hao, _, g0, g1, g2, g3, g4, g5, g6, g7⟩ := ((HX.out.below HB1.out).below HR.out.2).at hkx.out
      have HAO := hid hao
      have HKM : Hid (k + 1 ≤ n) := (by omega : k + 1 ≤ n)
      have HTK := hid (HPT.out k hkx.out)
      have HFL : Hid ((pickL name ss (fun _ i => !i) (xs.take k)).length < 1466015503701) := by
        have h1 := pick_len name ss (fun _ i => !i) (xs.take k)
        rw [List.length_take] at h1
        show _ < _
        omega
      obtain ⟨X, HXX⟩ : ∃ X, Hid (xs[k]'hkx.out = X) := ⟨_, hid rfl⟩
      rw [HXX.out] at g0 g1 g2 g3 g4 g5 g6 g7 HTK
      obtain ⟨W1, hW1⟩ : ∃ W, W = wr.alloc (.cells X.cells.toArray 34) := ⟨_, rfl⟩
      have HBX : Hid (Below w1.heap.size w1 W1) := by rw [hW1]; exact HR.out.2.alloc HR.out.2.size _
      have HK1 : Hid (Blk W1 wr.heap.size 34 X.cells) := by rw [hW1]; exact Blk.new wr _ _
      have HROW : Hid (W1.ownsRow w1.heap.size 34 8 u10 (pickL name ss (fun _ i => !i) (xs.take k)).length (flatE (pickL name ss (fun _ i => !i) (xs.take k)))) := by rw [hW1]; exact HR.out.1.alloc _
      have HBE := hid (belongs_any W1 X oo oc os mo HMO.out (HHO.out.below HBX.out) hmo)
      obtain ⟨E, HE⟩ : ∃ E, Hid (belEp X.e os = E) := ⟨_, hid rfl⟩
      obtain ⟨I, HI⟩ : ∃ I, Hid (belIs X.e os = I) := ⟨_, hid rfl⟩
      rw [HE.out, HI.out] at HBE
      rw [HI.out] at HTK
      try rw [HE.out] at HTK
      have HW1 := hid hW1
      clear hW1 HXX HE HI
      subst hao
      obtain ⟨⟨o2, s2, d2, c2, p2, k2, q2, b2⟩, ao2, cap2⟩ := X
      simp only [EvM.val, EvM.cells] at g0 g1 g2 g3 g4 g5 g6 g7 HBE HK1 HW1 HTK
      obtain ⟨YN, HYN⟩ : ∃ m, Hid (d2.length = m) := ⟨_, hid rfl⟩
      rw [HYN.out] at g2 HBE HK1 HW1
      by_cases hc : c2 = name
      rotate_left 1
      · have hbe : (c2.toList == name.toList) = false := by simpa using fun hh => hc (bytes_inj hh)
        have hc' : decide (c2 = name) = false := by simp [hc]
        rw [hc', Bool.false_and, if_neg Bool.false_ne_true, List.append_nil] at HTK
        rw [HW1.out] at HBX HROW
        clear hc hc'
        go_wp2
        go_roundw
        case rel =>
          refine ⟨k + 1, HKM.out, by go_num, ?_, HBX.out⟩
          rw [HTK.out]
          exact HROW.out
        case measure => simp [intOf]; have := HKM.out; omega
      have hbe : (c2.toList == name.toList) = true := by rw [hc]; simp
      have hc' : decide (c2 = name) = true := by simp [hc]
      rw [hc', Bool.true_and] at HTK
      clear hc hc'
      go_wp2_with fail
      rw [← HW1.out]
      obtain ⟨pb, hpb⟩ : ∃ p, p = wr.heap.size := ⟨_, rfl⟩
      rw [← hpb] at HK1 ⊢
      clear hpb
      refine HBE.out.mono ?_
      rintro e w2 ⟨rfl, hb2⟩
      have HB2 := hid (bt HBX.out hb2)
      have HROW2 := hid ((Turns.of_below (F := fun _ => False) hb2 (Nat.le_refl _)).row HROW.out (fun _ _ h => h))
      have hk2 := HK1.out.below hb2 HK1.out.lt
      have c0 := hk2.cell (i := 0) rfl
      have c1 := hk2.cell (i := 1) rfl
      have c2' := hk2.cell (i := 2) rfl
      have c3 := hk2.cell (i := 3) rfl
      have c4 := hk2.cell (i := 4) rfl
      have c5 := hk2.cell (i := 5) rfl
      have c6 := hk2.cell (i := 6) rfl
      have c7 := hk2.cell (i := 7) rfl
      clear hb2 hk2 HBE HBX HROW g0 g1 g2 g3 g4 g5 g6 g7 HK1
      have HWC := hid (open1_any w2 E I)
      obtain ⟨r, HRR⟩ : ∃ r, Hid ((!I) = r) := ⟨_, hid rfl⟩
      rw [HRR.out] at HWC
      have HTK2 : Hid (pickL name ss (fun _ i => !i) (xs.take (k + 1)) = pickL name ss (fun _ i => !i) (xs.take k) ++ (if r = true then [⟨⟨o2, s2, d2, c2, p2, k2, q2, b2⟩, ao2, cap2⟩] else [])) := by have := HTK.out; rw [HRR.out] at this; exact this
      clear HTK HRR
      go_wp2_with fail
      refine HWC.out.mono ?_
      rintro e w3 ⟨rfl, hw3⟩
      rw [hw3]
      clear hw3 w3
      cases r
      · rw [if_neg Bool.false_ne_true, List.append_nil] at HTK2
        go_wp2
        go_roundw
        case rel =>
          refine ⟨k + 1, HKM.out, by go_num, ?_, HB2.out⟩
          rw [HTK2.out]
          exact HROW2.out
        case measure => simp [intOf]; have := HKM.out; omega
      · rw [if_pos rfl] at HTK2
        go_wp2_with (at_builtin; refine wpList_append_ev w2 _ ⟨⟨o2, s2, d2, c2, p2, k2, q2, b2⟩, ao2, cap2⟩ ?_ rfl _ _ rfl w1.heap.size _ (pickL name ss (fun _ i => !i) (xs.take k)) _ rfl rfl rfl HROW2.out HB2.out.size HFL.out ?_; (show _ = _; simp only [EvM.cells]; rw [HYN.out]); intro v' w4 hown hbel _; have HO4 := hid hown; have HB4 := hid (HB2.out.trans hbel); clear hown hbel)
        go_wp2
        go_roundw
        case rel =>
          refine ⟨k + 1, HKM.out, by go_num, ?_, HB4.out⟩
          rw [HTK2.out, List.length_append]
          exact HO4.out
        case measure => simp [intOf]; have := HKM.out; omega
    · have hlt' : ¬ (k : Int) < (n : Int) := by omega
      have hke : Hid (xs.take k = xs) := by show _ = _; rw [List.take_of_length_le]; have := HN.out; omega
      rw [hke.out] at HR
      obtain ⟨ps, HPS⟩ : ∃ ps, Hid (pickL name ss (fun _ i => !i) xs = ps) := ⟨_, hid rfl⟩
      have HSU : Hid (∀ x ∈ ps, x ∈ xs) := by rw [← HPS.out]; exact pick_sub
      obtain ⟨z, HZ⟩ : ∃ z, Hid (ps.length = z) := ⟨_, hid rfl⟩
      have hz : z ≤ 4194304 := by have h1 := pick_len name ss (fun _ i => !i) xs; rw [HPS.out, HZ.out, HN.out] at h1; omega
      rw [HPS.out] at HF HR
      rw [HZ.out] at HR
      have hok : AllOk wr ps := fun x hx => (((HX.out.below HB1.out).below HR.out.2).1 x (HSU.out x hx))
      obtain ⟨lo, lc, hv, _, hh⟩ := heldE_of_own HZ.out HR.out.1 hok
      have HLN := hid (lines_at (Sc.start wr) lo lc ps z HZ.out hh hz (fun x hx => HD.out x (HSU.out x hx)) (fun x hx => HQ.out x (HSU.out x hx)) name HF.out)
      have HBR := hid (bt HB1.out HR.out.2)
      subst hv
      clear hok hh HR
      go_wp2_with fail
      refine HLN.out.mono ?_
      rintro e w5 ⟨l5, n5, d5, rfl, hat, hb5, _⟩
      have HAT := hid hat
      have HB5 := hid (bt HBR.out hb5)
      clear hat hb5
      go_wp2
      go_ret
      exact ⟨_, _, _, rfl, HAT.out, HB5.out⟩
set_option maxRecDepth 1000000 in
set_option maxHeartbeats 4000000 in
theorem orderLines_any (w : World) (ao so : Option Addr) (ca cs : Nat) (xs : List EvM) (ss : List SlM) (n m : Nat) (hn : xs.length = n) (hm : ss.length = m) (h : HeldE w ao xs) (hs : HeldSl w so ss) (hl : n ≤ 4194304) (hls : m ≤ 100000000) (hd : ∀ x ∈ xs, x.e.deps.length ≤ 1048576) (hq : ∀ x ∈ xs, 0 ≤ x.e.qty ∧ x.e.qty ≤ 1000) (name : ByteArray) (q : Int) (p : Nat) (hp : w.cell? ⟨p, 0, none⟩ = some (.int .i64 q)) (hpw : p < w.heap.size) {f : ByteArray → Int} (hf : linesQ name ((pickL name ss (fun a i => i && decide (a = q)) xs).map (·.e)) = f) :
    Calls Try.prog 33 #[.slice ao n ca, .slice so m cs, .string name, .func (.func 34) #[] #[.pointer (some ⟨p, 0, none⟩)]] w (LinesP w f) := by
  have HN := hid hn
  have HX := hid h
  have HD := hid hd
  have HQ := hid hq
  have HF := hid hf
  have HSO := hid (sealsOf_any w so cs ss m hm hs hls name)
  obtain ⟨os, HOS⟩ : ∃ os, Hid (ownOf name ss = os) := ⟨_, hid rfl⟩
  have HOA : Hid (AllS w os) := by rw [← HOS.out]; exact fun x hx => hs.1 x (ownOf_sub x hx)
  obtain ⟨mo, HMO⟩ : ∃ k, Hid (os.length = k) := ⟨_, hid rfl⟩
  have hmo : mo ≤ 100000000 := by have h1 := ownOf_len name ss; rw [HOS.out, HMO.out] at h1; omega
  rw [HOS.out] at HSO
  unfold MadeS at HSO
  rw [HMO.out] at HSO
  have HPT := hid (fun k (hk : k < xs.length) => pick_take (name := name) (ss := ss) (b := (fun a i => i && decide (a = q))) hk)
  rw [HOS.out] at HPT
  have HPC : Hid (∀ V, Below w.heap.size w V → V.cell? ⟨p, 0, none⟩ = some (.int .i64 q)) := fun V hV => (hV.cell (p := ⟨p, 0, none⟩) hpw).trans hp
  clear hn hm h hs hd hq hf hp hpw
  go_enter Try.func33, Try.ntmps33
  go_wp2_with fail
  refine HSO.out.mono ?_
  rintro e w1 ⟨v, rfl, hrow, hb⟩
  have HB1 := hid hb
  obtain ⟨oo, oc, hv, _, hho⟩ := heldSl_of_own HMO.out hrow (HOA.out.below hb)
  have HHO := hid hho
  subst hv
  clear hrow hb hho HSO
  go_wp2
  go_loopw [10, 12, 18] (fun out _ i wr => ∃ k : Nat, k ≤ n ∧ i = .int .i64 k ∧ Hid (wr.ownsRow w1.heap.size 34 8 out (pickL name ss (fun a i => i && decide (a = q)) (xs.take k)).length (flatE (pickL name ss (fun a i => i && decide (a = q)) (xs.take k))) ∧ Below w1.heap.size w1 wr)) (fun _ _ i _ => n - (intOf i).toNat)
  case atStart => exact ⟨0, Nat.zero_le _, rfl, World.ownsRow_nil _ _ _ _, Below.refl _ _⟩
  case round =>
    obtain ⟨k, hk, rfl, HR⟩ := hrel
    by_cases hlt : k < n
    · have hlt' : (k : Int) < (n : Int) := by omega
      have hkx : Hid (k < xs.length) := (by rw [HN.out]; exact hlt : k < xs.length)
      obtain ⟨bb, off, hao, _, g0, g1, g2, g3, g4, g5, g6, g7⟩ := ((HX.out.below HB1.out).below HR.out.2).at hkx.out
      have HAO := hid hao
      have HKM : Hid (k + 1 ≤ n) := (by omega : k + 1 ≤ n)
      have HTK := hid (HPT.out k hkx.out)
      have HFL : Hid ((pickL name ss (fun a i => i && decide (a = q)) (xs.take k)).length < 1466015503701) := by
        have h1 := pick_len name ss (fun a i => i && decide (a = q)) (xs.take k)
        rw [List.length_take] at h1
        show _ < _
        omega
      obtain ⟨X, HXX⟩ : ∃ X, Hid (xs[k]'hkx.out = X) := ⟨_, hid rfl⟩
      rw [HXX.out] at g0 g1 g2 g3 g4 g5 g6 g7 HTK
      obtain ⟨W1, hW1⟩ : ∃ W, W = wr.alloc (.cells X.cells.toArray 34) := ⟨_, rfl⟩
      have HBX : Hid (Below w1.heap.size w1 W1) := by rw [hW1]; exact HR.out.2.alloc HR.out.2.size _
      have HK1 : Hid (Blk W1 wr.heap.size 34 X.cells) := by rw [hW1]; exact Blk.new wr _ _
      have HROW : Hid (W1.ownsRow w1.heap.size 34 8 u10 (pickL name ss (fun a i => i && decide (a = q)) (xs.take k)).length (flatE (pickL name ss (fun a i => i && decide (a = q)) (xs.take k)))) := by rw [hW1]; exact HR.out.1.alloc _
      have HBE := hid (belongs_any W1 X oo oc os mo HMO.out (HHO.out.below HBX.out) hmo)
      obtain ⟨E, HE⟩ : ∃ E, Hid (belEp X.e os = E) := ⟨_, hid rfl⟩
      obtain ⟨I, HI⟩ : ∃ I, Hid (belIs X.e os = I) := ⟨_, hid rfl⟩
      rw [HE.out, HI.out] at HBE
      rw [HI.out] at HTK
      try rw [HE.out] at HTK
      have HW1 := hid hW1
      clear hW1 HXX HE HI
      subst hao
      obtain ⟨⟨o2, s2, d2, c2, p2, k2, q2, b2⟩, ao2, cap2⟩ := X
      simp only [EvM.val, EvM.cells] at g0 g1 g2 g3 g4 g5 g6 g7 HBE HK1 HW1 HTK
      obtain ⟨YN, HYN⟩ : ∃ m, Hid (d2.length = m) := ⟨_, hid rfl⟩
      rw [HYN.out] at g2 HBE HK1 HW1
      by_cases hc : c2 = name
      rotate_left 1
      · have hbe : (c2.toList == name.toList) = false := by simpa using fun hh => hc (bytes_inj hh)
        have hc' : decide (c2 = name) = false := by simp [hc]
        rw [hc', Bool.false_and, if_neg Bool.false_ne_true, List.append_nil] at HTK
        rw [HW1.out] at HBX HROW
        clear hc hc'
        go_wp2
        go_roundw
        case rel =>
          refine ⟨k + 1, HKM.out, by go_num, ?_, HBX.out⟩
          rw [HTK.out]
          exact HROW.out
        case measure => simp [intOf]; have := HKM.out; omega
      have hbe : (c2.toList == name.toList) = true := by rw [hc]; simp
      have hc' : decide (c2 = name) = true := by simp [hc]
      rw [hc', Bool.true_and] at HTK
      clear hc hc'
      go_wp2_with fail
      rw [← HW1.out]
      obtain ⟨pb, hpb⟩ : ∃ p, p = wr.heap.size := ⟨_, rfl⟩
      rw [← hpb] at HK1 ⊢
      clear hpb
      refine HBE.out.mono ?_
      rintro e w2 ⟨rfl, hb2⟩
      have HB2 := hid (bt HBX.out hb2)
      have HROW2 := hid ((Turns.of_below (F := fun _ => False) hb2 (Nat.le_refl _)).row HROW.out (fun _ _ h => h))
      have hk2 := HK1.out.below hb2 HK1.out.lt
      have c0 := hk2.cell (i := 0) rfl
      have c1 := hk2.cell (i := 1) rfl
      have c2' := hk2.cell (i := 2) rfl
      have c3 := hk2.cell (i := 3) rfl
      have c4 := hk2.cell (i := 4) rfl
      have c5 := hk2.cell (i := 5) rfl
      have c6 := hk2.cell (i := 6) rfl
      have c7 := hk2.cell (i := 7) rfl
      clear hb2 hk2 HBE HBX HROW g0 g1 g2 g3 g4 g5 g6 g7 HK1
      have HWC := hid (order1_any w2 E I p q (HPC.out w2 (bt HB1.out HB2.out)))
      obtain ⟨r, HRR⟩ : ∃ r, Hid ((I && decide (E = q)) = r) := ⟨_, hid rfl⟩
      rw [HRR.out] at HWC
      have HTK2 : Hid (pickL name ss (fun a i => i && decide (a = q)) (xs.take (k + 1)) = pickL name ss (fun a i => i && decide (a = q)) (xs.take k) ++ (if r = true then [⟨⟨o2, s2, d2, c2, p2, k2, q2, b2⟩, ao2, cap2⟩] else [])) := by have := HTK.out; rw [HRR.out] at this; exact this
      clear HTK HRR
      go_wp2_with fail
      refine HWC.out.mono ?_
      rintro e w3 ⟨rfl, hw3⟩
      rw [hw3]
      clear hw3 w3
      cases r
      · rw [if_neg Bool.false_ne_true, List.append_nil] at HTK2
        go_wp2
        go_roundw
        case rel =>
          refine ⟨k + 1, HKM.out, by go_num, ?_, HB2.out⟩
          rw [HTK2.out]
          exact HROW2.out
        case measure => simp [intOf]; have := HKM.out; omega
      · rw [if_pos rfl] at HTK2
        go_wp2_with (at_builtin; refine wpList_append_ev w2 _ ⟨⟨o2, s2, d2, c2, p2, k2, q2, b2⟩, ao2, cap2⟩ ?_ rfl _ _ rfl w1.heap.size _ (pickL name ss (fun a i => i && decide (a = q)) (xs.take k)) _ rfl rfl rfl HROW2.out HB2.out.size HFL.out ?_; (show _ = _; simp only [EvM.cells]; rw [HYN.out]); intro v' w4 hown hbel _; have HO4 := hid hown; have HB4 := hid (HB2.out.trans hbel); clear hown hbel)
        go_wp2
        go_roundw
        case rel =>
          refine ⟨k + 1, HKM.out, by go_num, ?_, HB4.out⟩
          rw [HTK2.out, List.length_append]
          exact HO4.out
        case measure => simp [intOf]; have := HKM.out; omega
    · have hlt' : ¬ (k : Int) < (n : Int) := by omega
      have hke : Hid (xs.take k = xs) := by show _ = _; rw [List.take_of_length_le]; have := HN.out; omega
      rw [hke.out] at HR
      obtain ⟨ps, HPS⟩ : ∃ ps, Hid (pickL name ss (fun a i => i && decide (a = q)) xs = ps) := ⟨_, hid rfl⟩
      have HSU : Hid (∀ x ∈ ps, x ∈ xs) := by rw [← HPS.out]; exact pick_sub
      obtain ⟨z, HZ⟩ : ∃ z, Hid (ps.length = z) := ⟨_, hid rfl⟩
      have hz : z ≤ 4194304 := by have h1 := pick_len name ss (fun a i => i && decide (a = q)) xs; rw [HPS.out, HZ.out, HN.out] at h1; omega
      rw [HPS.out] at HF HR
      rw [HZ.out] at HR
      have hok : AllOk wr ps := fun x hx => (((HX.out.below HB1.out).below HR.out.2).1 x (HSU.out x hx))
      obtain ⟨lo, lc, hv, _, hh⟩ := heldE_of_own HZ.out HR.out.1 hok
      have HLN := hid (lines_at (Sc.start wr) lo lc ps z HZ.out hh hz (fun x hx => HD.out x (HSU.out x hx)) (fun x hx => HQ.out x (HSU.out x hx)) name HF.out)
      have HBR := hid (bt HB1.out HR.out.2)
      subst hv
      clear hok hh HR
      go_wp2_with fail
      refine HLN.out.mono ?_
      rintro e w5 ⟨l5, n5, d5, rfl, hat, hb5, _⟩
      have HAT := hid hat
      have HB5 := hid (bt HBR.out hb5)
      clear hat hb5
      go_wp2
      go_ret
      exact ⟨_, _, _, rfl, HAT.out, HB5.out⟩
end Go.Proofs.Ytkgfpnmifgifpaa
