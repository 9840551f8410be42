/-
  pannierlaw12.CutNone answers true for any events and seals of bulk at most 1048576.
-/
import Derived.Test.YtkgfpnmifgifpaaSealH
namespace Go.Proofs.Ytkgfpnmifgifpaa
open Go.RowKit Go.Maps

def othersOf (name : ByteArray) (xs : List SlM) : List SlM := xs.filter fun x => !decide (x.e.cart = name)
theorem others_take {name : ByteArray} {xs : List SlM} {k : Nat} (hk : k < xs.length) : othersOf name (xs.take (k + 1)) = othersOf name (xs.take k) ++ (if xs[k].e.cart = name then [] else [xs[k]]) := by
  unfold othersOf
  rw [List.take_succ_eq_append_getElem hk, List.filter_append]
  by_cases h : xs[k].e.cart = name
  · rw [if_pos h]
    simp [h]
  · rw [if_neg h]
    simp [h]
theorem others_len (name : ByteArray) (xs : List SlM) : (othersOf name xs).length ≤ xs.length := List.length_filter_le _ _
theorem others_sub {name : ByteArray} {xs : List SlM} : ∀ x ∈ othersOf name xs, x ∈ xs := fun _ hx => (List.mem_filter.1 hx).1
theorem own_others (name : ByteArray) (xs : List SlM) : ownOf name (othersOf name xs) = [] := by
  unfold ownOf othersOf
  rw [List.filter_eq_nil_iff]
  intro x hx
  have := (List.mem_filter.1 hx).2
  simpa using this
theorem ofCart_map (name : ByteArray) (xs : List EvM) : (xs.filter fun x => decide (x.e.cart = name)).map (·.e) = ofCart name (xs.map (·.e)) := by
  unfold ofCart
  rw [List.filter_map]
  rfl
theorem ofCart_again (name : ByteArray) (l : List Ev) : ofCart name (ofCart name l) = ofCart name l := by
  unfold ofCart
  rw [List.filter_filter]
  congr 1
  funext e
  simp
theorem linesQ_own (name : ByteArray) (l : List Ev) : linesQ name (ofCart name l) = linesQ name l := by
  unfold linesQ countOf
  rw [ofCart_again]
theorem open_none {name : ByteArray} {ss : List SlM} (h : ownOf name ss = []) (xs : List EvM) : linesQ name ((pickL name ss (fun _ i => !i) xs).map (·.e)) = linesQ name (xs.map (·.e)) := by
  have h1 : pickL name ss (fun _ i => !i) xs = xs.filter fun x => decide (x.e.cart = name) := by
    unfold pickL
    rw [h]
    congr 1
    funext x
    simp [belIs, firstBel]
  rw [h1, ofCart_map, linesQ_own]
theorem order_none {name : ByteArray} {ss : List SlM} (h : ownOf name ss = []) (q : Int) (xs : List EvM) : linesQ name ((pickL name ss (fun a i => i && decide (a = q)) xs).map (·.e)) = fun _ => 0 := by
  have h1 : pickL name ss (fun a i => i && decide (a = q)) xs = [] := by
    unfold pickL
    rw [h, List.filter_eq_nil_iff]
    intro x _
    simp [belIs, firstBel]
  rw [h1]
  funext s
  rfl
theorem lines_none {V : World} {lo : Option Addr} {ln : Nat} (h : LinesAt (fun _ => 0) V lo ln) : ln = 0 := by
  obtain ⟨ls, h1, h2, _⟩ := h
  rw [← h2]
  cases ls with
  | nil => rfl
  | cons x r =>
    have := (h1.2 x.1 x.2).1 (List.mem_cons_self ..)
    dsimp only at this
    omega
set_option maxRecDepth 1000000 in
set_option maxHeartbeats 4000000 in
theorem cutNone_walk (ao : Option Addr) (ca : Nat) (xs : List EvM) (so : Option Addr) (cs : Nat) (ss : List SlM) (name : ByteArray) (w : World)
    (hx : HeldE w ao xs) (hl0 : xs.length ≤ 1048576) (hd0 : ∀ x ∈ xs, x.e.deps.length ≤ 1048576) (hs : HeldSl w so ss) (hl1 : ss.length ≤ 1048576) (_ : ∀ x ∈ ss, x.e.cut.length ≤ 1048576) (_ : name.size ≤ maxLen) :
    Calls Try.prog 6 #[.slice ao xs.length ca, .slice so ss.length cs, .string name] w fun e w' => e = .returned (.bool true) ∧ Below w.heap.size w w' := by
  obtain ⟨n, HN⟩ : ∃ n, Hid (xs.length = n) := ⟨_, hid rfl⟩
  obtain ⟨m, HM⟩ : ∃ n, Hid (ss.length = n) := ⟨_, hid rfl⟩
  rw [HN.out] at hl0 ⊢
  rw [HM.out] at hl1 ⊢
  have HX := hid hx
  have HS := hid hs
  have HD := hid hd0
  have HLV := hid (lives12_any w)
  clear hx hs hd0
  go_enter Try.func6, Try.ntmps6
  go_wp2_with fail
  refine HLV.out.mono ?_
  rintro e w1 ⟨rfl, hb⟩
  have HB1 := hid hb
  have HON := hid (once_any w1 ao ca xs n HN.out (HX.out.below HB1.out) (by omega))
  clear hb HLV
  go_wp2_with fail
  refine HON.out.mono ?_
  rintro e w2 ⟨⟨r, rfl, hr⟩, hb⟩
  have HB2 := hid (bt HB1.out hb)
  have HR := hid hr
  clear hb hr HON
  cases r
  · go_wp2
    go_ret
    exact ⟨rfl, HB2.out⟩
  have HQ : Hid (∀ x ∈ xs, 0 ≤ x.e.qty ∧ x.e.qty ≤ 1000) := fun x hx => (HR.out rfl).1 _ (List.mem_map.2 ⟨x, hx, rfl⟩)
  clear HR
  go_wp2
  go_loopw [7, 8] (fun out x wr => ∃ k : Nat, k ≤ m ∧ x = .int .i64 k ∧ Hid (wr.ownsRow w2.heap.size 50 4 out (othersOf name (ss.take k)).length (flatS (othersOf name (ss.take k))) ∧ Below w2.heap.size w2 wr)) (fun _ x _ => m - (intOf x).toNat)
  case atStart => exact ⟨0, Nat.zero_le _, rfl, World.ownsRow_nil _ _ _ _, Below.refl _ _⟩
  case round =>
    obtain ⟨k, hk, rfl, HR⟩ := hrel
    by_cases hlt : k < m
    · have hlt' : (k : Int) < (m : Int) := by omega
      have hkx : Hid (k < ss.length) := (by rw [HM.out]; exact hlt : k < ss.length)
      obtain ⟨bb, off, hso, _, g0, g1, g2, g3⟩ := ((HS.out.below HB2.out).below HR.out.2).at hkx.out
      subst hso
      have HKM : Hid (k + 1 ≤ m) := (by omega : k + 1 ≤ m)
      have HTK := hid (others_take (name := name) hkx.out)
      have HFL : Hid ((othersOf name (ss.take k)).length < 1466015503701) := by
        have h1 := others_len name (ss.take k)
        rw [List.length_take] at h1
        show _ < _
        omega
      obtain ⟨X, HXX⟩ : ∃ X, Hid (ss[k]'hkx.out = X) := ⟨_, hid rfl⟩
      rw [HXX.out] at g0 g1 g2 g3 HTK
      clear HXX
      obtain ⟨⟨tok, cart, ep, cut⟩, ao1, cap1⟩ := X
      obtain ⟨XN, HXN⟩ : ∃ m, Hid (cut.length = m) := ⟨_, hid rfl⟩
      simp only at g0 g1 g2 g3 HTK
      rw [HXN.out] at g3
      have HSZ := hid HR.out.2.size
      by_cases hc : cart = name
      · have hbe : (cart.toList == name.toList) = true := by rw [hc]; simp
        have hbn : (cart.toList != name.toList) = false := by rw [hc]; simp
        rw [if_pos hc, List.append_nil] at HTK
        clear hc
        go_wp2
        go_roundw
        case rel =>
          refine ⟨k + 1, HKM.out, by go_num, ?_, HR.out.2⟩
          rw [HTK.out]
          exact HR.out.1
        case measure => simp [intOf]; have := HKM.out; omega
      · have hne : ¬ cart.toList = name.toList := fun hh => hc (bytes_inj hh)
        have hbe : (cart.toList == name.toList) = false := by simpa using hne
        have hbn : (cart.toList != name.toList) = true := by simpa using hne
        rw [if_neg hc] at HTK
        clear hc hne
        go_wp2_with (at_builtin; refine wpList_append_sl wr _ ⟨⟨tok, cart, ep, cut⟩, ao1, cap1⟩ ?_ rfl _ _ rfl w2.heap.size _ (othersOf name (ss.take k)) _ rfl rfl rfl HR.out.1 HSZ.out HFL.out ?_; (show _ = _; simp only [SlM.cells]; rw [HXN.out]); intro v' w3 hown hbel _; have HO3 := hid hown; have HB3 := hid (HR.out.2.trans hbel); clear hown hbel)
        go_wp2
        go_roundw
        case rel =>
          refine ⟨k + 1, HKM.out, by go_num, ?_, HB3.out⟩
          rw [HTK.out, List.length_append]
          exact HO3.out
        case measure => simp [intOf]; have := HKM.out; omega
    · have hlt' : ¬ (k : Int) < (m : Int) := by omega
      have hke : Hid (ss.take k = ss) := by show _ = _; rw [List.take_of_length_le]; have := HM.out; omega
      rw [hke.out] at HR
      have HOO := hid (own_others name ss)
      obtain ⟨os, HOS⟩ : ∃ os, Hid (othersOf name ss = os) := ⟨_, hid rfl⟩
      have HSU : Hid (∀ x ∈ os, x ∈ ss) := by rw [← HOS.out]; exact others_sub
      obtain ⟨z, HZ⟩ : ∃ z, Hid (os.length = z) := ⟨_, hid rfl⟩
      have hz : z ≤ 1048576 := by have h1 := others_len name ss; rw [HOS.out, HZ.out, HM.out] at h1; omega
      rw [HOS.out] at HR HOO
      rw [HZ.out] at HR
      have hok : AllS wr os := fun x hx => ((HS.out.below HB2.out).below HR.out.2).1 x (HSU.out x hx)
      obtain ⟨oo, oc, hv, _, hh⟩ := heldSl_of_own HZ.out HR.out.1 hok
      have HHO := hid hh
      have HBR := hid (bt HB2.out HR.out.2)
      have HXR := hid ((HX.out.below HB2.out).below HR.out.2)
      subst hv
      clear hok hh HR hke hlt hk
      obtain ⟨f, hf⟩ : ∃ f, linesQ name (xs.map (·.e)) = f := ⟨_, rfl⟩
      have HF := hid hf
      clear hf
      have HLN := hid (lines_at (Sc.start wr) ao ca xs n HN.out HXR.out (by omega) HD.out HQ.out name HF.out)
      have HO1 := hid (fun V (hV : Below wr.heap.size wr V) => cutOpen_any V ao none ca 0 xs [] n 0 HN.out rfl (HXR.out.below hV) ⟨fun x hx => (by cases hx), .inl rfl⟩ (by omega) (by omega) HD.out HQ.out name ((open_none rfl xs).trans HF.out))
      have HO2 := hid (fun V (hV : Below wr.heap.size wr V) => cutOpen_any V ao oo ca oc xs os n z HN.out HZ.out (HXR.out.below hV) (HHO.out.below hV) (by omega) (by omega) HD.out HQ.out name ((open_none HOO.out xs).trans HF.out))
      have HO3 := hid (fun V (hV : Below wr.heap.size wr V) => cutOrder_any V ao oo ca oc xs os n z HN.out HZ.out (HXR.out.below hV) (HHO.out.below hV) (by omega) (by omega) HD.out HQ.out name 0 (order_none HOO.out 0 xs))
      have HEP := hid (fun V (hV : Below wr.heap.size wr V) => epoch_any V oo oc os z HZ.out (HHO.out.below hV) (by omega) name)
      rw [HOO.out] at HEP
      go_wp2_with fail
      refine HLN.out.mono ?_
      rintro e w3 ⟨lo, ln, lc, rfl, hat, hb3, _⟩
      have HAT := hid hat
      have HB3 := hid hb3
      clear hat hb3 HLN
      go_wp2_with fail
      refine (HO1.out _ HB3.out).mono ?_
      rintro e w4 ⟨lo4, ln4, lc4, rfl, hat, hb⟩
      have HAT4 := hid hat
      have HATW := hid (HAT.out.below hb)
      have HB4 := hid (bt HB3.out hb)
      clear hat hb HO1
      go_wp2_with fail
      refine (rsame_at lc4 lc HAT4.out HATW.out).mono ?_
      rintro e w5 ⟨rfl, q5, rfl⟩
      have HB5 := hid (below_dn HB4.out q5)
      have HAT5 := hid (HATW.out.below (below_dn (Below.refl _ _) q5))
      clear HAT4
      go_wp2_with fail
      refine (HO2.out _ HB5.out).mono ?_
      rintro e w6 ⟨lo6, ln6, lc6, rfl, hat, hb⟩
      have HAT6 := hid hat
      have HATX := hid (HAT5.out.below hb)
      have HB6 := hid (bt HB5.out hb)
      clear hat hb HO2
      go_wp2_with fail
      refine (rsame_at lc6 lc HAT6.out HATX.out).mono ?_
      rintro e w7 ⟨rfl, q7, rfl⟩
      have HB7 := hid (below_dn HB6.out q7)
      clear HAT6
      go_wp2_with fail
      refine (HEP.out _ HB7.out).mono ?_
      rintro e w8 ⟨rfl, hb⟩
      have HB8 := hid (bt HB7.out hb)
      clear hb
      go_wp2_with fail
      refine (HO3.out _ HB8.out).mono ?_
      rintro e w9 ⟨lo9, ln9, lc9, rfl, hat, hb⟩
      obtain rfl := lines_none hat
      have HB9 := hid (bt HB8.out hb)
      clear hat hb
      go_wp2
      go_ret
      exact ⟨rfl, bt HBR.out HB9.out⟩
end Go.Proofs.Ytkgfpnmifgifpaa
