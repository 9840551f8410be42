/-
  pannierlaw12.CutWhole answers true for any events and seals of bulk at most 1048576.
-/
import Derived.Test.YtkgfpnmifgifpaaSealH
import Derived.Test.YtkgfpnmifgifpaaSealJ
import Derived.Test.YtkgfpnmifgifpaaCartS
import Derived.Test.YtkgfpnmifgifpaaVvI
import Derived.BigQuiet
namespace Go.Proofs.Ytkgfpnmifgifpaa
open Go.RowKit Go.Maps

theorem own_more {name : ByteArray} {ss : List SlM} {a b : Nat} (ha : a < ss.length) (hab : a < b) (hc : ss[a].e.cart = name) : (ownOf name (ss.take a)).length + 1 ≤ (ownOf name (ss.take b)).length := by
  have h1 := own_take (name := name) ha
  rw [if_pos hc] at h1
  have h2 : (ownOf name (ss.take (a + 1))).length = (ownOf name (ss.take a)).length + 1 := by rw [h1, List.length_append]; rfl
  have h3 : ss.take (a + 1) = (ss.take b).take (a + 1) := by rw [List.take_take, Nat.min_eq_left (by omega)]
  rw [← h2, h3]
  exact ((List.take_sublist (a + 1) (ss.take b)).filter _).length_le
theorem seal_one {ss : List SlM} (hF : FollowTo ss ss.length) {name : ByteArray} {q : Int} {x y : SlM} (hx : x ∈ ss) (hy : y ∈ ss) (h1 : Wh name q x.e) (h2 : Wh name q y.e) : x = y := by
  obtain ⟨a, ha, rfl⟩ := List.mem_iff_getElem.1 hx
  obtain ⟨b, hb, rfl⟩ := List.mem_iff_getElem.1 hy
  have ea := (hF a ha ha).2
  have eb := (hF b hb hb).2
  rw [h1.1, h1.2] at ea
  rw [h2.1, h2.2] at eb
  rcases Nat.lt_trichotomy a b with hab | hab | hab
  · have := own_more ha hab h1.1
    omega
  · subst hab
    rfl
  · have := own_more hb hab h2.1
    omega
theorem has_below {a b : List Int} (h : BelowV a b) {o s : Int} (hh : HasV a o s) : HasV b o s := by
  refine ⟨hh.1, ?_⟩
  have h1 := hh.2
  by_cases h0 : o < 0
  · have h2 := hh.1
    unfold ofV at h1
    rw [if_pos (.inl h0)] at h1
    omega
  · obtain ⟨k, rfl⟩ := Int.eq_ofNat_of_zero_le (show 0 ≤ o by omega)
    rw [ofV_nat] at h1 ⊢
    have := belowV_iff.1 h k
    omega
theorem whole_none {ss : List SlM} (hF : FollowTo ss ss.length) {name : ByteArray} {q : Int} {v : List Int} (hW : wholeOf name q v ss = true) {f : Ev} (hf : ¬ HasV v f.o f.s) : (belIs f (ownOf name ss) && decide (belEp f (ownOf name ss) = q)) = false := by
  rw [Bool.and_eq_false_iff]
  cases hb : firstBel f (ownOf name ss) with
  | none => left; unfold belIs; rw [hb]; rfl
  | some s =>
    right
    rw [decide_eq_false_iff_not]
    intro he
    unfold belEp at he
    rw [hb] at he
    have hs : s ∈ ownOf name ss := List.mem_of_find?_eq_some hb
    have hsb : Bel f s.e := by have := List.find?_some hb; simpa using this
    have hsc : s.e.cart = name := by have := (List.mem_filter.1 hs).2; simpa using this
    unfold wholeOf at hW
    cases hw : firstWh name q ss with
    | none => rw [hw] at hW; cases hW
    | some x =>
      rw [hw] at hW
      have hx : x ∈ ss := List.mem_of_find?_eq_some hw
      have hxw : Wh name q x.e := by have := List.find?_some hw; simpa using this
      have hbel : BelowV x.e.cut v := by simpa using hW
      have hxs := seal_one hF (ownOf_sub s hs) hx ⟨hsc, he⟩ hxw
      subst hxs
      exact hf (has_below hbel hsb.2.2)
theorem pick_more {ss : List SlM} {name : ByteArray} {q : Int} {xs ys : List EvM} (h : ∀ y ∈ ys, (belIs y.e (ownOf name ss) && decide (belEp y.e (ownOf name ss) = q)) = false) : pickL name ss (fun a i => i && decide (a = q)) (xs ++ ys) = pickL name ss (fun a i => i && decide (a = q)) xs := by
  have h1 : pickL name ss (fun a i => i && decide (a = q)) ys = [] := by
    unfold pickL
    rw [List.filter_eq_nil_iff]
    intro y hy
    have h2 := h y hy
    show ¬ (decide (y.e.cart = name) && (belIs y.e (ownOf name ss) && decide (belEp y.e (ownOf name ss) = q))) = true
    rw [h2, Bool.and_false]
    exact Bool.false_ne_true
  have h3 : pickL name ss (fun a i => i && decide (a = q)) (xs ++ ys) = pickL name ss (fun a i => i && decide (a = q)) xs ++ pickL name ss (fun a i => i && decide (a = q)) ys := by
    unfold pickL
    rw [List.filter_append]
  rw [h3, h1, List.append_nil]
theorem with_few7 {sv : List Int} {k : Nat} (h : sv.length ≤ 7) (hk : k ≤ 6) (n : Int) : (plainOf (withOf sv k n)).length ≤ 7 := by
  have h1 := endOf_le (withOf sv k n)
  have h2 := with_len sv k n
  rw [plain_len]
  omega
structure Vec7 (w2 : World) (so : Option Addr) (sl sc : Nat) (sv : List Int) (wr : World) : Prop where
  len : sv.length = sl
  few : sl ≤ 7
  held : HV wr so sc sv
  below : Below w2.heap.size w2 wr
set_option maxRecDepth 1000000 in
set_option maxHeartbeats 8000000 in
theorem cutWhole_walk (ao : Option Addr) (ca : Nat) (xs : List EvM) (bo : Option Addr) (cb : Nat) (ys : List EvM) (so : Option Addr) (cs : Nat) (ss : List SlM) (name : ByteArray) (ep : Int) (w : World)
    (hx : HeldE w ao xs) (hl0 : xs.length ≤ 1048576) (hd0 : ∀ x ∈ xs, x.e.deps.length ≤ 1048576) (hy : HeldE w bo ys) (hl2 : ys.length ≤ 1048576) (hd2 : ∀ x ∈ ys, x.e.deps.length ≤ 1048576) (hs : HeldSl w so ss) (hl1 : ss.length ≤ 1048576) (_ : ∀ x ∈ ss, x.e.cut.length ≤ 1048576) (_ : name.size ≤ maxLen) (_ : -9223372036854775808 ≤ ep ∧ ep ≤ 9223372036854775807) (_ : xs.length ≤ ca) (_ : ys.length ≤ cb) (hcap : ss.length ≤ cs) :
    Calls Try.prog 4 #[.slice ao xs.length ca, .slice bo ys.length cb, .slice so ss.length cs, .string name, .int .i64 ep] w fun e w' => e = .returned (.bool true) ∧ Below w.heap.size w w' := by
  obtain ⟨n, HN⟩ : ∃ n, Hid (xs.length = n) := ⟨_, hid rfl⟩
  obtain ⟨p, HP⟩ : ∃ n, Hid (ys.length = n) := ⟨_, hid rfl⟩
  obtain ⟨m, HM⟩ : ∃ n, Hid (ss.length = n) := ⟨_, hid rfl⟩
  rw [HN.out] at hl0 ⊢
  rw [HP.out] at hl2 ⊢
  rw [HM.out] at hl1 hcap ⊢
  have HX := hid hx
  have HY := hid hy
  have HS := hid hs
  have HD := hid hd0
  have HDA : Hid (∀ x ∈ xs ++ ys, x.e.deps.length ≤ 1048576) := fun x h => (List.mem_append.1 h).elim (hd0 x) (hd2 x)
  have HLV := hid (lives12_any w)
  clear hx hy hs hd0 hd2
  go_enter Try.func4, Try.ntmps4
  go_wp2_with fail
  refine HLV.out.mono ?_
  rintro e w1 ⟨rfl, hb⟩
  have HB1 := hid hb
  clear hb HLV
  have HOM := hid (ownE_made w1 w1.heap.size (Nat.le_refl _))
  have HBA : Hid (Below w1.heap.size w1 (w1.alloc (.cells #[] 34))) := (Below.refl _ _).alloc (Nat.le_refl _) _
  have HXB : Hid (∀ V, Below w1.heap.size w1 V → HeldE V ao xs ∧ HeldE V bo ys) := fun V hV => ⟨(HX.out.below HB1.out).below hV, (HY.out.below HB1.out).below hV⟩
  have hs1 : 0 + n ≤ 100000000 := by omega
  have hs2 : n + p ≤ 100000000 := by omega
  have HK1 : Hid (∀ U, Below w1.heap.size w1 U → ∀ V, Below w1.heap.size U V → AllOk V ([] ++ xs)) := fun U hU V hV => (HXB.out V (hU.trans hV)).1.1
  have HK2 : Hid (∀ U, Below w1.heap.size w1 U → ∀ V, Below w1.heap.size U V → AllOk V (xs ++ ys)) := fun U hU V hV x hx => by
    rcases List.mem_append.1 hx with hx | hx
    · exact (HXB.out V (hU.trans hV)).1.1 x hx
    · exact (HXB.out V (hU.trans hV)).2.1 x hx
  go_wp2_with (at_builtin; first
    | (refine wpList_append_evs rfl _ _ rfl w1.heap.size _ 0 [] rfl rfl HOM.out ao n ca xs HN.out rfl (HXB.out _ HBA.out).1 hs1 HBA.out.size (HK1.out _ HBA.out) ?_
       intro b2 cp2 w2 hown2 _ hb2
       rw [Nat.zero_add, List.nil_append] at hown2
       rw [Nat.zero_add]
       have HO2 := hid hown2
       have HB2 := hid (HBA.out.trans hb2)
       clear hown2 hb2)
    | (refine wpList_append_evs rfl _ _ rfl w1.heap.size _ n xs HN.out rfl HO2.out bo p cb ys HP.out rfl (HXB.out _ HB2.out).2 hs2 HB2.out.size (HK2.out _ HB2.out) ?_
       intro lo cl w3 _ hheld3 hb3
       have HH3 := hid hheld3
       have HB3 := hid (HB2.out.trans hb3)
       clear hheld3 hb3))
  have HB3w := hid (bt HB1.out HB3.out)
  have HLL : Hid ((xs ++ ys).length = n + p) := by show _ = _; rw [List.length_append, HN.out, HP.out]
  have HCK := hid (rcheck_any w3 so cs ss m HM.out (HS.out.below HB3w.out) (by omega) hcap)
  clear HK1 HK2 HOM HBA HXB HO2 HB2 hs1 hs2
  refine HCK.out.mono ?_
  rintro e w4 ⟨⟨ci, cc, rfl, hc⟩, hb⟩
  have HB4 := hid (bt HB3w.out hb)
  have HL4 := hid (HH3.out.below hb)
  clear hb HCK
  rcases hc with ⟨rfl, hfo⟩ | ⟨rfl, _⟩
  rotate_left 1
  · go_wp2
    go_ret
    exact ⟨rfl, HB4.out⟩
  have HFO := hid hfo
  have HON := hid (once_any w4 lo cl (xs ++ ys) (n + p) HLL.out HL4.out (by omega))
  clear hfo
  go_wp2_with fail
  refine HON.out.mono ?_
  rintro e w5 ⟨⟨r, rfl, hr⟩, hb⟩
  have HB5 := hid (bt HB4.out hb)
  have HL5 := hid (HL4.out.below hb)
  have HR := hid hr
  clear hb hr HON
  cases r
  · go_wp2
    go_ret
    exact ⟨rfl, HB5.out⟩
  have HQA : Hid (∀ x ∈ xs ++ ys, 0 ≤ x.e.qty ∧ x.e.qty ≤ 1000) := fun x hx => (HR.out rfl).1 _ (List.mem_map.2 ⟨x, hx, rfl⟩)
  have HQ0 : Hid (∀ x ∈ xs, 0 ≤ x.e.qty ∧ x.e.qty ≤ 1000) := fun x hx => HQA.out x (List.mem_append_left _ hx)
  have HX5 := hid (HX.out.below HB5.out)
  have HY5 := hid (HY.out.below HB5.out)
  have HS5 := hid (HS.out.below HB5.out)
  clear HR
  go_wp2
  go_loopw [14, 15, 16] (fun v x _ wr => ∃ (k : Nat) (vo : Option Addr) (sl sc : Nat) (sv : List Int), k ≤ n ∧ x = .int .i64 k ∧ v = .slice vo sl sc ∧ Hid (Vec7 w5 vo sl sc sv wr)) (fun _ x _ _ => n - (intOf x).toNat)
  case atStart => exact ⟨0, none, 0, 0, [], Nat.zero_le _, rfl, rfl, ⟨rfl, by omega, hv_none _ _, Below.refl _ _⟩⟩
  case round =>
    obtain ⟨k, vo, sl, sc, sv, hk, rfl, rfl, HA⟩ := hrel
    by_cases hlt : k < n
    · have hlt' : (k : Int) < (n : Int) := by omega
      have hkx : Hid (k < xs.length) := (by rw [HN.out]; exact hlt : k < xs.length)
      obtain ⟨bb, off, hao, _, g0, g1, _⟩ := (HX5.out.below HA.out.below).at hkx.out
      obtain ⟨O, HOO⟩ : ∃ O, Hid ((xs[k]'hkx.out).e.o = O) := ⟨_, hid rfl⟩
      obtain ⟨S, HSS⟩ : ∃ S, Hid ((xs[k]'hkx.out).e.s = S) := ⟨_, hid rfl⟩
      rw [HOO.out] at g0
      rw [HSS.out] at g1
      have HKM : Hid (k + 1 ≤ n) := (by omega : k + 1 ≤ n)
      obtain ⟨W, hW⟩ : ∃ W, W = wr.alloc (.cells #[.int .i64 O, .int .i64 S] 31) := ⟨_, rfl⟩
      have HBW : Hid (Below wr.heap.size wr W) := by rw [hW]; exact (Below.refl _ _).alloc (Nat.le_refl _) _
      have HBX : Hid (Below w5.heap.size w5 W) := bt HA.out.below HBW.out
      have HKB : Hid (Blk W wr.heap.size 31 [.int .i64 O, .int .i64 S]) := by rw [hW]; exact Blk.new wr _ _
      have hc0 := HKB.out.cell (i := 0) rfl
      have hc1 := HKB.out.cell (i := 1) rfl
      obtain ⟨Z, HZ⟩ : ∃ Z, Hid (ofV sv O = Z) := ⟨_, hid rfl⟩
      have HOQ : Hid (∀ q, Calls Try.prog 14 #[.slice vo sl sc, .int .i64 O] (W.drewN q) fun e w' => e = .returned (.int .i64 Z) ∧ w' = W.drewN q) := fun q => by
        have := of_any (W.drewN q) vo sc sv sl HA.out.len O ((HA.out.held.below HBW.out).dn q).held
        rw [HZ.out] at this
        exact this
      subst hao
      have HW := hid hW
      clear hW
      by_cases h1 : O < 0
      · rw [HW.out] at hc0 hc1
        go_wp2
        go_ret
        exact ⟨rfl, by have := bt HB5.out HBX.out; rw [HW.out] at this; exact this⟩
      by_cases h2 : 6 < O
      · rw [HW.out] at hc0 hc1
        go_wp2
        go_ret
        exact ⟨rfl, by have := bt HB5.out HBX.out; rw [HW.out] at this; exact this⟩
      by_cases h3 : S < 1
      · rw [HW.out] at hc0 hc1
        go_wp2
        go_ret
        exact ⟨rfl, by have := bt HB5.out HBX.out; rw [HW.out] at this; exact this⟩
      by_cases h4 : 2147483647 < S
      · rw [HW.out] at hc0 hc1
        go_wp2
        go_ret
        exact ⟨rfl, by have := bt HB5.out HBX.out; rw [HW.out] at this; exact this⟩
      obtain ⟨K, HKO⟩ : ∃ K : Nat, Hid (O = K) := ⟨O.toNat, by show O = (O.toNat : Int); omega⟩
      by_cases hz : Z < S
      · have HWT : Hid (∀ q, Calls Try.prog 15 #[.slice vo sl sc, .int .i64 O, .int .i64 S] (W.drewN q) (AnsW (W.drewN q) (plainOf (withOf sv K S)))) := fun q => by
          have := with_good (W.drewN q) vo sc sv sl HA.out.len ((HA.out.held.below HBW.out).dn q) K (by have := HKO.out; omega) S ⟨by omega, by omega⟩
          rw [← HKO.out] at this
          exact this
        have HFW : Hid ((plainOf (withOf sv K S)).length ≤ 7) := with_few7 (by rw [HA.out.len]; exact HA.out.few) (by have := HKO.out; omega) S
        obtain ⟨zl, HZL⟩ : ∃ zl, Hid ((plainOf (withOf sv K S)).length = zl) := ⟨_, hid rfl⟩
        rw [HW.out] at hc0 hc1
        go_wp2
        rw [← HW.out] at hc0 hc1 ⊢
        go_quiet (first | (go_at_call 14; refine Calls.quiet_of_same (HOQ.out _)))
        go_wp2_with fail
        refine (HWT.out _).mono ?_
        rintro e w6 ⟨uo, uc, rfl, hv, hb6⟩
        rw [HZL.out]
        have HV6 := hid hv
        have HB6 := hid hb6
        clear hv hb6
        go_wp2
        go_roundw
        case rel => exact ⟨k + 1, uo, zl, uc, _, HKM.out, by go_num, rfl, ⟨HZL.out, by rw [← HZL.out]; exact HFW.out, HV6.out, bt (below_dn HBX.out _) HB6.out⟩⟩
        case measure => simp [intOf]; have := HKM.out; omega
      · rw [HW.out] at hc0 hc1
        go_wp2
        rw [← HW.out] at hc0 hc1 ⊢
        go_quiet (first | (go_at_call 14; refine Calls.quiet_of_same (HOQ.out _)))
        go_wp2
        go_roundw
        case rel => exact ⟨k + 1, vo, sl, sc, sv, HKM.out, by go_num, rfl, ⟨HA.out.len, HA.out.few, (HA.out.held.below HBW.out).dn _, below_dn HBX.out _⟩⟩
        case measure => simp [intOf]; have := HKM.out; omega
    · have hlt' : ¬ (k : Int) < (n : Int) := by omega
      have HBr := hid (bt HB5.out HA.out.below)
      obtain ⟨w6, hw6⟩ : ∃ u, u = wr := ⟨_, rfl⟩
      rw [← hw6] at HA HBr ⊢
      clear hw6 hlt hk
      have HYR := hid (HY5.out.below HA.out.below)
      go_wp2
      go_loopw [17] (fun x wx => ∃ j : Nat, j ≤ p ∧ x = .int .i64 j ∧ Hid ((∀ a (ha : a < ys.length), a < j → ¬ HasV sv ys[a].e.o ys[a].e.s) ∧ Below w6.heap.size w6 wx)) (fun x _ => p - (intOf x).toNat)
      case atStart => exact ⟨0, Nat.zero_le _, rfl, fun a _ ha => absurd ha (Nat.not_lt_zero _), Below.refl _ _⟩
      case round =>
        obtain ⟨j, hj, rfl, HJ⟩ := hrel
        by_cases hjt : j < p
        · have hjt' : (j : Int) < (p : Int) := by omega
          have hjx : Hid (j < ys.length) := (by rw [HP.out]; exact hjt : j < ys.length)
          obtain ⟨bb, off, hbo, _, g0, g1, _⟩ := (HYR.out.below HJ.out.2).at hjx.out
          have HHS := hid (has_any wr vo sc sv sl HA.out.len (HA.out.held.below HJ.out.2) (ys[j]'hjx.out).e.o (ys[j]'hjx.out).e.s)
          have HJM : Hid (j + 1 ≤ p) := (by omega : j + 1 ≤ p)
          obtain ⟨q, HQ⟩ : ∃ q, Hid (decide (HasV sv (ys[j]'hjx.out).e.o (ys[j]'hjx.out).e.s) = q) := ⟨_, hid rfl⟩
          have HNX : Hid (q = false → ∀ a (ha : a < ys.length), a < j + 1 → ¬ HasV sv ys[a].e.o ys[a].e.s) := fun hq a ha hak => by
            by_cases e : a = j
            · subst e
              exact of_decide_eq_false (HQ.out.trans hq)
            · exact HJ.out.1 a ha (by omega)
          rw [HQ.out] at HHS
          subst hbo
          go_wp2_with fail
          refine HHS.out.mono ?_
          rintro e w7 ⟨rfl, hb⟩
          have HB7 := hid (bt HJ.out.2 hb)
          clear hb HHS
          cases q
          · go_wp2
            go_roundw
            case rel => exact ⟨j + 1, HJM.out, by go_num, HNX.out (by trivial), HB7.out⟩
            case measure => simp [intOf]; have := HJM.out; omega
          · go_wp2
            go_ret
            exact ⟨rfl, bt HBr.out HB7.out⟩
        · have hjt' : ¬ (j : Int) < (p : Int) := by omega
          have HNH : Hid (∀ y ∈ ys, ¬ HasV sv y.e.o y.e.s) := fun y hy => by
            obtain ⟨a, ha, rfl⟩ := List.mem_iff_getElem.1 hy
            exact HJ.out.1 a ha (by have := HP.out; omega)
          have HBJ := hid HJ.out.2
          have HB8 := hid (bt HA.out.below HBJ.out)
          have HWH := hid (whole_any wr vo so sc cs sv sl HA.out.len (HA.out.held.below HBJ.out) ss m HM.out (HS5.out.below HB8.out) (by omega) name ep)
          obtain ⟨q, HQ⟩ : ∃ q, Hid (wholeOf name ep sv ss = q) := ⟨_, hid rfl⟩
          rw [HQ.out] at HWH
          clear HJ hjt hj
          go_wp2_with fail
          refine HWH.out.mono ?_
          rintro e w7 ⟨rfl, hb⟩
          have HB7 := hid (bt HBJ.out hb)
          have HB75 := hid (bt HA.out.below HB7.out)
          clear hb HWH
          cases q
          · go_wp2
            go_ret
            exact ⟨rfl, bt HBr.out HB7.out⟩
          obtain ⟨f, hf⟩ : ∃ f, linesQ name ((pickL name ss (fun a i => i && decide (a = ep)) xs).map (·.e)) = f := ⟨_, rfl⟩
          have HPK : Hid (linesQ name ((pickL name ss (fun a i => i && decide (a = ep)) (xs ++ ys)).map (·.e)) = f) := by
            show _ = _
            rw [pick_more fun y hy => whole_none HFO.out HQ.out (HNH.out y hy)]
            exact hf
          have HF := hid hf
          clear hf
          have HO1 := hid (cutOrder_any w7 ao so ca cs xs ss n m HN.out HM.out (HX5.out.below HB75.out) (HS5.out.below HB75.out) (by omega) (by omega) HD.out HQ0.out name ep HF.out)
          have HO2 := hid (fun V (hV : Below w5.heap.size w5 V) => cutOrder_any V lo so cl cs (xs ++ ys) ss (n + p) m HLL.out HM.out (HL5.out.below hV) (HS5.out.below hV) (by omega) (by omega) HDA.out HQA.out name ep HPK.out)
          go_wp2_with fail
          refine HO1.out.mono ?_
          rintro e w8 ⟨lo8, ln8, lc8, rfl, hat, hb⟩
          have HAT := hid hat
          have HB8' := hid (bt HB75.out hb)
          clear hat hb HO1
          go_wp2_with fail
          refine (HO2.out _ HB8'.out).mono ?_
          rintro e w9 ⟨lo9, ln9, lc9, rfl, hat, hb⟩
          have HAT8 := hid (HAT.out.below hb)
          have HAT9 := hid hat
          have HB9 := hid (bt HB8'.out hb)
          clear hat hb HAT
          go_wp2_with fail
          refine (rsame_at lc8 lc9 HAT8.out HAT9.out).mono ?_
          rintro e w10 ⟨rfl, q10, rfl⟩
          go_wp2
          go_ret
          exact ⟨rfl, below_dn (bt HB5.out HB9.out) q10⟩
end Go.Proofs.Ytkgfpnmifgifpaa
