/-
  pannierlaw12.CutLate answers true for any events and seals of bulk at most 1048576.
-/
import Derived.Test.YtkgfpnmifgifpaaSealH
import Derived.Test.YtkgfpnmifgifpaaSealJ
import Derived.Test.YtkgfpnmifgifpaaCartS
namespace Go.Proofs.Ytkgfpnmifgifpaa
open Go.RowKit Go.Maps

def lx (name sku : ByteArray) (qty : Int) : Ev := ⟨6, 1, [], name, 0, sku, qty, false⟩
theorem late_q {l : List Ev} (hl : OneEach l) {name sku : ByteArray} {qty : Int} (h6 : ∀ f ∈ l, ¬ f.o = 6 ∧ ofV f.deps 6 ≤ 0) : linesQ name (l ++ [lx name sku qty]) sku = linesQ name l sku + qty := by
  obtain ⟨_, h2⟩ := count_snoc (e := lx name sku qty) hl rfl (fun f hf hg => by
    have h1 := hg.2.2.2.1
    have h3 : (1 : Int) ≤ 1 ∧ 1 ≤ ofV f.deps 6 := h1
    have h4 := (h6 f hf).2
    omega) (fun f hf h => (h6 f hf).1 h.1) name
  unfold linesQ
  rw [qtyOf_perm h2, qtyOf_append, if_pos (show (lx name sku qty).cart = name from rfl)]
  simp [qtyOf, lx]
theorem late_none {name sku : ByteArray} {qty : Int} {ss : List SlM} (h : ∀ s ∈ ss, ofV s.e.cut 6 ≤ 0) : firstBel (lx name sku qty) (ownOf name ss) = none := by
  unfold firstBel
  rw [List.find?_eq_none]
  intro x hx
  have h1 := h x (ownOf_sub x hx)
  simp only [decide_eq_true_eq]
  intro hb
  have h2 : (1 : Int) ≤ 1 ∧ 1 ≤ ofV x.e.cut 6 := hb.2.2
  omega
theorem pick_late_ord {name sku : ByteArray} {qty : Int} {ss : List SlM} (h : ∀ s ∈ ss, ofV s.e.cut 6 ≤ 0) (q : Int) (xs : List EvM) {X : EvM} (hX : X.e = lx name sku qty) : pickL name ss (fun a i => i && decide (a = q)) (xs ++ [X]) = pickL name ss (fun a i => i && decide (a = q)) xs := by
  unfold pickL
  rw [List.filter_append]
  have : belIs X.e (ownOf name ss) = false := by unfold belIs; rw [hX, late_none h]; rfl
  simp [this]
theorem pick_late_opn {name sku : ByteArray} {qty : Int} {ss : List SlM} (h : ∀ s ∈ ss, ofV s.e.cut 6 ≤ 0) (xs : List EvM) {X : EvM} (hX : X.e = lx name sku qty) : pickL name ss (fun _ i => !i) (xs ++ [X]) = pickL name ss (fun _ i => !i) xs ++ [X] := by
  unfold pickL
  rw [List.filter_append]
  have h1 : belIs X.e (ownOf name ss) = false := by unfold belIs; rw [hX, late_none h]; rfl
  have h2 : X.e.cart = name := by rw [hX]; rfl
  simp [h1, h2]
theorem of12_at {f : ByteArray → Int} (hf : ∀ s, 0 ≤ f s) {V : World} {lo : Option Addr} {ln : Nat} (lc : Nat) (h : LinesAt f V lo ln) (s : ByteArray) {q : Int} (hq : f s = q) :
    Calls Try.prog 20 #[.slice lo ln lc, .string s] V fun e w' => e = .returned (.int .i64 q) ∧ w' = V := by
  obtain ⟨ls, h1, h2, h3, h4⟩ := h
  have := of12_any V lo lc ls ln h2 h3 h4 s
  rw [linesOf_q h1 hf hq] at this
  exact this
set_option maxRecDepth 1000000 in
set_option maxHeartbeats 8000000 in
theorem cutLate_walk (ao : Option Addr) (ca : Nat) (xs : List EvM) (so : Option Addr) (cs : Nat) (ss : List SlM) (name sku : ByteArray) (qty : Int) (w : World)
    (hx : HeldE w ao xs) (hl0 : xs.length ≤ 1048576) (hd0 : ∀ x ∈ xs, x.e.deps.length ≤ 1048576) (hs : HeldSl w so ss) (hl1 : ss.length ≤ 1048576) (_ : ∀ x ∈ ss, x.e.cut.length ≤ 1048576) (hs0 : name.size ≤ maxLen) (hs1 : sku.size ≤ maxLen) (_ : -9223372036854775808 ≤ qty ∧ qty ≤ 9223372036854775807) (_ : xs.length ≤ ca) (hcap : ss.length ≤ cs) :
    Calls Try.prog 5 #[.slice ao xs.length ca, .slice so ss.length cs, .string name, .string sku, .int .i64 qty] w fun e w' => e = .returned (.bool true) ∧ Below w.heap.size w w' := by
  obtain ⟨n, HN⟩ : ∃ n, Hid (xs.length = n) := ⟨_, hid rfl⟩
  obtain ⟨m, HM⟩ : ∃ n, Hid (ss.length = n) := ⟨_, hid rfl⟩
  rw [HN.out] at hl0 ⊢
  rw [HM.out] at hl1 hcap ⊢
  have HX := hid hx
  have HS := hid hs
  have HD := hid hd0
  have HS0 := hid hs0
  have HS1 := hid hs1
  have HLV := hid (lives12_any w)
  clear hx hs hd0 hs0 hs1
  go_enter Try.func5, Try.ntmps5
  go_wp2_with fail
  refine HLV.out.mono ?_
  rintro e w1 ⟨rfl, hb⟩
  have HB1 := hid hb
  have HCK := hid (rcheck_any w1 so cs ss m HM.out (HS.out.below HB1.out) (by omega) hcap)
  clear hb HLV
  go_wp2_with fail
  refine HCK.out.mono ?_
  rintro e w2 ⟨⟨ci, cc, rfl, hc⟩, hb⟩
  have HB2 := hid (bt HB1.out hb)
  clear hb HCK
  rcases hc with ⟨rfl, _⟩ | rfl
  rotate_left 1
  · go_wp2
    go_ret
    exact ⟨rfl, HB2.out⟩
  have HON := hid (once_any w2 ao ca xs n HN.out (HX.out.below HB2.out) (by omega))
  go_wp2_with fail
  refine HON.out.mono ?_
  rintro e w3 ⟨⟨r, rfl, hr⟩, hb⟩
  have HB3 := hid (bt HB2.out hb)
  have HR := hid hr
  clear hb hr HON
  cases r
  · go_wp2
    go_ret
    exact ⟨rfl, HB3.out⟩
  by_cases hq : qty < 1
  · go_wp2
    go_ret
    exact ⟨rfl, HB3.out⟩
  by_cases hq1 : 1000 < qty
  · go_wp2
    go_ret
    exact ⟨rfl, HB3.out⟩
  have HOL := hid (HR.out rfl)
  have HX3 := hid (HX.out.below HB3.out)
  have HS3 := hid (HS.out.below HB3.out)
  clear HR
  go_wp2
  go_loop [13] (fun x => ∃ k : Nat, k ≤ n ∧ x = .int .i64 k ∧ Hid (∀ a (ha : a < xs.length), a < k → ¬ xs[a].e.o = 6 ∧ ofV xs[a].e.deps 6 ≤ 0)) (fun x => n - (intOf x).toNat)
  case atStart => exact ⟨0, Nat.zero_le _, rfl, fun a _ ha => absurd ha (Nat.not_lt_zero _)⟩
  case round =>
    obtain ⟨k, hk, rfl, HA⟩ := hrel
    by_cases hlt : k < n
    · have hlt' : (k : Int) < (n : Int) := by omega
      have hkx : Hid (k < xs.length) := (by rw [HN.out]; exact hlt : k < xs.length)
      obtain ⟨bb, off, hao, _, g0, _, g2, _⟩ := HX3.out.at hkx.out
      subst hao
      have HO := hid (of_any w3 (xs[k]'hkx.out).ao (xs[k]'hkx.out).cap (xs[k]'hkx.out).e.deps _ rfl 6 (HX3.out.1 _ (List.getElem_mem hkx.out)).deps.held)
      have HKM : Hid (k + 1 ≤ n) := (by omega : k + 1 ≤ n)
      obtain ⟨O, HOO⟩ : ∃ O, Hid ((xs[k]'hkx.out).e.o = O) := ⟨_, hid rfl⟩
      obtain ⟨Y, HY⟩ : ∃ Y, Hid (ofV (xs[k]'hkx.out).e.deps 6 = Y) := ⟨_, hid rfl⟩
      rw [HOO.out] at g0
      rw [HY.out] at HO
      by_cases h6 : O = 6
      · have h6' : (O == 6) = true := by simp [h6]
        subst h6
        go_wp2
        go_ret
        exact ⟨rfl, HB3.out⟩
      · have h6' : (O == 6) = false := by simp [h6]
        have H6 := hid h6
        clear h6
        go_wp2_with fail
        refine HO.out.mono ?_
        rintro e w4 ⟨rfl, rfl⟩
        by_cases hy : 0 < Y
        · go_wp2
          go_ret
          exact ⟨rfl, HB3.out⟩
        · go_wp2
          go_round
          case rel =>
            refine ⟨k + 1, HKM.out, by go_num, fun a ha hak => ?_⟩
            by_cases e : a = k
            · subst e
              rw [HOO.out, HY.out]
              exact ⟨H6.out, by omega⟩
            · exact HA.out a ha (by omega)
          case measure => simp [intOf]; have := HKM.out; omega
    · have hlt' : ¬ (k : Int) < (n : Int) := by omega
      have H6 : Hid (∀ x ∈ xs, ¬ x.e.o = 6 ∧ ofV x.e.deps 6 ≤ 0) := fun x hx => by
        obtain ⟨a, ha, rfl⟩ := List.mem_iff_getElem.1 hx
        exact HA.out a ha (by have := HN.out; omega)
      clear HA hlt hk
      go_wp2
      go_loop [14] (fun x => ∃ j : Nat, j ≤ m ∧ x = .int .i64 j ∧ Hid (∀ a (ha : a < ss.length), a < j → ofV ss[a].e.cut 6 ≤ 0)) (fun x => m - (intOf x).toNat)
      case atStart => exact ⟨0, Nat.zero_le _, rfl, fun a _ ha => absurd ha (Nat.not_lt_zero _)⟩
      case round =>
        obtain ⟨j, hj, rfl, HC⟩ := hrel
        by_cases hjt : j < m
        · have hjt' : (j : Int) < (m : Int) := by omega
          have hjx : Hid (j < ss.length) := (by rw [HM.out]; exact hjt : j < ss.length)
          obtain ⟨bb, off, hso, _, _, _, _, g3⟩ := HS3.out.at hjx.out
          subst hso
          have HO := hid (of_any w3 (ss[j]'hjx.out).ao (ss[j]'hjx.out).cap (ss[j]'hjx.out).e.cut _ rfl 6 (HS3.out.1 _ (List.getElem_mem hjx.out)).cut.held)
          have HJM : Hid (j + 1 ≤ m) := (by omega : j + 1 ≤ m)
          obtain ⟨Y, HY⟩ : ∃ Y, Hid (ofV (ss[j]'hjx.out).e.cut 6 = Y) := ⟨_, hid rfl⟩
          rw [HY.out] at HO
          go_wp2_with fail
          refine HO.out.mono ?_
          rintro e w4 ⟨rfl, rfl⟩
          by_cases hy : 0 < Y
          · go_wp2
            go_ret
            exact ⟨rfl, HB3.out⟩
          · go_wp2
            go_round
            case rel =>
              refine ⟨j + 1, HJM.out, by go_num, fun a ha hak => ?_⟩
              by_cases e : a = j
              · subst e
                rw [HY.out]
                omega
              · exact HC.out a ha (by omega)
            case measure => simp [intOf]; have := HJM.out; omega
        · have hjt' : ¬ (j : Int) < (m : Int) := by omega
          have HCC : Hid (∀ s ∈ ss, ofV s.e.cut 6 ≤ 0) := fun x hx => by
            obtain ⟨a, ha, rfl⟩ := List.mem_iff_getElem.1 hx
            exact HC.out a ha (by have := HM.out; omega)
          clear HC hjt hj
          obtain ⟨X, hX⟩ : ∃ X : EvM, X = ⟨lx name sku qty, none, 0⟩ := ⟨_, rfl⟩
          have HXC : Hid (X.cells = [.int .i64 6, .int .i64 1, .slice none 0 0, .string name, .int .i64 0, .string sku, .int .i64 qty, .bool false]) := by show _ = _; rw [hX]; rfl
          have HXO : Hid (∀ V, EvOk V X) := fun V => by rw [hX]; exact ⟨hv_none _ 0, by unfold I64; simp [lx], by unfold I64; simp [lx], by unfold I64; simp [lx], i64_small (x := qty) (by omega) (by omega), HS0.out, HS1.out⟩
          have HXE : Hid (X.e = lx name sku qty) := by show _ = _; rw [hX]
          clear hX
          have HOM := hid (ownE_made w3 w3.heap.size (Nat.le_refl _))
          have HBA : Hid (Below w3.heap.size w3 (w3.alloc (.cells #[] 34))) := (Below.refl _ _).alloc (Nat.le_refl _) _
          have hs1 : 0 + n ≤ 100000000 := by omega
          have HK1 : Hid (∀ V, Below w3.heap.size (w3.alloc (.cells #[] 34)) V → AllOk V ([] ++ xs)) := fun V hV => (HX3.out.below (HBA.out.trans hV)).1
          have hnl : n < 1466015503701 := by omega
          go_wp2_with (at_builtin; first
            | (refine wpList_append_evs rfl _ _ rfl w3.heap.size _ 0 [] rfl rfl HOM.out ao n ca xs HN.out rfl (HX3.out.below HBA.out) hs1 HBA.out.size HK1.out ?_
               intro b4 cp4 w4 hown4 _ hb4
               rw [Nat.zero_add, List.nil_append] at hown4
               rw [Nat.zero_add]
               have HO4 := hid hown4
               have HB4 := hid (HBA.out.trans hb4)
               clear hown4 hb4)
            | (refine wpList_append_ev w4 _ X ?_ rfl _ _ rfl w3.heap.size _ xs n HN.out rfl rfl HO4.out HB4.out.size hnl ?_
               · rw [HXC.out]
               intro v5 w5 hown5 hb5 _
               have HO5 := hid hown5
               have HB5 := hid (HB4.out.trans hb5)
               clear hown5 hb5))
          have HB5w := hid (bt HB3.out HB5.out)
          have HX5 := hid (HX3.out.below HB5.out)
          have HS5 := hid (HS3.out.below HB5.out)
          have HLN : Hid ((xs ++ [X]).length = n + 1) := by show _ = _; rw [List.length_append, HN.out]; rfl
          have hok5 : AllOk w5 (xs ++ [X]) := fun x hx => by
            rcases List.mem_append.1 hx with hx | hx
            · exact HX5.out.1 x hx
            · rw [List.mem_singleton.1 hx]
              exact HXO.out w5
          obtain ⟨eo, ec, hv5, _, hh5⟩ := heldE_of_own HLN.out HO5.out hok5
          have HA5 := hid hh5
          subst hv5
          clear hok5 hh5 HO5 HO4 HB4 HOM HBA HK1
          have HQ0 : Hid (∀ x ∈ xs, 0 ≤ x.e.qty ∧ x.e.qty ≤ 1000) := fun x hx => HOL.out.1 _ (List.mem_map.2 ⟨x, hx, rfl⟩)
          have HDX : Hid (∀ x ∈ xs ++ [X], x.e.deps.length ≤ 1048576) := fun x hx => by
            rcases List.mem_append.1 hx with hx | hx
            · exact HD.out x hx
            · rw [List.mem_singleton.1 hx, HXE.out]
              simp [lx]
          have HQX : Hid (∀ x ∈ xs ++ [X], 0 ≤ x.e.qty ∧ x.e.qty ≤ 1000) := fun x hx => by
            rcases List.mem_append.1 hx with hx | hx
            · exact HQ0.out x hx
            · rw [List.mem_singleton.1 hx, HXE.out]
              exact ⟨by show 0 ≤ qty; omega, by show qty ≤ 1000; omega⟩
          obtain ⟨E, HE⟩ : ∃ E, Hid ((ownOf name ss).length = E) := ⟨_, hid rfl⟩
          have HEP := hid (fun V (hV : Below w5.heap.size w5 V) => epoch_any V so cs ss m HM.out (HS5.out.below hV) (by omega) name)
          rw [HE.out] at HEP
          have hEs : E ≤ 1048576 := by have h1 := ownOf_len name ss; rw [HE.out, HM.out] at h1; omega
          have HO1 := hid (fun V (hV : Below w5.heap.size w5 V) q => cutOrder_any V eo so ec cs (xs ++ [X]) ss (n + 1) m HLN.out HM.out (HA5.out.below hV) (HS5.out.below hV) (by omega) (by omega) HDX.out HQX.out name q (f := linesQ name ((pickL name ss (fun a i => i && decide (a = q)) xs).map (·.e))) (by rw [pick_late_ord HCC.out q xs HXE.out]))
          have HO2 := hid (fun V (hV : Below w5.heap.size w5 V) q => cutOrder_any V ao so ca cs xs ss n m HN.out HM.out (HX5.out.below hV) (HS5.out.below hV) (by omega) (by omega) HD.out HQ0.out name q (f := linesQ name ((pickL name ss (fun a i => i && decide (a = q)) xs).map (·.e))) rfl)
          obtain ⟨ps, HPS⟩ : ∃ ps, Hid (pickL name ss (fun _ i => !i) xs = ps) := ⟨_, hid rfl⟩
          have HPU : Hid (∀ x ∈ ps, x ∈ xs) := by rw [← HPS.out]; exact pick_sub
          have HPN : Hid (ps.length ≤ n) := by have h1 := pick_len name ss (fun _ i => !i) xs; rw [HPS.out, HN.out] at h1; exact h1
          obtain ⟨f2, hf2⟩ : ∃ f, linesQ name (ps.map (·.e)) = f := ⟨_, rfl⟩
          obtain ⟨f1, hf1⟩ : ∃ f, linesQ name ((ps ++ [X]).map (·.e)) = f := ⟨_, rfl⟩
          have HEQ : Hid (f1 sku = f2 sku + qty) := by
            show _ = _
            rw [← hf1, ← hf2, List.map_append, List.map_cons, List.map_nil, HXE.out]
            refine late_q (HOL.out.one.sub fun e he => ?_) (fun f hf => ?_)
            · obtain ⟨x, hx, rfl⟩ := List.mem_map.1 he
              exact List.mem_map.2 ⟨x, HPU.out x hx, rfl⟩
            · obtain ⟨x, hx, rfl⟩ := List.mem_map.1 hf
              exact H6.out x (HPU.out x hx)
          have HP2 : Hid (∀ s, 0 ≤ f2 s) := fun s => by rw [← hf2]; exact linesQ_nonneg (fun e he => by obtain ⟨x, hx, rfl⟩ := List.mem_map.1 he; exact (HQ0.out x (HPU.out x hx)).1) s
          have HP1 : Hid (∀ s, 0 ≤ f1 s) := fun s => by
            rw [← hf1]
            exact linesQ_nonneg (fun e he => by
              obtain ⟨x, hx, rfl⟩ := List.mem_map.1 he
              rcases List.mem_append.1 hx with hx | hx
              · exact (HQ0.out x (HPU.out x hx)).1
              · exact (HQX.out x (List.mem_append_right _ hx)).1) s
          have HBD : Hid (f2 sku ≤ 1048576000) := by
            show _ ≤ _
            rw [← hf2]
            have h1 := qtyOf_le (k := sku) (l := countOf name (ps.map (·.e))) (fun e he => by
              have h2 := firstsFrom_sub _ _ e he
              obtain ⟨x, hx, rfl⟩ := List.mem_map.1 (ofCart_mem.1 (standOf_mem.1 h2).1).1
              exact HQ0.out x (HPU.out x hx))
            have h3 : (countOf name (ps.map (·.e))).length ≤ n := by
              rw [← countM_e, List.length_map]
              exact Nat.le_trans (countM_len name ps) HPN.out
            unfold linesQ
            omega
          obtain ⟨Z, HZ⟩ : ∃ Z, Hid (f2 sku = Z) := ⟨_, hid rfl⟩
          rw [HZ.out] at HEQ HBD
          have hz0 : 0 ≤ Z := by have := HP2.out sku; rw [HZ.out] at this; exact this
          have hz1 : Z ≤ 1048576000 := HBD.out
          have HP1' := hid (fun V (hV : Below w5.heap.size w5 V) => cutOpen_any V eo so ec cs (xs ++ [X]) ss (n + 1) m HLN.out HM.out (HA5.out.below hV) (HS5.out.below hV) (by omega) (by omega) HDX.out HQX.out name (f := f1) (by rw [pick_late_opn HCC.out xs HXE.out, HPS.out]; exact hf1))
          have HP2' := hid (fun V (hV : Below w5.heap.size w5 V) => cutOpen_any V ao so ca cs xs ss n m HN.out HM.out (HX5.out.below hV) (HS5.out.below hV) (by omega) (by omega) HD.out HQ0.out name (f := f2) (by rw [HPS.out]; exact hf2))
          have hwr : IntKind.i64.wrap (Z + qty) = Z + qty := wrapI (by omega) (by omega)
          clear hf1 hf2
          go_wp2
          go_loopw [16] (fun x wr => ∃ i : Nat, i ≤ E ∧ x = .int .i64 i ∧ Hid (Below w5.heap.size w5 wr)) (fun x _ => E - (intOf x).toNat)
          case atStart => exact ⟨0, Nat.zero_le _, rfl, Below.refl _ _⟩
          case round =>
            obtain ⟨i, hi, rfl, HBI⟩ := hrel
            go_wp2_with fail
            refine (HEP.out _ HBI.out).mono ?_
            rintro e w6 ⟨rfl, hb⟩
            have HB6 := hid (bt HBI.out hb)
            clear hb
            by_cases hit : i < E
            · have hit' : (i : Int) < (E : Int) := by omega
              have HIM : Hid (i + 1 ≤ E) := (by omega : i + 1 ≤ E)
              go_wp2_with fail
              refine (HO1.out _ HB6.out (i : Int)).mono ?_
              rintro e w7 ⟨lo7, ln7, lc7, rfl, hat, hb⟩
              have HAT := hid hat
              have HB7 := hid (bt HB6.out hb)
              clear hat hb
              go_wp2_with fail
              refine (HO2.out _ HB7.out (i : Int)).mono ?_
              rintro e w8 ⟨lo8, ln8, lc8, rfl, hat, hb⟩
              have HAT7 := hid (HAT.out.below hb)
              have HAT8 := hid hat
              have HB8 := hid (bt HB7.out hb)
              clear hat hb HAT
              go_wp2_with fail
              refine (rsame_at lc7 lc8 HAT7.out HAT8.out).mono ?_
              rintro e w9 ⟨rfl, q9, rfl⟩
              have HB9 := hid (below_dn HB8.out q9)
              clear HAT7 HAT8
              go_wp2
              go_roundw
              case rel => exact ⟨i + 1, HIM.out, by go_num, HB9.out⟩
              case measure => simp [intOf]; have := HIM.out; omega
            · have hit' : ¬ (i : Int) < (E : Int) := by omega
              go_wp2_with fail
              refine (HP1'.out _ HB6.out).mono ?_
              rintro e w7 ⟨lo7, ln7, lc7, rfl, hat, hb⟩
              have HAT := hid hat
              have HB7 := hid (bt HB6.out hb)
              clear hat hb
              go_wp2_with fail
              refine (of12_at HP1.out lc7 HAT.out sku HEQ.out).mono ?_
              rintro e w8 ⟨rfl, rfl⟩
              go_wp2_with fail
              refine (HP2'.out _ HB7.out).mono ?_
              rintro e w9 ⟨lo9, ln9, lc9, rfl, hat, hb⟩
              have HAT9 := hid hat
              have HB9 := hid (bt HB7.out hb)
              clear hat hb
              go_wp2_with fail
              refine (of12_at HP2.out lc9 HAT9.out sku HZ.out).mono ?_
              rintro e w10 ⟨rfl, rfl⟩
              go_wp2
              go_ret
              exact ⟨by simp, bt HB5w.out HB9.out⟩
end Go.Proofs.Ytkgfpnmifgifpaa
