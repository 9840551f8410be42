/-
  The laws' SameSeal of whatever two.
-/
import Derived.Test.YtmpkbdhihdboiaaGreatSameB
import Derived.Test.YtmpkbdhihdboiaaGreatCodB
import Derived.Test.YtmpkbdhihdboiaaGreatSealI
import Derived.Deep.RegionHeld3
import Derived.Deep.QuietTactic
import Derived.BigQuiet
namespace Go.Proofs.YtmpkbdhihdboiaaGreat
open Go.RowKit Go.Maps

set_option maxRecDepth 100000 in
set_option maxHeartbeats 1000000 in
theorem sameSeal_A (w : World) (tk ct tk' ct' : ByteArray) (ep ep' : Int) (dp dp' : List Int) (ao bo : Option Addr) (ca cb m n : Nat) (hm : dp.length = m) (hn : dp'.length = n) (ha : HV w ao ca dp) (hb : HV w bo cb dp') :
    Calls Tryz.prog 63 #[.agg #[.string tk, .string ct, .int .i64 ep, .slice ao m ca], .agg #[.string tk', .string ct', .int .i64 ep', .slice bo n cb]] w fun e w' => e = .returned (.bool (decide (tk = tk' ∧ ct = ct' ∧ ep = ep' ∧ dp = dp'))) ∧ Below w.heap.size w w' := by
  obtain ⟨W, hW⟩ : ∃ W, W = (w.alloc (.cells #[.string tk, .string ct, .int .i64 ep, .slice ao m ca] 26)).alloc (.cells #[.string tk', .string ct', .int .i64 ep', .slice bo n cb] 26) := ⟨_, rfl⟩
  have HB : Hid (Below w.heap.size w W) := by rw [hW]; exact ((Below.refl _ _).alloc (Nat.le_refl _) _).alloc (by simp) _
  have HS := hid (sameVec_B W ao bo ca cb dp dp' m n hm hn (ha.below HB.out) (hb.below HB.out))
  have HW := hid hW
  clear ha hb hm hn hW
  by_cases h2 : tk = tk'
  · by_cases h3 : ct = ct'
    · by_cases h4 : ep = ep'
      · subst h2 h3 h4
        have HD : Hid (decide (tk = tk ∧ ct = ct ∧ ep = ep ∧ dp = dp') = decide (dp = dp')) := by
          show _ = _
          rw [Bool.eq_iff_iff, decide_eq_true_iff, decide_eq_true_iff]
          exact ⟨fun h => h.2.2.2, fun h => ⟨rfl, rfl, rfl, h⟩⟩
        rw [HD.out]
        have hee : (ep == ep) = true := by simp
        go_enter Tryz.func63, Tryz.ntmps63
        go_wp2_with fail
        rw [← HW.out]
        refine HS.out.mono ?_
        rintro e w' ⟨rfl, q, rfl⟩
        go_wp2
        go_ret
        exact ⟨rfl, below_dn HB.out q⟩
      · rw [decide_eq_false (fun h => h4 h.2.2.1)]
        have hnn : (ep == ep') = false := by simpa using h4
        subst h2 h3
        go_enter Tryz.func63, Tryz.ntmps63
        go_wp2
        go_ret
        rw [← HW.out]
        exact ⟨rfl, HB.out⟩
    · rw [decide_eq_false (fun h => h3 h.2.1)]
      have hb2 : (ct.toList == ct'.toList) = false := beq_eq_false_iff_ne.2 fun hh => h3 (bytes_injC hh)
      have hb3 : ¬ ct.toList = ct'.toList := fun hh => h3 (bytes_injC hh)
      subst h2
      go_enter Tryz.func63, Tryz.ntmps63
      go_wp2
      go_ret
      rw [← HW.out]
      exact ⟨rfl, HB.out⟩
  · rw [decide_eq_false (fun h => h2 h.1)]
    have hb2 : (tk.toList == tk'.toList) = false := beq_eq_false_iff_ne.2 fun hh => h2 (bytes_injC hh)
    have hb3 : ¬ tk.toList = tk'.toList := fun hh => h2 (bytes_injC hh)
    go_enter Tryz.func63, Tryz.ntmps63
    go_wp2
    go_ret
    rw [← HW.out]
    exact ⟨rfl, HB.out⟩

end Go.Proofs.YtmpkbdhihdboiaaGreat
/-
  The laws' SameEntry of whatever two.
-/
namespace Go.Proofs.YtmpkbdhihdboiaaGreat
open Go.RowKit Go.Maps

set_option maxRecDepth 100000 in
set_option maxHeartbeats 1000000 in
theorem sameEntry_A (w : World) (x y : EnM) (hx : EnOk w x) (hy : EnOk w y) : Calls Tryz.prog 20 #[x.val, y.val] w fun e w' => e = .returned (.bool (decide (x.e = y.e))) ∧ Below w.heap.size w w' := by
  obtain ⟨⟨np, tk, ct, ep, dp⟩, ao, ca⟩ := x
  obtain ⟨⟨np', tk', ct', ep', dp'⟩, bo, cb⟩ := y
  obtain ⟨m, HM⟩ : ∃ m, Hid (dp.length = m) := ⟨_, hid rfl⟩
  obtain ⟨n, HN⟩ : ∃ n, Hid (dp'.length = n) := ⟨_, hid rfl⟩
  simp only [EnM.val]
  rw [HM.out, HN.out]
  obtain ⟨W, hW⟩ : ∃ W, W = (w.alloc (.cells #[.bool np, .string tk, .string ct, .int .i64 ep, .slice ao m ca] 28)).alloc (.cells #[.bool np', .string tk', .string ct', .int .i64 ep', .slice bo n cb] 28) := ⟨_, rfl⟩
  have HB : Hid (Below w.heap.size w W) := by rw [hW]; exact ((Below.refl _ _).alloc (Nat.le_refl _) _).alloc (by simp) _
  have HS := hid (sameSeal_A W tk ct tk' ct' ep ep' dp dp' ao bo ca cb m n HM.out HN.out (hx.below HB.out).cut (hy.below HB.out).cut)
  have HW := hid hW
  clear hx hy hW
  by_cases h1 : np = np'
  · subst h1
    have HD : Hid (decide ((⟨np, tk, ct, ep, dp⟩ : En) = ⟨np, tk', ct', ep', dp'⟩) = decide (tk = tk' ∧ ct = ct' ∧ ep = ep' ∧ dp = dp')) := by
      show _ = _
      rw [Bool.eq_iff_iff, decide_eq_true_iff, decide_eq_true_iff]
      constructor
      · intro h
        cases h
        exact ⟨rfl, rfl, rfl, rfl⟩
      · rintro ⟨rfl, rfl, rfl, rfl⟩
        rfl
    rw [HD.out]
    obtain ⟨r, HR⟩ : ∃ r, Hid (decide (tk = tk' ∧ ct = ct' ∧ ep = ep' ∧ dp = dp') = r) := ⟨_, hid rfl⟩
    rw [HR.out] at HS ⊢
    have hnn : (np == np) = true := by simp
    go_enter Tryz.func20, Tryz.ntmps20
    go_wp2_with fail
    rw [← HW.out]
    refine HS.out.mono ?_
    rintro e w' ⟨rfl, hb⟩
    have HBF := hid (bt' HB.out hb)
    clear hb
    go_wp2
    go_ret
    exact ⟨rfl, HBF.out⟩
  · rw [decide_eq_false (fun h => by cases h; exact h1 rfl)]
    have hnn : (np == np') = false := by simpa using h1
    go_enter Tryz.func20, Tryz.ntmps20
    go_wp2
    go_ret
    rw [← HW.out]
    exact ⟨rfl, HB.out⟩
end Go.Proofs.YtmpkbdhihdboiaaGreat
/-
  The laws' SameEvent of whatever two events.
-/
namespace Go.Proofs.YtmpkbdhihdboiaaGreat
open Go.RowKit Go.Maps

set_option maxRecDepth 100000 in
set_option maxHeartbeats 1000000 in
theorem sameEv_any (w : World) (x y : EvM) (hx : EvOk w x) (hy : EvOk w y) :
    Calls Tryz.prog 64 #[x.val, y.val] w fun e w' => e = .returned (.bool (decide (x.e = y.e))) ∧ Below w.heap.size w w' := by
  have HB := hid (ev_two w x y)
  have HEQ : Hid (Calls Tryz.prog 22 #[.slice x.ao x.e.deps.length x.cap, .slice y.ao y.e.deps.length y.cap] ((w.alloc (.cells x.cells.toArray 70)).alloc (.cells y.cells.toArray 70)) fun e w' => e = .returned (.bool (decide (x.e.deps = y.e.deps))) ∧ ∃ q, w' = ((w.alloc (.cells x.cells.toArray 70)).alloc (.cells y.cells.toArray 70)).drewN q) :=
    sameVec_any _ x.ao y.ao x.cap y.cap x.e.deps y.e.deps _ _ rfl rfl (hx.deps.below HB.out) (hy.deps.below HB.out)
  obtain ⟨⟨o1, s1, d1, c1, p1, k1, q1, b1⟩, ao1, cap1⟩ := x
  obtain ⟨⟨o2, s2, d2, c2, p2, k2, q2, b2⟩, ao2, cap2⟩ := y
  simp only [EvM.cells] at HB HEQ
  simp only [EvM.val]
  clear hx hy
  obtain ⟨n1, HN1⟩ : ∃ n, Hid (d1.length = n) := ⟨_, hid rfl⟩
  obtain ⟨n2, HN2⟩ : ∃ n, Hid (d2.length = n) := ⟨_, hid rfl⟩
  rw [HN1.out, HN2.out] at HEQ ⊢
  rw [HN1.out, HN2.out] at HB
  by_cases ho : o1 = o2
  rotate_left 1
  · have HF : Hid (decide ((⟨o1, s1, d1, c1, p1, k1, q1, b1⟩ : Ev) = ⟨o2, s2, d2, c2, p2, k2, q2, b2⟩) = false) := decide_eq_false (fun h => ho (by injection h))
    rw [HF.out]
    go_enter Tryz.func64, Tryz.ntmps64
    go_wp2
    go_ret
    exact ⟨rfl, HB.out⟩
  subst ho
  by_cases hs : s1 = s2
  rotate_left 1
  · have HF : Hid (decide ((⟨o1, s1, d1, c1, p1, k1, q1, b1⟩ : Ev) = ⟨o1, s2, d2, c2, p2, k2, q2, b2⟩) = false) := decide_eq_false (fun h => hs (by injection h))
    rw [HF.out]
    go_enter Tryz.func64, Tryz.ntmps64
    go_wp2
    go_ret
    exact ⟨rfl, HB.out⟩
  subst hs
  obtain ⟨r, HR⟩ : ∃ r, Hid (decide (d1 = d2) = r) := ⟨_, hid rfl⟩
  rw [HR.out] at HEQ
  cases r
  · have HF : Hid (decide ((⟨o1, s1, d1, c1, p1, k1, q1, b1⟩ : Ev) = ⟨o1, s1, d2, c2, p2, k2, q2, b2⟩) = false) := decide_eq_false (fun h => of_decide_eq_false HR.out (by injection h))
    rw [HF.out]
    go_enter Tryz.func64, Tryz.ntmps64
    go_wp2_with fail
    refine HEQ.out.mono ?_
    rintro e w' ⟨rfl, q, rfl⟩
    go_wp2
    go_ret
    exact ⟨rfl, below_dn HB.out q⟩
  have HDD := hid (of_decide_eq_true HR.out)
  by_cases hc : c1 = c2
  rotate_left 1
  · have HF : Hid (decide ((⟨o1, s1, d1, c1, p1, k1, q1, b1⟩ : Ev) = ⟨o1, s1, d2, c2, p2, k2, q2, b2⟩) = false) := decide_eq_false (fun h => hc (by injection h))
    rw [HF.out]
    have hbb : ¬ c1.toList = c2.toList := fun hh => hc (bytes_inj hh)
    go_enter Tryz.func64, Tryz.ntmps64
    go_wp2_with fail
    refine HEQ.out.mono ?_
    rintro e w' ⟨rfl, q, rfl⟩
    go_wp2
    go_ret
    exact ⟨rfl, below_dn HB.out q⟩
  subst hc
  by_cases hp : p1 = p2
  rotate_left 1
  · have HF : Hid (decide ((⟨o1, s1, d1, c1, p1, k1, q1, b1⟩ : Ev) = ⟨o1, s1, d2, c1, p2, k2, q2, b2⟩) = false) := decide_eq_false (fun h => hp (by injection h))
    rw [HF.out]
    go_enter Tryz.func64, Tryz.ntmps64
    go_wp2_with fail
    refine HEQ.out.mono ?_
    rintro e w' ⟨rfl, q, rfl⟩
    go_wp2
    go_ret
    exact ⟨rfl, below_dn HB.out q⟩
  subst hp
  by_cases hk : k1 = k2
  rotate_left 1
  · have HF : Hid (decide ((⟨o1, s1, d1, c1, p1, k1, q1, b1⟩ : Ev) = ⟨o1, s1, d2, c1, p1, k2, q2, b2⟩) = false) := decide_eq_false (fun h => hk (by injection h))
    rw [HF.out]
    have hbb : ¬ k1.toList = k2.toList := fun hh => hk (bytes_inj hh)
    go_enter Tryz.func64, Tryz.ntmps64
    go_wp2_with fail
    refine HEQ.out.mono ?_
    rintro e w' ⟨rfl, q, rfl⟩
    go_wp2
    go_ret
    exact ⟨rfl, below_dn HB.out q⟩
  subst hk
  by_cases hq : q1 = q2
  rotate_left 1
  · have HF : Hid (decide ((⟨o1, s1, d1, c1, p1, k1, q1, b1⟩ : Ev) = ⟨o1, s1, d2, c1, p1, k1, q2, b2⟩) = false) := decide_eq_false (fun h => hq (by injection h))
    rw [HF.out]
    go_enter Tryz.func64, Tryz.ntmps64
    go_wp2_with fail
    refine HEQ.out.mono ?_
    rintro e w' ⟨rfl, q, rfl⟩
    go_wp2
    go_ret
    exact ⟨rfl, below_dn HB.out q⟩
  subst hq
  by_cases hb : b1 = b2
  rotate_left 1
  · have HF : Hid (decide ((⟨o1, s1, d1, c1, p1, k1, q1, b1⟩ : Ev) = ⟨o1, s1, d2, c1, p1, k1, q1, b2⟩) = false) := decide_eq_false (fun h => hb (by injection h))
    rw [HF.out]
    have hbb : (b1 == b2) = false := by simpa using hb
    go_enter Tryz.func64, Tryz.ntmps64
    go_wp2_with fail
    refine HEQ.out.mono ?_
    rintro e w' ⟨rfl, q, rfl⟩
    go_wp2
    go_ret
    exact ⟨rfl, below_dn HB.out q⟩
  subst hb
  have HF : Hid (decide ((⟨o1, s1, d1, c1, p1, k1, q1, b1⟩ : Ev) = ⟨o1, s1, d2, c1, p1, k1, q1, b1⟩) = true) := decide_eq_true (by rw [HDD.out])
  rw [HF.out]
  go_enter Tryz.func64, Tryz.ntmps64
  go_wp2_with fail
  refine HEQ.out.mono ?_
  rintro e w' ⟨rfl, q, rfl⟩
  go_wp2
  go_ret
  exact ⟨rfl, below_dn HB.out q⟩
end Go.Proofs.YtmpkbdhihdboiaaGreat
/-
  The laws' SameVoted and SameEvents of whatever two lists.
-/
namespace Go.Proofs.YtmpkbdhihdboiaaGreat
open Go.RowKit Go.Maps

/-- V is a world behind W. -/
structure ScP (W V : World) : Prop where
  out : Below W.heap.size W V
theorem ScP.start (W : World) : ScP W W := ⟨Below.refl _ _⟩
theorem ScP.go {W V U : World} (h : ScP W V) (hb : Below V.heap.size V U) : ScP W U := ⟨bt' h.out hb⟩
theorem ScP.dr {W V : World} (h : ScP W V) : ScP W V.drew := ⟨h.out.drew⟩
theorem ScP.alloc {W V : World} (h : ScP W V) (o : Obj) : ScP W (V.alloc o) := ⟨h.out.alloc h.out.size _⟩
/-- A region with a few leaves: the walk goes on once. -/
theorem wp_shareP {P : Program} {id : Nat} {ops : Array Oper} {b : Bool} {Q : Exit → Act → World → Prop} {a : Act} {w : World} {A : Act} {S : World → Prop}
    (h1 : (Code.region id ops b).wp P (NoPanic (fun e a w => e = .normal ∧ a = A ∧ S w)) a w) (h2 : ∀ w, S w → Q .normal A w) : (Code.region id ops b).wp P Q a w :=
  Code.wp_mono (fun e a w h => by
    cases e with
    | panic c => exact (h : False).elim
    | _ =>
      obtain ⟨e1, rfl, h3⟩ := h
      first | (cases e1; done) | exact h2 _ h3) h1
theorem wrapP {k : Nat} (h : k ≤ 65536) : wrap64 ((k : Int) + 1) = (k : Int) + 1 := by unfold wrap64; omega
theorem measP {n k : Nat} (h : k + 1 ≤ n) (hw : wrap64 ((k : Int) + 1) = (k : Int) + 1) : n - (intOf (.int .i64 (wrap64 ((k : Int) + 1)))).toNat < n - (intOf (.int .i64 (k : Int))).toNat := by
  rw [hw]
  simp [intOf]
  omega
theorem measP1 {n k : Nat} (h : k + 1 ≤ n) : n - (intOf (.int .i64 ((k : Int) + 1))).toNat < n - (intOf (.int .i64 (k : Int))).toNat := by
  simp [intOf]
  omega

theorem map_to {α β : Type} {f : α → β} {xs ys : List α} {N : Nat} (hx : xs.length = N) (hy : ys.length = N) {k : Nat} (hk : ¬ k < N) (h : ∀ j (h1 : j < xs.length) (h2 : j < ys.length), j < k → f xs[j] = f ys[j]) : xs.map f = ys.map f := by
  apply List.ext_getElem
  · simp; omega
  · intro i h1 h2
    simp at h1 h2
    simp only [List.getElem_map]
    exact h i h1 h2 (by omega)
theorem map_not {α β : Type} {f : α → β} {xs ys : List α} {k : Nat} (h1 : k < xs.length) (h2 : k < ys.length) (hne : f xs[k] ≠ f ys[k]) : xs.map f ≠ ys.map f := fun e => hne (by
  have h3 : (xs.map f)[k]? = (ys.map f)[k]? := by rw [e]
  simpa [List.getElem?_eq_getElem h1, List.getElem?_eq_getElem h2] using h3)
theorem map_len {α β : Type} {f : α → β} {xs ys : List α} {m n : Nat} (hx : xs.length = m) (hy : ys.length = n) (hne : m ≠ n) : xs.map f ≠ ys.map f := fun e => hne (by
  have h1 := congrArg List.length e
  simp at h1
  omega)
theorem step_to {α β : Type} {f : α → β} {xs ys : List α} {k : Nat} (h : ∀ j (h1 : j < xs.length) (h2 : j < ys.length), j < k → f xs[j] = f ys[j]) (hk1 : k < xs.length) (hk2 : k < ys.length) (he : f xs[k] = f ys[k]) : ∀ j (h1 : j < xs.length) (h2 : j < ys.length), j < k + 1 → f xs[j] = f ys[j] := fun j h1 h2 hj => by
  by_cases e : j = k
  · subst e; exact he
  · exact h j h1 h2 (by omega)
set_option maxRecDepth 1000000 in
set_option maxHeartbeats 4000000 in
theorem sameEvents_A (w : World) (ao bo : Option Addr) (ca cb : Nat) (xs ys : List EvM) (m n : Nat) (hm : xs.length = m) (hn : ys.length = n) (hx : HeldE w ao xs) (hy : HeldE w bo ys) (hl : m ≤ 65536) :
    Calls Tryz.prog 23 #[.slice ao m ca, .slice bo n cb] w fun e w' => e = .returned (.bool (decide (xs.map (fun y => y.e) = ys.map (fun y => y.e)))) ∧ Below w.heap.size w w' := by
  by_cases hmn : m = n
  · subst hmn
    have HXL := hid hm
    have HYL := hid hn
    have HX := hid hx
    have HY := hid hy
    have HL := hid hl
    have hnn : ((m : Int) != (m : Int)) = false := by simp
    clear hm hn hx hy hl
    go_enter Tryz.func23, Tryz.ntmps23
    go_wp2
    go_loopw [5] (fun i wr => ∃ k : Nat, k ≤ m ∧ i = .int .i64 k ∧ Hid (Below w.heap.size w wr ∧ ∀ j (h1 : j < xs.length) (h2 : j < ys.length), j < k → xs[j].e = ys[j].e)) (fun i _ => m - (intOf i).toNat)
    case atStart => exact ⟨0, Nat.zero_le _, rfl, Below.refl _ _, fun j _ _ hj => absurd hj (Nat.not_lt_zero _)⟩
    case round =>
      obtain ⟨k, hk, rfl, HR⟩ := hrel
      by_cases hlt : k < m
      · have hlt' : (k : Int) < (m : Int) := by omega
        have hkx : Hid (k < xs.length) := (by rw [HXL.out]; exact hlt : k < xs.length)
        have hky : Hid (k < ys.length) := (by rw [HYL.out]; exact hlt : k < ys.length)
        have HKM : Hid (k + 1 ≤ m) := (by omega : k + 1 ≤ m)
        have HST : Hid ((xs[k]'hkx.out).e = (ys[k]'hky.out).e → ∀ j (h1 : j < xs.length) (h2 : j < ys.length), j < k + 1 → xs[j].e = ys[j].e) := fun he => step_to (f := fun y : EvM => y.e) HR.out.2 hkx.out hky.out he
        have HNO : Hid ((xs[k]'hkx.out).e ≠ (ys[k]'hky.out).e → decide (xs.map (fun y => y.e) = ys.map (fun y => y.e)) = false) := fun he => decide_eq_false (map_not (f := fun y : EvM => y.e) hkx.out hky.out he)
        have HOX := hid ((HX.out.1 _ (List.getElem_mem hkx.out)).below HR.out.1)
        have HOY := hid ((HY.out.1 _ (List.getElem_mem hky.out)).below HR.out.1)
        obtain ⟨b1, o1, hao, _⟩ := HX.out.at hkx.out
        obtain ⟨b2, o2, hbo, _⟩ := HY.out.at hky.out
        subst hao hbo
        have HX1 := hid (HX.out.below HR.out.1)
        have HX2 := hid (HY.out.below HR.out.1)
        have HSE : Hid (∀ V, ScP wr V → Calls Tryz.prog 64 #[(xs[k]'hkx.out).val, (ys[k]'hky.out).val] V fun e w' => e = .returned (.bool (decide ((xs[k]'hkx.out).e = (ys[k]'hky.out).e))) ∧ ScP wr w') := fun V hV =>
          (sameEv_any V _ _ (HOX.out.below hV.out) (HOY.out.below hV.out)).mono (fun e w' hh => ⟨hh.1, hV.go hh.2⟩)
        obtain ⟨r, HRR⟩ : ∃ r, Hid (decide ((xs[k]'hkx.out).e = (ys[k]'hky.out).e) = r) := ⟨_, hid rfl⟩
        rw [HRR.out] at HSE
        obtain ⟨X, HXX⟩ : ∃ X, Hid (xs[k]'hkx.out = X) := ⟨_, hid rfl⟩
        obtain ⟨Y, HYY⟩ : ∃ Y, Hid (ys[k]'hky.out = Y) := ⟨_, hid rfl⟩
        rw [HXX.out, HYY.out] at HSE
        obtain ⟨⟨xo, xs', xd, xc, xp, xk, xq, xb⟩, ao1, cap1⟩ := X
        obtain ⟨⟨yo, ys', yd, yc, yp, yk, yq, yb⟩, ao2, cap2⟩ := Y
        obtain ⟨XN, HXN⟩ : ∃ m, Hid (xd.length = m) := ⟨_, hid rfl⟩
        obtain ⟨YN, HYN⟩ : ∃ m, Hid (yd.length = m) := ⟨_, hid rfl⟩
        simp only [EvM.val] at HSE
        rw [HXN.out, HYN.out] at HSE
        have HSA : Hid (∀ V, ScP wr V → (ScP wr V ∧ V.cell? ⟨b1, o1 + k * 8, none⟩ = some (.int .i64 xo) ∧ V.cell? ⟨b1, o1 + k * 8 + 1, none⟩ = some (.int .i64 xs') ∧ V.cell? ⟨b1, o1 + k * 8 + 2, none⟩ = some (.slice ao1 XN cap1) ∧ V.cell? ⟨b1, o1 + k * 8 + 3, none⟩ = some (.string xc) ∧ V.cell? ⟨b1, o1 + k * 8 + 4, none⟩ = some (.int .i64 xp) ∧ V.cell? ⟨b1, o1 + k * 8 + 5, none⟩ = some (.string xk) ∧ V.cell? ⟨b1, o1 + k * 8 + 6, none⟩ = some (.int .i64 xq) ∧ V.cell? ⟨b1, o1 + k * 8 + 7, none⟩ = some (.bool xb) ∧ V.cell? ⟨b2, o2 + k * 8, none⟩ = some (.int .i64 yo) ∧ V.cell? ⟨b2, o2 + k * 8 + 1, none⟩ = some (.int .i64 ys') ∧ V.cell? ⟨b2, o2 + k * 8 + 2, none⟩ = some (.slice ao2 YN cap2) ∧ V.cell? ⟨b2, o2 + k * 8 + 3, none⟩ = some (.string yc) ∧ V.cell? ⟨b2, o2 + k * 8 + 4, none⟩ = some (.int .i64 yp) ∧ V.cell? ⟨b2, o2 + k * 8 + 5, none⟩ = some (.string yk) ∧ V.cell? ⟨b2, o2 + k * 8 + 6, none⟩ = some (.int .i64 yq) ∧ V.cell? ⟨b2, o2 + k * 8 + 7, none⟩ = some (.bool yb))) := fun V hV => by
          obtain ⟨b', o', he, _, f0, f1, f2, f3, f4, f5, f6, f7⟩ := (HX1.out.below hV.out).at hkx.out
          cases he
          obtain ⟨b', o', he, _, g0, g1, g2, g3, g4, g5, g6, g7⟩ := (HX2.out.below hV.out).at hky.out
          cases he
          rw [HXX.out] at f0 f1 f2 f3 f4 f5 f6 f7
          rw [HYY.out] at g0 g1 g2 g3 g4 g5 g6 g7
          simp only at f0 f1 f2 f3 f4 f5 f6 f7 g0 g1 g2 g3 g4 g5 g6 g7
          rw [HXN.out] at f2
          rw [HYN.out] at g2
          exact ⟨hV, f0, f1, f2, f3, f4, f5, f6, f7, g0, g1, g2, g3, g4, g5, g6, g7⟩
        have hw0 : wrap64 ((k : Int) + 1) = (k : Int) + 1 := wrapP (Nat.le_trans hk HL.out)
        go_wp2
        apply wp_shareP (S := fun V => ScP wr V)
        · go_region_held3 (fun V => ScP wr V ∧ V.cell? ⟨b1, o1 + k * 8, none⟩ = some (.int .i64 xo) ∧ V.cell? ⟨b1, o1 + k * 8 + 1, none⟩ = some (.int .i64 xs') ∧ V.cell? ⟨b1, o1 + k * 8 + 2, none⟩ = some (.slice ao1 XN cap1) ∧ V.cell? ⟨b1, o1 + k * 8 + 3, none⟩ = some (.string xc) ∧ V.cell? ⟨b1, o1 + k * 8 + 4, none⟩ = some (.int .i64 xp) ∧ V.cell? ⟨b1, o1 + k * 8 + 5, none⟩ = some (.string xk) ∧ V.cell? ⟨b1, o1 + k * 8 + 6, none⟩ = some (.int .i64 xq) ∧ V.cell? ⟨b1, o1 + k * 8 + 7, none⟩ = some (.bool xb) ∧ V.cell? ⟨b2, o2 + k * 8, none⟩ = some (.int .i64 yo) ∧ V.cell? ⟨b2, o2 + k * 8 + 1, none⟩ = some (.int .i64 ys') ∧ V.cell? ⟨b2, o2 + k * 8 + 2, none⟩ = some (.slice ao2 YN cap2) ∧ V.cell? ⟨b2, o2 + k * 8 + 3, none⟩ = some (.string yc) ∧ V.cell? ⟨b2, o2 + k * 8 + 4, none⟩ = some (.int .i64 yp) ∧ V.cell? ⟨b2, o2 + k * 8 + 5, none⟩ = some (.string yk) ∧ V.cell? ⟨b2, o2 + k * 8 + 6, none⟩ = some (.int .i64 yq) ∧ V.cell? ⟨b2, o2 + k * 8 + 7, none⟩ = some (.bool yb))
            ((refine HSA.out _ ?_; (repeat (first | with_reducible assumption | exact ScP.start _ | apply ScP.dr))))
            (first
              | (go_at_call 64; with_reducible refine (HSE.out _ (by (repeat (first | with_reducible assumption | exact ScP.start _ | apply ScP.dr)))).mono ?_; rintro e x5 ⟨rfl, hs5⟩))
          all_goals
            rename_i hHeld
            exact NoPanic.normal ⟨rfl, rfl, hHeld.1⟩
        rintro W2 hs2
        have HB2 : Hid (Below w.heap.size w W2) := bt' HR.out.1 hs2.out
        clear hs2 HSE HSA
        cases r with
        | true =>
          have HN2 := hid (HST.out (of_decide_eq_true HRR.out))
          go_wp2
          go_roundw
          case rel => exact ⟨k + 1, HKM.out, by go_num, HB2.out, HN2.out⟩
          case measure => first | exact measP HKM.out hw0 | exact measP1 HKM.out
        | false =>
          have HN2 := hid (HNO.out (of_decide_eq_false HRR.out))
          go_wp2
          go_ret
          exact ⟨by rw [HN2.out]; rfl, HB2.out⟩
      · have hlt' : ¬ (k : Int) < (m : Int) := by omega
        have HE : Hid (decide (xs.map (fun y => y.e) = ys.map (fun y => y.e)) = true) := decide_eq_true (map_to (f := fun y : EvM => y.e) HXL.out HYL.out hlt HR.out.2)
        go_wp2
        go_ret
        exact ⟨by rw [HE.out]; rfl, HR.out.1⟩
  · have hne : ((m : Int) != (n : Int)) = true := by simp; omega
    have HE : Hid (decide (xs.map (fun y => y.e) = ys.map (fun y => y.e)) = false) := decide_eq_false (map_len hm hn hmn)
    clear hm hn hx hy
    rw [HE.out]
    go_enter Tryz.func23, Tryz.ntmps23
    go_wp2
    go_ret
    exact ⟨rfl, Below.refl _ _⟩
end Go.Proofs.YtmpkbdhihdboiaaGreat
