/-
  Package learner: Fork (maps.Clone); the slots of the document's prefix.
-/
import Derived.Test.YtgghfmdciohinaaLdH
import Derived.Shelf.SlMaps.Clone
import Derived.Shelf.Lay
import Derived.Ground.SlmcProg
import Derived.Test.YtgghfmdciohinaaLrS
import Derived.Test.YtgghfmdciohinaaCodB
namespace Go.Proofs
open Go.Shelf Go.RowKit Go.Lib
shelf_lay_g SlLaysW.n5 Slmc 5 at Try 25 as Ytgghfmdciohinaa.cloneIE
end Go.Proofs
namespace Go.Proofs.Ytgghfmdciohinaa
open Go.RowKit Go.Maps

theorem RlIn.choose {B : Nat} {w : World} {x : Nat} {g : Lr} {xs : List StM} {eo : Option Addr} {cap : Nat} (h : RlIn B w x g xs eo cap) (s : Int) (hs : I64 s) (y : EnM) (hy : EnOk w y) (hyl : ∀ b off, y.ao = some ⟨b, off, none⟩ → y.e.cut ≠ [] → b < B) (hB : B ≤ w.heap.size) : Calls Try.prog 8 #[.pointer (some ⟨x, 0, none⟩), .int .i64 s, y.val] w (RChP B w x g eo s y.e) := by
  by_cases hr : 0 ≤ s ∧ s ≤ 2147483647 ∧ RightEn y.e = true
  · cases hf : findR xs s with
    | some z => exact h.choose_has s hs y hy hr hf
    | none => exact h.choose_new s hs y hy hr hyl hB hf
  · exact h.choose_arg s y hy hr
theorem preR_at : ∀ (k : Nat) (xs : List StM) (i : Nat), i < preR k xs → ∃ h : i < xs.length, xs[i].n = ((k + i : Nat) : Int)
  | k, [], i, h => by simp [preR] at h
  | k, x :: r, i, h => by
    have h' : i < (if x.n = (k : Int) then preR (k + 1) r + 1 else 0) := h
    by_cases e : x.n = (k : Int)
    · rw [if_pos e] at h'
      cases i with
      | zero => exact ⟨by simp, by simpa using e⟩
      | succ i =>
        obtain ⟨h1, h2⟩ := preR_at (k + 1) r i (by omega)
        refine ⟨by simpa using h1, ?_⟩
        simp only [List.getElem_cons_succ]
        rw [h2]
        omega
    · rw [if_neg e] at h'
      omega
theorem cloneE_any {V : World} {m n : Nat} {S : Int → Option EnM} {D : DataW Value} (h : EnMap V m S n D) : Calls Try.prog 25 #[.map (some m)] V fun e w' => ∃ m', e = .returned (.map (some m')) ∧ EnMap w' m' S n D ∧ V.heap.size ≤ m' ∧ Below V.heap.size V w' := by
  have hc := AnyW.maps_Clone_owns cloneIE 3 valR m n D V h.map
  refine Calls.mono hc ?_
  rintro e w' ⟨rfl, h1, _, h3⟩
  exact ⟨_, rfl, ⟨h1, h.key, fun s x hs => (h.ok s x hs).below h3, h.cnt⟩, Nat.le_refl _, h3⟩
/-- What Fork answers: another learner, in new blocks. -/
def ForkL (w : World) (g : Lr) (pre z : Nat) (F : Nat → Prop) (p' m' : Nat) (w' : World) : Prop := LrAt w' p' m' pre z g ∧ FarL w' m' g F ∧ Below w.heap.size w w' ∧ w.heap.size ≤ p' ∧ w.heap.size ≤ m'
theorem forkL_of {w U W' : World} {p m p' m' pre z n : Nat} {g : Lr} {F : Nat → Prop} {S : Int → Option EnM} {D : DataW Value} (h : LrAt w p m pre z g) (hn : g.ks.length = n) (hS : ∀ t, (S t).map (·.e) = g.f t) (hf : ∀ s x b off, S s = some x → x.ao = some ⟨b, off, none⟩ → x.e.cut ≠ [] → ¬ F b) (hs : ScL w U) (hm : EnMap U m' S n D) (hml : w.heap.size ≤ m') (hW : W' = U.alloc (.cells #[.map (some m'), .int .i64 (pre : Int), .int .i64 (z : Int)] 49)) (hp : p' = U.heap.size) : ForkL w g pre z F p' m' W' := by
  subst hn hW hp
  have hb : Below U.heap.size U (U.alloc (.cells #[.map (some m'), .int .i64 (pre : Int), .int .i64 (z : Int)] 49)) := (Below.refl _ _).alloc (Nat.le_refl _) _
  refine ⟨⟨⟨h.ok, Blk.new U _ _, h.all, h.fin, S, D, hm.below hb, hS⟩, h.gap⟩, ⟨S, D, hm.below hb, hS, hf⟩, bt' hs.out hb, hs.size, hml⟩
set_option maxRecDepth 1000000 in
set_option maxHeartbeats 2000000 in
theorem LrAt.fork {w : World} {p m pre z : Nat} {g : Lr} (h : LrAt w p m pre z g) {F : Nat → Prop} (hfar : FarL w m g F) : Calls Try.prog 9 #[.pointer (some ⟨p, 0, none⟩)] w fun e w' => ∃ p' m', e = .returned (.pointer (some ⟨p', 0, none⟩)) ∧ ForkL w g pre z F p' m' w' := by
  have HCL := hid h.toLrMid.closed
  have H := hid h
  obtain ⟨S, D, hEM, hS, hf⟩ := hfar
  obtain ⟨n, HN⟩ : ∃ n, Hid (g.ks.length = n) := ⟨_, hid rfl⟩
  rw [HN.out] at hEM
  have HS := hid hS
  have HF := hid hf
  have HCE : Hid (∀ V, ScL w V → Calls Try.prog 25 #[.map (some m)] V fun e w' => ∃ m', e = .returned (.map (some m')) ∧ Hid (EnMap w' m' S n D ∧ w.heap.size ≤ m') ∧ ScL w w') := fun V hV => by
    refine (cloneE_any (hEM.below hV.out)).mono ?_
    rintro e w' ⟨m', rfl, h1, h2, h3⟩
    exact ⟨m', rfl, ⟨h1, Nat.le_trans hV.size h2⟩, hV.go h3⟩
  have HSA : Hid (∀ V, ScL w V → (ScL w V ∧ V.cell? ⟨p, 0, none⟩ = some (.map (some m)) ∧ V.cell? ⟨p, 1, none⟩ = some (.int .i64 (pre : Int)) ∧ V.cell? ⟨p, 2, none⟩ = some (.int .i64 (z : Int)))) := fun V hV => by
    have h1 := (H.out.toLrMid.below hV.out).cells
    exact ⟨hV, h1.1, h1.2.1, h1.2.2⟩
  have HMK : Hid (∀ U W' m' p', ScL w U → EnMap U m' S n D → w.heap.size ≤ m' → W' = U.alloc (.cells #[.map (some m'), .int .i64 (pre : Int), .int .i64 (z : Int)] 49) → p' = U.heap.size → ForkL w g pre z F p' m' W') := fun U W' m' p' c1 c2 c3 c4 c5 => forkL_of H.out HN.out HS.out HF.out c1 c2 c3 c4 c5
  clear h hEM hS hf
  go_enter Try.func9, Try.ntmps9
  go_wp2_with fail
  refine HCL.out.mono ?_
  rintro e w1 ⟨rfl, rfl⟩
  go_wp2
  go_region_held3 (fun V => ScL w1 V ∧ V.cell? ⟨p, 0, none⟩ = some (.map (some m)) ∧ V.cell? ⟨p, 1, none⟩ = some (.int .i64 (pre : Int)) ∧ V.cell? ⟨p, 2, none⟩ = some (.int .i64 (z : Int)))
    ((refine HSA.out _ ?_; (repeat (first | with_reducible assumption | exact ScL.start _ | apply ScL.dr | apply ScL.alloc))))
    (first
      | (go_at_call 25; with_reducible refine (HCE.out _ (by (repeat (first | with_reducible assumption | exact ScL.start _ | apply ScL.dr)))).mono ?_; rintro e w6 ⟨m6, rfl, HF6, hs6⟩)
      | fail)
  have hF : Hid (ForkL w1 g pre z F w6.heap.size m6 (w6.alloc (.cells #[.map (some m6), .int .i64 (pre : Int), .int .i64 (z : Int)] 49))) := HMK.out w6 _ m6 _ hs6 HF6.out.1 HF6.out.2 rfl rfl
  go_wp2
  go_ret
  exact ⟨_, m6, rfl, hF.out⟩
end Go.Proofs.Ytgghfmdciohinaa
/-
  The laws' SameSeal of whatever two.
-/
namespace Go.Proofs.Ytgghfmdciohinaa
open Go.RowKit Go.Maps

set_option maxRecDepth 100000 in
set_option maxHeartbeats 1000000 in
theorem sameSeal_A (w : World) (tk ct tk' ct' : ByteArray) (ep ep' : Int) (dp dp' : List Int) (ao bo : Option Addr) (ca cb m n : Nat) (hm : dp.length = m) (hn : dp'.length = n) (ha : HV w ao ca dp) (hb : HV w bo cb dp') :
    Calls Try.prog 33 #[.agg #[.string tk, .string ct, .int .i64 ep, .slice ao m ca], .agg #[.string tk', .string ct', .int .i64 ep', .slice bo n cb]] w fun e w' => e = .returned (.bool (decide (tk = tk' ∧ ct = ct' ∧ ep = ep' ∧ dp = dp'))) ∧ Below w.heap.size w w' := by
  obtain ⟨W, hW⟩ : ∃ W, W = (w.alloc (.cells #[.string tk, .string ct, .int .i64 ep, .slice ao m ca] 31)).alloc (.cells #[.string tk', .string ct', .int .i64 ep', .slice bo n cb] 31) := ⟨_, rfl⟩
  have HB : Hid (Below w.heap.size w W) := by rw [hW]; exact ((Below.refl _ _).alloc (Nat.le_refl _) _).alloc (by simp) _
  have HS := hid (sameVec_B W ao bo ca cb dp dp' m n hm hn (ha.below HB.out) (hb.below HB.out))
  have HW := hid hW
  clear ha hb hm hn hW
  by_cases h2 : tk = tk'
  · by_cases h3 : ct = ct'
    · by_cases h4 : ep = ep'
      · subst h2 h3 h4
        have HD : Hid (decide (tk = tk ∧ ct = ct ∧ ep = ep ∧ dp = dp') = decide (dp = dp')) := by
          show _ = _
          rw [Bool.eq_iff_iff, decide_eq_true_iff, decide_eq_true_iff]
          exact ⟨fun h => h.2.2.2, fun h => ⟨rfl, rfl, rfl, h⟩⟩
        rw [HD.out]
        have hee : (ep == ep) = true := by simp
        go_enter Try.func33, Try.ntmps33
        go_wp2_with fail
        rw [← HW.out]
        refine HS.out.mono ?_
        rintro e w' ⟨rfl, q, rfl⟩
        go_wp2
        go_ret
        exact ⟨rfl, below_dn HB.out q⟩
      · rw [decide_eq_false (fun h => h4 h.2.2.1)]
        have hnn : (ep == ep') = false := by simpa using h4
        subst h2 h3
        go_enter Try.func33, Try.ntmps33
        go_wp2
        go_ret
        rw [← HW.out]
        exact ⟨rfl, HB.out⟩
    · rw [decide_eq_false (fun h => h3 h.2.1)]
      have hb2 : (ct.toList == ct'.toList) = false := beq_eq_false_iff_ne.2 fun hh => h3 (bytes_injC hh)
      have hb3 : ¬ ct.toList = ct'.toList := fun hh => h3 (bytes_injC hh)
      subst h2
      go_enter Try.func33, Try.ntmps33
      go_wp2
      go_ret
      rw [← HW.out]
      exact ⟨rfl, HB.out⟩
  · rw [decide_eq_false (fun h => h2 h.1)]
    have hb2 : (tk.toList == tk'.toList) = false := beq_eq_false_iff_ne.2 fun hh => h2 (bytes_injC hh)
    have hb3 : ¬ tk.toList = tk'.toList := fun hh => h2 (bytes_injC hh)
    go_enter Try.func33, Try.ntmps33
    go_wp2
    go_ret
    rw [← HW.out]
    exact ⟨rfl, HB.out⟩

end Go.Proofs.Ytgghfmdciohinaa
/-
  The laws' SameEntry of whatever two.
-/
namespace Go.Proofs.Ytgghfmdciohinaa
open Go.RowKit Go.Maps

set_option maxRecDepth 100000 in
set_option maxHeartbeats 1000000 in
theorem sameEntry_A (w : World) (x y : EnM) (hx : EnOk w x) (hy : EnOk w y) : Calls Try.prog 12 #[x.val, y.val] w fun e w' => e = .returned (.bool (decide (x.e = y.e))) ∧ Below w.heap.size w w' := by
  obtain ⟨⟨np, tk, ct, ep, dp⟩, ao, ca⟩ := x
  obtain ⟨⟨np', tk', ct', ep', dp'⟩, bo, cb⟩ := y
  obtain ⟨m, HM⟩ : ∃ m, Hid (dp.length = m) := ⟨_, hid rfl⟩
  obtain ⟨n, HN⟩ : ∃ n, Hid (dp'.length = n) := ⟨_, hid rfl⟩
  simp only [EnM.val]
  rw [HM.out, HN.out]
  obtain ⟨W, hW⟩ : ∃ W, W = (w.alloc (.cells #[.bool np, .string tk, .string ct, .int .i64 ep, .slice ao m ca] 33)).alloc (.cells #[.bool np', .string tk', .string ct', .int .i64 ep', .slice bo n cb] 33) := ⟨_, rfl⟩
  have HB : Hid (Below w.heap.size w W) := by rw [hW]; exact ((Below.refl _ _).alloc (Nat.le_refl _) _).alloc (by simp) _
  have HS := hid (sameSeal_A W tk ct tk' ct' ep ep' dp dp' ao bo ca cb m n HM.out HN.out (hx.below HB.out).cut (hy.below HB.out).cut)
  have HW := hid hW
  clear hx hy hW
  by_cases h1 : np = np'
  · subst h1
    have HD : Hid (decide ((⟨np, tk, ct, ep, dp⟩ : En) = ⟨np, tk', ct', ep', dp'⟩) = decide (tk = tk' ∧ ct = ct' ∧ ep = ep' ∧ dp = dp')) := by
      show _ = _
      rw [Bool.eq_iff_iff, decide_eq_true_iff, decide_eq_true_iff]
      constructor
      · intro h
        cases h
        exact ⟨rfl, rfl, rfl, rfl⟩
      · rintro ⟨rfl, rfl, rfl, rfl⟩
        rfl
    rw [HD.out]
    obtain ⟨r, HR⟩ : ∃ r, Hid (decide (tk = tk' ∧ ct = ct' ∧ ep = ep' ∧ dp = dp') = r) := ⟨_, hid rfl⟩
    rw [HR.out] at HS ⊢
    have hnn : (np == np) = true := by simp
    go_enter Try.func12, Try.ntmps12
    go_wp2_with fail
    rw [← HW.out]
    refine HS.out.mono ?_
    rintro e w' ⟨rfl, hb⟩
    have HBF := hid (bt' HB.out hb)
    clear hb
    go_wp2
    go_ret
    exact ⟨rfl, HBF.out⟩
  · rw [decide_eq_false (fun h => by cases h; exact h1 rfl)]
    have hnn : (np == np') = false := by simpa using h1
    go_enter Try.func12, Try.ntmps12
    go_wp2
    go_ret
    rw [← HW.out]
    exact ⟨rfl, HB.out⟩
end Go.Proofs.Ytgghfmdciohinaa
