/-
  LearnerGrows: what a round of its range leaves.
-/
import Derived.Test.YtgghfmdciohinaaLrR
import Derived.Test.YtgghfmdciohinaaLrS
import Derived.Test.YtgghfmdciohinaaCodB
namespace Go.Proofs.Ytgghfmdciohinaa
open Go.RowKit Go.Shelf Go.Maps

section
variable {w X U U2 : World} {rb hb nb cap L l : Nat} {Ds : List Nat} {H : List EnM} {eo : Option Addr} {g : Lr}
theorem turns_set (V : World) (b : Nat) (u : Value) : Turns (fun i => i = b) V (V.setCell ⟨b, 0, none⟩ u) := (Turns.refl (fun i => i = b) V).setCell (p := ⟨b, 0, none⟩) (.inl rfl) _
theorem boxed_turned {V V' : World} {F : Nat → Prop} {b : Nat} {t : TypeId} {v : Value} (h : Boxed V b t v) (ht : Turns F V V') (hn : ¬ F b) : Boxed V' b t v := (ht.block _ h.lt hn).trans h
/-- n's box is set. -/
theorem GrB.setN (h : GrB w U rb hb Ds H eo cap) {v : Value} (hn : Boxed U nb 3 v) (hoff : ∀ x ∈ H, ∀ b off, x.ao = some ⟨b, off, none⟩ → x.e.cut ≠ [] → b ≠ nb) (hle : w.heap.size ≤ nb) (u : Value) : GrB w (U.setCell ⟨nb, 0, none⟩ u) rb hb Ds H eo cap := by
  have ht := turns_set U nb u
  refine ⟨h.bel.setCell (p := ⟨nb, 0, none⟩) hle _, boxed_turned h.res ht (fun e => ?_), boxed_turned h.hbx ht (fun e => ?_), ht.row h.row (fun gg hg e => ?_), fun x hx => enKeep_turned (h.ens x hx) (fun b off e hne => hoff x hx b off e hne) ht, h.mks.turned ht (fun i hi => ?_), h.rl, h.hl⟩
  · subst e
    exact absurd (blk_typeQ (boxed_blk hn) (boxed_blk h.res)) (by decide)
  · subst e
    exact absurd (blk_typeQ (boxed_blk hn) (boxed_blk h.hbx)) (by decide)
  · subst e
    exact (boxed_blk hn).not_row (by decide) h.row hg.symm
  · have h1 : U.heap[nb]? = some (.cells #[v] 3 (0, 0)) := hn
    rw [hi, h1]
    simp
/-- An entry more. -/
theorem GrB.push (h : GrB w U rb hb Ds H eo cap) {o : Obj} {W6 : World} {k : Nat} (hk : H.length = k) {y : EnM} {bo : Option Addr} {cp : Nat} (hown : W6.ownsRow w.heap.size 33 5 (.slice bo (k + 1) cp) (k + 1) (flatEn (H ++ [y]))) (hg : (U.alloc o).grownBy W6 (Value.slice eo k cap).ownBlock) (hy : EnKeep U y) :
    GrB w (W6.setCell ⟨hb, 0, none⟩ (.slice bo (k + 1) cp)) rb hb Ds (H ++ [y]) bo cp ∧ Turns (fun i => i = hb ∨ EnTyped U i) U (W6.setCell ⟨hb, 0, none⟩ (.slice bo (k + 1) cp)) ∧ Boxed W6 hb 40 (.slice eo k cap) := by
  subst hk
  have hba : Below U.heap.size U (U.alloc o) := (Below.refl _ _).alloc (Nat.le_refl _) _
  have h5 := h.below hba
  have hrow : ∀ i, (Value.slice eo H.length cap).ownBlock = some i → EnTyped U i ∧ w.heap.size ≤ i := fun i hi => by
    rcases h.row.2 with ⟨h0, _⟩ | ⟨g', c', cur, h0, hB, hg', _⟩
    · rw [h0] at hi
      simp [Value.ownBlock] at hi
    · rw [h0] at hi
      have : g' = i := by simpa [Value.ownBlock] using hi
      subst this
      exact ⟨⟨cur.toList, hg'⟩, hB⟩
  have hT6 : Turns (EnTyped U) U W6 := by
    have t1 : Turns (EnTyped U) U (U.alloc o) := Turns.of_below hba (Nat.le_refl _)
    exact t1.grown hg (fun i hi => .inl (hrow i hi).1)
  have hbox6 : ∀ {b : Nat} {t : TypeId} {v : Value}, Boxed U b t v → t ≠ 33 → Boxed W6 b t v := fun hb1 ht1 => boxed_turned hb1 hT6 (fun ⟨cs, hc⟩ => ht1 (blk_typeQ (boxed_blk hb1) hc))
  have hkeep6 : ∀ x : EnM, EnKeep U x → EnKeep W6 x := fun x hx => enKeep_turned hx (fun b off e hne ⟨cs, hc⟩ => by
    obtain ⟨cs', hb'⟩ := hx.num b off e hne
    exact absurd (blk_typeQ hb' hc) (by decide)) hT6
  have hmk6 : Marks w.heap.size Ds W6 := h.mks.turned hT6 (fun i ⟨cs, hc⟩ => by
    have h1 : U.heap[i]? = some (.cells cs.toArray 33 (0, 0)) := hc
    rw [h1]
    simp)
  have hH6 := hbox6 h.hbx (by decide)
  have ht := turns_set W6 hb (.slice bo (H.length + 1) cp)
  have hb6 : Below w.heap.size w W6 := h.bel.trans ((hba.mono h.bel.size).grown hg (by have := h.bel.size; have := hba.size; omega) (fun i hi => (hrow i hi).2))
  refine ⟨⟨hb6.setCell (p := ⟨hb, 0, none⟩) h.hl _, boxed_turned (hbox6 h.res (by decide)) ht (fun e => ?_), ?_, ?_, fun x hx => ?_, hmk6.turned ht (fun i hi => ?_), h.rl, h.hl⟩, ?_, hH6⟩
  · subst e
    exact absurd (blk_typeQ (boxed_blk h.res) (boxed_blk h.hbx)) (by decide)
  · have := hH6.set (.slice bo (H.length + 1) cp)
    simpa using this
  · have := ht.row hown (fun gg hgg e => by
      subst e
      exact (boxed_blk hH6).not_row (by decide) hown hgg.symm)
    simpa using this
  · refine enKeep_turned (hkeep6 x ?_) (fun b off e hne hc => ?_) ht
    · rcases List.mem_append.1 hx with hx | hx
      · exact h.ens x hx
      · rw [List.mem_singleton.1 hx]
        exact hy
    · have hx6 : EnKeep W6 x := hkeep6 x (by
        rcases List.mem_append.1 hx with hx | hx
        · exact h.ens x hx
        · rw [List.mem_singleton.1 hx]
          exact hy)
      obtain ⟨cs, hb'⟩ := hx6.num b off e hne
      subst hc
      exact absurd (blk_typeQ hb' (boxed_blk hH6)) (by decide)
  · have h1 : W6.heap[hb]? = some (.cells #[.slice eo H.length cap] 40 (0, 0)) := hH6
    rw [hi, h1]
    simp
  · exact (hT6.mono (fun i hi => .inr hi)).trans ht (fun i hi => .inl (.inl hi))
end
end Go.Proofs.Ytgghfmdciohinaa
/-
  The laws' SameSeal of whatever two.
-/
namespace Go.Proofs.Ytgghfmdciohinaa
open Go.RowKit Go.Maps

set_option maxRecDepth 100000 in
set_option maxHeartbeats 1000000 in
theorem sameSeal_A (w : World) (tk ct tk' ct' : ByteArray) (ep ep' : Int) (dp dp' : List Int) (ao bo : Option Addr) (ca cb m n : Nat) (hm : dp.length = m) (hn : dp'.length = n) (ha : HV w ao ca dp) (hb : HV w bo cb dp') :
    Calls Try.prog 33 #[.agg #[.string tk, .string ct, .int .i64 ep, .slice ao m ca], .agg #[.string tk', .string ct', .int .i64 ep', .slice bo n cb]] w fun e w' => e = .returned (.bool (decide (tk = tk' ∧ ct = ct' ∧ ep = ep' ∧ dp = dp'))) ∧ Below w.heap.size w w' := by
  obtain ⟨W, hW⟩ : ∃ W, W = (w.alloc (.cells #[.string tk, .string ct, .int .i64 ep, .slice ao m ca] 31)).alloc (.cells #[.string tk', .string ct', .int .i64 ep', .slice bo n cb] 31) := ⟨_, rfl⟩
  have HB : Hid (Below w.heap.size w W) := by rw [hW]; exact ((Below.refl _ _).alloc (Nat.le_refl _) _).alloc (by simp) _
  have HS := hid (sameVec_B W ao bo ca cb dp dp' m n hm hn (ha.below HB.out) (hb.below HB.out))
  have HW := hid hW
  clear ha hb hm hn hW
  by_cases h2 : tk = tk'
  · by_cases h3 : ct = ct'
    · by_cases h4 : ep = ep'
      · subst h2 h3 h4
        have HD : Hid (decide (tk = tk ∧ ct = ct ∧ ep = ep ∧ dp = dp') = decide (dp = dp')) := by
          show _ = _
          rw [Bool.eq_iff_iff, decide_eq_true_iff, decide_eq_true_iff]
          exact ⟨fun h => h.2.2.2, fun h => ⟨rfl, rfl, rfl, h⟩⟩
        rw [HD.out]
        have hee : (ep == ep) = true := by simp
        go_enter Try.func33, Try.ntmps33
        go_wp2_with fail
        rw [← HW.out]
        refine HS.out.mono ?_
        rintro e w' ⟨rfl, q, rfl⟩
        go_wp2
        go_ret
        exact ⟨rfl, below_dn HB.out q⟩
      · rw [decide_eq_false (fun h => h4 h.2.2.1)]
        have hnn : (ep == ep') = false := by simpa using h4
        subst h2 h3
        go_enter Try.func33, Try.ntmps33
        go_wp2
        go_ret
        rw [← HW.out]
        exact ⟨rfl, HB.out⟩
    · rw [decide_eq_false (fun h => h3 h.2.1)]
      have hb2 : (ct.toList == ct'.toList) = false := beq_eq_false_iff_ne.2 fun hh => h3 (bytes_injC hh)
      have hb3 : ¬ ct.toList = ct'.toList := fun hh => h3 (bytes_injC hh)
      subst h2
      go_enter Try.func33, Try.ntmps33
      go_wp2
      go_ret
      rw [← HW.out]
      exact ⟨rfl, HB.out⟩
  · rw [decide_eq_false (fun h => h2 h.1)]
    have hb2 : (tk.toList == tk'.toList) = false := beq_eq_false_iff_ne.2 fun hh => h2 (bytes_injC hh)
    have hb3 : ¬ tk.toList = tk'.toList := fun hh => h2 (bytes_injC hh)
    go_enter Try.func33, Try.ntmps33
    go_wp2
    go_ret
    rw [← HW.out]
    exact ⟨rfl, HB.out⟩

end Go.Proofs.Ytgghfmdciohinaa
/-
  The laws' SameEntry of whatever two.
-/
namespace Go.Proofs.Ytgghfmdciohinaa
open Go.RowKit Go.Maps

set_option maxRecDepth 100000 in
set_option maxHeartbeats 1000000 in
theorem sameEntry_A (w : World) (x y : EnM) (hx : EnOk w x) (hy : EnOk w y) : Calls Try.prog 12 #[x.val, y.val] w fun e w' => e = .returned (.bool (decide (x.e = y.e))) ∧ Below w.heap.size w w' := by
  obtain ⟨⟨np, tk, ct, ep, dp⟩, ao, ca⟩ := x
  obtain ⟨⟨np', tk', ct', ep', dp'⟩, bo, cb⟩ := y
  obtain ⟨m, HM⟩ : ∃ m, Hid (dp.length = m) := ⟨_, hid rfl⟩
  obtain ⟨n, HN⟩ : ∃ n, Hid (dp'.length = n) := ⟨_, hid rfl⟩
  simp only [EnM.val]
  rw [HM.out, HN.out]
  obtain ⟨W, hW⟩ : ∃ W, W = (w.alloc (.cells #[.bool np, .string tk, .string ct, .int .i64 ep, .slice ao m ca] 33)).alloc (.cells #[.bool np', .string tk', .string ct', .int .i64 ep', .slice bo n cb] 33) := ⟨_, rfl⟩
  have HB : Hid (Below w.heap.size w W) := by rw [hW]; exact ((Below.refl _ _).alloc (Nat.le_refl _) _).alloc (by simp) _
  have HS := hid (sameSeal_A W tk ct tk' ct' ep ep' dp dp' ao bo ca cb m n HM.out HN.out (hx.below HB.out).cut (hy.below HB.out).cut)
  have HW := hid hW
  clear hx hy hW
  by_cases h1 : np = np'
  · subst h1
    have HD : Hid (decide ((⟨np, tk, ct, ep, dp⟩ : En) = ⟨np, tk', ct', ep', dp'⟩) = decide (tk = tk' ∧ ct = ct' ∧ ep = ep' ∧ dp = dp')) := by
      show _ = _
      rw [Bool.eq_iff_iff, decide_eq_true_iff, decide_eq_true_iff]
      constructor
      · intro h
        cases h
        exact ⟨rfl, rfl, rfl, rfl⟩
      · rintro ⟨rfl, rfl, rfl, rfl⟩
        rfl
    rw [HD.out]
    obtain ⟨r, HR⟩ : ∃ r, Hid (decide (tk = tk' ∧ ct = ct' ∧ ep = ep' ∧ dp = dp') = r) := ⟨_, hid rfl⟩
    rw [HR.out] at HS ⊢
    have hnn : (np == np) = true := by simp
    go_enter Try.func12, Try.ntmps12
    go_wp2_with fail
    rw [← HW.out]
    refine HS.out.mono ?_
    rintro e w' ⟨rfl, hb⟩
    have HBF := hid (bt' HB.out hb)
    clear hb
    go_wp2
    go_ret
    exact ⟨rfl, HBF.out⟩
  · rw [decide_eq_false (fun h => by cases h; exact h1 rfl)]
    have hnn : (np == np') = false := by simpa using h1
    go_enter Try.func12, Try.ntmps12
    go_wp2
    go_ret
    rw [← HW.out]
    exact ⟨rfl, HB.out⟩
end Go.Proofs.Ytgghfmdciohinaa
