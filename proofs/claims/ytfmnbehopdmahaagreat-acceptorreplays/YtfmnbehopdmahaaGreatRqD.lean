/-
  pannierref01's reader: name, vector; Vector.
-/
import Derived.Test.YtfmnbehopdmahaaGreatRqA
import Derived.Test.YtfmnbehopdmahaaGreatRdF
import Derived.Test.YtfmnbehopdmahaaGreatRdD
import Derived.Test.YtfmnbehopdmahaaGreatCartMath
namespace Go.Proofs.YtfmnbehopdmahaaGreat
open Go.RowKit Go.Maps

theorem rto_anyQ (w : World) (x m : Int) : Calls Tryz.prog 62 #[.int .i64 x, .int .i64 m] w fun e w' => e = .returned (.bool (decide (0 ≤ x ∧ x ≤ m))) ∧ w' = w := by
  by_cases h0 : 0 ≤ x
  · by_cases h1 : x ≤ m
    · have HD : Hid (decide (0 ≤ x ∧ x ≤ m) = true) := decide_eq_true ⟨h0, h1⟩
      rw [HD.out]
      go_enter Tryz.func62, Tryz.ntmps62
      go_wp2
      go_ret
      exact ⟨by simp, rfl⟩
    · have HD : Hid (decide (0 ≤ x ∧ x ≤ m) = false) := decide_eq_false fun h => h1 h.2
      rw [HD.out]
      go_enter Tryz.func62, Tryz.ntmps62
      go_wp2
      go_ret
      exact ⟨by simp, rfl⟩
  · have HD : Hid (decide (0 ≤ x ∧ x ≤ m) = false) := decide_eq_false fun h => h0 h.1
    rw [HD.out]
    go_enter Tryz.func62, Tryz.ntmps62
    go_wp2
    go_ret
    exact ⟨by simp, rfl⟩
set_option maxRecDepth 100000 in
set_option maxHeartbeats 1000000 in
theorem rvector_anyQ (w : World) (ao : Option Addr) (cap : Nat) (v : List Int) (n : Nat) (hn : v.length = n) (h : HV w ao cap v) :
    Calls Tryz.prog 65 #[.slice ao n cap] w fun e w' => e = .returned (.bool (rightVC v)) ∧ w' = w := by
  have HN := hid hn
  have H := hid h
  have hfew := h.few
  rw [hn] at hfew
  have HT := hid (fun x => rto_anyQ w x 2147483647)
  clear hn h
  go_enter Tryz.func65, Tryz.ntmps65
  go_wp2
  go_loop [3] (fun x => ∃ k : Nat, k ≤ n ∧ x = .int .i64 k ∧ Hid (∀ a, a < k → 0 ≤ v.getD a 0 ∧ v.getD a 0 ≤ 2147483647)) (fun x => n - (intOf x).toNat)
  case atStart => exact ⟨0, Nat.zero_le _, rfl, fun a ha => absurd ha (Nat.not_lt_zero _)⟩
  case round =>
    obtain ⟨k, hk, rfl, HA⟩ := hrel
    by_cases hlt : k < n
    · have hlt' : (k : Int) < (n : Int) := by omega
      have hkx : Hid (k < v.length) := (by rw [HN.out]; exact hlt : k < v.length)
      have HKM : Hid (k + 1 ≤ n) := (by omega : k + 1 ≤ n)
      rcases H.out.held.2 with h0 | ⟨b, off, hao, hb, hc⟩
      · exfalso
        have := hkx.out
        rw [h0] at this
        cases this
      have gk := hc k hkx.out
      subst hao
      clear hc
      obtain ⟨X, HX⟩ : ∃ X, Hid (v.getD k 0 = X) := ⟨_, hid rfl⟩
      rw [HX.out] at gk
      go_wp2_with fail
      refine (HT.out X).mono ?_
      rintro e w' ⟨rfl, rfl⟩
      by_cases hr : 0 ≤ X ∧ X ≤ 2147483647
      · rw [decide_eq_true hr]
        have HRR := hid hr
        clear hr
        go_wp2
        go_round
        case rel =>
          refine ⟨k + 1, HKM.out, by go_num, fun a hak => ?_⟩
          by_cases e : a = k
          · subst e
            rw [HX.out]
            exact HRR.out
          · exact HA.out a (by omega)
        case measure => simp [intOf]; have := HKM.out; omega
      · rw [decide_eq_false hr]
        have HV0 : Hid (rightVC v = false) := by
          show _ = _
          unfold rightVC
          rw [decide_eq_false (fun hh => hr (by have := hh _ (List.getElem_mem hkx.out); rw [show v[k]'hkx.out = X by rw [← HX.out]; simp [List.getD, List.getElem?_eq_getElem hkx.out]] at this; exact this)), Bool.false_and]
        clear hr
        go_wp2
        go_ret
        exact ⟨by rw [HV0.out]; rfl, rfl⟩
    · have hlt' : ¬ (k : Int) < (n : Int) := by omega
      have HIN : Hid (rightVC v = (decide (n ≤ 7) && (decide (n = 0) || decide (v.getD (n - 1) 0 ≠ 0)))) := by
        have h1 : InVC v := fun x hx => by
          obtain ⟨a, ha, rfl⟩ := List.mem_iff_getElem.1 hx
          have := HA.out a (by have := HN.out; omega)
          simp only [List.getD, List.getElem?_eq_getElem ha, Option.getD] at this
          exact this
        show _ = _
        unfold rightVC
        rw [decide_eq_true h1, Bool.true_and, HN.out]
      by_cases h7 : n ≤ 7
      rotate_left 1
      · have h7' : ¬ (n : Int) ≤ 7 := by omega
        have HF : Hid (rightVC v = false) := by show _ = _; rw [HIN.out, decide_eq_false h7, Bool.false_and]
        go_wp2
        go_ret
        exact ⟨by rw [HF.out]; rfl, rfl⟩
      have h7' : (n : Int) ≤ 7 := by omega
      by_cases h0 : n = 0
      · have HF : Hid (rightVC v = true) := by show _ = _; rw [HIN.out, decide_eq_true h7, decide_eq_true h0]; rfl
        subst h0
        go_wp2
        go_ret
        exact ⟨by rw [HF.out]; rfl, rfl⟩
      · have h0' : ¬ (n : Int) = 0 := by omega
        have hb0 : ((n : Int) == 0) = false := by simpa using h0'
        obtain ⟨X, HX⟩ : ∃ X, Hid (v.getD (n - 1) 0 = X) := ⟨_, hid rfl⟩
        have HF : Hid (rightVC v = decide (X ≠ 0)) := by show _ = _; rw [HIN.out, HX.out, decide_eq_true h7, decide_eq_false h0, Bool.true_and, Bool.false_or]
        have hnx : Hid (n - 1 < v.length) := (by rw [HN.out]; omega : n - 1 < v.length)
        rcases H.out.held.2 with hn0 | ⟨b, off, hao, hb, hc⟩
        · exfalso
          have := hnx.out
          rw [hn0] at this
          cases this
        have gk := hc (n - 1) hnx.out
        subst hao
        clear hc HIN
        rw [HX.out] at gk
        obtain ⟨j, rfl⟩ : ∃ j, n = j + 1 := ⟨n - 1, by omega⟩
        rw [Nat.add_sub_cancel] at gk
        have hsub : IntKind.i64.wrap (((j + 1 : Nat) : Int) - 1) = (j : Int) := by rw [IntKind.wrap_i64]; omega
        have hjlt : (j : Int) < ((j + 1 : Nat) : Int) := by omega
        go_wp2
        go_ret
        exact ⟨by rw [HF.out]; refine ret_bool ?_; by_cases h : X = 0; (subst h; rfl); (simp [h]; try rfl), rfl⟩
theorem pName_bad {b : List Int} (h : pText 32 b = none) : pName b = none := by unfold pName pIf; rw [h]; rfl
theorem pName_no {b r : List Int} {s : ByteArray} (h : pText 32 b = some (s, r)) (hn : nameS s = false) : pName b = none := by unfold pName pIf; rw [h, Option.bind_some, hn]; rfl
theorem pName_yes {b r : List Int} {s : ByteArray} (h : pText 32 b = some (s, r)) (hn : nameS s = true) : pName b = some (s, r) := by unfold pName pIf; rw [h, Option.bind_some, hn]; rfl
set_option maxRecDepth 1000000 in
set_option maxHeartbeats 4000000 in
theorem RqAt.name {B : Nat} {w : World} {rb : Nat} {bs : List Int} {st : Option (List Int)} (h : RqAt B w rb bs st) : Calls Tryz.prog 83 #[.pointer (some ⟨rb, 0, none⟩)] w fun e w' => (∃ y : ByteArray, e = .returned (.string y) ∧ y.size ≤ 32 ∧ Got st pName y) ∧ RqAt B w' rb bs (nxt st pName) ∧ Turns (fun i => i = rb) w w' := by
  obtain ⟨bo, L, C, at', ok, hk, hh, hold, hat, hst⟩ := h.blk
  have HOLD := hid hold
  have HBRB := hid h.brb
  clear hold
  obtain ⟨X, n, E, hd⟩ : ∃ X n E, rdText (bs.drop at') 32 = (X, n, E) := ⟨_, _, _, rfl⟩
  have HRU : Hid (Calls Tryz.prog 134 #[.slice bo L C, .int .i64 32] w fun e w' => e = .returned (.tuple #[.string X, .int .i64 (n : Int), .int .i64 E]) ∧ Below w.heap.size w w') := by
    have h1 := refText_read bo L C (bs.drop at') 32 w hh (by decide) (by decide)
    rw [hd] at h1
    exact h1
  have HSZ : Hid (X.size ≤ 32) := by have := rdText_size hh.byte; rw [hd] at this; exact hid this
  have HNM : Hid (∀ V, Calls Tryz.prog 110 #[.string X] V fun e w' => e = .returned (.bool (nameS X)) ∧ w' = V) := fun V => refName_any X V (by have := HSZ.out; unfold maxLen; omega)
  have HH := hid h
  have HK := hid hk
  have HHC := hid hh
  have HD := hid hd
  have HAT := hid hat
  have HST := hid hst
  have HFEW := hid h.few
  have HLL : Hid (L = bs.length - at') := by have := hh.hlen; rw [List.length_drop] at this; exact hid this.symm
  have HTX := hid (rdText_p hh.byte)
  have d0 := hk.cell (i := 0) rfl
  have hcut : ∀ W, n ≤ L → (Instr.slice 66 (.slice bo L C) (some (.int .i64 (n : Int))) none none).run Tryz.prog W = .ok (.slice (cutAt bo C n) (L - n) (C - n)) W := fun W hn => run_cut_l W 66 5 Tryz.underlying66 size1R bo L C n _ rfl hn
  have HCUT := hid hcut
  clear h hk hh hat hst hcut
  go_enter Tryz.func83, Tryz.ntmps83
  go_wp2_with fail
  refine HRU.out.mono ?_
  rintro e w1 ⟨rfl, hb1⟩
  have HH1 := hid (HH.out.below hb1)
  have HK1 := hid (HK.out.below hb1 HK.out.lt)
  have HC1 := hid (HHC.out.below hb1 (Nat.le_refl _))
  have HB1 := hid hb1
  clear hb1 d0
  have c0 := HK1.out.cell (i := 0) rfl
  have c1 := HK1.out.cell (i := 1) rfl
  have c2 := HK1.out.cell (i := 2) rfl
  have f0 := HK1.out.frozen 0
  have f1 := HK1.out.frozen 1
  have f2 := HK1.out.frozen 2
  obtain ⟨W3, hW3⟩ : ∃ V, V = w1.setCell ⟨rb, 2, none⟩ (.bool false) := ⟨_, rfl⟩
  have HREF : Hid (nxt st pName = none → RqAt B W3 rb bs (nxt st pName) ∧ Turns (fun i => i = rb) w W3) := fun hp => by
    obtain ⟨h1, h2⟩ := HH1.out.refuse pName hp hW3
    exact ⟨h1, (Turns.of_below (F := fun i => i = rb) HB1.out (Nat.le_refl _)).trans h2 (fun i hi => .inl hi)⟩
  rcases HTX.out with ⟨hp0, hbad⟩ | ⟨s, n', hgood, hnl, hp0⟩
  · rw [hd] at hbad
    obtain ⟨rfl, rfl, rfl⟩ : X = ⟨#[]⟩ ∧ n = 0 ∧ E = 10 := by cases hbad; exact ⟨rfl, rfl, rfl⟩
    have HFIN : Hid ((∃ y : ByteArray, (Ending.returned (.string ⟨#[]⟩) : Ending) = .returned (.string y) ∧ y.size ≤ 32 ∧ Got st pName y) ∧ RqAt B W3 rb bs (nxt st pName) ∧ Turns (fun i => i = rb) w W3) := by
      rcases HST.out with ⟨hs, _⟩ | ⟨hs, _⟩
      · exact ⟨⟨⟨#[]⟩, rfl, Nat.zero_le _, by rw [hs]; exact got_bad (pName_bad hp0) _⟩, HREF.out (by rw [hs]; exact nxt_bad (pName_bad hp0))⟩
      · exact ⟨⟨⟨#[]⟩, rfl, Nat.zero_le _, by rw [hs]; exact got_none _ _⟩, HREF.out (by rw [hs]; rfl)⟩
    clear hbad hd hp0
    go_wp2
    rw [← hW3]
    go_ret
    exact HFIN.out
  · rw [hd] at hgood
    obtain ⟨rfl, rfl, rfl⟩ : X = s ∧ n = n' ∧ E = 0 := by cases hgood; exact ⟨rfl, rfl, rfl⟩
    have HP0 := hid hp0
    have HNL : Hid (n ≤ L ∧ at' + n ≤ bs.length) := by rw [List.length_drop] at hnl; have h1 := HLL.out; have h2 := HAT.out; exact ⟨by omega, by omega⟩
    cases ok
    · have HFIN : Hid ((∃ y : ByteArray, (Ending.returned (.string ⟨#[]⟩) : Ending) = .returned (.string y) ∧ y.size ≤ 32 ∧ Got st pName y) ∧ RqAt B W3 rb bs (nxt st pName) ∧ Turns (fun i => i = rb) w W3) := by
        rcases HST.out with ⟨_, h0⟩ | ⟨hs, _⟩
        · cases h0
        · exact ⟨⟨⟨#[]⟩, rfl, Nat.zero_le _, by rw [hs]; exact got_none _ _⟩, HREF.out (by rw [hs]; rfl)⟩
      clear hgood hd hnl hp0
      go_wp2
      rw [← hW3]
      go_ret
      exact HFIN.out
    · cases hnm : nameS X
      · rw [hnm] at HNM
        have HFIN : Hid ((∃ y : ByteArray, (Ending.returned (.string ⟨#[]⟩) : Ending) = .returned (.string y) ∧ y.size ≤ 32 ∧ Got st pName y) ∧ RqAt B W3 rb bs (nxt st pName) ∧ Turns (fun i => i = rb) w W3) := by
          rcases HST.out with ⟨hs, _⟩ | ⟨_, h0⟩
          · exact ⟨⟨⟨#[]⟩, rfl, Nat.zero_le _, by rw [hs]; exact got_bad (pName_no HP0.out hnm) _⟩, HREF.out (by rw [hs]; exact nxt_bad (pName_no HP0.out hnm))⟩
          · cases h0
        clear hgood hd hnl hp0 hnm
        go_wp2_with fail
        refine (HNM.out _).mono ?_
        rintro e w2 ⟨rfl, hw2⟩
        rw [hw2]
        clear hw2 w2
        go_wp2
        rw [← hW3]
        go_ret
        exact HFIN.out
      · rw [hnm] at HNM
        have hcutn := fun W => HCUT.out W HNL.out.1
        have hsum : IntKind.i64.wrap ((at' : Int) + (n : Int)) = (at' : Int) + (n : Int) := by rw [IntKind.wrap_i64]; have h1 := HNL.out.2; have h2 := HFEW.out; omega
        obtain ⟨co, hco⟩ : ∃ q, q = cutAt bo C n := ⟨_, rfl⟩
        obtain ⟨L2, hL2⟩ : ∃ q, q = L - n := ⟨_, rfl⟩
        obtain ⟨C2, hC2⟩ : ∃ q, q = C - n := ⟨_, rfl⟩
        rw [← hco, ← hL2, ← hC2] at hcutn
        obtain ⟨W4, hW4⟩ : ∃ V, V = (((w1.setCell ⟨rb, 0, none⟩ (.slice co L2 C2)).setCell ⟨rb, 1, none⟩ (.int .i64 ((at' : Int) + (n : Int))))).drew := ⟨_, rfl⟩
        have HFIN : Hid ((∃ y : ByteArray, (Ending.returned (.string X) : Ending) = .returned (.string y) ∧ y.size ≤ 32 ∧ Got st pName y) ∧ RqAt B W4 rb bs (nxt st pName) ∧ Turns (fun i => i = rb) w W4) := by
          have hp := pName_yes HP0.out hnm
          rcases HST.out with ⟨hs, _⟩ | ⟨_, h0⟩
          · have hT : Turns (fun i => i = rb) w1 W4 := by rw [hW4]; exact (turns_ownQ (turns_ownQ (Turns.refl _ _))).drew
            have hc := HC1.out.cutl HNL.out.1
            rw [← hco, ← hL2, ← hC2] at hc
            have hk4 : Blk W4 rb 104 [.slice co L2 C2, .int .i64 ((at' + n : Nat) : Int), .bool true] := by rw [hW4, Int.natCast_add]; exact ((HK1.out.set 0 _).set 1 _).drew
            refine ⟨⟨X, rfl, HSZ.out, by rw [hs]; exact got_ok hp⟩, ⟨HFEW.out, HBRB.out, co, L2, C2, at' + n, true, hk4, ?_, (by rw [hco, hL2]; exact cutAt_old HOLD.out), HNL.out.2, .inl ⟨?_, rfl⟩⟩, (Turns.of_below (F := fun i => i = rb) HB1.out (Nat.le_refl _)).trans hT (fun i hi => .inl hi)⟩
            · rw [← List.drop_drop]
              exact hc.turned hT (held_offQ hc HK1.out)
            · rw [hs, nxt_ok hp, List.drop_drop]
          · cases h0
        clear hgood hd hnl hp0 hco hL2 hC2 hW3 HREF hnm
        go_wp2_with fail
        refine (HNM.out _).mono ?_
        rintro e w2 ⟨rfl, hw2⟩
        rw [hw2]
        clear hw2 w2
        go_wp2
        go_region
        go_wp2
        rw [← hW4]
        go_ret
        exact HFIN.out
end Go.Proofs.YtfmnbehopdmahaaGreat
/-
  pannierref01's reader: lists (mathematics), vector.
-/
namespace Go.Proofs.YtfmnbehopdmahaaGreat
open Go.RowKit Go.Maps

theorem RqAt.byte {B : Nat} {w : World} {rb : Nat} {bs r : List Int} (h : RqAt B w rb bs (some r)) : AllB r := by
  obtain ⟨_, _, _, at', _, _, hh, _, _, hs⟩ := h.blk
  rcases hs with ⟨hs, _⟩ | ⟨hs, _⟩
  · cases hs
    exact hh.byte
  · cases hs
theorem turns_oneQ {rb : Nat} {a b c : World} (h : Turns (fun i => i = rb) a b) (k : Turns (fun i => i = rb) b c) : Turns (fun i => i = rb) a c := h.trans k (fun _ hi => .inl hi)
theorem Turns.of_far {V : Nat} {w w' : World} (hb : Below V w w') : Turns (fun i => V ≤ i) w w' := ⟨hb.os, hb.tape, hb.output, hb.size, fun k _ hf => hb.block k (by have : ¬ V ≤ k := hf; omega)⟩
/-- Some of the items are read: what is left to be read of them. -/
def RepQ {α : Type} (p : Rdr α) (st1 s : Option (List Int)) (N k : Nat) (l : List α) : Prop := st1.bind (pRep p N) = s.bind (fun r => (pRep p (N - k) r).map (fun t => (l ++ t.1, t.2)))
theorem repQ_zero {α : Type} (p : Rdr α) (st1 : Option (List Int)) (N : Nat) : RepQ p st1 st1 N 0 [] := by
  unfold RepQ
  cases st1 with
  | none => rfl
  | some b => simp
theorem RepQ.step {α : Type} {p : Rdr α} {st1 s : Option (List Int)} {N k : Nat} {l : List α} (h : RepQ p st1 s N k l) (hk : k < N) {y : α} (hg : Got s p y) : RepQ p st1 (nxt s p) N (k + 1) (l ++ [y]) := by
  unfold RepQ at h ⊢
  rw [h]
  have hs : N - k = (N - (k + 1)) + 1 := by omega
  rw [hs]
  cases s with
  | none => rfl
  | some b =>
    show ((p b).bind fun r => (pRep p (N - (k + 1)) r.2).bind fun t => some (r.1 :: t.1, t.2)).map _ = _
    cases hp : p b with
    | none => rw [nxt_bad hp]; rfl
    | some r =>
      obtain ⟨x, r⟩ := r
      rw [nxt_ok hp]
      obtain rfl : y = x := hg x r hp
      rw [Option.bind_some, Option.bind_some]
      cases pRep p (N - (k + 1)) r with
      | none => rfl
      | some t => simp
theorem RepQ.whole {α : Type} {p : Rdr α} {st1 s : Option (List Int)} {N : Nat} {l : List α} (h : RepQ p st1 s N N l) : st1.bind (pRep p N) = s.map (fun r => (l, r)) := by
  unfold RepQ at h
  rw [h, Nat.sub_self]
  cases s with
  | none => rfl
  | some b => simp [pRep]
theorem RepQ.broke {α : Type} {p : Rdr α} {st1 s : Option (List Int)} {N k : Nat} {l : List α} (h : RepQ p st1 s N k l) (hs : s = none) : st1.bind (pRep p N) = s.map (fun r => (l, r)) := by
  unfold RepQ at h
  rw [h, hs]
  rfl
theorem listQ_bind {α : Type} {st : Option (List Int)} {most : Nat} {p : Rdr α} {y : Int} (hg : Got st (pNum most) y) : st.bind (pList most p) = (nxt st (pNum most)).bind (pRep p y.toNat) := by
  cases st with
  | none => rfl
  | some b =>
    show (pNum most b).bind _ = _
    cases hp : pNum most b with
    | none => rw [nxt_bad hp]; rfl
    | some r =>
      obtain ⟨x, r⟩ := r
      rw [nxt_ok hp]
      obtain rfl : y = x := hg x r hp
      rfl
theorem listQ_nxt {α : Type} {st s : Option (List Int)} {p : Rdr α} {l : α} (h : st.bind p = s.map (fun r => (l, r))) : nxt st p = s ∧ Got st p l := by
  refine ⟨?_, fun x r hx => ?_⟩
  · unfold nxt
    rw [h]
    cases s <;> rfl
  · rw [h] at hx
    cases s with
    | none => cases hx
    | some b => cases hx; rfl
def cVec (v : List Int) : Bool := decide (v.length = 0) || decide (v.getD (v.length - 1) 0 ≠ 0)
theorem pVec_c : pVec = pIf cVec (pList 7 (pNum 2147483647)) := rfl
theorem rightVC_c {b r l : List Int} (hb : AllB b) (h : pList 7 (pNum 2147483647) b = some (l, r)) : rightVC l = cVec l := by
  obtain ⟨⟨h1, h2⟩, _⟩ := ((pNum_reads (most := 2147483647) (by decide)).list (most := 7) (by decide)).back b l r hb h
  unfold rightVC cVec
  rw [decide_eq_true (show InVC l from h2), Bool.true_and, decide_eq_true h1, Bool.true_and]
structure VecG (B : Nat) (w : World) (rb : Nat) (bs : List Int) (st1 : Option (List Int)) (N k : Nat) (v : Value) (wr : World) : Prop where
  ex : ∃ (l : List Int) (s : Option (List Int)), l.length = k ∧ (∀ x ∈ l, I64 x) ∧ wr.ownsRow w.heap.size 3 1 v l.length (ints l) ∧ (l = [] → v = .slice none 0 0) ∧ RqAt B wr rb bs s ∧ RepQ (pNum 2147483647) st1 s N k l
  tur : Turns (fun i => i = rb) w wr
set_option maxRecDepth 1000000 in
set_option maxHeartbeats 4000000 in
theorem RqAt.vector {B : Nat} {w : World} {rb : Nat} {bs : List Int} {st : Option (List Int)} (h : RqAt B w rb bs st) : Calls Tryz.prog 52 #[.pointer (some ⟨rb, 0, none⟩)] w fun e w' => (∃ (ao : Option Addr) (cap : Nat) (y : List Int), e = .returned (.slice ao y.length cap) ∧ Got st pVec y ∧ HN w' ao cap y ∧ ∀ b off, ao = some ⟨b, off, none⟩ → y ≠ [] → w.heap.size ≤ b) ∧ RqAt B w' rb bs (nxt st pVec) ∧ Turns (fun i => i = rb) w w' := by
  have HN7' := hid (h.number 7 (by decide))
  have HLT := hid h.lt
  have HST : Hid (∀ b, st = some b → AllB b) := fun b e => by subst e; exact h.byte
  clear h
  go_enter Tryz.func52, Tryz.ntmps52
  go_wp2_with fail
  refine HN7'.out.mono ?_
  rintro e w1 ⟨⟨y, rfl, hy64, hg⟩, hr1, ht1⟩
  obtain ⟨N, rfl⟩ : ∃ n : Nat, y = (n : Int) := ⟨y.toNat, by omega⟩
  have HGL : Hid (st.bind (pList 7 (pNum 2147483647)) = (nxt st (pNum 7)).bind (pRep (pNum 2147483647) N)) := by have h1 := listQ_bind (p := pNum 2147483647) hg; rw [Int.toNat_natCast] at h1; exact hid h1
  have HR1 := hid hr1
  have HT1 := hid ht1
  have hN7 : N ≤ 7 := by omega
  have HN7 := hid hN7
  clear hg hr1 ht1 hy64 HN7'
  go_wp2
  go_loopw [4, 5] (fun v i wr => ∃ k : Nat, k ≤ N ∧ i = .int .i64 k ∧ Hid (VecG B w rb bs (nxt st (pNum 7)) N k v wr)) (fun _ i _ => N - (intOf i).toNat)
  case atStart => exact ⟨0, Nat.zero_le _, rfl, ⟨⟨[], _, rfl, fun x hx => (by cases hx), World.ownsRow_nil _ _ _ _, fun _ => rfl, HR1.out, repQ_zero _ _ _⟩, HT1.out⟩⟩
  case round =>
    obtain ⟨k, hk, rfl, HV⟩ := hrel
    obtain ⟨l, s, hl, h64, hrow, hemp, hrq, hrep⟩ := HV.out.ex
    have HT := hid HV.out.tur
    have HRQ := hid hrq
    have HREP := hid hrep
    have HROW := hid hrow
    have HLL := hid hl
    have H64 := hid h64
    have HEMP := hid hemp
    have HKN := hid hk
    obtain ⟨eo, ec, hv⟩ := own_sliceC hrow
    rw [hl] at hv
    subst hv
    obtain ⟨bo, L, C, at', ok, hblk, hhl, _, _, hst⟩ := hrq.blk
    have HBLK := hid hblk
    have HS := hid hst
    have c2 := hblk.cell (i := 2) rfl
    have f2 := hblk.frozen 2
    obtain ⟨ao2, cap2, hv2, hhv⟩ := hv_of_own hrow (fun z hz => h64 z hz) (by have := HN7.out; omega)
    have HHV : Hid (HN _ ao2 cap2 l) := hid ⟨hhv, (fun h0 => by have e := hemp h0; rw [hv2] at e; injection e), (fun b off e => own_num hrow (by rw [hv2, e]))⟩
    have HRB : Hid (∀ b off, ao2 = some ⟨b, off, none⟩ → l ≠ [] → w.heap.size ≤ b) := fun b off e _ => ownBlockR hrow (by rw [hv2, e])
    rw [hl] at hv2
    cases hv2
    clear hrq hrep hrow hemp h64 hl hblk hst HV hhv hhl
    -- what is told where the list ends
    have HEND : Hid (∀ W3, st.bind (pList 7 (pNum 2147483647)) = s.map (fun r => (l, r)) → (∀ b, W3 = wr.setCell ⟨rb, 2, none⟩ (.bool b) → (s = none ∧ b = false ∨ (∃ r, s = some r) ∧ b = cVec l) → ((∃ (ao : Option Addr) (cap : Nat) (y : List Int), (Ending.returned (.slice eo k ec) : Ending) = .returned (.slice ao y.length cap) ∧ Got st pVec y ∧ HN W3 ao cap y ∧ ∀ b off, ao = some ⟨b, off, none⟩ → y ≠ [] → w.heap.size ≤ b) ∧ RqAt B W3 rb bs (nxt st pVec) ∧ Turns (fun i => i = rb) w W3))) := fun W3 hfin b hW hb => by
      obtain ⟨h1, h2⟩ := listQ_nxt hfin
      have hT : Turns (fun i => i = rb) wr W3 := by rw [hW]; exact turns_ownQ (Turns.refl _ _)
      refine ⟨⟨eo, ec, l, by rw [HLL.out], by rw [pVec_c]; exact got_if cVec h2, hnK hT HHV.out (fun b off e hne hf => by have := HRB.out b off e hne; have := HLT.out; omega), HRB.out⟩, ?_, turns_oneQ HT.out hT⟩
      rw [pVec_c, ← nxt_if cVec h2, h1]
      obtain ⟨bo, L, C, at', ok, hk1, hk2, hk2b, hk3, hk4⟩ := HRQ.out.blk
      refine ⟨HRQ.out.few, HRQ.out.brb, bo, L, C, at', b, by rw [hW]; exact hk1.set 2 _, hk2.turned hT (held_offQ hk2 hk1), hk2b, hk3, ?_⟩
      rcases hb with ⟨h3, h4⟩ | ⟨⟨r, h3⟩, h4⟩
      · right
        refine ⟨?_, h4⟩
        rw [h3]
        split <;> rfl
      · rcases hk4 with ⟨h5, _⟩ | ⟨h5, _⟩
        · cases hc : cVec l
          · right
            exact ⟨by rw [if_neg (by decide)], h4.trans hc⟩
          · left
            exact ⟨by rw [if_pos rfl]; exact h5, h4.trans hc⟩
        · rw [h3] at h5; cases h5
    cases ok
    · have HSN : Hid (s = none) := by
        rcases HS.out with ⟨_, h0⟩ | ⟨h0, _⟩
        · cases h0
        · exact hid h0
      obtain ⟨W3, hW3⟩ : ∃ V, V = wr.setCell ⟨rb, 2, none⟩ (.bool false) := ⟨_, rfl⟩
      have HFI := hid (HEND.out W3 (by rw [HGL.out]; exact HREP.out.broke HSN.out) false hW3 (.inl ⟨HSN.out, rfl⟩))
      clear HEND
      by_cases hlt : k < N
      · have hlt' : (k : Int) < (N : Int) := by omega
        go_wp2
        rw [← hW3]
        go_ret
        exact HFI.out
      · have hlt' : ¬ (k : Int) < (N : Int) := by omega
        go_wp2
        rw [← hW3]
        go_ret
        exact HFI.out
    · have HSS : Hid (∃ r, s = some r) := by
        rcases HS.out with ⟨h0, _⟩ | ⟨_, h0⟩
        · exact hid ⟨_, h0⟩
        · cases h0
      by_cases hlt : k < N
      · have hlt' : (k : Int) < (N : Int) := by omega
        have HLT2 := hid hlt
        have HNB := hid (HRQ.out.number 2147483647 (by decide))
        clear HEND hlt hk
        go_wp2_with fail
        refine HNB.out.mono ?_
        rintro e w3 ⟨⟨y, rfl, hy, hgy⟩, hr3, ht3⟩
        have HR3 := hid hr3
        have HT3 := hid (turns_oneQ HT.out ht3)
        have HNX := hid (HREP.out.step HLT2.out hgy)
        have HY64 : Hid (I64 y) := by unfold I64; exact hid ⟨by omega, by omega⟩
        have HROW3 : Hid (w3.ownsRow w.heap.size 3 1 (.slice eo k ec) l.length (ints l)) := ht3.row HROW.out (fun g hg hf => by have := (HROW.out.lt g hg).1; have := HLT.out; omega)
        have HFEW : Hid (l.length < 17592186044416) := by have h1 := HLL.out; have h2 := HN7.out; have h3 := HLT2.out; exact hid (by omega)
        clear hy hgy hr3 ht3 c2 f2
        go_wp2_with (at_builtin; refine wpList_append_one w3 _ y rfl rfl _ _ rfl w.heap.size _ l rfl rfl HROW3.out HT3.out.size HFEW.out ?_; intro v' w5 hown hb5; have HO5 := hid hown; have HB5 := hid hb5; clear hown hb5)
        go_roundw
        case rel => exact ⟨k + 1, HLT2.out, by go_num, ⟨⟨l ++ [y], _, by rw [List.length_append, HLL.out]; rfl, fun z hz => by rcases List.mem_append.1 hz with h1 | h1; exact H64.out z h1; rw [List.mem_singleton.1 h1]; exact HY64.out, HO5.out, (fun h0 => absurd h0 (List.append_ne_nil_of_right_ne_nil _ (by simp))), HR3.out.far HLT.out HB5.out, HNX.out⟩, HT3.out.trans (Turns.of_far HB5.out) (fun i hi => .inr hi)⟩⟩
        case measure => have := HLT2.out; simp [intOf]; omega
      · have hlt' : ¬ (k : Int) < (N : Int) := by omega
        have hkN : k = N := by omega
        have HFN : Hid (st.bind (pList 7 (pNum 2147483647)) = s.map (fun r => (l, r))) := by
          have h1 := HREP.out
          rw [hkN] at h1
          rw [HGL.out]
          exact hid h1.whole
        have HVC := hid (rvector_anyQ wr eo ec l k HLL.out HHV.out.hv)
        have HCV : Hid (rightVC l = cVec l) := by
          obtain ⟨r, hr⟩ := HSS.out
          have h1 := HFN.out
          rw [hr] at h1
          cases hb : st with
          | none => rw [hb] at h1; cases h1
          | some b =>
            rw [hb] at h1
            exact rightVC_c (HST.out b hb) h1
        rw [HCV.out] at HVC
        obtain ⟨c, hc⟩ : ∃ c, cVec l = c := ⟨_, rfl⟩
        rw [hc] at HVC
        obtain ⟨W3, hW3⟩ : ∃ V, V = wr.setCell ⟨rb, 2, none⟩ (.bool c) := ⟨_, rfl⟩
        have HFI := hid (HEND.out W3 HFN.out c hW3 (.inr ⟨HSS.out, hc.symm⟩))
        clear HEND hlt hk hkN hc
        go_wp2_with fail
        refine HVC.out.mono ?_
        rintro e w4 ⟨rfl, hw4⟩
        rw [hw4]
        clear hw4 w4
        go_wp2
        rw [← hW3]
        go_ret
        exact HFI.out
end Go.Proofs.YtfmnbehopdmahaaGreat
/-
  pannierref01's reader: ballot, seal.
-/
namespace Go.Proofs.YtfmnbehopdmahaaGreat
open Go.RowKit Go.Maps

theorem blk_neQ {w : World} {b c : Nat} {t u : TypeId} {xs ys : List Value} (h : Blk w b t xs) (k : Blk w c u ys) (hne : t ≠ u) : b ≠ c := by
  rintro rfl
  have h1 : w.heap[b]? = some (.cells xs.toArray t) := h
  have h2 : w.heap[b]? = some (.cells ys.toArray u) := k
  rw [h1] at h2
  injection h2 with h2
  injection h2 with _ h2
  exact hne h2
theorem HN.kept {w w' : World} {ao : Option Addr} {cap : Nat} {xs : List Int} {b : Nat} {t : TypeId} {ys : List Value} (h : HN w ao cap xs) (k : Blk w b t ys) (ht : t ≠ 3) (hT : Turns (fun i => i = b) w w') : HN w' ao cap xs := hnK hT h (fun c off e _ hf => by
  subst hf
  obtain ⟨cs, hc⟩ := h.num c off e
  exact blk_neQ hc k ht.symm rfl)
theorem RqAt.hn {B : Nat} {w w' : World} {rb : Nat} {bs : List Int} {st : Option (List Int)} {ao : Option Addr} {cap : Nat} {xs : List Int} (h : RqAt B w rb bs st) (hn : HN w ao cap xs) (hT : Turns (fun i => i = rb) w w') : HN w' ao cap xs := by
  obtain ⟨_, _, _, _, _, hk, _⟩ := h.blk
  exact hn.kept hk (by decide) hT
theorem below_setQ (w : World) {V : Nat} {a : Addr} (h : V ≤ a.block) (v : Value) : Below V w (w.setCell a v) := (Below.refl V w).setCell h v
theorem results_cell1Q {fn : Func} {p : Tmp} {ty : TypeId} (h : fn.results = #[.cell p ty]) (tmps : Array Value) (P : Program) (w : World) :
    (results fn tmps).run P w = ((asAddr (tmps.getD p undef)).run P w).andThen fun a w₁ => (loadVar ty a).run P w₁ := by
  simp only [results, h]
  simp [Sem.run_bind, Result.andThen]
def stQ2 (w : World) (p : Nat) (v0 v1 : Value) : World := (w.setCell ⟨p, 0, none⟩ v0).setCell ⟨p, 1, none⟩ v1
theorem stQ2_blk {w : World} {p : Nat} {t : TypeId} {a0 a1 : Value} (h : Blk w p t [a0, a1]) (v0 v1 : Value) : Blk (stQ2 w p v0 v1) p t [v0, v1] := (h.set 0 v0).set 1 v1
theorem stQ2_turns (w : World) (p : Nat) (v0 v1 : Value) : Turns (fun i => i = p) w (stQ2 w p v0 v1) := turns_ownQ (turns_ownQ (Turns.refl _ _))
def stQ4 (w : World) (p : Nat) (v0 v1 v2 v3 : Value) : World := (((w.setCell ⟨p, 0, none⟩ v0).setCell ⟨p, 1, none⟩ v1).setCell ⟨p, 2, none⟩ v2).setCell ⟨p, 3, none⟩ v3
theorem stQ4_blk {w : World} {p : Nat} {t : TypeId} {a0 a1 a2 a3 : Value} (h : Blk w p t [a0, a1, a2, a3]) (v0 v1 v2 v3 : Value) : Blk (stQ4 w p v0 v1 v2 v3) p t [v0, v1, v2, v3] := (((h.set 0 v0).set 1 v1).set 2 v2).set 3 v3
theorem stQ4_turns (w : World) (p : Nat) (v0 v1 v2 v3 : Value) : Turns (fun i => i = p) w (stQ4 w p v0 v1 v2 v3) := turns_ownQ (turns_ownQ (turns_ownQ (turns_ownQ (Turns.refl _ _))))
def PqBal (B : Nat) (w : World) (rb : Nat) (bs : List Int) (st : Option (List Int)) (e : Ending) (w' : World) : Prop := (∃ (y0 : Int) (y1 : Int), e = .returned (.agg #[.int .i64 y0, .int .i64 y1]) ∧ Got st (pNum 2147483647) y0 ∧ (0 ≤ y0 ∧ y0 ≤ 2147483647) ∧ Got (nxt st (pNum 2147483647)) (pNum 6) y1 ∧ (0 ≤ y1 ∧ y1 ≤ 6)) ∧ RqAt B w' rb bs (nxt (nxt st (pNum 2147483647)) (pNum 6)) ∧ Turns (fun i => i = rb) w w'
set_option maxRecDepth 1000000 in
set_option maxHeartbeats 8000000 in
theorem RqAt.pqBal {B : Nat} {w : World} {rb : Nat} {bs : List Int} {st : Option (List Int)} (h : RqAt B w rb bs st) : Calls Tryz.prog 50 #[.pointer (some ⟨rb, 0, none⟩)] w (PqBal B w rb bs st) := by
  obtain ⟨W1, hW1⟩ : ∃ V, V = w.alloc (.cells #[.int .i64 0, .int .i64 0] 35) := ⟨_, rfl⟩
  obtain ⟨W, hW⟩ : ∃ V, V = W1.alloc (.cells #[.int .i64 0, .int .i64 0] 35) := ⟨_, rfl⟩
  have hs1 : W1.heap.size = w.heap.size + 1 := by rw [hW1]; simp
  have hb1 : Below w.heap.size w W1 := by rw [hW1]; exact (Below.refl _ _).alloc (Nat.le_refl _) _
  have hb0 : Below w.heap.size w W := by rw [hW]; exact hb1.alloc hb1.size _
  obtain ⟨qy, hqy⟩ : ∃ q, q = w.heap.size := ⟨_, rfl⟩
  obtain ⟨qx, hqx⟩ : ∃ q, q = w.heap.size + 1 := ⟨_, rfl⟩
  have HY0 : Hid (Blk W qy 35 [.int .i64 0, .int .i64 0]) := by rw [hqy, hW, hW1]; exact (Blk.new w _ _).alloc _
  have HX0 : Hid (Blk W qx 35 [.int .i64 0, .int .i64 0]) := by rw [hqx, hW, ← hs1]; exact Blk.new W1 _ _
  have HLT := hid h.lt
  have HR0 := hid (h.far HLT.out hb0)
  have HT0 : Hid (Turns (fun i => i = rb) w W) := Turns.of_below hb0 (Nat.le_refl _)
  have HW : Hid (W = (w.alloc (.cells #[.int .i64 0, .int .i64 0] 35)).alloc (.cells #[.int .i64 0, .int .i64 0] 35)) := by show _ = _; rw [hW, hW1]
  have HQY := hid hqy
  have HQX := hid hqx
  have HNE : Hid (qx ≠ rb ∧ qy ≠ rb ∧ qy ≠ qx ∧ w.heap.size ≤ qx ∧ w.heap.size ≤ qy) := by have := HLT.out; exact ⟨by omega, by omega, by omega, by omega, by omega⟩
  have HC0 := hid (HR0.out.number 2147483647 (by decide))
  clear h hW hW1 hs1 hb1 hb0 hqy hqx
  go_enter Tryz.func50, Tryz.ntmps50
  go_wp2_with fail
  rw [← HW.out, ← HQX.out, ← HQY.out]
  refine HC0.out.mono ?_
  rintro e u0 ⟨⟨y0, rfl, hy0, hg0⟩, hr0, ht0⟩
  have HG0 := hid hg0
  have HI0 := hid hy0
  clear hg0 hy0
  have hx0 := ht0.blk HX0.out HNE.out.1
  have hyy0 := ht0.blk HY0.out HNE.out.2.1
  have s0 := hx0.cell (i := 0) rfl
  have f0 := hx0.frozen 0
  obtain ⟨V1, hV1⟩ : ∃ V, V = u0.setCell ⟨qx, 0, none⟩ (.int .i64 y0) := ⟨_, rfl⟩
  have hs0 : Turns (fun i => i = qx) u0 V1 := by rw [hV1]; exact turns_ownQ (Turns.refl _ _)
  have HX1 := hid (hx0.set 0 (.int .i64 y0))
  rw [← hV1] at HX1
  have HY1 := hid (hs0.blk hyy0 HNE.out.2.2.1)
  have HR1 : Hid (RqAt B V1 rb bs _) := hid (hr0.far HLT.out (by rw [hV1]; exact below_setQ _ HNE.out.2.2.2.1 _))
  have HT1 : Hid (Turns (fun i => i = rb) w V1) := (turns_oneQ HT0.out ht0).trans hs0 (fun i hi => .inr (by rw [hi]; exact HNE.out.2.2.2.1))
  clear hx0 hyy0 hs0 hr0 ht0 HX0 HY0 HR0 HT0 HC0
  have HC1 := hid (HR1.out.number 6 (by decide))
  go_wp2_with fail
  rw [← hV1]
  clear hV1 s0 f0
  refine HC1.out.mono ?_
  rintro e u1 ⟨⟨y1, rfl, hy1, hg1⟩, hr1, ht1⟩
  have HG1 := hid hg1
  have HI1 := hid hy1
  clear hg1 hy1
  have hx1 := ht1.blk HX1.out HNE.out.1
  have hyy1 := ht1.blk HY1.out HNE.out.2.1
  have s1 := hx1.cell (i := 1) rfl
  have f1 := hx1.frozen 1
  obtain ⟨V2, hV2⟩ : ∃ V, V = u1.setCell ⟨qx, 1, none⟩ (.int .i64 y1) := ⟨_, rfl⟩
  have hs1 : Turns (fun i => i = qx) u1 V2 := by rw [hV2]; exact turns_ownQ (Turns.refl _ _)
  have HX2 := hid (hx1.set 1 (.int .i64 y1))
  rw [← hV2] at HX2
  have HY2 := hid (hs1.blk hyy1 HNE.out.2.2.1)
  have HR2 : Hid (RqAt B V2 rb bs _) := hid (hr1.far HLT.out (by rw [hV2]; exact below_setQ _ HNE.out.2.2.2.1 _))
  have HT2 : Hid (Turns (fun i => i = rb) w V2) := (turns_oneQ HT1.out ht1).trans hs1 (fun i hi => .inr (by rw [hi]; exact HNE.out.2.2.2.1))
  clear hx1 hyy1 hs1 hr1 ht1 HX1 HY1 HR1 HT1 HC1
  obtain ⟨W3, hW3⟩ : ∃ V, V = stQ2 V2 qy (.int .i64 y0) (.int .i64 y1) := ⟨_, rfl⟩
  have hk9 : Blk W3 qy 35 [.int .i64 y0, .int .i64 y1] := by rw [hW3]; exact stQ2_blk HY2.out _ _ 
  have hT3 : Turns (fun i => i = qy) V2 W3 := by rw [hW3]; exact stQ2_turns _ _ _ _ 
  have HFI : Hid (PqBal B w rb bs st (.returned (.agg #[.int .i64 y0, .int .i64 y1])) W3) := by
    refine ⟨⟨y0, y1, rfl, HG0.out, HI0.out, HG1.out, HI1.out⟩, HR2.out.far HLT.out (by rw [hW3]; exact (stQ2_turns _ _ _ _ ).below (fun i hi => by rw [hi]; exact HNE.out.2.2.2.2) HT2.out.size), HT2.out.trans hT3 (fun i hi => .inr (by rw [hi]; exact HNE.out.2.2.2.2))⟩
  have k0 := hk9.cell (i := 0) rfl
  have k1 := hk9.cell (i := 1) rfl
  have hxx := HX2.out
  have hyx := HY2.out
  have e0 := hyx.cell (i := 0) rfl
  have g0 := hyx.frozen 0
  have v0 := hxx.cell (i := 0) rfl
  have e1 := hyx.cell (i := 1) rfl
  have g1 := hyx.frozen 1
  have v1 := hxx.cell (i := 1) rfl
  have hxy : qx ≠ qy := fun e => HNE.out.2.2.1 e.symm
  have hyx2 : qy ≠ qx := HNE.out.2.2.1
  clear hk9 hT3 hxx hyx
  rw [hV2] at e0 g0 v0 e1 g1 v1
  rw [hV2] at hW3
  go_wp2
  unfold stQ2 at hW3
  rw [← hW3]
  (try simp only [Exit.inBlock, Exit.then])
  refine bodyPost_ret (v := .agg #[.int .i64 y0, .int .i64 y1]) ?_ rfl HFI.out
  rw [results_cell1Q rfl]
  go_simp
def PqSeal (B : Nat) (w : World) (rb : Nat) (bs : List Int) (st : Option (List Int)) (e : Ending) (w' : World) : Prop := (∃ (y0 : ByteArray) (y1 : ByteArray) (y2 : Int) (a3 : Option Addr) (c3 : Nat) (y3 : List Int), e = .returned (.agg #[.string y0, .string y1, .int .i64 y2, .slice a3 y3.length c3]) ∧ Got st pName y0 ∧ y0.size ≤ 32 ∧ Got (nxt st pName) pName y1 ∧ y1.size ≤ 32 ∧ Got (nxt (nxt st pName) pName) (pNum 2147483647) y2 ∧ (0 ≤ y2 ∧ y2 ≤ 2147483647) ∧ Got (nxt (nxt (nxt st pName) pName) (pNum 2147483647)) pVec y3 ∧ HN w' a3 c3 y3 ∧ (∀ b off, a3 = some ⟨b, off, none⟩ → y3 ≠ [] → w.heap.size ≤ b)) ∧ RqAt B w' rb bs (nxt (nxt (nxt (nxt st pName) pName) (pNum 2147483647)) pVec) ∧ Turns (fun i => i = rb) w w'
set_option maxRecDepth 1000000 in
set_option maxHeartbeats 8000000 in
theorem RqAt.pqSeal {B : Nat} {w : World} {rb : Nat} {bs : List Int} {st : Option (List Int)} (h : RqAt B w rb bs st) : Calls Tryz.prog 82 #[.pointer (some ⟨rb, 0, none⟩)] w (PqSeal B w rb bs st) := by
  obtain ⟨W1, hW1⟩ : ∃ V, V = w.alloc (.cells #[.string ⟨#[]⟩, .string ⟨#[]⟩, .int .i64 0, .slice none 0 0] 37) := ⟨_, rfl⟩
  obtain ⟨W, hW⟩ : ∃ V, V = W1.alloc (.cells #[.string ⟨#[]⟩, .string ⟨#[]⟩, .int .i64 0, .slice none 0 0] 37) := ⟨_, rfl⟩
  have hs1 : W1.heap.size = w.heap.size + 1 := by rw [hW1]; simp
  have hb1 : Below w.heap.size w W1 := by rw [hW1]; exact (Below.refl _ _).alloc (Nat.le_refl _) _
  have hb0 : Below w.heap.size w W := by rw [hW]; exact hb1.alloc hb1.size _
  obtain ⟨qy, hqy⟩ : ∃ q, q = w.heap.size := ⟨_, rfl⟩
  obtain ⟨qx, hqx⟩ : ∃ q, q = w.heap.size + 1 := ⟨_, rfl⟩
  have HY0 : Hid (Blk W qy 37 [.string ⟨#[]⟩, .string ⟨#[]⟩, .int .i64 0, .slice none 0 0]) := by rw [hqy, hW, hW1]; exact (Blk.new w _ _).alloc _
  have HX0 : Hid (Blk W qx 37 [.string ⟨#[]⟩, .string ⟨#[]⟩, .int .i64 0, .slice none 0 0]) := by rw [hqx, hW, ← hs1]; exact Blk.new W1 _ _
  have HLT := hid h.lt
  have HR0 := hid (h.far HLT.out hb0)
  have HT0 : Hid (Turns (fun i => i = rb) w W) := Turns.of_below hb0 (Nat.le_refl _)
  have HW : Hid (W = (w.alloc (.cells #[.string ⟨#[]⟩, .string ⟨#[]⟩, .int .i64 0, .slice none 0 0] 37)).alloc (.cells #[.string ⟨#[]⟩, .string ⟨#[]⟩, .int .i64 0, .slice none 0 0] 37)) := by show _ = _; rw [hW, hW1]
  have HQY := hid hqy
  have HQX := hid hqx
  have HNE : Hid (qx ≠ rb ∧ qy ≠ rb ∧ qy ≠ qx ∧ w.heap.size ≤ qx ∧ w.heap.size ≤ qy) := by have := HLT.out; exact ⟨by omega, by omega, by omega, by omega, by omega⟩
  have HC0 := hid (HR0.out.name)
  clear h hW hW1 hs1 hb1 hb0 hqy hqx
  go_enter Tryz.func82, Tryz.ntmps82
  go_wp2_with fail
  rw [← HW.out, ← HQX.out, ← HQY.out]
  refine HC0.out.mono ?_
  rintro e u0 ⟨⟨y0, rfl, hy0, hg0⟩, hr0, ht0⟩
  have HG0 := hid hg0
  have HI0 := hid hy0
  clear hg0 hy0
  have hx0 := ht0.blk HX0.out HNE.out.1
  have hyy0 := ht0.blk HY0.out HNE.out.2.1
  have s0 := hx0.cell (i := 0) rfl
  have f0 := hx0.frozen 0
  obtain ⟨V1, hV1⟩ : ∃ V, V = u0.setCell ⟨qx, 0, none⟩ (.string y0) := ⟨_, rfl⟩
  have hs0 : Turns (fun i => i = qx) u0 V1 := by rw [hV1]; exact turns_ownQ (Turns.refl _ _)
  have HX1 := hid (hx0.set 0 (.string y0))
  rw [← hV1] at HX1
  have HY1 := hid (hs0.blk hyy0 HNE.out.2.2.1)
  have HR1 : Hid (RqAt B V1 rb bs _) := hid (hr0.far HLT.out (by rw [hV1]; exact below_setQ _ HNE.out.2.2.2.1 _))
  have HT1 : Hid (Turns (fun i => i = rb) w V1) := (turns_oneQ HT0.out ht0).trans hs0 (fun i hi => .inr (by rw [hi]; exact HNE.out.2.2.2.1))
  clear hx0 hyy0 hs0 hr0 ht0 HX0 HY0 HR0 HT0 HC0
  have HC1 := hid (HR1.out.name)
  go_wp2_with fail
  rw [← hV1]
  clear hV1 s0 f0
  refine HC1.out.mono ?_
  rintro e u1 ⟨⟨y1, rfl, hy1, hg1⟩, hr1, ht1⟩
  have HG1 := hid hg1
  have HI1 := hid hy1
  clear hg1 hy1
  have hx1 := ht1.blk HX1.out HNE.out.1
  have hyy1 := ht1.blk HY1.out HNE.out.2.1
  have s1 := hx1.cell (i := 1) rfl
  have f1 := hx1.frozen 1
  obtain ⟨V2, hV2⟩ : ∃ V, V = u1.setCell ⟨qx, 1, none⟩ (.string y1) := ⟨_, rfl⟩
  have hs1 : Turns (fun i => i = qx) u1 V2 := by rw [hV2]; exact turns_ownQ (Turns.refl _ _)
  have HX2 := hid (hx1.set 1 (.string y1))
  rw [← hV2] at HX2
  have HY2 := hid (hs1.blk hyy1 HNE.out.2.2.1)
  have HR2 : Hid (RqAt B V2 rb bs _) := hid (hr1.far HLT.out (by rw [hV2]; exact below_setQ _ HNE.out.2.2.2.1 _))
  have HT2 : Hid (Turns (fun i => i = rb) w V2) := (turns_oneQ HT1.out ht1).trans hs1 (fun i hi => .inr (by rw [hi]; exact HNE.out.2.2.2.1))
  clear hx1 hyy1 hs1 hr1 ht1 HX1 HY1 HR1 HT1 HC1
  have HC2 := hid (HR2.out.number 2147483647 (by decide))
  go_wp2_with fail
  rw [← hV2]
  clear hV2 s1 f1
  refine HC2.out.mono ?_
  rintro e u2 ⟨⟨y2, rfl, hy2, hg2⟩, hr2, ht2⟩
  have HG2 := hid hg2
  have HI2 := hid hy2
  clear hg2 hy2
  have hx2 := ht2.blk HX2.out HNE.out.1
  have hyy2 := ht2.blk HY2.out HNE.out.2.1
  have s2 := hx2.cell (i := 2) rfl
  have f2 := hx2.frozen 2
  obtain ⟨V3, hV3⟩ : ∃ V, V = u2.setCell ⟨qx, 2, none⟩ (.int .i64 y2) := ⟨_, rfl⟩
  have hs2 : Turns (fun i => i = qx) u2 V3 := by rw [hV3]; exact turns_ownQ (Turns.refl _ _)
  have HX3 := hid (hx2.set 2 (.int .i64 y2))
  rw [← hV3] at HX3
  have HY3 := hid (hs2.blk hyy2 HNE.out.2.2.1)
  have HR3 : Hid (RqAt B V3 rb bs _) := hid (hr2.far HLT.out (by rw [hV3]; exact below_setQ _ HNE.out.2.2.2.1 _))
  have HT3 : Hid (Turns (fun i => i = rb) w V3) := (turns_oneQ HT2.out ht2).trans hs2 (fun i hi => .inr (by rw [hi]; exact HNE.out.2.2.2.1))
  clear hx2 hyy2 hs2 hr2 ht2 HX2 HY2 HR2 HT2 HC2
  have HC3 := hid (HR3.out.vector)
  go_wp2_with fail
  rw [← hV3]
  clear hV3 s2 f2
  refine HC3.out.mono ?_
  rintro e u3 ⟨⟨a3, c3, y3, rfl, hg3, hn3, hn3b⟩, hr3, ht3⟩
  have HG3 := hid hg3
  have HV3 := hid hn3
  obtain ⟨N3, HN3⟩ : ∃ n, Hid (y3.length = n) := ⟨_, hid rfl⟩
  rw [HN3.out]
  have HB3 : Hid (∀ b off, a3 = some ⟨b, off, none⟩ → y3 ≠ [] → w.heap.size ≤ b) := fun b off e hne => Nat.le_trans HT3.out.size (hn3b b off e hne)
  clear hg3 hn3 hn3b
  have hx3 := ht3.blk HX3.out HNE.out.1
  have hyy3 := ht3.blk HY3.out HNE.out.2.1
  have s3 := hx3.cell (i := 3) rfl
  have f3 := hx3.frozen 3
  obtain ⟨V4, hV4⟩ : ∃ V, V = u3.setCell ⟨qx, 3, none⟩ (.slice a3 N3 c3) := ⟨_, rfl⟩
  have hs3 : Turns (fun i => i = qx) u3 V4 := by rw [hV4]; exact turns_ownQ (Turns.refl _ _)
  have HX4 := hid (hx3.set 3 (.slice a3 N3 c3))
  rw [← hV4] at HX4
  have HY4 := hid (hs3.blk hyy3 HNE.out.2.2.1)
  have HR4 : Hid (RqAt B V4 rb bs _) := hid (hr3.far HLT.out (by rw [hV4]; exact below_setQ _ HNE.out.2.2.2.1 _))
  have HT4 : Hid (Turns (fun i => i = rb) w V4) := (turns_oneQ HT3.out ht3).trans hs3 (fun i hi => .inr (by rw [hi]; exact HNE.out.2.2.2.1))
  have HV3 := hid (HV3.out.kept hx3 (by decide) hs3)
  clear hx3 hyy3 hs3 hr3 ht3 HX3 HY3 HR3 HT3 HC3
  obtain ⟨W3, hW3⟩ : ∃ V, V = stQ4 V4 qy (.string y0) (.string y1) (.int .i64 y2) (.slice a3 N3 c3) := ⟨_, rfl⟩
  have hk9 : Blk W3 qy 37 [.string y0, .string y1, .int .i64 y2, .slice a3 N3 c3] := by rw [hW3]; exact stQ4_blk HY4.out _ _ _ _ 
  have hT3 : Turns (fun i => i = qy) V4 W3 := by rw [hW3]; exact stQ4_turns _ _ _ _ _ _ 
  have HV3 := hid (HV3.out.kept HY4.out (by decide) hT3)
  have HFI : Hid (PqSeal B w rb bs st (.returned (.agg #[.string y0, .string y1, .int .i64 y2, .slice a3 N3 c3])) W3) := by
    refine ⟨⟨y0, y1, y2, a3, c3, y3, by rw [HN3.out], HG0.out, HI0.out, HG1.out, HI1.out, HG2.out, HI2.out, HG3.out, HV3.out, HB3.out⟩, HR4.out.far HLT.out (by rw [hW3]; exact (stQ4_turns _ _ _ _ _ _ ).below (fun i hi => by rw [hi]; exact HNE.out.2.2.2.2) HT4.out.size), HT4.out.trans hT3 (fun i hi => .inr (by rw [hi]; exact HNE.out.2.2.2.2))⟩
  have k0 := hk9.cell (i := 0) rfl
  have k1 := hk9.cell (i := 1) rfl
  have k2 := hk9.cell (i := 2) rfl
  have k3 := hk9.cell (i := 3) rfl
  have hxx := HX4.out
  have hyx := HY4.out
  have e0 := hyx.cell (i := 0) rfl
  have g0 := hyx.frozen 0
  have v0 := hxx.cell (i := 0) rfl
  have e1 := hyx.cell (i := 1) rfl
  have g1 := hyx.frozen 1
  have v1 := hxx.cell (i := 1) rfl
  have e2 := hyx.cell (i := 2) rfl
  have g2 := hyx.frozen 2
  have v2 := hxx.cell (i := 2) rfl
  have e3 := hyx.cell (i := 3) rfl
  have g3 := hyx.frozen 3
  have v3 := hxx.cell (i := 3) rfl
  have hxy : qx ≠ qy := fun e => HNE.out.2.2.1 e.symm
  have hyx2 : qy ≠ qx := HNE.out.2.2.1
  clear hk9 hT3 hxx hyx
  rw [hV4] at e0 g0 v0 e1 g1 v1 e2 g2 v2 e3 g3 v3
  rw [hV4] at hW3
  go_wp2
  unfold stQ4 at hW3
  rw [← hW3]
  (try simp only [Exit.inBlock, Exit.then])
  refine bodyPost_ret (v := .agg #[.string y0, .string y1, .int .i64 y2, .slice a3 N3 c3]) ?_ rfl HFI.out
  rw [results_cell1Q rfl]
  go_simp
end Go.Proofs.YtfmnbehopdmahaaGreat
