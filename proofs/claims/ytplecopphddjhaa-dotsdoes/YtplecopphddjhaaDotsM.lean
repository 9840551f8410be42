/-
  Package dots: All and Upto answer an iterator; what every program must do.
-/
import Derived.Test.YtplecopphddjhaaDotsJ
namespace Go.Proofs.Ytplecopphddjhaa
open Go.RowKit Go.Maps

theorem itD_eql (a b : Nat) (W : World) : (binOp .eql 46 (.func (.func 46) #[] #[.pointer (some ⟨a, 0, none⟩), .pointer (some ⟨b, 0, none⟩)]) .nilFunc).run Try.prog W = .ok (.bool false) W := by kernel_rfl
/-- An iterator: the set's box q, and behind it what is wanted. -/
def AnsT (w : World) (sp fv : Value) (e : Ending) (w' : World) : Prop := e = .returned (.func (.func 46) #[] #[.pointer (some ⟨w.heap.size, 0, none⟩), .pointer (some ⟨w.heap.size + 1, 0, none⟩)]) ∧ Boxed w' w.heap.size 26 sp ∧ Boxed w' (w.heap.size + 1) 53 fv ∧ Below w.heap.size w w'
theorem those_any (w : World) (sp fv : Value) (h1 : sp.oneCell' = true) (h2 : fv.oneCell' = true) (hs : sp.cells = #[sp]) (hf : fv.cells = #[fv]) : Calls Try.prog 32 #[sp, fv] w (AnsT w sp fv) := by
  have HB : Hid (Below w.heap.size w ((w.alloc (.cells #[sp] 26)).alloc (.cells #[fv] 53))) := ((Below.refl _ _).alloc (Nat.le_refl _) _).alloc (by simp) _
  have H1 : Hid (Boxed ((w.alloc (.cells #[sp] 26)).alloc (.cells #[fv] 53)) w.heap.size 26 sp) := (Boxed.new w _ _).alloc _
  have H2 : Hid (Boxed ((w.alloc (.cells #[sp] 26)).alloc (.cells #[fv] 53)) (w.heap.size + 1) 53 fv) := by
    have := Boxed.new (w.alloc (.cells #[sp] 26)) 53 fv
    rw [World.size_alloc] at this
    exact this
  go_enter Try.func32, Try.ntmps32
  go_wp2
  go_ret
  exact ⟨rfl, H1.out, H2.out, HB.out⟩
theorem all_any (w : World) (pa : Option Addr) : Calls Try.prog 12 #[.pointer pa] w (AnsT w (.pointer pa) (.func (.func 33) #[] #[])) := by
  have H := hid (those_any w (.pointer pa) (.func (.func 33) #[] #[]) rfl rfl rfl rfl)
  go_enter Try.func12, Try.ntmps12
  go_wp2_with fail
  refine H.out.mono ?_
  rintro e w' ⟨rfl, h1, h2, h3⟩
  have H1 := hid h1
  have H2 := hid h2
  have H3 := hid h3
  clear h1 h2 h3
  go_wp2
  go_ret
  exact ⟨rfl, H1.out, H2.out, H3.out⟩
def AnsU (w : World) (sp : Value) (v : List Int) (e : Ending) (w' : World) : Prop := ∃ q co cc, w.heap.size < q ∧ e = .returned (.func (.func 46) #[] #[.pointer (some ⟨q, 0, none⟩), .pointer (some ⟨q + 1, 0, none⟩)]) ∧ Boxed w' q 26 sp ∧
  Boxed w' (q + 1) 53 (.func (.func 35) #[] #[.pointer (some ⟨w.heap.size, 0, none⟩)]) ∧ Boxed w' w.heap.size 23 (.slice co v.length cc) ∧ HV w' co cc v ∧ OldAt w.heap.size co v ∧ Below w.heap.size w w'
set_option maxRecDepth 100000 in
theorem upto_any (w : World) (pa : Option Addr) (vo : Option Addr) (vc : Nat) (v : List Int) (k : Nat) (hk : v.length = k) (hv : HV w vo vc v) : Calls Try.prog 13 #[.pointer pa, .slice vo k vc] w (AnsU w (.pointer pa) v) := by
  have HB1 : Hid (Below w.heap.size w (w.alloc (.cells #[.slice vo k vc] 23))) := (Below.refl _ _).alloc (Nat.le_refl _) _
  have HX1 : Hid (Boxed (w.alloc (.cells #[.slice vo k vc] 23)) w.heap.size 23 (.slice vo k vc)) := Boxed.new w _ _
  have HC := hid (clone2_any (w.alloc (.cells #[.slice vo k vc] 23)) vo vc v k hk (hv.below HB1.out))
  have HK := hid hk
  clear hv hk
  go_enter Try.func13, Try.ntmps13
  go_wp2_with fail
  generalize w.alloc (.cells #[.slice vo k vc] 23) = w1 at *
  refine HC.out.mono ?_
  rintro e w2 ⟨co, cc, rfl, hv2, hb2, ho2⟩
  have HX2 : Hid (Boxed w2 w.heap.size 23 (.slice vo k vc)) := (hb2.block _ HX1.out.lt).trans HX1.out
  have hc2 := HX2.out.cell
  have hf2 := HX2.out.frozen
  have HB2 := hid (bt HB1.out hb2)
  have hs1 : w.heap.size < w1.heap.size := HX1.out.lt
  have HO2 : Hid (OldAt w1.heap.size co v) := ho2
  obtain ⟨L, HL⟩ : ∃ L, Hid (v.length = L) := ⟨_, hid rfl⟩
  have HV2 := hid hv2
  have HT : Hid (Below w.heap.size w (w2.setCell ⟨w.heap.size, 0, none⟩ (.slice co L cc))) := HB2.out.setCell (p := ⟨w.heap.size, 0, none⟩) (Nat.le_refl _) _
  have HX3 : Hid (Boxed (w2.setCell ⟨w.heap.size, 0, none⟩ (.slice co L cc)) w.heap.size 23 (.slice co L cc)) := HX2.out.set _
  have HV3 : Hid (HV (w2.setCell ⟨w.heap.size, 0, none⟩ (.slice co L cc)) co cc v) := ⟨HV2.out.held.turned ((Turns.refl (fun i => i = w.heap.size) w2).setCell (p := ⟨w.heap.size, 0, none⟩) (.inl rfl) _) (fun b off e hne he => by have := HO2.out b off e hne; omega), HV2.out.room, HV2.out.few⟩
  have hs3 : w.heap.size < (w2.setCell ⟨w.heap.size, 0, none⟩ (.slice co L cc)).heap.size := HX3.out.lt
  rw [HL.out]
  clear hv2 hb2 ho2 HC
  go_wp2_with fail
  generalize w2.setCell ⟨w.heap.size, 0, none⟩ (.slice co L cc) = w3 at *
  refine (those_any w3 (.pointer pa) (.func (.func 35) #[] #[.pointer (some ⟨w.heap.size, 0, none⟩)]) rfl rfl rfl rfl).mono ?_
  rintro e w4 ⟨rfl, h1, h2, h3⟩
  have H1 := hid h1
  have H2 := hid h2
  have H4 := hid (bt HT.out h3)
  have HX4 : Hid (Boxed w4 w.heap.size 23 (.slice co L cc)) := (h3.block _ HX3.out.lt).trans HX3.out
  have HV4 := hid (HV3.out.below h3)
  clear h1 h2 h3
  go_wp2
  go_ret
  refine ⟨w3.heap.size, co, cc, hs3, rfl, H1.out, H2.out, by rw [HL.out]; exact HX4.out, HV4.out, HO2.out.mono (by omega), H4.out⟩
section
variable {w wb : World} {p m N : Nat} {rs : Nat → Value} {R : Nat → List Value} {D : DataW Value} {S : Int → Int → Option Value}
theorem Closed.below {B : Nat} (h : Closed w p m rs S N wb) (hf : ∀ i, FootD p m rs i → B ≤ i) (hB : B ≤ w.heap.size) : ∃ rs' R' D', DotsAt wb p rs' R' m D' S N ∧ Below B w wb ∧ ∀ i, FootD p m rs' i → B ≤ i := by
  obtain ⟨rs', R', D', h1, h2, h3⟩ := h
  refine ⟨rs', R', D', h1, h2.below hf hB, fun i hi => ?_⟩
  rcases h3 i hi with h | h
  · exact hf i h
  · omega
theorem DotsAt.len_eq (h : DotsAt w p rs R m D S N) {k : Nat} (hk : k < 7) (L : Nat) (h1 : ∀ i : Nat, i < L → (S (k : Int) ((i : Int) + 1)).isSome = true) (h2 : S (k : Int) ((L : Int) + 1) = none) : (R k).length = L := by
  have h3 := h.gap k hk
  have h4 := h.pre.runs k hk
  rcases Nat.lt_trichotomy (R k).length L with hlt | he | hgt
  · have := h1 _ hlt
    rw [h3] at this
    cases this
  · exact he
  · have := h4 L hgt
    rw [h2, List.getElem?_eq_getElem hgt] at this
    cases this
end
end Go.Proofs.Ytplecopphddjhaa
/-
  pannierlaw09.lives answers true.
-/
namespace Go.Proofs.Ytplecopphddjhaa
open Go.RowKit Go.Maps

def bsA : ByteArray := { data := #[97] }
def bsC : ByteArray := { data := #[99] }
def bsX : ByteArray := { data := #[120] }
def S1 : Int → Int → Option Value := updS (fun _ _ => none) 0 1 (.string bsA)
def S2 : Int → Int → Option Value := updS S1 0 3 (.string bsC)
theorem lives_lens {w : World} {p m N : Nat} {rs : Nat → Value} {R : Nat → List Value} {D : DataW Value} (h : DotsAt w p rs R m D S2 N) : plainOf (lensOf R) = [1] := by
  have h0 : (R 0).length = 1 := h.len_eq (by decide) 1 (fun i hi => by have : i = 0 := by omega
                                                                       subst this
                                                                       rfl) rfl
  have hk : ∀ k : Nat, k < 7 → k ≠ 0 → (R k).length = 0 := fun k hk hne => h.len_eq hk 0 (fun i hi => by omega) (by
    simp [S2, S1, updS, hne])
  unfold lensOf
  rw [h0, hk 1 (by decide) (by decide), hk 2 (by decide) (by decide), hk 3 (by decide) (by decide), hk 4 (by decide) (by decide), hk 5 (by decide) (by decide), hk 6 (by decide) (by decide)]
  rfl
theorem lives_keys {w : World} {p m N : Nat} {rs : Nat → Value} {R : Nat → List Value} {D : DataW Value} (h : DotsAt w p rs R m D S2 N) {ss : List (Int × Int)} (hs : SortedK D ss) : ss.length = 1 := by
  have h0 : (R 0).length = 1 := h.len_eq (by decide) 1 (fun i hi => by have : i = 0 := by omega
                                                                       subst this
                                                                       rfl) rfl
  have hmem : ∀ o s, (o, s) ∈ ss ↔ (o, s) = (0, 3) := fun o s => by
    rw [hs.1.2 o s]
    constructor
    · rintro ⟨h1, h2, h3⟩
      rw [h.pre.keys o s h1 h2] at h3
      split at h3
      · next hc =>
        by_cases e : o = 0 ∧ s = 3
        · rw [e.1, e.2]
        · by_cases e2 : o = 0 ∧ s = 1
          · obtain ⟨rfl, rfl⟩ := e2
            have := hc.2
            rw [Int.toNat_zero, h0] at this
            omega
          · simp [S2, S1, updS, e, e2] at h3
      · cases h3
    · intro e
      cases e
      have hi : I64 0 ∧ I64 3 := by unfold I64; omega
      refine ⟨hi.1, hi.2, ?_⟩
      rw [h.pre.keys 0 3 hi.1 hi.2, if_pos ⟨by unfold MayD; omega, by rw [Int.toNat_zero, h0]; omega⟩]
      rfl
  match ss, hs.1.1, hmem with
  | [], _, hm => exact absurd ((hm 0 3).2 rfl) (by simp)
  | [_], _, _ => rfl
  | a :: b :: r, hn, hm =>
    have ha := (hm a.1 a.2).1 (by simp)
    have hb := (hm b.1 b.2).1 (by simp)
    have : a = b := ha.trans hb.symm
    subst this
    simp at hn
theorem i64s : I64 0 ∧ I64 1 ∧ I64 3 := by unfold I64; omega
theorem eqlS (W : World) : (binOp .eql 9 (.string { data := #[99] }) (.string { data := #[99] })).run Try.prog W = .ok (.bool true) W := by kernel_rfl
set_option maxRecDepth 1000000 in
set_option maxHeartbeats 1000000 in
theorem livesD_any (w : World) : Calls Try.prog 5 #[] w fun e w' => e = .returned (.bool true) ∧ Below w.heap.size w w' := by
  go_enter Try.func5, Try.ntmps5
  go_wp2_with fail
  refine (new_any w).mono ?_
  rintro e w1 ⟨rfl, hd, hb⟩
  have HD1 := hid hd
  have HB1 := hid hb
  have HF1 : Hid (∀ i, FootD (w.heap.size + 1) w.heap.size (fun _ => .slice none 0 0) i → w.heap.size ≤ i) := fun i hi => by
    rcases hi with rfl | rfl | ⟨k, _, hk⟩
    · omega
    · omega
    · simp [Value.ownBlock] at hk
  clear hd hb
  obtain ⟨p, HP⟩ : ∃ p, Hid (p = w.heap.size + 1) := ⟨_, hid rfl⟩
  rw [← HP.out] at HD1 HF1 ⊢
  obtain ⟨m, HM⟩ : ∃ p, Hid (p = w.heap.size) := ⟨_, hid rfl⟩
  rw [← HM.out] at HD1
  have HF1' : Hid (∀ i, FootD p m (fun _ => .slice none 0 0) i → w.heap.size ≤ i) := by rw [HM.out]; exact HF1.out
  clear HF1
  go_wp2_with fail
  refine (all_any w1 _).mono ?_
  rintro e w2 ⟨rfl, _, _, hb⟩
  have HD2 := hid (HD1.out.below hb)
  have HB2 := hid (bt HB1.out hb)
  have hq := fun W => itD_eql w1.heap.size (w1.heap.size + 1) W
  clear hb HD1 HB1
  go_wp2_with fail
  refine (upto_any w2 _ none 0 [] 0 rfl (hv_nil _)).mono ?_
  rintro e w3 ⟨q3, _, _, _, rfl, _, _, _, _, _, hb⟩
  have HD3 := hid (HD2.out.below hb)
  have HB3 := hid (bt HB2.out hb)
  clear hq
  have hq := fun W => itD_eql q3 (q3 + 1) W
  clear hb HD2 HB2
  go_wp2_with fail
  clear hq
  refine (add_any HD3.out 0 1 bsA).mono ?_
  rintro e w4 ⟨he, hr⟩
  have hc : addCode (fun _ _ => none) 0 0 1 = 0 := by decide
  rw [hc] at he
  subst he
  rcases hr with ⟨hno, _⟩ | ⟨_, hcl⟩
  · exact absurd hc hno
  obtain ⟨rs4, R4, D4, hd4, hb4, hf4⟩ := hcl.below HF1'.out HB3.out.size
  have HD4 : Hid (DotsAt w4 p rs4 R4 m D4 S1 1) := hd4
  have HB4 := hid (HB3.out.trans hb4)
  have HF4 := hid hf4
  clear hcl hd4 hb4 hf4 hc HD3 HB3 HF1'
  go_wp2_with fail
  refine (add_any HD4.out 0 3 bsC).mono ?_
  rintro e w5 ⟨he, hr⟩
  have hc : addCode S1 1 0 3 = 0 := by decide
  rw [hc] at he
  subst he
  rcases hr with ⟨hno, _⟩ | ⟨_, hcl⟩
  · exact absurd hc hno
  obtain ⟨rs5, R5, D5, hd5, hb5, hf5⟩ := hcl.below HF4.out HB4.out.size
  have HD5 : Hid (DotsAt w5 p rs5 R5 m D5 S2 2) := hd5
  have HB5 := hid (HB4.out.trans hb5)
  clear hcl hd5 hb5 hf5 hc HD4 HB4 HF4
  go_wp2_with fail
  refine (add_any HD5.out 0 1 bsX).mono ?_
  rintro e w6 ⟨he, hr⟩
  have hc : addCode S2 2 0 1 = 5 := by decide
  rw [hc] at he hr
  subst he
  rcases hr with ⟨_, hd6, hb6⟩ | ⟨hno, _⟩
  rotate_left 1
  · cases hno
  have HD6 := hid hd6
  have HB6 := hid (bt HB5.out hb6)
  clear hd6 hb6 hc HD5 HB5
  go_wp2_with fail
  refine (get_any HD6.out.pre 0 3).mono ?_
  rintro e w7 ⟨he, hb7⟩
  have hg : e = .returned (.tuple #[.string { data := #[99] }, .bool true]) := he
  subst hg
  have HD7 := hid (HD6.out.below hb7)
  have HB7 := hid (bt HB6.out hb7)
  clear he hb7 HD6 HB6
  go_wp2_with fail
  refine (vector_any HD7.out.pre).mono ?_
  rintro e w8 ⟨vo, vc, rfl, hv8, hb8⟩
  have HLE := hid (lives_lens HD7.out)
  rw [HLE.out] at hv8 ⊢
  have HV8 := hid hv8
  have HD8 := hid (HD7.out.below hb8)
  have HB8 := hid (bt HB7.out hb8)
  clear hv8 hb8 HD7 HB7
  go_wp2_with fail
  refine (extras_any HD8.out.pre).mono ?_
  rintro e w9 ⟨u, ss, rfl, hso, _, hrow, hb9⟩
  have hss := lives_keys HD8.out hso
  rw [hss] at hrow
  obtain ⟨eo, ec, rfl⟩ := own_slice hrow
  have HD9 := hid (HD8.out.below hb9)
  have HB9 := hid (bt HB8.out hb9)
  have HV9 := hid (HV8.out.below hb9)
  obtain ⟨vb, voff, rfl, hvc⟩ := HV9.out.held.cellAt (k := 0) (by decide)
  have hcv : w9.cell? ⟨vb, voff + 0, none⟩ = some (.int .i64 1) := hvc 0 (by decide)
  rw [Nat.add_zero] at hcv
  clear hso hrow hb9 hss hvc HD8 HB8 HV8
  have hes := eqlS
  go_wp2_with fail
  refine (lenD_any HD9.out.pre).mono ?_
  rintro e w9' ⟨rfl, rfl⟩
  go_wp2
  go_ret
  exact ⟨rfl, HB9.out⟩
end Go.Proofs.Ytplecopphddjhaa
/-
  Package dots: the calls of a nil set.
-/
namespace Go.Proofs.Ytplecopphddjhaa
open Go.RowKit Go.Shelf Go.Maps
attribute [local go_sem] Oper.semAt_some

theorem items_nil (w : World) (g : Fn) (cb : Array Value) : Calls Try.prog 47 #[.pointer none, .func g #[] cb] w fun e w' => e = .returned (.slice none 0 0) ∧ Below w.heap.size w w' := by
  have HB : Hid (Below w.heap.size w (w.alloc (.cells #[.func g #[] cb] 53))) := (Below.refl _ _).alloc (Nat.le_refl _) _
  go_enter Try.func47, Try.ntmps47
  go_wp2_with fail
  refine (closedD_nil _).mono ?_
  rintro e w' ⟨rfl, rfl⟩
  go_wp2
  go_ret
  exact ⟨rfl, HB.out⟩
theorem missing_nil (w : World) (v : Value) : Calls Try.prog 30 #[.pointer none, v] w fun e w' => e = .returned (.slice none 0 0) ∧ Below w.heap.size w w' := by
  have HB : Hid (Below w.heap.size w (w.alloc (.cells #[.pointer none] 26))) := (Below.refl _ _).alloc (Nat.le_refl _) _
  go_enter Try.func30, Try.ntmps30
  go_wp2_with fail
  refine (closedD_nil _).mono ?_
  rintro e w' ⟨rfl, rfl⟩
  go_wp2
  go_ret
  exact ⟨rfl, HB.out⟩
theorem fork_nil (w : World) : Calls Try.prog 8 #[.pointer none] w fun e w' => e = .returned (.pointer none) ∧ w' = w := by
  go_enter Try.func8, Try.ntmps8
  go_wp2_with fail
  refine (closedD_nil _).mono ?_
  rintro e w' ⟨rfl, rfl⟩
  go_wp2
  go_ret
  exact ⟨rfl, rfl⟩
set_option maxRecDepth 100000 in
theorem those_nil_seq (n : Nat) (hn : 1 ≤ n) (q0 q1 : Nat) (g : Fn) (cb : Array Value) (V : World) (h0 : Boxed V q0 26 (.pointer none)) (h1 : Boxed V q1 53 (.func g #[] cb)) :
    SeqStopsK Fence.wide n Try.prog 46 #[.pointer (some ⟨q0, 0, none⟩), .pointer (some ⟨q1, 0, none⟩)] (fun x : (Int × Int) × Value => #[dotV x.1, x.2]) KeepsWalks (fun ys => ys = []) (fun _ => True) 0 V := by
  intro l J Jx W hW hJ hJx hY hj
  have hb0 : Boxed W q0 26 (.pointer none) := (hW.block _ h0.lt).trans h0
  have hb1 : Boxed W q1 53 (.func g #[] cb) := (hW.block _ h1.lt).trans h1
  have hc0 := hb0.cell
  have hc1 := hb1.cell
  have HJ := hid hJ
  clear hW hJx hY hb0 hb1 h0 h1 hJ
  change CallsIn Fence.wide n Try.prog 46 #[.func (.yield l) #[] #[], .pointer (some ⟨q0, 0, none⟩), .pointer (some ⟨q1, 0, none⟩)] W _
  refine callsIn_of_wp Try.func46 rfl trivial ?_ rfl
  simp only [Try.ntmps46, List.size_toArray, List.length_cons, List.length_nil, Nat.reduceAdd, Nat.reduceSub, Array.replicate_succ, Array.replicate_zero, List.push_toArray, List.append_toArray, List.nil_append, List.cons_append]
  gi_wp2_with fail
  refine ⟨trivial, (callsIn_wide.2 (items_nil W g cb)).mono ?_⟩
  rintro e w2 ⟨rfl, hb⟩
  have HJ2 := hid (HJ.out [] W w2 none hj ⟨hb.os, hb.tape, hb.output, hb.size, fun k hk _ => hb.block k hk⟩ (fun r e => by cases e))
  clear hb
  gi_wp2
  refine wpIn_loop_rounds 1 ?_
  rw [roundsIn_succ]
  gi_wp2
  refine bodyPost_end (results_none rfl _ _ _) rfl ?_
  exact ⟨⟨_, rfl⟩, .inl ⟨[], rfl, HJ2.out⟩⟩
end Go.Proofs.Ytplecopphddjhaa
