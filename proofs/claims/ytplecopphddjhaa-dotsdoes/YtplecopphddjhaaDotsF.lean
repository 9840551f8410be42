/-
  Package dots: Add.
-/
import Derived.Test.YtplecopphddjhaaDotsD
namespace Go.Proofs.Ytplecopphddjhaa
open Go.RowKit Go.Maps

def updS (S : Int → Int → Option Value) (o s : Int) (x : Value) (o' s' : Int) : Option Value := if o' = o ∧ s' = s then some x else S o' s'
/-- What Add answers. -/
def addCode (S : Int → Int → Option Value) (N : Nat) (o s : Int) : Int := if MayD o s then (if (S o s).isSome then 5 else if 65536 ≤ N then 2 else 0) else 1
section
variable {w w3 : World} {p m N : Nat} {rs : Nat → Value} {R : Nat → List Value} {D : DataW Value} {S : Int → Int → Option Value}
theorem put_step (h : DotsAt w p rs R m D S N) {o : Nat} {s : Int} (hm : MayD o s) (hS : S o s = none) (hN : N < 65536) {x : Value} (hx : IsE x)
    (hO : w3.ownsMap Try.prog 25 valR m (N + 1) (D.put (dk o s) (.held x))) (T : Turns (fun i => i = m) w w3) :
    DotsPre w3 p rs R m (D.put (dk o s) (.held x)) (updS S o s x) (N + 1) ∧ ∀ o' : Nat, o' < 7 → o' ≠ o → updS S o s x (o' : Int) (((R o').length : Int) + 1) = none := by
  have hP := h.pre
  have h7 : o < 7 := by unfold MayD at hm; omega
  have hlen : ((R o).length : Int) < s := by
    have h1 := hP.at hm
    rw [hS] at h1
    split at h1
    · next hle =>
      have h2 := List.getElem?_eq_none_iff.1 h1.symm
      have := hm.2.1
      omega
    · next hle => omega
  have hlk : look D (dk o s) = none := by
    rw [hP.keys o s hm.i64.1 hm.i64.2, if_pos ⟨hm, by simpa using hlen⟩, hS]
  have hne : ∀ {o' s' : Int}, I64 o' → I64 s' → ¬ (o' = o ∧ s' = s) → dk o' s' ≠ dk o s := fun ho hs hn e => hn (dk_inj ho hs hm.i64.1 hm.i64.2 e)
  refine ⟨⟨T.blk hP.blk (fun e => hP.blk.not_map hP.map e), fun i hi => T.row (hP.run i hi) (fun g hg e => row_not_map (hP.run i hi) hP.map (by rw [hg, e])), hO, hP.apart, hP.one, ?_, ?_, ?_, ?_, ?_, by omega⟩, ?_⟩
  · intro o' s' ho hs
    by_cases e : o' = o ∧ s' = s
    · obtain ⟨rfl, rfl⟩ := e
      rw [look_put_same hP.map.isMap (Try.keyedDot.key (key_dot hm.i64.1 hm.i64.2)), if_pos ⟨hm, by simpa using hlen⟩]
      simp [updS]
    · rw [look_put_other (hne ho hs e), hP.keys o' s' ho hs]
      simp [updS, e]
  · intro o' ho' i hi
    have := hP.runs o' ho' i hi
    unfold updS
    rw [if_neg]
    · exact this
    · rintro ⟨e1, e2⟩
      have : o' = o := by omega
      subst this
      omega
  · intro o' s' hn
    unfold updS
    rw [if_neg (by rintro ⟨rfl, rfl⟩; exact hn hm)]
    exact hP.out o' s' hn
  · intro o' s' v hv
    unfold updS at hv
    split at hv
    · cases hv
      exact hx
    · exact hP.ones o' s' v hv
  · have h1 := size_put (k := dk o s) (size_tidy hP.map) (.held x)
    rw [has_look (allHeld_of hP.map), hlk] at h1
    have := hP.cnt
    simp at h1
    omega
  · intro o' ho' hne'
    unfold updS
    rw [if_neg (by rintro ⟨e1, _⟩; omega)]
    exact h.gap o' ho'
/-- What Add leaves. -/
def Added (w : World) (p m : Nat) (rs : Nat → Value) (R : Nat → List Value) (D : DataW Value) (S : Int → Int → Option Value) (N : Nat) (o s : Int) (x : Value) (e : Ending) (w' : World) : Prop :=
  e = .returned (.int .i64 (addCode S N o s)) ∧ ((addCode S N o s ≠ 0 ∧ DotsAt w' p rs R m D S N ∧ Below w.heap.size w w') ∨ (addCode S N o s = 0 ∧ Closed w p m rs (updS S o s x) (N + 1) w'))
theorem add_nil (w : World) (o s : Int) (t : ByteArray) : Calls Try.prog 6 #[.pointer none, .agg #[.int .i64 o, .int .i64 s], .string t] w fun e w' => e = .returned (.int .i64 6) ∧ Below w.heap.size w w' := by
  have HB : Hid (Below w.heap.size w (w.alloc (.cells #[.int .i64 o, .int .i64 s] 25))) := (Below.refl _ _).alloc (Nat.le_refl _) _
  go_enter Try.func6, Try.ntmps6
  go_wp2_with fail
  refine (closedD_nil _).mono ?_
  rintro e w' ⟨rfl, rfl⟩
  go_wp2
  go_ret
  exact ⟨rfl, HB.out⟩
set_option maxRecDepth 2000000 in
set_option maxHeartbeats 1000000 in
theorem add_any (h : DotsAt w p rs R m D S N) (o s : Int) (t : ByteArray) : Calls Try.prog 6 #[.pointer (some ⟨p, 0, none⟩), .agg #[.int .i64 o, .int .i64 s], .string t] w (Added w p m rs R D S N o s (.string t)) := by
  have HB1 : Hid (Below w.heap.size w (w.alloc (.cells #[.int .i64 o, .int .i64 s] 25))) := (Below.refl _ _).alloc (Nat.le_refl _) _
  have HD1 : Hid (Blk (w.alloc (.cells #[.int .i64 o, .int .i64 s] 25)) w.heap.size 25 [.int .i64 o, .int .i64 s]) := Blk.new w 25 _
  have HH1 := hid (h.below HB1.out)
  have HFT := hid h.pre.foot_lt
  clear h
  go_enter Try.func6, Try.ntmps6
  go_wp2_with fail
  generalize w.alloc (.cells #[.int .i64 o, .int .i64 s] 25) = w1 at *
  refine (closedD_no _ p m (HH1.out.pre.blk.cell (i := 7) rfl)).mono ?_
  rintro e w1 ⟨rfl, rfl⟩
  have hd0 := HD1.out.cell (i := 0) rfl
  have hd1 := HD1.out.cell (i := 1) rfl
  go_wp2_with fail
  refine (may_dot _ o s).mono ?_
  rintro e w2 ⟨rfl, hb2⟩
  have HB2 := hid (bt HB1.out hb2)
  have HH2 := hid (HH1.out.below hb2)
  have HD2 : Hid (Blk w2 w.heap.size 25 [.int .i64 o, .int .i64 s]) := HD1.out.below hb2 HD1.out.lt
  clear hb2 hd0 hd1 HB1 HH1 HD1
  by_cases hm : MayD o s
  rotate_left 1
  · rw [decide_eq_false hm]
    have HC : Hid (addCode S N o s = 1) := by show _ = _; unfold addCode; rw [if_neg hm]
    clear hm
    go_wp2
    go_ret
    refine ⟨by rw [HC.out]; rfl, .inl ⟨by rw [HC.out]; decide, HH2.out, HB2.out⟩⟩
  rw [decide_eq_true hm]
  have HMD := hid hm
  clear hm
  have hd0 := HD2.out.cell (i := 0) rfl
  have hd1 := HD2.out.cell (i := 1) rfl
  go_wp2_with fail
  refine (has_dot HH2.out.pre o s).mono ?_
  rintro e w3 ⟨rfl, hb3⟩
  have HB3 := hid (bt HB2.out hb3)
  have HH3 := hid (HH2.out.below hb3)
  have HD3 : Hid (Blk w3 w.heap.size 25 [.int .i64 o, .int .i64 s]) := HD2.out.below hb3 HD2.out.lt
  clear hb3 hd0 hd1 HB2 HH2 HD2
  cases hS : S o s with
  | some v =>
    have HC : Hid (addCode S N o s = 5) := by show _ = _; unfold addCode; rw [if_pos HMD.out, hS]; rfl
    clear hS
    go_wp2
    go_ret
    refine ⟨by rw [HC.out]; rfl, .inl ⟨by rw [HC.out]; decide, HH3.out, HB3.out⟩⟩
  | none =>
    have HSN := hid hS
    clear hS
    go_wp2_with fail
    refine (lenD_any HH3.out.pre).mono ?_
    rintro e w9 ⟨rfl, rfl⟩
    have hfew := HH3.out.pre.few
    by_cases hN : 65536 ≤ N
    · have hN' : (65536 : Int) ≤ (N : Int) := by omega
      have HC : Hid (addCode S N o s = 2) := by show _ = _; unfold addCode; rw [if_pos HMD.out, HSN.out, if_neg (by simp), if_pos hN]
      clear hN
      go_wp2
      go_ret
      refine ⟨by rw [HC.out]; rfl, .inl ⟨by rw [HC.out]; decide, HH3.out, HB3.out⟩⟩
    · have hN' : ¬ (65536 : Int) ≤ (N : Int) := by omega
      have HC : Hid (addCode S N o s = 0) := by show _ = _; unfold addCode; rw [if_pos HMD.out, HSN.out, if_neg (by simp), if_neg hN]
      have HNN : Hid (N < 65536) := (by omega : N < 65536)
      clear hN
      obtain ⟨k, rfl⟩ := Int.eq_ofNat_of_zero_le HMD.out.1.1
      have hc7 := HH3.out.pre.blk.cell (i := 7) rfl
      have hd0 := HD3.out.cell (i := 0) rfl
      have hd1 := HD3.out.cell (i := 1) rfl
      have HKEY := hid (key_dot HMD.out.i64.1 HMD.out.i64.2)
      have hm2 : w9.drew.ownsMap Try.prog 25 valR m N D := HH3.out.pre.map
      obtain ⟨w4, hrun, hown4, hturn4⟩ := hm2.store Try.keyedDot Try.underlying40 (by have := HNN.out; unfold maxLen; omega) HKEY.out (show valR (.string t) = some (.held (.string t), []) from rfl)
      have HO4 := hid hown4
      have T34 : Turns (fun i => i = m) w9.drew w4 := Turns.of_grown (F := fun i => i = m) hturn4.grown (fun k hk => by cases hk; rfl)
      have HT4 : Hid (Turns (fun i => i = m) w9 w4) := (Turns.refl (fun i => i = m) w9).drew.trans T34 (fun i hi => .inl hi)
      have hmlt := HFT.out m (.inr (.inl rfl))
      have e7 := (T34.blk (show Blk w9.drew p 44 (setCells rs m) from HH3.out.pre.blk) (fun e => HH3.out.pre.blk.not_map HH3.out.pre.map e)).cell (i := 7) rfl
      have hbD := T34.blk (show Blk w9.drew w.heap.size 25 [.int .i64 (k : Int), .int .i64 s] from HD3.out) (fun e => by omega)
      have e0 := hbD.cell (i := 0) rfl
      have e1 := hbD.cell (i := 1) rfl
      clear hown4 hturn4 hm2 T34 hbD hfew
      unfold dotVal at hrun
      go_wp2
      go_region_held3 (fun W => W.cell? ⟨p, 7, none⟩ = some (.map (some m)) ∧ W.cell? ⟨w.heap.size, 0, none⟩ = some (.int .i64 (k : Int)) ∧ W.cell? ⟨w.heap.size, 1, none⟩ = some (.int .i64 s)) (go_keep) (fail)
      clear hrun hc7 hd0 hd1 e7
      obtain ⟨hpre4, hgap4⟩ := put_step HH3.out HMD.out HSN.out HNN.out ⟨t, rfl⟩ HO4.out HT4.out
      have hk7 : k < 7 := by have := HMD.out.1.2; omega
      have HCG := hid (closeGap_any hpre4 hk7 hgap4)
      clear hpre4 hgap4
      go_wp2_with fail
      refine HCG.out.mono ?_
      rintro e w5 ⟨rfl, hcl⟩
      have HCL := hid hcl
      clear hcl HCG
      go_wp2
      go_ret
      refine ⟨by rw [HC.out]; rfl, .inr ⟨HC.out, ?_⟩⟩
      obtain ⟨rs', R', D', h1, h2, h3⟩ := HCL.out
      have T1 : Turns (FootD p m rs) w w4 := (Turns.of_below (F := FootD p m rs) HB3.out (Nat.le_refl _)).trans HT4.out (fun i hi => .inl (.inr (.inl hi)))
      exact ⟨rs', R', D', h1, T1.trans h2 (fun i hi => .inl hi), fun i hi => by
        rcases h3 i hi with h | h
        · exact .inl h
        · exact .inr (Nat.le_trans T1.size h)⟩
end
end Go.Proofs.Ytplecopphddjhaa
/-
  Package dots: Vector.
-/
namespace Go.Proofs.Ytplecopphddjhaa
open Go.RowKit Go.Maps

def lensOf (R : Nat → List Value) : List Int := [((R 0).length : Int), ((R 1).length : Int), ((R 2).length : Int), ((R 3).length : Int), ((R 4).length : Int), ((R 5).length : Int), ((R 6).length : Int)]
theorem vector_nil (w : World) : Calls Try.prog 14 #[.pointer none] w fun e w' => e = .returned (.slice none 0 0) ∧ w' = w := by
  go_enter Try.func14, Try.ntmps14
  go_wp2_with fail
  refine (closedD_nil _).mono ?_
  rintro e w' ⟨rfl, rfl⟩
  go_wp2
  go_ret
  exact ⟨rfl, rfl⟩
section
variable {w : World} {p m N : Nat} {rs : Nat → Value} {R : Nat → List Value} {D : DataW Value} {S : Int → Int → Option Value}
set_option maxRecDepth 100000 in
theorem vector_any (h : DotsPre w p rs R m D S N) : Calls Try.prog 14 #[.pointer (some ⟨p, 0, none⟩)] w (AnsV w (plainOf (lensOf R))) := by
  have hc7 := h.blk.cell (i := 7) rfl
  have hc0 := h.blk.cell (i := 0) rfl
  have hc1 := h.blk.cell (i := 1) rfl
  have hc2 := h.blk.cell (i := 2) rfl
  have hc3 := h.blk.cell (i := 3) rfl
  have hc4 := h.blk.cell (i := 4) rfl
  have hc5 := h.blk.cell (i := 5) rfl
  have hc6 := h.blk.cell (i := 6) rfl
  obtain ⟨a, c, hf⟩ := h.forms
  rw [hf 0 (by decide)] at hc0
  rw [hf 1 (by decide)] at hc1
  rw [hf 2 (by decide)] at hc2
  rw [hf 3 (by decide)] at hc3
  rw [hf 4 (by decide)] at hc4
  rw [hf 5 (by decide)] at hc5
  rw [hf 6 (by decide)] at hc6
  have HLN : Hid (∀ i, i < 7 → (R i).length ≤ 65536) := fun i hi => h.len hi
  have hpl := h.blk.lt
  clear hf h
  have x0 := fun W => idx0 W (.slice (a 0) (R 0).length (c 0)) (.slice (a 1) (R 1).length (c 1)) (.slice (a 2) (R 2).length (c 2)) (.slice (a 3) (R 3).length (c 3)) (.slice (a 4) (R 4).length (c 4)) (.slice (a 5) (R 5).length (c 5)) (.slice (a 6) (R 6).length (c 6))
  have x1 := fun W => idx1 W (.slice (a 0) (R 0).length (c 0)) (.slice (a 1) (R 1).length (c 1)) (.slice (a 2) (R 2).length (c 2)) (.slice (a 3) (R 3).length (c 3)) (.slice (a 4) (R 4).length (c 4)) (.slice (a 5) (R 5).length (c 5)) (.slice (a 6) (R 6).length (c 6))
  have x2 := fun W => idx2 W (.slice (a 0) (R 0).length (c 0)) (.slice (a 1) (R 1).length (c 1)) (.slice (a 2) (R 2).length (c 2)) (.slice (a 3) (R 3).length (c 3)) (.slice (a 4) (R 4).length (c 4)) (.slice (a 5) (R 5).length (c 5)) (.slice (a 6) (R 6).length (c 6))
  have x3 := fun W => idx3 W (.slice (a 0) (R 0).length (c 0)) (.slice (a 1) (R 1).length (c 1)) (.slice (a 2) (R 2).length (c 2)) (.slice (a 3) (R 3).length (c 3)) (.slice (a 4) (R 4).length (c 4)) (.slice (a 5) (R 5).length (c 5)) (.slice (a 6) (R 6).length (c 6))
  have x4 := fun W => idx4 W (.slice (a 0) (R 0).length (c 0)) (.slice (a 1) (R 1).length (c 1)) (.slice (a 2) (R 2).length (c 2)) (.slice (a 3) (R 3).length (c 3)) (.slice (a 4) (R 4).length (c 4)) (.slice (a 5) (R 5).length (c 5)) (.slice (a 6) (R 6).length (c 6))
  have x5 := fun W => idx5 W (.slice (a 0) (R 0).length (c 0)) (.slice (a 1) (R 1).length (c 1)) (.slice (a 2) (R 2).length (c 2)) (.slice (a 3) (R 3).length (c 3)) (.slice (a 4) (R 4).length (c 4)) (.slice (a 5) (R 5).length (c 5)) (.slice (a 6) (R 6).length (c 6))
  have x6 := fun W => idx6 W (.slice (a 0) (R 0).length (c 0)) (.slice (a 1) (R 1).length (c 1)) (.slice (a 2) (R 2).length (c 2)) (.slice (a 3) (R 3).length (c 3)) (.slice (a 4) (R 4).length (c 4)) (.slice (a 5) (R 5).length (c 5)) (.slice (a 6) (R 6).length (c 6))
  have hmk : ∀ W, (Instr.makeSlice 23 (.int .i64 7) (.int .i64 7)).run Try.prog W = .ok (.slice (some ⟨W.heap.size, 0, none⟩) 7 7) (W.alloc (.cells #[.int .i64 0, .int .i64 0, .int .i64 0, .int .i64 0, .int .i64 0, .int .i64 0, .int .i64 0] 3)) := fun W => by
    have h := run_make_row' (P := Try.prog) 23 3 (.int .i64 0) 8 Try.underlying23 Try.infoInt rfl .i64 .i64 7 (by decide) (by decide) W
    rw [show madeCells #[.int .i64 0] 7 = #[.int .i64 0, .int .i64 0, .int .i64 0, .int .i64 0, .int .i64 0, .int .i64 0, .int .i64 0] by kernel_rfl] at h
    exact h
  go_enter Try.func14, Try.ntmps14
  go_wp2_with fail
  refine (closedD_no w p m hc7).mono ?_
  rintro e w' ⟨rfl, rfl⟩
  go_wp2
  refine wp_loop_rounds 8 ?_
  rw [rounds_succ]
  go_wp2
  rw [rounds_succ]
  go_wp2
  rw [rounds_succ]
  go_wp2
  rw [rounds_succ]
  go_wp2
  rw [rounds_succ]
  go_wp2
  rw [rounds_succ]
  go_wp2
  rw [rounds_succ]
  go_wp2
  rw [rounds_succ]
  go_wp2_with fail
  have HB : Hid (Below w'.heap.size w' (w'.alloc (.cells (ints (lensOf R)).toArray 3))) := (Below.refl _ _).alloc (Nat.le_refl _) _
  have hh := HeldInt.new w' (lensOf R) (fun x hx => by
    have h0 := HLN.out 0 (by decide)
    have h1 := HLN.out 1 (by decide)
    have h2 := HLN.out 2 (by decide)
    have h3 := HLN.out 3 (by decide)
    have h4 := HLN.out 4 (by decide)
    have h5 := HLN.out 5 (by decide)
    have h6 := HLN.out 6 (by decide)
    simp [lensOf] at hx
    omega)
  have HPL := hid (plain_any (w'.alloc (.cells (ints (lensOf R)).toArray 3)) (some ⟨w'.heap.size, 0, none⟩) 7 (lensOf R) 7 rfl ⟨hh, Nat.le_refl _, by simp [lensOf]⟩)
  refine HPL.out.mono ?_
  rintro e w5 ⟨bo, cp, rfl, hv, hb5⟩
  have HV5 := hid hv
  have HB5 := hid (bt HB.out hb5)
  clear hv hb5
  go_wp2
  go_ret
  exact ⟨bo, cp, rfl, HV5.out, HB5.out⟩
end
end Go.Proofs.Ytplecopphddjhaa
