/-
  Package dots: what is wanted of a set; an item is put.
-/
import Derived.Test.YtplecopphddjhaaDotsN
namespace Go.Proofs.Ytplecopphddjhaa
open Go.RowKit Go.Maps

theorem all1_any (w : World) (o s : Int) : Calls Try.prog 33 #[.agg #[.int .i64 o, .int .i64 s]] w fun e w' => e = .returned (.bool true) ∧ Below w.heap.size w w' := by
  have HB : Hid (Below w.heap.size w (w.alloc (.cells #[.int .i64 o, .int .i64 s] 25))) := (Below.refl _ _).alloc (Nat.le_refl _) _
  go_enter Try.func33, Try.ntmps33
  go_wp2
  go_ret
  exact ⟨rfl, HB.out⟩
theorem upto1_any (w : World) (bv : Nat) (co : Option Addr) (cc : Nat) (v : List Int) (hb : Boxed w bv 23 (.slice co v.length cc)) (hv : HV w co cc v) (o s : Int) : Calls Try.prog 35 #[.agg #[.int .i64 o, .int .i64 s], .pointer (some ⟨bv, 0, none⟩)] w fun e w' => e = .returned (.bool (decide (HasV v o s))) ∧ Below w.heap.size w w' := by
  have HB : Hid (Below w.heap.size w (w.alloc (.cells #[.int .i64 o, .int .i64 s] 25))) := (Below.refl _ _).alloc (Nat.le_refl _) _
  have hc := (hb.alloc (.cells #[.int .i64 o, .int .i64 s] 25)).cell
  obtain ⟨k, HK⟩ : ∃ k, Hid (v.length = k) := ⟨_, hid rfl⟩
  rw [HK.out] at hc
  have HH := hid (has_any (w.alloc (.cells #[.int .i64 o, .int .i64 s] 25)) co cc v k HK.out (hv.below HB.out) o s)
  have HH0 := hid (has_any w co cc v k HK.out hv o s)
  have hc0 := hb.cell
  rw [HK.out] at hc0
  obtain ⟨r, HR⟩ : ∃ r, Hid (decide (HasV v o s) = r) := ⟨_, hid rfl⟩
  rw [HR.out] at HH HH0 ⊢
  clear hb hv
  go_enter Try.func35, Try.ntmps35
  go_wp2_with fail
  first
    | (refine HH.out.mono ?_; rintro e w' ⟨rfl, hb⟩; have HB2 := hid (bt HB.out hb); clear hb; go_wp2; go_ret; exact ⟨rfl, HB2.out⟩)
    | (refine HH0.out.mono ?_; rintro e w' ⟨rfl, hb⟩; have HB2 := hid hb; clear hb; go_wp2; go_ret; exact ⟨rfl, HB2.out⟩)
/-- fv asks f of a dot, in the world w and behind it. -/
def Want (w : World) (fv : Value) (f : Int → Int → Bool) : Prop :=
  (fv = .func (.func 33) #[] #[] ∧ f = fun _ _ => true) ∨
  (∃ bv co cc v, fv = .func (.func 35) #[] #[.pointer (some ⟨bv, 0, none⟩)] ∧ Boxed w bv 23 (.slice co v.length cc) ∧ HV w co cc v ∧ f = fun o s => decide (HasV v o s))
theorem Want.below {w w' : World} {fv : Value} {f : Int → Int → Bool} (h : Want w fv f) (hb : Below w.heap.size w w') : Want w' fv f := by
  rcases h with h | ⟨bv, co, cc, v, h1, h2, h3, h4⟩
  · exact .inl h
  · exact .inr ⟨bv, co, cc, v, h1, (hb.block _ h2.lt).trans h2, h3.below hb, h4⟩
theorem Want.cells {w : World} {fv : Value} {f : Int → Int → Bool} (h : Want w fv f) : fv.cells = #[fv] ∧ fv.oneCell' = true := by
  rcases h with ⟨rfl, _⟩ | ⟨_, _, _, _, rfl, _⟩ <;> exact ⟨rfl, rfl⟩

abbrev It := (Int × Int) × ByteArray
def itCells (x : It) : List Value := [.int .i64 x.1.1, .int .i64 x.1.2, .string x.2]
def flatI (xs : List It) : List Value := xs.flatMap itCells
theorem flatI_snoc (xs : List It) (x : It) : flatI (xs ++ [x]) = flatI xs ++ itCells x := by simp [flatI]
theorem Try.infoItem : (Try.prog.info? 77).map (fun i => (i.zero, i.size, i.bytes)) = some (some (.agg #[.int .i64 0, .int .i64 0, .string ⟨#[]⟩]), 3, 32) := by kernel_rfl
theorem wpList_append_item {ops : Array Oper} {rest : List Oper} {o : Oper} {a : Act} {Q : Exit → Act → World → Prop} (W0 W : World) (x : It) (hW : W = W0.alloc (.cells #[.int .i64 x.1.1, .int .i64 x.1.2, .string x.2] 77)) (hgd : o.guard = none) (s xx : Operand)
    (ho : o.op = .call { callee := .builtin .append, args := #[s, xx], argTypes := #[74, 74] }) (B : Nat) (v : Value) (ds : List It)
    (hs : a.eval s = v) (hx : a.eval xx = .slice (some ⟨W0.heap.size, 0, none⟩) 1 1) (hown : W0.ownsRow B 77 3 v ds.length (flatI ds)) (hB : B ≤ W0.heap.size) (hl : ds.length ≤ 1000000)
    (h : ∀ v' w', w'.ownsRow B 77 3 v' (ds ++ [x]).length (flatI (ds ++ [x])) → Below B W0 w' → W.grownBy w' v.ownBlock → wpList Try.prog ops Q rest (a.put o.dst v') w') :
    wpList Try.prog ops Q (o :: rest) a W := by
  subst hW
  obtain ⟨iI, hj, hy0, hy1, hy2⟩ := info_parts Try.infoItem
  have hn := Blk.new W0 77 [.int .i64 x.1.1, .int .i64 x.1.2, .string x.2]
  refine wpList_append_own_at _ hgd s xx 74 ho B 77 iI (.agg #[.int .i64 0, .int .i64 0, .string ⟨#[]⟩]) 3 32 Try.underlying74 hj hy0 hy1 hy2 rfl (by decide) v ds.length (flatI ds) hs (hown.alloc _) ⟨W0.heap.size, 0, none⟩ 1 1 [.int .i64 x.1.1, .int .i64 x.1.2, .string x.2] hx rfl (fun j u hu => ?_) (fun u hu => by simp at hu; rcases hu with rfl | rfl | rfl <;> rfl) (by unfold maxLen; omega) (by omega) (by simp; omega) ?_
  · rw [Addr.add_lit, Nat.zero_add]
    exact hn.cell hu
  · intro v' w' hown' hgrow _ _
    refine h v' w' ?_ (((Below.refl _ _).alloc hB _).grown hgrow (by simp; omega) (fun k hk => (hown.lt k hk).1)) hgrow
    rw [flatI_snoc, List.length_append]
    exact hown'
/-- What lies while items are put: the box B0 holds what is wanted, the box behind it the items so far. -/
def ItB (w : World) (fv : Value) (its : List It) (W : World) : Prop := Boxed W w.heap.size 53 fv ∧ ∃ eo cap, Boxed W (w.heap.size + 1) 74 (.slice eo its.length cap) ∧ W.ownsRow w.heap.size 77 3 (.slice eo its.length cap) its.length (flatI its) ∧ Below w.heap.size w W
theorem ItB.below {w W W' : World} {fv : Value} {its : List It} (h : ItB w fv its W) (hb : Below W.heap.size W W') : ItB w fv its W' := by
  obtain ⟨h0, eo, cap, h1, h2, h3⟩ := h
  exact ⟨(hb.block _ h0.lt).trans h0, eo, cap, (hb.block _ h1.lt).trans h1, (Turns.of_below (F := fun _ => False) hb (Nat.le_refl _)).row h2 (fun _ _ h => h), bt h3 hb⟩
def putI (f : Int → Int → Bool) (its : List It) (x : It) : List It := if f x.1.1 x.1.2 = true then its ++ [x] else its
set_option maxRecDepth 100000 in
theorem put_item {w W : World} {fv : Value} {f : Int → Int → Bool} {its : List It} (hw : Want w fv f) (h : ItB w fv its W) (hl : its.length ≤ 100000) (o s : Int) (t : ByteArray) :
    Calls Try.prog 58 #[.agg #[.int .i64 o, .int .i64 s], .string t, .pointer (some ⟨w.heap.size, 0, none⟩), .pointer (some ⟨w.heap.size + 1, 0, none⟩)] W fun e w' => e = .returned (.tuple #[]) ∧ ItB w fv (putI f its ((o, s), t)) w' ∧ KeepsOthers W w' := by
  obtain ⟨W1, hW1⟩ : ∃ W1, W1 = W.alloc (.cells #[.int .i64 o, .int .i64 s] 25) := ⟨_, rfl⟩
  have HB1 : Hid (Below W.heap.size W W1) := by rw [hW1]; exact (Below.refl _ _).alloc (Nat.le_refl _) _
  have HD1 : Hid (Blk W1 W.heap.size 25 [.int .i64 o, .int .i64 s]) := by rw [hW1]; exact Blk.new W 25 _
  have HI1 := hid (h.below HB1.out)
  have hlt1 : w.heap.size + 1 < W.heap.size := by
    obtain ⟨_, _, _, h1, _⟩ := h
    exact h1.lt
  have hcw : (W.alloc (.cells #[.int .i64 o, .int .i64 s] 25)).cell? ⟨w.heap.size, 0, none⟩ = some fv := by rw [← hW1]; exact HI1.out.1.cell
  have HBw : Hid (Below w.heap.size w W1) := by
    obtain ⟨_, _, _, _, _, h3⟩ := HI1.out
    exact h3
  obtain ⟨r, HR⟩ : ∃ r, Hid (f o s = r) := ⟨_, hid rfl⟩
  rcases hw with ⟨rfl, hf⟩ | ⟨bv, co, cc, v, rfl, hb1, hb2, hf⟩
  · have hr : r = true := by rw [← HR.out, hf]
    subst hr
    clear hf h
    go_enter Try.func58, Try.ntmps58
    go_wp2_with fail
    rw [← hW1] at hcw ⊢
    clear hW1
    refine (all1_any _ o s).mono ?_
    rintro e w2 ⟨rfl, hb2⟩
    have HK2 : Hid (KeepsOthers W w2) := (keepsB HB1.out).trans (keepsB hb2)
    obtain ⟨hx0, eo, cap, hbx, hrow, hbl⟩ := HI1.out.below hb2
    have hcb := hbx.cell
    have hfb := hbx.frozen
    have hbk := HD1.out.below hb2 HD1.out.lt
    have d0 := hbk.cell (i := 0) rfl
    have d1 := hbk.cell (i := 1) rfl
    have HX0 := hid hx0
    have HBX := hid hbx
    have HROW := hid hrow
    have HBL := hid hbl
    have hsz2 : w.heap.size ≤ w2.heap.size := hbl.size
    clear hx0 hbx hrow hbl hbk hb2
    go_wp2_with (at_builtin; refine wpList_append_item w2 _ ((o, s), t) rfl rfl _ _ rfl w.heap.size _ its rfl rfl HROW.out hsz2 (by omega) ?_; intro v' w3 hown' hb' hgrow; obtain ⟨eo2, cap2, hv'⟩ := own_slice hown'; subst hv'; have hbx3 : Boxed w3 (w.heap.size + 1) 74 (.slice eo its.length cap) := (HBX.out.alloc _).kept hgrow (fun e => (show Blk w2 (w.heap.size + 1) 74 [.slice eo its.length cap] from HBX.out).not_row (by decide) HROW.out e); have hcb3 := hbx3.cell; have hfb3 := hbx3.frozen; have hx3 : Boxed w3 w.heap.size 53 (.func (.func 33) #[] #[]) := (HX0.out.alloc _).kept hgrow (fun e => (show Blk w2 w.heap.size 53 [(.func (.func 33) #[] #[])] from HX0.out).not_row (by decide) HROW.out e); have HX3 := hid hx3; have HBX3 := hid hbx3; have HOWN := hid hown'; have HB3 := hid (HBL.out.trans hb'); have HK3 : Hid (KeepsOthers W w3) := HK2.out.trans ((KeepsOthers.alloc w2 _).trans (keeps_row (HROW.out.alloc _) hgrow)); clear hown' hb' hgrow hbx3 hx3)
    go_wp2
    refine bodyPost_end (results_none rfl _ _ _) rfl ?_
    refine ⟨rfl, ?_, HK3.out.trans (KeepsOthers.setCell _ _ _)⟩
    have hp : putI f its ((o, s), t) = its ++ [((o, s), t)] := by unfold putI; rw [if_pos HR.out]
    have hl1 : (its ++ [((o, s), t)]).length = its.length + 1 := by simp
    have HOWN2 := HOWN.out
    rw [hl1] at HOWN2
    unfold ItB
    rw [hp, hl1]
    have hnr := (show Blk w3 (w.heap.size + 1) 74 [.slice eo its.length cap] from HBX3.out).not_row (by decide) HOWN2
    refine ⟨HX3.out.other (by omega) _, eo2, cap2, HBX3.out.set _, ?_, HB3.out.setCell (p := ⟨w.heap.size + 1, 0, none⟩) (by simp) _⟩
    exact ((Turns.refl (fun i => i = w.heap.size + 1) w3).setCell (p := ⟨w.heap.size + 1, 0, none⟩) (.inl rfl) _).row HOWN2 (fun g hg e => hnr (by rw [hg, e]))
  · have HU := hid (upto1_any W1 bv co cc v ((HBw.out.block _ hb1.lt).trans hb1) (hb2.below HBw.out) o s)
    have hr : decide (HasV v o s) = r := by rw [← HR.out, hf]
    rw [hr] at HU
    clear hf h hb1 hb2 hr
    cases r
    · go_enter Try.func58, Try.ntmps58
      go_wp2_with fail
      rw [← hW1] at hcw ⊢
      clear hW1
      refine HU.out.mono ?_
      rintro e w2 ⟨rfl, hb2⟩
      have HK2 : Hid (KeepsOthers W w2) := (keepsB HB1.out).trans (keepsB hb2)
      obtain ⟨hx0, eo, cap, hbx, hrow, hbl⟩ := HI1.out.below hb2
      have hcb := hbx.cell
      have hfb := hbx.frozen
      have hbk := HD1.out.below hb2 HD1.out.lt
      have d0 := hbk.cell (i := 0) rfl
      have d1 := hbk.cell (i := 1) rfl
      have HX0 := hid hx0
      have HBX := hid hbx
      have HROW := hid hrow
      have HBL := hid hbl
      have hsz2 : w.heap.size ≤ w2.heap.size := hbl.size
      clear hx0 hbx hrow hbl hbk hb2
      go_wp2
      refine bodyPost_end (results_none rfl _ _ _) rfl ?_
      refine ⟨rfl, ?_, HK2.out⟩
      have hp : putI f its ((o, s), t) = its := by unfold putI; rw [if_neg (by rw [HR.out]; decide)]
      rw [hp]
      exact ⟨HX0.out, eo, cap, HBX.out, HROW.out, HBL.out⟩
    · go_enter Try.func58, Try.ntmps58
      go_wp2_with fail
      rw [← hW1] at hcw ⊢
      clear hW1
      refine HU.out.mono ?_
      rintro e w2 ⟨rfl, hb2⟩
      have HK2 : Hid (KeepsOthers W w2) := (keepsB HB1.out).trans (keepsB hb2)
      obtain ⟨hx0, eo, cap, hbx, hrow, hbl⟩ := HI1.out.below hb2
      have hcb := hbx.cell
      have hfb := hbx.frozen
      have hbk := HD1.out.below hb2 HD1.out.lt
      have d0 := hbk.cell (i := 0) rfl
      have d1 := hbk.cell (i := 1) rfl
      have HX0 := hid hx0
      have HBX := hid hbx
      have HROW := hid hrow
      have HBL := hid hbl
      have hsz2 : w.heap.size ≤ w2.heap.size := hbl.size
      clear hx0 hbx hrow hbl hbk hb2
      go_wp2_with (at_builtin; refine wpList_append_item w2 _ ((o, s), t) rfl rfl _ _ rfl w.heap.size _ its rfl rfl HROW.out hsz2 (by omega) ?_; intro v' w3 hown' hb' hgrow; obtain ⟨eo2, cap2, hv'⟩ := own_slice hown'; subst hv'; have hbx3 : Boxed w3 (w.heap.size + 1) 74 (.slice eo its.length cap) := (HBX.out.alloc _).kept hgrow (fun e => (show Blk w2 (w.heap.size + 1) 74 [.slice eo its.length cap] from HBX.out).not_row (by decide) HROW.out e); have hcb3 := hbx3.cell; have hfb3 := hbx3.frozen; have hx3 : Boxed w3 w.heap.size 53 (.func (.func 35) #[] #[.pointer (some ⟨bv, 0, none⟩)]) := (HX0.out.alloc _).kept hgrow (fun e => (show Blk w2 w.heap.size 53 [(.func (.func 35) #[] #[.pointer (some ⟨bv, 0, none⟩)])] from HX0.out).not_row (by decide) HROW.out e); have HX3 := hid hx3; have HBX3 := hid hbx3; have HOWN := hid hown'; have HB3 := hid (HBL.out.trans hb'); have HK3 : Hid (KeepsOthers W w3) := HK2.out.trans ((KeepsOthers.alloc w2 _).trans (keeps_row (HROW.out.alloc _) hgrow)); clear hown' hb' hgrow hbx3 hx3)
      go_wp2
      refine bodyPost_end (results_none rfl _ _ _) rfl ?_
      refine ⟨rfl, ?_, HK3.out.trans (KeepsOthers.setCell _ _ _)⟩
      have hp : putI f its ((o, s), t) = its ++ [((o, s), t)] := by unfold putI; rw [if_pos HR.out]
      have hl1 : (its ++ [((o, s), t)]).length = its.length + 1 := by simp
      have HOWN2 := HOWN.out
      rw [hl1] at HOWN2
      unfold ItB
      rw [hp, hl1]
      have hnr := (show Blk w3 (w.heap.size + 1) 74 [.slice eo its.length cap] from HBX3.out).not_row (by decide) HOWN2
      refine ⟨HX3.out.other (by omega) _, eo2, cap2, HBX3.out.set _, ?_, HB3.out.setCell (p := ⟨w.heap.size + 1, 0, none⟩) (by simp) _⟩
      exact ((Turns.refl (fun i => i = w.heap.size + 1) w3).setCell (p := ⟨w.heap.size + 1, 0, none⟩) (.inl rfl) _).row HOWN2 (fun g hg e => hnr (by rw [hg, e]))
end Go.Proofs.Ytplecopphddjhaa
