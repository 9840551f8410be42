/-
  Package dots: All and Upto answer an iterator; what every program must do.
-/
import Derived.Test.YtkjpaiaepodhbaaDotsJ
namespace Go.Proofs.Ytkjpaiaepodhbaa
open Go.RowKit Go.Maps

theorem itD_eql (a b : Nat) (W : World) : (binOp .eql 45 (.func (.func 65) #[] #[.pointer (some ⟨a, 0, none⟩), .pointer (some ⟨b, 0, none⟩)]) .nilFunc).run Try.prog W = .ok (.bool false) W := by kernel_rfl
/-- An iterator: the set's box q, and behind it what is wanted. -/
def AnsT (w : World) (sp fv : Value) (e : Ending) (w' : World) : Prop := e = .returned (.func (.func 65) #[] #[.pointer (some ⟨w.heap.size, 0, none⟩), .pointer (some ⟨w.heap.size + 1, 0, none⟩)]) ∧ Boxed w' w.heap.size 26 sp ∧ Boxed w' (w.heap.size + 1) 65 fv ∧ Below w.heap.size w w'
theorem those_any (w : World) (sp fv : Value) (h1 : sp.oneCell' = true) (h2 : fv.oneCell' = true) (hs : sp.cells = #[sp]) (hf : fv.cells = #[fv]) : Calls Try.prog 46 #[sp, fv] w (AnsT w sp fv) := by
  have HB : Hid (Below w.heap.size w ((w.alloc (.cells #[sp] 26)).alloc (.cells #[fv] 65))) := ((Below.refl _ _).alloc (Nat.le_refl _) _).alloc (by simp) _
  have H1 : Hid (Boxed ((w.alloc (.cells #[sp] 26)).alloc (.cells #[fv] 65)) w.heap.size 26 sp) := (Boxed.new w _ _).alloc _
  have H2 : Hid (Boxed ((w.alloc (.cells #[sp] 26)).alloc (.cells #[fv] 65)) (w.heap.size + 1) 65 fv) := by
    have := Boxed.new (w.alloc (.cells #[sp] 26)) 65 fv
    rw [World.size_alloc] at this
    exact this
  go_enter Try.func46, Try.ntmps46
  go_wp2
  go_ret
  exact ⟨rfl, H1.out, H2.out, HB.out⟩
theorem all_any (w : World) (pa : Option Addr) : Calls Try.prog 18 #[.pointer pa] w (AnsT w (.pointer pa) (.func (.func 47) #[] #[])) := by
  have H := hid (those_any w (.pointer pa) (.func (.func 47) #[] #[]) rfl rfl rfl rfl)
  go_enter Try.func18, Try.ntmps18
  go_wp2_with fail
  refine H.out.mono ?_
  rintro e w' ⟨rfl, h1, h2, h3⟩
  have H1 := hid h1
  have H2 := hid h2
  have H3 := hid h3
  clear h1 h2 h3
  go_wp2
  go_ret
  exact ⟨rfl, H1.out, H2.out, H3.out⟩
def AnsU (w : World) (sp : Value) (v : List Int) (e : Ending) (w' : World) : Prop := ∃ q co cc, w.heap.size < q ∧ e = .returned (.func (.func 65) #[] #[.pointer (some ⟨q, 0, none⟩), .pointer (some ⟨q + 1, 0, none⟩)]) ∧ Boxed w' q 26 sp ∧
  Boxed w' (q + 1) 65 (.func (.func 49) #[] #[.pointer (some ⟨w.heap.size, 0, none⟩)]) ∧ Boxed w' w.heap.size 23 (.slice co v.length cc) ∧ HV w' co cc v ∧ OldAt w.heap.size co v ∧ Below w.heap.size w w'
set_option maxRecDepth 100000 in
theorem upto_any (w : World) (pa : Option Addr) (vo : Option Addr) (vc : Nat) (v : List Int) (k : Nat) (hk : v.length = k) (hv : HV w vo vc v) : Calls Try.prog 19 #[.pointer pa, .slice vo k vc] w (AnsU w (.pointer pa) v) := by
  have HB1 : Hid (Below w.heap.size w (w.alloc (.cells #[.slice vo k vc] 23))) := (Below.refl _ _).alloc (Nat.le_refl _) _
  have HX1 : Hid (Boxed (w.alloc (.cells #[.slice vo k vc] 23)) w.heap.size 23 (.slice vo k vc)) := Boxed.new w _ _
  have HC := hid (clone2_any (w.alloc (.cells #[.slice vo k vc] 23)) vo vc v k hk (hv.below HB1.out))
  have HK := hid hk
  clear hv hk
  go_enter Try.func19, Try.ntmps19
  go_wp2_with fail
  generalize w.alloc (.cells #[.slice vo k vc] 23) = w1 at *
  refine HC.out.mono ?_
  rintro e w2 ⟨co, cc, rfl, hv2, hb2, ho2⟩
  have HX2 : Hid (Boxed w2 w.heap.size 23 (.slice vo k vc)) := (hb2.block _ HX1.out.lt).trans HX1.out
  have hc2 := HX2.out.cell
  have hf2 := HX2.out.frozen
  have HB2 := hid (bt HB1.out hb2)
  have hs1 : w.heap.size < w1.heap.size := HX1.out.lt
  have HO2 : Hid (OldAt w1.heap.size co v) := ho2
  obtain ⟨L, HL⟩ : ∃ L, Hid (v.length = L) := ⟨_, hid rfl⟩
  have HV2 := hid hv2
  have HT : Hid (Below w.heap.size w (w2.setCell ⟨w.heap.size, 0, none⟩ (.slice co L cc))) := HB2.out.setCell (p := ⟨w.heap.size, 0, none⟩) (Nat.le_refl _) _
  have HX3 : Hid (Boxed (w2.setCell ⟨w.heap.size, 0, none⟩ (.slice co L cc)) w.heap.size 23 (.slice co L cc)) := HX2.out.set _
  have HV3 : Hid (HV (w2.setCell ⟨w.heap.size, 0, none⟩ (.slice co L cc)) co cc v) := ⟨HV2.out.held.turned ((Turns.refl (fun i => i = w.heap.size) w2).setCell (p := ⟨w.heap.size, 0, none⟩) (.inl rfl) _) (fun b off e hne he => by have := HO2.out b off e hne; omega), HV2.out.room, HV2.out.few⟩
  have hs3 : w.heap.size < (w2.setCell ⟨w.heap.size, 0, none⟩ (.slice co L cc)).heap.size := HX3.out.lt
  rw [HL.out]
  clear hv2 hb2 ho2 HC
  go_wp2_with fail
  generalize w2.setCell ⟨w.heap.size, 0, none⟩ (.slice co L cc) = w3 at *
  refine (those_any w3 (.pointer pa) (.func (.func 49) #[] #[.pointer (some ⟨w.heap.size, 0, none⟩)]) rfl rfl rfl rfl).mono ?_
  rintro e w4 ⟨rfl, h1, h2, h3⟩
  have H1 := hid h1
  have H2 := hid h2
  have H4 := hid (bt HT.out h3)
  have HX4 : Hid (Boxed w4 w.heap.size 23 (.slice co L cc)) := (h3.block _ HX3.out.lt).trans HX3.out
  have HV4 := hid (HV3.out.below h3)
  clear h1 h2 h3
  go_wp2
  go_ret
  refine ⟨w3.heap.size, co, cc, hs3, rfl, H1.out, H2.out, by rw [HL.out]; exact HX4.out, HV4.out, HO2.out.mono (by omega), H4.out⟩
section
variable {w wb : World} {p m N : Nat} {rs : Nat → Value} {R : Nat → List Value} {D : DataW Value} {S : Int → Int → Option Value}
theorem Closed.below {B : Nat} (h : Closed w p m rs S N wb) (hf : ∀ i, FootD p m rs i → B ≤ i) (hB : B ≤ w.heap.size) : ∃ rs' R' D', DotsAt wb p rs' R' m D' S N ∧ Below B w wb ∧ ∀ i, FootD p m rs' i → B ≤ i := by
  obtain ⟨rs', R', D', h1, h2, h3⟩ := h
  refine ⟨rs', R', D', h1, h2.below hf hB, fun i hi => ?_⟩
  rcases h3 i hi with h | h
  · exact hf i h
  · omega
theorem DotsAt.len_eq (h : DotsAt w p rs R m D S N) {k : Nat} (hk : k < 7) (L : Nat) (h1 : ∀ i : Nat, i < L → (S (k : Int) ((i : Int) + 1)).isSome = true) (h2 : S (k : Int) ((L : Int) + 1) = none) : (R k).length = L := by
  have h3 := h.gap k hk
  have h4 := h.pre.runs k hk
  rcases Nat.lt_trichotomy (R k).length L with hlt | he | hgt
  · have := h1 _ hlt
    rw [h3] at this
    cases this
  · exact he
  · have := h4 L hgt
    rw [h2, List.getElem?_eq_getElem hgt] at this
    cases this
end
end Go.Proofs.Ytkjpaiaepodhbaa
