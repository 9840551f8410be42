/-
  Package seal: Fork (slices.Clone of orders, maps.Clone).
-/
import Derived.Test.YtfokmldfnkonpaaSmF
import Derived.Shelf.SlMaps.Clone
import Derived.Shelf.SlicesE.Clone
import Derived.Shelf.Lay
import Derived.Ground.SlgnProg
import Derived.Ground.SlmcProg
import Derived.Test.YtfokmldfnkonpaaRows
import Derived.Test.YtfokmldfnkonpaaBlk
import Derived.Lib.SmallJoins
namespace Go.Proofs
open Go.Shelf Go.RowKit Go.Lib
shelf_lay_g SlLaysE0.n41 Slgn 41 at Try 33 as Ytfokmldfnkonpaa.cloneOrders
shelf_lay_g SlLaysW.n5 Slmc 5 at Try 34 as Ytfokmldfnkonpaa.cloneSI
end Go.Proofs
namespace Go.Proofs.Ytfokmldfnkonpaa
open Go.RowKit Go.Maps

theorem flatO_one (xs : List OrM) : ∀ u ∈ flatO xs, u.oneCell' = true := by
  intro u hu
  obtain ⟨x, _, hx⟩ := List.mem_flatMap.1 hu
  exact or_one x u hx
theorem sizeOrd (w : World) : (Go.sizeOf 32).run Try.prog w = .ok 5 w := by
  obtain ⟨i, hi, _, hs, _⟩ := info_parts Try.infoOr
  simp [Go.sizeOf, typeInfo, hi, hs]
theorem cloneO_any {B : Nat} {V : World} {v : Value} {N : Nat} {xs : List OrM} (hr : V.ownsRow B 32 5 v N (flatO xs)) (hl : xs.length = N) (hN : N ≤ 65536) : Calls Try.prog 33 #[v] V fun e w' => ∃ v', e = .returned v' ∧ w'.ownsRow V.heap.size 32 5 v' N (flatO xs) ∧ Below V.heap.size V w' := by
  rcases hr.2 with ⟨rfl, hn⟩ | ⟨g, cap, cur, rfl, _⟩
  · subst hn
    have hx : xs = [] := List.eq_nil_of_length_eq_zero hl
    subst hx
    have h := AnyE.slices_Clone_nil cloneOrders 0 0 V
    refine Calls.mono h ?_
    rintro e w' ⟨rfl, rfl⟩
    exact ⟨_, rfl, ⟨rfl, .inl ⟨rfl, rfl⟩⟩, Below.refl _ _⟩
  · obtain ⟨iI, hj, hy0, hy1, hy2⟩ := info_parts Try.infoOr
    have h := AnyE.slices_Clone cloneOrders iI _ 5 72 hj hy0 hy1 hy2 rfl (by decide) (fun w => sizeOrd w) g 0 N cap (flatO xs) V (by rw [flatO_len, hl]) (by unfold maxLen; omega) (by omega) (fun j u hu => by have h9 := hr.cells (g := g) rfl j u hu; rw [Addr.add_lit] at h9; exact h9) (flatO_one xs)
    refine Calls.mono h ?_
    rintro e w' ⟨v', rfl, h1, _, h3⟩
    exact ⟨v', rfl, h1, h3⟩
theorem cloneM_any {V : World} {m N : Nat} {D : DataW Value} {f : ByteArray → Option Int} (h : SiMap V m N D f) : Calls Try.prog 34 #[.map (some m)] V fun e w' => ∃ m', e = .returned (.map (some m')) ∧ SiMap w' m' N D f ∧ V.heap.size ≤ m' ∧ m' < w'.heap.size ∧ Below V.heap.size V w' := by
  have hc := AnyW.maps_Clone_owns cloneSI 9 valR m N D V h.map
  refine Calls.mono hc ?_
  rintro e w' ⟨rfl, h1, _, h3⟩
  exact ⟨_, rfl, ⟨h1, h.key⟩, Nat.le_refl _, h1.lt, h3⟩
/-- A region with a few leaves: the walk goes on once. -/
theorem wp_share4 {P : Program} {id : Nat} {ops : Array Oper} {b : Bool} {Q : Exit → Act → World → Prop} {a : Act} {w : World} {A : Option Addr → Nat → Nat → Nat → Nat → Act} {S : Option Addr → Nat → Nat → Nat → Nat → World → Prop}
    (h1 : (Code.region id ops b).wp P (NoPanic (fun e a w => ∃ v c x y q, e = .normal ∧ a = A v c x y q ∧ S v c x y q w)) a w) (h2 : ∀ v c x y q w, S v c x y q w → Q .normal (A v c x y q) w) : (Code.region id ops b).wp P Q a w :=
  Code.wp_mono (fun e a w h => by
    cases e with
    | panic c => exact (h : False).elim
    | _ =>
      obtain ⟨v, c, x, y, q, e1, rfl, h3⟩ := h
      first | (cases e1; done) | exact h2 v c x y q _ h3) h1
/-- What Fork makes: another machine, in new blocks. -/
def Forked (B : Nat) (w : World) (g : Sm) (v' : Value) (mi' me' p' : Nat) (w' : World) : Prop := SmAt B w' p' mi' me' v' g ∧ Below w.heap.size w w' ∧ ∀ i, FootM p' mi' me' v' i → w.heap.size ≤ i
theorem fork_made {B : Nat} {W U F : World} {p mi me : Nat} {v v' : Value} {g : Sm} {xs : List OrM} {m1 m2 q N1 N2 : Nat} {D1 D2 : DataW Value} (h : SmAt B W p mi me v g) (hB : B ≤ W.heap.size) (hxs : xs.map OrM.e = g.os) (hall : AllO W xs) (hU : Below W.heap.size W U) (hrow : U.ownsRow W.heap.size 32 5 v' g.os.length (flatO xs)) (h1 : SiMap U m1 N1 D1 (idF g)) (h2 : SiMap U m2 N2 D2 (epF g)) (n1 : N1 ≤ g.os.length) (n2 : N2 ≤ g.os.length) (b1 : W.heap.size ≤ m1) (b2 : W.heap.size ≤ m2) (hne : m1 ≠ m2) (hF : F = U.alloc (.cells #[v', .map (some m1), .map (some m2), .int .i64 g.dn] 60)) (hq : q = U.heap.size) : Forked B W g v' m1 m2 q F := by
  subst hF hq
  have hb : Below U.heap.size U (U.alloc (.cells #[v', .map (some m1), .map (some m2), .int .i64 g.dn] 60)) := (Below.refl _ _).alloc (Nat.le_refl _) _
  have hsz := hU.size
  refine ⟨⟨h.ok, Blk.new U _ _, ⟨xs, hxs, ?_, (hall.below hU).below hb⟩, ⟨N1, D1, n1, h1.below hb⟩, ⟨N2, D2, n2, h2.below hb⟩, hne, by omega, by omega, by omega⟩, bt' hU hb, ?_⟩
  · exact (Turns.of_below (F := fun _ => False) hb (Nat.le_refl _)).row (ownsRow_base hrow hB) (fun _ _ h => h)
  · rintro i (rfl | rfl | rfl | hi)
    · exact hsz
    · exact b1
    · exact b2
    · exact (hrow.lt i hi).1
set_option maxRecDepth 1000000 in
set_option maxHeartbeats 4000000 in
theorem SmAt.fork {B : Nat} {w : World} {p mi me : Nat} {v : Value} {g : Sm} (h : SmAt B w p mi me v g) (hB : B ≤ w.heap.size) : Calls Try.prog 14 #[.pointer (some ⟨p, 0, none⟩)] w fun e w' => ∃ v' mi' me' p', e = .returned (.pointer (some ⟨p', 0, none⟩)) ∧ Forked B w g v' mi' me' p' w' := by
  have HCL := hid h.closed
  have H := hid h
  have HBB := hid hB
  obtain ⟨xs, hx1, hx2, hx3⟩ := h.row
  have HX1 := hid hx1
  have HX3 := hid hx3
  have HXL : Hid (xs.length = g.os.length) := by rw [← hx1]; show _ = _; simp
  obtain ⟨N1, D1, hn1, hm1⟩ := h.ids
  obtain ⟨N2, D2, hn2, hm2⟩ := h.eps
  have HN1 := hid hn1
  have HN2 := hid hn2
  obtain ⟨DN, HDN⟩ : ∃ d, Hid (g.dn = d) := ⟨_, hid rfl⟩
  obtain ⟨N, HN⟩ : ∃ N, Hid (g.os.length = N) := ⟨_, hid rfl⟩
  have HSC : Hid (∀ V, ScO w V → Calls Try.prog 33 #[v] V fun e w' => ∃ ao' cap', e = .returned (.slice ao' N cap') ∧ Hid (w'.ownsRow w.heap.size 32 5 (.slice ao' N cap') g.os.length (flatO xs)) ∧ ScO w w' ∧ Hid (Below V.heap.size V w')) := fun V hV => by
    refine (cloneO_any ((Turns.of_below (F := fun _ => False) hV.out (Nat.le_refl _)).row hx2 (fun _ _ h => h)) HXL.out h.ok.few).mono ?_
    rintro e w' ⟨v', rfl, h1, h2⟩
    obtain ⟨ao', cap', he⟩ := own_slice' h1
    rw [HN.out] at he
    subst he
    exact ⟨ao', cap', rfl, ownsRow_base h1 hV.out.size, hV.go h2, h2⟩
  have HM1 : Hid (∀ V, ScO w V → Calls Try.prog 34 #[.map (some mi)] V fun e w' => ∃ m', e = .returned (.map (some m')) ∧ Hid (SiMap w' m' N1 D1 (idF g) ∧ V.heap.size ≤ m' ∧ m' < w'.heap.size ∧ w.heap.size ≤ m') ∧ ScO w w' ∧ Hid (Below V.heap.size V w')) := fun V hV => by
    refine (cloneM_any (hm1.below hV.out)).mono ?_
    rintro e w' ⟨m', rfl, h1, h2, h3, h4⟩
    exact ⟨m', rfl, ⟨h1, h2, h3, Nat.le_trans hV.out.size h2⟩, hV.go h4, h4⟩
  have HM2 : Hid (∀ V, ScO w V → Calls Try.prog 34 #[.map (some me)] V fun e w' => ∃ m', e = .returned (.map (some m')) ∧ Hid (SiMap w' m' N2 D2 (epF g) ∧ V.heap.size ≤ m' ∧ m' < w'.heap.size ∧ w.heap.size ≤ m') ∧ ScO w w' ∧ Hid (Below V.heap.size V w')) := fun V hV => by
    refine (cloneM_any (hm2.below hV.out)).mono ?_
    rintro e w' ⟨m', rfl, h1, h2, h3, h4⟩
    exact ⟨m', rfl, ⟨h1, h2, h3, Nat.le_trans hV.out.size h2⟩, hV.go h4, h4⟩
  have HSA : Hid (∀ V, ScO w V → (ScO w V ∧ V.cell? ⟨p, 0, none⟩ = some v ∧ V.cell? ⟨p, 1, none⟩ = some (.map (some mi)) ∧ V.cell? ⟨p, 2, none⟩ = some (.map (some me)) ∧ V.cell? ⟨p, 3, none⟩ = some (.int .i64 DN))) := fun V hV => by
    have h1 := (H.out.below hV.out).cells
    rw [HDN.out] at h1
    exact ⟨hV, h1.1, h1.2.1, h1.2.2.1, h1.2.2.2⟩
  have HMK : Hid (∀ U F v' m1 m2 q, Below w.heap.size w U → U.ownsRow w.heap.size 32 5 v' g.os.length (flatO xs) → SiMap U m1 N1 D1 (idF g) → SiMap U m2 N2 D2 (epF g) → w.heap.size ≤ m1 → w.heap.size ≤ m2 → m1 ≠ m2 → F = U.alloc (.cells #[v', .map (some m1), .map (some m2), .int .i64 DN] 60) → q = U.heap.size → Forked B w g v' m1 m2 q F) := fun U F v' m1 m2 q c1 c2 c3 c4 c5 c6 c7 c8 c9 => fork_made H.out HBB.out HX1.out HX3.out c1 c2 c3 c4 HN1.out HN2.out c5 c6 c7 (by rw [HDN.out]; exact c8) c9
  clear h hB hx1 hx2 hx3 hn1 hm1 hn2 hm2
  go_enter Try.func14, Try.ntmps14
  go_wp2_with fail
  refine HCL.out.mono ?_
  rintro e w1 ⟨rfl, rfl⟩
  go_wp2
  apply wp_share4 (S := fun ao' cap' m1 m2 q F => Hid (Forked B w1 g (.slice ao' N cap') m1 m2 q F))
  · go_region_held3 (fun V => ScO w1 V ∧ V.cell? ⟨p, 0, none⟩ = some v ∧ V.cell? ⟨p, 1, none⟩ = some (.map (some mi)) ∧ V.cell? ⟨p, 2, none⟩ = some (.map (some me)) ∧ V.cell? ⟨p, 3, none⟩ = some (.int .i64 DN))
      ((refine HSA.out _ ?_; (repeat (first | with_reducible assumption | exact ScO.start _ | apply ScO.dr | apply ScO.alloc))))
      (first
        | (go_at_call 33; with_reducible refine (HSC.out _ (by (repeat (first | with_reducible assumption | exact ScO.start _ | apply ScO.dr)))).mono ?_; rintro e w5 ⟨a5, c5, rfl, HR5, hs5, HB5⟩)
        | (go_at_call 34; with_reducible refine (HM1.out _ (by (repeat (first | with_reducible assumption | exact ScO.start _ | apply ScO.dr)))).mono ?_; rintro e w6 ⟨m6, rfl, HF6, hs6, HB6⟩)
        | (go_at_call 34; with_reducible refine (HM2.out _ (by (repeat (first | with_reducible assumption | exact ScO.start _ | apply ScO.dr)))).mono ?_; rintro e w7 ⟨m7, rfl, HF7, hs7, HB7⟩))
    have hF : Forked B w1 g (.slice a5 N c5) m6 m7 w7.heap.size (w7.alloc (.cells #[.slice a5 N c5, .map (some m6), .map (some m7), .int .i64 DN] 60)) := HMK.out w7 _ _ m6 m7 _ hs7.out ((Turns.of_below (F := fun _ => False) (bt' HB6.out HB7.out) (Nat.le_refl _)).row HR5.out (fun _ _ h => h)) (HF6.out.1.below HB7.out) HF7.out.1 HF6.out.2.2.2 HF7.out.2.2.2 (by have h1 := HF6.out.2.2.1; have h2 := HF7.out.2.1; omega) rfl rfl
    generalize (w7.alloc (.cells #[.slice a5 N c5, .map (some m6), .map (some m7), .int .i64 DN] 60)) = F at hF ⊢
    generalize w7.heap.size = q at hF ⊢
    exact NoPanic.normal ⟨a5, c5, m6, m7, q, rfl, rfl, hF⟩
  rintro ao' cap' m1 m2 q F HF
  go_wp2
  go_ret
  exact ⟨_, m1, m2, q, rfl, HF.out⟩
end Go.Proofs.Ytfokmldfnkonpaa
/-
  How an argument of type api.Ballot is read.
-/
namespace Go.Proofs.Ytfokmldfnkonpaa
open Go.RowKit Go.ChangeShapes Go.WideShapes Go.Deep

/-- Whole numbers of 64 bits. -/
def In64B (x : Int) : Prop := -9223372036854775808 ≤ x ∧ x ≤ 9223372036854775807
theorem in64B_wf {x : Int} (h : (Lit.int .i64 x).wf = true) : In64B x := by
  simp [Lit.wf, IntKind.min, IntKind.max, IntKind.signed, IntKind.bits] at h
  exact ⟨by omega, by omega⟩
theorem arr2B {α : Type} {cs : List α} (h : cs.length = 2) : ∃ c0 c1, cs = [c0, c1] := by
  match cs, h with
  | [c0, c1], _ => exact ⟨c0, c1, rfl⟩
theorem Try.cellsBal : Try.prog.cellsOf 73 = 2 := by kernel_rfl

set_option maxRecDepth 100000 in
theorem bal_of_trod {H : Type} {enc : TypeId × Value → H} {w : World} {base : Nat} {spare : Nat → Bool} {held : Bool} {fuel : Nat} {cs : List Value} {x : DataW H × List MemPlace} (h : DataW.trod enc Try.prog w base spare held fuel 73 cs = some x) :
    ∃ o s : Int, cs = [.int .i64 o, .int .i64 s] ∧ In64B o ∧ In64B s := by
  obtain ⟨xs, n, _, _, hl, hlen, hf⟩ := DataW.trod_struct Try.underlying73 h
  rw [Try.cellsBal] at hl
  obtain ⟨c0, c1, rfl⟩ := arr2B hl
  obtain ⟨y0, y1, rfl⟩ := arr2B hlen
  have g : ∀ (i : Nat) (f : Field), (#[_, _] : Array Field)[i]? = some f → _ := hf
  have h0 := g 0 _ rfl
  have h1 := g 1 _ rfl
  have k3 : Try.prog.cellsOf 3 = 1 := by kernel_rfl
  simp [k3] at h0 h1
  obtain ⟨a0, e0, _, w0⟩ := DataW.trod_int Try.underlying3 h0
  obtain ⟨a1, e1, _, w1⟩ := DataW.trod_int Try.underlying3 h1
  simp at e0 e1
  subst e0 e1
  exact ⟨a0, a1, rfl, in64B_wf w0, in64B_wf w1⟩
set_option maxRecDepth 100000 in
theorem open_bal {H : Type} {enc : TypeId × Value → H} {w : World} {base b0 : Nat} {r : Reach} {spare : Nat → Bool} {held : Bool} {v : Value} {d : DataW H} {p : List MemPlace} (hv : Value.okWide Try.prog w r b0 73 v) (h : DataW.Trod enc Try.prog w base spare held 73 v d p) :
    ∃ o s : Int, v = .agg #[.int .i64 o, .int .i64 s] ∧ In64B o ∧ In64B s := by
  obtain ⟨cs, rfl, _⟩ := okWide_struct Try.underlying73 hv
  obtain ⟨fuel, hf⟩ := h
  obtain ⟨o, s, ho, h1, h2⟩ := bal_of_trod hf
  refine ⟨o, s, ?_, h1, h2⟩
  simp [Value.cells] at ho
  rw [show cs = #[.int .i64 o, .int .i64 s] from Array.ext' ho]
end Go.Proofs.Ytfokmldfnkonpaa
