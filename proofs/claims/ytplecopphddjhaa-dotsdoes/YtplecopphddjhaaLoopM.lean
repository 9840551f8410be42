/-
  Package dots: Fork (slices.Clone of strings, maps.Clone).
-/
import Derived.Test.YtplecopphddjhaaDotsQ
import Derived.Test.YtplecopphddjhaaDdA
import Derived.Shelf.SlMaps.Clone
import Derived.Shelf.SlicesE.Clone
import Derived.Shelf.Lay
import Derived.Ground.SlgnProg
import Derived.Ground.SlmcProg
import Derived.Deep.RegionHeld3
import Derived.Test.YtplecopphddjhaaRows
import Derived.Test.YtplecopphddjhaaDdP
import Derived.Test.YtplecopphddjhaaRoundQuiet
import Derived.Sort.CutIn
namespace Go.Proofs
open Go.Shelf Go.RowKit Go.Lib
shelf_lay_g SlLaysE0.n41 Slgn 41 at Try 24 as Ytplecopphddjhaa.cloneDs
shelf_lay_g SlLaysW.n5 Slmc 5 at Try 23 as Ytplecopphddjhaa.cloneDm
end Go.Proofs
namespace Go.Proofs.Ytplecopphddjhaa
open Go.RowKit Go.Maps

theorem cloneRun {B : Nat} {V : World} {v : Value} {xs : List Value} (hr : V.ownsRow B 9 1 v xs.length xs) (hE : ∀ u ∈ xs, IsE u) (hN : xs.length ≤ 65536) : Calls Try.prog 24 #[v] V fun e w' => ∃ v', e = .returned v' ∧ w'.ownsRow V.heap.size 9 1 v' xs.length xs ∧ Below V.heap.size V w' := by
  rcases hr.2 with ⟨rfl, hn⟩ | ⟨g, cap, cur, rfl, _⟩
  · have hx : xs = [] := List.eq_nil_of_length_eq_zero hn
    subst hx
    have h := AnyE.slices_Clone_nil cloneDs 0 0 V
    refine Calls.mono h ?_
    rintro e w' ⟨rfl, rfl⟩
    exact ⟨_, rfl, ⟨rfl, .inl ⟨rfl, rfl⟩⟩, Below.refl _ _⟩
  · obtain ⟨iI, hj, hy0, hy1, hy2⟩ := info_parts Try.infoS
    have hsz : ∀ w : World, (Go.sizeOf 9).run Try.prog w = .ok 1 w := fun w => by simp [Go.sizeOf, typeInfo, hj, hy1]
    have h := AnyE.slices_Clone cloneDs iI _ 1 16 hj hy0 hy1 hy2 rfl (by decide) hsz g 0 xs.length cap xs V (by simp) (by unfold maxLen; omega) (by omega) (fun j u hu => by have h9 := hr.cells (g := g) rfl j u hu; rw [Addr.add_lit] at h9; exact h9) (fun u hu => by
      obtain ⟨t, rfl⟩ := hE u hu
      rfl)
    refine Calls.mono h ?_
    rintro e w' ⟨v', rfl, h1, _, h3⟩
    exact ⟨v', rfl, h1, h3⟩
theorem cloneDots {V : World} {m n : Nat} {D : DataW Value} (h : V.ownsMap Try.prog 25 valR m n D) : Calls Try.prog 23 #[.map (some m)] V fun e w' => ∃ m', e = .returned (.map (some m')) ∧ w'.ownsMap Try.prog 25 valR m' n D ∧ V.heap.size ≤ m' ∧ Below V.heap.size V w' := by
  have hc := AnyW.maps_Clone_owns cloneDm 25 valR m n D V h
  refine Calls.mono hc ?_
  rintro e w' ⟨rfl, h1, _, h3⟩
  exact ⟨_, rfl, h1, Nat.le_refl _, h3⟩
/-- The rows of the other set, so far. -/
def runsTo (rs : Nat → Value) (k : Nat) (i : Nat) : Value := if i < k then rs i else .slice none 0 0
theorem runsTo_set (rs : Nat → Value) {k : Nat} (v : Value) (i : Nat) : upd (runsTo rs k) k v i = runsTo (upd rs k v) (k + 1) i := by
  unfold upd runsTo
  by_cases h : i = k
  · subst h; simp
  · by_cases h2 : i < k
    · simp [h, h2, show i < k + 1 by omega]
    · simp [h, h2, show ¬ i < k + 1 by omega]
/-- Between two rounds. -/
structure FkAt (w : World) (R : Nat → List Value) (N : Nat) (D : DataW Value) (q m' : Nat) (rs : Nat → Value) (k : Nat) (V : World) : Prop where
  blk : Blk V q 44 (setCells (runsTo rs k) m')
  run : ∀ i, i < k → V.ownsRow w.heap.size 9 1 (rs i) (R i).length (R i)
  map : V.ownsMap Try.prog 25 valR m' N D
  apart : ∀ i j, i < k → j < k → ∀ g, (rs i).ownBlock = some g → (rs j).ownBlock = some g → i = j
  bq : w.heap.size ≤ q
  bm : w.heap.size ≤ m'
  bel : Below w.heap.size w V
theorem FkAt.step {w V V1 V2 : World} {R : Nat → List Value} {N : Nat} {D : DataW Value} {q m' : Nat} {rs : Nat → Value} {k : Nat} {v : Value} (h : FkAt w R N D q m' rs k V) (hk : k < 7) (hb : Below V.heap.size V V1) (hr : V1.ownsRow V.heap.size 9 1 v (R k).length (R k)) (hV : V2 = V1.setCell ⟨q, k, none⟩ v) : FkAt w R N D q m' (upd rs k v) (k + 1) V2 := by
  have hbk : Blk V1 q 44 (setCells (runsTo rs k) m') := h.blk.below hb h.blk.lt
  have ht : Turns (fun i => i = q) V1 V2 := by rw [hV]; exact (Turns.refl (fun i => i = q) _).setCell (p := ⟨q, k, none⟩) (.inl rfl) _
  have hno : ∀ {B n : Nat} {u : Value} {xs : List Value}, V1.ownsRow B 9 1 u n xs → ∀ g, u.ownBlock = some g → ¬ g = q := fun hr g hg e => hbk.not_row (by decide) hr (by rw [hg, e])
  have hlo : ∀ i, i < k → ∀ g, (rs i).ownBlock = some g → g < V.heap.size := fun i hi g hg => ((h.run i hi).lt g hg).2
  refine ⟨?_, fun i hi => ?_, ?_, fun i j hi hj g h1 h2 => ?_, h.bq, h.bm, ?_⟩
  · have h1 := hbk.set k v
    rw [setCells_upd _ _ hk] at h1
    have h2 : setCells (upd (runsTo rs k) k v) m' = setCells (runsTo (upd rs k v) (k + 1)) m' := by
      unfold setCells
      simp only [runsTo_set]
    rw [← h2, hV]
    exact h1
  · by_cases e : i = k
    · subst e
      rw [upd_same]
      exact ht.row (ownsRow_baseN hr h.bel.size) (hno hr)
    · rw [upd_other _ _ e]
      have h1 := h.run i (by omega)
      have h2 := (Turns.of_below (F := fun _ => False) hb (Nat.le_refl _)).row h1 (fun _ _ h => h)
      exact ht.row h2 (hno h2)
  · have h1 := (Turns.of_below (F := fun _ => False) hb (Nat.le_refl _)).map h.map (fun h => h)
    exact ht.map h1 (fun e => hbk.not_map h1 e.symm)
  · by_cases e1 : i = k
    · by_cases e2 : j = k
      · omega
      · exfalso
        subst e1
        rw [upd_same] at h1
        rw [upd_other _ _ e2] at h2
        have := hlo j (by omega) g h2
        have := (hr.lt g h1).1
        omega
    · by_cases e2 : j = k
      · exfalso
        subst e2
        rw [upd_same] at h2
        rw [upd_other _ _ e1] at h1
        have := hlo i (by omega) g h1
        have := (hr.lt g h2).1
        omega
      · rw [upd_other _ _ e1] at h1
        rw [upd_other _ _ e2] at h2
        exact h.apart i j (by omega) (by omega) g h1 h2
  · exact (btN h.bel hb).trans (ht.below (fun i hi => by rw [hi]; exact h.bq) (btN h.bel hb).size)
/-- What Fork answers. -/
def DdFork (w : World) (D : DataW Value) (R : Nat → List Value) (S : Int → Int → Option Value) (N : Nat) (p' m' : Nat) (rs' : Nat → Value) (w' : World) : Prop := DotsAt w' p' rs' R m' D S N ∧ Below w.heap.size w w' ∧ ∀ i, FootD p' m' rs' i → w.heap.size ≤ i
section
variable {w : World} {p m N : Nat} {rs : Nat → Value} {R : Nat → List Value} {D : DataW Value} {S : Int → Int → Option Value}
theorem FkAt.done {V : World} {q m' : Nat} {rs' : Nat → Value} (h : DotsAt w p rs R m D S N) (hf : FkAt w R N D q m' rs' 7 V) : DdFork w D R S N q m' rs' V := by
  refine ⟨⟨⟨?_, fun i hi => ownsRow_baseN (hf.run i hi) (Nat.zero_le _), hf.map, hf.apart, h.pre.one, h.pre.keys, h.pre.runs, h.pre.out, h.pre.ones, h.pre.cnt, h.pre.few⟩, h.gap⟩, hf.bel, ?_⟩
  · have h1 := hf.blk
    have h2 : setCells (runsTo rs' 7) m' = setCells rs' m' := by
      unfold setCells runsTo
      simp
    rw [h2] at h1
    exact h1
  · rintro i (rfl | rfl | ⟨k, hk, hi⟩)
    · exact hf.bq
    · exact hf.bm
    · exact ((hf.run k hk).lt i hi).1
set_option maxRecDepth 1000000 in
set_option maxHeartbeats 4000000 in
theorem DotsAt.fork (h : DotsAt w p rs R m D S N) : Calls Try.prog 8 #[.pointer (some ⟨p, 0, none⟩)] w fun e w' => ∃ p' m' rs', e = .returned (.pointer (some ⟨p', 0, none⟩)) ∧ DdFork w D R S N p' m' rs' w' := by
  obtain ⟨a, c, hf⟩ := h.pre.forms
  have H := hid h
  have HF := hid hf
  have HLN : Hid (∀ i, i < 7 → (R i).length ≤ 65536) := fun i hi => h.pre.len hi
  have HCL := hid (closedD_no w p m (h.pre.blk.cell (i := 7) rfl))
  have HMC := hid (cloneDots h.pre.map)
  have c7 := h.pre.blk.cell (i := 7) rfl
  clear h hf
  go_enter Try.func8, Try.ntmps8
  go_wp2_with fail
  refine HCL.out.mono ?_
  rintro e w1 ⟨rfl, rfl⟩
  go_wp2_with fail
  refine HMC.out.mono ?_
  rintro e w2 ⟨m', rfl, hm2, hl2, hb2⟩
  have HP2 := (H.out.below hb2).pre.blk
  have d0 := HP2.cell (i := 0) rfl
  have d1 := HP2.cell (i := 1) rfl
  have d2 := HP2.cell (i := 2) rfl
  have d3 := HP2.cell (i := 3) rfl
  have d4 := HP2.cell (i := 4) rfl
  have d5 := HP2.cell (i := 5) rfl
  have d6 := HP2.cell (i := 6) rfl
  rw [HF.out 0 (by decide)] at d0
  rw [HF.out 1 (by decide)] at d1
  rw [HF.out 2 (by decide)] at d2
  rw [HF.out 3 (by decide)] at d3
  rw [HF.out 4 (by decide)] at d4
  rw [HF.out 5 (by decide)] at d5
  rw [HF.out 6 (by decide)] at d6
  obtain ⟨q, HQ⟩ : ∃ q, Hid (q = w2.heap.size) := ⟨_, hid rfl⟩
  obtain ⟨W3, hW3⟩ : ∃ V, V = w2.alloc (.cells #[.slice none 0 0, .slice none 0 0, .slice none 0 0, .slice none 0 0, .slice none 0 0, .slice none 0 0, .slice none 0 0, .map (some m')] 44) := ⟨_, rfl⟩
  have hb3 : Below w2.heap.size w2 W3 := by rw [hW3]; exact (Below.refl _ _).alloc (Nat.le_refl _) _
  have HF0 : Hid (FkAt w1 R N D q m' (fun _ => .slice none 0 0) 0 W3) := by
    refine ⟨?_, fun i hi => (by omega), (Turns.of_below (F := fun _ => False) hb3 (Nat.le_refl _)).map hm2 (fun h => h), fun i j hi => (by omega), by rw [HQ.out]; exact hb2.size, hl2, btN hb2 hb3⟩
    rw [hW3, HQ.out]
    exact Blk.new w2 44 (setCells (fun _ => .slice none 0 0) m')
  have e0 := (hb3.cell (World.block_lt_of_cell? _ _ d0)).trans d0
  have e1 := (hb3.cell (World.block_lt_of_cell? _ _ d1)).trans d1
  have e2 := (hb3.cell (World.block_lt_of_cell? _ _ d2)).trans d2
  have e3 := (hb3.cell (World.block_lt_of_cell? _ _ d3)).trans d3
  have e4 := (hb3.cell (World.block_lt_of_cell? _ _ d4)).trans d4
  have e5 := (hb3.cell (World.block_lt_of_cell? _ _ d5)).trans d5
  have e6 := (hb3.cell (World.block_lt_of_cell? _ _ d6)).trans d6
  have HW3 := hid hW3
  rw [hW3] at e0 e1 e2 e3 e4 e5 e6
  clear d0 d1 d2 d3 d4 d5 d6 hW3 hb3 hm2 hl2 hb2 HP2 c7 HMC
  go_wp2
  rw [← HW3.out, ← HQ.out]
  clear e0 e1 e2 e3 e4 e5 e6
  go_loopw [4, 5, 19] (fun _ _ i wr => ∃ k : Nat, k ≤ 7 ∧ i = .int .i64 k ∧ Hid (∃ rs', FkAt w1 R N D q m' rs' k wr)) (fun _ _ i _ => 7 - (intOf i).toNat)
  case atStart => exact ⟨0, Nat.zero_le _, rfl, _, HF0.out⟩
  case round =>
    obtain ⟨k, hk, rfl, HR⟩ := hrel
    obtain ⟨rs', hfk⟩ := HR.out
    have HFK := hid hfk
    clear hfk HR HF0
    by_cases hlt : k < 7
    · have hlt' : (k : Int) < 7 := by omega
      have hk0 : (0 : Int) ≤ (k : Int) := by omega
      have HK7 : Hid (k < 7) := hlt
      have HKM : Hid (k + 1 ≤ 7) := (by omega : k + 1 ≤ 7)
      have hwk : wrap64 ((k : Int) + 1) = (k : Int) + 1 := wrapN (by omega) (by omega)
      have hix := fun W => idx_any W hlt (fun i => .slice (a i) (R i).length (c i))
      have HCL : Hid (∀ V, Below wr.heap.size wr V → Calls Try.prog 24 #[.slice (a k) (R k).length (c k)] V fun e w' => ∃ ao' cp', e = .returned (.slice ao' (R k).length cp') ∧ Hid (∀ V2, V2 = w'.setCell ⟨q, k, none⟩ (.slice ao' (R k).length cp') → FkAt w1 R N D q m' (upd rs' k (.slice ao' (R k).length cp')) (k + 1) V2) ∧ w'.frozen? ⟨q, k, none⟩ = false ∧ w'.cell? ⟨q, k, none⟩ = some (.slice none 0 0)) := fun V hV => by
        have h1 := (H.out.below (btN HFK.out.bel hV)).pre.run k HK7.out
        rw [HF.out k HK7.out] at h1
        refine (cloneRun h1 (H.out.pre.one k HK7.out) (HLN.out k HK7.out)).mono ?_
        rintro e w' ⟨v', rfl, h2, h3⟩
        have hb : Below wr.heap.size wr w' := btN hV h3
        obtain ⟨ao', cp', rfl⟩ := own_slice h2
        exact ⟨ao', cp', rfl, fun V2 hV2 => HFK.out.step HK7.out hb (ownsRow_baseN h2 hV.size) hV2, ((HFK.out.blk.below hb HFK.out.blk.lt).frozen k), by
          have h9 := (HFK.out.blk.below hb HFK.out.blk.lt).cell (setCells_run (runsTo rs' k) m' HK7.out)
          rw [h9]
          unfold runsTo
          rw [if_neg (by omega)]⟩
      have HFZ : Hid (∀ V, Below wr.heap.size wr V → V.frozen? ⟨q, k, none⟩ = false) := fun V hV => (HFK.out.blk.below hV HFK.out.blk.lt).frozen k
      clear hlt hk
      go_wp2
      go_region_held3 (fun _ => True)
        (trivial)
        (first | (go_at_call 24; with_reducible refine (HCL.out _ (by first | exact (Below.refl _ _).drew | exact Below.refl _ _)).mono ?_; rintro e w5 ⟨a5, c5, rfl, HS5, hz5, hc5⟩) | fail)
      have HN5 := hid (HS5.out _ rfl)
      clear hix hz5 hc5
      go_wp2
      go_roundw
      case rel => exact ⟨k + 1, HKM.out, by go_num, _, HN5.out⟩
      case measure => first | exact measNW HKM.out hwk | exact measN1 HKM.out
    · have hlt' : ¬ (k : Int) < 7 := by omega
      have hk7 : k = 7 := by omega
      rw [hk7] at HFK
      have HE := hid (FkAt.done H.out HFK.out)
      clear hlt hk
      go_wp2
      go_ret
      first | exact ⟨q, m', rs', rfl, HE.out⟩ | exact ⟨q, rfl, m', rs', HE.out⟩
end
end Go.Proofs.Ytplecopphddjhaa
/-
  A range over a function inside a loop: the marks that its rounds leave, boxes, what a round may change. No function of the program is named here.
-/
namespace Go.Proofs.Ytplecopphddjhaa
open Go.RowKit Go.Shelf Go.Maps
attribute [local go_sem] Oper.semAt_some

theorem btM {a b c : World} (h : Below a.heap.size a b) (k : Below b.heap.size b c) : Below a.heap.size a c := h.trans (k.mono h.size)
def markD (D : Nat) : Deferred := { target := .collected D, args := #[] }
structure Marks (B : Nat) (Ds : List Nat) (V : World) : Prop where
  one : Ds.Nodup
  at_ : ∀ D ∈ Ds, B ≤ D ∧ V.heap[D]? = some (.deferred (some []))
theorem Marks.nil (B : Nat) (V : World) : Marks B [] V := ⟨List.nodup_nil, fun D h => (by cases h)⟩
theorem Marks.turned {B : Nat} {Ds : List Nat} {V V' : World} {F : Nat → Prop} (h : Marks B Ds V) (ht : Turns F V V') (hF : ∀ i, F i → V.heap[i]? ≠ some (.deferred (some []))) : Marks B Ds V' :=
  ⟨h.one, fun D hD => ⟨(h.at_ D hD).1, (ht.block D (Array.getElem?_eq_some_iff.1 (h.at_ D hD).2).1 (fun hf => hF D hf (h.at_ D hD).2)).trans (h.at_ D hD).2⟩⟩
theorem Marks.below {B : Nat} {Ds : List Nat} {V V' : World} (h : Marks B Ds V) (hb : Below V.heap.size V V') : Marks B Ds V' := h.turned (F := fun _ => False) (Turns.of_below hb (Nat.le_refl _)) (fun _ h => h.elim)
theorem Marks.push {B : Nat} {Ds : List Nat} {V : World} (h : Marks B Ds V) {D : Nat} (h1 : B ≤ D) (h2 : V.heap[D]? = some (.deferred (some []))) (h3 : D ∉ Ds) : Marks B (D :: Ds) V :=
  ⟨List.nodup_cons.2 ⟨h3, h.one⟩, fun E hE => by
    rcases List.mem_cons.1 hE with rfl | hE
    · exact ⟨h1, h2⟩
    · exact h.at_ E hE⟩
/-- The end of a function that left marks: they are taken, one by one. -/
theorem leavesM_all {F : Fence} {n : Nat} {P : Program} {fn : Func} {tmps : Array Value} {R : Ending → World → Prop} {B : Nat} (Inv : World → Prop) (hInv : ∀ V D, Inv V → B ≤ D → V.heap[D]? = some (.deferred (some [])) → Inv (V.putObj D (.deferred none)))
    (hend : ∀ V, Inv V → LeavesIn F n P fn tmps R [] .returning V) : ∀ (Ds : List Nat) (V : World), Marks B Ds V → Inv V → LeavesInM F n P fn tmps R (Ds.map markD) .returning V
  | [], V, _, h => hend V h
  | D :: Ds, V, hm, h => by
    obtain ⟨h1, h2⟩ := hm.at_ D List.mem_cons_self
    refine ⟨by simp, .inl ⟨D, V.putObj D (.deferred none), rfl, run_takeDeferred h2, ?_⟩⟩
    refine leavesM_all Inv hInv hend Ds _ ⟨(List.nodup_cons.1 hm.one).2, fun E hE => ?_⟩ (hInv V D h h1 h2)
    obtain ⟨h3, h4⟩ := hm.at_ E (List.mem_cons_of_mem _ hE)
    refine ⟨h3, ?_⟩
    rw [World.putObj_heap_other (by rintro rfl; exact (List.nodup_cons.1 hm.one).1 hE)]
    exact h4
theorem infoBR : (Try.prog.info? 4).map (fun i => (i.zero, i.size, i.bytes)) = some (some (.bool false), 1, 1) := by kernel_rfl
theorem results_cellR {fn : Func} {t : Tmp} (h : fn.results = #[.cell t 4]) (tmps : Array Value) (w : World) {B : Nat} {v : Value} (hp : tmps.getD t undef = .pointer (some ⟨B, 0, none⟩)) (hc : w.cell? ⟨B, 0, none⟩ = some v) :
    (results fn tmps).run Try.prog w = .ok v w := by
  obtain ⟨i, hi, _, hs, _⟩ := info_parts infoBR
  have hp' : tmps[t]?.getD undef = .pointer (some ⟨B, 0, none⟩) := by simpa using hp
  simp [results, h, hp', hc, go_sem]
theorem boxed_own {W W' : World} {B : Nat} {t : TypeId} {v : Value} {row : Option Nat} (h : Boxed W B t v) (hg : W.grownBy W' row) (hr : ∀ r, row = some r → ∃ o : Obj, W.heap[r]? = some o ∧ o.isCells = false) : Boxed W' B t v := h.kept hg (fun e => by
  obtain ⟨o, ho, hc⟩ := hr B e.symm
  have h' : W.heap[B]? = some (.cells #[v] t (0, 0)) := h
  rw [h'] at ho
  cases ho
  cases hc)
theorem turns_set (V : World) (b : Nat) (u : Value) : Turns (fun i => i = b) V (V.setCell ⟨b, 0, none⟩ u) := (Turns.refl (fun i => i = b) V).setCell (p := ⟨b, 0, none⟩) (.inl rfl) _
theorem boxed_turned {V V' : World} {F : Nat → Prop} {b : Nat} {t : TypeId} {v : Value} (h : Boxed V b t v) (ht : Turns F V V') (hn : ¬ F b) : Boxed V' b t v := (ht.block _ h.lt hn).trans h
/-- n's box is set. -/
theorem belowJ {w V : World} {D : Nat} (hb : Below w.heap.size w V) (hD : w.heap.size ≤ D) (o : Obj) : Below w.heap.size w (V.putObj D o) := by
  have hT : Turns (fun i => i = D) V (V.putObj D o) := Turns.of_grown (grownBy_putObj' V _ _) (fun j e => by cases e; rfl)
  exact hb.trans (hT.below (fun i hi => by rw [hi]; exact hD) hb.size)
/-- What a round may change. -/
def FoJ (ib l : Nat) (k : Nat) : Prop := k = ib ∨ k = l
def KpJ (ib l : Nat) (A B : World) : Prop := Turns (FoJ ib l) A B
theorem KpJ.refl (ib l : Nat) (A : World) : KpJ ib l A A := Turns.refl _ _
theorem KpJ.trans {ib l : Nat} {A B C : World} (h : KpJ ib l A B) (k : KpJ ib l B C) : KpJ ib l A C := Turns.trans h k (fun _ hi => .inl hi)
theorem KpJ.below {ib l : Nat} {A B : World} (h : Below A.heap.size A B) : KpJ ib l A B := Turns.of_below h (Nat.le_refl _)
theorem wpIn_loop_k {F : Fence} {n : Nat} {P : Program} {Q : Exit → Act → World → Prop} {a : Act} {w : World} {c : Code} (I : Act → World → Prop) (μ : Act → World → Nat) (h₀ : I a w)
    (round : ∀ a w, I a w → ∀ K : Act → World → Prop, (∀ a' w', I a' w' → μ a' w' < μ a w → K a' w') → c.wpIn F n P (Exit.then K Q) a w) : (Code.loop c).wpIn F n P Q a w :=
  wpIn_loop I μ h₀ fun a w h => round a w h _ fun _ _ h1 h2 => ⟨h1, h2⟩

end Go.Proofs.Ytplecopphddjhaa
