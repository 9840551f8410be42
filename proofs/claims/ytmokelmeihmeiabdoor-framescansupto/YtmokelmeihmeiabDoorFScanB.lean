/-
  frame.Scan answers all payloads of the frames of any bytes, in order, and how many bytes these frames have; nothing that was there is written; condition: the bytes are at most 1000000000.
-/
import Derived.Test.YtmokelmeihmeiabDoorFScan
namespace Go.Proofs.YtmokelmeihmeiabDoor
open Go.RowKit Go.Shelf
attribute [local go_sem] Oper.semAt_some

/-- A slice of strings, at whatever address, holds 'ls'. -/
structure HeldS (w : World) (ao : Option Addr) (len cap : Nat) (ls : List ByteArray) : Prop where
  hlen : ls.length = len
  hcap : len ≤ cap
  hmax : cap ≤ maxLen
  cell : ∀ ad, ao = some ad → ∀ j, j < len → w.cell? (ad.add j) = some (.string (ls.getD j ByteArray.empty))
  hsome : 0 < len → ∃ ad, ao = some ad

theorem HeldS.at {w : World} {ao : Option Addr} {len cap : Nat} {ls : List ByteArray} (h : HeldS w ao len cap ls) (hp : 0 < len) :
    ∃ b off, ao = some ⟨b, off, none⟩ ∧ b < w.heap.size ∧ ∀ j, j < len → w.cell? ⟨b, off + j, none⟩ = some (.string (ls.getD j ByteArray.empty)) := by
  obtain ⟨ad, rfl⟩ := h.hsome hp
  obtain ⟨b, off, spot⟩ := ad
  have hc := h.cell _ rfl 0 hp
  have hspot : spot = none := by simpa [Addr.add] using World.cell?_spot hc
  subst hspot
  have hlt := World.block_lt_of_cell? w _ hc
  refine ⟨b, off, rfl, by simpa [Addr.add] using hlt, fun j hj => ?_⟩
  have := h.cell _ rfl j hj
  rwa [Addr.add_lit] at this

theorem HeldS.below {w w' : World} {ao : Option Addr} {len cap : Nat} {ls : List ByteArray} {B : Nat} (h : HeldS w ao len cap ls) (hb : Below B w w') (hB : w.heap.size ≤ B) : HeldS w' ao len cap ls := by
  refine ⟨h.hlen, h.hcap, h.hmax, fun ad ha j hj => ?_, h.hsome⟩
  have hlt : (ad.add j).block < w.heap.size := World.block_lt_of_cell? w _ (h.cell ad ha j hj)
  rw [hb.cell (p := ad.add j) (by omega)]
  exact h.cell ad ha j hj

theorem heldS_of_own {w : World} {B e : Nat} {v : Value} {n : Nat} {ls : List ByteArray} (hown : w.ownsRow B e 1 v n (ls.map Value.string)) : ∃ ao cap, v = .slice ao n cap ∧ HeldS w ao n cap ls := by
  have hn : ls.length = n := by have := hown.1; simpa using this
  rcases hown.2 with ⟨rfl, rfl⟩ | ⟨g, cap, cur, rfl, hbg, hg, hnc, hcm, hcs, htake⟩
  · exact ⟨none, 0, rfl, hn, Nat.le_refl _, Nat.zero_le _, fun ad h => (by cases h), fun h => (by omega)⟩
  · refine ⟨some ⟨g, 0, none⟩, cap, rfl, hn, hnc, hcm, fun ad h j hj => ?_, fun _ => ⟨_, rfl⟩⟩
    obtain rfl := Option.some.inj h
    refine hown.cells (g := g) rfl j _ ?_
    have hj' : j < ls.length := by omega
    simp [List.getD, List.getElem?_eq_getElem hj']

theorem Tryd.info9 : (Tryd.prog.info? 9).map (fun i => (i.zero, i.size, i.bytes)) = some (some (.string ⟨#[]⟩), 1, 16) := by kernel_rfl

theorem frames_any (ao : Option Addr) (len cap : Nat) (w : World) :
    Calls Tryd.prog 20 #[.slice ao len cap] w fun e w' => e = .returned (.func (.func 24) #[] #[.pointer (some ⟨w.heap.size, 0, none⟩)]) ∧ w' = w.alloc (.cells #[.slice ao len cap] 22) := by
  go_enter Tryd.func20, Tryd.ntmps20
  go_wp2
  go_ret
  exact ⟨rfl, rfl⟩

theorem frames_stops (n : Nat) (hn : 1 ≤ n) (Bs n0 : Nat) (ao : Option Addr) (len cap : Nat) (bs : List Int) (w : World) (hB : Boxed w Bs 22 (.slice ao len cap)) (hn0 : n0 ≤ w.heap.size)
    (hH : ∀ W', Kp n0 Bs w W' → Held W' ao len cap bs ∧ Tab W') (hlen : bs.length = len) (hsmall : len ≤ 1000000000000) :
    SeqStopsK Fence.wide n Tryd.prog 24 #[.pointer (some ⟨Bs, 0, none⟩)] (fun x : Int × ByteArray => #[Value.int .i64 x.1, Value.string x.2]) (Kp n0 Bs) (fun ys => ys = scanAll bs) (fun pre => pre <+: scanAll bs) (scanAll bs).length w :=
  fun l J Jx W hW hJ _ hY h0 => by
    have hKW : Kp n0 Bs w W := ⟨hW.mono hn0, hW.block Bs hB.lt⟩
    exact frames1_in n hn l Bs n0 ao len cap bs J Jx W hJ hY ((hW.block Bs hB.lt).trans hB) (fun W' hk => hH W' (hKW.trans hk)) h0 hlen hsmall

/-- How many bytes the frames have that have come so far. -/
def endOf (pre : List (Int × ByteArray)) : Int := match pre.getLast? with
  | none => 0
  | some x => wrap64 (wrap64 (x.1 + 8) + x.2.size)

set_option maxRecDepth 100000 in
set_option maxHeartbeats 2000000 in
theorem scan_any (ao : Option Addr) (len cap : Nat) (bs : List Int) (w : World) (ht : Tab w) (h : Held w ao len cap bs) (hsmall : len ≤ 1000000000) (hN : (scanAll bs).length ≤ len) :
    Calls Tryd.prog 11 #[.slice ao len cap] w fun e w' => ∃ mo mc, e = .returned (.tuple #[.slice mo (scanAll bs).length mc, .int .i64 (endOf (scanAll bs))]) ∧ HeldS w' mo (scanAll bs).length mc ((scanAll bs).map (·.2)) ∧ Below w.heap.size w w' := by
  refine (callsIn_wide (n := 4)).1 ?_
  obtain ⟨i9, hi, hz0, hz1, hz2⟩ := info_parts Tryd.info9
  refine callsIn_of_wp_marks Tryd.func11 rfl trivial ?_ rfl
  simp only [Tryd.ntmps11, List.size_toArray, List.length_cons, List.length_nil, Nat.reduceAdd, Nat.reduceSub, Array.replicate_succ, Array.replicate_zero, List.push_toArray, List.append_toArray, List.nil_append, List.cons_append]
  gi_wp2_with fail
  refine ⟨trivial, (callsIn_wide.2 (frames_any _ _ _ _)).mono ?_⟩
  rintro e w' ⟨rfl, rfl⟩
  gi_wp2
  have bP : Boxed (((w.alloc (.cells #[.slice none 0 0] 30)).alloc (.cells #[.int .i64 0] 3)).alloc (.cells #[.slice ao len cap] 22)) w.heap.size 30 (.slice none 0 0) := ((Boxed.new w 30 _).alloc _).alloc _
  have bE : Boxed (((w.alloc (.cells #[.slice none 0 0] 30)).alloc (.cells #[.int .i64 0] 3)).alloc (.cells #[.slice ao len cap] 22)) (w.heap.size + 1) 3 (.int .i64 0) := by
    have := Boxed.new (w.alloc (.cells #[.slice none 0 0] 30)) 3 (.int .i64 0)
    rw [World.size_alloc] at this
    exact this.alloc _
  have bB : Boxed (((w.alloc (.cells #[.slice none 0 0] 30)).alloc (.cells #[.int .i64 0] 3)).alloc (.cells #[.slice ao len cap] 22)) (w.heap.size + 1 + 1) 22 (.slice ao len cap) := by
    have := Boxed.new ((w.alloc (.cells #[.slice none 0 0] 30)).alloc (.cells #[.int .i64 0] 3)) 22 (.slice ao len cap)
    rw [World.size_alloc, World.size_alloc] at this
    exact this
  have hB0 : Below w.heap.size w (((w.alloc (.cells #[.slice none 0 0] 30)).alloc (.cells #[.int .i64 0] 3)).alloc (.cells #[.slice ao len cap] 22)) := (((Below.refl _ w).alloc (Nat.le_refl _) _).alloc (by simp) _).alloc (by simp; omega) _
  have hsz0 : (((w.alloc (.cells #[.slice none 0 0] 30)).alloc (.cells #[.int .i64 0] 3)).alloc (.cells #[.slice ao len cap] 22)).heap.size = w.heap.size + 3 := by simp
  generalize (((w.alloc (.cells #[.slice none 0 0] 30)).alloc (.cells #[.int .i64 0] 3)).alloc (.cells #[.slice ao len cap] 22)) = W0 at *
  have hseq := frames_stops 3 (by omega) (w.heap.size + 1 + 1) w.heap.size ao len cap bs W0 bB (by omega) (fun W' hk => ⟨h.below (hB0.trans hk.1) (Nat.le_refl _), ht.here (hB0.trans hk.1)⟩) h.hlen (by omega)
  refine wpIn_rangeFunc_ownG rfl (by omega) (gf := 24) (lb := #[.pointer (some ⟨w.heap.size + 1 + 1, 0, none⟩)]) rfl trivial (enters_of Tryd.func24 (by kernel_rfl) rfl)
    hseq (fun a b => Kp.trans a b)
    (fun W l o o' hl ho hc hw => ⟨belowK_b (w := W0) (by omega) W l o o' hl ho hc hw, (grownBy_putObj' W l o').block _ (by have := (Array.getElem?_eq_some_iff.1 ho).1; omega) (by intro e; have := Option.some.inj e; omega)⟩)
    (Below.refl _ _) (fun _ => rfl)
    (fun pre W => (((∃ v, Boxed W w.heap.size 30 v ∧ W.ownsRow w.heap.size 9 1 v pre.length (pre.map fun x => Value.string x.2) ∧ True) ∧ Boxed W (w.heap.size + 1) 3 (.int .i64 (endOf pre))) ∧ Boxed W (w.heap.size + 1 + 1) 22 (.slice ao len cap)) ∧ Below w.heap.size w W)
    (fun _ _ _ => False)
    (OwnFrom.and (OwnFrom.and (OwnFrom.and (Own.from (holdsRow_own w.heap.size w.heap.size 30 9 1 (fun pre : List (Int × ByteArray) => pre.length) (fun pre : List (Int × ByteArray) => pre.map fun x => Value.string x.2) (fun _ _ => True)) _) (Own.from (boxed_own (w.heap.size + 1) 3 (fun pre : List (Int × ByteArray) => .int .i64 (endOf pre))) _)) (Own.from (boxed_own (w.heap.size + 1 + 1) 22 (fun _ : List (Int × ByteArray) => .slice ao len cap)) _)) (ownFrom_below (Nat.le_refl _) (by omega)))
    (fun _ _ _ _ _ hs _ _ => hs)
    ⟨⟨⟨⟨_, bP, World.ownsRow_nil _ _ _ _, trivial⟩, bE⟩, bB⟩, hB0⟩
    (fun x => { tmps := #[.slice ao len cap, undef, .slice none 0 0, .int .i64 0, .pointer (some ⟨w.heap.size, 0, none⟩), .pointer (some ⟨w.heap.size + 1, 0, none⟩), .int .i64 x.1, .string x.2, .slice ao len cap, .func (Fn.func 24) #[] #[.pointer (some ⟨w.heap.size + 1 + 1, 0, none⟩)], .int .i64 x.1, .string x.2, undef, undef, undef, undef, undef, undef, undef, undef, undef, undef, undef], defers := [] }) ?assign ?body ?done ?stop
  case assign =>
    intro l x W K hK
    gi_wp2
    exact hK
  case body =>
    rintro l pre x W ⟨⟨⟨⟨v, hv, hrow, _⟩, hE⟩, hX⟩, hB⟩ hlt
    have hc := hv.cell
    have hBs := hB.size
    gi_wp2_with (gi_at_builtin; refine wpListIn_append_own _ rfl _ _ 30 rfl w.heap.size 9 i9 (.string ⟨#[]⟩) 1 16 Tryd.underlying30 hi hz0 hz1 hz2 rfl (by decide) _ _ _ rfl (hrow.alloc _) ⟨W.heap.size, 0, none⟩ 1 1 [.string x.2] rfl rfl (cell_one_new _ _ _) (by simp [Value.oneCell']) (by unfold maxLen; omega) (by omega) (by simp; omega) ?_; intro v' w1 hown' hgrow _; obtain ⟨g', cap', rfl⟩ := ownsRow_succ hown'; obtain ⟨hv1, hv2, hr2, hk2, hb2⟩ := hv.appended (by decide) hrow hB.size (Nat.le_refl _) hown' hgrow; have hc1 := hv1.cell; have hf1 := hv1.frozen; have hE1 : Boxed (w1.setCell ⟨w.heap.size, 0, none⟩ (.slice (some ⟨g', 0, none⟩) (pre.length + 1) cap')) (w.heap.size + 1) 3 (.int .i64 (endOf pre)) := ((hE.alloc _).kept hgrow (hE.not_row (by decide) hrow)).kept (grownBy_setCell' _ _ _) (by intro e; have := Option.some.inj e; omega); have hX1 : Boxed (w1.setCell ⟨w.heap.size, 0, none⟩ (.slice (some ⟨g', 0, none⟩) (pre.length + 1) cap')) (w.heap.size + 1 + 1) 22 (.slice ao len cap) := ((hX.alloc _).kept hgrow (hX.not_row (by decide) hrow)).kept (grownBy_setCell' _ _ _) (by intro e; have := Option.some.inj e; omega); have hcE := hE1.cell; have hfE := hE1.frozen)
    have hrow2 := hr2.kept (grownBy_setCell' (w1.setCell ⟨w.heap.size, 0, none⟩ (.slice (some ⟨g', 0, none⟩) (pre.length + 1) cap')) (w.heap.size + 1) (.int .i64 (wrap64 (wrap64 (x.1 + 8) + x.2.size)))) (.inr (hE1.not_row (by decide) hr2).symm)
    refine ⟨(hk2.trans (KeepsOthers.setCell _ _ _)).from _, ⟨hb2.setCell (by simp) _, ((hX1.other (by omega) _).trans hX.symm)⟩, ⟨⟨⟨_, hv2.other (by omega) _, ?_, trivial⟩, ?_⟩, hX1.other (by omega) _⟩, (hB.trans hb2).setCell (by simp) _⟩
    · simpa using hrow2
    · have := hE1.set (.int .i64 (wrap64 (wrap64 (x.1 + 8) + x.2.size)))
      simpa [endOf] using this
  case done =>
    rintro D ys W hD rfl ⟨⟨⟨⟨v, hv, hrow, _⟩, hE⟩, hX⟩, hB⟩ hK
    have hc := hv.cell
    have hcE := hE.cell
    gi_wp2
    gi_region
    gi_wp2
    have hD' : w.heap.size ≤ D := by omega
    have hKK : W.drew.heap[D]? = some (Obj.deferred (some [])) := hK
    obtain ⟨mo, mc, rfl, hH⟩ := heldS_of_own (ls := (scanAll bs).map (·.2)) (by rw [List.map_map]; exact ownsRow_putObj (World.ownsRow.drew hrow) (.deferred none) hKK rfl)
    refine ⟨by simp, .inl ⟨_, _, rfl, run_takeDeferred hKK, ?_⟩⟩
    exact ⟨_, results_tmp2 rfl _ _ _, mo, mc, rfl, hH, hB.drew.trans (belowK_b (w := w) (Nat.le_refl _) W.drew D _ _ (by omega) hKK rfl rfl)⟩
  case stop =>
    rintro D c pre W _ _ hf _
    exact hf.elim
end Go.Proofs.YtmokelmeihmeiabDoor
