/-
  pannierlaw04.NetNobody answers true at every input.
-/
import Derived.Test.YtjejddpmkihdgabNetL
import Derived.RangeFuncNested
import Derived.RangeFuncBound
import Derived.RangeFuncCalls
import Derived.RangeFuncLeaves
import Derived.RangeFuncBox
import Derived.Shelf.Abstract
import Derived.Shelf.RegionOpen
import Derived.OwnWalkIn
import Derived.TacticsInMore
import Derived.LoopNIn
import Derived.LoopIn
namespace Go.Proofs.Ytjejddpmkihdgab
open Go.RowKit Go.Shelf Go.Maps
attribute [local go_sem] Oper.semAt_some

theorem Try.infoB : (Try.prog.info? 4).map (fun i => (i.zero, i.size, i.bytes)) = some (some (.bool false), 1, 1) := by kernel_rfl
theorem results_cell4 {fn : Func} {t : Tmp} (h : fn.results = #[.cell t 4]) (tmps : Array Value) (w : World) {B : Nat} {v : Value} (hp : tmps.getD t undef = .pointer (some ⟨B, 0, none⟩)) (hc : w.cell? ⟨B, 0, none⟩ = some v) :
    (results fn tmps).run Try.prog w = .ok v w := by
  obtain ⟨i, hi, _, hs, _⟩ := info_parts Try.infoB
  have hp' : tmps[t]?.getD undef = .pointer (some ⟨B, 0, none⟩) := by simpa using hp
  simp [results, h, hp', hc, go_sem]
theorem eql_pk0 (W : World) : (binOp .eql 29 (.agg #[.int .i64 0, .int .i64 0, .int .i64 0, .string ⟨#[]⟩]) (.agg #[.int .i64 0, .int .i64 0, .int .i64 0, .string ⟨#[]⟩])).run Try.prog W = .ok (.bool true) W := by kernel_rfl
theorem blk_own {β : Type} (B : Nat) (t : TypeId) (cs : List Value) : Own (fun (_ : β) W => Blk W B t cs) := by
  intro s W W' row h hg hr
  refine h.kept hg (fun e => ?_)
  obtain ⟨o, ho, hc⟩ := hr B e.symm
  have h' : W.heap[B]? = some (.cells cs.toArray t (0, 0)) := h
  rw [h'] at ho
  cases ho
  cases hc

theorem to1_nil (w : World) (l b c : Nat) (hc : w.cell? ⟨b, 0, none⟩ = some (.pointer none)) : Calls Try.prog 22 #[.func (.yield l) #[] #[], .pointer (some ⟨b, 0, none⟩), .pointer (some ⟨c, 0, none⟩)] w fun e w' => e = .returned (.tuple #[]) ∧ w' = w := by
  go_enter Try.func22, Try.ntmps22
  go_wp2_with fail
  refine (those_nil _ _).mono ?_
  rintro e w' ⟨rfl, rfl⟩
  go_wp2
  go_loop [10] (fun i => i = .int .i64 0) (fun _ => 0)
  case atStart => rfl
  case round =>
    subst hrel
    go_wp2
    go_end0
    exact ⟨rfl, rfl⟩

theorem to_stops_nil (n : Nat) (b c : Nat) (w : World) (n0 : Nat) (hb : Blk w b 24 [.pointer none]) :
    SeqStopsK Fence.wide n Try.prog 22 #[.pointer (some ⟨b, 0, none⟩), .pointer (some ⟨c, 0, none⟩)] (fun x : Pk => #[x.val]) (Below n0) (fun ys => ys = []) (fun _ => False) 0 w :=
  fun l J Jx W hW hJ _ hY h0 => by
    refine (callsIn_wide.2 (to1_nil W l b c ((hb.below hW hb.lt).cell (i := 0) rfl))).mono ?_
    rintro e w' ⟨rfl, rfl⟩
    exact ⟨⟨_, rfl⟩, .inl ⟨[], rfl, h0⟩⟩

set_option maxRecDepth 100000 in
set_option maxHeartbeats 2000000 in
theorem netNobody_walk (k f t i : Int) (s : ByteArray) (w : World) :
    Calls Try.prog 3 #[.agg #[.int .i64 k, .int .i64 f, .int .i64 t, .int .i64 i, .string s]] w fun e w' => e = .returned (.bool true) ∧ Below w.heap.size w w' := by
  refine (callsIn_wide (n := 4)).1 ?_
  refine callsIn_of_wp_marks Try.func3 rfl trivial ?_ rfl
  simp only [Try.ntmps3, List.size_toArray, List.length_cons, List.length_nil, Nat.reduceAdd, Nat.reduceSub, Array.replicate_succ, Array.replicate_zero, List.push_toArray, List.append_toArray, List.nil_append, List.cons_append]
  gi_wp2_with fail
  refine ⟨trivial, (callsIn_wide.2 (send_nil _ _ _ _)).mono ?_⟩
  rintro e w' ⟨rfl, h'⟩
  subst h'
  gi_wp2_with fail
  refine ⟨trivial, (callsIn_wide.2 (take_nil _ _)).mono ?_⟩
  rintro e w1 ⟨rfl, hb⟩
  simp only [World.size_alloc] at hb
  have hO1 : Blk w1 w.heap.size 23 [.int .i64 k, .int .i64 f, .int .i64 t, .int .i64 i, .string s] := ((Blk.new w 23 [.int .i64 k, .int .i64 f, .int .i64 t, .int .i64 i, .string s]).alloc _).below hb (by omega)
  have hR1 : Blk w1 (w.heap.size + 1) 4 [.bool false] := by
    have := Blk.new (w.alloc (.cells #[.int .i64 k, .int .i64 f, .int .i64 t, .int .i64 i, .string s] 23)) 4 [.bool false]
    rw [World.size_alloc] at this
    exact this.below hb (by omega)
  have HB1 : Hid (Below w.heap.size w w1) := (((Below.refl _ w).alloc (Nat.le_refl _) _).alloc (by simp) _).trans (hb.mono (by omega))
  have hz1 : w.heap.size + 1 < w1.heap.size := hR1.lt
  have HO1 := hid hO1
  have HR1 := hid hR1
  have c3 := hO1.cell (i := 3) rfl
  have hz0 : w.heap.size < w1.heap.size := by omega
  clear hb hO1 hR1
  unfold Pk.none
  gi_wp2_with fail
  refine ⟨trivial, (callsIn_wide.2 (twice_nil _ _)).mono ?_⟩
  rintro e w2 ⟨rfl, hb⟩
  simp only [World.size_alloc] at hb
  have hO2 : Blk w2 w.heap.size 23 [.int .i64 k, .int .i64 f, .int .i64 t, .int .i64 i, .string s] := (HO1.out.alloc _).below hb (by omega)
  have HR2 : Hid (Blk w2 (w.heap.size + 1) 4 [.bool false]) := (HR1.out.alloc _).below hb (by omega)
  have HP2 : Hid (Blk w2 w1.heap.size 29 [.int .i64 0, .int .i64 0, .int .i64 0, .string ⟨#[]⟩]) := (Blk.new w1 29 [.int .i64 0, .int .i64 0, .int .i64 0, .string ⟨#[]⟩]).below hb (by omega)
  have HB2 : Hid (Below w.heap.size w w2) := (HB1.out.alloc (by omega) _).trans (hb.mono (by omega))
  have d2 := hO2.cell (i := 2) rfl
  have d3 := hO2.cell (i := 3) rfl
  have hz2 := HP2.out.lt
  have hz20 : w.heap.size < w2.heap.size := by omega
  clear hb hO2 HO1 HR1 HB1 c3
  gi_wp2_with fail
  refine ⟨trivial, (callsIn_wide.2 (at_nil _ _)).mono ?_⟩
  rintro e w' ⟨rfl, h'⟩
  subst h'
  have htt := fun n m W => to_there n m W
  gi_wp2_with fail
  refine ⟨trivial, (callsIn_wide.2 (to_any _ _ _ (.inl rfl))).mono ?_⟩
  rintro e w3 ⟨rfl, rfl⟩
  gi_wp2_with fail
  refine ⟨trivial, (callsIn_wide.2 (to_any _ _ _ (.inl rfl))).mono ?_⟩
  rintro e w4 ⟨rfl, h4⟩
  have hbox : Blk w4 (w'.heap.size + 1 + 1) 24 [.pointer none] := by
    rw [h4]
    have := Blk.new ((w'.alloc (.cells #[.pointer none] 24)).alloc (.cells #[.int .i64 t] 3)) 24 [.pointer none]
    rw [World.size_alloc, World.size_alloc] at this
    exact this.alloc _
  have HR4 : Hid (Blk w4 (w.heap.size + 1) 4 [.bool false]) := by rw [h4]; exact (((HR2.out.alloc _).alloc _).alloc _).alloc _
  have HP4 : Hid (Blk w4 w1.heap.size 29 [.int .i64 0, .int .i64 0, .int .i64 0, .string ⟨#[]⟩]) := by rw [h4]; exact (((HP2.out.alloc _).alloc _).alloc _).alloc _
  have HB4 : Hid (Below w.heap.size w w4) := by
    rw [h4]
    exact ((((HB2.out.alloc (by omega) _).alloc (by simp; omega) _).alloc (by simp; omega) _).alloc (by simp; omega) _)
  have hz4 : w'.heap.size + 4 = w4.heap.size := by rw [h4]; simp
  have HBX := hid hbox
  clear hbox
  have hsz2 : ((w'.alloc (Obj.cells #[Value.pointer none] 24)).alloc (Obj.cells #[Value.int IntKind.i64 t] 3)).heap.size = w'.heap.size + 1 + 1 := by simp
  rw [hsz2]
  clear h4 hsz2
  gi_wp2
  have hseq := to_stops_nil 3 (w'.heap.size + 1 + 1) (w'.heap.size + 1 + 1 + 1) w4 w.heap.size HBX.out
  apply wpIn_rangeFunc_ownG rfl (by omega) (gf := 22) (lb := #[.pointer (some ⟨w'.heap.size + 1 + 1, 0, none⟩), .pointer (some ⟨w'.heap.size + 1 + 1 + 1, 0, none⟩)]) rfl trivial (enters_of Try.func22 (by kernel_rfl) rfl)
    hseq (fun a b => a.trans b) (fun W l o o' hl ho hc hw => belowK_b (w := w4) (by omega) W l o o' hl ho hc hw) (Below.refl _ _) (fun _ => rfl)
    (fun _ W => (Blk W (w.heap.size + 1) 4 [.bool false] ∧ Blk W w1.heap.size 29 [.int .i64 0, .int .i64 0, .int .i64 0, .string ⟨#[]⟩]) ∧ Below w.heap.size w W)
    (fun _ _ _ => False)
    (OwnFrom.and (OwnFrom.and (Own.from (blk_own _ _ _) _) (Own.from (blk_own _ _ _) _)) (ownFrom_below (Nat.le_refl _) (by omega)))
    (fun _ _ _ _ _ hs _ _ => hs)
    ⟨⟨HR4.out, HP4.out⟩, HB4.out⟩ _
  case hassign =>
    intro l x W K hK
    gi_wp2
    exact hK
  case hbody =>
    rintro l pre x W _ hlt
    exact absurd hlt (Nat.not_lt_zero _)
  case hstop =>
    rintro D c pre W _ hf
    exact hf.elim
  case hdone =>
    rintro D ys W hD rfl ⟨⟨hR, hP⟩, hB⟩ hK
    have HR := hid hR
    have HP := hid hP
    have HB := hid hB
    have HK := hid hK
    have hDl : D < W.heap.size := (Array.getElem?_eq_some_iff.1 hK).1
    clear hR hP hB hK hseq d2 d3
    gi_wp2_with fail
    refine ⟨trivial, (callsIn_wide.2 (lives_any _)).mono ?_⟩
    rintro e w5 ⟨rfl, hb5⟩
    have hP5 := HP.out.below hb5 HP.out.lt
    have HR5 := hid (HR.out.below hb5 HR.out.lt)
    have HK5 : Hid (w5.heap[D]? = some (.deferred (some []))) := (hb5.block D hDl).trans HK.out
    have HB5 : Hid (Below w.heap.size w w5) := HB.out.trans (hb5.mono HB.out.size)
    have q0 := hP5.cell (i := 0) rfl
    have q1 := hP5.cell (i := 1) rfl
    have q2 := hP5.cell (i := 2) rfl
    have q3 := hP5.cell (i := 3) rfl
    have r0 := HR5.out.cell (i := 0) rfl
    have rf := HR5.out.frozen 0
    have heq := fun V => eql_pk0 V
    clear hb5 hP5
    gi_wp2_with fail
    refine ⟨trivial, (callsIn_wide.2 (all_nil _)).mono ?_⟩
    rintro e w6 ⟨rfl, h'⟩
    subst h'
    gi_wp2_with fail
    refine ⟨trivial, (callsIn_wide.2 (len_nil _)).mono ?_⟩
    rintro e w7 ⟨rfl, h'⟩
    subst h'
    gi_wp2_with fail
    refine ⟨trivial, (callsIn_wide.2 (fork_nil _)).mono ?_⟩
    rintro e w8 ⟨rfl, h'⟩
    subst h'
    gi_wp2
    have hRD : w.heap.size + 1 ≠ D := by
      intro e
      have h1 : w8.heap[w.heap.size + 1]? = some (.cells #[.bool false] 4 (0, 0)) := HR5.out
      rw [e, HK5.out] at h1
      cases h1
    have hKf : (w8.setCell ⟨w.heap.size + 1, 0, none⟩ (.bool true)).heap[D]? = some (.deferred (some [])) := by
      rw [Below.heap_setCell _ _ _ _ (Ne.symm hRD)]
      exact HK5.out
    have hRf : Blk ((w8.setCell ⟨w.heap.size + 1, 0, none⟩ (.bool true)).putObj D (.deferred none)) (w.heap.size + 1) 4 [.bool true] := by
      have h1 := HR5.out.set 0 (.bool true)
      unfold Blk
      rw [World.putObj_heap_other hRD]
      exact h1
    refine ⟨by simp, .inl ⟨_, _, rfl, run_takeDeferred hKf, ?_⟩⟩
    exact ⟨_, results_cell4 rfl _ _ rfl (hRf.cell (i := 0) rfl), rfl, (HB5.out.setCell (p := ⟨w.heap.size + 1, 0, none⟩) (by simp) _).trans (belowK_b (w := w) (Nat.le_refl _) _ D _ _ (by omega) hKf rfl rfl)⟩
end Go.Proofs.Ytjejddpmkihdgab
