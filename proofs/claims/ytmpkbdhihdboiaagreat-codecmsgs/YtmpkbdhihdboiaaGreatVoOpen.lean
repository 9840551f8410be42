/-
  pannierlaw01.lives answers true in whatever memory, and writes nothing that was there.
-/
import Derived.Test.YtmpkbdhihdboiaaGreatNames
import Derived.Test.YtmpkbdhihdboiaaGreatRdA
import Derived.Test.YtmpkbdhihdboiaaGreatRows
import Derived.Test.YtmpkbdhihdboiaaGreatBlk
import Derived.Lib.SmallJoins
import Derived.Test.YtmpkbdhihdboiaaGreatVoA
import Derived.Deep.SlicePairs
import Derived.ChangeSlices
import Derived.SizedLaws
namespace Go.Proofs.YtmpkbdhihdboiaaGreat
open Go.RowKit

/-- A new block of bytes, read as a slice. -/
theorem held_new (w : World) (bs : List Int) (cs : Array Value) (t : TypeId) (hcs : cs = (nums bs).toArray) (hb : AllB bs) (hm : bs.length ≤ maxLen) : Held (w.alloc (.cells cs t)) (some ⟨w.heap.size, 0, none⟩) bs.length bs.length bs := by
  subst hcs
  refine ⟨rfl, Nat.le_refl _, hm, fun h => (by cases h), hb, fun ad h j hj => ?_, fun ad h _ => ?_⟩
  · obtain rfl := Option.some.inj h
    rw [Addr.add_lit]
    have hg := heap_alloc_new w (.cells (nums bs).toArray t)
    have := cell_of_row (w.alloc (.cells (nums bs).toArray t)) w.heap.size j (nums bs).toArray t (0, 0) hg
    rw [Nat.zero_add, this]
    simp [nums, List.getD, List.getElem?_eq_getElem hj]
  · obtain rfl := Option.some.inj h
    simp

theorem codecText_held (ao : Option Addr) (len cap : Nat) (bs : List Int) (s : ByteArray) (w : World) (h : Held w ao len cap bs) (hm : len + s.size ≤ 140737488355000) :
    Calls Tryz.prog 16 #[.slice ao len cap, .string s] w fun e w' => ∃ bo cp, e = .returned (.slice bo (len + (encText s).length) cp) ∧ Held w' bo (len + (encText s).length) cp (bs ++ encText s) ∧ w'.ownsRow w.heap.size 5 1 (.slice bo (len + (encText s).length) cp) (len + (encText s).length) (nums (bs ++ encText s)) ∧ Below w.heap.size w w' := by
  refine (codecText_any ao len cap bs s w h hm).mono ?_
  rintro e w' ⟨v, rfl, hown, hb⟩
  obtain ⟨bo, cp, rfl, hh⟩ := held_of_own hown (h.byte.append (encText_byte s))
  exact ⟨bo, cp, rfl, hh, hown, hb⟩

theorem read_ac (w : World) (n : Nat) (hn : n = w.heap.size) :
    Calls Tryz.prog 15 #[.slice (some ⟨n, 0, none⟩) 3 3] (w.alloc (.cells #[.int .u8 172, .int .u8 2, .int .u8 9] 5)) fun e w' => e = .returned (.tuple #[.int .u64 300, .int .i64 2, .int .i64 0]) ∧ w' = w.alloc (.cells #[.int .u8 172, .int .u8 2, .int .u8 9] 5) := by
  subst hn
  have h := readUint_any (some ⟨w.heap.size, 0, none⟩) 3 3 [172, 2, 9] _ (held_new w [172, 2, 9] #[.int .u8 172, .int .u8 2, .int .u8 9] 5 rfl (by unfold AllB; decide) (by decide))
  have e : dec 0 0 [172, 2, 9] = (300, 2, 0) := by decide
  rw [e] at h
  exact h

theorem read_80 (w : World) (n : Nat) (hn : n = w.heap.size) :
    Calls Tryz.prog 15 #[.slice (some ⟨n, 0, none⟩) 2 2] (w.alloc (.cells #[.int .u8 128, .int .u8 0] 5)) fun e w' => e = .returned (.tuple #[.int .u64 0, .int .i64 0, .int .i64 10]) ∧ w' = w.alloc (.cells #[.int .u8 128, .int .u8 0] 5) := by
  subst hn
  have h := readUint_any (some ⟨w.heap.size, 0, none⟩) 2 2 [128, 0] _ (held_new w [128, 0] #[.int .u8 128, .int .u8 0] 5 rfl (by unfold AllB; decide) (by decide))
  have e : dec 0 0 [128, 0] = (0, 0, 10) := by decide
  rw [e] at h
  exact h

theorem text_ab (w : World) (n : Nat) (hn : n = w.heap.size) :
    Calls Tryz.prog 16 #[.slice (some ⟨n, 0, none⟩) 1 1, .string ⟨#[97, 98]⟩] (w.alloc (.cells #[.int .u8 7] 5)) fun e w' => ∃ bo cp, e = .returned (.slice bo 4 cp) ∧ Held w' bo 4 cp [7, 2, 97, 98] ∧ Below w.heap.size w w' := by
  subst hn
  refine (codecText_held (some ⟨w.heap.size, 0, none⟩) 1 1 [7] ⟨#[97, 98]⟩ _ (held_new w [7] #[.int .u8 7] 5 rfl (by unfold AllB; decide) (by decide)) (by decide)).mono ?_
  rintro e w' ⟨bo, cp, rfl, hh, _, hb⟩
  exact ⟨bo, cp, rfl, hh, ((Below.refl _ w).alloc (Nat.le_refl _) _).trans (hb.mono (by simp))⟩

theorem name_yes (w : World) : Calls Tryz.prog 17 #[.string ⟨#[97, 45, 49]⟩] w fun e w' => e = .returned (.bool true) ∧ w' = w := by
  have h := codecName_any ⟨#[97, 45, 49]⟩ w (by decide)
  have e : nameS ⟨#[97, 45, 49]⟩ = true := by decide
  rw [e] at h
  exact h
theorem name_no (w : World) : Calls Tryz.prog 17 #[.string ⟨#[65]⟩] w fun e w' => e = .returned (.bool false) ∧ w' = w := by
  have h := codecName_any ⟨#[65]⟩ w (by decide)
  have e : nameS ⟨#[65]⟩ = false := by decide
  rw [e] at h
  exact h

set_option maxRecDepth 100000 in
theorem lives_any (w : World) : Calls Tryz.prog 6 #[] w fun e w' => e = .returned (.bool true) ∧ Below w.heap.size w w' := by
  go_enter Tryz.func6, Tryz.ntmps6
  go_wp2_with fail
  refine (read_ac w _ rfl).mono ?_
  rintro e w' ⟨rfl, rfl⟩
  go_wp2_with fail
  refine (read_80 _ _ (by simp)).mono ?_
  rintro e w' ⟨rfl, rfl⟩
  go_wp2_with fail
  refine (text_ab _ _ (by simp)).mono ?_
  rintro e w3 ⟨bo, cp, rfl, hh, hb⟩
  have hcv := run_convert_held (P := Tryz.prog) hh 33 5 9 Tryz.underlying33 Tryz.underlying5 Tryz.underlying9
  rw [show strOfNums [7, 2, 97, 98] = ⟨#[7, 2, 97, 98]⟩ from rfl] at hcv
  have HB : Hid (Below w.heap.size w w3) := (((Below.refl _ w).alloc (Nat.le_refl _) _).alloc (by simp) _).trans (hb.mono (by first | (simp; done) | (simp; omega) | omega))
  clear hh hb
  go_wp2_with fail
  refine (name_yes _).mono ?_
  rintro e w' ⟨rfl, rfl⟩
  go_wp2_with fail
  refine (name_no _).mono ?_
  rintro e w' ⟨rfl, rfl⟩
  go_wp2
  go_ret
  exact ⟨rfl, HB.out⟩
end Go.Proofs.YtmpkbdhihdboiaaGreat
/-
  How an argument of type api.Ballot is read.
-/
namespace Go.Proofs.YtmpkbdhihdboiaaGreat
open Go.RowKit Go.ChangeShapes Go.WideShapes Go.Deep

/-- Whole numbers of 64 bits. -/
def In64B (x : Int) : Prop := -9223372036854775808 ≤ x ∧ x ≤ 9223372036854775807
theorem in64B_wf {x : Int} (h : (Lit.int .i64 x).wf = true) : In64B x := by
  simp [Lit.wf, IntKind.min, IntKind.max, IntKind.signed, IntKind.bits] at h
  exact ⟨by omega, by omega⟩
theorem arr2B {α : Type} {cs : List α} (h : cs.length = 2) : ∃ c0 c1, cs = [c0, c1] := by
  match cs, h with
  | [c0, c1], _ => exact ⟨c0, c1, rfl⟩
theorem Tryz.cellsBal : Tryz.prog.cellsOf 23 = 2 := by kernel_rfl

set_option maxRecDepth 100000 in
theorem bal_of_trod {H : Type} {enc : TypeId × Value → H} {w : World} {base : Nat} {spare : Nat → Bool} {held : Bool} {fuel : Nat} {cs : List Value} {x : DataW H × List MemPlace} (h : DataW.trod enc Tryz.prog w base spare held fuel 23 cs = some x) :
    ∃ o s : Int, cs = [.int .i64 o, .int .i64 s] ∧ In64B o ∧ In64B s := by
  obtain ⟨xs, n, _, _, hl, hlen, hf⟩ := DataW.trod_struct Tryz.underlying23 h
  rw [Tryz.cellsBal] at hl
  obtain ⟨c0, c1, rfl⟩ := arr2B hl
  obtain ⟨y0, y1, rfl⟩ := arr2B hlen
  have g : ∀ (i : Nat) (f : Field), (#[_, _] : Array Field)[i]? = some f → _ := hf
  have h0 := g 0 _ rfl
  have h1 := g 1 _ rfl
  have k3 : Tryz.prog.cellsOf 3 = 1 := by kernel_rfl
  simp [k3] at h0 h1
  obtain ⟨a0, e0, _, w0⟩ := DataW.trod_int Tryz.underlying3 h0
  obtain ⟨a1, e1, _, w1⟩ := DataW.trod_int Tryz.underlying3 h1
  simp at e0 e1
  subst e0 e1
  exact ⟨a0, a1, rfl, in64B_wf w0, in64B_wf w1⟩
set_option maxRecDepth 100000 in
theorem open_bal {H : Type} {enc : TypeId × Value → H} {w : World} {base b0 : Nat} {r : Reach} {spare : Nat → Bool} {held : Bool} {v : Value} {d : DataW H} {p : List MemPlace} (hv : Value.okWide Tryz.prog w r b0 23 v) (h : DataW.Trod enc Tryz.prog w base spare held 23 v d p) :
    ∃ o s : Int, v = .agg #[.int .i64 o, .int .i64 s] ∧ In64B o ∧ In64B s := by
  obtain ⟨cs, rfl, _⟩ := okWide_struct Tryz.underlying23 hv
  obtain ⟨fuel, hf⟩ := h
  obtain ⟨o, s, ho, h1, h2⟩ := bal_of_trod hf
  refine ⟨o, s, ?_, h1, h2⟩
  simp [Value.cells] at ho
  rw [show cs = #[.int .i64 o, .int .i64 s] from Array.ext' ho]
end Go.Proofs.YtmpkbdhihdboiaaGreat
/-
  How an argument of type []api.Voted is read, where it takes no more than the form's own reach.
-/
namespace Go.Proofs.YtmpkbdhihdboiaaGreat
open Go.RowKit Go.ChangeShapes Go.WideShapes Go.Deep

theorem weightsAll_inB {H : Type} {P : Program} {e : TypeId} : ∀ {l : List (DataW H)} {d : DataW H}, d ∈ l → ∀ n ∈ d.weights P e, n ∈ DataW.weightsAll P e l
  | [], _, h, _, _ => by cases h
  | x :: l, d, h, n, hn => by
    simp only [DataW.weightsAll, List.mem_append]
    rcases List.mem_cons.1 h with rfl | h
    · exact .inl hn
    · exact .inr (weightsAll_inB h n hn)
/-- What an element of a slice takes. -/
theorem sized_elemB {H : Type} {P : Program} {ts : List TypeId} {ds : List (DataW H)} (h : (DataW.weightsEach P ts ds).all (· ≤ reachBytes) = true) {j : Nat} {t e : TypeId} {elems spare : List (DataW H)} (ht : ts[j]? = some t) (hd : ds[j]? = some (.slice elems spare)) (hu : P.underlying t = some (.slice e))
    {d : DataW H} (hm : d ∈ elems) : ∀ n ∈ d.weights P e, n ≤ reachBytes := by
  intro n hn
  have h2 := weightsAll_inB hm n hn
  have := List.all_eq_true.1 h n (DataW.weights_mem_each ht hd n (by simp only [DataW.weights, hu]; exact List.mem_cons_of_mem _ (List.mem_append_left _ h2)))
  simpa using this
theorem slice_trodB {H : Type} {enc : TypeId × Value → H} {w : World} {base : Nat} {spare : Nat → Bool} {held : Bool} {fuel : Nat} {v : Value} {x : DataW H × List MemPlace} (h : DataW.trod enc Tryz.prog w base spare held fuel 24 [v] = some x) : ∃ a l c, v = .slice a l c := by
  rcases open_ints Tryz.underlying24 Tryz.underlying3 (by kernel_rfl) h with ⟨hcs, _⟩ | ⟨x, l, c, zs, hcs, _⟩
  · simp at hcs; exact ⟨_, _, _, hcs⟩
  · simp at hcs; exact ⟨_, _, _, hcs⟩
theorem arr4B {α : Type} {cs : List α} (h : cs.length = 4) : ∃ c0 c1 c2 c3, cs = [c0, c1, c2, c3] := by
  match cs, h with
  | [c0, c1, c2, c3], _ => exact ⟨c0, c1, c2, c3, rfl⟩
theorem arr5B {α : Type} {cs : List α} (h : cs.length = 5) : ∃ c0 c1 c2 c3 c4, cs = [c0, c1, c2, c3, c4] := by
  match cs, h with
  | [c0, c1, c2, c3, c4], _ => exact ⟨c0, c1, c2, c3, c4, rfl⟩
theorem arr3B {α : Type} {cs : List α} (h : cs.length = 3) : ∃ c0 c1 c2, cs = [c0, c1, c2] := by
  match cs, h with
  | [c0, c1, c2], _ => exact ⟨c0, c1, c2, rfl⟩
theorem arr8B {α : Type} {cs : List α} (h : cs.length = 8) : ∃ c0 c1 c2 c3 c4 c5 c6 c7, cs = [c0, c1, c2, c3, c4, c5, c6, c7] := by
  match cs, h with
  | [c0, c1, c2, c3, c4, c5, c6, c7], _ => exact ⟨c0, c1, c2, c3, c4, c5, c6, c7, rfl⟩
theorem Tryz.cellsSeB : Tryz.prog.cellsOf 26 = 4 := by kernel_rfl
theorem Tryz.cellsEn : Tryz.prog.cellsOf 28 = 5 := by kernel_rfl
theorem Tryz.cellsVo : Tryz.prog.cellsOf 63 = 8 := by kernel_rfl
set_option maxRecDepth 100000 in
theorem sl_sizedB {H : Type} {enc : TypeId × Value → H} {w : World} {base : Nat} {held : Bool} {fuel : Nat} {cs : List Value} {x : DataW H × List MemPlace} (h : DataW.trod enc Tryz.prog w base (fun _ => true) held fuel 26 cs = some x) (hw : ∀ n ∈ x.1.weights Tryz.prog 26, n ≤ reachBytes) :
    ∃ (tk ct : ByteArray) (ep : Int) (cut : List Int) (ao : Option Addr) (cap : Nat), cs = [.string tk, .string ct, .int .i64 ep, .slice ao cut.length cap] ∧ HV w ao cap cut ∧ In64B ep ∧ tk.size ≤ maxLen ∧ ct.size ≤ maxLen := by
  obtain ⟨xs, n, _, hxe, hl, hlen, hf⟩ := DataW.trod_struct Tryz.underlying26 h
  rw [Tryz.cellsSeB] at hl
  obtain ⟨c0, c1, c2, c3, rfl⟩ := arr4B hl
  obtain ⟨y0, y1, y2, y3, rfl⟩ := arr4B hlen
  have g : ∀ (i : Nat) (f : Field), (#[_, _, _, _] : Array Field)[i]? = some f → _ := hf
  have h0 := g 0 _ rfl
  have h1 := g 1 _ rfl
  have h2 := g 2 _ rfl
  have h3 := g 3 _ rfl
  have k3 : Tryz.prog.cellsOf 3 = 1 := by kernel_rfl
  have k9 : Tryz.prog.cellsOf 9 = 1 := by kernel_rfl
  have k27 : Tryz.prog.cellsOf 24 = 1 := by kernel_rfl
  simp [k3, k9, k27] at h0 h1 h2 h3
  obtain ⟨s0, e0, _, w0⟩ := DataW.trod_string Tryz.underlying9 h0
  obtain ⟨s1, e1, _, w1⟩ := DataW.trod_string Tryz.underlying9 h1
  obtain ⟨a2, e2, _, w2⟩ := DataW.trod_int Tryz.underlying3 h2
  obtain ⟨a3, l3, d3, rfl⟩ := slice_trodB h3
  simp at e0 e1 e2
  subst e0 e1 e2
  obtain ⟨ds, hds, ⟨hh, hr⟩, hd⟩ := open_nums (d := y3.1) (p := y3.2) ⟨n, h3⟩
  have hb : l3 ≤ 17592186044416 := by
    rcases hd with h | ⟨es, sp, hd, he⟩
    · omega
    · have hreach := hw ((es.length + sp.length) * 8) (by
        rw [hxe]
        simp only [DataW.weights, Tryz.underlying26]
        refine DataW.weights_mem_each (j := 3) rfl rfl _ ?_
        show _ ∈ DataW.weights Tryz.prog 24 y3.1
        rw [hd]
        simp only [DataW.weights, Tryz.underlying24]
        rw [show Tryz.prog.bytesOf 3 = 8 by kernel_rfl]
        exact List.mem_cons_self)
      simp only [reachBytes] at hreach
      omega
  subst hds
  exact ⟨s0, s1, a2, ds, a3, d3, rfl, ⟨hh, hr, hb⟩, in64B_wf w2, w0, w1⟩
set_option maxRecDepth 100000 in
theorem en_sizedB {H : Type} {enc : TypeId × Value → H} {w : World} {base : Nat} {held : Bool} {fuel : Nat} {cs : List Value} {x : DataW H × List MemPlace} (h : DataW.trod enc Tryz.prog w base (fun _ => true) held fuel 28 cs = some x) (hw : ∀ n ∈ x.1.weights Tryz.prog 28, n ≤ reachBytes) :
    ∃ o : EnM, cs = o.cells ∧ EnOk w o := by
  obtain ⟨xs, n, _, hxe, hl, hlen, hf⟩ := DataW.trod_struct Tryz.underlying28 h
  rw [Tryz.cellsEn] at hl
  obtain ⟨c0, c1, c2, c3, c4, rfl⟩ := arr5B hl
  obtain ⟨y0, y1, rfl⟩ := arr2B hlen
  have g : ∀ (i : Nat) (f : Field), (#[_, _] : Array Field)[i]? = some f → _ := hf
  have h0 := g 0 _ rfl
  have h1 := g 1 _ rfl
  have k4 : Tryz.prog.cellsOf 4 = 1 := by kernel_rfl
  have k5 := Tryz.cellsSeB
  simp [k4, k5] at h0 h1
  obtain ⟨b0, e0, _⟩ := DataW.trod_bool Tryz.underlying4 h0
  simp at e0
  subst e0
  obtain ⟨tk, ct, ep, cut, ao, cap, e1, hv, hi, ht, hc⟩ := sl_sizedB h1 (fun m hm => hw m (by
    rw [hxe]
    simp only [DataW.weights, Tryz.underlying28]
    exact DataW.weights_mem_each (j := 1) rfl rfl _ hm))
  simp at e1
  obtain ⟨rfl, rfl, rfl, rfl⟩ := e1
  exact ⟨⟨⟨b0, tk, ct, ep, cut⟩, ao, cap⟩, rfl, ⟨hv, hi, ht, hc⟩⟩
set_option maxRecDepth 100000 in
theorem vo_sized {H : Type} {enc : TypeId × Value → H} {w : World} {base : Nat} {held : Bool} {fuel : Nat} {cs : List Value} {x : DataW H × List MemPlace} (h : DataW.trod enc Tryz.prog w base (fun _ => true) held fuel 63 cs = some x) (hw : ∀ n ∈ x.1.weights Tryz.prog 63, n ≤ reachBytes) :
    ∃ o : VoM, cs = o.cells ∧ VoOk w o := by
  obtain ⟨xs, n, _, hxe, hl, hlen, hf⟩ := DataW.trod_struct Tryz.underlying63 h
  rw [Tryz.cellsVo] at hl
  obtain ⟨c0, c1, c2, c3, c4, c5, c6, c7, rfl⟩ := arr8B hl
  obtain ⟨y0, y1, y2, rfl⟩ := arr3B hlen
  have g : ∀ (i : Nat) (f : Field), (#[_, _, _] : Array Field)[i]? = some f → _ := hf
  have h0 := g 0 _ rfl
  have h1 := g 1 _ rfl
  have h2 := g 2 _ rfl
  have k3 : Tryz.prog.cellsOf 3 = 1 := by kernel_rfl
  have k4 := Tryz.cellsBal
  have k5 := Tryz.cellsEn
  simp [k3, k4, k5] at h0 h1 h2
  obtain ⟨a0, e0, _, w0⟩ := DataW.trod_int Tryz.underlying3 h0
  obtain ⟨r, m, e1, w1, w2⟩ := bal_of_trod h1
  simp at e0 e1
  subst e0
  obtain ⟨rfl, rfl⟩ := e1
  obtain ⟨o, e2, ho⟩ := en_sizedB h2 (fun m hm => hw m (by
    rw [hxe]
    simp only [DataW.weights, Tryz.underlying63]
    exact DataW.weights_mem_each (j := 2) rfl rfl _ hm))
  simp [EnM.cells] at e2
  obtain ⟨rfl, rfl, rfl, rfl, rfl⟩ := e2
  exact ⟨⟨a0, (r, m), o⟩, rfl, ⟨ho, in64B_wf w0, w1, w2⟩⟩
set_option maxRecDepth 100000 in
theorem open_vos {H : Type} {enc : TypeId × Value → H} {w : World} {base : Nat} {held : Bool} {ao : Option Addr} {len cap : Nat} {d : DataW H} {p : List MemPlace} (h : DataW.Trod enc Tryz.prog w base (fun _ => true) held 29 (.slice ao len cap) d p)
    (hw : ∀ es sp, d = .slice es sp → ∀ x ∈ es, ∀ n ∈ x.weights Tryz.prog 63, n ≤ reachBytes) :
    ∃ os : List VoM, os.length = len ∧ (HeldVo w ao os ∧ len ≤ cap) ∧ (len = 0 ∨ ∃ es sp, d = .slice es sp ∧ es.length = len) := by
  obtain ⟨fuel, hf⟩ := h
  rcases open_slice Tryz.underlying29 hf with ⟨hcs, hx⟩ | ⟨a, l, c, m, n, Dd, Pl, hcs, _, hl, hm, hmm, hx, hall⟩
  · simp [Value.cells] at hcs
    obtain ⟨rfl, rfl, rfl⟩ := hcs
    exact ⟨[], rfl, ⟨⟨fun o ho => (by cases ho), .inl rfl⟩, Nat.le_refl _⟩, .inl rfl⟩
  · simp [Value.cells] at hcs
    obtain ⟨rfl, rfl, rfl⟩ := hcs
    rw [Tryz.cellsVo] at hall
    have hlm : len ≤ m := by rw [hmm]; split <;> omega
    simp only [Prod.mk.injEq] at hx
    obtain ⟨O, hO⟩ := choose_lt (α := VoM) (n := len) (p := fun i o => VoOk w o ∧ w.cells? base (a.add (i * 8)) 8 = some o.cells) (fun i hi => by
      obtain ⟨cs', h1, h2⟩ := hall i (by omega)
      obtain ⟨o, rfl, hok⟩ := vo_sized h2 (hw _ _ hx.1 _ (List.mem_map.2 ⟨i, List.mem_range.2 hi, rfl⟩))
      exact ⟨o, hok, h1⟩)
    refine ⟨(List.range len).map O, by simp, ⟨⟨fun o ho => ?_, ?_⟩, hl⟩, .inr ⟨_, _, hx.1, by simp⟩⟩
    · obtain ⟨i, hi, rfl⟩ := List.mem_map.1 ho
      exact (hO i (List.mem_range.1 hi)).1
    · by_cases h0 : len = 0
      · left
        simp [h0]
      · right
        have hc0 : ∀ i, i < len → ∀ c u, (O i).cells[c]? = some u → w.cell? (a.add (i * 8 + c)) = some u := by
          intro i hi c u hu
          have hc := (World.cells?_some (hO i hi).2).2.2 c (by have := (List.getElem?_eq_some_iff.1 hu).1; simpa [VoM.cells] using this)
          rw [add_add] at hc
          rw [hc, hu]
        obtain ⟨b, off, spot⟩ := a
        have hz := hc0 0 (by omega) 0 _ rfl
        have hspot : spot = none := by simpa [Addr.add] using World.cell?_spot hz
        subst hspot
        have hlt := World.block_lt_of_cell? w _ hz
        refine ⟨b, off, rfl, by simpa [Addr.add] using hlt, fun j hj c u hu => ?_⟩
        have hj' : j < len := by simpa using hj
        have := hc0 j hj' c u (by simpa using hu)
        rwa [Addr.add_lit, ← Nat.add_assoc] at this
end Go.Proofs.YtmpkbdhihdboiaaGreat
