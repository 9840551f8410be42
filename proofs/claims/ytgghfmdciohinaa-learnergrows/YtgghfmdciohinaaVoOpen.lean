/-
  How an argument of type []api.Voted is read, where it takes no more than the form's own reach.
-/
import Derived.Test.YtgghfmdciohinaaVoA
import Derived.Test.YtgghfmdciohinaaBalOpen
import Derived.Deep.SlicePairs
import Derived.ChangeSlices
import Derived.SizedLaws
namespace Go.Proofs.Ytgghfmdciohinaa
open Go.RowKit Go.ChangeShapes Go.WideShapes Go.Deep

theorem weightsAll_inB {H : Type} {P : Program} {e : TypeId} : ∀ {l : List (DataW H)} {d : DataW H}, d ∈ l → ∀ n ∈ d.weights P e, n ∈ DataW.weightsAll P e l
  | [], _, h, _, _ => by cases h
  | x :: l, d, h, n, hn => by
    simp only [DataW.weightsAll, List.mem_append]
    rcases List.mem_cons.1 h with rfl | h
    · exact .inl hn
    · exact .inr (weightsAll_inB h n hn)
/-- What an element of a slice takes. -/
theorem sized_elemB {H : Type} {P : Program} {ts : List TypeId} {ds : List (DataW H)} (h : (DataW.weightsEach P ts ds).all (· ≤ reachBytes) = true) {j : Nat} {t e : TypeId} {elems spare : List (DataW H)} (ht : ts[j]? = some t) (hd : ds[j]? = some (.slice elems spare)) (hu : P.underlying t = some (.slice e))
    {d : DataW H} (hm : d ∈ elems) : ∀ n ∈ d.weights P e, n ≤ reachBytes := by
  intro n hn
  have h2 := weightsAll_inB hm n hn
  have := List.all_eq_true.1 h n (DataW.weights_mem_each ht hd n (by simp only [DataW.weights, hu]; exact List.mem_cons_of_mem _ (List.mem_append_left _ h2)))
  simpa using this
theorem slice_trodB {H : Type} {enc : TypeId × Value → H} {w : World} {base : Nat} {spare : Nat → Bool} {held : Bool} {fuel : Nat} {v : Value} {x : DataW H × List MemPlace} (h : DataW.trod enc Try.prog w base spare held fuel 29 [v] = some x) : ∃ a l c, v = .slice a l c := by
  rcases open_ints Try.underlying29 Try.underlying3 (by kernel_rfl) h with ⟨hcs, _⟩ | ⟨x, l, c, zs, hcs, _⟩
  · simp at hcs; exact ⟨_, _, _, hcs⟩
  · simp at hcs; exact ⟨_, _, _, hcs⟩
theorem arr4B {α : Type} {cs : List α} (h : cs.length = 4) : ∃ c0 c1 c2 c3, cs = [c0, c1, c2, c3] := by
  match cs, h with
  | [c0, c1, c2, c3], _ => exact ⟨c0, c1, c2, c3, rfl⟩
theorem arr5B {α : Type} {cs : List α} (h : cs.length = 5) : ∃ c0 c1 c2 c3 c4, cs = [c0, c1, c2, c3, c4] := by
  match cs, h with
  | [c0, c1, c2, c3, c4], _ => exact ⟨c0, c1, c2, c3, c4, rfl⟩
theorem arr3B {α : Type} {cs : List α} (h : cs.length = 3) : ∃ c0 c1 c2, cs = [c0, c1, c2] := by
  match cs, h with
  | [c0, c1, c2], _ => exact ⟨c0, c1, c2, rfl⟩
theorem arr8B {α : Type} {cs : List α} (h : cs.length = 8) : ∃ c0 c1 c2 c3 c4 c5 c6 c7, cs = [c0, c1, c2, c3, c4, c5, c6, c7] := by
  match cs, h with
  | [c0, c1, c2, c3, c4, c5, c6, c7], _ => exact ⟨c0, c1, c2, c3, c4, c5, c6, c7, rfl⟩
theorem Try.cellsSeB : Try.prog.cellsOf 31 = 4 := by kernel_rfl
theorem Try.cellsEn : Try.prog.cellsOf 33 = 5 := by kernel_rfl
theorem Try.cellsVo : Try.prog.cellsOf 98 = 8 := by kernel_rfl
set_option maxRecDepth 100000 in
theorem sl_sizedB {H : Type} {enc : TypeId × Value → H} {w : World} {base : Nat} {held : Bool} {fuel : Nat} {cs : List Value} {x : DataW H × List MemPlace} (h : DataW.trod enc Try.prog w base (fun _ => true) held fuel 31 cs = some x) (hw : ∀ n ∈ x.1.weights Try.prog 31, n ≤ reachBytes) :
    ∃ (tk ct : ByteArray) (ep : Int) (cut : List Int) (ao : Option Addr) (cap : Nat), cs = [.string tk, .string ct, .int .i64 ep, .slice ao cut.length cap] ∧ HV w ao cap cut ∧ In64B ep ∧ tk.size ≤ maxLen ∧ ct.size ≤ maxLen := by
  obtain ⟨xs, n, _, hxe, hl, hlen, hf⟩ := DataW.trod_struct Try.underlying31 h
  rw [Try.cellsSeB] at hl
  obtain ⟨c0, c1, c2, c3, rfl⟩ := arr4B hl
  obtain ⟨y0, y1, y2, y3, rfl⟩ := arr4B hlen
  have g : ∀ (i : Nat) (f : Field), (#[_, _, _, _] : Array Field)[i]? = some f → _ := hf
  have h0 := g 0 _ rfl
  have h1 := g 1 _ rfl
  have h2 := g 2 _ rfl
  have h3 := g 3 _ rfl
  have k3 : Try.prog.cellsOf 3 = 1 := by kernel_rfl
  have k9 : Try.prog.cellsOf 9 = 1 := by kernel_rfl
  have k27 : Try.prog.cellsOf 29 = 1 := by kernel_rfl
  simp [k3, k9, k27] at h0 h1 h2 h3
  obtain ⟨s0, e0, _, w0⟩ := DataW.trod_string Try.underlying9 h0
  obtain ⟨s1, e1, _, w1⟩ := DataW.trod_string Try.underlying9 h1
  obtain ⟨a2, e2, _, w2⟩ := DataW.trod_int Try.underlying3 h2
  obtain ⟨a3, l3, d3, rfl⟩ := slice_trodB h3
  simp at e0 e1 e2
  subst e0 e1 e2
  obtain ⟨ds, hds, ⟨hh, hr⟩, hd⟩ := open_nums (d := y3.1) (p := y3.2) ⟨n, h3⟩
  have hb : l3 ≤ 17592186044416 := by
    rcases hd with h | ⟨es, sp, hd, he⟩
    · omega
    · have hreach := hw ((es.length + sp.length) * 8) (by
        rw [hxe]
        simp only [DataW.weights, Try.underlying31]
        refine DataW.weights_mem_each (j := 3) rfl rfl _ ?_
        show _ ∈ DataW.weights Try.prog 29 y3.1
        rw [hd]
        simp only [DataW.weights, Try.underlying29]
        rw [show Try.prog.bytesOf 3 = 8 by kernel_rfl]
        exact List.mem_cons_self)
      simp only [reachBytes] at hreach
      omega
  subst hds
  exact ⟨s0, s1, a2, ds, a3, d3, rfl, ⟨hh, hr, hb⟩, in64B_wf w2, w0, w1⟩
set_option maxRecDepth 100000 in
theorem en_sizedB {H : Type} {enc : TypeId × Value → H} {w : World} {base : Nat} {held : Bool} {fuel : Nat} {cs : List Value} {x : DataW H × List MemPlace} (h : DataW.trod enc Try.prog w base (fun _ => true) held fuel 33 cs = some x) (hw : ∀ n ∈ x.1.weights Try.prog 33, n ≤ reachBytes) :
    ∃ o : EnM, cs = o.cells ∧ EnOk w o := by
  obtain ⟨xs, n, _, hxe, hl, hlen, hf⟩ := DataW.trod_struct Try.underlying33 h
  rw [Try.cellsEn] at hl
  obtain ⟨c0, c1, c2, c3, c4, rfl⟩ := arr5B hl
  obtain ⟨y0, y1, rfl⟩ := arr2B hlen
  have g : ∀ (i : Nat) (f : Field), (#[_, _] : Array Field)[i]? = some f → _ := hf
  have h0 := g 0 _ rfl
  have h1 := g 1 _ rfl
  have k4 : Try.prog.cellsOf 4 = 1 := by kernel_rfl
  have k5 := Try.cellsSeB
  simp [k4, k5] at h0 h1
  obtain ⟨b0, e0, _⟩ := DataW.trod_bool Try.underlying4 h0
  simp at e0
  subst e0
  obtain ⟨tk, ct, ep, cut, ao, cap, e1, hv, hi, ht, hc⟩ := sl_sizedB h1 (fun m hm => hw m (by
    rw [hxe]
    simp only [DataW.weights, Try.underlying33]
    exact DataW.weights_mem_each (j := 1) rfl rfl _ hm))
  simp at e1
  obtain ⟨rfl, rfl, rfl, rfl⟩ := e1
  exact ⟨⟨⟨b0, tk, ct, ep, cut⟩, ao, cap⟩, rfl, ⟨hv, hi, ht, hc⟩⟩
set_option maxRecDepth 100000 in
theorem vo_sized {H : Type} {enc : TypeId × Value → H} {w : World} {base : Nat} {held : Bool} {fuel : Nat} {cs : List Value} {x : DataW H × List MemPlace} (h : DataW.trod enc Try.prog w base (fun _ => true) held fuel 98 cs = some x) (hw : ∀ n ∈ x.1.weights Try.prog 98, n ≤ reachBytes) :
    ∃ o : VoM, cs = o.cells ∧ VoOk w o := by
  obtain ⟨xs, n, _, hxe, hl, hlen, hf⟩ := DataW.trod_struct Try.underlying98 h
  rw [Try.cellsVo] at hl
  obtain ⟨c0, c1, c2, c3, c4, c5, c6, c7, rfl⟩ := arr8B hl
  obtain ⟨y0, y1, y2, rfl⟩ := arr3B hlen
  have g : ∀ (i : Nat) (f : Field), (#[_, _, _] : Array Field)[i]? = some f → _ := hf
  have h0 := g 0 _ rfl
  have h1 := g 1 _ rfl
  have h2 := g 2 _ rfl
  have k3 : Try.prog.cellsOf 3 = 1 := by kernel_rfl
  have k4 := Try.cellsBal
  have k5 := Try.cellsEn
  simp [k3, k4, k5] at h0 h1 h2
  obtain ⟨a0, e0, _, w0⟩ := DataW.trod_int Try.underlying3 h0
  obtain ⟨r, m, e1, w1, w2⟩ := bal_of_trod h1
  simp at e0 e1
  subst e0
  obtain ⟨rfl, rfl⟩ := e1
  obtain ⟨o, e2, ho⟩ := en_sizedB h2 (fun m hm => hw m (by
    rw [hxe]
    simp only [DataW.weights, Try.underlying98]
    exact DataW.weights_mem_each (j := 2) rfl rfl _ hm))
  simp [EnM.cells] at e2
  obtain ⟨rfl, rfl, rfl, rfl, rfl⟩ := e2
  exact ⟨⟨a0, (r, m), o⟩, rfl, ⟨ho, in64B_wf w0, w1, w2⟩⟩
set_option maxRecDepth 100000 in
theorem open_vos {H : Type} {enc : TypeId × Value → H} {w : World} {base : Nat} {held : Bool} {ao : Option Addr} {len cap : Nat} {d : DataW H} {p : List MemPlace} (h : DataW.Trod enc Try.prog w base (fun _ => true) held 67 (.slice ao len cap) d p)
    (hw : ∀ es sp, d = .slice es sp → ∀ x ∈ es, ∀ n ∈ x.weights Try.prog 98, n ≤ reachBytes) :
    ∃ os : List VoM, os.length = len ∧ (HeldVo w ao os ∧ len ≤ cap) ∧ (len = 0 ∨ ∃ es sp, d = .slice es sp ∧ es.length = len) := by
  obtain ⟨fuel, hf⟩ := h
  rcases open_slice Try.underlying67 hf with ⟨hcs, hx⟩ | ⟨a, l, c, m, n, Dd, Pl, hcs, _, hl, hm, hmm, hx, hall⟩
  · simp [Value.cells] at hcs
    obtain ⟨rfl, rfl, rfl⟩ := hcs
    exact ⟨[], rfl, ⟨⟨fun o ho => (by cases ho), .inl rfl⟩, Nat.le_refl _⟩, .inl rfl⟩
  · simp [Value.cells] at hcs
    obtain ⟨rfl, rfl, rfl⟩ := hcs
    rw [Try.cellsVo] at hall
    have hlm : len ≤ m := by rw [hmm]; split <;> omega
    simp only [Prod.mk.injEq] at hx
    obtain ⟨O, hO⟩ := choose_lt (α := VoM) (n := len) (p := fun i o => VoOk w o ∧ w.cells? base (a.add (i * 8)) 8 = some o.cells) (fun i hi => by
      obtain ⟨cs', h1, h2⟩ := hall i (by omega)
      obtain ⟨o, rfl, hok⟩ := vo_sized h2 (hw _ _ hx.1 _ (List.mem_map.2 ⟨i, List.mem_range.2 hi, rfl⟩))
      exact ⟨o, hok, h1⟩)
    refine ⟨(List.range len).map O, by simp, ⟨⟨fun o ho => ?_, ?_⟩, hl⟩, .inr ⟨_, _, hx.1, by simp⟩⟩
    · obtain ⟨i, hi, rfl⟩ := List.mem_map.1 ho
      exact (hO i (List.mem_range.1 hi)).1
    · by_cases h0 : len = 0
      · left
        simp [h0]
      · right
        have hc0 : ∀ i, i < len → ∀ c u, (O i).cells[c]? = some u → w.cell? (a.add (i * 8 + c)) = some u := by
          intro i hi c u hu
          have hc := (World.cells?_some (hO i hi).2).2.2 c (by have := (List.getElem?_eq_some_iff.1 hu).1; simpa [VoM.cells] using this)
          rw [add_add] at hc
          rw [hc, hu]
        obtain ⟨b, off, spot⟩ := a
        have hz := hc0 0 (by omega) 0 _ rfl
        have hspot : spot = none := by simpa [Addr.add] using World.cell?_spot hz
        subst hspot
        have hlt := World.block_lt_of_cell? w _ hz
        refine ⟨b, off, rfl, by simpa [Addr.add] using hlt, fun j hj c u hu => ?_⟩
        have hj' : j < len := by simpa using hj
        have := hc0 j hj' c u (by simpa using hu)
        rwa [Addr.add_lit, ← Nat.add_assoc] at this
end Go.Proofs.Ytgghfmdciohinaa
