/-
  Package disk: files behind a map alone; a slice of bytes cloned.
-/
import Derived.Test.YtjfohnkfcfifeaaRzB
import Derived.Test.YtjfohnkfcfifeaaApps
import Derived.Test.YtjfohnkfcfifeaaDiskJ
namespace Go.Proofs.Ytjfohnkfcfifeaa
open Go.RowKit Go.Maps

/-- The files behind a map. -/
structure FilesAt (w : World) (bm : Nat) (fs : List Fl) (D : DataW Value) : Prop where
  map : w.ownsMap Try.prog 9 valR bm fs.length D
  cnt : Maps.size D = fs.length
  look : ∀ s : ByteArray, look D (key s) = (ffind fs s).map Fl.at
  files : ∀ f ∈ fs, FlAt w f
  apart : fs.Pairwise (fun f g => ∀ i, f.Foot i → ¬ g.Foot i)
  names : fs.Pairwise (fun f g => f.name ≠ g.name)
  good : ∀ f ∈ fs, nameS f.name = true
  few : fs.length ≤ 64
section
variable {w w' : World} {p bm : Nat} {size calls : Int} {fs : List Fl} {D : DataW Value}
theorem FilesAt.turned {F : Nat → Prop} (h : FilesAt w bm fs D) (ht : Turns F w w') (h1 : ¬ F bm) (h2 : ∀ f ∈ fs, ∀ i, f.Foot i → ¬ F i) : FilesAt w' bm fs D :=
  ⟨ht.map h.map h1, h.cnt, h.look, fun f hf => (h.files f hf).turned ht (h2 f hf), h.apart, h.names, h.good, h.few⟩
theorem FilesAt.below (h : FilesAt w bm fs D) (hb : Below w.heap.size w w') : FilesAt w' bm fs D := h.turned (F := fun _ => False) (Turns.of_below hb (Nat.le_refl _)) (fun h => h) (fun _ _ _ _ h => h)
theorem FilesAt.disk (h : FilesAt w bm fs D) (hb : Blk w p 51 [.int .i64 size, .map (some bm), .int .i64 calls]) (hr : (total fs : Int) ≤ size) (hg : size ≤ 268435456) (hc : -9223372036854775808 ≤ calls ∧ calls ≤ 9223372036854775807) : DiskAt w p bm size calls fs D :=
  ⟨hb, h.map, h.cnt, h.look, h.files, h.apart, h.names, h.good, h.few, hr, hg, hc⟩
theorem FilesAt.foot_m (h : FilesAt w bm fs D) {f : Fl} (hf : f ∈ fs) : ∀ i, f.Foot i → i ≠ bm := by
  rintro i (rfl | hi) e
  · exact (h.files f hf).blk.not_map h.map e
  · rw [e] at hi
    exact row_not_map (h.files f hf).row h.map hi.symm
theorem FilesAt.add (h : FilesAt w bm fs D) {f : Fl} (hf : ffind fs f.name = none) (hg : nameS f.name = true) (hfew : fs.length < 64) (hat : FlAt w' f) (hmap : w'.ownsMap Try.prog 9 valR bm (fs.length + 1) (D.put (key f.name) (.held f.at))) (ht : Turns (fun i => i = bm) w w') (hF : ∀ g ∈ fs, ∀ i, g.Foot i → ¬ f.Foot i) :
    FilesAt w' bm (fs ++ [f]) (D.put (key f.name) (.held f.at)) := by
  have hkl : WideAt.IsKeyLit (key f.name) := by simp [key, WideAt.IsKeyLit]
  have hhas : Maps.has D (key f.name) = false := by rw [has_look (allHeld_of h.map), h.look, hf]; rfl
  refine ⟨?_, ?_, fun s => ?_, fun g hg => ?_, ?_, ?_, fun g hg' => ?_, ?_⟩
  · simpa using hmap
  · rw [size_put (h.map.tidy Try.keyedStr), hhas, h.cnt]
    simp
  · rw [ffind_snoc fs f hf]
    by_cases e : s = f.name
    · subst e
      rw [if_pos rfl, look_put_same h.map.isMap hkl]
      rfl
    · rw [if_neg e, look_put_other (fun e' => e (key_inj e')), h.look]
  · rcases List.mem_append.1 hg with hg | hg
    · exact (h.files g hg).turned ht (fun i hi => h.foot_m hg i hi)
    · simp at hg
      subst hg
      exact hat
  · rw [List.pairwise_append]
    refine ⟨h.apart, by simp, fun a ha b hb i hi hbi => ?_⟩
    simp at hb
    subst hb
    exact hF a ha i hi hbi
  · rw [List.pairwise_append]
    refine ⟨h.names, by simp, fun a ha b hb => ?_⟩
    simp at hb
    subst hb
    exact ffind_none hf a ha
  · rcases List.mem_append.1 hg' with hg' | hg'
    · exact h.good g hg'
    · simp at hg'
      subst hg'
      exact hg
  · simp
    omega
theorem eql_bytesZ (W : World) (a : Addr) (n c : Nat) : (binOp .eql 31 (.slice (some a) n c) (.slice none 0 0)).run Try.prog W = .ok (.bool false) W := by kernel_rfl
theorem eql_bytesN (W : World) : (binOp .eql 31 (.slice none 0 0) (.slice none 0 0)).run Try.prog W = .ok (.bool true) W := by kernel_rfl
theorem ownU_madeZ (w : World) (B : Nat) (hB : B ≤ w.heap.size) : (w.alloc (.cells #[] 5)).ownsRow B 5 1 (.slice (some ⟨w.heap.size, 0, none⟩) 0 0) 0 (nums []) :=
  ⟨rfl, .inr ⟨w.heap.size, 0, #[], rfl, hB, World.alloc_heap_new w _, Nat.le_refl _, Nat.zero_le _, rfl, rfl⟩⟩
set_option maxRecDepth 100000 in
theorem cloneB_any (w : World) (ao : Option Addr) (n cap : Nat) (bs : List Int) (hh : Held w ao n cap bs) (hl : n ≤ 140737488355328) :
    Calls Try.prog 19 #[.slice ao n cap] w fun e w' => ∃ v, e = .returned v ∧ w'.ownsRow w.heap.size 5 1 v n (nums bs) ∧ Below w.heap.size w w' := by
  obtain ⟨iU, hiU, hz0, hz1, hz2⟩ := info_parts Try.info5
  cases ao with
  | none =>
    have hc := hh.nil rfl
    have hn : n = 0 := by have := hh.hcap; omega
    subst hc hn
    have hbs : bs = [] := List.eq_nil_of_length_eq_zero hh.hlen
    subst hbs
    have he := fun W => eql_bytesN W
    clear hh
    go_enter Try.func19, Try.ntmps19
    go_wp2
    go_ret
    exact ⟨_, rfl, World.ownsRow_nil _ _ _ _, Below.refl _ _⟩
  | some ad =>
    have he := fun W => eql_bytesZ W ad n cap
    have HH := hid (hh.below ((Below.refl _ w).alloc (Nat.le_refl _) (.cells #[] 5)) (Nat.le_refl _))
    have HO := hid (ownU_madeZ w w.heap.size (Nat.le_refl _))
    have HBA : Hid (Below w.heap.size w (w.alloc (.cells #[] 5))) := (Below.refl _ w).alloc (Nat.le_refl _) _
    clear hh
    go_enter Try.func19, Try.ntmps19
    go_wp2_with (
      at_builtin
      refine wpList_append_held _ rfl _ _ 31 rfl w.heap.size 5 iU Try.underlying31 hiU hz0 hz1 hz2 _ 0 [] rfl HO.out (by intro q hq; cases hq) (some ad) n cap bs rfl HH.out (by omega) (by simp) ?_
      intro bo cp W1 hown hheld hbel hgrew
      rw [Nat.zero_add] at hown ⊢
      rw [List.nil_append] at hown
      have HO1 := hid hown
      have HB1 : Hid (Below w.heap.size w W1) := HBA.out.trans hbel
      clear hown hheld hbel hgrew)
    go_wp2
    go_ret
    exact ⟨_, rfl, HO1.out, HB1.out⟩
end
end Go.Proofs.Ytjfohnkfcfifeaa
