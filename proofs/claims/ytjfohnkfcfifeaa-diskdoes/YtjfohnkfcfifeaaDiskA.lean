/-
  Package disk: what a disk is in memory ('DiskAt'), and the contracts of closed, Off, Stop, New, Read.
-/
import Derived.Test.YtjfohnkfcfifeaaRows
import Derived.Test.YtjfohnkfcfifeaaBlk
import Derived.Test.YtjfohnkfcfifeaaNames
namespace Go.Proofs.Ytjfohnkfcfifeaa
open Go.RowKit Go.Maps

/-- A file: its name, the block of its struct, the slice of its bytes, the bytes, how many are sure. -/
structure Fl where
  name : ByteArray
  ptr : Nat
  v : Value
  bytes : List Int
  sure : Nat
/-- The blocks that a file has. -/
def Fl.Foot (f : Fl) (i : Nat) : Prop := i = f.ptr ∨ f.v.ownBlock = some i
def Fl.at (f : Fl) : Value := .pointer (some ⟨f.ptr, 0, none⟩)
structure FlAt (w : World) (f : Fl) : Prop where
  blk : Blk w f.ptr 60 [f.v, .int .i64 f.sure]
  row : w.ownsRow 0 5 1 f.v f.bytes.length (nums f.bytes)
  byte : AllB f.bytes
  sure : f.sure ≤ f.bytes.length
theorem FlAt.foot_lt {w : World} {f : Fl} (h : FlAt w f) : ∀ i, f.Foot i → i < w.heap.size := by
  rintro i (rfl | hi)
  · exact h.blk.lt
  · exact ownsRow_lt h.row hi
theorem FlAt.turned {w w' : World} {f : Fl} {F : Nat → Prop} (h : FlAt w f) (ht : Turns F w w') (hF : ∀ i, f.Foot i → ¬ F i) : FlAt w' f :=
  ⟨ht.blk h.blk (hF _ (.inl rfl)), ht.row h.row (fun g hg => hF g (.inr hg)), h.byte, h.sure⟩

def key (s : ByteArray) : Lit := .string s.data.toList
theorem key_inj {s t : ByteArray} (h : key s = key t) : s = t := by
  unfold key at h
  simp at h
  exact ByteArray.ext h
/-- The file of that name. -/
def ffind (fs : List Fl) (s : ByteArray) : Option Fl := fs.find? (fun f => decide (f.name = s))
/-- How many bytes all files have. -/
def total : List Fl → Nat
  | [] => 0
  | f :: r => f.bytes.length + total r

/-- A disk in memory: its block p, its map's block bm. -/
structure DiskAt (w : World) (p bm : Nat) (size calls : Int) (fs : List Fl) (D : DataW Value) : Prop where
  blk : Blk w p 51 [.int .i64 size, .map (some bm), .int .i64 calls]
  map : w.ownsMap Try.prog 9 valR bm fs.length D
  cnt : Maps.size D = fs.length
  look : ∀ s : ByteArray, look D (key s) = (ffind fs s).map Fl.at
  files : ∀ f ∈ fs, FlAt w f
  apart : fs.Pairwise (fun f g => ∀ i, f.Foot i → ¬ g.Foot i)
  names : fs.Pairwise (fun f g => f.name ≠ g.name)
  good : ∀ f ∈ fs, nameS f.name = true
  few : fs.length ≤ 64
  room : (total fs : Int) ≤ size
  big : size ≤ 268435456
  calls : -9223372036854775808 ≤ calls ∧ calls ≤ 9223372036854775807
/-- The blocks that a disk has. -/
def DFoot (p bm : Nat) (fs : List Fl) (i : Nat) : Prop := i = p ∨ i = bm ∨ ∃ f ∈ fs, f.Foot i

section
variable {w w' : World} {p bm : Nat} {size calls : Int} {fs : List Fl} {D : DataW Value}
theorem DiskAt.turned {F : Nat → Prop} (h : DiskAt w p bm size calls fs D) (ht : Turns F w w') (hF : ∀ i, DFoot p bm fs i → ¬ F i) : DiskAt w' p bm size calls fs D :=
  ⟨ht.blk h.blk (hF p (.inl rfl)), ht.map h.map (hF bm (.inr (.inl rfl))), h.cnt, h.look, fun f hf => (h.files f hf).turned ht (fun i hi => hF i (.inr (.inr ⟨f, hf, hi⟩))), h.apart, h.names, h.good, h.few, h.room, h.big, h.calls⟩
theorem DiskAt.foot_lt (h : DiskAt w p bm size calls fs D) : ∀ i, DFoot p bm fs i → i < w.heap.size := by
  rintro i (rfl | rfl | ⟨f, hf, hi⟩)
  · exact h.blk.lt
  · exact h.map.lt
  · exact (h.files f hf).foot_lt i hi
theorem DiskAt.below {B : Nat} (h : DiskAt w p bm size calls fs D) (hb : Below B w w') (hB : w.heap.size ≤ B) : DiskAt w' p bm size calls fs D :=
  h.turned (F := fun _ => False) (Turns.of_below hb hB) (fun _ _ h => h)
theorem DiskAt.alloc (h : DiskAt w p bm size calls fs D) (o : Obj) : DiskAt (w.alloc o) p bm size calls fs D := h.turned (F := fun _ => False) ((Turns.refl _ _).alloc o) (fun _ _ h => h)
theorem FlAt.dn {f : Fl} (h : FlAt w f) (q : Nat) : FlAt (w.drewN q) f := ⟨h.blk, h.row, h.byte, h.sure⟩
theorem DiskAt.drewN (h : DiskAt w p bm size calls fs D) (q : Nat) : DiskAt (w.drewN q) p bm size calls fs D :=
  ⟨h.blk, h.map, h.cnt, h.look, fun f hf => (h.files f hf).dn q, h.apart, h.names, h.good, h.few, h.room, h.big, h.calls⟩
theorem DiskAt.drew (h : DiskAt w p bm size calls fs D) : DiskAt w.drew p bm size calls fs D := h.drewN 1
end

theorem Try.keyedStr : Keyed Try.prog 9 := string_keyed Try.underlying9
theorem Try.zeroFl (w : World) : (zeroValue 57).run Try.prog w = .ok (.pointer none) w := by kernel_rfl
theorem Try.keyStr {s : ByteArray} (h : s.size ≤ maxLen) : keyOf Try.prog 9 (.string s) = some (key s) := by
  have hk := Try.underlying9
  simp [keyOf, hk, mapKey, h, key]
theorem deql_map (W : World) (b : Nat) : (binOp .eql 49 (.map (some b)) (.map none)).run Try.prog W = .ok (.bool false) W := by kernel_rfl

theorem dclosed_nil (w : World) : Calls Try.prog 18 #[.pointer none] w fun e w' => e = .returned (.bool true) ∧ w' = w := by
  go_enter Try.func18, Try.ntmps18
  go_wp2
  go_ret
  exact ⟨rfl, rfl⟩
theorem dclosed_no (w : World) (p b : Nat) (hc : w.cell? ⟨p, 1, none⟩ = some (.map (some b))) : Calls Try.prog 18 #[.pointer (some ⟨p, 0, none⟩)] w fun e w' => e = .returned (.bool false) ∧ w' = w := by
  go_enter Try.func18, Try.ntmps18
  have he := fun W => deql_map W b
  go_wp2
  go_ret
  exact ⟨rfl, rfl⟩
section
variable {w : World} {p bm : Nat} {size calls : Int} {fs : List Fl} {D : DataW Value}
theorem DiskAt.closed (h : DiskAt w p bm size calls fs D) : Calls Try.prog 18 #[.pointer (some ⟨p, 0, none⟩)] w fun e w' => e = .returned (.bool false) ∧ w' = w := dclosed_no w p bm (h.blk.cell (i := 1) rfl)

theorem off_nil (w : World) : Calls Try.prog 37 #[.pointer none] w fun e w' => e = .returned (.bool false) ∧ w' = w := by
  go_enter Try.func37, Try.ntmps37
  go_wp2_with fail
  refine (dclosed_nil _).mono ?_
  rintro e w' ⟨rfl, rfl⟩
  go_wp2
  go_ret
  exact ⟨rfl, rfl⟩
theorem off_any (h : DiskAt w p bm size calls fs D) : Calls Try.prog 37 #[.pointer (some ⟨p, 0, none⟩)] w fun e w' => e = .returned (.bool (calls == 0)) ∧ w' = w := by
  have HCL := hid h.closed
  have hc := h.blk.cell (i := 2) rfl
  clear h
  go_enter Try.func37, Try.ntmps37
  go_wp2_with fail
  refine HCL.out.mono ?_
  rintro e w' ⟨rfl, rfl⟩
  go_wp2
  go_ret
  exact ⟨rfl, rfl⟩
theorem stop_nil (w : World) (x : Int) : Calls Try.prog 33 #[.pointer none, .int .i64 x] w fun e w' => e = .returned (.tuple #[]) ∧ w' = w := by
  go_enter Try.func33, Try.ntmps33
  go_wp2_with fail
  refine (dclosed_nil _).mono ?_
  rintro e w' ⟨rfl, rfl⟩
  go_wp2
  exact bodyPost_ret (results_none rfl _ _ _) rfl ⟨rfl, rfl⟩

theorem dnew_bad (w : World) (x : Int) (h : x < 0 ∨ 268435456 < x) : Calls Try.prog 5 #[.int .i64 x] w fun e w' => e = .returned (.tuple #[.pointer none, .int .i64 1]) ∧ w' = w := by
  by_cases h0 : x < 0
  · go_enter Try.func5, Try.ntmps5
    go_wp2
    go_ret2
    exact ⟨rfl, rfl⟩
  · have h1 : 268435456 < x := by omega
    go_enter Try.func5, Try.ntmps5
    go_wp2
    go_ret2
    exact ⟨rfl, rfl⟩
theorem dnew_good (w : World) (x : Int) (h0 : ¬ x < 0) (h1 : ¬ 268435456 < x) : Calls Try.prog 5 #[.int .i64 x] w fun e w' => e = .returned (.tuple #[.pointer (some ⟨w.heap.size + 1, 0, none⟩), .int .i64 0]) ∧ w' = (w.alloc (.map #[] 0)).alloc (.cells #[.int .i64 x, .map (some w.heap.size), .int .i64 (-1)] 51) := by
  go_enter Try.func5, Try.ntmps5
  have hmm := @run_makeMap Try.prog
  go_wp2
  go_ret2
  exact ⟨rfl, rfl⟩
theorem DiskAt.new (w : World) (x : Int) (h0 : 0 ≤ x) (h1 : x ≤ 268435456) : DiskAt ((w.alloc (.map #[] 0)).alloc (.cells #[.int .i64 x, .map (some w.heap.size), .int .i64 (-1)] 51)) (w.heap.size + 1) w.heap.size x (-1) [] (.map []) := by
  refine ⟨?_, (World.ownsMap_made w _ _ _).alloc _, rfl, fun s => rfl, fun f hf => (by cases hf), .nil, .nil, fun f hf => (by cases hf), (by simp), (by simpa [total] using h0), h1, (by omega)⟩
  have := Blk.new (w.alloc (.map #[] 0)) 51 [.int .i64 x, .map (some w.heap.size), .int .i64 (-1)]
  rw [World.size_alloc] at this
  exact this

theorem read_nil (w : World) (s : ByteArray) : Calls Try.prog 16 #[.pointer none, .string s] w fun e w' => e = .returned (.tuple #[.string ⟨#[]⟩, .int .i64 6]) ∧ w' = w := by
  go_enter Try.func16, Try.ntmps16
  go_wp2_with fail
  refine (dclosed_nil _).mono ?_
  rintro e w' ⟨rfl, rfl⟩
  go_wp2
  go_ret2
  exact ⟨rfl, rfl⟩
theorem flAt_held {w : World} {f : Fl} (h : FlAt w f) : ∃ ao cap, f.v = .slice ao f.bytes.length cap ∧ Held w ao f.bytes.length cap f.bytes := held_of_own h.row h.byte
theorem eql_ptr_nil (W : World) (n : Nat) : (binOp .eql 57 (.pointer (some ⟨n, 0, none⟩)) (.pointer none)).run Try.prog W = .ok (.bool false) W := by kernel_rfl

theorem ffind_mem {fs : List Fl} {s : ByteArray} {f : Fl} (h : ffind fs s = some f) : f ∈ fs ∧ f.name = s := ⟨List.mem_of_find?_eq_some h, by simpa using List.find?_some h⟩

theorem read_none (h : DiskAt w p bm size calls fs D) (s : ByteArray) (hs : s.size ≤ maxLen) (hf : ffind fs s = none) :
    Calls Try.prog 16 #[.pointer (some ⟨p, 0, none⟩), .string s] w fun e w' => e = .returned (.tuple #[.string ⟨#[]⟩, .int .i64 4]) ∧ w' = w := by
  have HCL := hid h.closed
  have hc1 := h.blk.cell (i := 1) rfl
  have HM := hid h.map
  have HKEY := hid (Try.keyStr hs)
  have HV : Hid ((look D (key s)).getD (.pointer none) = .pointer none) := by show _ = _; rw [h.look, hf]; rfl
  clear h hf
  go_enter Try.func16, Try.ntmps16
  go_wp2_with fail
  refine HCL.out.mono ?_
  rintro e w' ⟨rfl, h'⟩
  subst h'
  go_wp2_with (at_lookup; refine wpList_look _ rfl _ _ 49 rfl 9 57 Try.keyedStr Try.underlying49 (.pointer none) (Try.zeroFl _) bm _ D rfl HM.out _ (key s) rfl HKEY.out _ HV.out ?_)
  go_ret2
  exact ⟨rfl, rfl⟩
theorem read_any (h : DiskAt w p bm size calls fs D) (s : ByteArray) (hs : s.size ≤ maxLen) {f : Fl} (hf : ffind fs s = some f) :
    Calls Try.prog 16 #[.pointer (some ⟨p, 0, none⟩), .string s] w fun e w' => e = .returned (.tuple #[.string (strOfNums f.bytes), .int .i64 0]) ∧ w' = w := by
  have HCL := hid h.closed
  have hc1 := h.blk.cell (i := 1) rfl
  have HM := hid h.map
  have HKEY := hid (Try.keyStr hs)
  have HV : Hid ((look D (key s)).getD (.pointer none) = .pointer (some ⟨f.ptr, 0, none⟩)) := by show _ = _; rw [h.look, hf]; rfl
  have hfa := h.files f (ffind_mem hf).1
  obtain ⟨ao, cap, hv, hheld⟩ := flAt_held hfa
  have hcf := hfa.blk.cell (i := 0) rfl
  rw [hv] at hcf
  have hcv := run_convert_held (P := Try.prog) hheld 31 5 9 Try.underlying31 Try.underlying5 Try.underlying9
  have hep := fun W => eql_ptr_nil W f.ptr
  clear h hf hfa hheld hv
  go_enter Try.func16, Try.ntmps16
  go_wp2_with fail
  refine HCL.out.mono ?_
  rintro e w' ⟨rfl, h'⟩
  subst h'
  go_wp2_with (at_lookup; refine wpList_look _ rfl _ _ 49 rfl 9 57 Try.keyedStr Try.underlying49 (.pointer none) (Try.zeroFl _) bm _ D rfl HM.out _ (key s) rfl HKEY.out _ HV.out ?_)
  go_ret2
  exact ⟨rfl, rfl⟩
end
end Go.Proofs.Ytjfohnkfcfifeaa
