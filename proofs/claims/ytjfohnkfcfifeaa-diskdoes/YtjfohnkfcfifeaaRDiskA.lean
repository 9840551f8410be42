/-
  The document's disk (pannierref03) in memory: find, Left, Off, did.
-/
import Derived.Test.YtjfohnkfcfifeaaRows
import Derived.Test.YtjfohnkfcfifeaaBlk
import Derived.Laws.ResultCell
namespace Go.Proofs.Ytjfohnkfcfifeaa
open Go.RowKit Go.Maps

theorem ret_intR {k : IntKind} {a b : Int} (h : a = b) : Ending.returned (.int k a) = .returned (.int k b) := by rw [h]
theorem wrapR {x : Int} (h0 : -9223372036854775808 ≤ x) (h1 : x ≤ 9223372036854775807) : wrap64 x = x := by
  unfold wrap64
  omega
/-- A file of the document's disk. -/
structure Rf where
  name : ByteArray
  bytes : ByteArray
  sure : Int
instance : Inhabited Rf := ⟨⟨ByteArray.empty, ByteArray.empty, 0⟩⟩
def Rf.cells (f : Rf) : List Value := [.string f.name, .string f.bytes, .int .i64 f.sure]
def flatR (fs : List Rf) : List Value := fs.flatMap Rf.cells
theorem flatR_get : ∀ {gs : List Rf} {j : Nat} (h : j < gs.length), (flatR gs)[j * 3]? = some (.string gs[j].name) ∧ (flatR gs)[j * 3 + 1]? = some (.string gs[j].bytes) ∧ (flatR gs)[j * 3 + 2]? = some (.int .i64 gs[j].sure)
  | g :: gs, 0, _ => by simp [flatR, Rf.cells]
  | g :: gs, j + 1, h => by
    have hj : j < gs.length := by simpa using h
    have := flatR_get hj
    have e1 : (j + 1) * 3 = j * 3 + 1 + 1 + 1 := by omega
    rw [e1]
    simpa [flatR, Rf.cells] using this
def rtotal : List Rf → Nat
  | [] => 0
  | f :: r => f.bytes.size + rtotal r
theorem rtotal_snoc : ∀ (fs : List Rf) (f : Rf), rtotal (fs ++ [f]) = rtotal fs + f.bytes.size
  | [], f => by simp [rtotal]
  | g :: r, f => by
    rw [List.cons_append, rtotal, rtotal, rtotal_snoc r f]
    omega
theorem rtotal_take {gs : List Rf} {j : Nat} (h : j < gs.length) : rtotal (gs.take (j + 1)) = rtotal (gs.take j) + gs[j].bytes.size := by
  rw [List.take_succ_eq_append_getElem h, rtotal_snoc]
theorem rtotal_le : ∀ (gs : List Rf) (j : Nat), rtotal (gs.take j) ≤ rtotal gs
  | [], j => by simp [rtotal]
  | g :: r, 0 => by simp [rtotal]
  | g :: r, j + 1 => by
    have := rtotal_le r j
    simp only [List.take_succ_cons, rtotal]
    omega
/-- The document's disk in memory: its block x, the slice v of its files. -/
structure RdAt (w : World) (x : Nat) (v : Value) (size : Int) (L : List Rf) (stops : Bool) (calls : Int) : Prop where
  blk : Blk w x 43 [.int .i64 size, v, .bool stops, .int .i64 calls]
  row : w.ownsRow 0 47 3 v L.length (flatR L)
  few : L.length ≤ 64
  room : (rtotal L : Int) ≤ size
  big : size ≤ 268435456
section
variable {w : World} {x : Nat} {v : Value} {size calls : Int} {L : List Rf} {stops : Bool}
theorem RdAt.form (h : RdAt w x v size L stops calls) : ∃ eo cap, v = .slice eo L.length cap ∧ (0 < L.length → ∃ g, eo = some ⟨g, 0, none⟩ ∧ ∀ j (hj : j < L.length), w.cell? ⟨g, j * 3, none⟩ = some (.string L[j].name) ∧ w.cell? ⟨g, j * 3 + 1, none⟩ = some (.string L[j].bytes) ∧ w.cell? ⟨g, j * 3 + 2, none⟩ = some (.int .i64 L[j].sure)) := by
  rcases h.row.2 with ⟨h1, h2⟩ | ⟨g, cap, cur, h1, _⟩
  · exact ⟨none, 0, by rw [h1, h2], fun h0 => by omega⟩
  · refine ⟨some ⟨g, 0, none⟩, cap, h1, fun _ => ⟨g, rfl, fun j hj => ?_⟩⟩
    obtain ⟨a, b, c⟩ := flatR_get hj
    have hob : v.ownBlock = some g := by rw [h1]; rfl
    have c1 := h.row.cells (g := g) hob _ _ a
    have c2 := h.row.cells (g := g) hob _ _ b
    have c3 := h.row.cells (g := g) hob _ _ c
    exact ⟨by simpa [Addr.add_lit] using c1, by simpa [Addr.add_lit] using c2, by simpa [Addr.add_lit] using c3⟩
theorem roff_any (h : RdAt w x v size L stops calls) : Calls Try.prog 38 #[.pointer (some ⟨x, 0, none⟩)] w fun e w' => e = .returned (.bool (stops && (calls == 0))) ∧ w' = w := by
  have c2 := h.blk.cell (i := 2) rfl
  have c3 := h.blk.cell (i := 3) rfl
  clear h
  cases stops with
  | true =>
    go_enter Try.func38, Try.ntmps38
    go_wp2
    go_ret
    exact ⟨rfl, rfl⟩
  | false =>
    go_enter Try.func38, Try.ntmps38
    go_wp2
    go_ret
    exact ⟨rfl, rfl⟩
set_option maxRecDepth 100000 in
theorem rleft_any (h : RdAt w x v size L stops calls) : Calls Try.prog 36 #[.pointer (some ⟨x, 0, none⟩)] w fun e w' => e = .returned (.int .i64 (size - rtotal L)) ∧ w' = w := by
  obtain ⟨eo, cap, rfl, hcl⟩ := h.form
  have c0 := h.blk.cell (i := 0) rfl
  have c1 := h.blk.cell (i := 1) rfl
  have H := hid h
  have HCL := hid hcl
  have hn64 : L.length ≤ 64 := h.few
  obtain ⟨n, hn⟩ : ∃ n, n = L.length := ⟨_, rfl⟩
  rw [← hn] at c1 hn64
  have HN := hid hn
  clear h hcl hn
  go_enter Try.func36, Try.ntmps36
  go_wp2
  go_loop [3, 4] (fun a i => ∃ j : Nat, j ≤ n ∧ i = .int .i64 j ∧ a = .int .i64 (size - rtotal (L.take j))) (fun _ i => n - (intOf i).toNat)
  case atStart => exact ⟨0, by omega, rfl, by simp [rtotal]⟩
  case round =>
    obtain ⟨j, hj, rfl, rfl⟩ := hrel
    by_cases hlt : j < n
    · have hlt' : (j : Int) < (n : Int) := by omega
      have hjt : Hid (j < L.length) := (HN.out ▸ hlt : j < L.length)
      obtain ⟨g, rfl, hcells⟩ := HCL.out (by have := hjt.out; omega)
      obtain ⟨_, d1, _⟩ := hcells j hjt.out
      clear hcells
      have HS := hid (rtotal_take hjt.out)
      have HB := hid (rtotal_le L (j + 1))
      have HW : Hid (wrap64 (size - (rtotal (L.take j) : Int) - ((L[j]'hjt.out).bytes.size : Int)) = size - (rtotal (L.take (j + 1)) : Int)) := by
        have h1 := HB.out
        have h2 := H.out.room
        have h3 := H.out.big
        have h4 := HS.out
        show _ = _
        rw [wrapR (by omega) (by omega)]
        omega
      generalize (L[j]'hjt.out).bytes = str at *
      generalize size - (rtotal (L.take j) : Int) = Y at *
      go_wp2
      go_round
      case rel => exact ⟨j + 1, by omega, by go_num, by rw [← HW.out]⟩
      case measure => simp [intOf]; omega
    · have hlt' : ¬ (j : Int) < (n : Int) := by omega
      have hj' : Hid (j = L.length) := (by have := HN.out; omega : j = L.length)
      go_wp2
      go_ret
      refine ⟨ret_intR ?_, rfl⟩
      rw [hj'.out, List.take_length]
end
end Go.Proofs.Ytjfohnkfcfifeaa
