/-
  Package router: a session in memory ('SeAt'): New, Last, Token, Target, Fail, Tries, Done, closed; strconv.Itoa in worlds where its table is laid ('TbR').
-/
import Derived.Test.YtppllbdoihfcbaaDoorRows
import Derived.Test.YtppllbdoihfcbaaDoorIntsA
import Derived.Test.YtppllbdoihfcbaaDoorNames
import Derived.Deep.RegionHeld3
import Derived.Shelf.Strconv.Itoa3
import Derived.Shelf.Lay
import Derived.Lib.ItoaLen
import Derived.Laws.Concat
import Derived.Ground.NamesProg
namespace Go.Proofs
open Go.Shelf Go.RowKit Go.Lib Go.Sort
shelf_lay LaysM.n171 Nm 171 at Tryd as YtppllbdoihfcbaaDoor.itoaR
end Go.Proofs
namespace Go.Proofs.YtppllbdoihfcbaaDoor
open Go.RowKit Go.Maps

theorem btR {a b c : World} (h : Below a.heap.size a b) (k : Below b.heap.size b c) : Below a.heap.size a c := h.trans (k.mono h.size)
/-- The table of powers lies where it should. -/
structure TbR (w : World) : Prop where
  tab : Lib.TabIs Tryd.prog w "internal/strconv.uint64pow10" .u64 Lib.pow10Tab
theorem Tryd.gPow : ∃ g, Tryd.prog.globalNamed "internal/strconv.uint64pow10" = some g := Option.isSome_iff_exists.1 (by kernel_rfl)
theorem TbR.turned {F : Nat → Prop} {w w' : World} (h : TbR w) (ht : Turns F w w') (hF : ∀ g, Tryd.prog.globalNamed "internal/strconv.uint64pow10" = some g → ¬ F g) : TbR w' := by
  obtain ⟨g, hg⟩ := Tryd.gPow
  have h1 := h.tab
  unfold Lib.TabIs World.var? at h1
  rw [hg] at h1
  have hlt : g < w.heap.size := by
    by_cases hh : g < w.heap.size
    · exact hh
    · rw [Option.bind_some, Array.getElem?_eq_none (by omega)] at h1
      cases h1
  refine ⟨?_⟩
  unfold Lib.TabIs World.var?
  rw [hg, Option.bind_some, ht.keeps hlt (hF g hg)]
  exact h1
theorem TbR.below {w w' : World} (h : TbR w) (hb : Below w.heap.size w w') : TbR w' := h.turned (F := fun _ => False) (Turns.of_below hb (Nat.le_refl _)) (fun _ _ h => h)
/-- The block of the table is none of F's. -/
theorem TbR.old {w : World} (h : TbR w) : ∀ g, Tryd.prog.globalNamed "internal/strconv.uint64pow10" = some g → g < w.heap.size := by
  intro g hg
  have h1 := h.tab
  unfold Lib.TabIs World.var? at h1
  rw [hg] at h1
  by_cases hh : g < w.heap.size
  · exact hh
  · rw [Option.bind_some, Array.getElem?_eq_none (by omega)] at h1
    cases h1

/-- A number's digits, as a string. -/
def digS (n : Int) : ByteArray := ⟨(Lib.itoa n).toArray⟩
theorem itoaR_any (n : Int) (h0 : -9223372036854775808 ≤ n) (h1 : n ≤ 9223372036854775807) (w : World) (ht : TbR w) : Calls Tryd.prog 28 #[.int .i64 n] w fun e w' => e = .returned (.string (digS n)) ∧ Below w.heap.size w w' := by
  refine (Any.strconv_Itoa YtppllbdoihfcbaaDoor.itoaR n h0 h1 w ht.tab).mono ?_
  rintro e w' ⟨rfl, k, os, rfl⟩
  refine ⟨rfl, rfl, rfl, rfl, ?_, fun j hj => ?_⟩
  · show w.heap.size ≤ (w.heap ++ os).size
    rw [Array.size_append]
    omega
  · show (w.heap ++ os)[j]? = _
    rw [Array.getElem?_append_left hj]
theorem digS_size (n : Int) (h0 : -9223372036854775808 ≤ n) (h1 : n ≤ 9223372036854775807) : (digS n).size ≤ 21 := by
  have h := Lib.itoa_length_le n h0 h1
  unfold digS
  simpa [ByteArray.size] using h
/-- A client's token. -/
def tokR (c k : Int) : ByteArray := ((⟨#[99]⟩ : ByteArray) ++ digS c ++ ⟨#[45]⟩) ++ digS k

/-- A session in memory. -/
structure SeAt (w : World) (p : Nat) (c n k t r : Int) : Prop where
  blk : Blk w p 52 [.int .i64 c, .int .i64 n, .int .i64 k, .int .i64 t, .int .i64 r]
  hc : 0 ≤ c ∧ c ≤ 2147483647
  hn : 1 ≤ n ∧ n ≤ 7
  hk : 0 ≤ k ∧ k ≤ 4611686018427387904
  ht : 0 ≤ t ∧ t < n
  hr : 0 ≤ r ∧ r ≤ 4611686018427387904
section
variable {w w' : World} {p : Nat} {c n k t r : Int}
theorem SeAt.turned {F : Nat → Prop} (h : SeAt w p c n k t r) (ht : Turns F w w') (hF : ¬ F p) : SeAt w' p c n k t r := ⟨ht.blk h.blk hF, h.hc, h.hn, h.hk, h.ht, h.hr⟩
theorem SeAt.below (h : SeAt w p c n k t r) (hb : Below w.heap.size w w') : SeAt w' p c n k t r := h.turned (F := fun _ => False) (Turns.of_below hb (Nat.le_refl _)) (fun h => h)
end

theorem closedR_nil (w : World) : Calls Tryd.prog 27 #[.pointer none] w fun e w' => e = .returned (.bool true) ∧ w' = w := by
  go_enter Tryd.func27, Tryd.ntmps27
  go_wp2
  go_ret
  exact ⟨rfl, rfl⟩
theorem SeAt.closed {w : World} {p : Nat} {c n k t r : Int} (h : SeAt w p c n k t r) : Calls Tryd.prog 27 #[.pointer (some ⟨p, 0, none⟩)] w fun e w' => e = .returned (.bool false) ∧ w' = w := by
  have h1 := h.blk.cell (i := 1) rfl
  have hn : ¬ n = 0 := by have := h.hn; omega
  clear h
  go_enter Tryd.func27, Tryd.ntmps27
  go_wp2
  go_ret
  exact ⟨ret_bool (by simpa using hn), rfl⟩
theorem newR_bad (w : World) (c n : Int) (h : ¬ (0 ≤ c ∧ c ≤ 2147483647 ∧ 1 ≤ n ∧ n ≤ 7)) : Calls Tryd.prog 14 #[.int .i64 c, .int .i64 n] w fun e w' => e = .returned (.tuple #[.pointer none, .int .i64 1]) ∧ w' = w := by
  by_cases h0 : c < 0
  · clear h
    go_enter Tryd.func14, Tryd.ntmps14
    go_wp2
    go_ret2
    exact ⟨rfl, rfl⟩
  · by_cases h1 : 2147483647 < c
    · clear h
      go_enter Tryd.func14, Tryd.ntmps14
      go_wp2
      go_ret2
      exact ⟨rfl, rfl⟩
    · by_cases h2 : n < 1
      · clear h
        go_enter Tryd.func14, Tryd.ntmps14
        go_wp2
        go_ret2
        exact ⟨rfl, rfl⟩
      · have h3 : 7 < n := by omega
        clear h
        go_enter Tryd.func14, Tryd.ntmps14
        go_wp2
        go_ret2
        exact ⟨rfl, rfl⟩
theorem newR_good (w : World) (c n : Int) (h : 0 ≤ c ∧ c ≤ 2147483647 ∧ 1 ≤ n ∧ n ≤ 7) : Calls Tryd.prog 14 #[.int .i64 c, .int .i64 n] w fun e w' => e = .returned (.tuple #[.pointer (some ⟨w.heap.size, 0, none⟩), .int .i64 0]) ∧ SeAt w' w.heap.size c n 0 (c % n) 0 ∧ Below w.heap.size w w' := by
  have h0 : ¬ c < 0 := by omega
  have h1 : ¬ 2147483647 < c := by omega
  have h2 : ¬ n < 1 := by omega
  have h3 : ¬ 7 < n := by omega
  have h4 : ¬ n = 0 := by omega
  have H : Hid (0 ≤ c % n ∧ c % n < n) := ⟨Int.emod_nonneg c h4, Int.emod_lt_of_pos c (by omega)⟩
  have HH := hid h
  clear h
  go_enter Tryd.func14, Tryd.ntmps14
  go_wp2
  go_ret2
  have h := HH.out
  exact ⟨rfl, ⟨Blk.new w _ _, ⟨h.1, h.2.1⟩, h.2.2, by omega, H.out, by omega⟩, (Below.refl _ _).alloc (Nat.le_refl _) _⟩
end Go.Proofs.YtppllbdoihfcbaaDoor
