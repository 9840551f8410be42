/-
  The reader of lists of strings: CodecLists's own item reader (which counts its calls and may stop) and codec.ReadList over bytes that are a list's form: what stops an item stops the list, else all items are read; conditions: lengths stay small, the counter's block is apart from the bytes'.
-/
import Derived.Test.YtmokelmeihmeiaaListsB
namespace Go.Proofs.Ytmokelmeihmeiaa
open Go.RowKit
attribute [local go_sem ↓] Go.wp_at_zero Go.wp_at_succ

theorem Held.shrink {w : World} {ao : Option Addr} {len cap : Nat} {bs : List Int} (h : Held w ao len cap bs) : Held w ao len len bs :=
  ⟨h.hlen, Nat.le_refl _, Nat.le_trans h.hcap h.hmax, fun hn => (by have := h.nil hn; have := h.hcap; omega), h.byte, h.cell, h.old⟩

theorem Held.grown {w w' : World} {ao : Option Addr} {len cap g : Nat} {bs : List Int} (h : Held w ao len cap bs) (hg : w.grownBy w' (some g)) (hne : ∀ ad, ao = some ad → ad.block ≠ g) : Held w' ao len cap bs := by
  refine ⟨h.hlen, h.hcap, h.hmax, h.nil, h.byte, fun ad ha j hj => ?_, fun ad ha hp => Nat.lt_of_lt_of_le (h.old ad ha hp) hg.size⟩
  have hb : (ad.add j).block = ad.block := by unfold Addr.add; split <;> rfl
  exact hg.cell (h.cell ad ha j hj) (by rw [hb]; intro e; exact hne ad ha (Option.some.inj e))

theorem grown_set {w wr : World} {g : Nat} (h : w.grownBy wr (some g)) (u : Value) : w.grownBy (wr.setCell ⟨g, 0, none⟩ u) (some g) :=
  ⟨h.os, h.tape, h.output, Nat.le_trans h.size (by simp [World.setCell]), fun k hk hne => by
    rw [Below.heap_setCell _ _ _ _ (by intro e; subst e; exact hne rfl)]
    exact h.block k hk hne⟩
theorem grown_then {w a b : World} {g : Nat} {row : Option Nat} (h : w.grownBy a (some g)) (k : a.grownBy b row) (hr : ∀ r, row = some r → w.heap.size ≤ r) : w.grownBy b (some g) :=
  ⟨k.os.trans h.os, k.tape.trans h.tape, k.output.trans h.output, Nat.le_trans h.size k.size, fun i hi hne => by
    rw [k.block i (Nat.lt_of_lt_of_le hi h.size) (fun e => by have := hr i e.symm; omega)]
    exact h.block i hi hne⟩
theorem one_kept {a b : World} {g : Nat} {o : Obj} {row : Option Nat} (h : a.heap[g]? = some o) (k : a.grownBy b row) (hne : some g ≠ row) : b.heap[g]? = some o := by
  rw [k.block g (lt_of_block h) hne]
  exact h

theorem run_cut_lhm {P : Program} (W : World) (t e : TypeId) (ht : P.underlying t = some (.slice e)) (hz : ∀ w, (Go.sizeOf e).run P w = .ok 1 w) (ao : Option Addr) (len cap l : Nat) (L : Int) (hL : L = (l : Int)) (hl : l ≤ len) (hc : len ≤ cap) :
    (Instr.slice t (.slice ao len cap) (some (.int .i64 L)) (some (.int .i64 (len : Int))) (some (.int .i64 (len : Int)))).run P W = .ok (.slice (cutAt ao len l) (len - l) (len - l)) W := by
  subst hL
  have ht' : P.underlying t = some (.slice (P.elem t)) := by simp [Program.elem, ht]
  have he : P.elem t = e := by simp [Program.elem, ht]
  rw [run_slice_lhm W t _ _ _ ht' .i64 .i64 .i64 _ _ _ (by omega) (by omega) (by omega) (by omega), he, hz]
  simp [Result.andThen, sliced, cutAt]

theorem read_stop (ao : Option Addr) (len cap ga gs : Nat) (A : Int) (w : World) (ha : w.heap[ga]? = some (.cells #[.int .i64 A] 3 (0, 0))) (hs : w.heap[gs]? = some (.cells #[.int .i64 A] 3 (0, 0))) :
    Calls Try.prog 22 #[.slice ao len cap, .pointer (some ⟨ga, 0, none⟩), .pointer (some ⟨gs, 0, none⟩)] w fun e w' => e = .returned (.tuple #[.string ByteArray.empty, .int .i64 0, .int .i64 5]) ∧ w' = w := by
  have c1 := cell_of_one ha
  have c2 := cell_of_one hs
  clear ha hs
  go_enter Try.func22, Try.ntmps22
  go_wp2
  go_ret3
  exact ⟨rfl, rfl⟩

theorem read_go (ao : Option Addr) (len cap ga gs : Nat) (bs : List Int) (A St : Int) (w : World) (ha : w.heap[ga]? = some (.cells #[.int .i64 A] 3 (0, 0))) (hs : w.heap[gs]? = some (.cells #[.int .i64 St] 3 (0, 0))) (hne : A ≠ St) (h0 : 0 ≤ A) (h1 : A ≤ 1000000000)
    (hh : Held (w.setCell ⟨ga, 0, none⟩ (.int .i64 (A + 1))) ao len cap bs) :
    Calls Try.prog 22 #[.slice ao len cap, .pointer (some ⟨ga, 0, none⟩), .pointer (some ⟨gs, 0, none⟩)] w fun e w' => e = .returned (.tuple #[.string (rdText bs 1099511627776).1, .int .i64 (rdText bs 1099511627776).2.1, .int .i64 (rdText bs 1099511627776).2.2]) ∧ w' = w.setCell ⟨ga, 0, none⟩ (.int .i64 (A + 1)) := by
  have c1 := cell_of_one ha
  have c2 := cell_of_one hs
  have f1 := free_of_one ha
  have hb : (A == St) = false := beq_eq_false_iff_ne.2 hne
  have HR := hid (readText_any ao len cap bs 1099511627776 _ hh (by omega) (by omega))
  clear ha hs hh
  go_enter Try.func22, Try.ntmps22
  go_wp2_with fail
  refine HR.out.mono ?_
  rintro e w' ⟨rfl, rfl⟩
  go_wp2
  go_ret3
  exact ⟨rfl, rfl⟩
end Go.Proofs.Ytmokelmeihmeiaa
