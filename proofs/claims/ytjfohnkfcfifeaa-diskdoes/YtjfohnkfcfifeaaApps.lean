/-
  strings.Clone answers the same bytes; nothing that was there is written; condition: at most 2^47 bytes.
-/
import Derived.Test.YtjfohnkfcfifeaaRows
import Derived.Test.YtjfohnkfcfifeaaBase
import Derived.Lib.BufferWrite
import Derived.Lib.UnsafeStr
import Derived.Laws.MakeOwn
namespace Go.Proofs.Ytjfohnkfcfifeaa
open Go.RowKit

theorem Try.info5 : (Try.prog.info? 5).map (fun i => (i.zero, i.size, i.bytes)) = some (some (.int .u8 0), 1, 1) := by kernel_rfl

set_option maxRecDepth 100000 in
set_option maxHeartbeats 2000000 in
theorem cloneLite_any (s : ByteArray) (w : World) (hlim : s.size ≤ 140737488355328) :
    Calls Try.prog 47 #[.string s] w fun e w' => e = .returned (.string s) ∧ Below w.heap.size w w' := by
  by_cases h0 : s.size = 0
  · obtain rfl : s = ⟨#[]⟩ := ByteArray.ext (Array.eq_empty_of_size_eq_zero h0)
    go_enter Try.func47, Try.ntmps47
    go_wp2
    go_ret
    exact ⟨rfl, Below.refl _ _⟩
  obtain ⟨i0, hi, hz0, hz1, hz2⟩ := info_parts Try.info5
  have hone : (Try.prog.info? 5).map (·.size) = some 1 := by rw [hi]; simp [hz1]
  have hcells : Try.prog.cellsOf 5 = 1 := by simp [Program.cellsOf, hi, hz1]
  obtain ⟨M, hM⟩ : ∃ M, M = madeCells (Value.int .u8 0).cells ((s.size : Int).toNat * i0.size) := ⟨_, rfl⟩
  have hmk : ∀ W : World, (Instr.makeSlice 31 (.int .i64 (s.size : Int)) (.int .i64 (s.size : Int))).run Try.prog W = .ok (.slice (some ⟨W.heap.size, 0, none⟩) s.size s.size) (W.alloc (.cells M 5)) := fun W => by
    have h := run_make (P := Try.prog) W 31 5 i0 (.int .u8 0) Try.underlying31 hi hz0 .i64 .i64 (s.size : Int) (s.size : Int) (by omega) (by omega) (by rw [hz2]; omega) (by omega)
    rw [← hM] at h
    simpa using h
  have hMs : M.size = s.size := by rw [hM, size_madeCells, hz1]; simp
  clear hM
  have hcp := Lib.run_copy_row_string (P := Try.prog) (w.alloc (.cells M 5)) 31 9 3 5 w.heap.size 0 s.size s.size s M 5 Try.underlying31 hone (heap_alloc_new w _) (Nat.le_refl _) (by omega)
  obtain ⟨Y, hY⟩ : ∃ Y, Y = (M.toList.take 0 ++ Lib.byteCells s.data.toList ++ M.toList.drop (0 + s.size)).toArray := ⟨_, rfl⟩
  rw [← hY] at hcp
  have hYl : Y.toList = Lib.byteCells s.data.toList := by rw [hY]; simp [List.drop_of_length_le (show M.toList.length ≤ s.size by simp; omega)]
  clear hY
  have hYs : Y.size = s.size := by rw [← Array.length_toList, hYl, Lib.byteCells_length, ← Lib.size_eq]
  have hgY : ((w.alloc (.cells M 5)).setRow w.heap.size Y).heap[w.heap.size]? = some (.cells Y 5 (0, 0)) := setRow_heap _ _ M _ 5 (0, 0) (heap_alloc_new w _)
  have hne : s.data.toList ≠ [] := fun e => h0 (by rw [Lib.size_eq, e]; rfl)
  have hUS := Lib.run_unsafeString_row (P := Try.prog) ((w.alloc (.cells M 5)).setRow w.heap.size Y) 84 3 9 5 Try.underlying84 hcells w.heap.size Y.size (by unfold World.shape?; rw [hgY]) s.data.toList hne (by rw [← Lib.size_eq]; omega) (by rw [← Lib.size_eq]; omega)
    (fun j x hx => Lib.cells_of_row hgY Y.size j _ (by rw [List.take_of_length_le (by rw [Array.length_toList]; exact Nat.le_refl _), hYl]; simp [Lib.byteCells, hx]))
  rw [← Lib.size_eq] at hUS
  go_enter Try.func47, Try.ntmps47
  go_wp2
  go_ret
  have hb2 : Below w.heap.size (w.alloc (.cells M 5)) ((w.alloc (.cells M 5)).setRow w.heap.size Y) := ⟨rfl, rfl, rfl, by simp, fun k hk => setRow_other _ _ _ _ (by omega)⟩
  exact ⟨rfl, Lib.below_freeze (((Below.refl _ w).alloc (Nat.le_refl _) _).trans hb2) (p := ⟨w.heap.size, 0, none⟩) (Nat.le_refl _) _⟩

theorem clone_any (s : ByteArray) (w : World) (hlim : s.size ≤ 140737488355328) : Calls Try.prog 22 #[.string s] w fun e w' => e = .returned (.string s) ∧ Below w.heap.size w w' := by
  go_enter Try.func22, Try.ntmps22
  go_wp2_with fail
  refine (cloneLite_any s _ hlim).mono ?_
  rintro e w' ⟨rfl, hb⟩
  go_wp2
  go_ret
  exact ⟨rfl, hb⟩
end Go.Proofs.Ytjfohnkfcfifeaa
/-
  Laws on append, cutting and opening for slices of bytes, over any program: what 'append(v, x...)' makes of an owned row v and a slice x that holds bytes; what 's[l:]', 's[l:h]' hold; how an argument of type []byte is read. No function of the program is named here.
-/
namespace Go.Proofs.Ytjfohnkfcfifeaa
open Go.RowKit

theorem own_lt {w : World} {B e size n : Nat} {v : Value} {xs : List Value} (h : w.ownsRow B e size v n xs) : ∀ k, v.ownBlock = some k → B ≤ k := fun k hk => (h.lt k hk).1

theorem wpList_append_held {P : Program} (w : World) {ops : Array Oper} {rest : List Oper} {o : Oper} {a : Act} {Q : Exit → Act → World → Prop} (hgd : o.guard = none) (s x : Operand) (t : TypeId)
    (ho : o.op = .call { callee := .builtin .append, args := #[s, x], argTypes := #[t, t] })
    (base : Nat) (e : TypeId) (i : TypeInfo) (ht : P.underlying t = some (.slice e)) (hi : P.info? e = some i) (hz : i.zero = some (.int .u8 0)) (hsize : i.size = 1) (hby : i.bytes = 1)
    (v : Value) (n : Nat) (bs : List Int) (hs : a.eval s = v) (hown : w.ownsRow base e 1 v n (nums bs)) (hbs : AllB bs)
    (ao : Option Addr) (m c : Nat) (cs : List Int) (hx : a.eval x = .slice ao m c) (hh : Held w ao m c cs) (hsum : n + m ≤ 140737488355328) (hbase : base ≤ w.heap.size)
    (h : ∀ bo cp w', w'.ownsRow base e 1 (.slice bo (n + m) cp) (n + m) (nums (bs ++ cs)) → Held w' bo (n + m) cp (bs ++ cs) → Below base w w' → Grew w w' v (.slice bo (n + m) cp) → wpList P ops Q rest (a.put o.dst (.slice bo (n + m) cp)) w') :
    wpList P ops Q (o :: rest) a w := by
  cases ao with
  | none =>
    have hc := hh.nil rfl
    have hm : m = 0 := by have := hh.hcap; omega
    subst hm hc
    have hcs : cs = [] := List.eq_nil_of_length_eq_zero hh.hlen
    subst hcs
    obtain ⟨bo, cp, rfl, hhv⟩ := held_of_own hown hbs
    refine wpList_plain hgd fun K hK => ?_
    have hr := run_append_owned_none (P := P) w base t o.type e i 1 ht hi _ n _ hown
    unfold Oper.wp execOp
    simp only [ho, resolve, invoke, builtin, Sem.run_bind, Sem.run_pure, Result.andThen_ok, List.map_toArray, List.map_cons, List.map_nil, hs, hx, hr]
    refine hK _ _ ?_
    have := h bo cp w (by simpa using hown) (by simpa using hhv) (Below.refl _ _) (Grew.refl _ _)
    simpa using this
  | some ad =>
    refine wpList_append_own_at w hgd s x t ho base e i (.int .u8 0) 1 1 ht hi hz hsize hby rfl (by decide) v n (nums bs) hs hown ad m c (nums cs) hx (by rw [nums_len, hh.hlen]; omega) (hh.news ad rfl) (nums_one cs) (by unfold maxLen; omega) (by omega) hbase ?_
    intro v' w' hown' hgrow _ hat
    rw [← nums_append] at hown'
    obtain ⟨bo, cp, rfl, hhv⟩ := held_of_own hown' (hbs.append hh.byte)
    exact h bo cp w' hown' hhv ((Below.refl _ _).grown hgrow hbase (own_lt hown)) (Grew.of hgrow hat)

theorem held_row {w : World} {x : Addr} {len cap : Nat} {zs : List Int} (hl : len ≤ cap) (hm : cap ≤ maxLen) (hz : zs.length = cap) (hcell : ∀ i, i < zs.length → w.cell? (x.add i) = some (.int .u8 (zs.getD i 0))) (hwz : ∀ n ∈ zs, (Lit.int .u8 n).wf = true) : Held w (some x) len cap (zs.take len) := by
  have hb : AllB zs := by
    intro c hc
    have := hwz c hc
    simpa [Lit.wf, IntKind.min, IntKind.max, IntKind.signed, IntKind.bits] using this
  refine ⟨by simp; omega, hl, hm, fun h => (by cases h), hb.take len, fun ad ha j hj => ?_, fun ad ha hp => ?_⟩
  · obtain rfl := Option.some.inj ha
    rw [hcell j (by omega)]
    simp [List.getD, List.getElem?_take_of_lt hj]
  · obtain rfl := Option.some.inj ha
    have := World.block_lt_of_cell? w _ (hcell 0 (by omega))
    simpa [Addr.add] using this

theorem held_nil (w : World) : Held w none 0 0 [] := ⟨rfl, Nat.le_refl _, Nat.zero_le _, fun _ => rfl, fun c hc => (by cases hc), fun ad h => (by cases h), fun ad h => (by cases h)⟩

/-- What 's[l:h]' holds. -/
def cutAt (ao : Option Addr) (cap l : Nat) : Option Addr := if cap = l then ao else ao.map (·.add l)
theorem addr_add (p : Addr) (i j : Nat) : (p.add i).add j = p.add (i + j) := by
  obtain ⟨b, o, s⟩ := p
  simp only [Addr.add]
  split <;> split <;> simp_all [Nat.add_assoc]

theorem run_cut_l {P : Program} (W : World) (t e : TypeId) (ht : P.underlying t = some (.slice e)) (hz : ∀ w, (Go.sizeOf e).run P w = .ok 1 w) (ao : Option Addr) (len cap l : Nat) (L : Int) (hL : L = (l : Int)) (hl : l ≤ len) :
    (Instr.slice t (.slice ao len cap) (some (.int .i64 L)) none none).run P W = .ok (.slice (cutAt ao cap l) (len - l) (cap - l)) W := by
  subst hL
  have ht' : P.underlying t = some (.slice (P.elem t)) := by simp [Program.elem, ht]
  have he : P.elem t = e := by simp [Program.elem, ht]
  rw [run_slice_l W t _ _ _ ht' .i64 _ (by omega) (by omega), he, hz]
  simp [Result.andThen, sliced, cutAt]

theorem run_cut_lh {P : Program} (W : World) (t e : TypeId) (ht : P.underlying t = some (.slice e)) (hz : ∀ w, (Go.sizeOf e).run P w = .ok 1 w) (ao : Option Addr) (len cap l h : Nat) (L U : Int) (hL : L = (l : Int)) (hU : U = (h : Int)) (hl : l ≤ h) (hh : h ≤ cap) :
    (Instr.slice t (.slice ao len cap) (some (.int .i64 L)) (some (.int .i64 U)) none).run P W = .ok (.slice (cutAt ao cap l) (h - l) (cap - l)) W := by
  subst hL hU
  have ht' : P.underlying t = some (.slice (P.elem t)) := by simp [Program.elem, ht]
  have he : P.elem t = e := by simp [Program.elem, ht]
  rw [run_slice_lh W t _ _ _ ht' .i64 .i64 _ _ (by omega) (by omega) (by omega), he, hz]
  simp [Result.andThen, sliced, cutAt]

theorem Held.cut {w : World} {ao : Option Addr} {len cap : Nat} {bs : List Int} (h : Held w ao len cap bs) {l u : Nat} (hl : l ≤ u) (hu : u ≤ len) : Held w (cutAt ao cap l) (u - l) (cap - l) ((bs.take u).drop l) := by
  have hlen := h.hlen
  have hcap := h.hcap
  refine ⟨by simp; omega, by omega, Nat.le_trans (Nat.sub_le _ _) h.hmax, fun hn => ?_, (h.byte.take u).drop l, fun ad ha j hj => ?_, fun ad ha hp => ?_⟩
  · unfold cutAt at hn
    split at hn
    · omega
    · have := h.nil (by simpa using hn)
      omega
  · unfold cutAt at ha
    rw [if_neg (by omega)] at ha
    obtain ⟨a0, rfl, rfl⟩ := Option.map_eq_some_iff.1 ha
    rw [addr_add, h.cell a0 rfl (l + j) (by omega)]
    simp [List.getD, List.getElem?_drop, List.getElem?_take_of_lt (show l + j < u by omega)]
  · unfold cutAt at ha
    rw [if_neg (by omega)] at ha
    obtain ⟨a0, rfl, rfl⟩ := Option.map_eq_some_iff.1 ha
    have := h.old a0 rfl (by omega)
    unfold Addr.add
    split <;> exact this
theorem Held.cutl {w : World} {ao : Option Addr} {len cap : Nat} {bs : List Int} (h : Held w ao len cap bs) {l : Nat} (hl : l ≤ len) : Held w (cutAt ao cap l) (len - l) (cap - l) (bs.drop l) := by
  have := h.cut hl (Nat.le_refl _)
  rwa [List.take_of_length_le (by rw [h.hlen]; exact Nat.le_refl _)] at this
end Go.Proofs.Ytjfohnkfcfifeaa
