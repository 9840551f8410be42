/-
  Package net: what a bag is in memory ('NetAt'), and the contracts of closed, hasNode, New, Len, find, strings.Clone.
-/
import Derived.Test.YtoacfdicjpoohaaRows
import Derived.Test.YtoacfdicjpoohaaBlk
import Derived.Laws.ResultCell
namespace Go.Proofs.Ytoacfdicjpoohaa
open Go.RowKit Go.Maps

/-- A packet. -/
structure Pk where
  id : Int
  frm : Int
  dst : Int
  body : ByteArray
def Pk.val (q : Pk) : Value := .agg #[.int .i64 q.id, .int .i64 q.frm, .int .i64 q.dst, .string q.body]
def Pk.none : Value := .agg #[.int .i64 0, .int .i64 0, .int .i64 0, .string ⟨#[]⟩]

theorem Try.keyedInt : Keyed Try.prog 3 := int_keyed Try.underlying3
theorem Try.zeroPk (w : World) : (zeroValue 36).run Try.prog w = .ok Pk.none w := by kernel_rfl
theorem wf64 {x : Int} (h0 : -9223372036854775808 ≤ x) (h1 : x ≤ 9223372036854775807) : (Lit.int .i64 x).wf = true := by
  simp [Lit.wf, IntKind.min, IntKind.max, IntKind.signed, IntKind.bits]
  omega
theorem Try.keyInt {x : Int} (h0 : -9223372036854775808 ≤ x) (h1 : x ≤ 9223372036854775807) : keyOf Try.prog 3 (.int .i64 x) = some (.int .i64 x) := keyOf_int_mk Try.underlying3 (wf64 h0 h1)

/-- The packets of a bag, found by their Ids. -/
def found (ps : List Pk) (x : Int) : Option Pk := ps.find? (fun q => q.id == x)

/-- A bag in memory: its block p, its map's block bm, the slice v of its Ids; the packets ps, the last Id. -/
structure NetAt (w : World) (p bm : Nat) (v : Value) (nodes last : Int) (ps : List Pk) (D : DataW Value) : Prop where
  blk : Blk w p 48 [.int .i64 nodes, .int .i64 last, .map (some bm), v]
  map : w.ownsMap Try.prog 3 valR bm last.toNat D
  row : w.ownsRow 0 3 1 v ps.length (ps.map fun q => Value.int .i64 q.id)
  look : ∀ x : Int, look D (.int .i64 x) = (found ps x).map Pk.val
  rise : ps.Pairwise (fun a b => a.id < b.id)
  ids : ∀ q ∈ ps, 1 ≤ q.id ∧ q.id ≤ last
  few : ps.length ≤ 65536
  zero : 0 ≤ last
/-- The blocks that a bag's calls may write. -/
def Foot (p bm : Nat) (v : Value) (i : Nat) : Prop := i = p ∨ i = bm ∨ v.ownBlock = some i

theorem NetAt.turned {w w' : World} {p bm : Nat} {v : Value} {nodes last : Int} {ps : List Pk} {D : DataW Value} {F : Nat → Prop} (h : NetAt w p bm v nodes last ps D) (ht : Turns F w w') (hF : ∀ i, Foot p bm v i → ¬ F i) : NetAt w' p bm v nodes last ps D :=
  ⟨ht.blk h.blk (hF p (.inl rfl)), ht.map h.map (hF bm (.inr (.inl rfl))), ht.row h.row (fun g hg => hF g (.inr (.inr hg))), h.look, h.rise, h.ids, h.few, h.zero⟩
theorem NetAt.foot_lt {w : World} {p bm : Nat} {v : Value} {nodes last : Int} {ps : List Pk} {D : DataW Value} (h : NetAt w p bm v nodes last ps D) : ∀ i, Foot p bm v i → i < w.heap.size := by
  rintro i (rfl | rfl | hi)
  · exact h.blk.lt
  · exact h.map.lt
  · exact ownsRow_lt h.row hi
theorem NetAt.below {w w' : World} {p bm : Nat} {v : Value} {nodes last : Int} {ps : List Pk} {D : DataW Value} {B : Nat} (h : NetAt w p bm v nodes last ps D) (hb : Below B w w') (hB : w.heap.size ≤ B) : NetAt w' p bm v nodes last ps D :=
  h.turned (F := fun _ => False) (Turns.of_below hb hB) (fun _ _ h => h)
theorem NetAt.drewN {w : World} {p bm : Nat} {v : Value} {nodes last : Int} {ps : List Pk} {D : DataW Value} (h : NetAt w p bm v nodes last ps D) (q : Nat) : NetAt (w.drewN q) p bm v nodes last ps D :=
  ⟨h.blk, h.map, h.row, h.look, h.rise, h.ids, h.few, h.zero⟩

theorem NetAt.drew {w : World} {p bm : Nat} {v : Value} {nodes last : Int} {ps : List Pk} {D : DataW Value} (h : NetAt w p bm v nodes last ps D) : NetAt w.drew p bm v nodes last ps D :=
  ⟨h.blk, h.map, h.row, h.look, h.rise, h.ids, h.few, h.zero⟩

theorem found_none {ps : List Pk} {x : Int} (h : ∀ q ∈ ps, q.id ≠ x) : found ps x = none := List.find?_eq_none.2 (fun q hq => by simpa using h q hq)
theorem found_snoc {ps : List Pk} {q : Pk} (h : ∀ r ∈ ps, r.id < q.id) (x : Int) : found (ps ++ [q]) x = if x = q.id then some q else found ps x := by
  unfold found
  rw [List.find?_append]
  by_cases hx : x = q.id
  · subst hx
    rw [if_pos rfl, List.find?_eq_none.2 (fun r hr => by have := h r hr; simp; omega)]
    simp
  · rw [if_neg hx]
    have : [q].find? (fun r => r.id == x) = none := by
      simp
      omega
    rw [this]
    simp

theorem closed_nil (w : World) : Calls Try.prog 19 #[.pointer none] w fun e w' => e = .returned (.bool true) ∧ w' = w := by
  go_enter Try.func19, Try.ntmps19
  go_wp2
  go_ret
  exact ⟨rfl, rfl⟩
theorem eql_map (W : World) (b : Nat) : (binOp .eql 45 (.map (some b)) (.map none)).run Try.prog W = .ok (.bool false) W := by kernel_rfl
theorem closed_no (w : World) (p b : Nat) (hc : w.cell? ⟨p, 2, none⟩ = some (.map (some b))) : Calls Try.prog 19 #[.pointer (some ⟨p, 0, none⟩)] w fun e w' => e = .returned (.bool false) ∧ w' = w := by
  go_enter Try.func19, Try.ntmps19
  have he := fun W => eql_map W b
  go_wp2
  go_ret
  exact ⟨rfl, rfl⟩
theorem NetAt.closed {w : World} {p bm : Nat} {v : Value} {nodes last : Int} {ps : List Pk} {D : DataW Value} (h : NetAt w p bm v nodes last ps D) :
    Calls Try.prog 19 #[.pointer (some ⟨p, 0, none⟩)] w fun e w' => e = .returned (.bool false) ∧ w' = w := closed_no w p bm (h.blk.cell (i := 2) rfl)

theorem hasNode_any (w : World) (p : Nat) (x nodes : Int) (hc : w.cell? ⟨p, 0, none⟩ = some (.int .i64 nodes)) :
    Calls Try.prog 20 #[.pointer (some ⟨p, 0, none⟩), .int .i64 x] w fun e w' => e = .returned (.bool (decide (0 ≤ x) && decide (x < nodes))) ∧ w' = w := by
  by_cases h0 : 0 ≤ x
  · by_cases h1 : x < nodes
    · go_enter Try.func20, Try.ntmps20
      go_wp2
      go_ret
      exact ⟨ret_bool (by simp [h0, h1]), rfl⟩
    · go_enter Try.func20, Try.ntmps20
      go_wp2
      go_ret
      exact ⟨ret_bool (by simp [h1]), rfl⟩
  · go_enter Try.func20, Try.ntmps20
    go_wp2
    go_ret
    exact ⟨ret_bool (by simp; omega), rfl⟩

theorem new_bad (w : World) (x : Int) (h : x < 1 ∨ 7 < x) : Calls Try.prog 4 #[.int .i64 x] w fun e w' => e = .returned (.tuple #[.pointer none, .int .i64 1]) ∧ w' = w := by
  by_cases h0 : x < 1
  · go_enter Try.func4, Try.ntmps4
    go_wp2
    go_ret2
    exact ⟨rfl, rfl⟩
  · have h1 : 7 < x := by omega
    go_enter Try.func4, Try.ntmps4
    go_wp2
    go_ret2
    exact ⟨rfl, rfl⟩
theorem new_good (w : World) (x : Int) (h0 : ¬ x < 1) (h1 : ¬ 7 < x) : Calls Try.prog 4 #[.int .i64 x] w fun e w' => e = .returned (.tuple #[.pointer (some ⟨w.heap.size + 1, 0, none⟩), .int .i64 0]) ∧ w' = (w.alloc (.map #[] 0)).alloc (.cells #[.int .i64 x, .int .i64 0, .map (some w.heap.size), .slice none 0 0] 48) := by
  go_enter Try.func4, Try.ntmps4
  have hmm := @run_makeMap Try.prog
  go_wp2
  go_ret2
  exact ⟨rfl, rfl⟩

theorem NetAt.new (w : World) (x : Int) : NetAt ((w.alloc (.map #[] 0)).alloc (.cells #[.int .i64 x, .int .i64 0, .map (some w.heap.size), .slice none 0 0] 48)) (w.heap.size + 1) w.heap.size (.slice none 0 0) x 0 [] (.map []) := by
  refine ⟨?_, (World.ownsMap_made w _ _ _).alloc _, World.ownsRow_nil _ _ _ _, fun x => rfl, .nil, fun q hq => (by cases hq), (by simp), (by simp)⟩
  have := Blk.new (w.alloc (.map #[] 0)) 48 [.int .i64 x, .int .i64 0, .map (some w.heap.size), .slice none 0 0]
  rw [World.size_alloc] at this
  exact this

theorem len_nil (w : World) : Calls Try.prog 18 #[.pointer none] w fun e w' => e = .returned (.int .i64 0) ∧ w' = w := by
  go_enter Try.func18, Try.ntmps18
  go_wp2_with fail
  refine (closed_nil _).mono ?_
  rintro e w' ⟨rfl, rfl⟩
  go_wp2
  go_ret
  exact ⟨rfl, rfl⟩
theorem own_slice {w : World} {B e size : Nat} {v : Value} {n : Nat} {xs : List Value} (h : w.ownsRow B e size v n xs) : ∃ ao cap, v = .slice ao n cap := by
  rcases h.2 with ⟨rfl, rfl⟩ | ⟨g, cap, cur, rfl, _⟩
  · exact ⟨_, _, rfl⟩
  · exact ⟨_, _, rfl⟩
theorem len_any {w : World} {p bm : Nat} {v : Value} {nodes last : Int} {ps : List Pk} {D : DataW Value} (h : NetAt w p bm v nodes last ps D) :
    Calls Try.prog 18 #[.pointer (some ⟨p, 0, none⟩)] w fun e w' => e = .returned (.int .i64 ps.length) ∧ w' = w := by
  obtain ⟨ao, cap, rfl⟩ := own_slice h.row
  have hc3 := h.blk.cell (i := 3) rfl
  have HCL := hid h.closed
  clear h
  go_enter Try.func18, Try.ntmps18
  go_wp2_with fail
  refine HCL.out.mono ?_
  rintro e w' ⟨rfl, rfl⟩
  go_wp2
  go_ret
  exact ⟨rfl, rfl⟩

theorem find_nil (w : World) (x : Int) : Calls Try.prog 23 #[.pointer none, .int .i64 x] w fun e w' => e = .returned (.tuple #[Pk.none, .int .i64 6]) ∧ Below w.heap.size w w' := by
  go_enter Try.func23, Try.ntmps23
  go_wp2_with fail
  refine (closed_nil _).mono ?_
  rintro e w' ⟨rfl, rfl⟩
  go_wp2
  exact bodyPost_ret (v := .tuple #[Pk.none, .int .i64 6]) (by simp [results, Try.results23, go_sem]; rfl) rfl ⟨rfl, (Below.refl _ _).alloc (Nat.le_refl _) _⟩

theorem find_any {w : World} {p bm : Nat} {v : Value} {nodes last : Int} {ps : List Pk} {D : DataW Value} (h : NetAt w p bm v nodes last ps D) (x : Int) (h0 : -9223372036854775808 ≤ x) (h1 : x ≤ 9223372036854775807) :
    Calls Try.prog 23 #[.pointer (some ⟨p, 0, none⟩), .int .i64 x] w fun e w' => e = .returned (.tuple (match found ps x with | some q => #[q.val, .int .i64 0] | none => #[Pk.none, .int .i64 4])) ∧ Below w.heap.size w w' := by
  have hc2 := h.blk.cell (i := 2) rfl
  have hlt := h.blk.lt
  have HCL := hid (h.closed)
  have HM := hid h.map
  have HL := hid (h.look x)
  have hkey := Try.keyInt h0 h1
  have HKEY := hid hkey
  clear h hkey
  cases hf : found ps x with
  | none =>
    rw [hf] at HL
    have HV : Hid ((look D (.int .i64 x)).getD Pk.none = .agg #[.int .i64 0, .int .i64 0, .int .i64 0, .string ⟨#[]⟩]) := by show _ = _; rw [HL.out]; rfl
    have HS : Hid ((look D (.int .i64 x)).isSome = false) := by show _ = _; rw [HL.out]; rfl
    clear HL hf
    go_enter Try.func23, Try.ntmps23
    go_wp2_with fail
    refine (closed_no _ p bm (by go_simp)).mono ?_
    rintro e w' ⟨rfl, rfl⟩
    go_wp2_with (at_lookup; refine wpList_look_ok _ rfl _ _ 45 rfl 3 36 Try.keyedInt Try.underlying45 Pk.none (Try.zeroPk _) bm _ D rfl (HM.out.alloc _) _ (.int .i64 x) rfl HKEY.out _ _ HV.out HS.out ?_)
    exact bodyPost_ret (v := .tuple #[Pk.none, .int .i64 4]) (by simp [results, Try.results23, go_sem]; rfl) rfl ⟨rfl, ((Below.refl _ _).alloc (Nat.le_refl _) _).alloc (by simp) _⟩
  | some q =>
    rw [hf] at HL
    have HV : Hid ((look D (.int .i64 x)).getD Pk.none = .agg #[.int .i64 q.id, .int .i64 q.frm, .int .i64 q.dst, .string q.body]) := by show _ = _; rw [HL.out]; rfl
    have HS : Hid ((look D (.int .i64 x)).isSome = true) := by show _ = _; rw [HL.out]; rfl
    clear HL hf
    go_enter Try.func23, Try.ntmps23
    go_wp2_with fail
    refine (closed_no _ p bm (by go_simp)).mono ?_
    rintro e w' ⟨rfl, rfl⟩
    go_wp2_with (at_lookup; refine wpList_look_ok _ rfl _ _ 45 rfl 3 36 Try.keyedInt Try.underlying45 Pk.none (Try.zeroPk _) bm _ D rfl (HM.out.alloc _) _ (.int .i64 x) rfl HKEY.out _ _ HV.out HS.out ?_)
    exact bodyPost_ret (v := .tuple #[q.val, .int .i64 0]) (by simp [results, Try.results23, go_sem]; rfl) rfl ⟨rfl, ((Below.refl _ _).alloc (Nat.le_refl _) _).alloc (by simp) _⟩
end Go.Proofs.Ytoacfdicjpoohaa
