/-
  The writers of frames: frame.appendWord and frame.Put write a payload's frame behind what was there; conditions: lengths are at most 100000000.
-/
import Derived.Test.YtmokelmeihmeiabDoorFSum
namespace Go.Proofs.YtmokelmeihmeiabDoor
open Go.RowKit

theorem held_new (w : World) (bs : List Int) (cs : Array Value) (t : TypeId) (hcs : cs = (nums bs).toArray) (hb : AllB bs) (hm : bs.length ≤ maxLen) : Held (w.alloc (.cells cs t)) (some ⟨w.heap.size, 0, none⟩) bs.length bs.length bs := by
  subst hcs
  refine ⟨rfl, Nat.le_refl _, hm, fun h => (by cases h), hb, fun ad h j hj => ?_, fun ad h _ => ?_⟩
  · obtain rfl := Option.some.inj h
    rw [Addr.add_lit]
    have hg := heap_alloc_new w (.cells (nums bs).toArray t)
    have := cell_of_row (w.alloc (.cells (nums bs).toArray t)) w.heap.size j (nums bs).toArray t (0, 0) hg
    rw [Nat.zero_add, this]
    simp [nums, List.getD, List.getElem?_eq_getElem hj]
  · obtain rfl := Option.some.inj h
    simp
theorem own_made (w : World) (B : Nat) (hB : B ≤ w.heap.size) : (w.alloc (.cells #[] 5)).ownsRow B 5 1 (.slice (some ⟨w.heap.size, 0, none⟩) 0 0) 0 (nums []) :=
  World.ownsRow_made w #[] 0 hB (Nat.zero_le _) rfl
theorem allb_nil : AllB [] := fun c hc => (by cases hc)

theorem appendWord_own (ao : Option Addr) (n cap : Nat) (bs : List Int) (x : Nat) (B : Nat) (w : World) (hown : w.ownsRow B 5 1 (.slice ao n cap) n (nums bs)) (hbs : AllB bs) (hB : B ≤ w.heap.size) (hx : x < 4294967296) (hn : n ≤ 140737488355000) :
    Calls Tryd.prog 15 #[.slice ao n cap, .int .u32 x] w fun e w' => ∃ bo cp, e = .returned (.slice bo (n + 4) cp) ∧ w'.ownsRow B 5 1 (.slice bo (n + 4) cp) (n + 4) (nums (bs ++ be4 x)) ∧ Held w' bo (n + 4) cp (bs ++ be4 x) ∧ Below B w w' := by
  obtain ⟨i0, hi, hz0, hz1, hz2⟩ := info_parts Tryd.info5
  have hw2 : IntKind.u8.wrap ((x : Int) / 65536) = (x : Int) / 65536 % 256 := by rw [IntKind.wrap_u8]
  have hw3 : IntKind.u8.wrap ((x : Int) / 256) = (x : Int) / 256 % 256 := by rw [IntKind.wrap_u8]
  have hw4 : IntKind.u8.wrap (x : Int) = (x : Int) % 256 := by rw [IntKind.wrap_u8]
  have hh := held_new w (be4 x) #[.int .u8 ((x : Int) / 16777216), .int .u8 ((x : Int) / 65536 % 256), .int .u8 ((x : Int) / 256 % 256), .int .u8 ((x : Int) % 256)] 5 rfl (be4_byte hx) (by rw [be4_len]; decide)
  have HH := hid hh
  have HO := hid (hown.alloc (.cells #[.int .u8 ((x : Int) / 16777216), .int .u8 ((x : Int) / 65536 % 256), .int .u8 ((x : Int) / 256 % 256), .int .u8 ((x : Int) % 256)] 5))
  have HB := hid hbs
  clear hh hown hbs
  go_enter Tryd.func15, Tryd.ntmps15
  go_wp2_with (at_builtin; refine wpList_append_held _ rfl _ _ 22 rfl B 5 i0 Tryd.underlying22 hi hz0 hz1 hz2 _ n bs rfl HO.out HB.out (some ⟨w.heap.size, 0, none⟩) 4 4 (be4 x) rfl HH.out (by omega) (by simp; omega) ?_)
  intro o1 c1 w1 hown1 hheld1 hb1 _
  have HO1 := hid hown1
  have HH1 := hid hheld1
  have HB1 : Hid (Below B w w1) := ((Below.refl B w).alloc hB _).trans hb1
  clear hown1 hheld1 hb1
  go_wp2
  go_ret
  exact ⟨o1, c1, rfl, HO1.out, HH1.out, HB1.out⟩

/-- A law: append of a string to an owned row, with what the new slice holds. -/
theorem wpList_append_str {P : Program} (w : World) {ops : Array Oper} {rest : List Oper} {o : Oper} {a : Act} {Q : Exit → Act → World → Prop} (hgd : o.guard = none) (sl x : Operand) (t u : TypeId)
    (ho : o.op = .call { callee := .builtin .append, args := #[sl, x], argTypes := #[t, u] })
    (base : Nat) (e : TypeId) (i : TypeInfo) (ht : P.underlying t = some (.slice e)) (hu : P.underlying u = some .string) (hi : P.info? e = some i) (hz : i.zero = some (.int .u8 0)) (hsize : i.size = 1) (hby : i.bytes = 1)
    (v : Value) (n : Nat) (bs : List Int) (hs : a.eval sl = v) (hown : w.ownsRow base e 1 v n (nums bs)) (hbs : AllB bs) (s : ByteArray) (hx : a.eval x = .string s)
    (hsum : n + s.size ≤ 140737488355328) (hbase : base ≤ w.heap.size)
    (h : ∀ bo cp w', w'.ownsRow base e 1 (.slice bo (n + s.size) cp) (n + s.size) (nums (bs ++ strNums s)) → Held w' bo (n + s.size) cp (bs ++ strNums s) → Below base w w' → wpList P ops Q rest (a.put o.dst (.slice bo (n + s.size) cp)) w') :
    wpList P ops Q (o :: rest) a w := by
  refine Lib.wpList_append_own_string w hgd sl x t u ho base e i ht hu hi hz hsize hby v n (nums bs) hs hown s hx (by unfold maxLen; omega) (by omega) hbase ?_
  intro v' w' hown' hgrow _
  rw [← strNums_cells, ← nums_append] at hown'
  obtain ⟨bo, cp, rfl, hhv⟩ := held_of_own hown' (hbs.append (strNums_byte s))
  exact h bo cp w' hown' hhv ((Below.refl _ _).grown hgrow hbase (own_lt hown))

theorem put_long (v : Value) (p : ByteArray) (w : World) (hp : 65536 < p.size) (hmax : p.size ≤ 9223372036854775807) :
    Calls Tryd.prog 6 #[v, .string p] w fun e w' => e = .returned (.tuple #[.slice none 0 0, .int .i64 20]) ∧ w' = w := by
  have hp' : (65536 : Int) < (p.size : Int) := by omega
  go_enter Tryd.func6, Tryd.ntmps6
  go_wp2
  go_ret2
  exact ⟨rfl, rfl⟩

theorem own_thaw {w : World} {B e size n : Nat} {v : Value} {xs : List Value} (h : w.ownsRow B e size v n xs) {ad : Addr} {m c : Nat} (hv : v = .slice (some ad) m c) (o : Nat) : w.frozen? ⟨ad.block, o, none⟩ = false := by
  rcases h.2 with ⟨rfl, _⟩ | ⟨g, cap, cur, rfl, _, hg, _⟩
  · cases hv
  · cases hv
    simp [World.frozen?, hg]

set_option maxHeartbeats 800000 in
theorem put_own (ao : Option Addr) (len cap : Nat) (bs : List Int) (p : ByteArray) (w : World) (ht : Tab w) (h : Held w ao len cap bs) (hl : len ≤ 1000000000000) (hp : p.size ≤ 65536) :
    Calls Tryd.prog 6 #[.slice ao len cap, .string p] w fun e w' => ∃ bo N cp, e = .returned (.tuple #[.slice bo N cp, .int .i64 0]) ∧ Held w' bo N cp (bs ++ frameOf (strNums p)) ∧ Below w.heap.size w w' ∧ ∀ ad, bo = some ad → w.heap.size ≤ ad.block ∧ ∀ o, w'.frozen? ⟨ad.block, o, none⟩ = false := by
  obtain ⟨i0, hi, hz0, hz1, hz2⟩ := info_parts Tryd.info5
  have hp' : ¬ (65536 : Int) < (p.size : Int) := by omega
  have HH := hid h
  have HT := hid ht
  have hpl : (strNums p).length = p.size := strNums_len p
  clear h ht
  go_enter Tryd.func6, Tryd.ntmps6
  go_wp2_with (at_make; refine wpList_make_own _ rfl _ _ 22 rfl w.heap.size 5 i0 (.int .u8 0) 1 Tryd.underlying22 hi hz0 hz1 _ _ _ (len + 8 + p.size) rfl rfl (by omega) (by rw [hz2]; omega) (by unfold maxLen; omega) (by omega) ?_)
  intro w1 hown1 hgrow1
  have hb1 : Below w.heap.size w w1 := (Below.refl _ _).grown hgrow1 (Nat.le_refl _) (by simp)
  have HB1 := hid hb1
  have s1 := hb1.size
  have HO1 : Hid (w1.ownsRow w.heap.size 5 1 (.slice (some ⟨w.heap.size, 0, none⟩) 0 (len + 8 + p.size)) 0 (nums [])) := hown1
  clear hown1 hgrow1 hb1
  go_wp2_with (at_builtin; refine wpList_append_held _ rfl _ _ 22 rfl w.heap.size 5 i0 Tryd.underlying22 hi hz0 hz1 hz2 _ 0 [] rfl HO1.out allb_nil ao len cap bs rfl (HH.out.below HB1.out (Nat.le_refl _)) (by omega) (by omega) ?_)
  intro o2 c2 w2 hown2 hheld2 hb2 _
  have HO2 : Hid (w2.ownsRow w.heap.size 5 1 (.slice o2 len c2) len (nums bs)) := hid (by simpa using hown2)
  have HB2 : Hid (Below w.heap.size w w2) := HB1.out.trans hb2
  have s2 := HB2.out.size
  clear hown2 hheld2 hb2
  go_wp2_with fail
  refine (appendWord_own o2 len c2 bs p.size w.heap.size w2 HO2.out HH.out.byte s2 (by omega) (by omega)).mono ?_
  rintro e w3 ⟨o3, c3, rfl, hown3, hh3, hb3⟩
  have HO3 := hid hown3
  have HH3 := hid hh3
  have HB3 : Hid (Below w.heap.size w w3) := HB2.out.trans hb3
  have s3 := HB3.out.size
  have hlb : bs.length = len := HH.out.hlen
  have hcut : Held w3 (cutAt o3 c3 len) 4 (c3 - len) (be4 p.size) := by
    have := hh3.cutl (l := len) (by omega)
    rw [Nat.add_sub_cancel_left, ← hlb, List.drop_left, hlb] at this
    exact this
  have HC := hid hcut
  have hsl : ∀ W, (Instr.slice 22 (.slice o3 (len + 4) c3) (some (.int .i64 (len : Int))) none none).run Tryd.prog W = .ok (.slice (cutAt o3 c3 len) 4 (c3 - len)) W := by
    intro W
    have := run_cut_l (P := Tryd.prog) W 22 5 Tryd.underlying22 Tryd.size5 o3 (len + 4) c3 len len rfl (by omega)
    rwa [Nat.add_sub_cancel_left] at this
  clear hown3 hh3 hb3 hcut hlb
  go_wp2_with fail
  refine (frameSum_any (cutAt o3 c3 len) 4 (c3 - len) (be4 p.size) p w3 (HT.out.here HB3.out) HC.out (by omega)).mono ?_
  rintro e w3 ⟨rfl, rfl⟩
  have hcl : crc (be4 p.size ++ strNums p) < 4294967296 := crc_lt ((be4_byte (by omega)).append (strNums_byte p))
  obtain ⟨r, HR⟩ : ∃ r, Hid (crc (be4 p.size ++ strNums p) = r) := ⟨_, hid rfl⟩
  rw [HR.out] at hcl ⊢
  clear hsl
  go_wp2_with fail
  refine (appendWord_own o3 (len + 4) c3 (bs ++ be4 p.size) r w.heap.size w3 HO3.out (HH.out.byte.append (be4_byte (by omega))) s3 hcl (by omega)).mono ?_
  rintro e w4 ⟨o4, c4, rfl, hown4, hh4, hb4⟩
  have HO4 := hid hown4
  have HB4 : Hid (Below w.heap.size w w4) := HB3.out.trans hb4
  have s4 := HB4.out.size
  have HAB : Hid (AllB (bs ++ be4 p.size ++ be4 r)) := (HH.out.byte.append (be4_byte (by omega))).append (be4_byte hcl)
  clear hown4 hh4 hb4
  go_wp2_with (at_builtin; refine wpList_append_str _ rfl _ _ 22 9 rfl w.heap.size 5 i0 Tryd.underlying22 Tryd.underlying9 hi hz0 hz1 hz2 _ (len + 4 + 4) _ rfl HO4.out HAB.out p rfl (by omega) (by omega) ?_)
  intro o5 c5 w5 hown5 hh5 hb5
  have HE : Hid (bs ++ be4 p.size ++ be4 r ++ strNums p = bs ++ frameOf (strNums p)) := by
    show _ = _
    unfold frameOf
    rw [hpl, HR.out]
    simp only [List.append_assoc]
  have HH5 : Hid (Held w5 o5 (len + 4 + 4 + p.size) c5 (bs ++ frameOf (strNums p))) := by
    show Held _ _ _ _ _
    rw [← HE.out]
    simpa using hh5
  have HB5 : Hid (Below w.heap.size w w5) := HB4.out.trans hb5
  have HN5 : Hid (∀ ad, o5 = some ad → w.heap.size ≤ ad.block ∧ ∀ o, w5.frozen? ⟨ad.block, o, none⟩ = false) := hid (fun ad ha => by subst ha; exact ⟨own_lt hown5 ad.block rfl, own_thaw hown5 rfl⟩)
  clear hown5 hh5 hb5
  go_wp2
  go_ret2
  exact ⟨o5, _, c5, rfl, HH5.out, HB5.out, HN5.out⟩

theorem put_new (ao : Option Addr) (len cap : Nat) (bs : List Int) (p : ByteArray) (w : World) (ht : Tab w) (h : Held w ao len cap bs) (hl : len ≤ 1000000000000) (hp : p.size ≤ 65536) :
    Calls Tryd.prog 6 #[.slice ao len cap, .string p] w fun e w' => ∃ bo N cp, e = .returned (.tuple #[.slice bo N cp, .int .i64 0]) ∧ Held w' bo N cp (bs ++ frameOf (strNums p)) ∧ Below w.heap.size w w' ∧ ∀ ad, bo = some ad → w.heap.size ≤ ad.block :=
  (put_own ao len cap bs p w ht h hl hp).mono fun _ _ ⟨bo, N, cp, he, hh, hb, hf⟩ => ⟨bo, N, cp, he, hh, hb, fun ad ha => (hf ad ha).1⟩

theorem put_any (ao : Option Addr) (len cap : Nat) (bs : List Int) (p : ByteArray) (w : World) (ht : Tab w) (h : Held w ao len cap bs) (hl : len ≤ 1000000000000) (hp : p.size ≤ 65536) :
    Calls Tryd.prog 6 #[.slice ao len cap, .string p] w fun e w' => ∃ bo N cp, e = .returned (.tuple #[.slice bo N cp, .int .i64 0]) ∧ Held w' bo N cp (bs ++ frameOf (strNums p)) ∧ Below w.heap.size w w' :=
  (put_new ao len cap bs p w ht h hl hp).mono fun _ _ ⟨bo, N, cp, he, hh, hb, _⟩ => ⟨bo, N, cp, he, hh, hb⟩
end Go.Proofs.YtmokelmeihmeiabDoor
