/-
  Laws on append, cutting and opening for slices of bytes, over any program: what 'append(v, x...)' makes of an owned row v and a slice x that holds bytes; what 's[l:]', 's[l:h]' hold; how an argument of type []byte is read. No function of the program is named here.
-/
import Derived.Test.YtmpkbdhihdboiaaBase
import Derived.Test.YtmpkbdhihdboiaaRows
namespace Go.Proofs.Ytmpkbdhihdboiaa
open Go.RowKit

theorem own_lt {w : World} {B e size n : Nat} {v : Value} {xs : List Value} (h : w.ownsRow B e size v n xs) : ∀ k, v.ownBlock = some k → B ≤ k := fun k hk => (h.lt k hk).1

theorem wpList_append_held {P : Program} (w : World) {ops : Array Oper} {rest : List Oper} {o : Oper} {a : Act} {Q : Exit → Act → World → Prop} (hgd : o.guard = none) (s x : Operand) (t : TypeId)
    (ho : o.op = .call { callee := .builtin .append, args := #[s, x], argTypes := #[t, t] })
    (base : Nat) (e : TypeId) (i : TypeInfo) (ht : P.underlying t = some (.slice e)) (hi : P.info? e = some i) (hz : i.zero = some (.int .u8 0)) (hsize : i.size = 1) (hby : i.bytes = 1)
    (v : Value) (n : Nat) (bs : List Int) (hs : a.eval s = v) (hown : w.ownsRow base e 1 v n (nums bs)) (hbs : AllB bs)
    (ao : Option Addr) (m c : Nat) (cs : List Int) (hx : a.eval x = .slice ao m c) (hh : Held w ao m c cs) (hsum : n + m ≤ 140737488355328) (hbase : base ≤ w.heap.size)
    (h : ∀ bo cp w', w'.ownsRow base e 1 (.slice bo (n + m) cp) (n + m) (nums (bs ++ cs)) → Held w' bo (n + m) cp (bs ++ cs) → Below base w w' → Grew w w' v (.slice bo (n + m) cp) → wpList P ops Q rest (a.put o.dst (.slice bo (n + m) cp)) w') :
    wpList P ops Q (o :: rest) a w := by
  cases ao with
  | none =>
    have hc := hh.nil rfl
    have hm : m = 0 := by have := hh.hcap; omega
    subst hm hc
    have hcs : cs = [] := List.eq_nil_of_length_eq_zero hh.hlen
    subst hcs
    obtain ⟨bo, cp, rfl, hhv⟩ := held_of_own hown hbs
    refine wpList_plain hgd fun K hK => ?_
    have hr := run_append_owned_none (P := P) w base t o.type e i 1 ht hi _ n _ hown
    unfold Oper.wp execOp
    simp only [ho, resolve, invoke, builtin, Sem.run_bind, Sem.run_pure, Result.andThen_ok, List.map_toArray, List.map_cons, List.map_nil, hs, hx, hr]
    refine hK _ _ ?_
    have := h bo cp w (by simpa using hown) (by simpa using hhv) (Below.refl _ _) (Grew.refl _ _)
    simpa using this
  | some ad =>
    refine wpList_append_own_at w hgd s x t ho base e i (.int .u8 0) 1 1 ht hi hz hsize hby rfl (by decide) v n (nums bs) hs hown ad m c (nums cs) hx (by rw [nums_len, hh.hlen]; omega) (hh.news ad rfl) (nums_one cs) (by unfold maxLen; omega) (by omega) hbase ?_
    intro v' w' hown' hgrow _ hat
    rw [← nums_append] at hown'
    obtain ⟨bo, cp, rfl, hhv⟩ := held_of_own hown' (hbs.append hh.byte)
    exact h bo cp w' hown' hhv ((Below.refl _ _).grown hgrow hbase (own_lt hown)) (Grew.of hgrow hat)

theorem held_row {w : World} {x : Addr} {len cap : Nat} {zs : List Int} (hl : len ≤ cap) (hm : cap ≤ maxLen) (hz : zs.length = cap) (hcell : ∀ i, i < zs.length → w.cell? (x.add i) = some (.int .u8 (zs.getD i 0))) (hwz : ∀ n ∈ zs, (Lit.int .u8 n).wf = true) : Held w (some x) len cap (zs.take len) := by
  have hb : AllB zs := by
    intro c hc
    have := hwz c hc
    simpa [Lit.wf, IntKind.min, IntKind.max, IntKind.signed, IntKind.bits] using this
  refine ⟨by simp; omega, hl, hm, fun h => (by cases h), hb.take len, fun ad ha j hj => ?_, fun ad ha hp => ?_⟩
  · obtain rfl := Option.some.inj ha
    rw [hcell j (by omega)]
    simp [List.getD, List.getElem?_take_of_lt hj]
  · obtain rfl := Option.some.inj ha
    have := World.block_lt_of_cell? w _ (hcell 0 (by omega))
    simpa [Addr.add] using this

theorem held_nil (w : World) : Held w none 0 0 [] := ⟨rfl, Nat.le_refl _, Nat.zero_le _, fun _ => rfl, fun c hc => (by cases hc), fun ad h => (by cases h), fun ad h => (by cases h)⟩

/-- What 's[l:h]' holds. -/
def cutAt (ao : Option Addr) (cap l : Nat) : Option Addr := if cap = l then ao else ao.map (·.add l)
theorem addr_add (p : Addr) (i j : Nat) : (p.add i).add j = p.add (i + j) := by
  obtain ⟨b, o, s⟩ := p
  simp only [Addr.add]
  split <;> split <;> simp_all [Nat.add_assoc]

theorem run_cut_l {P : Program} (W : World) (t e : TypeId) (ht : P.underlying t = some (.slice e)) (hz : ∀ w, (Go.sizeOf e).run P w = .ok 1 w) (ao : Option Addr) (len cap l : Nat) (L : Int) (hL : L = (l : Int)) (hl : l ≤ len) :
    (Instr.slice t (.slice ao len cap) (some (.int .i64 L)) none none).run P W = .ok (.slice (cutAt ao cap l) (len - l) (cap - l)) W := by
  subst hL
  have ht' : P.underlying t = some (.slice (P.elem t)) := by simp [Program.elem, ht]
  have he : P.elem t = e := by simp [Program.elem, ht]
  rw [run_slice_l W t _ _ _ ht' .i64 _ (by omega) (by omega), he, hz]
  simp [Result.andThen, sliced, cutAt]

theorem run_cut_lh {P : Program} (W : World) (t e : TypeId) (ht : P.underlying t = some (.slice e)) (hz : ∀ w, (Go.sizeOf e).run P w = .ok 1 w) (ao : Option Addr) (len cap l h : Nat) (L U : Int) (hL : L = (l : Int)) (hU : U = (h : Int)) (hl : l ≤ h) (hh : h ≤ cap) :
    (Instr.slice t (.slice ao len cap) (some (.int .i64 L)) (some (.int .i64 U)) none).run P W = .ok (.slice (cutAt ao cap l) (h - l) (cap - l)) W := by
  subst hL hU
  have ht' : P.underlying t = some (.slice (P.elem t)) := by simp [Program.elem, ht]
  have he : P.elem t = e := by simp [Program.elem, ht]
  rw [run_slice_lh W t _ _ _ ht' .i64 .i64 _ _ (by omega) (by omega) (by omega), he, hz]
  simp [Result.andThen, sliced, cutAt]

theorem Held.cut {w : World} {ao : Option Addr} {len cap : Nat} {bs : List Int} (h : Held w ao len cap bs) {l u : Nat} (hl : l ≤ u) (hu : u ≤ len) : Held w (cutAt ao cap l) (u - l) (cap - l) ((bs.take u).drop l) := by
  have hlen := h.hlen
  have hcap := h.hcap
  refine ⟨by simp; omega, by omega, Nat.le_trans (Nat.sub_le _ _) h.hmax, fun hn => ?_, (h.byte.take u).drop l, fun ad ha j hj => ?_, fun ad ha hp => ?_⟩
  · unfold cutAt at hn
    split at hn
    · omega
    · have := h.nil (by simpa using hn)
      omega
  · unfold cutAt at ha
    rw [if_neg (by omega)] at ha
    obtain ⟨a0, rfl, rfl⟩ := Option.map_eq_some_iff.1 ha
    rw [addr_add, h.cell a0 rfl (l + j) (by omega)]
    simp [List.getD, List.getElem?_drop, List.getElem?_take_of_lt (show l + j < u by omega)]
  · unfold cutAt at ha
    rw [if_neg (by omega)] at ha
    obtain ⟨a0, rfl, rfl⟩ := Option.map_eq_some_iff.1 ha
    have := h.old a0 rfl (by omega)
    unfold Addr.add
    split <;> exact this
theorem Held.cutl {w : World} {ao : Option Addr} {len cap : Nat} {bs : List Int} (h : Held w ao len cap bs) {l : Nat} (hl : l ≤ len) : Held w (cutAt ao cap l) (len - l) (cap - l) (bs.drop l) := by
  have := h.cut hl (Nat.le_refl _)
  rwa [List.take_of_length_le (by rw [h.hlen]; exact Nat.le_refl _)] at this
end Go.Proofs.Ytmpkbdhihdboiaa
/-
  The writers of numbers: codec.ownCopy, codec.appendUint, codec.Uint and pannierref01.Uint write the one form 'enc' behind what was there, in memory of their own, for every uint64; conditions: the lengths stay below 2^47.
-/
namespace Go.Proofs.Ytmpkbdhihdboiaa
open Go.RowKit

theorem Try.info5 : (Try.prog.info? 5).map (fun i => (i.zero, i.size, i.bytes)) = some (some (.int .u8 0), 1, 1) := by kernel_rfl

theorem Try.size5 : ∀ w, (Go.sizeOf 5).run Try.prog w = .ok 1 w := by
  intro w
  obtain ⟨i0, hi, hz0, hz1, hz2⟩ := info_parts Try.info5
  simp [Go.sizeOf, typeInfo, hi, hz1]

theorem appendUint_any (v : Value) (n : Nat) (bs : List Int) (x B : Nat) (w : World) (hx : x < 18446744073709551616) (hown : w.ownsRow B 5 1 v n (nums bs)) (hB : B ≤ w.heap.size) (hn : n ≤ 140737488355000) :
    Calls Try.prog 74 #[v, .int .u64 x] w fun e w' => ∃ v', e = .returned v' ∧ w'.ownsRow B 5 1 v' (n + (enc x).length) (nums (bs ++ enc x)) ∧ Grew w w' v v' := by
  obtain ⟨i0, hi, hz0, hz1, hz2⟩ := info_parts Try.info5
  go_enter Try.func74, Try.ntmps74
  go_wp2
  go_loopw [0, 1] (fun b t wr => ∃ (y m : Nat) (cs : List Int), t = .int .u64 y ∧ y < 18446744073709551616 ∧ wr.ownsRow B 5 1 b m (nums cs) ∧ m ≤ n + 10 ∧ cs ++ enc y = bs ++ enc x ∧ Grew w wr v b) (fun _ t _ => (intOf t).toNat)
  case atStart => exact ⟨x, n, bs, rfl, hx, hown, by omega, rfl, Grew.refl _ _⟩
  case round =>
    obtain ⟨y, m, cs, rfl, hy, hownr, hm, hcs, hgr⟩ := hrel
    have hl := congrArg List.length hcs
    simp only [List.length_append] at hl
    have hcl : cs.length = m := by simpa [nums] using hownr.1
    have hbl : bs.length = n := by simpa [nums] using hown.1
    have h10 := enc_le10 hx
    have hyp := enc_pos y
    have hsz : w.heap.size ≤ wr.heap.size := hgr.1.size
    have HC : Hid (cs ++ enc y = bs ++ enc x) := hcs
    have HG : Hid (Grew w wr v u0) := hgr
    have hsum : m + (enc y).length ≤ n + 10 := by omega
    clear hcs hgr hcl hl
    by_cases hlt : 128 ≤ y
    · have hy1 : (127 : Int) < (y : Int) := by omega
      have ha := and127 hy
      have ho := or128 (c := (y : Int) % 128) (by omega) (by omega)
      go_wp2_with (at_builtin; refine wpList_append_own_at _ rfl _ _ 37 rfl B 5 i0 (.int .u8 0) 1 1 Try.underlying37 hi hz0 hz1 hz2 rfl (by decide) _ _ _ rfl (hownr.alloc _) ⟨wr.heap.size, 0, none⟩ 1 1 [.int .u8 ((y : Int) % 128 + 128)] rfl rfl (cell_one_new _ _ _) (one_int _ _) (by unfold maxLen; omega) (by omega) (by simp; omega) ?_)
      · intro v' w1 hown' hgrow _ hat
        have hg2 : Grew w w1 v v' := HG.out.trans ((Grew.alloc _ _ _).trans (Grew.of hgrow (by simpa using hat)))
        have HG2 : Hid (Grew w w1 v v') := hg2
        have HO : Hid (w1.ownsRow B 5 1 v' (m + 1) (nums (cs ++ [(y : Int) % 128 + 128]))) := by rw [nums_append]; exact hown'
        clear hown' hgrow hat hg2 HG hownr
        go_wp2
        go_roundw
        case rel => exact ⟨y / 128, m + 1, cs ++ [(y : Int) % 128 + 128], by go_num, by omega, HO.out, by omega, by rw [← HC.out, enc_ge hlt, List.append_assoc]; rfl, HG2.out⟩
        case measure => simp [intOf]; omega
    · have hy1 : ¬ (127 : Int) < (y : Int) := by omega
      go_wp2_with (at_builtin; refine wpList_append_own_at _ rfl _ _ 37 rfl B 5 i0 (.int .u8 0) 1 1 Try.underlying37 hi hz0 hz1 hz2 rfl (by decide) _ _ _ rfl (hownr.alloc _) ⟨wr.heap.size, 0, none⟩ 1 1 [.int .u8 (y : Int)] rfl rfl (cell_one_new _ _ _) (one_int _ _) (by unfold maxLen; omega) (by omega) (by simp; omega) ?_)
      · intro v' w1 hown' hgrow _ hat
        have hg2 : Grew w w1 v v' := HG.out.trans ((Grew.alloc _ _ _).trans (Grew.of hgrow (by simpa using hat)))
        have he : bs ++ enc x = cs ++ [(y : Int)] := by rw [← HC.out, enc_lt (by omega)]
        have hlen : n + (enc x).length = m + 1 := by
          have h2 := congrArg List.length he
          have h3 := hownr.1
          simp [nums] at h2 h3
          omega
        have HO : Hid (w1.ownsRow B 5 1 v' (n + (enc x).length) (nums (bs ++ enc x))) := by rw [he, nums_append, hlen]; exact hown'
        have HG2 : Hid (Grew w w1 v v') := hg2
        clear hown' hgrow hat hg2 HG hownr he hlen
        go_wp2
        go_ret
        exact ⟨v', rfl, HO.out, HG2.out⟩


/-- The same, in words that a caller wants who holds nothing from B on but this row. -/
theorem appendUint_own (v : Value) (n : Nat) (bs : List Int) (x : Int) (B : Nat) (w : World) (h0 : 0 ≤ x) (hx : x < 18446744073709551616) (hown : w.ownsRow B 5 1 v n (nums bs)) (hB : B ≤ w.heap.size) (hn : n ≤ 140737488355000) :
    Calls Try.prog 74 #[v, .int .u64 x] w fun e w' => ∃ v', e = .returned v' ∧ w'.ownsRow B 5 1 v' (n + (enc x.toNat).length) (nums (bs ++ enc x.toNat)) ∧ Below B w w' := by
  obtain ⟨y, rfl⟩ := Int.eq_ofNat_of_zero_le h0
  refine (appendUint_any v n bs y B w (by omega) hown hB hn).mono ?_
  rintro e w' ⟨v', rfl, h1, h2⟩
  exact ⟨v', rfl, by simpa using h1, h2.below (Below.refl _ _) hB (own_lt hown)⟩

theorem ownCopy_any (ao : Option Addr) (len cap : Nat) (bs : List Int) (more : Int) (w : World) (h : Held w ao len cap bs) (h0 : 0 ≤ more) (hm : len + more ≤ 281474976710656) :
    Calls Try.prog 54 #[.slice ao len cap, .int .i64 more] w fun e w' => ∃ v, e = .returned v ∧ w'.ownsRow w.heap.size 5 1 v len (nums bs) ∧ Below w.heap.size w w' := by
  obtain ⟨i0, hi, hz0, hz1, hz2⟩ := info_parts Try.info5
  obtain ⟨m, rfl⟩ := Int.eq_ofNat_of_zero_le h0
  have hlen := h.hlen
  have hnil := h.nil
  have hcap := h.hcap
  have HH : Hid (Held w ao len cap bs) := h
  have hml : len + m ≤ 281474976710656 := by omega
  clear h hm
  go_enter Try.func54, Try.ntmps54
  go_wp2_with (at_make; refine wpList_make_own _ rfl _ _ 37 rfl w.heap.size 5 i0 (.int .u8 0) 1 Try.underlying37 hi hz0 hz1 _ _ _ (len + m) rfl rfl (by omega) (by rw [hz2]; omega) (by unfold maxLen; omega) (by omega) ?_)
  intro w1 hown1 hgrow1
  have hb1 : Below w.heap.size w w1 := (Below.refl _ _).grown hgrow1 (Nat.le_refl _) (by simp)
  have hheld := HH.out.below hb1 (Nat.le_refl _)
  go_wp2_with (at_builtin; refine wpList_append_fits_any _ rfl _ _ 37 rfl w.heap.size 5 i0 1 Try.underlying37 hi hz1 w.heap.size 0 (len + m) [] rfl hown1 ao len cap (nums bs) rfl (by simp [nums, hlen]) (by intro ha; have := hnil ha; omega) hheld.news (nums_one bs) (by omega) ?_)
  intro w2 hown2 hgrow2
  have hb2 : Below w.heap.size w w2 := hb1.grown hgrow2 hb1.size (by intro k hk; simp at hk; omega)
  have HO : Hid (w2.ownsRow w.heap.size 5 1 (.slice (some ⟨w.heap.size, 0, none⟩) len (len + m)) len (nums bs)) := hown2
  have HB : Hid (Below w.heap.size w w2) := hb2
  clear hown1 hgrow1 hb1 hheld hown2 hgrow2 hb2 HH
  go_wp2
  go_ret
  exact ⟨_, rfl, HO.out, HB.out⟩

end Go.Proofs.Ytmpkbdhihdboiaa
/-
  The writers of texts: codec.appendText, codec.Text and pannierref01.Text write how many bytes a text has, and these, behind what was there; conditions: the lengths stay below 2^47.
-/
namespace Go.Proofs.Ytmpkbdhihdboiaa
open Go.RowKit

/-- A text's bytes: how many, and these. -/
def encText (s : ByteArray) : List Int := enc s.size ++ strNums s
theorem encText_len (s : ByteArray) : (encText s).length = (enc s.size).length + s.size := by simp [encText, strNums_len]
theorem encText_byte (s : ByteArray) : AllB (encText s) := AllB.append (enc_byte _) (strNums_byte s)

theorem appendText_own (v : Value) (n : Nat) (bs : List Int) (s : ByteArray) (B : Nat) (w : World) (hown : w.ownsRow B 5 1 v n (nums bs)) (hB : B ≤ w.heap.size) (hn : n + s.size ≤ 140737488355000) :
    Calls Try.prog 51 #[v, .string s] w fun e w' => ∃ v', e = .returned v' ∧ w'.ownsRow B 5 1 v' (n + (encText s).length) (nums (bs ++ encText s)) ∧ Below B w w' := by
  obtain ⟨i0, hi, hz0, hz1, hz2⟩ := info_parts Try.info5
  have h10 := enc_le10 (x := s.size) (by omega)
  have HO : Hid (w.ownsRow B 5 1 v n (nums bs)) := hown
  clear hown
  go_enter Try.func51, Try.ntmps51
  go_wp2_with fail
  refine (appendUint_own v n bs s.size B w (by omega) (by omega) HO.out hB (by omega)).mono ?_
  rintro e w1 ⟨v1, rfl, hown1, hb1⟩
  rw [Int.toNat_natCast] at hown1
  have hs1 : w.heap.size ≤ w1.heap.size := hb1.size
  have HB : Hid (Below B w w1) := hb1
  have HL : Hid (∀ k, v1.ownBlock = some k → B ≤ k) := own_lt hown1
  clear hb1
  go_wp2_with (at_builtin; refine Lib.wpList_append_own_string _ rfl _ _ 37 9 rfl B 5 i0 Try.underlying37 Try.underlying9 hi hz0 hz1 hz2 _ _ _ rfl hown1 s rfl (by unfold maxLen; omega) (by omega) (by omega) ?_)
  intro v' w2 hown' hgrow _
  have HB2 : Hid (Below B w w2) := HB.out.grown hgrow (by omega) HL.out
  have HO2 : Hid (w2.ownsRow B 5 1 v' (n + (encText s).length) (nums (bs ++ encText s))) := by
    rw [encText_len, encText, ← List.append_assoc, nums_append, strNums_cells, ← Nat.add_assoc]
    exact hown'
  clear hown' hgrow hown1
  go_wp2
  go_ret
  exact ⟨v', rfl, HO2.out, HB2.out⟩

theorem codecText_any (ao : Option Addr) (len cap : Nat) (bs : List Int) (s : ByteArray) (w : World) (h : Held w ao len cap bs) (hm : len + s.size ≤ 140737488355000) :
    Calls Try.prog 24 #[.slice ao len cap, .string s] w fun e w' => ∃ v, e = .returned v ∧ w'.ownsRow w.heap.size 5 1 v (len + (encText s).length) (nums (bs ++ encText s)) ∧ Below w.heap.size w w' := by
  have HH : Hid (Held w ao len cap bs) := h
  clear h
  go_enter Try.func24, Try.ntmps24
  go_wp2_with fail
  refine (ownCopy_any ao len cap bs (10 + s.size) w HH.out (by omega) (by omega)).mono ?_
  rintro e w1 ⟨v, rfl, hown1, hb1⟩
  have HO : Hid (w1.ownsRow w.heap.size 5 1 v len (nums bs)) := hown1
  have HB : Hid (Below w.heap.size w w1) := hb1
  clear hown1 hb1
  go_wp2_with fail
  refine (appendText_own v len bs s w.heap.size w1 HO.out HB.out.size hm).mono ?_
  rintro e w2 ⟨v2, rfl, hown2, hb2⟩
  have HO2 : Hid (w2.ownsRow w.heap.size 5 1 v2 (len + (encText s).length) (nums (bs ++ encText s))) := hown2
  have HB2 : Hid (Below w.heap.size w w2) := HB.out.trans hb2
  clear hown2 hb2
  go_wp2
  go_ret
  exact ⟨_, rfl, HO2.out, HB2.out⟩

end Go.Proofs.Ytmpkbdhihdboiaa
/-
  codec.Name and pannierref01.Name: both tell of any string whether it may be a name ('nameS': 1 to 32 bytes, each a letter from a to z, a digit or the sign 45), and write nothing.
-/
namespace Go.Proofs.Ytmpkbdhihdboiaa
open Go.RowKit

/-- May c be a name's byte? -/
def nameB (c : Int) : Bool := (decide (97 ≤ c) && decide (c ≤ 122)) || (decide (48 ≤ c) && decide (c ≤ 57)) || c == 45
/-- May s be a name? -/
def nameS (s : ByteArray) : Bool := decide (1 ≤ s.size) && decide (s.size ≤ 32) && (strNums s).all nameB

theorem nameB_cases (c : Int) : (c < 45 ∧ nameB c = false) ∨ (c = 45 ∧ nameB c = true) ∨ ((45 < c ∧ c < 48) ∧ nameB c = false) ∨ ((48 ≤ c ∧ c ≤ 57) ∧ nameB c = true) ∨ ((57 < c ∧ c < 97) ∧ nameB c = false) ∨ ((97 ≤ c ∧ c ≤ 122) ∧ nameB c = true) ∨ (122 < c ∧ nameB c = false) := by
  have h45 : ∀ b : Bool, c ≠ 45 → (b || c == 45) = b := by
    intro b h
    rw [beq_eq_false_iff_ne.2 h, Bool.or_false]
  by_cases h1 : c < 45
  · refine .inl ⟨h1, ?_⟩
    unfold nameB
    rw [h45 _ (by omega), decide_eq_false (p := 97 ≤ c) (by omega), decide_eq_false (p := 48 ≤ c) (by omega)]
    rfl
  by_cases h2 : c = 45
  · subst h2
    exact .inr (.inl ⟨rfl, rfl⟩)
  by_cases h3 : c < 48
  · refine .inr (.inr (.inl ⟨⟨by omega, h3⟩, ?_⟩))
    unfold nameB
    rw [h45 _ (by omega), decide_eq_false (p := 97 ≤ c) (by omega), decide_eq_false (p := 48 ≤ c) (by omega)]
    rfl
  by_cases h4 : c ≤ 57
  · refine .inr (.inr (.inr (.inl ⟨⟨by omega, h4⟩, ?_⟩)))
    unfold nameB
    rw [h45 _ (by omega), decide_eq_true (p := 48 ≤ c) (by omega), decide_eq_true (p := c ≤ 57) h4]
    simp
  by_cases h5 : c < 97
  · refine .inr (.inr (.inr (.inr (.inl ⟨⟨by omega, h5⟩, ?_⟩))))
    unfold nameB
    rw [h45 _ (by omega), decide_eq_false (p := 97 ≤ c) (by omega), decide_eq_false (p := c ≤ 57) h4]
    simp
  by_cases h6 : c ≤ 122
  · refine .inr (.inr (.inr (.inr (.inr (.inl ⟨⟨by omega, h6⟩, ?_⟩)))))
    unfold nameB
    rw [h45 _ (by omega), decide_eq_true (p := 97 ≤ c) (by omega), decide_eq_true (p := c ≤ 122) h6]
    simp
  · refine .inr (.inr (.inr (.inr (.inr (.inr ⟨by omega, ?_⟩)))))
    unfold nameB
    rw [h45 _ (by omega), decide_eq_false (p := c ≤ 122) h6, decide_eq_false (p := c ≤ 57) h4]
    simp

theorem nameByte_any (c : Int) (w : World) : Calls Try.prog 55 #[.int .u8 c] w fun e w' => e = .returned (.bool (nameB c)) ∧ w' = w := by
  rcases nameB_cases c with ⟨h, e⟩ | ⟨h, e⟩ | ⟨⟨h, h'⟩, e⟩ | ⟨⟨h, h'⟩, e⟩ | ⟨⟨h, h'⟩, e⟩ | ⟨⟨h, h'⟩, e⟩ | ⟨h, e⟩
  all_goals
    rw [e]
    clear e
    go_enter Try.func55, Try.ntmps55
    go_wp2
    go_ret
    exact ⟨ret_bool (by first | rfl | (simp; done) | (simp; omega)), rfl⟩

theorem strNums_at {s : ByteArray} {k : Nat} (h : k < s.size) : (strNums s)[k]? = some ((s[k].toNat : Nat) : Int) := by
  have h2 : k < s.data.size := h
  simp [strNums, List.getElem?_map]
  rw [Array.getElem?_eq_getElem h2]
  exact ⟨_, rfl, rfl⟩

theorem all_snoc {s : ByteArray} {k : Nat} (h : k < s.size) : ((strNums s).take (k + 1)).all nameB = (((strNums s).take k).all nameB && nameB ((s[k].toNat : Nat) : Int)) := by
  have h2 : k < (strNums s).length := by rw [strNums_len]; exact h
  have h3 := strNums_at h
  rw [List.getElem?_eq_getElem h2] at h3
  rw [List.take_succ_eq_append_getElem h2, List.all_append, Option.some.inj h3]
  simp

theorem all_no {s : ByteArray} {k : Nat} (h : k < s.size) (hn : nameB ((s[k].toNat : Nat) : Int) = false) : (strNums s).all nameB = false := by
  rw [← List.take_append_drop (k + 1) (strNums s), List.all_append, all_snoc h, hn]
  simp

theorem codecName_any (s : ByteArray) (w : World) (hs : s.size ≤ maxLen) : Calls Try.prog 25 #[.string s] w fun e w' => e = .returned (.bool (nameS s)) ∧ w' = w := by
  unfold maxLen at hs
  by_cases h1 : s.size < 1
  · have e : nameS s = false := by simp [nameS]; omega
    rw [e]
    have h1' : (s.size : Int) < 1 := by omega
    go_enter Try.func25, Try.ntmps25
    go_wp2
    go_ret
    exact ⟨rfl, rfl⟩
  · have h1' : ¬ (s.size : Int) < 1 := by omega
    by_cases h2 : 32 < s.size
    · have e : nameS s = false := by simp [nameS]; omega
      rw [e]
      have h2' : (32 : Int) < (s.size : Int) := by omega
      go_enter Try.func25, Try.ntmps25
      go_wp2
      go_ret
      exact ⟨rfl, rfl⟩
    · have e : nameS s = (strNums s).all nameB := by
        unfold nameS
        rw [decide_eq_true (p := 1 ≤ s.size) (by omega), decide_eq_true (p := s.size ≤ 32) (by omega)]
        simp
      rw [e]
      have h2' : ¬ (32 : Int) < (s.size : Int) := by omega
      clear e
      go_enter Try.func25, Try.ntmps25
      go_wp2
      go_loop [14] (fun i => ∃ k : Nat, k ≤ s.size ∧ i = .int .i64 k ∧ ((strNums s).take k).all nameB = true) (fun i => s.size - (intOf i).toNat)
      case atStart => exact ⟨0, by omega, rfl, rfl⟩
      case round =>
        obtain ⟨k, hk, rfl, hall⟩ := hrel
        by_cases hlt : k < s.size
        · by_cases hn : nameB ((s[k].toNat : Nat) : Int) = true
          · have HA : Hid (((strNums s).take (k + 1)).all nameB = true) := by show _ = _; rw [all_snoc hlt, hall, hn]; rfl
            have hcl := nameByte_any ((s[k].toNat : Nat) : Int) w
            rw [hn] at hcl
            have HCL := hid hcl
            clear hall hn hcl
            go_wp2_with fail
            refine HCL.out.mono ?_
            rintro e w' ⟨rfl, rfl⟩
            go_wp2
            go_round
            case rel => exact ⟨k + 1, by omega, by go_num, HA.out⟩
            case measure => simp [intOf]; omega
          · have hn' := Bool.eq_false_iff.2 hn
            have HA : Hid ((strNums s).all nameB = false) := all_no hlt hn'
            have hcl := nameByte_any ((s[k].toNat : Nat) : Int) w
            rw [hn'] at hcl
            have HCL := hid hcl
            clear hall hn hn' hcl
            go_wp2_with fail
            refine HCL.out.mono ?_
            rintro e w' ⟨rfl, rfl⟩
            go_wp2
            go_ret
            exact ⟨ret_bool HA.out.symm, rfl⟩
        · have HA : Hid ((strNums s).all nameB = true) := by
            show _ = _
            rw [List.take_of_length_le (by rw [strNums_len]; omega)] at hall
            exact hall
          clear hall
          go_wp2
          go_ret
          exact ⟨ret_bool HA.out.symm, rfl⟩

theorem refName_any (s : ByteArray) (w : World) (hs : s.size ≤ maxLen) : Calls Try.prog 30 #[.string s] w fun e w' => e = .returned (.bool (nameS s)) ∧ w' = w := by
  unfold maxLen at hs
  go_enter Try.func30, Try.ntmps30
  go_wp2
  go_loop [3] (fun i => ∃ k : Nat, k ≤ s.size ∧ i = .int .i64 k ∧ ((strNums s).take k).all nameB = true) (fun i => s.size - (intOf i).toNat)
  case atStart => exact ⟨0, by omega, rfl, rfl⟩
  case round =>
    obtain ⟨k, hk, rfl, hall⟩ := hrel
    by_cases hlt : k < s.size
    · have HY : nameB ((s[k].toNat : Nat) : Int) = true → Hid (((strNums s).take (k + 1)).all nameB = true) := by intro hn; show _ = _; rw [all_snoc hlt, hall, hn]; rfl
      have HN : nameB ((s[k].toNat : Nat) : Int) = false → Hid (nameS s = false) := by intro hn; show _ = _; unfold nameS; rw [all_no hlt hn]; simp
      rcases nameB_cases ((s[k].toNat : Nat) : Int) with ⟨h, e⟩ | ⟨h, e⟩ | ⟨⟨h, h'⟩, e⟩ | ⟨⟨h, h'⟩, e⟩ | ⟨⟨h, h'⟩, e⟩ | ⟨⟨h, h'⟩, e⟩ | ⟨h, e⟩
      · have HF := HN e
        clear HY HN e hall
        have hne : ((s[k].toNat : Int) != 45) = true := by simp; omega
        go_wp2
        go_ret
        exact ⟨ret_bool HF.out.symm, rfl⟩
      · have HF := HY e
        clear HY HN e hall
        go_wp2
        go_round
        case rel => exact ⟨k + 1, by omega, by go_num, HF.out⟩
        case measure => simp [intOf]; omega
      · have HF := HN e
        clear HY HN e hall
        have hne : ((s[k].toNat : Int) != 45) = true := by simp; omega
        go_wp2
        go_ret
        exact ⟨ret_bool HF.out.symm, rfl⟩
      · have HF := HY e
        clear HY HN e hall
        go_wp2
        go_round
        case rel => exact ⟨k + 1, by omega, by go_num, HF.out⟩
        case measure => simp [intOf]; omega
      · have HF := HN e
        clear HY HN e hall
        have hne : ((s[k].toNat : Int) != 45) = true := by simp; omega
        go_wp2
        go_ret
        exact ⟨ret_bool HF.out.symm, rfl⟩
      · have HF := HY e
        clear HY HN e hall
        go_wp2
        go_round
        case rel => exact ⟨k + 1, by omega, by go_num, HF.out⟩
        case measure => simp [intOf]; omega
      · have HF := HN e
        clear HY HN e hall
        have hne : ((s[k].toNat : Int) != 45) = true := by simp; omega
        go_wp2
        go_ret
        exact ⟨ret_bool HF.out.symm, rfl⟩
    · have hall' : (strNums s).all nameB = true := by
        rw [List.take_of_length_le (by rw [strNums_len]; omega)] at hall
        exact hall
      have e0 : nameS s = (decide (1 ≤ s.size) && decide (s.size ≤ 32)) := by unfold nameS; rw [hall']; simp
      clear hall hall'
      by_cases h1 : 1 ≤ s.size
      · have h1' : (1 : Int) ≤ (s.size : Int) := by omega
        by_cases h2 : s.size ≤ 32
        · have h2' : (s.size : Int) ≤ 32 := by omega
          have HE : Hid (nameS s = true) := by show _ = _; rw [e0, decide_eq_true h1, decide_eq_true h2]; rfl
          clear e0
          go_wp2
          go_ret
          exact ⟨ret_bool HE.out.symm, rfl⟩
        · have h2' : ¬ (s.size : Int) ≤ 32 := by omega
          have HE : Hid (nameS s = false) := by show _ = _; rw [e0, decide_eq_false h2]; simp
          clear e0
          go_wp2
          go_ret
          exact ⟨ret_bool HE.out.symm, rfl⟩
      · have h1' : ¬ (1 : Int) ≤ (s.size : Int) := by omega
        have HE : Hid (nameS s = false) := by show _ = _; rw [e0, decide_eq_false h1]; rfl
        clear e0
        go_wp2
        go_ret
        exact ⟨ret_bool HE.out.symm, rfl⟩
end Go.Proofs.Ytmpkbdhihdboiaa
