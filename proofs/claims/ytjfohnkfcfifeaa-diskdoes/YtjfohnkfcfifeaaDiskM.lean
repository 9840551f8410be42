/-
  Package disk: unsure, lasting: what a Crash is told to keep.
-/
import Derived.Test.YtjfohnkfcfifeaaDiskG
import Derived.Deep.RegionLaw
import Derived.Deep.RegionWith
namespace Go.Proofs.Ytjfohnkfcfifeaa
open Go.RowKit Go.Maps

/-- What is handed to Crash: names and how many bytes are kept. -/
structure HeldT (w : World) (ao : Option Addr) (ts : List (ByteArray × Int)) : Prop where
  name : ∀ t ∈ ts, t.1.size ≤ maxLen
  num : ∀ t ∈ ts, -9223372036854775808 ≤ t.2 ∧ t.2 ≤ 9223372036854775807
  few : ts.length ≤ 140737488355328
  cell : ts = [] ∨ ∃ b off, ao = some ⟨b, off, none⟩ ∧ b < w.heap.size ∧ ∀ j (hj : j < ts.length), w.cell? ⟨b, off + j * 2, none⟩ = some (.string ts[j].1) ∧ w.cell? ⟨b, off + j * 2 + 1, none⟩ = some (.int .i64 ts[j].2)
theorem HeldT.below {w w' : World} {ao : Option Addr} {ts : List (ByteArray × Int)} {B : Nat} (h : HeldT w ao ts) (hb : Below B w w') (hB : w.heap.size ≤ B) : HeldT w' ao ts := by
  refine ⟨h.name, h.num, h.few, ?_⟩
  rcases h.cell with h0 | ⟨b, off, ha, hlt, hc⟩
  · exact .inl h0
  · refine .inr ⟨b, off, ha, Nat.lt_of_lt_of_le hlt hb.size, fun j hj => ?_⟩
    rw [hb.cell (p := ⟨b, off + j * 2, none⟩) (by show b < B; omega), hb.cell (p := ⟨b, off + j * 2 + 1, none⟩) (by show b < B; omega)]
    exact hc j hj

def tfind (ts : List (ByteArray × Int)) (s : ByteArray) : Option Int := (ts.find? (fun t => decide (t.1 = s))).map (·.2)
/-- May this one be, behind those? -/
def okOne (fs : List Fl) (pre : List (ByteArray × Int)) (t : ByteArray × Int) : Prop := tfind pre t.1 = none ∧ 0 ≤ t.2 ∧ ∃ f, ffind fs t.1 = some f ∧ t.2 ≤ f.bytes.length - f.sure
def okFrom (fs : List Fl) : List (ByteArray × Int) → List (ByteArray × Int) → Prop
  | _, [] => True
  | pre, t :: r => okOne fs pre t ∧ okFrom fs (pre ++ [t]) r
theorem okFrom_at {fs : List Fl} : ∀ {pre ts : List (ByteArray × Int)} (_ : okFrom fs pre ts) {j : Nat} (hj : j < ts.length), okOne fs (pre ++ ts.take j) ts[j]
  | pre, t :: r, h, 0, _ => by simpa using h.1
  | pre, t :: r, h, j + 1, hj => by
    have := okFrom_at h.2 (j := j) (by simpa using hj)
    simpa using this
theorem tfind_snoc (ts : List (ByteArray × Int)) (t : ByteArray × Int) (hn : tfind ts t.1 = none) (s : ByteArray) : tfind (ts ++ [t]) s = if s = t.1 then some t.2 else tfind ts s := by
  unfold tfind at *
  rw [List.find?_append]
  by_cases h : s = t.1
  · subst h
    have : ts.find? (fun u => decide (u.1 = t.1)) = none := by simpa using hn
    rw [this, if_pos rfl]
    simp
  · rw [if_neg h]
    have : [t].find? (fun u => decide (u.1 = s)) = none := by
      have : ¬ t.1 = s := fun e => h e.symm
      simp [this]
    rw [this]
    simp

section
variable {w : World} {p bm : Nat} {size calls : Int} {fs : List Fl} {D : DataW Value}
theorem unsure_any {f : Fl} (hf : FlAt w f) (hl : f.bytes.length ≤ 268435456) : Calls Try.prog 59 #[.pointer (some ⟨f.ptr, 0, none⟩)] w fun e w' => e = .returned (.int .i64 (f.bytes.length - f.sure)) ∧ ∃ q, w' = w.drewN q := by
  obtain ⟨ao, cap, hv, _⟩ := flAt_held hf
  have c0 := hf.blk.cell (i := 0) rfl
  have c1 := hf.blk.cell (i := 1) rfl
  have hs := hf.sure
  rw [hv] at c0
  clear hf hv
  have hw : IntKind.i64.wrap ((f.bytes.length : Int) - (f.sure : Int)) = (f.bytes.length : Int) - (f.sure : Int) := (IntKind.wrap_i64 _).trans (by omega)
  go_enter Try.func59, Try.ntmps59
  go_wp2
  go_region_held3 (fun V => V.cell? ⟨f.ptr, 0, none⟩ = some (.slice ao f.bytes.length cap) ∧ V.cell? ⟨f.ptr, 1, none⟩ = some (.int .i64 f.sure)) (go_keep) (fail)
  go_wp2
  go_ret
  exact ⟨rfl, 1, rfl⟩

theorem Try.zeroInt (w : World) : (zeroValue 3).run Try.prog w = .ok (.int .i64 0) w := by kernel_rfl

theorem lastBelow {W1 w6 : World} {q : Nat} (hb : Below w.heap.size w W1) (hm : (W1.drewN q).mapTurned w6 w.heap.size) : Below w.heap.size w w6 :=
  (below_dn hb q).grown hm.grown hb.size (fun k hk => by cases hk; exact Nat.le_refl _)
theorem lastLook {W1 : World} {m j : Nat} {D' : DataW Value} {ts : List (ByteArray × Int)} {s : ByteArray} {x : Int} (hown : W1.ownsMap Try.prog 9 valR m j D') (hl : ∀ s, look D' (key s) = (tfind (ts.take j) s).map (Value.int .i64)) (ht : ts.take (j + 1) = ts.take j ++ [(s, x)]) (hn : tfind (ts.take j) s = none) (u : ByteArray) :
    look (D'.put (key s) (.held (.int .i64 x))) (key u) = (tfind (ts.take (j + 1)) u).map (Value.int .i64) := by
  rw [ht, tfind_snoc _ _ hn]
  have hkl : WideAt.IsKeyLit (key s) := by simp [key, WideAt.IsKeyLit]
  by_cases e : u = s
  · subst e
    rw [if_pos rfl, look_put_same hown.isMap hkl]
    rfl
  · rw [if_neg e, look_put_other (fun e' => e (key_inj e')), hl]

set_option maxRecDepth 100000 in
set_option maxHeartbeats 2000000 in
theorem lasting_ok (h : DiskAt w p bm size calls fs D) (ao : Option Addr) (cap : Nat) (ts : List (ByteArray × Int)) (hT : HeldT w ao ts) (hok : okFrom fs [] ts) :
    Calls Try.prog 42 #[.pointer (some ⟨p, 0, none⟩), .slice ao ts.length cap] w fun e w' => e = .returned (.tuple #[.map (some w.heap.size), .bool true]) ∧ (∃ D', w'.ownsMap Try.prog 9 valR w.heap.size ts.length D' ∧ ∀ s, look D' (key s) = (tfind ts s).map (Value.int .i64)) ∧ Below w.heap.size w w' := by
  have HH := hid h
  have HT := hid hT
  have HOK := hid hok
  have hfew := hT.few
  clear h hT hok
  go_enter Try.func42, Try.ntmps42
  have hmm := @run_makeMap Try.prog
  go_wp2
  clear hmm
  go_loopw [15] (fun a wr => ∃ (j : Nat) (D' : DataW Value), j ≤ ts.length ∧ a = .int .i64 j ∧ wr.ownsMap Try.prog 9 valR w.heap.size j D' ∧ (∀ s, look D' (key s) = (tfind (ts.take j) s).map (Value.int .i64)) ∧ Below w.heap.size w wr) (fun a _ => ts.length - (intOf a).toNat)
  case atStart => exact ⟨0, .map [], Nat.zero_le _, rfl, World.ownsMap_made w _ _ _, fun s => rfl, (Below.refl _ w).alloc (Nat.le_refl _) _⟩
  case round =>
    obtain ⟨j, D', hj, rfl, hown, hlook, hbel⟩ := hrel
    have HO := hid hown
    have HL := hid hlook
    have HB := hid hbel
    clear hown hlook hbel
    by_cases hlt : j < ts.length
    · obtain ⟨t, ht⟩ : ∃ t, t = ts[j] := ⟨_, rfl⟩
      have htm : t ∈ ts := by rw [ht]; exact List.getElem_mem hlt
      have hTr := HT.out.below HB.out (Nat.le_refl _)
      rcases hTr.cell with h0 | ⟨b, off, hao, hbl, hc⟩
      · rw [h0] at hlt
        simp at hlt
      subst hao
      obtain ⟨hc0, hc1⟩ := hc j hlt
      rw [← ht] at hc0 hc1
      have hlt' : (j : Int) < (ts.length : Int) := by omega
      have hok := okFrom_at HOK.out hlt
      rw [← ht, List.nil_append] at hok
      obtain ⟨hno, hge, f, hf, hle⟩ := hok
      have HNO := hid hno
      have HF := hid hf
      have hnm := HT.out.name t htm
      have hr1 := HB.out.size
      obtain ⟨s, x⟩ := t
      have HHr := hid (HH.out.below HB.out (Nat.le_refl _))
      have HTS : Hid (ts.take (j + 1) = ts.take j ++ [(s, x)]) := by show _ = _; rw [List.take_succ_eq_append_getElem hlt, ← ht]
      have hd1 : decide (x < 0) = false := by rw [decide_eq_false_iff_not]; simpa using hge
      have hd2 : decide ((f.bytes.length : Int) - (f.sure : Int) < x) = false := by rw [decide_eq_false_iff_not]; simp at hle; omega
      have hep := fun W => eql_ptr_nil W f.ptr
      have hcp := HHr.out.blk.cell (i := 1) rfl
      have hpl := HHr.out.blk.lt
      clear hTr hc hno hf ht htm hge hle
      simp only at hc0 hc1
      go_wp2
      have HBK : Hid (Blk (wr.alloc (.cells #[.string s, .int .i64 x] 53)) wr.heap.size 53 [.string s, .int .i64 x]) := Blk.new wr 53 [.string s, .int .i64 x]
      have HD1 := hid (HHr.out.alloc (.cells #[.string s, .int .i64 x] 53))
      have HO1 := hid (HO.out.alloc (.cells #[.string s, .int .i64 x] 53))
      have HB1 : Hid (Below w.heap.size w (wr.alloc (.cells #[.string s, .int .i64 x] 53))) := HB.out.alloc hr1 _
      have hkb : w.heap.size ≤ wr.heap.size := hr1
      generalize wr.alloc (.cells #[.string s, .int .i64 x] 53) = W1 at *
      generalize wr.heap.size = kb at *
      clear hc0 hc1 hcp hpl
      have k0 := HBK.out.cell (i := 0) rfl
      have k1 := HBK.out.cell (i := 1) rfl
      have cp := HD1.out.blk.cell (i := 1) rfl
      have hlk := dlook HD1.out.drew hnm
      rw [HF.out] at hlk
      simp only [Option.map_some, Option.getD_some, Fl.at] at hlk
      have HKEY := hid (Try.keyStr hnm)
      have HV : Hid ((look D' (key s)).getD (.int .i64 0) = .int .i64 0) := by show _ = _; rw [HL.out, HNO.out]; rfl
      have HV2 : Hid ((look D' (key s)).isSome = false) := by show _ = _; rw [HL.out, HNO.out]; rfl
      have HFM := hid (ffind_mem HF.out).1
      have hbl : f.bytes.length ≤ 268435456 := by have h1 := total_mem HFM.out; have h2 := HH.out.room; have h3 := HH.out.big; omega
      go_region_held3 (fun V => V.cell? ⟨kb, 0, none⟩ = some (.string s) ∧ V.cell? ⟨p, 1, none⟩ = some (.map (some bm)) ∧ (Instr.lookup 49 (.map (some bm)) (.string s) false).run Try.prog V = .ok (.pointer (some ⟨f.ptr, 0, none⟩)) V) (first | go_keep | (refine ⟨?_, ?_, ?_⟩ <;> assumption)) (fail)
      clear hlk
      go_wp2_with (at_lookup; refine wpList_look_ok _ rfl _ _ 72 rfl 9 3 Try.keyedStr Try.underlying72 (.int .i64 0) (Try.zeroInt _) w.heap.size _ D' rfl HO1.out.drew _ (key s) rfl HKEY.out (.int .i64 0) false HV.out HV2.out ?_)
      go_region_held3 (fun V => V.cell? ⟨kb, 1, none⟩ = some (.int .i64 x)) (go_keep)
        (first | (go_at_call 59; refine (unsure_any (HD1.out.drew.drew.files f HFM.out) hbl).mono ?_; rintro e w3 ⟨rfl, q, rfl⟩))
      obtain ⟨w6, hrun, hown6, hmt⟩ := (show (W1.drewN (1 + (1 + q))).ownsMap Try.prog 9 valR w.heap.size j D' from HO1.out).store Try.keyedStr Try.underlying72 (by unfold maxLen; omega) (Try.keyStr hnm) (show valR (.int .i64 x) = some (.held (.int .i64 x), []) from rfl)
      have HO6 := hid hown6
      have HM6 := hid hmt
      clear hown6 hmt
      go_wp2
      go_roundw
      case rel => exact ⟨j + 1, _, by omega, by go_num, HO6.out, lastLook HO1.out HL.out HTS.out HNO.out, lastBelow HB1.out HM6.out⟩
      case measure => simp [intOf]; omega
    · obtain rfl : j = ts.length := by omega
      rw [List.take_length] at HL
      go_wp2
      go_ret2
      exact ⟨rfl, ⟨D', HO.out, HL.out⟩, HB.out⟩
end
end Go.Proofs.Ytjfohnkfcfifeaa
/-
  Package disk: cut; Crash, where what is kept may be.
-/
namespace Go.Proofs.Ytjfohnkfcfifeaa
open Go.RowKit Go.Maps

/-- A file of which the first n bytes are left, all sure. -/
def Fl.cutTo (f : Fl) (n : Nat) (v : Value) : Fl := { f with v := v, bytes := f.bytes.take n, sure := n }
theorem nums_take (bs : List Int) (n : Nat) : nums (bs.take n) = (nums bs).take n := by simp [nums]
theorem row_cut {w : World} {B e n : Nat} {ao : Option Addr} {len cap : Nat} {bs : List Int} (h : w.ownsRow B e 1 (.slice ao len cap) len (nums bs)) (hl : bs.length = len) (hn : n ≤ len) : w.ownsRow B e 1 (.slice ao n cap) n (nums (bs.take n)) := by
  rcases h.2 with ⟨he, h0⟩ | ⟨g, cap', cur, he, hB, hg, hc, hm, hs, ht⟩
  · cases he
    obtain rfl : n = 0 := by omega
    exact World.ownsRow_nil _ _ _ _
  · cases he
    refine ⟨?_, .inr ⟨g, cap, cur, rfl, hB, hg, by omega, hm, hs, ?_⟩⟩
    · rw [nums_len]
      simp
      omega
    · rw [nums_take, ← ht, List.take_take]
      congr 1
      omega

section
variable {w : World} {p bm : Nat} {size calls : Int} {fs : List Fl} {D : DataW Value}
theorem cut_any {f : Fl} (hf : FlAt w f) (n : Nat) (hn : n ≤ f.bytes.length) : Calls Try.prog 43 #[.pointer (some ⟨f.ptr, 0, none⟩), .int .i64 n] w fun e w' => e = .returned (.tuple #[]) ∧ ∃ v, FlAt w' (f.cutTo n v) ∧ v.ownBlock = f.v.ownBlock ∧ Turns (fun i => i = f.ptr) w w' := by
  obtain ⟨i0, hi, hz0, hz1, hz2⟩ := info_parts Try.info5
  have hcells : Try.prog.cellsOf 5 = 1 := by simp [Program.cellsOf, hi, hz1]
  obtain ⟨ao, cap, hv, hh⟩ := flAt_held hf
  have c0 := hf.blk.cell (i := 0) rfl
  have c1 := hf.blk.cell (i := 1) rfl
  have f0 := hf.blk.frozen 0
  have f1 := hf.blk.frozen 1
  rw [hv] at c0
  have hsz1 : ∀ w, (Go.sizeOf 5).run Try.prog w = .ok 1 w := fun w => by kernel_rfl
  have hcut := fun W => run_cut_h (P := Try.prog) W 31 5 Try.underlying31 hsz1 ao f.bytes.length cap n (n : Int) rfl (by have := hh.hcap; omega)
  have HF := hid hf
  have HV := hid hv
  clear hf hv hsz1
  go_enter Try.func43, Try.ntmps43
  go_wp2
  go_end0
  have hpr : some f.ptr ≠ (Value.slice ao n cap).ownBlock := by
    have := HF.out.blk.not_row (by decide) HF.out.row
    rw [HV.out] at this
    cases ao <;> exact this
  have hrow : w.ownsRow 0 5 1 (.slice ao n cap) n (nums (f.bytes.take n)) := row_cut (by rw [← HV.out]; exact HF.out.row) rfl hn
  refine ⟨rfl, .slice ao n cap, ⟨(HF.out.blk.set 0 _).set 1 _, ?_, HF.out.byte.take n, ?_⟩, ?_, Turns.setCell (F := fun i => i = f.ptr) (Turns.setCell (F := fun i => i = f.ptr) (Turns.refl _ w) (p := ⟨f.ptr, 0, none⟩) (.inl rfl) _) (p := ⟨f.ptr, 1, none⟩) (.inl rfl) _⟩
  · have h1 := hrow.kept (grownBy_setIn w f.ptr 0 (.slice ao n cap)) (.inr hpr.symm)
    have h2 := h1.kept (grownBy_setIn _ f.ptr 1 (.int .i64 n)) (.inr hpr.symm)
    simpa [Fl.cutTo, Nat.min_eq_left hn] using h2
  · simp [Fl.cutTo]
    omega
  · rw [HV.out]
    cases ao <;> rfl
end
end Go.Proofs.Ytjfohnkfcfifeaa
