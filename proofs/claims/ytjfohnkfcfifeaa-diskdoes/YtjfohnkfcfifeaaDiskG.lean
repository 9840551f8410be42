/-
  append of bytes in a region that draws its order: what the new slice holds, and which blocks have turned. No function of the program is named here.
-/
import Derived.Test.YtjfohnkfcfifeaaApps
import Derived.Deep.RegionLaw
import Derived.Test.YtjfohnkfcfifeaaDiskF
import Derived.Deep.RegionWith
import Derived.Deep.AppendLies
namespace Go.Proofs.Ytjfohnkfcfifeaa
open Go.RowKit

theorem step_append_grew {P : Program} {ops : Array Oper} {o : Oper} {a : Act} {w : World} {K : Act → World → Prop} {Q : Exit → Act → World → Prop} {E : Prop} (hgd : o.guard = none) (s x : Operand) (t : TypeId)
    (ho : o.op = .call { callee := .builtin .append, args := #[s, x], argTypes := #[t, t] })
    (base : Nat) (e : TypeId) (i : TypeInfo) (ht : P.underlying t = some (.slice e)) (hi : P.info? e = some i) (hz : i.zero = some (.int .u8 0)) (hsize : i.size = 1) (hby : i.bytes = 1)
    (v : Value) (n : Nat) (bs : List Int) (hs : a.eval s = v) (hown : w.ownsRow base e 1 v n (nums bs)) (hbs : AllB bs)
    (ao : Option Addr) (m c : Nat) (cs : List Int) (hx : a.eval x = .slice ao m c) (hh : Held w ao m c cs) (hsum : n + m ≤ 140737488355328) (hbase : base ≤ w.heap.size)
    (h : ∀ bo cp w', w'.ownsRow base e 1 (.slice bo (n + m) cp) (n + m) (nums (bs ++ cs)) → Grew w w' v (.slice bo (n + m) cp) → K (a.put o.dst (.slice bo (n + m) cp)) w') :
    if Region.wanted o (yielded ops a.tmps) = true then Oper.wp P o a w K Q else E := by
  have hw : Region.wanted o (yielded ops a.tmps) = true := by simp [Region.wanted, hgd]
  rw [if_pos hw]
  cases ao with
  | none =>
    have hc := hh.nil rfl
    have hm : m = 0 := by have := hh.hcap; omega
    subst hm hc
    have hcs : cs = [] := List.eq_nil_of_length_eq_zero hh.hlen
    subst hcs
    obtain ⟨bo, cp, rfl, hhv⟩ := held_of_own hown hbs
    have hr := run_append_owned_none (P := P) w base t o.type e i 1 ht hi _ n _ hown
    unfold Oper.wp execOp
    simp only [ho, resolve, invoke, builtin, Sem.run_bind, Sem.run_pure, Result.andThen_ok, List.map_toArray, List.map_cons, List.map_nil, hs, hx, hr]
    have := h bo cp w (by simpa using hown) (Grew.refl _ _)
    show K (a.put o.dst (.slice bo n cp)) w
    simpa using this
  | some ad =>
    obtain ⟨v', w', hr, hown', hgrow, _, hat⟩ := run_append_own_at (P := P) w base t o.type e i (.int .u8 0) 1 1 ht hi hz hsize hby rfl (by decide) v n (nums bs) hown ad m c (nums cs) (by rw [nums_len, hh.hlen]; omega) (hh.news ad rfl) (nums_one cs) (by unfold maxLen; omega) (by omega) hbase
    unfold Oper.wp execOp
    simp only [ho, resolve, invoke, builtin, Sem.run_bind, Sem.run_pure, Result.andThen_ok, List.map_toArray, List.map_cons, List.map_nil, hs, hx, hr]
    rw [← nums_append] at hown'
    obtain ⟨bo, cp, rfl, hhv⟩ := held_of_own hown' (hbs.append hh.byte)
    exact h bo cp w' hown' (Grew.of hgrow hat)
end Go.Proofs.Ytjfohnkfcfifeaa
/-
  Package disk: Append.
-/
namespace Go.Proofs.Ytjfohnkfcfifeaa
open Go.RowKit Go.Maps

section
variable {w : World} {p bm : Nat} {size calls : Int} {fs : List Fl} {D : DataW Value}

theorem total_mem : ∀ {fs : List Fl} {f : Fl} (_ : f ∈ fs), f.bytes.length ≤ total fs
  | g :: r, f, hf => by
    rw [total]
    rcases List.mem_cons.1 hf with e | hf'
    · subst e
      omega
    · have := total_mem hf'
      omega
theorem append_end {w3 w4 : World} {s : ByteArray} {f : Fl} {fo bo : Option Addr} {fc cp len : Nat} {bs : List Int} (h3 : DiskAt w3 p bm size calls fs D) (hb : Below w.heap.size w w3) (hf : ffind fs s = some f) (hv : f.v = .slice fo f.bytes.length fc) (hfa : FlAt w3 f)
    (hblk : Blk w4 f.ptr 60 [f.v, .int .i64 f.sure]) (hown : w4.ownsRow 0 5 1 (.slice bo (f.bytes.length + len) cp) (f.bytes.length + len) (nums (f.bytes ++ bs))) (hg : Grew w3.drew w4 (.slice fo f.bytes.length fc) (.slice bo (f.bytes.length + len) cp))
    (hl : bs.length = len) (hbs : AllB bs) (hroom : (total fs : Int) + len ≤ size) :
    Now w (w4.setCell ⟨f.ptr, 0, none⟩ (.slice bo (f.bytes.length + len) cp)) p bm size calls fs (setF fs { f with v := .slice bo (f.bytes.length + len) cp, bytes := f.bytes ++ bs }) := by
  obtain ⟨hm, hn⟩ := ffind_mem hf
  rw [← hv] at hg
  have ht : Turns f.Foot w3 (w4.setCell ⟨f.ptr, 0, none⟩ (.slice bo (f.bytes.length + len) cp)) := ((Turns.of_below (F := f.Foot) (drew_below w3) (Nat.le_refl _)).grown hg.1 (fun k hk => .inl (.inr hk))).setCell (p := ⟨f.ptr, 0, none⟩) (.inl (.inl rfl)) _
  have hpr : some f.ptr ≠ (Value.slice bo (f.bytes.length + len) cp).ownBlock := hblk.not_row (by decide) hown
  refine (Now.wrote h3 (f := f) (f' := { f with v := .slice bo (f.bytes.length + len) cp, bytes := f.bytes ++ bs }) (by rw [show f.name = s from hn]; exact hf) rfl ?_ ht ?_ ?_).ahead hb
  · refine ⟨hblk.set 0 _, ?_, hfa.byte.append hbs, ?_⟩
    · have := hown.kept (grownBy_setIn w4 f.ptr 0 (.slice bo (f.bytes.length + len) cp)) (.inr hpr.symm)
      simpa [hl] using this
    · have := hfa.sure
      simp
      omega
  · rintro i (e | e)
    · exact .inl (.inl e)
    · rcases hg.2 with h1 | ⟨k, h1, hk⟩
      · exact .inl (.inr (by rw [← h1]; exact e))
      · right
        rw [h1] at e
        cases e
        exact hk
  · simp [hl]
    omega

set_option maxRecDepth 100000 in
set_option maxHeartbeats 4000000 in
theorem append1_old (h : DiskAt w p bm size calls fs D) (s : ByteArray) (hs : s.size ≤ maxLen) {f : Fl} (hf : ffind fs s = some f) (n : Nat) (ao : Option Addr) (len cap : Nat) (bs : List Int) (hB : Held w ao len cap bs)
    (hd : Blk w n 23 [.pointer (some ⟨p, 0, none⟩)]) (hn : Blk w (n + 1) 9 [.string s]) (hb : Blk w (n + 2) 31 [.slice ao len cap]) (hroom : (total fs : Int) + len ≤ size) :
    Calls Try.prog 21 #[.pointer (some ⟨n, 0, none⟩), .pointer (some ⟨n + 1, 0, none⟩), .pointer (some ⟨n + 2, 0, none⟩)] w fun e w' => e = .returned (.int .i64 0) ∧ ∃ v', Now w w' p bm size calls fs (setF fs { f with v := v', bytes := f.bytes ++ bs }) := by
  obtain ⟨i0, hi, hz0, hz1, hz2⟩ := info_parts Try.info5
  have hc1 := h.blk.cell (i := 1) rfl
  have hlk := dlook h.drew hs
  rw [hf] at hlk
  simp only [Option.map_some, Option.getD_some, Fl.at] at hlk
  have hep := fun W => eql_ptr_nil W f.ptr
  have hd0 := hd.cell (i := 0) rfl
  have hn0 := hn.cell (i := 0) rfl
  have hb0 := hb.cell (i := 0) rfl
  have HD := hid hd
  have HN := hid hn
  have HBb := hid hb
  have HH := hid h
  have HHB := hid hB
  have hle : decide (size - (total fs : Int) < (len : Int)) = false := by rw [decide_eq_false_iff_not]; omega
  have HF := hid hf
  clear h hf hd hn hb hB
  go_enter Try.func21, Try.ntmps21
  go_wp2
  go_region_held3 (fun V => V.cell? ⟨n, 0, none⟩ = some (.pointer (some ⟨p, 0, none⟩)) ∧ V.cell? ⟨n + 1, 0, none⟩ = some (.string s) ∧ V.cell? ⟨p, 1, none⟩ = some (.map (some bm)) ∧ (Instr.lookup 49 (.map (some bm)) (.string s) false).run Try.prog V = .ok (.pointer (some ⟨f.ptr, 0, none⟩)) V) (first | go_keep | (refine ⟨?_, ?_, ?_, ?_⟩ <;> assumption)) (fail)
  go_wp2
  clear hlk
  go_region_with (go_at_call 17; refine (left_any (by first | exact HH.out.drew.drew | exact HH.out.drew)).mono ?_; rintro e w3 ⟨rfl, hbel⟩; have HB3 := hid hbel; have hx0 := (hbel.cell (p := ⟨n, 0, none⟩) (by simpa using HD.out.lt)); have hx1 := (hbel.cell (p := ⟨n + 2, 0, none⟩) (by simpa using HBb.out.lt)); clear hbel)
  all_goals
    have HB4 : Hid (Below w.heap.size w w3) := (drew_below w).trans ((drew_below w.drew).trans HB3.out)
    have hfm := (ffind_mem HF.out).1
    have HD3 := hid (HH.out.below HB4.out (Nat.le_refl _))
    have hfa := HD3.out.files f hfm
    obtain ⟨fo, fc, hv, _⟩ := flAt_held hfa
    have c0 := hfa.blk.cell (i := 0) rfl
    have f0 := hfa.blk.frozen 0
    have cb : w3.cell? ⟨n + 2, 0, none⟩ = some (.slice ao len cap) := (HBb.out.below HB4.out HBb.out.lt).cell (i := 0) rfl
    rw [hv] at c0
    have HV := hid hv
    have HFA := hid hfa
    have HH3 : Hid (Held w3 ao len cap bs) := HHB.out.below HB4.out (Nat.le_refl _)
    have hbl : f.bytes.length ≤ 268435456 := by have h1 := total_mem hfm; have h2 := HH.out.room; have h3 := HH.out.big; omega
    have hll : len ≤ 268435456 := by have h3 := HH.out.big; omega
    have hrow : w3.ownsRow 0 5 1 (.slice fo f.bytes.length fc) f.bytes.length (nums f.bytes) := by rw [← hv]; exact hfa.row
    have HROW := hid hrow
    clear hx0 hx1 HB3 hfa hv hrow hd0 hn0 hb0 hc1
    go_wp2
    go_region_law ((refine step_append_grew (by rfl) _ _ 31 (by rfl) 0 5 i0 Try.underlying31 hi hz0 hz1 hz2 (.slice fo f.bytes.length fc) f.bytes.length f.bytes (by rfl) (by exact HROW.out) HFA.out.byte ao len cap bs (by rfl) (by exact HH3.out.drew) (by omega) (Nat.zero_le _) ?_; intro bo cp w4 hown4 hgr4; have HO4 := hid hown4; have HG4 := hid hgr4; have hblk4 := HFA.out.blk.drew.kept hgr4.1 (by rw [← HV.out]; exact HFA.out.blk.not_row (by decide) HFA.out.row); have HK4 := hid hblk4; have c4 := hblk4.cell (i := 0) rfl; have f4 := hblk4.frozen 0; clear hown4 hgr4 hblk4))
    all_goals
      go_wp2
      go_ret
      refine ⟨rfl, .slice bo (f.bytes.length + len) cp, ?_⟩
      exact append_end HD3.out HB4.out HF.out HV.out HFA.out HK4.out HO4.out HG4.out HHB.out.hlen HHB.out.byte hroom
end
end Go.Proofs.Ytjfohnkfcfifeaa
