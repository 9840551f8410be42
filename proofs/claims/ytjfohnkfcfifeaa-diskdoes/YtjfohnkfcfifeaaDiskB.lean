/-
  Package disk: ranging over the files; Left.
-/
import Derived.Test.YtjfohnkfcfifeaaDiskA
import Derived.Sort.MapsRangeIn
namespace Go.Proofs.Ytjfohnkfcfifeaa
open Go.RowKit Go.Maps

theorem keyStr_inv {k : Value} {kl : Lit} (h : keyOf Try.prog 9 k = some kl) : ∃ s, k = .string s ∧ kl = key s ∧ s.size ≤ maxLen := by
  have hk := Try.underlying9
  obtain ⟨s, rfl⟩ := Maps.keyOf_string_inv hk h
  simp [keyOf, hk, mapKey] at h
  exact ⟨s, rfl, h.2.symm, h.1⟩
theorem key_same (s t : ByteArray) : (key s).sameKey (key t) = decide (s = t) := by
  by_cases h : s = t
  · subst h
    rw [decide_eq_true rfl]
    exact WideAt.sameKey_self (Try.keyedStr.key (show keyOf Try.prog 9 (.string ⟨#[]⟩) = some (key ⟨#[]⟩) from Try.keyStr (by decide)) |> fun _ => by simp [key, WideAt.IsKeyLit])
  · rw [decide_eq_false h]
    exact sameKey_ne (fun e => h (key_inj e))

section
variable {P : Program} (w : World) {ops : Array Oper} {rest : List Oper} {o : Oper} {a : Act} {Q : Exit → Act → World → Prop}
/-- The step of a range over the files. -/
theorem wpList_next_fs (hg : o.guard = none) (it : Operand) (hop : o.op = Op.next it false) (fs : List Fl) (b r n : Nat) (D : DataW Value) (hlook : ∀ s : ByteArray, look D (key s) = (ffind fs s).map Fl.at) (left : Lit → Bool) (cnt : Nat)
    (hit : a.eval it = .pointer (some ⟨r, 0, none⟩)) (h : w.ranges Try.prog 9 valR b r n D left cnt)
    (hDone : cnt = 0 → (∀ kl, left kl = false) → wpList Try.prog ops Q rest (a.put o.dst (.tuple #[.bool false])) w)
    (hMore : ∀ (f : Fl) (w' : World) (cnt' : Nat), f ∈ fs → ffind fs f.name = some f → left (key f.name) = true → w'.ranges Try.prog 9 valR b r n D (fun z => left z && !z.sameKey (key f.name)) cnt' → cnt' < cnt → w.grownBy w' (some r) → w'.heap.size = w.heap.size →
      (Instr.entry (.pointer (some ⟨r, 0, none⟩))).run Try.prog w' = .ok (.tuple #[.string f.name, .pointer (some ⟨f.ptr, 0, none⟩)]) w' → wpList Try.prog ops Q rest (a.put o.dst (.tuple #[.bool true, .string f.name, .pointer (some ⟨f.ptr, 0, none⟩)])) w') :
    wpList Try.prog ops Q (o :: rest) a w := by
  refine wpList_plain hg fun K' hK' => ?_
  unfold Oper.wp
  rcases h.next Try.keyedStr o.type with ⟨h0, hl, hrun⟩ | ⟨k, v, kl, y, w', cnt', hkey, hlk, hv, hat, hrun, hrg, hlt, hgr, hsz, hen⟩
  · simp [execOp, hop, hit, hrun, Result.andThen]
    exact hK' _ _ (hDone h0 hl)
  · obtain ⟨s, rfl, rfl, hs⟩ := keyStr_inv hkey
    unfold valR at hv
    cases hv
    have hl := hlook s
    rw [look_at hat] at hl
    obtain ⟨f, hf, hfv⟩ := Option.map_eq_some_iff.1 hl.symm
    obtain ⟨hm, rfl⟩ := ffind_mem hf
    unfold Fl.at at hfv
    subst hfv
    simp [execOp, hop, hit, hrun, Result.andThen]
    exact hK' _ _ (hMore f w' cnt' hm hf hlk hrg hlt hgr hsz hen)
end

/-- How many bytes the files have that have come. -/
def come (left : Lit → Bool) : List Fl → Nat
  | [] => 0
  | f :: r => (bif left (key f.name) then 0 else f.bytes.length) + come left r
theorem come_start : ∀ (fs : List Fl) {left : Lit → Bool} (_ : ∀ f ∈ fs, left (key f.name) = true), come left fs = 0
  | [], _, _ => rfl
  | f :: r, _, h => by
    rw [come, h f (by simp), come_start r (fun g hg => h g (by simp [hg]))]
    rfl
theorem come_end : ∀ (fs : List Fl) {left : Lit → Bool} (_ : ∀ kl, left kl = false), come left fs = total fs
  | [], _, _ => rfl
  | f :: r, _, h => by rw [come, h, come_end r h, total]; rfl
theorem come_le : ∀ (fs : List Fl) (left : Lit → Bool), come left fs ≤ total fs
  | [], _ => Nat.le_refl _
  | f :: r, left => by
    have := come_le r left
    rw [come, total]
    cases left (key f.name)
    · simp
      omega
    · simp
      omega
theorem come_same {left left' : Lit → Bool} : ∀ (fs : List Fl) (_ : ∀ f ∈ fs, left (key f.name) = left' (key f.name)), come left fs = come left' fs
  | [], _ => rfl
  | f :: r, h => by rw [come, come, h f (by simp), come_same r (fun g hg => h g (by simp [hg]))]
theorem come_step {left : Lit → Bool} : ∀ {fs : List Fl} (_ : fs.Pairwise (fun f g => f.name ≠ g.name)) {f : Fl} (_ : f ∈ fs) (_ : left (key f.name) = true), come (fun z => left z && !z.sameKey (key f.name)) fs = come left fs + f.bytes.length
  | g :: r, hn, f, hf, hl => by
    obtain ⟨h1, h2⟩ := List.pairwise_cons.1 hn
    rw [come, come]
    rcases List.mem_cons.1 hf with e | hf'
    · subst e
      have e2 : come (fun z => left z && !z.sameKey (key f.name)) r = come left r := come_same r (fun x hx => by
        show (left (key x.name) && !(key x.name).sameKey (key f.name)) = left (key x.name)
        rw [key_same, decide_eq_false (Ne.symm (h1 x hx))]
        simp)
      have e3 : (left (key f.name) && !(key f.name).sameKey (key f.name)) = false := by
        rw [key_same, decide_eq_true rfl]
        simp
      rw [e2, e3, hl]
      simp
      omega
    · have e3 : (left (key g.name) && !(key g.name).sameKey (key f.name)) = left (key g.name) := by
        rw [key_same, decide_eq_false (h1 f hf')]
        simp
      rw [e3, come_step h2 hf' hl]
      omega

theorem left_nil (w : World) : Calls Try.prog 17 #[.pointer none] w fun e w' => e = .returned (.int .i64 0) ∧ w' = w := by
  go_enter Try.func17, Try.ntmps17
  go_wp2_with fail
  refine (dclosed_nil _).mono ?_
  rintro e w' ⟨rfl, rfl⟩
  go_wp2
  go_ret
  exact ⟨rfl, rfl⟩

section
variable {w : World} {p bm : Nat} {size calls : Int} {fs : List Fl} {D : DataW Value}
theorem ffind_self (hn : fs.Pairwise (fun f g => f.name ≠ g.name)) {f : Fl} (hf : f ∈ fs) : ffind fs f.name = some f := by
  unfold ffind
  induction fs with
  | nil => cases hf
  | cons g r ih =>
    obtain ⟨h1, h2⟩ := List.pairwise_cons.1 hn
    rcases List.mem_cons.1 hf with rfl | hf'
    · simp
    · rw [List.find?_cons_of_neg (by simpa using h1 f hf')]
      exact ih h2 hf'
theorem DiskAt.has (h : DiskAt w p bm size calls fs D) {f : Fl} (hf : f ∈ fs) : Maps.has D (key f.name) = true := by
  rw [has_look (allHeld_of h.map), h.look, ffind_self h.names hf]
  rfl

set_option maxRecDepth 100000 in
theorem left_any (h : DiskAt w p bm size calls fs D) :
    Calls Try.prog 17 #[.pointer (some ⟨p, 0, none⟩)] w fun e w' => e = .returned (.int .i64 (size - total fs)) ∧ Below w.heap.size w w' := by
  have HCL := hid h.closed
  have hc0 := h.blk.cell (i := 0) rfl
  have hc1 := h.blk.cell (i := 1) rfl
  have HH := hid h
  have hroom := h.room
  have hbig := h.big
  clear h
  go_enter Try.func17, Try.ntmps17
  go_wp2_with fail
  refine HCL.out.mono ?_
  rintro e w' ⟨rfl, h'⟩
  subst h'
  go_wp2_with (at_range; refine wpList_range_own _ rfl _ 49 rfl 9 57 Try.keyedStr Try.underlying49 valR bm _ D rfl HH.out.map ?_; intro w0 hrg0 hg0 hs0)
  go_frame
  go_loopw [3] (fun a wr => ∃ left cnt, a = .int .i64 (size - come left fs) ∧ wr.ranges Try.prog 9 valR bm w'.heap.size fs.length D left cnt ∧ Below w'.heap.size w' wr) (fun _ wr => wr.rangeLeft bm w'.heap.size)
  case atStart => exact ⟨_, _, by rw [come_start fs (fun f hf => HH.out.has hf)]; simp, hrg0, (Below.refl _ _).grown hg0 (Nat.le_refl _) (fun k hk => by cases hk)⟩
  case round =>
    obtain ⟨left, cnt, rfl, hrg, hbel⟩ := hrel
    have HRG := hid hrg
    have HB := hid hbel
    have hcl := come_le fs left
    clear hrg hbel hrg0 hg0 hs0
    go_wp2_with (first | (at_next; refine wpList_next_fs _ rfl _ rfl fs bm w'.heap.size fs.length D HH.out.look left cnt rfl HRG.out ?_ ?_) | fail)
    · intro _ hl
      have HE := hid (come_end fs hl)
      clear hl
      go_wp2
      go_ret
      exact ⟨by rw [HE.out]; rfl, HB.out⟩
    · intro f w1 cnt1 hfm _ hlf hrg1 hlt hgr hsz hen
      have HB1 : Hid (Below w'.heap.size w' w1) := HB.out.grown hgr HB.out.size (fun k hk => by cases hk; exact Nat.le_refl _)
      have hfa := (HH.out.below HB1.out (Nat.le_refl _)).files f hfm
      obtain ⟨ao, cap, hv, _⟩ := flAt_held hfa
      have hcf := hfa.blk.cell (i := 0) rfl
      rw [hv] at hcf
      have HST := hid (come_step HH.out.names hfm hlf)
      have hle := come_le fs (fun z => left z && !z.sameKey (key f.name))
      have HR1 := hid hrg1
      have HLT := hid hlt
      have hsum : (come left fs : Int) + f.bytes.length ≤ total fs := by have := HST.out; omega
      clear hfa hv hrg1 hlt hgr hsz hfm hlf hle
      go_wp2
      go_roundw
      case rel => exact ⟨_, _, by rw [HST.out]; go_num, HR1.out, HB1.out⟩
      case measure => rw [HR1.out.left_eq, HRG.out.left_eq]; exact HLT.out
end
end Go.Proofs.Ytjfohnkfcfifeaa
