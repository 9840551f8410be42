/-
  Package disk: Crash, where what is kept may be.
-/
import Derived.Test.YtjfohnkfcfifeaaDiskM
namespace Go.Proofs.Ytjfohnkfcfifeaa
open Go.RowKit Go.Maps

/-- How many bytes a Crash leaves of a file. -/
def fall (ts : List (ByteArray × Int)) (f : Fl) : Nat := f.sure + ((tfind ts f.name).getD 0).toNat
def fellOne (ts : List (ByteArray × Int)) (V : ByteArray → Value) (left : Lit → Bool) (f : Fl) : Fl := bif left (key f.name) then f else f.cutTo (fall ts f) (V f.name)
theorem fellOne_name (ts : List (ByteArray × Int)) (V : ByteArray → Value) (left : Lit → Bool) (f : Fl) : (fellOne ts V left f).name = f.name := by
  unfold fellOne
  cases left (key f.name) <;> rfl
theorem fellOne_ptr (ts : List (ByteArray × Int)) (V : ByteArray → Value) (left : Lit → Bool) (f : Fl) : (fellOne ts V left f).ptr = f.ptr := by
  unfold fellOne
  cases left (key f.name) <;> rfl
theorem ffind_map (g : Fl → Fl) (hg : ∀ f, (g f).name = f.name) (fs : List Fl) (s : ByteArray) : ffind (fs.map g) s = (ffind fs s).map g := by
  unfold ffind
  rw [List.find?_map]
  congr 2
  funext f
  simp [hg]
/-- Behind a Crash, those that have come. -/
def fell (ts : List (ByteArray × Int)) (V : ByteArray → Value) (left : Lit → Bool) (fs : List Fl) : List Fl := fs.map (fellOne ts V left)
theorem fell_start {ts : List (ByteArray × Int)} {V : ByteArray → Value} {left : Lit → Bool} {fs : List Fl} (h : ∀ f ∈ fs, left (key f.name) = true) : fell ts V left fs = fs := by
  unfold fell
  conv => rhs; rw [← List.map_id fs]
  exact List.map_congr_left (fun f hf => by simp [fellOne, h f hf])
theorem fell_step {ts : List (ByteArray × Int)} {V : ByteArray → Value} {left : Lit → Bool} {fs : List Fl} (hn : fs.Pairwise (fun f g => f.name ≠ g.name)) {f : Fl} (hf : f ∈ fs) (v : Value) :
    setF (fell ts V left fs) (f.cutTo (fall ts f) v) = fell ts (fun s => if s = f.name then v else V s) (fun z => left z && !z.sameKey (key f.name)) fs := by
  unfold setF fell
  rw [List.map_map]
  refine List.map_congr_left (fun g hg => ?_)
  show (if (fellOne ts V left g).name = (f.cutTo (fall ts f) v).name then f.cutTo (fall ts f) v else fellOne ts V left g) = _
  rw [fellOne_name, show (f.cutTo (fall ts f) v).name = f.name from rfl]
  by_cases e : g.name = f.name
  · have : g = f := by
      have h1 := ffind_self hn hg
      rw [e, ffind_self hn hf] at h1
      exact (Option.some.inj h1).symm
    subst this
    rw [if_pos rfl]
    unfold fellOne
    dsimp only
    rw [key_same, decide_eq_true rfl]
    simp
  · rw [if_neg e]
    unfold fellOne
    dsimp only
    rw [key_same, decide_eq_false e]
    simp [e]
theorem fell_bound {fs : List Fl} {ts : List (ByteArray × Int)} (hok : okFrom fs [] ts) (hn : fs.Pairwise (fun f g => f.name ≠ g.name)) {f : Fl} (hf : f ∈ fs) (hs : f.sure ≤ f.bytes.length) : 0 ≤ (tfind ts f.name).getD 0 ∧ (f.sure : Int) + (tfind ts f.name).getD 0 = (fall ts f : Int) ∧ fall ts f ≤ f.bytes.length := by
  unfold fall
  cases ht : tfind ts f.name with
  | none => simp; exact hs
  | some x =>
    unfold tfind at ht
    obtain ⟨t, hft, hx⟩ := Option.map_eq_some_iff.1 ht
    have hm := List.mem_of_find?_eq_some hft
    have hnm : t.1 = f.name := by simpa using List.find?_some hft
    obtain ⟨j, hj, e⟩ := List.mem_iff_getElem.1 hm
    obtain ⟨_, h0, f', hff, hle⟩ := okFrom_at hok hj
    rw [e] at h0 hff hle
    rw [hnm, ffind_self hn hf] at hff
    cases hff
    subst hx
    simp
    omega

theorem nameS_max {s : ByteArray} (h : nameS s = true) : s.size ≤ maxLen := by
  unfold nameS at h
  simp at h
  unfold maxLen
  omega

theorem ranges_drew2 {w : World} {P : Program} {kt : TypeId} {bm r n cnt : Nat} {D : DataW Value} {left : Lit → Bool} (h : w.ranges P kt valR bm r n D left cnt) : w.drew.ranges P kt valR bm r n D left cnt := h
theorem _root_.Go.World.ranges.turned {w w' : World} {P : Program} {kt : TypeId} {bm r n cnt : Nat} {D : DataW Value} {left : Lit → Bool} {F : Nat → Prop} (h : w.ranges P kt valR bm r n D left cnt) (ht : Turns F w w') (hb : ¬ F bm) (hr : ¬ F r) : w'.ranges P kt valR bm r n D left cnt := by
  have h1 := h.owns.lt
  have h2 := h.lt
  obtain ⟨es, clock, since, seen, c0, a1, a2, a3, a4, a5, rest⟩ := h
  exact ⟨es, clock, since, seen, c0, (ht.block bm h1 hb).trans a1, a2, a3, a4, (ht.block r h2 hr).trans a5, rest⟩

section
variable {w : World} {p bm : Nat} {size calls : Int} {fs : List Fl} {D : DataW Value}

theorem crash_write {w1 w3 : World} {ts : List (ByteArray × Int)} {V : ByteArray → Value} {left : Lit → Bool} {f : Fl} {v : Value} (h : DiskAt w1 p bm size calls (fell ts V left fs) D) (hn : fs.Pairwise (fun f g => f.name ≠ g.name)) (hf : f ∈ fs) (hl : left (key f.name) = true) (hfl : FlAt w3 (f.cutTo (fall ts f) v)) (hob : v.ownBlock = f.v.ownBlock) (ht : Turns (fun i => i = f.ptr) w1 w3) (hle : fall ts f ≤ f.bytes.length) :
    DiskAt w3 p bm size calls (fell ts (fun s => if s = f.name then v else V s) (fun z => left z && !z.sameKey (key f.name)) fs) D ∧ (∀ i, DFoot p bm (fell ts (fun s => if s = f.name then v else V s) (fun z => left z && !z.sameKey (key f.name)) fs) i → DFoot p bm (fell ts V left fs) i) := by
  have hff : ffind (fell ts V left fs) f.name = some f := by
    unfold fell
    rw [ffind_map _ (fellOne_name ts V left), ffind_self hn hf]
    simp [fellOne, hl]
  have hm := (ffind_mem hff).1
  have hfoot : ∀ i, (f.cutTo (fall ts f) v).Foot i → f.Foot i := by
    rintro i (e | e)
    · exact .inl e
    · exact .inr (by rw [← hob]; exact e)
  rw [← fell_step hn hf v]
  constructor
  · refine h.setF (f := f) (f' := f.cutTo (fall ts f) v) hff rfl hfl (ht.mono (fun i hi => .inl hi)) (fun i hi => .inl (hfoot i hi)) ?_
    have := h.room
    simp [Fl.cutTo]
    omega
  · rintro i (e | e | ⟨g, hg, hi⟩)
    · exact .inl e
    · exact .inr (.inl e)
    · rcases setF_mem hg with rfl | ⟨hg', _⟩
      · exact .inr (.inr ⟨f, hm, hfoot i hi⟩)
      · exact .inr (.inr ⟨g, hg', hi⟩)

set_option maxRecDepth 100000 in
set_option maxHeartbeats 2000000 in
theorem crash_ok (h : DiskAt w p bm size calls fs D) (ao : Option Addr) (cap : Nat) (ts : List (ByteArray × Int)) (hT : HeldT w ao ts) (hok : okFrom fs [] ts) :
    Calls Try.prog 14 #[.pointer (some ⟨p, 0, none⟩), .slice ao ts.length cap] w fun e w' => e = .returned (.int .i64 0) ∧ ∃ V, Now w w' p bm size (-1) fs (fell ts V (fun _ => false) fs) := by
  have HCL := hid h.closed
  have HLA := hid (lasting_ok h ao cap ts hT hok)
  have HH := hid h
  have HOK := hid hok
  clear h hT hok
  go_enter Try.func14, Try.ntmps14
  go_wp2_with fail
  refine HCL.out.mono ?_
  rintro e w' ⟨rfl, h'⟩
  subst h'
  go_wp2_with fail
  refine HLA.out.mono ?_
  rintro e wl ⟨rfl, ⟨DL, hmL, hlL⟩, hbL⟩
  have HML := hid hmL
  have HLL := hid hlL
  have HBL := hid hbL
  have HHl := hid (HH.out.below hbL (Nat.le_refl _))
  have hc1 := HHl.out.blk.cell (i := 1) rfl
  clear hmL hlL hbL
  go_wp2_with (at_range; refine wpList_range_own _ rfl _ 49 rfl 9 57 Try.keyedStr Try.underlying49 valR bm _ D rfl HHl.out.map ?_; intro w0 hrg0 hg0 hs0)
  obtain ⟨r, hr⟩ : ∃ r, wl.heap.size = r := ⟨_, rfl⟩
  rw [hr] at hrg0 ⊢
  have HR := hid hr
  have hwl := HBL.out.size
  have HB0 : Hid (Below w'.heap.size w' w0) := HBL.out.grown hg0 hwl (fun k hk => by cases hk)
  have HD0 := hid (HH.out.below HB0.out (Nat.le_refl _))
  have HM0 : Hid (w0.ownsMap Try.prog 9 valR w'.heap.size ts.length DL) := HML.out.kept hg0 (by simp)
  clear hr
  go_frame
  go_loopw [] (fun wr => ∃ left cnt V, wr.ranges Try.prog 9 valR bm r fs.length D left cnt ∧ DiskAt wr p bm size calls (fell ts V left fs) D ∧ wr.ownsMap Try.prog 9 valR w'.heap.size ts.length DL ∧ Turns (DFoot p bm fs) w' wr ∧ (∀ i, DFoot p bm (fell ts V left fs) i → DFoot p bm fs i)) (fun wr => wr.rangeLeft bm r)
  case atStart =>
    refine ⟨Maps.has D, Maps.size D, fun _ => undef, hrg0, ?_, HM0.out, Turns.of_below HB0.out (Nat.le_refl _), ?_⟩
    · rw [fell_start (fun f hf => HH.out.has hf)]
      exact HD0.out
    · rw [fell_start (fun f hf => HH.out.has hf)]
      exact fun i hi => hi
  case round =>
    obtain ⟨left, cnt, V, hrg, hd, hm, ht, hfo⟩ := hrel
    have HRG := hid hrg
    have HD := hid hd
    have HM := hid hm
    have HT := hid ht
    have HFO := hid hfo
    clear hrg hd hm ht hfo hrg0 hg0 hs0 hc1
    go_wp2_with (first | (at_next; refine wpList_next_fs _ rfl _ rfl fs bm r fs.length D HH.out.look left cnt rfl HRG.out ?_ ?_) | fail)
    · intro _ hl
      have HE : Hid (left = fun _ => false) := funext hl
      clear hl
      have cc := HD.out.blk.cell (i := 2) rfl
      have cf := HD.out.blk.frozen 2
      go_wp2
      go_ret
      have he := HE.out
      subst he
      exact ⟨rfl, V, D, HD.out.setCalls (-1) (by omega), HT.out.setCell (p := ⟨p, 2, none⟩) (.inl (.inl rfl)) _, fun i hi => .inl (HFO.out i hi)⟩
    · intro f w1 cnt1 hfm _ hlf hrg1 hlt hgr hsz hen
      have hrl : w'.heap.size ≤ r := by rw [← HR.out]; exact hwl
      have hml := HML.out.lt
      have hne : w'.heap.size ≠ r := by rw [← HR.out]; omega
      have HD1 : Hid (DiskAt w1 p bm size calls (fell ts V left fs) D) := HD.out.turned (F := fun i => i = r) (Turns.of_grown hgr (fun k hk => by cases hk; rfl)) (fun i hi e => by have h1 := HH.out.foot_lt i (HFO.out i hi); omega)
      have HM1 : Hid (w1.ownsMap Try.prog 9 valR w'.heap.size ts.length DL) := HM.out.kept hgr (by simpa using hne)
      have HT1 : Hid (Turns (DFoot p bm fs) w' w1) := HT.out.grown hgr (fun k hk => by cases hk; exact .inr hrl)
      have HR1 := hid hrg1
      have HLT := hid hlt
      have HFM := hid hfm
      have HLF := hid hlf
      have hfa : FlAt w1 f := HD1.out.files f (List.mem_map.2 ⟨f, hfm, by simp [fellOne, hlf]⟩)
      have HFA := hid hfa
      have c1 := hfa.blk.cell (i := 1) rfl
      obtain ⟨hb0, hb1, hb2⟩ := fell_bound HOK.out HH.out.names hfm hfa.sure
      have hnm := nameS_max (HH.out.good f hfm)
      have hbl : f.bytes.length ≤ 268435456 := by have h1 := total_mem hfm; have h2 := HH.out.room; have h3 := HH.out.big; omega
      have hw : IntKind.i64.wrap ((f.sure : Int) + (tfind ts f.name).getD 0) = (fall ts f : Int) := by rw [hb1]; exact (IntKind.wrap_i64 _).trans (by omega)
      have hlk := fun q => run_look (P := Try.prog) (show (w1.drewN q).ownsMap Try.prog 9 valR w'.heap.size ts.length DL from HM1.out) Try.keyedStr Try.underlying72 (Try.zeroInt _) (Try.keyStr hnm)
      have hv : (look DL (key f.name)).getD (Value.int .i64 0) = .int .i64 ((tfind ts f.name).getD 0) := by rw [HLL.out]; cases tfind ts f.name <;> rfl
      rw [hv] at hlk
      have hlk1 : (Instr.lookup 72 (.map (some w'.heap.size)) (.string f.name) false).run Try.prog w1.drew = .ok (.int .i64 ((tfind ts f.name).getD 0)) w1.drew := hlk 1
      have c1' : w1.drew.cell? ⟨f.ptr, 1, none⟩ = some (.int .i64 f.sure) := c1
      have HB2 := hid hb2
      generalize (tfind ts f.name).getD 0 = t at *
      clear hfa hv hrg1 hlt hgr hsz hfm hlf hlk hb0 hb1 hb2
      go_wp2
      go_region_with (go_at_call 43; refine (cut_any (w := w1.drew) ⟨HFA.out.blk, HFA.out.row, HFA.out.byte, HFA.out.sure⟩ (fall ts f) HB2.out).mono ?_; rintro e w3 ⟨rfl, v, hfl, hob, ht⟩; have HFL := hid hfl; have HOB := hid hob; have HT3 := hid ht; clear hfl hob ht)
      all_goals
        have hcw := crash_write (w1 := w1.drew) HD1.out.drew HH.out.names HFM.out HLF.out HFL.out HOB.out HT3.out HB2.out
        have HCW := hid hcw
        have hfl := HH.out.foot_lt f.ptr (.inr (.inr ⟨f, HFM.out, .inl rfl⟩))
        have HT4 : Hid (Turns (DFoot p bm fs) w' w3) := HT1.out.drew.trans HT3.out (fun i hi => .inl (.inr (.inr ⟨f, HFM.out, .inl hi⟩)))
        have HM4 : Hid (w3.ownsMap Try.prog 9 valR w'.heap.size ts.length DL) := HT3.out.map HM1.out (by intro e; omega)
        have hpb : f.ptr ≠ bm := fun e => HH.out.own_m HFM.out (.inl e.symm)
        have HR4 : Hid (w3.ranges Try.prog 9 valR bm r fs.length D (fun z => left z && !z.sameKey (key f.name)) cnt1) := (ranges_drew2 HR1.out).turned HT3.out (fun e => hpb e.symm) (fun e => by omega)
        clear hcw
        go_roundw
        case rel =>
          refine ⟨_, _, _, _, _, _, _, _, _, _, _, _, _, _, _, _, _, ⟨fun z => left z && !z.sameKey (key f.name), cnt1, fun s => if s = f.name then v else V s, ?_⟩, rfl⟩
          exact ⟨HR4.out, HCW.out.1, HM4.out, HT4.out, fun i hi => HFO.out i (HCW.out.2 i hi)⟩
        case measure => rw [HR4.out.left_eq, HRG.out.left_eq]; exact HLT.out
end
end Go.Proofs.Ytjfohnkfcfifeaa
