/-
  Package net: Take.
-/
import Derived.Test.YtoacfdicjpoohaaNetC
import Derived.Test.YtoacfdicjpoohaaDelOne
namespace Go.Proofs.Ytoacfdicjpoohaa
open Go.RowKit Go.Maps

theorem below_pk {B S : Nat} {w w1 : World} (h : Below B w w1) (hS : B ≤ S) (a b c d : Value) : Below B w ((((w1.setCell ⟨S, 0, none⟩ a).setCell ⟨S, 1, none⟩ b).setCell ⟨S, 2, none⟩ c).setCell ⟨S, 3, none⟩ d) :=
  (((h.setCell hS a).setCell hS b).setCell hS c).setCell hS d

theorem turns_pk {B : Nat} (w1 : World) (S : Nat) (hS : B ≤ S) (a b c d : Value) : Turns (fun i => B ≤ i) w1 ((((w1.setCell ⟨S, 0, none⟩ a).setCell ⟨S, 1, none⟩ b).setCell ⟨S, 2, none⟩ c).setCell ⟨S, 3, none⟩ d) := by
  have h0 : Turns (fun i => B ≤ i) w1 w1 := Turns.refl _ _
  have h1 := h0.setCell (p := ⟨S, 0, none⟩) (.inl hS) a
  have h2 := h1.setCell (p := ⟨S, 1, none⟩) (.inl hS) b
  have h3 := h2.setCell (p := ⟨S, 2, none⟩) (.inl hS) c
  exact h3.setCell (p := ⟨S, 3, none⟩) (.inl hS) d

theorem take_nil (w : World) (x : Int) : Calls Try.prog 9 #[.pointer none, .int .i64 x] w fun e w' => e = .returned (.tuple #[Pk.none, .int .i64 6]) ∧ Below w.heap.size w w' := by
  go_enter Try.func9, Try.ntmps9
  go_wp2_with fail
  refine (find_nil _ _).mono ?_
  rintro e w1 ⟨rfl, hb⟩
  rw [World.size_alloc] at hb
  have HB : Hid (Below w.heap.size w w1) := ((Below.refl _ w).alloc (Nat.le_refl _) _).trans (hb.mono (Nat.le_succ _))
  have hz : w.heap.size < w1.heap.size := by have := hb.size; simp at this; omega
  have hB0 : Blk w1 w.heap.size 36 [.int .i64 0, .int .i64 0, .int .i64 0, .string ⟨#[]⟩] := (Blk.new w 36 [.int .i64 0, .int .i64 0, .int .i64 0, .string ⟨#[]⟩]).below hb (Nat.lt_succ_self _)
  have c0 := hB0.cell (i := 0) rfl
  have c1 := hB0.cell (i := 1) rfl
  have c2 := hB0.cell (i := 2) rfl
  have c3 := hB0.cell (i := 3) rfl
  have f0 := hB0.frozen 0
  have f1 := hB0.frozen 1
  have f2 := hB0.frozen 2
  have f3 := hB0.frozen 3
  clear hb hB0
  unfold Pk.none
  go_wp2
  exact bodyPost_ret (v := .tuple #[Pk.none, .int .i64 6]) (by simp [results, Try.results9, go_sem, c0, c1, c2, c3, hz]; rfl) rfl ⟨rfl, (below_pk HB.out (Nat.le_refl _) _ _ _ _).alloc (by simp; omega) _⟩

section
variable {w : World} {p bm : Nat} {v : Value} {nodes last : Int} {ps : List Pk} {D : DataW Value}
theorem NetAt.alloc (h : NetAt w p bm v nodes last ps D) (o : Obj) : NetAt (w.alloc o) p bm v nodes last ps D := h.turned (F := fun _ => False) ((Turns.refl _ _).alloc o) (fun _ _ h => h)

theorem take_none (h : NetAt w p bm v nodes last ps D) (x : Int) (h0 : -9223372036854775808 ≤ x) (h1 : x ≤ 9223372036854775807) (hf : found ps x = none) :
    Calls Try.prog 9 #[.pointer (some ⟨p, 0, none⟩), .int .i64 x] w fun e w' => e = .returned (.tuple #[Pk.none, .int .i64 4]) ∧ Below w.heap.size w w' := by
  have hfi := find_any (h.alloc (.cells #[.int .i64 0, .int .i64 0, .int .i64 0, .string ⟨#[]⟩] 36)) x h0 h1
  rw [hf] at hfi
  have HF := hid hfi
  clear hfi h hf
  go_enter Try.func9, Try.ntmps9
  go_wp2_with fail
  refine HF.out.mono ?_
  rintro e w1 ⟨rfl, hb⟩
  rw [World.size_alloc] at hb
  have HB : Hid (Below w.heap.size w w1) := ((Below.refl _ w).alloc (Nat.le_refl _) _).trans (hb.mono (Nat.le_succ _))
  have hz : w.heap.size < w1.heap.size := by have := hb.size; simp at this; omega
  have hB0 : Blk w1 w.heap.size 36 [.int .i64 0, .int .i64 0, .int .i64 0, .string ⟨#[]⟩] := (Blk.new w 36 [.int .i64 0, .int .i64 0, .int .i64 0, .string ⟨#[]⟩]).below hb (Nat.lt_succ_self _)
  have c0 := hB0.cell (i := 0) rfl
  have c1 := hB0.cell (i := 1) rfl
  have c2 := hB0.cell (i := 2) rfl
  have c3 := hB0.cell (i := 3) rfl
  have f0 := hB0.frozen 0
  have f1 := hB0.frozen 1
  have f2 := hB0.frozen 2
  have f3 := hB0.frozen 3
  clear hb hB0
  unfold Pk.none
  go_wp2
  exact bodyPost_ret (v := .tuple #[Pk.none, .int .i64 4]) (by simp [results, Try.results9, go_sem, c0, c1, c2, c3, hz]; rfl) rfl ⟨rfl, (below_pk HB.out (Nat.le_refl _) _ _ _ _).alloc (by simp; omega) _⟩

theorem found_at (hr : ps.Pairwise (fun a b => a.id < b.id)) {k : Nat} (hk : k < ps.length) : found ps ps[k].id = some ps[k] := by
  unfold found
  rw [List.find?_eq_some_iff_getElem]
  refine ⟨by simp, k, hk, rfl, fun j hj => ?_⟩
  have := List.pairwise_iff_getElem.1 hr j k (by omega) hk hj
  simp
  omega
theorem at_found {x : Int} {q : Pk} (hf : found ps x = some q) : ∃ k, ∃ hk : k < ps.length, ps[k] = q ∧ q.id = x := by
  obtain ⟨hq, k, hk, he, _⟩ := List.find?_eq_some_iff_getElem.1 hf
  exact ⟨k, hk, he, by simpa using hq⟩
theorem found_erase (hr : ps.Pairwise (fun a b => a.id < b.id)) {k : Nat} (hk : k < ps.length) (y : Int) : found (ps.eraseIdx k) y = if y = ps[k].id then none else found ps y := by
  have e1 : ps = ps.take k ++ ps[k] :: ps.drop (k + 1) := by
    rw [← List.drop_eq_getElem_cons hk, List.take_append_drop]
  rw [List.eraseIdx_eq_take_drop_succ]
  by_cases hy : y = ps[k].id
  · rw [if_pos hy]
    refine found_none (fun q hq => ?_)
    rcases List.mem_append.1 hq with h | h
    · obtain ⟨i, hi, rfl⟩ := List.mem_iff_getElem.1 h
      simp at hi
      have := List.pairwise_iff_getElem.1 hr i k (by omega) hk (by omega)
      simp
      omega
    · obtain ⟨i, hi, rfl⟩ := List.mem_iff_getElem.1 h
      simp at hi
      have := List.pairwise_iff_getElem.1 hr k (k + 1 + i) hk (by omega) (by omega)
      simp
      omega
  · rw [if_neg hy]
    conv => rhs; rw [e1]
    unfold found
    rw [List.find?_append, List.find?_append, List.find?_cons_of_neg (by simp; omega)]

/-- What a call that takes packet k leaves. -/
def Took (w w' : World) (p bm : Nat) (v : Value) (nodes last : Int) (ps : List Pk) (k : Nat) : Prop :=
  ∃ v' D', NetAt w' p bm v' nodes last (ps.eraseIdx k) D' ∧ Turns (Foot p bm v) w w' ∧ v'.ownBlock = v.ownBlock

theorem take_end {w1 w2 w3 w4 : World} {k g cap : Nat} (h : NetAt w p bm (.slice (some ⟨g, 0, none⟩) ps.length cap) nodes last ps D) (hk : k < ps.length) {o : Obj} (hb : Below w.heap.size w w1) 
    (hown : w2.ownsMap Try.prog 3 valR bm last.toNat (D.del (.int .i64 ps[k].id))) (ht : (w1.alloc o).mapTurned w2 bm)
    (hblk : Blk w3 p 48 [.int .i64 nodes, .int .i64 last, .map (some bm), .slice (some ⟨g, 0, none⟩) ps.length cap])
    (hrow : w3.ownsRow 0 3 1 (.slice (some ⟨g, 0, none⟩) (ps.length - 1) cap) (ps.length - 1) (ints ((ps.map (·.id)).eraseIdx k))) (hg : w2.grownBy w3 (some g)) (hr2 : w2.ownsRow 0 3 1 (.slice (some ⟨g, 0, none⟩) ps.length cap) ps.length (ints (ps.map (·.id))))
    (h4 : Turns (fun i => w.heap.size ≤ i) (w3.setCell ⟨p, 3, none⟩ (.slice (some ⟨g, 0, none⟩) (ps.length - 1) cap)) w4) :
    Took w w4 p bm (.slice (some ⟨g, 0, none⟩) ps.length cap) nodes last ps k := by
  have hpm : p ≠ bm := h.blk.not_map h.map
  have hpg : some p ≠ (Value.slice (some ⟨g, 0, none⟩) (ps.length - 1) cap).ownBlock := hblk.not_row (by decide) hrow
  have hl := h.foot_lt
  have T2 : Turns (Foot p bm (.slice (some ⟨g, 0, none⟩) ps.length cap)) w w2 := (Turns.of_below (hb) (Nat.le_refl _)).alloc o |>.trans (Turns.of_grown (F := fun i => i = bm) ht.grown (fun k hk => by cases hk; rfl)) (fun i hi => .inl (.inr (.inl hi)))
  have T3 : Turns (Foot p bm (.slice (some ⟨g, 0, none⟩) ps.length cap)) w w3 := T2.grown hg (fun k hk => .inl (.inr (.inr (by rw [← hk]; rfl))))
  have hgm : g ≠ bm := fun e => row_not_map hr2 hown (by rw [e]; rfl)
  have h3 : NetAt (w3.setCell ⟨p, 3, none⟩ (.slice (some ⟨g, 0, none⟩) (ps.length - 1) cap)) p bm (.slice (some ⟨g, 0, none⟩) (ps.length - 1) cap) nodes last (ps.eraseIdx k) (D.del (.int .i64 ps[k].id)) := by
    refine ⟨hblk.set 3 _, (hown.kept hg (by simpa using Ne.symm hgm)).setCell (Ne.symm hpm) _, ?_, fun x => ?_, h.rise.sublist (List.eraseIdx_sublist _ _), fun q hq => h.ids q ((List.eraseIdx_sublist _ _).subset hq), ?_, h.zero⟩
    · have := hrow.kept (grownBy_setAt w3 p 3 (.slice (some ⟨g, 0, none⟩) (ps.length - 1) cap)) (.inr (Ne.symm hpg))
      have e : (ps.eraseIdx k).map (fun q => Value.int .i64 q.id) = ints ((ps.map (·.id)).eraseIdx k) := by simp [ints, List.eraseIdx_eq_take_drop_succ, Function.comp_def]
      rw [List.length_eraseIdx_of_lt hk, e]
      exact this
    · rw [found_erase h.rise hk]
      by_cases hx : x = ps[k].id
      · subst hx
        rw [if_pos rfl, look_del_same]
        rfl
      · rw [if_neg hx, look_del_other (by simpa using hx)]
        exact h.look x
    · have := h.few
      rw [List.length_eraseIdx_of_lt hk]
      omega
  refine ⟨_, _, h3.turned h4 (fun i hi hF => ?_), (T3.setCell (.inl (.inl rfl)) _).trans h4 (fun i hi => .inr hi), rfl⟩
  have := hl i (by rcases hi with h | h | h; exact .inl h; exact .inr (.inl h); exact .inr (.inr h))
  omega

theorem map_ids : (ps.map fun q => Value.int .i64 q.id) = ints (ps.map (·.id)) := by simp [ints, Function.comp_def]
theorem getD_ids {k : Nat} (hk : k < ps.length) : (ps.map (·.id)).getD k 0 = ps[k].id := by simp [List.getD, hk]
theorem rising_ids (hr : ps.Pairwise (fun a b => a.id < b.id)) : Rising (ps.map (·.id)) := by
  intro i j hij hj
  simp at hj
  rw [getD_ids (by omega), getD_ids hj]
  exact List.pairwise_iff_getElem.1 hr i j (by omega) hj hij
theorem intsAt_row {W : World} {g n cap : Nat} {xs : List Int} (h : W.ownsRow 0 3 1 (.slice (some ⟨g, 0, none⟩) n cap) n (ints xs)) : IntsAt W g xs := by
  intro j hj
  have := h.cells (g := g) rfl j (.int .i64 (xs.getD j 0)) (by simp [ints, List.getD, hj])
  rwa [Addr.add_lit, Nat.zero_add] at this

set_option maxRecDepth 100000 in
set_option maxHeartbeats 1000000 in
theorem take_ok (h : NetAt w p bm v nodes last ps D) {k : Nat} (hk : k < ps.length) (hlast : last ≤ 4611686018427387904) :
    Calls Try.prog 9 #[.pointer (some ⟨p, 0, none⟩), .int .i64 ps[k].id] w fun e w' => e = .returned (.tuple #[ps[k].val, .int .i64 0]) ∧ Took w w' p bm v nodes last ps k := by
  have hid1 := (h.ids ps[k] (List.getElem_mem hk)).1
  have hid2 := (h.ids ps[k] (List.getElem_mem hk)).2
  have hfew := h.few
  obtain ⟨g, cap, rfl⟩ : ∃ g cap, v = .slice (some ⟨g, 0, none⟩) ps.length cap := by
    rcases h.row.2 with ⟨_, h0⟩ | ⟨g, cap, _, e, _⟩
    · omega
    · exact ⟨g, cap, e⟩
  have hfi := find_any (h.alloc (.cells #[.int .i64 0, .int .i64 0, .int .i64 0, .string ⟨#[]⟩] 36)) ps[k].id (by omega) (by omega)
  rw [found_at h.rise hk] at hfi
  have HF := hid hfi
  have HH := hid h
  have hpw := h.blk.lt
  have hpm : p ≠ bm := h.blk.not_map h.map
  have hbw := h.map.lt
  have HKEY := hid (Try.keyInt (x := ps[k].id) (by omega) (by omega))
  have HRI := hid (rising_ids h.rise)
  have HG := hid (getD_ids hk)
  obtain ⟨x, hx⟩ : ∃ x, x = ps[k].id := ⟨_, rfl⟩
  obtain ⟨q, hq⟩ : ∃ q, q = ps[k] := ⟨_, rfl⟩
  have HX := hid hx
  have HQ := hid hq
  rw [← hx] at HF HKEY HG ⊢
  rw [← hq] at HF ⊢
  clear hfi h hx hq hid1 hid2
  go_enter Try.func9, Try.ntmps9
  go_wp2_with fail
  refine HF.out.mono ?_
  rintro e w1 ⟨rfl, hb⟩
  rw [World.size_alloc] at hb
  have HB : Hid (Below w.heap.size w w1) := ((Below.refl _ w).alloc (Nat.le_refl _) _).trans (hb.mono (Nat.le_succ _))
  have hz : w.heap.size < w1.heap.size := by have := hb.size; simp at this; omega
  have HB0 : Hid (Blk w1 w.heap.size 36 [.int .i64 0, .int .i64 0, .int .i64 0, .string ⟨#[]⟩]) := (Blk.new w 36 [.int .i64 0, .int .i64 0, .int .i64 0, .string ⟨#[]⟩]).below hb (Nat.lt_succ_self _)
  have HN1 : Hid (NetAt w1 p bm (.slice (some ⟨g, 0, none⟩) ps.length cap) nodes last ps D) := HH.out.below HB.out (Nat.le_refl _)
  have hc2 := HN1.out.blk.cell (i := 2) rfl
  have hpw1 : p < w1.heap.size := by omega
  clear hb
  unfold Pk.val
  go_wp2_with (at_delete; refine wpList_delete_own _ rfl _ _ 45 3 rfl 36 Try.keyedInt Try.underlying45 valR bm last.toNat D rfl (HN1.out.map.alloc _) _ (.int .i64 x) rfl HKEY.out ?_; intro w2 hown2 hturn2; have HO2 := hid hown2; have HT2 := hid hturn2; have HR2 : Hid (w2.ownsRow 0 3 1 (.slice (some ⟨g, 0, none⟩) ps.length cap) ps.length (ints (ps.map (·.id)))) := (by rw [← map_ids]; exact (HN1.out.row.alloc _).kept hturn2.grown (.inr (row_not_map HN1.out.row HN1.out.map).symm)); have HBL2 : Hid (Blk w2 p 48 [.int .i64 nodes, .int .i64 last, .map (some bm), .slice (some ⟨g, 0, none⟩) ps.length cap]) := (HN1.out.blk.alloc _).kept hturn2.grown (by simpa using hpm); have HBR2 : Hid (Blk w2 w.heap.size 36 [.int .i64 0, .int .i64 0, .int .i64 0, .string ⟨#[]⟩]) := (HB0.out.alloc _).kept hturn2.grown (by simp; omega); have HBP2 : Hid (Blk w2 w1.heap.size 36 [.int .i64 q.id, .int .i64 q.frm, .int .i64 q.dst, .string q.body]) := (Blk.new w1 36 [.int .i64 q.id, .int .i64 q.frm, .int .i64 q.dst, .string q.body]).kept hturn2.grown (by simp; omega); have hd3 := HBL2.out.cell (i := 3) rfl; clear hown2 hturn2)
  have hsr := search_any w2 g cap (ps.map (·.id)) k (by simpa using hk) (intsAt_row HR2.out) HRI.out (by simp; omega)
  rw [HG.out, List.length_map] at hsr
  refine hsr.mono ?_
  rintro e w2' ⟨rfl, h'⟩
  subst h'
  clear hsr
  go_wp2_with fail
  refine (delete_one w2' g cap ps.length k _ HR2.out hk (by omega)).mono ?_
  rintro e w3 ⟨rfl, hrow3, hg3⟩
  have HR3 := hid hrow3
  have HG3 := hid hg3
  have hgp : some p ≠ some g := HBL2.out.not_row (by decide) HR2.out
  have hgr : some w.heap.size ≠ some g := HBR2.out.not_row (by decide) HR2.out
  have hgq : some w1.heap.size ≠ some g := HBP2.out.not_row (by decide) HR2.out
  have HBL3 : Hid (Blk w3 p 48 [.int .i64 nodes, .int .i64 last, .map (some bm), .slice (some ⟨g, 0, none⟩) ps.length cap]) := HBL2.out.kept hg3 hgp
  have hR3 := HBR2.out.kept hg3 hgr
  have hP3 := HBP2.out.kept hg3 hgq
  have e3 := HBL3.out.cell (i := 3) rfl
  have ef3 := HBL3.out.frozen 3
  have r0 := hR3.cell (i := 0) rfl
  have r1 := hR3.cell (i := 1) rfl
  have r2 := hR3.cell (i := 2) rfl
  have r3 := hR3.cell (i := 3) rfl
  have rf0 := hR3.frozen 0
  have rf1 := hR3.frozen 1
  have rf2 := hR3.frozen 2
  have rf3 := hR3.frozen 3
  have q0 := hP3.cell (i := 0) rfl
  have q1 := hP3.cell (i := 1) rfl
  have q2 := hP3.cell (i := 2) rfl
  have q3 := hP3.cell (i := 3) rfl
  have hpw3 : p ≠ w.heap.size := by omega
  have hpw31 : p ≠ w1.heap.size := by omega
  have hww : w.heap.size ≠ w1.heap.size := by omega
  clear hrow3 hg3 hR3 hP3 hd3 hc2
  go_wp2
  refine bodyPost_ret (v := .tuple #[q.val, .int .i64 0]) (by simp [results, Try.results9, go_sem, r0, r1, r2, r3]; rfl) rfl ⟨rfl, ?_⟩
  have hO := HO2.out
  rw [HX.out] at hO
  exact take_end HH.out hk HB.out hO HT2.out HBL3.out HR3.out HG3.out HR2.out (turns_pk _ _ (Nat.le_refl _) _ _ _ _)
end
end Go.Proofs.Ytoacfdicjpoohaa
