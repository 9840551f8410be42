/-
  The program's disk and the document's: the same files, the same count; each change keeps it so, and answers alike.
-/
import Derived.Test.YtjfohnkfcfifeaaRzA
namespace Go.Proofs.Ytjfohnkfcfifeaa
open Go.RowKit Go.Maps

/-- The program's files, the document's. -/
structure Alike (fs : List Fl) (L : List Rf) : Prop where
  perm : (fs.map toRf).Perm L
  sort : SortR L
/-- How many calls may be yet. -/
def CallsA (c : Int) (g : Xd) : Prop := (g.stops = false ∧ c < 0) ∨ (g.stops = true ∧ 0 ≤ c ∧ c = g.calls)
structure Same3 (fs : List Fl) (c : Int) (g : Xd) : Prop where
  L : Alike fs g.L
  c : CallsA c g
section
variable {fs fs' : List Fl} {L : List Rf} {g : Xd} {c c' er size : Int} {s t : ByteArray}
theorem toRf_name (f : Fl) : (toRf f).name = f.name := rfl
theorem Alike.len (h : Alike fs L) : L.length = fs.length := by rw [← h.perm.length_eq, List.length_map]
theorem rtotal_perm {xs ys : List Rf} (h : xs.Perm ys) : rtotal xs = rtotal ys := by
  induction h with
  | nil => rfl
  | cons x _ ih => simp only [rtotal]; omega
  | swap x y l => simp only [rtotal]; omega
  | trans _ _ h1 h2 => omega
theorem rtotal_toRf : ∀ (fs : List Fl), rtotal (fs.map toRf) = total fs
  | [] => rfl
  | f :: r => by
    rw [List.map_cons, rtotal, total, rtotal_toRf r]
    show (strOfNums f.bytes).size + _ = _
    rw [strOfNums_size]
theorem Alike.tot (h : Alike fs L) : rtotal L = total fs := by rw [← rtotal_perm h.perm, rtotal_toRf]
theorem Alike.names (h : Alike fs L) : fs.Pairwise (fun a b => a.name ≠ b.name) := by
  have h1 := h.perm.symm.pairwise h.sort.names (fun h => fun e => h e.symm)
  rw [List.pairwise_map] at h1
  exact h1
theorem ffind_noneZ {fs : List Fl} {s : ByteArray} : ffind fs s = none ↔ ∀ f ∈ fs, f.name ≠ s := by
  unfold ffind
  rw [List.find?_eq_none]
  simp
theorem Alike.isnone (h : Alike fs L) : ffind fs s = none ↔ rint L s < 0 := by
  rw [ffind_noneZ, rint_neg]
  constructor
  · intro h1 r hr
    obtain ⟨f, hf, rfl⟩ := List.mem_map.1 (h.perm.symm.subset hr)
    exact h1 f hf
  · intro h1 f hf
    exact h1 _ (h.perm.subset (List.mem_map.2 ⟨f, hf, rfl⟩))
theorem Alike.isin {f : Fl} (h : Alike fs L) (hf : ffind fs s = some f) : ¬ rint L s < 0 := fun e => by
  rw [h.isnone.2 e] at hf
  cases hf
theorem Alike.at {f : Fl} (h : Alike fs g.L) (hf : ffind fs s = some f) : fileAt g s = toRf f := by
  have h1 := ridx_lt (h.isin hf)
  rw [fileAt_eq h1]
  have h2 : toRf f ∈ g.L := h.perm.subset (List.mem_map.2 ⟨f, (ffind_mem hf).1, rfl⟩)
  obtain ⟨k, hk, he⟩ := List.getElem_of_mem h2
  have h3 : ridx g.L s = k := (ridx_iff h.sort hk).1 (by rw [he]; exact (ffind_mem hf).2)
  simp only [h3]
  exact he
/-- One file changed, its name kept. -/
theorem Alike.set {f f' : Fl} {r : Rf} (h : Alike fs L) (hf : ffind fs s = some f) (hn : f'.name = f.name) (hr : toRf f' = r) : Alike (setF fs f') (L.set (ridx L s) r) := by
  have h1 := ridx_lt (h.isin hf)
  have hs := (ffind_mem hf).2
  rw [set_map h.sort h1 r]
  have hrn : r.name = s := by rw [← hr]; exact hn.trans hs
  refine ⟨?_, h.sort.map (fun q => ?_)⟩
  · have e : (setF fs f').map toRf = (fs.map toRf).map (fun q => if q.name = s then r else q) := by
      unfold setF
      rw [List.map_map, List.map_map]
      refine List.map_congr_left (fun x _ => ?_)
      show toRf (if x.name = f'.name then f' else x) = if x.name = s then r else toRf x
      rw [hn, hs]
      split
      · exact hr
      · rfl
    rw [e]
    exact h.perm.map _
  · show (if q.name = s then r else q).name = q.name
    split
    · rename_i e
      rw [hrn, e]
    · rfl
theorem Alike.del (h : Alike fs L) : Alike (delF fs s) (L.filter (fun q => !decide (q.name = s))) := by
  refine ⟨?_, h.sort.filter _⟩
  have e : (delF fs s).map toRf = (fs.map toRf).filter (fun q => !decide (q.name = s)) := by
    unfold delF
    rw [List.filter_map]
    rfl
  rw [e]
  exact h.perm.filter _
theorem Alike.drop (h : Alike fs L) {f : Fl} (hf : ffind fs s = some f) : Alike (delF fs s) (dropL L (ridx L s)) := by
  rw [drop_filter h.sort (ridx_lt (h.isin hf))]
  exact h.del
theorem Alike.ins {f : Fl} {r : Rf} (h : Alike fs L) (hr : toRf f = r) (hn : ∀ q ∈ L, q.name ≠ r.name) : Alike (fs ++ [f]) (insF L (rpos L r.name) r) := by
  refine ⟨?_, ins_sort h.sort r hn⟩
  rw [List.map_append]
  show (fs.map toRf ++ [toRf f]).Perm _
  rw [hr]
  exact (List.perm_append_comm.trans (h.perm.cons r)).trans (ins_perm L _ r).symm
theorem CallsA.off (h : CallsA c g) : (c = 0 ↔ g.off = true) := by
  unfold Xd.off
  rcases h with ⟨h1, h2⟩ | ⟨h1, h2, h3⟩
  · rw [h1]
    simp
    omega
  · rw [h1, h3]
    simp
theorem CallsA.did {L' : List Rf} (h : CallsA c g) (hc : c ≠ 0) : CallsA (counted c) ({ g with L := L' } : Xd).did := by
  obtain ⟨L0, st, ca⟩ := g
  unfold counted
  rcases h with ⟨h1, h2⟩ | ⟨h1, h2, h3⟩
  · simp only at h1
    subst h1
    rw [if_neg (by omega)]
    exact .inl ⟨rfl, h2⟩
  · simp only at h1 h3
    subst h1
    rw [if_pos (by omega)]
    exact .inr ⟨rfl, by omega, by show c - 1 = ca - 1; omega⟩
theorem did_L (g : Xd) : g.did.L = g.L := by
  unfold Xd.did
  split <;> rfl
theorem Same3.did {L' : List Rf} (h : Same3 fs c g) (hc : c ≠ 0) (hL : Alike fs' L') : Same3 fs' (counted c) ({ g with L := L' } : Xd).did := ⟨by rw [did_L]; exact hL, h.c.did hc⟩
theorem Same3.app {bs : List Int} {len : Nat} (h : Same3 fs c g) (hl : bs.length = len) (hr : AppR size c fs s len bs er fs' c') : er = appC g size s len ∧ Same3 fs' c' (appX g size s (strOfNums bs)) := by
  have hsz : (strOfNums bs).size = len := by rw [strOfNums_size]; exact hl
  have ho := h.c.off
  have hX : appX g size s (strOfNums bs) = if appC g size s len = 0 then (if rint g.L s < 0 then (putX g ⟨s, strOfNums bs, 0⟩).did else (g.setL (ridx g.L s) { fileAt g s with bytes := (fileAt g s).bytes ++ strOfNums bs }).did) else g := by
    unfold appX
    rw [hsz]
  rw [hX]
  have ht := h.L.tot
  have hln := h.L.len
  rcases hr with ⟨h1, h2, h3, h4⟩ | ⟨h1, h2, h3, h4, h5⟩ | ⟨h1, h2, h3, h4, h5, h6⟩ | ⟨h1, h2, h3, h4, h5, h6⟩
  · have hC : appC g size s len = 30 := by unfold appC; rw [if_pos h1]
    rw [hC, if_neg (by decide), h3, h4]
    exact ⟨h2, h⟩
  · have hC : appC g size s len = 31 := by unfold appC; rw [if_neg (by simp [h1]), if_pos (ho.1 h2)]
    rw [hC, if_neg (by decide), h4, h5]
    exact ⟨h3, h⟩
  · have hC : appC g size s len = 2 := by
      unfold appC
      rw [if_neg (by simp [h1]), if_neg (fun e => h2 (ho.2 e)), if_pos]
      rcases h3 with h3 | ⟨h3, h3'⟩
      · left
        omega
      · right
        exact ⟨h.L.isnone.1 h3, by omega⟩
    rw [hC, if_neg (by decide), h5, h6]
    exact ⟨h4, h⟩
  · have hnf : ¬ (size - (rtotal g.L : Int) < len ∨ (rint g.L s < 0 ∧ 64 ≤ g.L.length)) := by
      rintro (e | ⟨e1, e2⟩)
      · omega
      · rcases h6 with ⟨h7, h8, _⟩ | ⟨f, v', h7, _⟩
        · omega
        · exact h.L.isin h7 e1
    have hC : appC g size s len = 0 := by
      unfold appC
      rw [if_neg (by simp [h1]), if_neg (fun e => h2 (ho.2 e)), if_neg hnf]
    rw [hC, if_pos rfl, h5]
    refine ⟨h4, ?_⟩
    rcases h6 with ⟨h7, h8, q, v', rfl⟩ | ⟨f, v', h7, rfl⟩
    · have hneg := h.L.isnone.1 h7
      rw [if_pos hneg]
      exact h.did h2 (h.L.ins (f := ⟨s, q, v', bs, 0⟩) (r := ⟨s, strOfNums bs, 0⟩) rfl (rint_neg.1 hneg))
    · rw [if_neg (h.L.isin h7)]
      refine h.did h2 (h.L.set (s := s) h7 rfl ?_)
      rw [h.L.at h7]
      show (⟨f.name, strOfNums (f.bytes ++ bs), (f.sure : Int)⟩ : Rf) = ⟨f.name, strOfNums f.bytes ++ strOfNums bs, (f.sure : Int)⟩
      congr 1
      apply ByteArray.ext
      apply Array.toList_inj.1
      simp [strOfNums]
theorem Same3.syn (h : Same3 fs c g) (hr : SynR c fs s er fs' c') : er = syncC g s ∧ Same3 fs' c' (syncX g s) := by
  have ho := h.c.off
  rcases hr with ⟨h1, h2, h3, h4⟩ | ⟨h1, h2, h3, h4, h5⟩ | ⟨h1, f, h2, h3, h4, rfl⟩
  · have hC : syncC g s = 31 := by unfold syncC; rw [if_pos (ho.1 h1)]
    unfold syncX
    rw [hC, if_neg (by decide), h3, h4]
    exact ⟨h2, h⟩
  · have hC : syncC g s = 4 := by unfold syncC; rw [if_neg (fun e => h1 (ho.2 e)), if_pos (h.L.isnone.1 h2)]
    unfold syncX
    rw [hC, if_neg (by decide), h4, h5]
    exact ⟨h3, h⟩
  · have hC : syncC g s = 0 := by unfold syncC; rw [if_neg (fun e => h1 (ho.2 e)), if_neg (h.L.isin h2)]
    unfold syncX
    rw [hC, if_pos rfl, h4]
    refine ⟨h3, h.did h1 (h.L.set (s := s) h2 rfl ?_)⟩
    rw [h.L.at h2]
    show (⟨f.name, strOfNums f.bytes, ((f.bytes.length : Nat) : Int)⟩ : Rf) = ⟨f.name, strOfNums f.bytes, (((strOfNums f.bytes).size : Nat) : Int)⟩
    rw [strOfNums_size]
theorem Same3.cut {x : Int} (h : Same3 fs c g) (hr : CutR c fs s x er fs' c') : er = cutC g s x ∧ Same3 fs' c' (cutX g s x) := by
  have ho := h.c.off
  rcases hr with ⟨h1, h2, h3, h4⟩ | ⟨h1, h2, h3, h4, h5⟩ | ⟨h1, ⟨f, h2, h3⟩, h4, h5, h6⟩ | ⟨h1, f, v, h2, h3, h4, h5, h6, rfl⟩
  · have hC : cutC g s x = 31 := by unfold cutC; rw [if_pos (ho.1 h1)]
    unfold cutX
    rw [hC, if_neg (by decide), h3, h4]
    exact ⟨h2, h⟩
  · have hC : cutC g s x = 4 := by unfold cutC; rw [if_neg (fun e => h1 (ho.2 e)), if_pos (h.L.isnone.1 h2)]
    unfold cutX
    rw [hC, if_neg (by decide), h4, h5]
    exact ⟨h3, h⟩
  · have hC : cutC g s x = 1 := by
      unfold cutC
      rw [if_neg (fun e => h1 (ho.2 e)), if_neg (h.L.isin h2), h.L.at h2, if_pos]
      show x < 0 ∨ (((strOfNums f.bytes).size : Nat) : Int) < x
      rw [strOfNums_size]
      exact h3
    unfold cutX
    rw [hC, if_neg (by decide), h5, h6]
    exact ⟨h4, h⟩
  · have hC : cutC g s x = 0 := by
      unfold cutC
      rw [if_neg (fun e => h1 (ho.2 e)), if_neg (h.L.isin h2), h.L.at h2, if_neg]
      show ¬ (x < 0 ∨ (((strOfNums f.bytes).size : Nat) : Int) < x)
      rw [strOfNums_size]
      omega
    unfold cutX
    rw [hC, if_pos rfl, h6]
    refine ⟨h5, h.did h1 (h.L.set (s := s) h2 rfl ?_)⟩
    rw [h.L.at h2]
    show (⟨f.name, strOfNums (f.bytes.take x.toNat), ((x.toNat : Nat) : Int)⟩ : Rf) = ⟨f.name, (strOfNums f.bytes).extract 0 x.toNat, x⟩
    rw [str_take, Int.toNat_of_nonneg h3]
theorem Same3.rem (h : Same3 fs c g) (hr : RemR c fs s er fs' c') : er = remC g s ∧ Same3 fs' c' (remX g s) := by
  have ho := h.c.off
  rcases hr with ⟨h1, h2, h3, h4⟩ | ⟨h1, h2, h3, h4, h5⟩ | ⟨h1, ⟨f, h2⟩, h3, h4, rfl⟩
  · have hC : remC g s = 31 := by unfold remC; rw [if_pos (ho.1 h1)]
    unfold remX
    rw [hC, if_neg (by decide), h3, h4]
    exact ⟨h2, h⟩
  · have hC : remC g s = 4 := by unfold remC; rw [if_neg (fun e => h1 (ho.2 e)), if_pos (h.L.isnone.1 h2)]
    unfold remX
    rw [hC, if_neg (by decide), h4, h5]
    exact ⟨h3, h⟩
  · have hC : remC g s = 0 := by unfold remC; rw [if_neg (fun e => h1 (ho.2 e)), if_neg (h.L.isin h2)]
    unfold remX
    rw [hC, if_pos rfl, h4]
    exact ⟨h3, h.did h1 (h.L.drop h2)⟩
theorem lessX_filter {g : Xd} (h : SortR g.L) (t : ByteArray) : lessX g t = { g with L := g.L.filter (fun q => !decide (q.name = t)) } := by
  unfold lessX
  by_cases hn : rint g.L t < 0
  · rw [if_pos hn, filter_none hn]
  · rw [if_neg hn]
    unfold dropX
    rw [drop_filter h (ridx_lt hn)]
theorem Same3.ren (h : Same3 fs c g) (hr : RenR c fs s t er fs' c') : er = renC g s t ∧ Same3 fs' c' (renX g s t) := by
  have ho := h.c.off
  rcases hr with ⟨h1, h2, h3, h4⟩ | ⟨h0, h1, h2, h3, h4⟩ | ⟨h0, h1, h2, h3, h4, h5⟩ | ⟨h0, h1, f, h2, h3, h4, rfl⟩
  · have hC : renC g s t = 30 := by unfold renC; rw [if_pos h1]
    unfold renX
    rw [hC, if_neg (by decide), h3, h4]
    exact ⟨h2, h⟩
  · have hC : renC g s t = 31 := by unfold renC; rw [if_neg (by simp [h0]), if_pos (ho.1 h1)]
    unfold renX
    rw [hC, if_neg (by decide), h3, h4]
    exact ⟨h2, h⟩
  · have hC : renC g s t = 4 := by unfold renC; rw [if_neg (by simp [h0]), if_neg (fun e => h1 (ho.2 e)), if_pos (h.L.isnone.1 h2)]
    unfold renX
    rw [hC, if_neg (by decide), h4, h5]
    exact ⟨h3, h⟩
  · have hC : renC g s t = 0 := by unfold renC; rw [if_neg (by simp [h0]), if_neg (fun e => h1 (ho.2 e)), if_neg (h.L.isin h2)]
    unfold renX
    rw [hC, if_pos rfl, h4]
    refine ⟨h3, ?_⟩
    have hd := h.L.drop h2
    rw [lessX_filter (g := dropX g (ridx g.L s)) hd.sort, h.L.at h2]
    refine h.did h1 ?_
    have hf := hd.del (s := t)
    refine hf.ins (f := f.named t) (r := { toRf f with name := t }) rfl (fun q hq e => ?_)
    have := (List.mem_filter.1 hq).2
    simp [show q.name = t from e] at this
theorem Same3.stop {x : Int} (h : Same3 fs c g) : Same3 fs (if c = 0 then c else x) (stopX g x) := by
  have ho := h.c.off
  unfold stopX
  by_cases hc : c = 0
  · rw [if_pos hc, if_pos (ho.1 hc)]
    exact h
  · rw [if_neg hc, if_neg (fun e => hc (ho.2 e))]
    refine ⟨h.L, ?_⟩
    by_cases hx : 0 ≤ x
    · exact .inr ⟨by simp [hx], hx, rfl⟩
    · exact .inl ⟨by simp; omega, by omega⟩
end
end Go.Proofs.Ytjfohnkfcfifeaa
