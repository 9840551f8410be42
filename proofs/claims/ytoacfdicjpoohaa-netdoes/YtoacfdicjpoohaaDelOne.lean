/-
  slices.Delete of one int of an owned row: the row without it, in place; nothing else is written.
-/
import Derived.Test.YtoacfdicjpoohaaBinSearch
import Derived.Deep.RegionLaw
import Derived.Lib.SliceRun
namespace Go.Proofs.Ytoacfdicjpoohaa
open Go.RowKit

/-- These cells, laid over others from a place on. -/
def ovr : List Value → Nat → List Value → List Value
  | cs, _, [] => cs
  | cs, o, v :: r => ovr (cs.set o v) (o + 1) r
theorem ovr_eq : ∀ (vs cs : List Value) (o : Nat), o + vs.length ≤ cs.length → ovr cs o vs = cs.take o ++ vs ++ cs.drop (o + vs.length)
  | [], cs, o, _ => by simp [ovr]
  | v :: r, cs, o, h => by
    simp only [List.length_cons] at h
    rw [ovr, ovr_eq r _ _ (by simp; omega)]
    have e1 : (cs.set o v).take (o + 1) = cs.take o ++ [v] := by
      rw [List.take_succ_eq_append_getElem (by simp; omega)]
      simp [List.take_set_of_le]
    rw [e1, List.drop_set_of_lt (by omega)]
    simp [Nat.add_comm 1, Nat.add_assoc]
theorem Blk.setCells {B : Nat} {t : TypeId} : ∀ (vs : List Value) {w : World} {cs : List Value} (_ : Blk w B t cs) (o : Nat), Blk (w.setCells B o vs) B t (ovr cs o vs)
  | [], _, _, h, _ => h
  | v :: r, _, _, h, o => Blk.setCells r (h.set o v) (o + 1)
theorem grownBy_setOne (W : World) (b i : Nat) (v : Value) : W.grownBy (W.setCell ⟨b, i, none⟩ v) (some b) :=
  ⟨rfl, rfl, rfl, by simp, fun k _ hn => RowKit.Below.heap_setCell _ _ _ _ (fun e => hn (by rw [e]))⟩
theorem grownBy_setCells (g : Nat) : ∀ (vs : List Value) (w : World) (o : Nat), w.grownBy (w.setCells g o vs) (some g)
  | [], _, _ => World.grownBy.refl _ _
  | v :: r, w, o => (grownBy_setOne w g o v).trans (grownBy_setCells g r _ _)

theorem Try.info3d : (Try.prog.info? 3).map (fun i => (i.zero, i.size, i.bytes)) = some (some (.int .i64 0), 1, 8) := by kernel_rfl
theorem Try.zeroInt (w : World) : (zeroValue 3).run Try.prog w = .ok (.int .i64 0) w := by kernel_rfl

def ints (xs : List Int) : List Value := xs.map (Value.int .i64)

theorem erase_split {xs : List Int} {k : Nat} : xs.eraseIdx k = xs.take k ++ xs.drop (k + 1) := List.eraseIdx_eq_take_drop_succ xs k

/-- What the row is behind the call. -/
theorem del_row {w : World} {g cap n k : Nat} {xs : List Int} {cur : Array Value} (hg : w.heap[g]? = some (.cells cur 3 (0, 0))) (hn : xs.length = n) (hk : k < n) (hnc : n ≤ cap) (hcm : cap ≤ maxLen) (hcs : cur.size = cap) (htk : cur.toList.take n = ints xs) :
    ((w.setCells g k (ints (xs.drop (k + 1)))).setCells g (n - 1) [.int .i64 0]).ownsRow 0 3 1 (.slice (some ⟨g, 0, none⟩) (n - 1) cap) (n - 1) (ints (xs.eraseIdx k)) := by
  have hb : Blk w g 3 cur.toList := hg
  have hlc : cur.toList.length = cap := by simpa using hcs
  have hb2 := (hb.setCells (ints (xs.drop (k + 1))) k).setCells [.int .i64 0] (n - 1)
  have hl1 : (ints (xs.drop (k + 1))).length = n - (k + 1) := by simp [ints, hn]
  have e1 := ovr_eq (ints (xs.drop (k + 1))) cur.toList k (by rw [hl1, hlc]; omega)
  have hl2 : (ovr cur.toList k (ints (xs.drop (k + 1)))).length = cap := by
    rw [e1]
    simp only [List.length_append, List.length_take, List.length_drop, hl1, hlc]
    omega
  have e2 := ovr_eq [.int .i64 0] (ovr cur.toList k (ints (xs.drop (k + 1)))) (n - 1) (by rw [hl2]; simp; omega)
  have htake : (ovr cur.toList k (ints (xs.drop (k + 1)))).take (n - 1) = ints (xs.eraseIdx k) := by
    rw [e1, erase_split]
    have e3 : cur.toList.take k = ints (xs.take k) := by
      have : (cur.toList.take n).take k = (ints xs).take k := by rw [htk]
      rw [List.take_take, Nat.min_eq_left (by omega)] at this
      rw [this]
      simp [ints, List.map_take]
    rw [e3, List.take_append_of_le_length (by simp [ints, hn]; omega)]
    rw [List.take_of_length_le (by simp [ints, hn]; omega)]
    simp [ints]
  refine ⟨by simp [ints, List.length_eraseIdx, hn, hk], .inr ⟨g, cap, _, rfl, Nat.zero_le _, hb2, by omega, hcm, ?_, ?_⟩⟩
  · rw [List.size_toArray, e2]
    simp only [List.length_append, List.length_take, List.length_drop, List.length_cons, List.length_nil, hl2]
    omega
  · rw [List.toList_toArray, Nat.mul_one, e2, List.append_assoc, List.take_append_of_le_length (by simp [hl2]; omega), List.take_take, Nat.min_self, htake]

theorem setCells_heap_drew (b : Nat) : ∀ (vs : List Value) (o : Nat) (w : World), (w.drew.setCells b o vs) = (w.setCells b o vs).drew
  | [], _, _ => rfl
  | v :: r, o, w => setCells_heap_drew b r (o + 1) (w.setCell ⟨b, o, none⟩ v)
theorem ownsRow_drewIn {w : World} {g o o' e size n : Nat} {vs us : List Value} {v : Value} {xs : List Value} (h : ((w.setCells g o vs).setCells g o' us).ownsRow 0 e size v n xs) : ((w.drew.setCells g o vs).setCells g o' us).ownsRow 0 e size v n xs := by
  rw [setCells_heap_drew, setCells_heap_drew]
  exact h

set_option maxHeartbeats 2000000 in
set_option maxRecDepth 100000 in
theorem delete_one (w : World) (g cap n k : Nat) (xs : List Int) (hrow : w.ownsRow 0 3 1 (.slice (some ⟨g, 0, none⟩) n cap) n (ints xs)) (hk : k < n) (hbig : n ≤ 1000000000) :
    Calls Try.prog 25 #[.slice (some ⟨g, 0, none⟩) n cap, .int .i64 k, .int .i64 ((k : Int) + 1)] w fun e w' => e = .returned (.slice (some ⟨g, 0, none⟩) (n - 1) cap) ∧
      w'.ownsRow 0 3 1 (.slice (some ⟨g, 0, none⟩) (n - 1) cap) (n - 1) (ints (xs.eraseIdx k)) ∧ w.grownBy w' (some g) := by
  obtain ⟨i0, hi0, hz0, hz1, hz2⟩ := info_parts Try.info3d
  have hxn : xs.length = n := by have := hrow.1; simpa [ints] using this
  obtain ⟨g', cap', cur, he, _, hg, hnc, hcm, hcs, htk⟩ : ∃ g' cap' cur, Value.slice (some ⟨g, 0, none⟩) n cap = .slice (some ⟨g', 0, none⟩) n cap' ∧ 0 ≤ g' ∧ w.heap[g']? = some (.cells cur 3 (0, 0)) ∧ n ≤ cap' ∧ cap' ≤ maxLen ∧ cur.size = cap' * 1 ∧ cur.toList.take (n * 1) = ints xs := by
    rcases hrow.2 with ⟨h, _⟩ | h
    · cases h
    · exact h
  simp only [Value.slice.injEq, Option.some.injEq, Addr.mk.injEq, true_and, and_true] at he
  obtain ⟨rfl, rfl⟩ := he
  rw [Nat.mul_one] at hcs htk
  have hb : Blk w g 3 cur.toList := hg
  have hlc : cur.toList.length = cap := by simpa using hcs
  have HROW := hid (del_row hg hxn hk hnc hcm hcs htk)
  obtain ⟨news, hnews⟩ : ∃ news, news = ints (xs.drop (k + 1)) := ⟨_, rfl⟩
  rw [← hnews] at HROW
  have hnl : news.length = n - (k + 1) := by rw [hnews]; simp [ints, hxn]
  have hat : ∀ t u, news[t]? = some u → w.cell? ⟨g, k + 1 + t, none⟩ = some u := by
    intro t u hu
    refine hb.cell ?_
    have ht : t < n - (k + 1) := by rw [← hnl]; exact (List.getElem?_eq_some_iff.1 hu).1
    have : (cur.toList.take n)[k + 1 + t]? = (ints xs)[k + 1 + t]? := by rw [htk]
    rw [List.getElem?_take_of_lt (by omega)] at this
    rw [this, ← hu, hnews]
    simp [ints]
  obtain ⟨A, hA, hsrc⟩ : ∃ A : Addr, (if cap = k + 1 then some (⟨g, 0, none⟩ : Addr) else some ⟨g, k + 1, none⟩) = some A ∧ Hid (∀ t u, news[t]? = some u → w.drew.cell? (A.add t) = some u) := by
    by_cases h : cap = k + 1
    · refine ⟨⟨g, 0, none⟩, by simp [h], fun t u hu => ?_⟩
      have : t < news.length := (List.getElem?_eq_some_iff.1 hu).1
      omega
    · refine ⟨⟨g, k + 1, none⟩, by simp [h], fun t u hu => ?_⟩
      rw [Addr.add_lit]
      exact hat t u hu
  have hthere : ∀ j, j < n → (w.cell? ⟨g, j, none⟩).isSome = true := fun j hj => by
    rw [hb.cell (i := j) (List.getElem?_eq_getElem (by omega))]
    rfl
  have s1 : Hid (news.length = (n - (k + 1)) * 1) := by rw [Nat.mul_one]; exact hnl
  have s2 : Hid (∀ u ∈ news, u.oneCell' = true) := by
    intro u hu
    rw [hnews] at hu
    obtain ⟨x, _, rfl⟩ := List.mem_map.1 hu
    rfl
  have s3 : Hid (∀ t, t < news.length → (w.drew.cell? ⟨g, 0 + k * 1 + t, none⟩).isSome = true ∧ w.drew.frozen? ⟨g, 0 + k * 1 + t, none⟩ = false) := by
    intro t ht
    rw [Nat.mul_one, Nat.zero_add]
    exact ⟨hthere _ (by omega), hb.frozen _⟩
  obtain ⟨W1, hW1⟩ : ∃ W1, W1 = w.drew.setCells g (0 + k * 1) news := ⟨_, rfl⟩
  have hb1 : Blk W1 g 3 (ovr cur.toList k news) := by
    rw [hW1, Nat.mul_one, Nat.zero_add]
    exact Blk.setCells _ hb.drew k
  have hl1 : (ovr cur.toList k news).length = cap := by
    rw [ovr_eq _ _ _ (by rw [hlc]; omega)]
    simp only [List.length_append, List.length_take, List.length_drop, hlc]
    omega
  have hcl : ∀ ty, (Builtin.clear_ #[46] ty #[.slice (some ⟨g, n - 1, none⟩) 1 (cap - (n - 1))]).run Try.prog W1 = .ok (.tuple #[]) (W1.setCells g (n - 1) (List.replicate 1 (.int .i64 0))) :=
    fun ty => Lib.run_clear_slice W1 _ _ ty _ Try.underlying46 Try.zeroInt rfl rfl g (n - 1) 1 _ (by omega) (fun t ht => by rw [hb1.cell (i := n - 1 + t) (List.getElem?_eq_getElem (by omega))]; rfl) (fun t ht => hb1.frozen _)
  have ek : n - 1 = k + (n - (k + 1)) := by omega
  have e1 : 1 = n - (k + (n - (k + 1))) := by omega
  have hcl' : ∀ ty, (Builtin.clear_ #[46] ty #[.slice (some ⟨g, k + (n - (k + 1)), none⟩) (n - (k + (n - (k + 1)))) (cap - (k + (n - (k + 1))))]).run Try.prog W1 = .ok (.tuple #[]) (W1.setCells g (n - 1) [.int .i64 0]) := by
    rw [← e1, ← ek]
    exact hcl
  have HE := hid ek
  clear hcl e1 ek
  have HW1 := hid hW1
  have HG : Hid (w.grownBy (W1.setCells g (n - 1) [.int .i64 0]) (some g)) := by
    refine World.grownBy.trans ?_ (grownBy_setCells g _ _ _)
    rw [hW1]
    exact World.grownBy.trans (b := w.drew) ⟨rfl, rfl, rfl, Nat.le_refl _, fun _ _ _ => rfl⟩ (grownBy_setCells g _ _ _)
  have hkc : k ≤ cap := by omega
  have hkc1 : k + 1 ≤ cap := by omega
  have hkn : k + 1 ≤ n := by omega
  have hk0' : (0 : Int) ≤ (k : Int) + 1 := by omega
  have hkn' : (k : Int) + 1 ≤ (n : Int) := by omega
  clear hat hthere hb hg hb1 hl1 hnews hW1 hrow htk
  go_enter Try.func25, Try.ntmps25
  go_wp2_with fail
  go_region_law (refine step_append_room rfl (.tmp 22) (.tmp 25) 46 rfl 3 i0 1 Try.underlying46 hi0 hz1 g 0 k cap (by simp [Act.eval, Act.put]) A (n - (k + 1)) (cap - (k + 1)) news (by simp [Act.eval, Act.put]) s1.out hsrc.out s2.out (by omega) s3.out ?_; rw [← HW1.out])
  go_wp2
  go_ret
  have hrow := HROW.out
  refine ⟨by rw [HE.out]; rfl, ?_, HG.out⟩
  rw [HW1.out, Nat.mul_one, Nat.zero_add]
  exact ownsRow_drewIn hrow
end Go.Proofs.Ytoacfdicjpoohaa
