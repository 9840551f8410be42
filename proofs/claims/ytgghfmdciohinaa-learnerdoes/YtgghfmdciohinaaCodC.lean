/-
  What a learner has, with no memory in it: of each slot its entry, the slots, rising; its prefix, its end, its gaps.
-/
import Derived.Test.YtgghfmdciohinaaNames
import Derived.Test.YtgghfmdciohinaaCodB
namespace Go.Proofs.Ytgghfmdciohinaa
open Go.RowKit

/-- What a learner has: of each slot its entry; the slots that have one. -/
structure Lr where
  f : Int → Option En
  ks : List Int
structure LrOk (g : Lr) : Prop where
  rise : Rises g.ks
  has : ∀ s, s ∈ g.ks ↔ (g.f s).isSome = true
  slot : ∀ s ∈ g.ks, 0 ≤ s ∧ s ≤ 2147483647
  few : g.ks.length ≤ 65536
  right : ∀ s e, g.f s = some e → RightEn e = true
def noLr : Lr := ⟨fun _ => none, []⟩
theorem noLr_ok : LrOk noLr := ⟨.nil, fun s => by simp [noLr], fun s h => by simp [noLr] at h, by simp [noLr], fun s e h => by simp [noLr] at h⟩
def putL (g : Lr) (s : Int) (e : En) : Lr := ⟨fun t => if t = s then some e else g.f t, putS g.ks s⟩
theorem putS_new_len {l : List Int} {x : Int} (hx : x ∉ l) : (putS l x).length = l.length + 1 := by
  unfold putS
  rw [if_pos]
  · have := aheadOf_le l x
    simp
    omega
  · by_cases h : aheadOf l x = l.length
    · exact .inl h
    · refine .inr (fun e => hx ?_)
      have hl : aheadOf l x < l.length := by have := aheadOf_le l x; omega
      rw [show l.getD (aheadOf l x) 0 = l[aheadOf l x] by simp [List.getD, List.getElem?_eq_getElem hl]] at e
      rw [← e]
      exact List.getElem_mem hl
theorem putL_ok {g : Lr} (h : LrOk g) {s : Int} {e : En} (h0 : 0 ≤ s) (h1 : s ≤ 2147483647) (hr : RightEn e = true) (hn : g.f s = none) (hf : g.ks.length < 65536) : LrOk (putL g s e) := by
  have hns : s ∉ g.ks := fun hm => by have := (h.has s).1 hm; rw [hn] at this; cases this
  refine ⟨putS_rises h.rise s, fun t => ?_, fun t ht => ?_, ?_, fun t x hx => ?_⟩
  · show t ∈ putS g.ks s ↔ (if t = s then some e else g.f t).isSome = true
    rw [putS_mem]
    by_cases e1 : t = s
    · simp [e1]
    · rw [if_neg e1, ← h.has t]
      simp [e1]
  · rcases (putS_mem _ _ _).1 ht with h2 | h2
    · exact h.slot t h2
    · subst h2; exact ⟨h0, h1⟩
  · show (putS g.ks s).length ≤ 65536
    rw [putS_new_len hns]
    omega
  · have hx' : (if t = s then some e else g.f t) = some x := hx
    by_cases e1 : t = s
    · rw [if_pos e1] at hx'
      cases hx'
      exact hr
    · rw [if_neg e1] at hx'
      exact h.right t x hx'
/-- What Choose answers. -/
def chooseC (g : Lr) (s : Int) (e : En) : Int :=
  if 0 ≤ s ∧ s ≤ 2147483647 ∧ RightEn e = true then
    match g.f s with
    | some x => if e = x then 5 else 180
    | none => if g.ks.length < 65536 then 0 else 2
  else 1
def chooseL (g : Lr) (s : Int) (e : En) : Lr := if chooseC g s e = 0 then putL g s e else g
theorem chooseC_zero {g : Lr} {s : Int} {e : En} (h : chooseC g s e = 0) : 0 ≤ s ∧ s ≤ 2147483647 ∧ RightEn e = true ∧ g.f s = none ∧ g.ks.length < 65536 := by
  unfold chooseC at h
  split at h
  · next h0 =>
    split at h
    · split at h <;> cases h
    · next hn =>
      split at h
      · next hl => exact ⟨h0.1, h0.2.1, h0.2.2, hn, hl⟩
      · cases h
  · cases h
theorem chooseL_ok {g : Lr} (h : LrOk g) (s : Int) (e : En) : LrOk (chooseL g s e) := by
  unfold chooseL
  split
  · next h0 =>
    obtain ⟨h1, h2, h3, h4, h5⟩ := chooseC_zero h0
    exact putL_ok h h1 h2 h3 h4 h5
  · exact h
/-- How many slots from 0 on have entries without a gap. -/
structure IsPre (ks : List Int) (n : Nat) : Prop where
  all : ∀ s : Int, 0 ≤ s → s < n → s ∈ ks
  gap : (n : Int) ∉ ks
theorem IsPre.unique {ks : List Int} {m n : Nat} (h : IsPre ks m) (k : IsPre ks n) : m = n := by
  rcases Nat.lt_trichotomy m n with e | e | e
  · exact absurd (k.all m (by omega) (by omega)) h.gap
  · exact e
  · exact absurd (h.all n (by omega) (by omega)) k.gap
/-- The slot behind the greatest one. -/
structure IsEnd (ks : List Int) (n : Nat) : Prop where
  all : ∀ s ∈ ks, s < n
  top : n = 0 ∨ ((n : Int) - 1) ∈ ks
theorem IsEnd.unique {ks : List Int} {m n : Nat} (h0 : ∀ s ∈ ks, 0 ≤ s) (h : IsEnd ks m) (k : IsEnd ks n) : m = n := by
  rcases h.top with h1 | h1 <;> rcases k.top with k1 | k1
  · omega
  · have := h.all _ k1; have := h0 _ k1; omega
  · have := k.all _ h1; have := h0 _ h1; omega
  · have := k.all _ h1; have := h.all _ k1; omega
theorem IsEnd.put {ks : List Int} {n : Nat} (h : IsEnd ks n) {s : Nat} : IsEnd (putS ks s) (max n (s + 1)) := by
  refine ⟨fun t ht => ?_, .inr ((putS_mem _ _ _).2 ?_)⟩
  · rcases (putS_mem _ _ _).1 ht with e | e
    · have := h.all t e; omega
    · omega
  · by_cases e : n ≤ s + 1
    · right; omega
    · left
      rcases h.top with h1 | h1
      · omega
      · rw [show ((max n (s + 1) : Nat) : Int) - 1 = (n : Int) - 1 by omega]
        exact h1
def upto (a n : Nat) : List Int := (List.range n).map fun i => ((a + i : Nat) : Int)
theorem upto_mem {a n : Nat} {x : Int} : x ∈ upto a n ↔ (a : Int) ≤ x ∧ x < (a + n : Nat) := by
  unfold upto
  rw [List.mem_map]
  constructor
  · rintro ⟨i, hi, rfl⟩
    have := List.mem_range.1 hi
    omega
  · rintro ⟨h1, h2⟩
    exact ⟨(x - a).toNat, List.mem_range.2 (by omega), by omega⟩
theorem upto_rises (a n : Nat) : Rises (upto a n) := by
  unfold upto Rises
  rw [List.pairwise_map]
  exact List.pairwise_lt_range.imp (fun h => by omega)
theorem upto_len (a n : Nat) : (upto a n).length = n := by simp [upto]
theorem upto_snoc (a n : Nat) : upto a (n + 1) = upto a n ++ [((a + n : Nat) : Int)] := by simp [upto, List.range_succ]
theorem rises_filter {l : List Int} (h : Rises l) (p : Int → Bool) : Rises (l.filter p) := h.sublist List.filter_sublist
theorem pre_low {ks : List Int} (hr : Rises ks) (h0 : ∀ s ∈ ks, 0 ≤ s) {n : Nat} (h : ∀ s : Int, 0 ≤ s → s < n → s ∈ ks) : ks.filter (fun x => decide (x < (n : Int))) = upto 0 n := by
  refine rises_unique (rises_filter hr _) (upto_rises _ _) (fun x => ?_)
  rw [List.mem_filter, upto_mem]
  constructor
  · rintro ⟨h1, h2⟩
    have := h0 x h1
    simp at h2
    omega
  · rintro ⟨h1, h2⟩
    refine ⟨h x (by omega) (by omega), ?_⟩
    simp
    omega
theorem pre_le {ks : List Int} (hr : Rises ks) (h0 : ∀ s ∈ ks, 0 ≤ s) {n : Nat} (h : ∀ s : Int, 0 ≤ s → s < n → s ∈ ks) : n ≤ ks.length := by
  have h1 := congrArg List.length (pre_low hr h0 h)
  rw [upto_len] at h1
  have := List.length_filter_le (fun x => decide (x < (n : Int))) ks
  omega
theorem filter_both (p : Int → Bool) : ∀ l : List Int, (l.filter p).length + (l.filter (fun x => !p x)).length = l.length
  | [] => rfl
  | x :: l => by
    have := filter_both p l
    by_cases h : p x = true
    · simp [h] at this ⊢
      omega
    · simp [h] at this ⊢
      omega
/-- The slots beyond the prefix. -/
def extraL (ks : List Int) (n : Nat) : List Int := ks.filter (fun x => decide ((n : Int) ≤ x))
theorem extra_len {ks : List Int} (hr : Rises ks) (h0 : ∀ s ∈ ks, 0 ≤ s) {n : Nat} (h : ∀ s : Int, 0 ≤ s → s < n → s ∈ ks) : (extraL ks n).length + n = ks.length := by
  have h1 := congrArg List.length (pre_low hr h0 h)
  rw [upto_len] at h1
  have h2 := filter_both (fun x => decide (x < (n : Int))) ks
  have h3 : extraL ks n = ks.filter (fun x => !decide (x < (n : Int))) := by
    unfold extraL
    congr 1
    funext x
    rw [Bool.eq_iff_iff]
    simp
  rw [h3]
  omega
/-- What a map's slots, in whatever order, come to when they are sorted. -/
theorem sorted_extra {ks zs : List Int} (hr : Rises ks) (n : Nat) (hn : zs.Nodup) (hm : ∀ x, x ∈ zs ↔ x ∈ ks ∧ (n : Int) ≤ x) : (zs.mergeSort fun x y => decide (x ≤ y)) = extraL ks n := by
  refine rises_unique ?_ (rises_filter hr _) (fun x => ?_)
  · have hp : (zs.mergeSort fun x y => decide (x ≤ y)).Pairwise (fun a b => decide (a ≤ b) = true) := List.pairwise_mergeSort (fun a b c h1 h2 => by simp at *; omega) (fun a b => by simp; omega) zs
    have hd : (zs.mergeSort fun x y => decide (x ≤ y)).Nodup := (List.mergeSort_perm zs _).nodup_iff.2 hn
    unfold Rises
    have := List.pairwise_and_iff.2 ⟨hp, hd⟩
    exact this.imp (fun ⟨h1, h2⟩ => by simp at h1; omega)
  · rw [List.mem_mergeSort, hm, extraL, List.mem_filter]
    simp
/-- The gaps among k slots from a on. -/
def gapsL (ks : List Int) (a k : Nat) : List Int := (upto a k).filter (fun x => decide (x ∉ ks))
theorem gaps_zero (ks : List Int) (a : Nat) : gapsL ks a 0 = [] := rfl
theorem gaps_in (ks : List Int) (a k : Nat) (h : ((a + k : Nat) : Int) ∈ ks) : gapsL ks a (k + 1) = gapsL ks a k := by
  unfold gapsL
  rw [upto_snoc, List.filter_append]
  simp only [List.filter_cons, h, not_true_eq_false, decide_false, List.filter_nil]
  simp
theorem gaps_out (ks : List Int) (a k : Nat) (h : ((a + k : Nat) : Int) ∉ ks) : gapsL ks a (k + 1) = gapsL ks a k ++ [((a + k : Nat) : Int)] := by
  unfold gapsL
  rw [upto_snoc, List.filter_append]
  simp only [List.filter_cons, h, not_false_eq_true, decide_true, List.filter_nil]
  simp
theorem gaps_len (ks : List Int) (a k : Nat) : (gapsL ks a k).length ≤ k := by
  have := List.length_filter_le (fun x => decide (x ∉ ks)) (upto a k)
  rw [upto_len] at this
  exact this
theorem gaps_mem {ks : List Int} {a k : Nat} {x : Int} : x ∈ gapsL ks a k ↔ ((a : Int) ≤ x ∧ x < (a + k : Nat)) ∧ x ∉ ks := by
  unfold gapsL
  rw [List.mem_filter, upto_mem]
  simp
theorem gaps_prefix (ks : List Int) (a : Nat) {j k : Nat} (h : j ≤ k) : gapsL ks a j <+: gapsL ks a k := by
  obtain ⟨d, rfl⟩ : ∃ d, k = j + d := ⟨k - j, by omega⟩
  clear h
  induction d with
  | zero => exact List.prefix_rfl
  | succ d ih =>
    refine ih.trans ?_
    show gapsL ks a (j + d) <+: gapsL ks a (j + d + 1)
    by_cases hm : ((a + (j + d) : Nat) : Int) ∈ ks
    · rw [gaps_in _ _ _ hm]; exact List.prefix_rfl
    · rw [gaps_out _ _ _ hm]; exact List.prefix_append _ _
/-- What Missing answers. -/
def missL (ks : List Int) (a z : Nat) (most : Int) : List Int := (gapsL ks a (z - a)).take (min most 4096).toNat
theorem miss_end {ks : List Int} {a z k : Nat} {most : Int} (hk : k ≤ z - a) (hl : (gapsL ks a k).length ≤ (min most 4096).toNat) (h : k = z - a ∨ (min most 4096).toNat ≤ (gapsL ks a k).length) : gapsL ks a k = missL ks a z most := by
  unfold missL
  rcases h with rfl | h
  · rw [List.take_of_length_le hl]
  · rw [show (min most 4096).toNat = (gapsL ks a k).length by omega]
    exact List.prefix_iff_eq_take.1 (gaps_prefix ks a hk)
end Go.Proofs.Ytgghfmdciohinaa
/-
  Package codec: lists of votes and of events: whether they may be.
-/
namespace Go.Proofs.Ytgghfmdciohinaa
open Go.RowKit Go.Maps

theorem HeldVo.at8 {w : World} {ao : Option Addr} {xs : List VoM} (h : HeldVo w ao xs) {j : Nat} (hj : j < xs.length) : ∃ b off, ao = some ⟨b, off, none⟩ ∧ b < w.heap.size ∧ w.cell? ⟨b, off + j * 8, none⟩ = some (.int .i64 xs[j].slot) ∧ w.cell? ⟨b, off + j * 8 + 1, none⟩ = some (.int .i64 xs[j].bal.1) ∧ w.cell? ⟨b, off + j * 8 + 2, none⟩ = some (.int .i64 xs[j].bal.2) ∧
    w.cell? ⟨b, off + j * 8 + 3, none⟩ = some (.bool xs[j].en.e.noop) ∧ w.cell? ⟨b, off + j * 8 + 4, none⟩ = some (.string xs[j].en.e.tok) ∧ w.cell? ⟨b, off + j * 8 + 5, none⟩ = some (.string xs[j].en.e.cart) ∧ w.cell? ⟨b, off + j * 8 + 6, none⟩ = some (.int .i64 xs[j].en.e.ep) ∧
    w.cell? ⟨b, off + j * 8 + 7, none⟩ = some (.slice xs[j].en.ao xs[j].en.e.cut.length xs[j].en.cap) := by
  obtain ⟨b, off, h1, h2, h3⟩ := h.at hj
  exact ⟨b, off, h1, h2, h3 0 _ rfl, h3 1 _ rfl, h3 2 _ rfl, h3 3 _ rfl, h3 4 _ rfl, h3 5 _ rfl, h3 6 _ rfl, h3 7 _ rfl⟩
set_option maxRecDepth 100000 in
set_option maxHeartbeats 1000000 in
theorem every_VoC (w : World) (ao : Option Addr) (cap : Nat) (v : List VoM) (n : Nat) (hn : v.length = n) (h : HeldVo w ao v) (hl : n ≤ 1466015503701) :
    Calls Try.prog 86 #[.slice ao n cap, .func (.func 66) #[] #[]] w fun e w' => e = .returned (.bool (v.all fun x => RightVo x)) ∧ Below w.heap.size w w' := by
  have HN := hid hn
  have H := hid h
  clear hn h
  go_enter Try.func86, Try.ntmps86
  go_wp2
  go_loopw [6, 9] (fun _ x wz => ∃ k : Nat, k ≤ n ∧ x = .int .i64 k ∧ Hid ((∀ a (ha : a < v.length), a < k → (fun x => RightVo x) v[a] = true) ∧ Below w.heap.size w wz)) (fun _ x _ => n - (intOf x).toNat)
  case atStart => exact ⟨0, Nat.zero_le _, rfl, fun a _ ha => absurd ha (Nat.not_lt_zero _), Below.refl _ _⟩
  case round =>
    obtain ⟨k, hk, rfl, HA⟩ := hrel
    by_cases hlt : k < n
    · have hlt' : (k : Int) < (n : Int) := by omega
      have hkx : Hid (k < v.length) := (by rw [HN.out]; exact hlt : k < v.length)
      have HKM : Hid (k + 1 ≤ n) := (by omega : k + 1 ≤ n)
      have HH := hid (H.out.below HA.out.2)
      obtain ⟨b, off, hao, hb, c0, c1, c2, c3, c4, c5, c6, c7⟩ := HH.out.at8 hkx.out
      subst hao
      have HOX := hid (HH.out.1 _ (List.getElem_mem hkx.out))
      obtain ⟨X, HX⟩ : ∃ X, Hid (v[k]'hkx.out = X) := ⟨_, hid rfl⟩
      rw [HX.out] at c0 c1 c2 c3 c4 c5 c6 c7 HOX
      obtain ⟨r, HR⟩ : ∃ r, Hid ((fun x : VoM => RightVo x) X = r) := ⟨_, hid rfl⟩
      obtain ⟨W2, hW2⟩ : ∃ W, W = wr.alloc (.cells X.cells.toArray 98) := ⟨_, rfl⟩
      have HB2 : Hid (Below wr.heap.size wr W2) := by rw [hW2]; exact (Below.refl _ _).alloc (Nat.le_refl _) _
      have HM := hid (mayVoted_C W2 X (HOX.out.below HB2.out))
      have HR' : Hid (RightVo X = r) := HR.out
      rw [HR'.out] at HM
      have HBW : Hid (Below w.heap.size w W2) := bt' HA.out.2 HB2.out
      obtain ⟨sl, ⟨b1, b2⟩, ⟨np, tk, ct, ep, cut⟩, ao1, cap1⟩ := X
      obtain ⟨XN, HXN⟩ : ∃ m, Hid (cut.length = m) := ⟨_, hid rfl⟩
      simp only [VoM.val] at c0 c1 c2 c3 c4 c5 c6 c7 HM
      simp only [VoM.cells] at hW2
      rw [HXN.out] at c7 HM hW2
      have HW2 : Hid (W2 = wr.alloc (.cells #[.int .i64 sl, .int .i64 b1, .int .i64 b2, .bool np, .string tk, .string ct, .int .i64 ep, .slice ao1 XN cap1] 98)) := hW2
      clear hW2 HOX
      go_wp2_with fail
      rw [← HW2.out]
      refine HM.out.mono ?_
      rintro e w' ⟨rfl, hb'⟩
      have HBX := hid (bt' HBW.out hb')
      clear hb' HM c0 c1 c2 c3 c4 c5 c6 c7
      cases r with
      | true =>
        go_wp2
        go_roundw
        case rel =>
          refine ⟨k + 1, HKM.out, by go_num, fun a hav hak => ?_, HBX.out⟩
          by_cases e : a = k
          · subst e
            rw [HX.out]
            exact HR.out
          · exact HA.out.1 a hav (by omega)
        case measure => simp [intOf]; have := HKM.out; omega
      | false =>
        have HV0 : Hid ((v.all fun x => RightVo x) = false) := by
          show _ = _
          rw [List.all_eq_false]
          exact ⟨_, List.getElem_mem hkx.out, by rw [HX.out, HR'.out]; decide⟩
        go_wp2
        go_ret
        exact ⟨by rw [HV0.out]; rfl, HBX.out⟩
    · have hlt' : ¬ (k : Int) < (n : Int) := by omega
      have HIN : Hid ((v.all fun x => RightVo x) = true) := by
        show _ = _
        rw [List.all_eq_true]
        intro x hx
        obtain ⟨a, ha, rfl⟩ := List.mem_iff_getElem.1 hx
        exact HA.out.1 a ha (by have := HN.out; omega)
      have HBX := hid HA.out.2
      go_wp2
      go_ret
      exact ⟨by rw [HIN.out]; rfl, HBX.out⟩
theorem mayList_VoC (w : World) (ao : Option Addr) (cap : Nat) (v : List VoM) (n : Nat) (hn : v.length = n) (h : HeldVo w ao v) (hl : n ≤ 1466015503701) :
    Calls Try.prog 65 #[.slice ao n cap, .int .i64 4096, .func (.func 66) #[] #[]] w fun e w' => e = .returned (.bool (decide (n ≤ 4096) && (v.all fun x => RightVo x))) ∧ Below w.heap.size w w' := by
  have H := hid (every_VoC w ao cap v n hn h hl)
  clear hn h
  obtain ⟨r, HR⟩ : ∃ r, Hid ((v.all fun x => RightVo x) = r) := ⟨_, hid rfl⟩
  rw [HR.out] at H ⊢
  by_cases h7 : n ≤ 4096
  · have h7' : (n : Int) ≤ 4096 := by omega
    rw [decide_eq_true h7, Bool.true_and]
    clear h7
    go_enter Try.func65, Try.ntmps65
    go_wp2_with fail
    refine H.out.mono ?_
    rintro e w' ⟨rfl, hb⟩
    have HB := hid hb
    clear hb
    go_wp2
    go_ret
    exact ⟨rfl, HB.out⟩
  · have h7' : ¬ (n : Int) ≤ 4096 := by omega
    rw [decide_eq_false h7, Bool.false_and]
    clear h7
    go_enter Try.func65, Try.ntmps65
    go_wp2
    go_ret
    exact ⟨rfl, Below.refl _ _⟩
set_option maxRecDepth 100000 in
set_option maxHeartbeats 1000000 in
theorem every_EvC (w : World) (ao : Option Addr) (cap : Nat) (v : List EvM) (n : Nat) (hn : v.length = n) (h : HeldE w ao v) (hl : n ≤ 1466015503701) :
    Calls Try.prog 90 #[.slice ao n cap, .func (.func 69) #[] #[]] w fun e w' => e = .returned (.bool (v.all fun x => RightEvC x.e)) ∧ Below w.heap.size w w' := by
  have HN := hid hn
  have H := hid h
  clear hn h
  go_enter Try.func90, Try.ntmps90
  go_wp2
  go_loopw [6, 9] (fun _ x wz => ∃ k : Nat, k ≤ n ∧ x = .int .i64 k ∧ Hid ((∀ a (ha : a < v.length), a < k → (fun x => RightEvC x.e) v[a] = true) ∧ Below w.heap.size w wz)) (fun _ x _ => n - (intOf x).toNat)
  case atStart => exact ⟨0, Nat.zero_le _, rfl, fun a _ ha => absurd ha (Nat.not_lt_zero _), Below.refl _ _⟩
  case round =>
    obtain ⟨k, hk, rfl, HA⟩ := hrel
    by_cases hlt : k < n
    · have hlt' : (k : Int) < (n : Int) := by omega
      have hkx : Hid (k < v.length) := (by rw [HN.out]; exact hlt : k < v.length)
      have HKM : Hid (k + 1 ≤ n) := (by omega : k + 1 ≤ n)
      have HH := hid (H.out.below HA.out.2)
      obtain ⟨b, off, hao, hb, c0, c1, c2, c3, c4, c5, c6, c7⟩ := HH.out.at hkx.out
      subst hao
      have HOX := hid (HH.out.1 _ (List.getElem_mem hkx.out))
      obtain ⟨X, HX⟩ : ∃ X, Hid (v[k]'hkx.out = X) := ⟨_, hid rfl⟩
      rw [HX.out] at c0 c1 c2 c3 c4 c5 c6 c7 HOX
      obtain ⟨r, HR⟩ : ∃ r, Hid ((fun x : EvM => RightEvC x.e) X = r) := ⟨_, hid rfl⟩
      obtain ⟨W2, hW2⟩ : ∃ W, W = wr.alloc (.cells X.cells.toArray 104) := ⟨_, rfl⟩
      have HB2 : Hid (Below wr.heap.size wr W2) := by rw [hW2]; exact (Below.refl _ _).alloc (Nat.le_refl _) _
      have HM := hid (mayEvent_C W2 X (HOX.out.below HB2.out))
      have HR' : Hid (RightEvC X.e = r) := HR.out
      rw [HR'.out] at HM
      have HBW : Hid (Below w.heap.size w W2) := bt' HA.out.2 HB2.out
      obtain ⟨⟨o, s, dp, ct, ep, sk, qt, cl⟩, ao1, cap1⟩ := X
      obtain ⟨XN, HXN⟩ : ∃ m, Hid (dp.length = m) := ⟨_, hid rfl⟩
      simp only [EvM.val] at c0 c1 c2 c3 c4 c5 c6 c7 HM
      simp only [EvM.cells] at hW2
      rw [HXN.out] at c2 HM hW2
      have HW2 : Hid (W2 = wr.alloc (.cells #[.int .i64 o, .int .i64 s, .slice ao1 XN cap1, .string ct, .int .i64 ep, .string sk, .int .i64 qt, .bool cl] 104)) := hW2
      clear hW2 HOX
      go_wp2_with fail
      rw [← HW2.out]
      refine HM.out.mono ?_
      rintro e w' ⟨rfl, hb'⟩
      have HBX := hid (bt' HBW.out hb')
      clear hb' HM c0 c1 c2 c3 c4 c5 c6 c7
      cases r with
      | true =>
        go_wp2
        go_roundw
        case rel =>
          refine ⟨k + 1, HKM.out, by go_num, fun a hav hak => ?_, HBX.out⟩
          by_cases e : a = k
          · subst e
            rw [HX.out]
            exact HR.out
          · exact HA.out.1 a hav (by omega)
        case measure => simp [intOf]; have := HKM.out; omega
      | false =>
        have HV0 : Hid ((v.all fun x => RightEvC x.e) = false) := by
          show _ = _
          rw [List.all_eq_false]
          exact ⟨_, List.getElem_mem hkx.out, by rw [HX.out, HR'.out]; decide⟩
        go_wp2
        go_ret
        exact ⟨by rw [HV0.out]; rfl, HBX.out⟩
    · have hlt' : ¬ (k : Int) < (n : Int) := by omega
      have HIN : Hid ((v.all fun x => RightEvC x.e) = true) := by
        show _ = _
        rw [List.all_eq_true]
        intro x hx
        obtain ⟨a, ha, rfl⟩ := List.mem_iff_getElem.1 hx
        exact HA.out.1 a ha (by have := HN.out; omega)
      have HBX := hid HA.out.2
      go_wp2
      go_ret
      exact ⟨by rw [HIN.out]; rfl, HBX.out⟩
theorem mayList_EvC (w : World) (ao : Option Addr) (cap : Nat) (v : List EvM) (n : Nat) (hn : v.length = n) (h : HeldE w ao v) (hl : n ≤ 1466015503701) :
    Calls Try.prog 68 #[.slice ao n cap, .int .i64 4096, .func (.func 69) #[] #[]] w fun e w' => e = .returned (.bool (decide (n ≤ 4096) && (v.all fun x => RightEvC x.e))) ∧ Below w.heap.size w w' := by
  have H := hid (every_EvC w ao cap v n hn h hl)
  clear hn h
  obtain ⟨r, HR⟩ : ∃ r, Hid ((v.all fun x => RightEvC x.e) = r) := ⟨_, hid rfl⟩
  rw [HR.out] at H ⊢
  by_cases h7 : n ≤ 4096
  · have h7' : (n : Int) ≤ 4096 := by omega
    rw [decide_eq_true h7, Bool.true_and]
    clear h7
    go_enter Try.func68, Try.ntmps68
    go_wp2_with fail
    refine H.out.mono ?_
    rintro e w' ⟨rfl, hb⟩
    have HB := hid hb
    clear hb
    go_wp2
    go_ret
    exact ⟨rfl, HB.out⟩
  · have h7' : ¬ (n : Int) ≤ 4096 := by omega
    rw [decide_eq_false h7, Bool.false_and]
    clear h7
    go_enter Try.func68, Try.ntmps68
    go_wp2
    go_ret
    exact ⟨rfl, Below.refl _ _⟩
end Go.Proofs.Ytgghfmdciohinaa
