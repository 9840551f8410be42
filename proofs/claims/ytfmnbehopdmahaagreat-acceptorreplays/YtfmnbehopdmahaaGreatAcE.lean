/-
  pannierref16.vote of any; the document's acceptor and what it tells (mathematics).
-/
import Derived.Test.YtfmnbehopdmahaaGreatAvE
import Derived.Test.YtfmnbehopdmahaaGreatScLa
import Derived.Test.YtfmnbehopdmahaaGreatAcH
import Derived.Test.YtfmnbehopdmahaaGreatOrdK
namespace Go.Proofs.YtfmnbehopdmahaaGreat
open Go.RowKit Go.Maps

theorem findV_none : ∀ {xs : List VoM} {s : Int} {k : Nat}, findV xs s k = -1 → ∀ x ∈ xs, x.slot ≠ s
  | [], _, _, _ => fun x h => by cases h
  | y :: r, s, k, h => fun x hx => by
    by_cases he : y.slot = s
    · simp only [findV, if_pos he] at h
      omega
    · simp only [findV, if_neg he] at h
      rcases List.mem_cons.1 hx with h1 | h1
      · rw [h1]; exact he
      · exact findV_none h x h1
theorem RaAt.vote {w : World} {B x : Nat} {nd : Int} {pr : Int × Int} {xs : List VoM} {eo : Option Addr} {cap : Nat} (h : RaAt w B x nd pr xs eo cap) (hB : B ≤ w.heap.size) (v : VoM) (hv : VoOk w v) (hl : ∀ b off, v.en.ao = some ⟨b, off, none⟩ → v.en.e.cut ≠ [] → SafeC w B b) (hn : findV xs v.slot 0 = -1 → xs.length < 4096) :
    Calls Tryz.prog 24 #[.pointer (some ⟨x, 0, none⟩), v.val] w fun e w' => e = .returned (.bool (chgV xs v)) ∧ VotR B w x nd pr eo (voteV xs v) w' := by
  rcases findV_or xs v.slot 0 with h1 | ⟨j, h1, h2, _⟩
  · have e1 : chgV xs v = true := by unfold chgV; rw [if_neg (by omega)]
    have e2 : voteV xs v = insV xs (leadV xs v.slot) v := by unfold voteV; rw [if_neg (by omega)]
    rw [e1, e2]
    exact h.vote_new hB v hv hl (hn h1) h1
  · rw [Nat.zero_add] at h2
    have h3 : (findV xs v.slot 0).toNat = j := by rw [h2]; rfl
    have e1 : chgV xs v = !(decide ((xs.getD j default).bal = v.bal) && decide ((xs.getD j default).en.e = v.en.e)) := by unfold chgV; rw [if_pos (by omega), h3]
    have e2 : voteV xs v = xs.set j v := by unfold voteV; rw [if_pos (by omega), h3]
    rw [e1, e2]
    exact h.vote_has v hv hl h1 h2
/-- A row of votes that rises is what an acceptor has. -/
structure TwV (xs : List VoM) (a : Ac) : Prop where
  ns : xs.map (·.slot) = a.ks
  fs : ∀ x ∈ xs, a.f x.slot = some x.vt
theorem TwV.len {xs : List VoM} {a : Ac} (h : TwV xs a) : xs.length = a.ks.length := by rw [← h.ns, List.length_map]
theorem TwV.lead {xs : List VoM} {a : Ac} (h : TwV xs a) (s : Int) : leadV xs s = aheadOf a.ks s := by
  rw [← h.ns]
  clear h
  induction xs with
  | nil => rfl
  | cons x r ih =>
    unfold aheadOf at ih ⊢
    by_cases hh : x.slot < s
    · simp [leadV, hh, ih]
    · simp [leadV, hh]
theorem TwV.none {xs : List VoM} {a : Ac} (h : TwV xs a) (hg : AcOk a) (s : Int) : findV xs s 0 = -1 ↔ a.f s = none := by
  constructor
  · intro h1
    cases hh : a.f s with
    | none => rfl
    | some y =>
      have hm : s ∈ a.ks := (hg.has s).2 (by rw [hh]; rfl)
      rw [← h.ns] at hm
      obtain ⟨z, hz, e⟩ := List.mem_map.1 hm
      exact absurd e (findV_none h1 z hz)
  · intro h1
    rcases findV_or xs s 0 with h2 | ⟨j, h2, _, h4⟩
    · exact h2
    · rw [vo_getD h2] at h4
      have := h.fs xs[j] (List.getElem_mem h2)
      rw [h4, h1] at this
      cases this
theorem TwV.found {xs : List VoM} {a : Ac} (h : TwV xs a) {s : Int} (hf : ¬ findV xs s 0 = -1) : ∃ j, ∃ hj : j < xs.length, findV xs s 0 = (j : Int) ∧ xs[j].slot = s ∧ a.f s = some xs[j].vt := by
  rcases findV_or xs s 0 with h2 | ⟨j, h2, h3, h4⟩
  · exact absurd h2 hf
  · rw [vo_getD h2] at h4
    rw [Nat.zero_add] at h3
    have := h.fs xs[j] (List.getElem_mem h2)
    rw [h4] at this
    exact ⟨j, h2, h3, h4, this⟩
theorem TwV.chg {xs : List VoM} {a : Ac} (h : TwV xs a) (hg : AcOk a) (v : VoM) : chgV xs v = decide (a.f v.slot ≠ some (v.bal, v.en.e)) := by
  by_cases hf : findV xs v.slot 0 = -1
  · have h1 := (h.none hg v.slot).1 hf
    unfold chgV
    rw [if_neg (by omega), h1]
    simp
  · obtain ⟨j, hj, h1, h2, h3⟩ := h.found hf
    unfold chgV
    rw [if_pos (by omega), h3, h1]
    simp only [Int.toNat_natCast, vo_getD hj, VoM.vt]
    by_cases e1 : xs[j].bal = v.bal <;> by_cases e2 : xs[j].en.e = v.en.e <;> simp [e1, e2]
theorem TwV.vote {xs : List VoM} {a : Ac} (h : TwV xs a) (hg : AcOk a) (v : VoM) : TwV (voteV xs v) (voteA a v.slot v.vt) := by
  by_cases hf : findV xs v.slot 0 = -1
  · have h1 := (h.none hg v.slot).1 hf
    have hns : v.slot ∉ a.ks := fun hm => by have := (hg.has v.slot).1 hm; rw [h1] at this; cases this
    have e : voteV xs v = insV xs (leadV xs v.slot) v := by unfold voteV; rw [if_neg (by omega)]
    rw [e, h.lead]
    refine ⟨?_, fun y hy => ?_⟩
    · show _ = putS a.ks v.slot
      unfold putS insV
      rw [if_pos]
      · rw [List.map_append, List.map_append, List.map_take, List.map_drop, h.ns]; rfl
      · by_cases e : aheadOf a.ks v.slot = a.ks.length
        · exact .inl e
        · refine .inr (fun e2 => hns ?_)
          have hl : aheadOf a.ks v.slot < a.ks.length := by have := aheadOf_le a.ks v.slot; omega
          rw [show a.ks.getD (aheadOf a.ks v.slot) 0 = a.ks[aheadOf a.ks v.slot] by simp [List.getD, List.getElem?_eq_getElem hl]] at e2
          rw [← e2]
          exact List.getElem_mem hl
    · show (if y.slot = v.slot then some v.vt else a.f y.slot) = _
      rcases insV_mem hy with h6 | h6
      · rw [if_neg (fun e => hns (by rw [← e, ← h.ns]; exact List.mem_map.2 ⟨y, h6, rfl⟩))]
        exact h.fs y h6
      · rw [h6, if_pos rfl]
  · obtain ⟨j, hj, h1, h2, h3⟩ := h.found hf
    have hm : v.slot ∈ a.ks := (hg.has _).2 (by rw [h3]; rfl)
    have e : voteV xs v = xs.set j v := by unfold voteV; rw [if_pos (by omega), h1]; rfl
    have hset : (xs.map (·.slot)).set j v.slot = xs.map (·.slot) := by
      refine List.ext_getElem (by simp) (fun i h5 h6 => ?_)
      rw [List.getElem_set]
      split
      · rename_i e; subst e; simp [h2]
      · rfl
    rw [e]
    refine ⟨?_, fun y hy => ?_⟩
    · show _ = putS a.ks v.slot
      rw [putS_old hg.rise hm, List.map_set, hset, h.ns]
    · show (if y.slot = v.slot then some v.vt else a.f y.slot) = _
      by_cases e5 : y.slot = v.slot
      · rw [if_pos e5]
        obtain ⟨i, hi, rfl⟩ := List.mem_iff_getElem.1 hy
        rw [List.length_set] at hi
        by_cases e6 : j = i
        · subst e6
          simp
        · have e7 : (xs.set j v)[i]'(by rw [List.length_set]; exact hi) = xs[i] := by rw [List.getElem_set, if_neg e6]
          rw [e7] at e5
          have hr := hg.rise
          rw [← h.ns] at hr
          exfalso
          have e8 : (xs.map (·.slot))[i]'(by simpa using hi) = (xs.map (·.slot))[j]'(by simpa using hj) := by simp [e5, h2]
          have hp := List.pairwise_iff_getElem.1 hr
          rcases Nat.lt_or_gt_of_ne e6 with h7 | h7
          · have := hp j i (by simpa using hj) (by simpa using hi) h7; omega
          · have := hp i j (by simpa using hi) (by simpa using hj) h7; omega
      · rw [if_neg e5]
        rcases List.mem_or_eq_of_mem_set hy with h8 | h8
        · exact h.fs y h8
        · rw [h8] at e5; exact absurd rfl e5
theorem TwV.above {xs : List VoM} {a : Ac} (h : TwV xs a) (s : Int) : (aboveV xs s xs.length).map VoM.sv = fromTo a s a.ks.length := by
  unfold aboveV fromTo
  rw [List.take_length, List.take_length, ← h.ns, List.filter_map, List.map_map]
  refine (List.map_congr_left (fun y hy => ?_))
  have hy' := (List.mem_filter.1 hy).1
  show (y.slot, y.vt) = (y.slot, (a.f y.slot).getD dfVt)
  rw [h.fs y hy']
  rfl
theorem TwV.prom {xs : List VoM} {a : Ac} (h : TwV xs a) (b : Int × Int) : TwV xs (promA a b) := ⟨h.ns, h.fs⟩
/-- Whether a vote changes what is told, where the promise rises with it. -/
theorem chg_or {a : Ac} (hg : AcOk a) {x : MsM} (hc : ¬ 0 < cmpB a.pr x.bal) : (decide (a.pr ≠ x.bal) || decide (a.f x.slot ≠ some (x.bal, x.en.e))) = decide (a.f x.slot ≠ some (x.bal, x.en.e)) := by
  by_cases e : a.pr = x.bal
  · simp [e]
  · have h1 : a.f x.slot ≠ some (x.bal, x.en.e) := fun hh => by
      have h2 := (hg.right _ _ hh).2.2
      have h3 : cmpB x.bal a.pr ≤ 0 := h2
      have h4 := cmpB_neg a.pr x.bal
      exact e (cmpB_zero.1 (by omega))
    simp [h1]
end Go.Proofs.YtfmnbehopdmahaaGreat
/-
  Package acceptor: sameEntry.
-/
namespace Go.Proofs.YtfmnbehopdmahaaGreat
open Go.RowKit Go.Maps

theorem toList_injA {a b : ByteArray} (h : a.toList = b.toList) : a = b := bytes_injC h
set_option maxRecDepth 100000 in
set_option maxHeartbeats 1000000 in
theorem sameEnA (w : World) (x y : EnM) (hx : EnOk w x) (hy : EnOk w y) : Calls Tryz.prog 90 #[x.val, y.val] w fun e w' => e = .returned (.bool (decide (x.e = y.e))) ∧ Below w.heap.size w w' := by
  obtain ⟨⟨np, tk, ct, ep, dp⟩, ao1, cap1⟩ := x
  obtain ⟨⟨np', tk', ct', ep', dp'⟩, ao2, cap2⟩ := y
  obtain ⟨XN, HXN⟩ : ∃ m, Hid (dp.length = m) := ⟨_, hid rfl⟩
  obtain ⟨YN, HYN⟩ : ∃ m, Hid (dp'.length = m) := ⟨_, hid rfl⟩
  simp only [EnM.val]
  rw [HXN.out, HYN.out]
  obtain ⟨W, hW⟩ : ∃ W, W = (w.alloc (.cells #[.bool np, .string tk, .string ct, .int .i64 ep, .slice ao1 XN cap1] 39)).alloc (.cells #[.bool np', .string tk', .string ct', .int .i64 ep', .slice ao2 YN cap2] 39) := ⟨_, rfl⟩
  have HB : Hid (Below w.heap.size w W) := by rw [hW]; exact ((Below.refl _ _).alloc (Nat.le_refl _) _).alloc (by simp) _
  have HS := hid (equalL_any W ao1 ao2 cap1 cap2 dp dp' XN YN HXN.out HYN.out (hx.cut.below HB.out) (hy.cut.below HB.out))
  have HW := hid hW
  clear hx hy hW
  by_cases h1 : np = np'
  · by_cases h2 : tk = tk'
    · by_cases h3 : ct = ct'
      · by_cases h4 : ep = ep'
        · subst h1 h2 h3 h4
          have HD : Hid (decide ((⟨np, tk, ct, ep, dp⟩ : En) = ⟨np, tk, ct, ep, dp'⟩) = decide (dp = dp')) := by
            show _ = _
            rw [Bool.eq_iff_iff, decide_eq_true_iff, decide_eq_true_iff]
            exact ⟨fun h => by cases h; rfl, fun h => by rw [h]⟩
          rw [HD.out]
          have hnn : (np == np) = true := by simp
          go_enter Tryz.func90, Tryz.ntmps90
          go_wp2_with fail
          rw [← HW.out]
          refine HS.out.mono ?_
          rintro e w' ⟨rfl, q, rfl⟩
          go_wp2
          go_ret
          exact ⟨rfl, below_dn HB.out q⟩
        · rw [decide_eq_false (fun h => by cases h; exact h4 rfl)]
          have hnn : (ep == ep') = false := by simpa using h4
          subst h1 h2 h3
          have hnp : (np == np) = true := by simp
          go_enter Tryz.func90, Tryz.ntmps90
          go_wp2
          go_ret
          rw [← HW.out]
          exact ⟨rfl, HB.out⟩
      · rw [decide_eq_false (fun h => by cases h; exact h3 rfl)]
        have hb2 : (ct.toList == ct'.toList) = false := beq_eq_false_iff_ne.2 fun hh => h3 (toList_injA hh)
        have hb3 : ¬ ct.toList = ct'.toList := fun hh => h3 (toList_injA hh)
        subst h1 h2
        have hnp : (np == np) = true := by simp
        go_enter Tryz.func90, Tryz.ntmps90
        go_wp2
        go_ret
        rw [← HW.out]
        exact ⟨rfl, HB.out⟩
    · rw [decide_eq_false (fun h => by cases h; exact h2 rfl)]
      have hb2 : (tk.toList == tk'.toList) = false := beq_eq_false_iff_ne.2 fun hh => h2 (toList_injA hh)
      have hb3 : ¬ tk.toList = tk'.toList := fun hh => h2 (toList_injA hh)
      subst h1
      have hnp : (np == np) = true := by simp
      go_enter Tryz.func90, Tryz.ntmps90
      go_wp2
      go_ret
      rw [← HW.out]
      exact ⟨rfl, HB.out⟩
  · rw [decide_eq_false (fun h => by cases h; exact h1 rfl)]
    have hnp : (np == np') = false := by simpa using h1
    go_enter Tryz.func90, Tryz.ntmps90
    go_wp2
    go_ret
    rw [← HW.out]
    exact ⟨rfl, HB.out⟩
end Go.Proofs.YtfmnbehopdmahaaGreat
/-
  Package acceptor: onAccept.
-/
namespace Go.Proofs.YtfmnbehopdmahaaGreat
open Go.RowKit Go.Maps

theorem ScL.setCell {W V : World} (h : ScL W V) {q : Addr} (hq : W.heap.size ≤ q.block) (u : Value) : ScL W (V.setCell q u) := ⟨h.out.setCell hq u⟩
def RefusedA (a : Ac) (x : MsM) : Prop := 0 < cmpB a.pr x.bal ∨ (a.f x.slot = none ∧ 4096 ≤ a.ks.length)
instance (a : Ac) (x : MsM) : Decidable (RefusedA a x) := by unfold RefusedA; infer_instance
/-- What onAccept leaves. -/
def AccP (w : World) (p : Nat) (a : Ac) (x : MsM) (e : Ending) (w' : World) : Prop :=
  Below w.heap.size w w' ∧ (if RefusedA a x then e = .returned (effV 5 false ⟨#[]⟩ 139 #[]) else
    ∃ ba bm, e = .returned (effV 4 (decide (a.f x.slot ≠ some (x.bal, x.en.e))) ⟨#[]⟩ 91 #[.pointer (some ⟨bm, 0, none⟩), .pointer (some ⟨ba, 0, none⟩)]) ∧ Blk w' ba 24 [.pointer (some ⟨p, 0, none⟩)] ∧ Blk w' bm 43 x.cells ∧ w.heap.size ≤ ba ∧ w.heap.size ≤ bm)
/-- The frame of onAccept: the boxes of a and of m, and the answer's. -/
structure AccW (w : World) (p m : Nat) (a : Ac) (x : MsM) (ba bm be : Nat) (W : World) : Prop where
  bel : Below w.heap.size w W
  kA : Blk W ba 24 [.pointer (some ⟨p, 0, none⟩)]
  kM : Blk W bm 43 x.cells
  kE : Blk W be 62 [.int .i64 0, .bool false, .string ⟨#[]⟩, .nilFunc]
  at' : AcAt W p m a
theorem AccW.below {w W V : World} {p m ba bm be : Nat} {a : Ac} {x : MsM} (h : AccW w p m a x ba bm be W) (hb : Below W.heap.size W V) : AccW w p m a x ba bm be V := ⟨bt' h.bel hb, h.kA.below hb h.kA.lt, h.kM.below hb h.kM.lt, h.kE.below hb h.kE.lt, h.at'.below hb⟩
/-- The end of onAccept. -/
theorem acc_end {w W : World} {p m ba bm be : Nat} {a : Ac} {x : MsM} (h : AccW w p m a x ba bm be W) (hba : w.heap.size ≤ ba) (hbm : w.heap.size ≤ bm) (hbe : w.heap.size ≤ be) (hne : ba ≠ be ∧ bm ≠ be) (hr : ¬ RefusedA a x) (c : Bool) (hc : decide (a.f x.slot ≠ some (x.bal, x.en.e)) = c) :
    AccP w p a x (.returned (effV 4 c ⟨#[]⟩ 91 #[.pointer (some ⟨bm, 0, none⟩), .pointer (some ⟨ba, 0, none⟩)])) (st4 W be (.int .i64 4) (.bool c) (.string ⟨#[]⟩) (.func (.func 91) #[] #[.pointer (some ⟨bm, 0, none⟩), .pointer (some ⟨ba, 0, none⟩)])) := by
  have hT := st4_turns W be (.int .i64 4) (.bool c) (.string ⟨#[]⟩) (.func (.func 91) #[] #[.pointer (some ⟨bm, 0, none⟩), .pointer (some ⟨ba, 0, none⟩)])
  refine ⟨h.bel.trans (hT.below (fun i hi => by rw [hi]; exact hbe) h.bel.size), ?_⟩
  rw [if_neg hr]
  exact ⟨ba, bm, by rw [hc], hT.blk h.kA hne.1, hT.blk h.kM hne.2, hba, hbm⟩
theorem acc_no {w W : World} {p m ba bm be : Nat} {a : Ac} {x : MsM} (h : AccW w p m a x ba bm be W) (hbe : w.heap.size ≤ be) (hr : RefusedA a x) : AccP w p a x (.returned (effV 5 false ⟨#[]⟩ 139 #[])) (st4 W be (.int .i64 5) (.bool false) (.string ⟨#[]⟩) (.func (.func 139) #[] #[])) := by
  refine ⟨h.bel.trans ((st4_turns W be _ _ _ _).below (fun i hi => by rw [hi]; exact hbe) h.bel.size), ?_⟩
  rw [if_pos hr]
set_option maxRecDepth 1000000 in
set_option maxHeartbeats 2000000 in
theorem AcAt.onAccept {w : World} {p m : Nat} {a : Ac} (h : AcAt w p m a) (x : MsM) (hx : MsOk w x) : Calls Tryz.prog 58 #[.pointer (some ⟨p, 0, none⟩), x.val] w (AccP w p a x) := by
  obtain ⟨W1, hW1⟩ : ∃ W, W = w.alloc (.cells #[.pointer (some ⟨p, 0, none⟩)] 24) := ⟨_, rfl⟩
  obtain ⟨W2, hW2⟩ : ∃ W, W = W1.alloc (.cells x.cells.toArray 43) := ⟨_, rfl⟩
  obtain ⟨W, hW⟩ : ∃ W, W = W2.alloc (.cells #[.int .i64 0, .bool false, .string ⟨#[]⟩, .nilFunc] 62) := ⟨_, rfl⟩
  have hs1 : W1.heap.size = w.heap.size + 1 := by rw [hW1]; simp
  have hs2 : W2.heap.size = w.heap.size + 1 + 1 := by rw [hW2]; simp [hs1]
  have hb1 : Below w.heap.size w W1 := by rw [hW1]; exact (Below.refl _ _).alloc (Nat.le_refl _) _
  have hb2 : Below w.heap.size w W2 := by rw [hW2]; exact hb1.alloc hb1.size _
  have HB : Hid (Below w.heap.size w W) := by rw [hW]; exact hb2.alloc hb2.size _
  obtain ⟨ba, hba⟩ : ∃ q, q = w.heap.size := ⟨_, rfl⟩
  obtain ⟨bm, hbm⟩ : ∃ q, q = w.heap.size + 1 := ⟨_, rfl⟩
  obtain ⟨be, hbe⟩ : ∃ q, q = w.heap.size + 1 + 1 := ⟨_, rfl⟩
  have HF : Hid (AccW w p m a x ba bm be W) := ⟨HB.out, by rw [hba, hW, hW2, hW1]; exact ((Blk.new w _ _).alloc _).alloc _, by rw [hbm, hW, hW2, ← hs1]; exact (Blk.new W1 _ _).alloc _, by rw [hbe, hW, ← hs2]; exact Blk.new W2 _ _, h.below HB.out⟩
  have HW : Hid (W = ((w.alloc (.cells #[.pointer (some ⟨p, 0, none⟩)] 24)).alloc (.cells x.cells.toArray 43)).alloc (.cells #[.int .i64 0, .bool false, .string ⟨#[]⟩, .nilFunc] 62)) := by show _ = _; rw [hW, hW2, hW1]
  have HBA := hid hba
  have HBM := hid hbm
  have HBE := hid hbe
  have HNE : Hid (ba ≠ be ∧ bm ≠ be) := ⟨by omega, by omega⟩
  have HBS : Hid (w.heap.size ≤ ba ∧ w.heap.size ≤ bm ∧ w.heap.size ≤ be ∧ be < W.heap.size) := ⟨by omega, by omega, by omega, HF.out.kE.lt⟩
  have HRF := hid refusalA
  have HSI : Hid (I64 x.slot) := hx.isl
  have HX0 := hid hx.en
  obtain ⟨C, HC⟩ : ∃ C, Hid (decide (0 < cmpB a.pr x.bal) = C) := ⟨_, hid rfl⟩
  have HAB : Hid (∀ V, Below W.heap.size W V → Calls Tryz.prog 87 #[.pointer (some ⟨p, 0, none⟩), .agg #[.int .i64 x.bal.1, .int .i64 x.bal.2]] V fun e w' => e = .returned (.bool C) ∧ Below W.heap.size W w') := fun V hV => by
    have := (HF.out.at'.below hV).above x.bal
    rw [HC.out] at this
    exact this.mono (fun e w' (hh : _ ∧ _) => And.intro hh.1 (bt' hV hh.2))
  obtain ⟨S, D, hEM, hSf⟩ := HF.out.at'.map
  have HEM := hid hEM
  have HSF := hid (hSf x.slot)
  clear h hW hW1 hW2 hs1 hs2 hb1 hb2 hba hbm hbe hEM hSf hx
  have hu : ∃ y : VoM, ((S x.slot).map VoM.val).getD zeroVo = y.val ∧ (∀ z, S x.slot = some z → y = z) := by
    cases S x.slot with
    | none => exact ⟨zeroVM, rfl, fun z hz => by cases hz⟩
    | some z => exact ⟨z, rfl, fun _ hz => by cases hz; rfl⟩
  obtain ⟨y, hy, hyz⟩ := hu
  have HYZ := hid hyz
  obtain ⟨Q, HQ⟩ : ∃ q, Hid ((S x.slot).isSome = q) := ⟨_, hid rfl⟩
  have HLK : Hid (∀ V, ScL W V → (Instr.lookup 57 (.map (some m)) (.int .i64 x.slot) true).run Tryz.prog V = .ok (.tuple #[y.val, .bool Q]) V) := fun V hV => by
    have := (HEM.out.below hV.out).look HSI.out
    rw [hy, HQ.out] at this
    exact this
  clear hy hyz
  obtain ⟨sl2, ⟨r2, n2⟩, ⟨np2, tk2, ct2, ep2, dp2⟩, ao2, cap2⟩ := y
  obtain ⟨YN, HYN⟩ : ∃ m, Hid (dp2.length = m) := ⟨_, hid rfl⟩
  simp only [VoM.val] at HLK
  rw [HYN.out] at HLK
  obtain ⟨kd, fr, to, ⟨br, bn⟩, sl, ⟨⟨np, tk, ct, ep, cut⟩, ao1, cap1⟩, vo, vc, vs, so, sc, seen, eo, ec, evs, ti⟩ := x
  obtain ⟨XN, HXN⟩ : ∃ m, Hid (cut.length = m) := ⟨_, hid rfl⟩
  obtain ⟨VN, HVN⟩ : ∃ m, Hid (vs.length = m) := ⟨_, hid rfl⟩
  obtain ⟨SN, HSN⟩ : ∃ m, Hid (seen.length = m) := ⟨_, hid rfl⟩
  obtain ⟨EN, HEN⟩ : ∃ m, Hid (evs.length = m) := ⟨_, hid rfl⟩
  simp only [MsM.val, MsM.cells] at HW HLK ⊢
  rw [HXN.out, HVN.out, HSN.out, HEN.out] at HW
  rw [HXN.out, HVN.out, HSN.out, HEN.out]
  simp only at HAB HSF HQ HYZ HC HX0
  have HSA : Hid (∀ V, ScL W V → (ScL W V ∧ V.cell? ⟨ba, 0, none⟩ = some (.pointer (some ⟨p, 0, none⟩)) ∧ V.cell? ⟨bm, 5, none⟩ = some (.int .i64 sl) ∧ V.cell? ⟨p, 3, none⟩ = some (.map (some m)) ∧ (Instr.lookup 57 (.map (some m)) (.int .i64 sl) true).run Tryz.prog V = .ok (.tuple #[.agg #[.int .i64 sl2, .int .i64 r2, .int .i64 n2, .bool np2, .string tk2, .string ct2, .int .i64 ep2, .slice ao2 YN cap2], .bool Q]) V)) := fun V hV => by
    have hf := HF.out.below hV.out
    exact ⟨hV, hf.kA.cell rfl, hf.kM.cell rfl, hf.at'.cells.2.2.2, HLK.out V hV⟩
  go_enter Tryz.func58, Tryz.ntmps58
  go_wp2
  rw [← HW.out, ← HBE.out, ← HBM.out, ← HBA.out]
  go_region_held3 (fun V => ScL W V ∧ V.cell? ⟨ba, 0, none⟩ = some (.pointer (some ⟨p, 0, none⟩)) ∧ V.cell? ⟨bm, 5, none⟩ = some (.int .i64 sl) ∧ V.cell? ⟨p, 3, none⟩ = some (.map (some m)) ∧ (Instr.lookup 57 (.map (some m)) (.int .i64 sl) true).run Tryz.prog V = .ok (.tuple #[.agg #[.int .i64 sl2, .int .i64 r2, .int .i64 n2, .bool np2, .string tk2, .string ct2, .int .i64 ep2, .slice ao2 YN cap2], .bool Q]) V)
    (first | (refine ⟨?_, ?_, ?_, ?_, ?_⟩ <;> assumption) | (refine HSA.out _ ?_; (repeat (first | assumption | exact ScL.start _ | apply ScL.dr | apply ScL.alloc | refine ScL.setCell ?_ (by first | exact Nat.le_refl _ | (simp; done) | (simp; omega)) _)); done)) (fail)
  all_goals
    rename_i hHeld
    obtain ⟨V1, hV1⟩ : ∃ V, V = (W.alloc (.cells #[.int .i64 sl2, .int .i64 r2, .int .i64 n2, .bool np2, .string tk2, .string ct2, .int .i64 ep2, .slice ao2 YN cap2] 73)).drew := ⟨_, rfl⟩
    rw [← hV1] at hHeld ⊢
    have HS1 := hid hHeld.1
    have HKB : Hid (Blk V1 W.heap.size 73 [.int .i64 sl2, .int .i64 r2, .int .i64 n2, .bool np2, .string tk2, .string ct2, .int .i64 ep2, .slice ao2 YN cap2]) := by rw [hV1]; exact (Blk.new W _ _).drew
    obtain ⟨bx, hbx⟩ : ∃ q, q = W.heap.size := ⟨_, rfl⟩
    rw [← hbx] at HKB ⊢
    have HF1 := hid (HF.out.below HS1.out.out)
    have HP1 : Hid (Calls Tryz.prog 87 #[.pointer (some ⟨p, 0, none⟩), .agg #[.int .i64 br, .int .i64 bn]] V1 fun e w' => e = .returned (.bool C) ∧ Below V1.heap.size V1 w') := by
      have := HF1.out.at'.above (br, bn)
      rw [HC.out] at this
      exact this
    clear hHeld hV1 hbx HSA
    have d0 := HF1.out.kA.cell (i := 0) rfl
    have d3 := HF1.out.kM.cell (i := 3) rfl
    have d4 := HF1.out.kM.cell (i := 4) rfl
    go_wp2_with fail
    refine HP1.out.mono ?_
    rintro e w2 ⟨rfl, hb12⟩
    have HV12 := hid hb12
    have hb2 : Below W.heap.size W w2 := bt' HS1.out.out hb12
    have HF2 := hid (HF.out.below hb2)
    have HB2 := hid hb2
    clear hb12
    clear d0 d3 d4 HP1
    cases C
    · have HCF : Hid (¬ 0 < cmpB a.pr (br, bn)) := hid (by simpa using HC.out)
      have d0 := HF2.out.kA.cell (i := 0) rfl
      have a3 := HF2.out.at'.cells.2.2.2
      cases Q
      · have HSN2 : Hid (S sl = none) := by
          show _ = _
          cases hh : S sl with
          | none => rfl
          | some z => have := HQ.out; rw [hh] at this; cases this
        have HFN : Hid (a.f sl = none) := by show _ = _; rw [← HSF.out, HSN2.out]; rfl
        have hlen := fun ty => (HEM.out.below hb2).map.len Tryz.underlying57 ty
        rw [HEM.out.cnt] at hlen
        obtain ⟨N, HN⟩ : ∃ N, Hid (a.ks.length = N) := ⟨_, hid rfl⟩
        rw [HN.out] at hlen
        by_cases h4 : 4096 ≤ N
        · have h4' : (4096 : Int) ≤ (N : Int) := by omega
          have HRR : Hid (RefusedA a ⟨kd, fr, to, (br, bn), sl, ⟨⟨np, tk, ct, ep, cut⟩, ao1, cap1⟩, vo, vc, vs, so, sc, seen, eo, ec, evs, ti⟩) := .inr ⟨HFN.out, by rw [HN.out]; exact h4⟩
          clear h4 hb2
          go_wp2_with fail
          refine (HRF.out _).mono ?_
          rintro e wz ⟨rfl, hbz⟩
          have HFz := hid (HF2.out.below hbz)
          have f0 := HFz.out.kE.cell (i := 0) rfl
          have f1 := HFz.out.kE.cell (i := 1) rfl
          have f2 := HFz.out.kE.cell (i := 2) rfl
          have f3 := HFz.out.kE.cell (i := 3) rfl
          have g0 := HFz.out.kE.frozen 0
          have g1 := HFz.out.kE.frozen 1
          have g2 := HFz.out.kE.frozen 2
          have g3 := HFz.out.kE.frozen 3
          have HFI := hid (acc_no HFz.out HBS.out.2.2.1 HRR.out)
          obtain ⟨W3, hW3⟩ : ∃ V, V = st4 wz be (.int .i64 5) (.bool false) (.string ⟨#[]⟩) (.func (.func 139) #[] #[]) := ⟨_, rfl⟩
          have hk9 : Blk W3 be 62 [.int .i64 5, .bool false, .string ⟨#[]⟩, .func (.func 139) #[] #[]] := by rw [hW3]; exact st4_blk HFz.out.kE _ _ _ _
          rw [← hW3] at HFI
          have k0 := hk9.cell (i := 0) rfl
          have k1 := hk9.cell (i := 1) rfl
          have k2 := hk9.cell (i := 2) rfl
          have k3 := hk9.cell (i := 3) rfl
          clear hbz hk9
          unfold effV
          go_wp2
          unfold st4 at hW3
          rw [← hW3]
          (try simp only [Exit.inBlock, Exit.then])
          refine bodyPost_ret (v := .agg #[.int .i64 5, .bool false, .string ⟨#[]⟩, .func (.func 139) #[] #[]]) ?_ rfl HFI.out
          rw [results_cell1B rfl]
          go_simp
        · have h4' : decide ((4096 : Int) ≤ (N : Int)) = false := decide_eq_false (by omega)
          have HNR : Hid (¬ RefusedA a ⟨kd, fr, to, (br, bn), sl, ⟨⟨np, tk, ct, ep, cut⟩, ao1, cap1⟩, vo, vc, vs, so, sc, seen, eo, ec, evs, ti⟩) := fun hh => hh.elim (fun k => HCF.out k) (fun k => h4 (by rw [← HN.out]; exact k.2))
          clear h4 hb2
          have f0 := HF2.out.kE.cell (i := 0) rfl
          have f1 := HF2.out.kE.cell (i := 1) rfl
          have f2 := HF2.out.kE.cell (i := 2) rfl
          have f3 := HF2.out.kE.cell (i := 3) rfl
          have g0 := HF2.out.kE.frozen 0
          have g1 := HF2.out.kE.frozen 1
          have g2 := HF2.out.kE.frozen 2
          have g3 := HF2.out.kE.frozen 3
          have HFI := hid (acc_end HF2.out HBS.out.1 HBS.out.2.1 HBS.out.2.2.1 HNE.out HNR.out true (decide_eq_true (by show a.f sl ≠ _; rw [HFN.out]; simp)))
          obtain ⟨W3, hW3⟩ : ∃ V, V = st4 w2 be (.int .i64 4) (.bool true) (.string ⟨#[]⟩) (.func (.func 91) #[] #[.pointer (some ⟨bm, 0, none⟩), .pointer (some ⟨ba, 0, none⟩)]) := ⟨_, rfl⟩
          have hk9 : Blk W3 be 62 [.int .i64 4, .bool true, .string ⟨#[]⟩, .func (.func 91) #[] #[.pointer (some ⟨bm, 0, none⟩), .pointer (some ⟨ba, 0, none⟩)]] := by rw [hW3]; exact st4_blk HF2.out.kE _ _ _ _
          rw [← hW3] at HFI
          have k0 := hk9.cell (i := 0) rfl
          have k1 := hk9.cell (i := 1) rfl
          have k2 := hk9.cell (i := 2) rfl
          have k3 := hk9.cell (i := 3) rfl
          clear hk9
          go_wp2
          unfold st4 at hW3
          rw [← hW3]
          (try simp only [Exit.inBlock, Exit.then])
          refine bodyPost_ret (v := .agg #[.int .i64 4, .bool true, .string ⟨#[]⟩, .func (.func 91) #[] #[.pointer (some ⟨bm, 0, none⟩), .pointer (some ⟨ba, 0, none⟩)]]) ?_ rfl HFI.out
          rw [results_cell1B rfl]
          go_simp
      · obtain ⟨z, hz⟩ : ∃ z, S sl = some z := Option.isSome_iff_exists.1 HQ.out
        have hyz := HYZ.out z hz
        have HFS : Hid (a.f sl = some ((r2, n2), ⟨np2, tk2, ct2, ep2, dp2⟩)) := by show _ = _; rw [← HSF.out, hz, ← hyz]; rfl
        have HOY : Hid (EnKeep W ⟨⟨np2, tk2, ct2, ep2, dp2⟩, ao2, cap2⟩) := by have := (HEM.out.ok sl z hz).1; rw [← hyz] at this; exact this
        have HNR : Hid (¬ RefusedA a ⟨kd, fr, to, (br, bn), sl, ⟨⟨np, tk, ct, ep, cut⟩, ao1, cap1⟩, vo, vc, vs, so, sc, seen, eo, ec, evs, ti⟩) := fun hh => hh.elim (fun k => HCF.out k) (fun k => by have := k.1; rw [show a.f sl = _ from HFS.out] at this; cases this)
        have HB2' := hid (HKB.out.below (show Below V1.heap.size V1 w2 from HV12.out) HKB.out.lt)
        have c1 := HB2'.out.cell (i := 1) rfl
        have c2 := HB2'.out.cell (i := 2) rfl
        have c3 := HB2'.out.cell (i := 3) rfl
        have c4 := HB2'.out.cell (i := 4) rfl
        have c5 := HB2'.out.cell (i := 5) rfl
        have c6 := HB2'.out.cell (i := 6) rfl
        have c7 := HB2'.out.cell (i := 7) rfl
        have d3 := HF2.out.kM.cell (i := 3) rfl
        have d4 := HF2.out.kM.cell (i := 4) rfl
        have d6 := HF2.out.kM.cell (i := 6) rfl
        have d7 := HF2.out.kM.cell (i := 7) rfl
        have d8 := HF2.out.kM.cell (i := 8) rfl
        have d9 := HF2.out.kM.cell (i := 9) rfl
        have d10 := HF2.out.kM.cell (i := 10) rfl
        simp only at d3 d4 d6 d7 d8 d9 d10
        rw [HXN.out] at d10
        obtain ⟨dd, HDD⟩ : ∃ d, Hid (decide ((⟨np, tk, ct, ep, cut⟩ : En) = ⟨np2, tk2, ct2, ep2, dp2⟩) = d) := ⟨_, hid rfl⟩
        have HSE : Hid (Calls Tryz.prog 90 #[.agg #[.bool np, .string tk, .string ct, .int .i64 ep, .slice ao1 XN cap1], .agg #[.bool np2, .string tk2, .string ct2, .int .i64 ep2, .slice ao2 YN cap2]] w2 fun e w' => e = .returned (.bool dd) ∧ Below w2.heap.size w2 w') := by
          have := sameEnA w2 ⟨⟨np, tk, ct, ep, cut⟩, ao1, cap1⟩ ⟨⟨np2, tk2, ct2, ep2, dp2⟩, ao2, cap2⟩ (HX0.out.below HF2.out.bel) (HOY.out.below HB2.out).ok
          simp only [EnM.val] at this
          rw [HXN.out, HYN.out, HDD.out] at this
          exact this
        have h3 : (br = r2 ∧ bn = n2) ∨ (br = r2 ∧ ¬ bn = n2) ∨ ¬ br = r2 := by
          by_cases h1 : br = r2
          · by_cases h2 : bn = n2
            · exact .inl ⟨h1, h2⟩
            · exact .inr (.inl ⟨h1, h2⟩)
          · exact .inr (.inr h1)
        clear hz hyz hb2
        rcases h3 with ⟨h1, h2⟩ | ⟨h1, h2⟩ | h1
        · have HBQ : Hid (((r2, n2) : Int × Int) = (br, bn)) := by rw [h1, h2]; exact rfl
          subst h1 h2
          go_wp2_with fail
          refine HSE.out.mono ?_
          rintro e w4 ⟨rfl, hb4⟩
          have HF4 := hid (HF2.out.below hb4)
          clear hb4 c1 c2 c3 c4 c5 c6 c7 d3 d4 d6 d7 d8 d9 d10
          cases dd
          · have f0 := HF4.out.kE.cell (i := 0) rfl
            have f1 := HF4.out.kE.cell (i := 1) rfl
            have f2 := HF4.out.kE.cell (i := 2) rfl
            have f3 := HF4.out.kE.cell (i := 3) rfl
            have g0 := HF4.out.kE.frozen 0
            have g1 := HF4.out.kE.frozen 1
            have g2 := HF4.out.kE.frozen 2
            have g3 := HF4.out.kE.frozen 3
            have HFI := hid (acc_end HF4.out HBS.out.1 HBS.out.2.1 HBS.out.2.2.1 HNE.out HNR.out true (decide_eq_true (by show a.f sl ≠ _; rw [HFS.out]; intro e; have := of_decide_eq_false HDD.out; injection e with e; injection e with _ e2; exact this e2.symm)))
            obtain ⟨W3, hW3⟩ : ∃ V, V = st4 w4 be (.int .i64 4) (.bool true) (.string ⟨#[]⟩) (.func (.func 91) #[] #[.pointer (some ⟨bm, 0, none⟩), .pointer (some ⟨ba, 0, none⟩)]) := ⟨_, rfl⟩
            have hk9 : Blk W3 be 62 [.int .i64 4, .bool true, .string ⟨#[]⟩, .func (.func 91) #[] #[.pointer (some ⟨bm, 0, none⟩), .pointer (some ⟨ba, 0, none⟩)]] := by rw [hW3]; exact st4_blk HF4.out.kE _ _ _ _
            rw [← hW3] at HFI
            have k0 := hk9.cell (i := 0) rfl
            have k1 := hk9.cell (i := 1) rfl
            have k2 := hk9.cell (i := 2) rfl
            have k3 := hk9.cell (i := 3) rfl
            clear hk9
            go_wp2
            unfold st4 at hW3
            rw [← hW3]
            (try simp only [Exit.inBlock, Exit.then])
            refine bodyPost_ret (v := .agg #[.int .i64 4, .bool true, .string ⟨#[]⟩, .func (.func 91) #[] #[.pointer (some ⟨bm, 0, none⟩), .pointer (some ⟨ba, 0, none⟩)]]) ?_ rfl HFI.out
            rw [results_cell1B rfl]
            go_simp
          · have f0 := HF4.out.kE.cell (i := 0) rfl
            have f1 := HF4.out.kE.cell (i := 1) rfl
            have f2 := HF4.out.kE.cell (i := 2) rfl
            have f3 := HF4.out.kE.cell (i := 3) rfl
            have g0 := HF4.out.kE.frozen 0
            have g1 := HF4.out.kE.frozen 1
            have g2 := HF4.out.kE.frozen 2
            have g3 := HF4.out.kE.frozen 3
            have HFI := hid (acc_end HF4.out HBS.out.1 HBS.out.2.1 HBS.out.2.2.1 HNE.out HNR.out false (decide_eq_false (by show ¬ a.f sl ≠ _; rw [HFS.out]; intro hh; apply hh; rw [of_decide_eq_true HDD.out])))
            obtain ⟨W3, hW3⟩ : ∃ V, V = st4 w4 be (.int .i64 4) (.bool false) (.string ⟨#[]⟩) (.func (.func 91) #[] #[.pointer (some ⟨bm, 0, none⟩), .pointer (some ⟨ba, 0, none⟩)]) := ⟨_, rfl⟩
            have hk9 : Blk W3 be 62 [.int .i64 4, .bool false, .string ⟨#[]⟩, .func (.func 91) #[] #[.pointer (some ⟨bm, 0, none⟩), .pointer (some ⟨ba, 0, none⟩)]] := by rw [hW3]; exact st4_blk HF4.out.kE _ _ _ _
            rw [← hW3] at HFI
            have k0 := hk9.cell (i := 0) rfl
            have k1 := hk9.cell (i := 1) rfl
            have k2 := hk9.cell (i := 2) rfl
            have k3 := hk9.cell (i := 3) rfl
            clear hk9
            go_wp2
            unfold st4 at hW3
            rw [← hW3]
            (try simp only [Exit.inBlock, Exit.then])
            refine bodyPost_ret (v := .agg #[.int .i64 4, .bool false, .string ⟨#[]⟩, .func (.func 91) #[] #[.pointer (some ⟨bm, 0, none⟩), .pointer (some ⟨ba, 0, none⟩)]]) ?_ rfl HFI.out
            rw [results_cell1B rfl]
            go_simp
        · have HNB : Hid (((br, bn) : Int × Int) ≠ (r2, n2)) := fun e => by cases e; exact h2 rfl
          subst h1
          have f0 := HF2.out.kE.cell (i := 0) rfl
          have f1 := HF2.out.kE.cell (i := 1) rfl
          have f2 := HF2.out.kE.cell (i := 2) rfl
          have f3 := HF2.out.kE.cell (i := 3) rfl
          have g0 := HF2.out.kE.frozen 0
          have g1 := HF2.out.kE.frozen 1
          have g2 := HF2.out.kE.frozen 2
          have g3 := HF2.out.kE.frozen 3
          have HFI := hid (acc_end HF2.out HBS.out.1 HBS.out.2.1 HBS.out.2.2.1 HNE.out HNR.out true (decide_eq_true (by show a.f sl ≠ _; rw [HFS.out]; intro e; injection e with e; injection e with e1 _; exact HNB.out e1.symm)))
          obtain ⟨W3, hW3⟩ : ∃ V, V = st4 w2 be (.int .i64 4) (.bool true) (.string ⟨#[]⟩) (.func (.func 91) #[] #[.pointer (some ⟨bm, 0, none⟩), .pointer (some ⟨ba, 0, none⟩)]) := ⟨_, rfl⟩
          have hk9 : Blk W3 be 62 [.int .i64 4, .bool true, .string ⟨#[]⟩, .func (.func 91) #[] #[.pointer (some ⟨bm, 0, none⟩), .pointer (some ⟨ba, 0, none⟩)]] := by rw [hW3]; exact st4_blk HF2.out.kE _ _ _ _
          rw [← hW3] at HFI
          have k0 := hk9.cell (i := 0) rfl
          have k1 := hk9.cell (i := 1) rfl
          have k2 := hk9.cell (i := 2) rfl
          have k3 := hk9.cell (i := 3) rfl
          clear hk9
          go_wp2
          unfold st4 at hW3
          rw [← hW3]
          (try simp only [Exit.inBlock, Exit.then])
          refine bodyPost_ret (v := .agg #[.int .i64 4, .bool true, .string ⟨#[]⟩, .func (.func 91) #[] #[.pointer (some ⟨bm, 0, none⟩), .pointer (some ⟨ba, 0, none⟩)]]) ?_ rfl HFI.out
          rw [results_cell1B rfl]
          go_simp
        · have HNB : Hid (((br, bn) : Int × Int) ≠ (r2, n2)) := fun e => by cases e; exact h1 rfl
          have f0 := HF2.out.kE.cell (i := 0) rfl
          have f1 := HF2.out.kE.cell (i := 1) rfl
          have f2 := HF2.out.kE.cell (i := 2) rfl
          have f3 := HF2.out.kE.cell (i := 3) rfl
          have g0 := HF2.out.kE.frozen 0
          have g1 := HF2.out.kE.frozen 1
          have g2 := HF2.out.kE.frozen 2
          have g3 := HF2.out.kE.frozen 3
          have HFI := hid (acc_end HF2.out HBS.out.1 HBS.out.2.1 HBS.out.2.2.1 HNE.out HNR.out true (decide_eq_true (by show a.f sl ≠ _; rw [HFS.out]; intro e; injection e with e; injection e with e1 _; exact HNB.out e1.symm)))
          obtain ⟨W3, hW3⟩ : ∃ V, V = st4 w2 be (.int .i64 4) (.bool true) (.string ⟨#[]⟩) (.func (.func 91) #[] #[.pointer (some ⟨bm, 0, none⟩), .pointer (some ⟨ba, 0, none⟩)]) := ⟨_, rfl⟩
          have hk9 : Blk W3 be 62 [.int .i64 4, .bool true, .string ⟨#[]⟩, .func (.func 91) #[] #[.pointer (some ⟨bm, 0, none⟩), .pointer (some ⟨ba, 0, none⟩)]] := by rw [hW3]; exact st4_blk HF2.out.kE _ _ _ _
          rw [← hW3] at HFI
          have k0 := hk9.cell (i := 0) rfl
          have k1 := hk9.cell (i := 1) rfl
          have k2 := hk9.cell (i := 2) rfl
          have k3 := hk9.cell (i := 3) rfl
          clear hk9
          go_wp2
          unfold st4 at hW3
          rw [← hW3]
          (try simp only [Exit.inBlock, Exit.then])
          refine bodyPost_ret (v := .agg #[.int .i64 4, .bool true, .string ⟨#[]⟩, .func (.func 91) #[] #[.pointer (some ⟨bm, 0, none⟩), .pointer (some ⟨ba, 0, none⟩)]]) ?_ rfl HFI.out
          rw [results_cell1B rfl]
          go_simp
    · have HRR : Hid (RefusedA a ⟨kd, fr, to, (br, bn), sl, ⟨⟨np, tk, ct, ep, cut⟩, ao1, cap1⟩, vo, vc, vs, so, sc, seen, eo, ec, evs, ti⟩) := .inl (of_decide_eq_true HC.out)
      clear hb2
      go_wp2_with fail
      refine (HRF.out _).mono ?_
      rintro e wz ⟨rfl, hbz⟩
      have HFz := hid (HF2.out.below hbz)
      have f0 := HFz.out.kE.cell (i := 0) rfl
      have f1 := HFz.out.kE.cell (i := 1) rfl
      have f2 := HFz.out.kE.cell (i := 2) rfl
      have f3 := HFz.out.kE.cell (i := 3) rfl
      have g0 := HFz.out.kE.frozen 0
      have g1 := HFz.out.kE.frozen 1
      have g2 := HFz.out.kE.frozen 2
      have g3 := HFz.out.kE.frozen 3
      have HFI := hid (acc_no HFz.out HBS.out.2.2.1 HRR.out)
      obtain ⟨W3, hW3⟩ : ∃ V, V = st4 wz be (.int .i64 5) (.bool false) (.string ⟨#[]⟩) (.func (.func 139) #[] #[]) := ⟨_, rfl⟩
      have hk9 : Blk W3 be 62 [.int .i64 5, .bool false, .string ⟨#[]⟩, .func (.func 139) #[] #[]] := by rw [hW3]; exact st4_blk HFz.out.kE _ _ _ _
      rw [← hW3] at HFI
      have k0 := hk9.cell (i := 0) rfl
      have k1 := hk9.cell (i := 1) rfl
      have k2 := hk9.cell (i := 2) rfl
      have k3 := hk9.cell (i := 3) rfl
      clear hbz hk9
      unfold effV
      go_wp2
      unfold st4 at hW3
      rw [← hW3]
      (try simp only [Exit.inBlock, Exit.then])
      refine bodyPost_ret (v := .agg #[.int .i64 5, .bool false, .string ⟨#[]⟩, .func (.func 139) #[] #[]]) ?_ rfl HFI.out
      rw [results_cell1B rfl]
      go_simp
end Go.Proofs.YtfmnbehopdmahaaGreat
/-
  Package acceptor: what onAccept has done; kinds.
-/
namespace Go.Proofs.YtfmnbehopdmahaaGreat
open Go.RowKit Go.Maps

theorem blk_ne {w : World} {b c : Nat} {t u : TypeId} {xs ys : List Value} (h : Blk w b t xs) (k : Blk w c u ys) (hne : t ≠ u) : b ≠ c := by
  rintro rfl
  have h1 : w.heap[b]? = some (.cells xs.toArray t) := h
  have h2 : w.heap[b]? = some (.cells ys.toArray u) := k
  rw [h1] at h2
  injection h2 with h2
  injection h2 with _ h2
  exact hne h2
theorem rightEn_sizes {e : En} (h : RightEn e = true) : e.tok.size ≤ 140737488355328 ∧ e.cart.size ≤ 140737488355328 := by
  unfold RightEn at h
  split at h
  · unfold EmptySe at h
    simp only [Bool.and_eq_true, decide_eq_true_eq] at h
    omega
  · unfold RightSe at h
    simp only [Bool.and_eq_true] at h
    have := nameS_sizeC h.1
    have := nameS_sizeC h.2.1
    omega
theorem voteA_len {a : Ac} (h : AcOk a) (s : Int) (v : Vt) : (voteA a s v).ks.length = if (a.f s).isSome = true then a.ks.length else a.ks.length + 1 := by
  show (putS a.ks s).length = _
  by_cases hm : s ∈ a.ks
  · rw [putS_old h.rise hm, if_pos ((h.has s).1 hm)]
  · rw [putS_fresh_len hm, if_neg (fun k => hm ((h.has s).2 k))]
set_option maxRecDepth 1000000 in
set_option maxHeartbeats 2000000 in
theorem onAccept1A {w : World} {p m ba bm : Nat} {a : Ac} {x : MsM} (h : AcAt w p m a) (hA : Blk w ba 24 [.pointer (some ⟨p, 0, none⟩)]) (hM : Blk w bm 43 x.cells) (hx : MsOk w x) (hsep : ∀ b off, x.en.ao = some ⟨b, off, none⟩ → x.en.e.cut ≠ [] → b ≠ p) (hr : RightMs x = true) (hc : ¬ RefusedA a x) : Calls Tryz.prog 91 #[.pointer (some ⟨bm, 0, none⟩), .pointer (some ⟨ba, 0, none⟩)] w fun e w' => e = .returned (.tuple #[]) ∧ AcAt w' p m (voteA a x.slot (x.bal, x.en.e)) ∧ Turns (FootA p m) w w' := by
  obtain ⟨hrb, hre, hrs⟩ := rightMs_bal hr
  obtain ⟨W3, hW3⟩ : ∃ V, V = (w.setCell ⟨p, 1, none⟩ (.int .i64 x.bal.1)).setCell ⟨p, 2, none⟩ (.int .i64 x.bal.2) := ⟨_, rfl⟩
  have hT : Turns (fun i => i = p) w W3 := by rw [hW3]; exact turns_own (turns_own (Turns.refl _ _))
  have hmp := h.map
  obtain ⟨S, D, hEM, hSf⟩ := hmp
  have hnp : NoNum w (fun i => i = p) := noNum_blk h.blk (by decide)
  have HEM3 := hid (hEM.turned hT (fun e => h.pne e.symm) hnp)
  have HSF := hid hSf
  have HP3 : Hid (Blk W3 p 59 [.int .i64 a.node, .int .i64 x.bal.1, .int .i64 x.bal.2, .map (some m)]) := by rw [hW3]; exact (h.blk.set 1 _).set 2 _
  have HA3 := hid (hT.blk hA (blk_ne hA h.blk (by decide)))
  have HM3 := hid (hT.blk hM (blk_ne hM h.blk (by decide)))
  have HPN : Hid (ba ≠ m ∧ bm ≠ m ∧ p ≠ m) := ⟨hA.not_map hEM.map, hM.not_map hEM.map, h.pne⟩
  have HX3 : Hid (EnOk W3 x.en) := by
    have hk := hx.en
    refine ⟨⟨hk.cut.held.turned hT (fun b off e hne hf => ?_), hk.cut.room, hk.cut.few⟩, hk.ie, hk.ht, hk.hc⟩
    exact hsep b off e hne hf
  have HSZ := hid (rightEn_sizes hre)
  have HSI := hid hx.isl
  have HOK : Hid (AcOk (voteA a x.slot (x.bal, x.en.e))) := voteA_ok h.ok hrs hrb hre (fun k => hc (.inl k)) (fun k => hc (.inr k))
  have HLN := hid (voteA_len h.ok x.slot (x.bal, x.en.e))
  have HFW : Hid (a.ks.length ≤ 4096) := h.ok.few
  have c1 := h.cells.2.1
  have c2 := h.cells.2.2.1
  have f1 := h.blk.frozen 1
  have f2 := h.blk.frozen 2
  have d0 := hA.cell (i := 0) rfl
  have d3 := hM.cell (i := 3) rfl
  have d4 := hM.cell (i := 4) rfl
  have HT03 := hid hT
  have HKP : Hid (∀ U, ScL W3 U → Calls Tryz.prog 92 #[x.en.val] U fun e w' => ∃ bo cp, e = .returned (EnM.val ⟨x.en.e, bo, cp⟩) ∧ Hid (EnKeep w' ⟨x.en.e, bo, cp⟩) ∧ ScL W3 w') := fun U hU => by
    refine (keptAc U x.en (HX3.out.below hU.out) HSZ.out.1 HSZ.out.2).mono ?_
    rintro e w' ⟨bo, cp, rfl, hk, hb⟩
    exact ⟨bo, cp, rfl, hk, hU.go hb⟩
  have HPUT : Hid (∀ U bo cp, Hid (EnKeep U ⟨x.en.e, bo, cp⟩) → ScL W3 U → ∃ w6, (Instr.mapUpdate 57 (.map (some m)) (.int .i64 x.slot) (VoM.val ⟨x.slot, x.bal, ⟨x.en.e, bo, cp⟩⟩)).run Tryz.prog U = .ok () w6 ∧ Hid (AcAt w6 p m (voteA a x.slot (x.bal, x.en.e)) ∧ Turns (FootA p m) w w6) ∧ Turns (fun i => i = m) W3 w6) := fun U bo cp hk hU => by
    obtain ⟨w6, h1, ⟨D6, h2⟩, h3⟩ := (HEM3.out.below hU.out).put (x := ⟨x.slot, x.bal, ⟨x.en.e, bo, cp⟩⟩) (by have := HFW.out; unfold maxLen; omega) HSI.out hk.out
    have hT6 : Turns (fun i => i = m) W3 w6 := (Turns.of_below (F := fun i => i = m) hU.out (Nat.le_refl _)).trans h3 (fun i hi => .inl hi)
    refine ⟨w6, h1, ⟨⟨HOK.out, hT6.blk HP3.out HPN.out.2.2, updV S x.slot ⟨x.slot, x.bal, ⟨x.en.e, bo, cp⟩⟩, D6, ?_, fun t => ?_⟩, (HT03.out.mono (fun i hi => (.inl hi : FootA p m i))).trans hT6 (fun i hi => .inl (.inr hi))⟩, hT6⟩
    · rw [HLN.out]
      have e : (a.f x.slot).isSome = (S x.slot).isSome := by rw [← HSF.out x.slot]; simp
      rw [e]
      exact h2
    · show (updV S x.slot _ t).map VoM.vt = (if t = x.slot then some (x.bal, x.en.e) else a.f t)
      unfold updV
      by_cases e : t = x.slot
      · rw [if_pos e, if_pos e]; rfl
      · rw [if_neg e, if_neg e]; exact HSF.out t
  clear h hA hM hx hsep hr hc hrb hre hrs hT hEM hSf hnp
  obtain ⟨kd, fr, to, ⟨br, bn⟩, sl, ⟨⟨np, tk, ct, ep, cut⟩, ao1, cap1⟩, vo, vc, vs, so, sc, seen, eo, ec, evs, ti⟩ := x
  obtain ⟨XN, HXN⟩ : ∃ m, Hid (cut.length = m) := ⟨_, hid rfl⟩
  obtain ⟨VN, HVN⟩ : ∃ m, Hid (vs.length = m) := ⟨_, hid rfl⟩
  obtain ⟨SN, HSN⟩ : ∃ m, Hid (seen.length = m) := ⟨_, hid rfl⟩
  obtain ⟨EN, HEN⟩ : ∃ m, Hid (evs.length = m) := ⟨_, hid rfl⟩
  simp only [MsM.cells, EnM.val, VoM.val] at HM3 HKP HPUT
  rw [HXN.out] at HKP HPUT
  rw [HXN.out, HVN.out, HSN.out, HEN.out] at HM3
  simp only at hW3
  have HTS : Hid (∀ U, ScL W3 U → Turns (fun i => i = m) W3 U) := fun U hU => Turns.of_below hU.out (Nat.le_refl _)
  have HT0 : Hid (Turns (fun i => i = m) W3 W3) := Turns.refl _ _
  have HSA : Hid (∀ U, Turns (fun i => i = m) W3 U → (Turns (fun i => i = m) W3 U ∧ U.cell? ⟨ba, 0, none⟩ = some (.pointer (some ⟨p, 0, none⟩)) ∧ U.cell? ⟨p, 3, none⟩ = some (.map (some m)) ∧ U.cell? ⟨bm, 3, none⟩ = some (.int .i64 br) ∧ U.cell? ⟨bm, 4, none⟩ = some (.int .i64 bn) ∧ U.cell? ⟨bm, 5, none⟩ = some (.int .i64 sl) ∧ U.cell? ⟨bm, 6, none⟩ = some (.bool np) ∧ U.cell? ⟨bm, 7, none⟩ = some (.string tk) ∧ U.cell? ⟨bm, 8, none⟩ = some (.string ct) ∧ U.cell? ⟨bm, 9, none⟩ = some (.int .i64 ep) ∧ U.cell? ⟨bm, 10, none⟩ = some (.slice ao1 XN cap1))) := fun U hU => by
    have h1 := hU.blk HA3.out HPN.out.1
    have h2 := hU.blk HM3.out HPN.out.2.1
    have h3 := hU.blk HP3.out HPN.out.2.2
    exact ⟨hU, h1.cell rfl, h3.cell rfl, h2.cell rfl, h2.cell rfl, h2.cell rfl, h2.cell rfl, h2.cell rfl, h2.cell rfl, h2.cell rfl, h2.cell rfl⟩
  go_enter Tryz.func91, Tryz.ntmps91
  go_wp2
  rw [← hW3]
  clear c1 c2 f1 f2 d0 d3 d4 hW3
  go_region_held3 (fun U => Turns (fun i => i = m) W3 U ∧ U.cell? ⟨ba, 0, none⟩ = some (.pointer (some ⟨p, 0, none⟩)) ∧ U.cell? ⟨p, 3, none⟩ = some (.map (some m)) ∧ U.cell? ⟨bm, 3, none⟩ = some (.int .i64 br) ∧ U.cell? ⟨bm, 4, none⟩ = some (.int .i64 bn) ∧ U.cell? ⟨bm, 5, none⟩ = some (.int .i64 sl) ∧ U.cell? ⟨bm, 6, none⟩ = some (.bool np) ∧ U.cell? ⟨bm, 7, none⟩ = some (.string tk) ∧ U.cell? ⟨bm, 8, none⟩ = some (.string ct) ∧ U.cell? ⟨bm, 9, none⟩ = some (.int .i64 ep) ∧ U.cell? ⟨bm, 10, none⟩ = some (.slice ao1 XN cap1))
    (first | (refine ⟨?_, ?_, ?_, ?_, ?_, ?_, ?_, ?_, ?_, ?_, ?_⟩ <;> assumption) | (refine HSA.out _ ?_; (repeat (first | assumption | exact HT0.out | apply Turns.drew)); done))
    (first
      | (go_at_call 92; with_reducible refine (HKP.out _ (by (repeat (first | assumption | exact ScL.start _ | apply ScL.dr)))).mono ?_; rintro e w5 ⟨bo, cp, rfl, HKY, hs5⟩; have hT5 := HTS.out _ hs5; obtain ⟨w6, hrun, HF6, hT6⟩ := HPUT.out w5 bo cp HKY hs5))
  all_goals
    clear hrun
    go_wp2
    (try simp only [Exit.inBlock, Exit.then])
    refine bodyPost_end (results_none rfl _ _ _) rfl ?_
    exact ⟨rfl, HF6.out⟩
/-- The table of kinds. -/
structure KindsAt (w : World) (k : Nat) : Prop where
  own : ∃ n D, w.ownsMap Tryz.prog 3 valR k n D ∧ ∀ s, I64 s → look D (.int .i64 s) = if s = 1 then some (.func (.func 57) #[] #[]) else if s = 3 then some (.func (.func 58) #[] #[]) else none
theorem KindsAt.below {w w' : World} {k : Nat} (h : KindsAt w k) (hb : Below w.heap.size w w') : KindsAt w' k := by
  obtain ⟨n, D, h1, h2⟩ := h.own
  exact ⟨n, D, (Turns.of_below (F := fun _ => False) hb (Nat.le_refl _)).map h1 (fun h => h), h2⟩
theorem Tryz.zeroFnV (w : World) : (zeroValue 85).run Tryz.prog w = .ok .nilFunc w := by kernel_rfl
set_option maxRecDepth 100000 in
theorem kindsA (w : World) : Calls Tryz.prog 38 #[] w fun e w' => e = .returned (.map (some w.heap.size)) ∧ KindsAt w' w.heap.size ∧ Below w.heap.size w w' := by
  have hmm := @run_makeMap Tryz.prog
  obtain ⟨w1, hw1⟩ : ∃ W, W = w.alloc (.map #[] 0) := ⟨_, rfl⟩
  have hb1 : Below w.heap.size w w1 := by rw [hw1]; exact (Below.refl _ _).alloc (Nat.le_refl _) _
  have h1 : w1.ownsMap Tryz.prog 3 valR w.heap.size 0 (.map []) := by rw [hw1]; exact World.ownsMap_made w _ _ _
  obtain ⟨w2, hrun2, hown2, ht2⟩ := h1.store (val := .func (.func 57) #[] #[]) Tryz.keyedIntL Tryz.underlying87 (by decide) (Tryz.keyIntL (x := 1) (by unfold I64; omega)) rfl
  obtain ⟨w3, hrun3, hown3, ht3⟩ := hown2.store (val := .func (.func 58) #[] #[]) Tryz.keyedIntL Tryz.underlying87 (by decide) (Tryz.keyIntL (x := 3) (by unfold I64; omega)) rfl
  have HB3 : Hid (Below w.heap.size w w3) := (hb1.grown ht2.grown hb1.size (fun k hk => by cases hk; exact Nat.le_refl _)).trans ((Turns.of_grown (F := fun i => i = w.heap.size) ht3.grown (fun k hk => by cases hk; rfl)).below (fun i hi => by rw [hi]; exact Nat.le_refl _) (hb1.grown ht2.grown hb1.size (fun k hk => by cases hk; exact Nat.le_refl _)).size)
  have HK : Hid (KindsAt w3 w.heap.size) := ⟨_, _, hown3, fun s hs => by
    by_cases e3 : s = 3
    · subst e3
      rw [look_put_same hown2.isMap (Tryz.keyedIntL.key (Tryz.keyIntL hs)), if_neg (by decide), if_pos rfl]
    · rw [look_put_other (keyIntL_ne e3)]
      by_cases e1 : s = 1
      · subst e1
        rw [look_put_same h1.isMap (Tryz.keyedIntL.key (Tryz.keyIntL hs)), if_pos rfl]
      · rw [look_put_other (keyIntL_ne e1), if_neg e1, if_neg e3]
        exact look_empty _⟩
  clear h1 hown2 hown3 ht2 ht3 hb1
  rw [hw1] at hrun2
  go_enter Tryz.func38, Tryz.ntmps38
  go_wp2
  go_ret
  exact ⟨rfl, HK.out, HB3.out⟩
end Go.Proofs.YtfmnbehopdmahaaGreat
