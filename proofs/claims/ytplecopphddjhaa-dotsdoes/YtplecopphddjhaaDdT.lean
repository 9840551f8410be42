/-
  The document's set of dots: Add, all together.
-/
import Derived.Test.YtplecopphddjhaaDdC1
import Derived.Test.YtplecopphddjhaaDdC2
import Derived.Test.YtplecopphddjhaaDdC3
import Derived.Test.YtplecopphddjhaaDdS
import Derived.Test.YtplecopphddjhaaDotsM
namespace Go.Proofs.Ytplecopphddjhaa
open Go.RowKit Go.Maps
attribute [local go_sem] undef
set_option maxRecDepth 1000000 in
set_option maxHeartbeats 40000000 in
theorem RsAt.add {w : World} {B x : Nat} {ps : List PairV} {eo : Option Addr} {cap : Nat} (h : RsAt w B x ps eo cap) (hB : B ≤ w.heap.size) (o s : Int) (t : ByteArray) : Calls Try.prog 7 #[.pointer (some ⟨x, 0, none⟩), .agg #[.int .i64 o, .int .i64 s], .string t] w fun e w' => e = .returned (.int .i64 (raddC ps o s)) ∧ RsTo B w w' x (raddP ps o s t) := by
  by_cases hC : raddC ps o s = 0
  · by_cases hpos : posP ps o s < ps.length
    · exact h.addMid hB o s t hC hpos
    · have hpos : posP ps o s = ps.length := by have := posP_le ps o s; omega
      cases heo : eo with
      | none => subst heo; exact RsAt.addNone h hB o s t rfl hC hpos
      | some ad =>
        subst heo
        obtain ⟨b, off, hao⟩ := rs_addr h
        subst hao
        exact RsAt.addEnd h hB o s t rfl hC hpos
  have HCN := hid hC
  have H := hid h
  have HBB := hid hB
  obtain ⟨W1, hW1⟩ : ∃ V, V = w.alloc (.cells #[.int .i64 o, .int .i64 s] 25) := ⟨_, rfl⟩
  have hb1 : Below w.heap.size w W1 := by rw [hW1]; exact (Below.refl _ _).alloc (Nat.le_refl _) _
  obtain ⟨pb, hpb⟩ : ∃ q, q = w.heap.size := ⟨_, rfl⟩
  have HK : Hid (Blk W1 pb 25 [.int .i64 o, .int .i64 s]) := by rw [hW1, hpb]; exact Blk.new _ _ _
  have HB1 := hid hb1
  have HPB := hid hpb
  have HMAY := hid (rmay_dot W1 o s)
  have c0 := HK.out.cell (i := 0) rfl
  have c1 := HK.out.cell (i := 1) rfl
  have HW1 := hid hW1
  rw [hW1] at c0 c1
  clear h hB hb1 hpb hW1 hC
  by_cases hmay : MayD o s
  case neg =>
    have HC : Hid (raddC ps o s = 1 ∧ raddP ps o s t = ps) := by
      have h1 : raddC ps o s = 1 := by unfold raddC; rw [if_neg hmay]
      exact ⟨h1, by unfold raddP; rw [h1]; rfl⟩
    rw [decide_eq_false hmay] at HMAY
    rw [HC.out.1, HC.out.2]
    go_enter Try.func7, Try.ntmps7
    go_wp2_with fail
    rw [← HW1.out]
    refine HMAY.out.mono ?_
    rintro e w2 ⟨rfl, hb2⟩
    have HB2 := hid (btN HB1.out hb2)
    clear hb2 c0 c1
    go_wp2
    go_ret
    exact ⟨rfl, RsTo.same H.out HB2.out⟩
  rw [decide_eq_true hmay] at HMAY
  have HMD := hid hmay
  clear hmay
  go_enter Try.func7, Try.ntmps7
  go_wp2_with fail
  rw [← HW1.out]
  refine HMAY.out.mono ?_
  rintro e w2 ⟨rfl, hb2⟩
  have HB2 := hid (btN HB1.out hb2)
  have HK2 := hid (HK.out.below hb2 HK.out.lt)
  have HGET := hid ((H.out.below HB2.out).get o s)
  clear hb2 c0 c1 HMAY
  rw [← HPB.out]
  have k0 := HK2.out.cell (i := 0) rfl
  have k1 := HK2.out.cell (i := 1) rfl
  by_cases hhas : (pget ps o s).isSome = true
  case pos =>
    have HC : Hid (raddC ps o s = 5 ∧ raddP ps o s t = ps) := by
      have h1 : raddC ps o s = 5 := by unfold raddC; rw [if_pos HMD.out, if_pos hhas]
      exact ⟨h1, by unfold raddP; rw [h1]; rfl⟩
    rw [hhas] at HGET
    go_wp2_with fail
    refine HGET.out.mono ?_
    rintro e w3 ⟨rfl, hb3⟩
    have HB3 := hid (btN HB2.out hb3)
    clear hb3 k0 k1
    go_wp2
    go_ret
    exact ⟨by rw [HC.out.1]; rfl, by rw [HC.out.2]; exact RsTo.same H.out HB3.out⟩
  have hhas' : (pget ps o s).isSome = false := by simpa using hhas
  rw [hhas'] at HGET
  go_wp2_with fail
  refine HGET.out.mono ?_
  rintro e w3 ⟨rfl, hb3⟩
  have HB3 := hid (btN HB2.out hb3)
  have HK3 := hid (HK2.out.below hb3 HK2.out.lt)
  have H3 := hid (H.out.below HB3.out)
  obtain ⟨n, HN⟩ : ∃ n, Hid (ps.length = n) := ⟨_, hid rfl⟩
  have HNF : Hid (n ≤ 65536) := by rw [← HN.out]; exact H.out.few
  have a0 := H3.out.blk.cell (i := 0) rfl
  rw [HN.out] at a0
  have HCC : Hid (raddC ps o s = if 65536 ≤ n then 2 else 0) := by show _ = _; unfold raddC; rw [if_pos HMD.out, hhas', HN.out]; simp
  clear hb3 k0 k1 hhas hhas' HGET
  by_cases hfull : 65536 ≤ n
  · have hfull' : (65536 : Int) ≤ (n : Int) := by omega
    have HC : Hid (raddC ps o s = 2 ∧ raddP ps o s t = ps) := by
      have h1 : raddC ps o s = 2 := by rw [HCC.out, if_pos hfull]
      exact ⟨h1, by unfold raddP; rw [h1]; rfl⟩
    clear hfull
    go_wp2
    go_ret
    exact ⟨by rw [HC.out.1]; first | rfl | simp, by rw [HC.out.2]; exact RsTo.same H.out HB3.out⟩
  exfalso
  refine HCN.out ?_
  rw [HCC.out, if_neg hfull]
end Go.Proofs.Ytplecopphddjhaa
/-
  Both sets side by side: the program's and the document's.
-/
namespace Go.Proofs.Ytplecopphddjhaa
open Go.RowKit Go.Maps

theorem blk_typeX {w : World} {b : Nat} {t t' : TypeId} {cs cs' : List Value} (h : Blk w b t cs) (k : Blk w b t' cs') : t = t' := by
  have h1 : w.heap[b]? = _ := h
  have h2 : w.heap[b]? = _ := k
  rw [h1] at h2
  cases h2
  rfl
theorem row_row_neX {w : World} {B B' e e' s s' n n' : Nat} {v v' : Value} {xs xs' : List Value} (h : w.ownsRow B e s v n xs) (k : w.ownsRow B' e' s' v' n' xs') (hne : e ≠ e') {b : Nat} (h1 : v.ownBlock = some b) (h2 : v'.ownBlock = some b) : False := by
  rcases h.2 with ⟨rfl, _⟩ | ⟨g, cap, cur, rfl, _, hg, _⟩
  · cases h1
  · rcases k.2 with ⟨rfl, _⟩ | ⟨g', cap', cur', rfl, _, hg', _⟩
    · cases h2
    · simp [Value.ownBlock] at h1 h2
      subst h1 h2
      rw [hg] at hg'
      cases hg'
      exact hne rfl
/-- The blocks of the document's set. -/
def FootY (x : Nat) (eo : Option Addr) (n cap : Nat) (i : Nat) : Prop := i = x ∨ (Value.slice eo n cap).ownBlock = some i
def addSD (S : Int → Int → Option Value) (N : Nat) (o s : Int) (x : Value) : Int → Int → Option Value := if addCode S N o s = 0 then updS S o s x else S
def addND (S : Int → Int → Option Value) (N : Nat) (o s : Int) : Nat := if addCode S N o s = 0 then N + 1 else N
theorem SameP.put {S : Int → Int → Option Value} {N : Nat} {ps : List PairV} (h : SameP S N ps) (o s : Int) (t : ByteArray) : SameP (addSD S N o s (.string t)) (addND S N o s) (raddP ps o s t) := by
  unfold addSD addND
  rw [h.code]
  by_cases hc : raddC ps o s = 0
  · rw [if_pos hc, if_pos hc]
    exact h.step t hc
  · rw [if_neg hc, if_neg hc, raddP_keep t hc]
    exact h
/-- What a call of the program's set leaves. -/
def AdTo (V V1 : World) (p m : Nat) (rs : Nat → Value) (S : Int → Int → Option Value) (N : Nat) : Prop := ∃ rs' R' D', DotsAt V1 p rs' R' m D' S N ∧ Turns (FootD p m rs) V V1 ∧ ∀ i, FootD p m rs' i → FootD p m rs i ∨ V.heap.size ≤ i
section
variable {V V' : World} {p m N B x : Nat} {rs : Nat → Value} {R : Nat → List Value} {D : DataW Value} {S : Int → Int → Option Value} {ps : List PairV} {eo : Option Addr} {cap : Nat}
theorem DotsAt.addTo (h : DotsAt V p rs R m D S N) (o s : Int) (t : ByteArray) : Calls Try.prog 6 #[.pointer (some ⟨p, 0, none⟩), .agg #[.int .i64 o, .int .i64 s], .string t] V fun e w' => e = .returned (.int .i64 (addCode S N o s)) ∧ AdTo V w' p m rs (addSD S N o s (.string t)) (addND S N o s) := by
  refine (add_any h o s t).mono ?_
  rintro e w' ⟨he, hr⟩
  refine ⟨he, ?_⟩
  unfold addSD addND
  rcases hr with ⟨hno, hd, hb⟩ | ⟨hz, rs', R', D', hd, hT, hF⟩
  · rw [if_neg hno, if_neg hno]
    exact ⟨rs, R, D, hd, Turns.of_below (F := FootD p m rs) hb (Nat.le_refl _), fun i hi => .inl hi⟩
  · rw [if_pos hz, if_pos hz]
    exact ⟨rs', R', D', hd, hT, hF⟩
theorem foot_offD (h : DotsAt V p rs R m D S N) (k : RsAt V B x ps eo cap) : ∀ i, FootD p m rs i → ¬ FootY x eo ps.length cap i := by
  rintro i (rfl | rfl | ⟨j, hj, hi⟩) (e | e)
  · subst e
    exact absurd (blk_typeX h.pre.blk k.blk) (by decide)
  · exact h.pre.blk.not_row (by decide) k.row e.symm
  · exact k.blk.not_map h.pre.map e.symm
  · exact row_not_map k.row h.pre.map e.symm
  · subst e
    exact k.blk.not_row (by decide) (h.pre.run j hj) hi.symm
  · exact row_row_neX (h.pre.run j hj) k.row (by decide) hi e
/-- A call of the program's set leaves the document's as it is. -/
theorem rs_keptD (h : DotsAt V p rs R m D S N) (k : RsAt V B x ps eo cap) (ht : Turns (FootD p m rs) V V') : RsAt V' B x ps eo cap :=
  k.turned ht (fun hf => foot_offD h k x hf (.inl rfl)) (fun b hb hf => foot_offD h k b hf (.inr hb))
theorem da_keptD (h : DotsAt V p rs R m D S N) (k : RsAt V B x ps eo cap) (ht : Turns (fun i => i = x) V V') : DotsAt V' p rs R m D S N :=
  h.turned ht (fun i hi hf => foot_offD h k i hi (.inl hf))
end
/-- Between two calls. -/
structure DuD (w V : World) (p m x : Nat) (rs : Nat → Value) (R : Nat → List Value) (D : DataW Value) (S : Int → Int → Option Value) (N : Nat) (ps : List PairV) (eo : Option Addr) (cap : Nat) : Prop where
  da : DotsAt V p rs R m D S N
  rn : RsAt V w.heap.size x ps eo cap
  same : SameP S N ps
  foot : ∀ i, FootD p m rs i → w.heap.size ≤ i
  bx : w.heap.size ≤ x
  bel : Below w.heap.size w V
def DuX (w : World) (x : Nat) (u : Value) (V : World) : Prop := ∃ p m rs R D S N ps eo cap, u = .pointer (some ⟨p, 0, none⟩) ∧ DuD w V p m x rs R D S N ps eo cap
section
variable {w V V1 V2 V3 : World} {p m N x p' m' : Nat} {rs rs' : Nat → Value} {R : Nat → List Value} {D : DataW Value} {S T : Int → Int → Option Value} {M : Nat} {ps qs : List PairV} {eo : Option Addr} {cap : Nat}
theorem DuD.below (h : DuD w V p m x rs R D S N ps eo cap) (hb : Below V.heap.size V V1) : DuD w V1 p m x rs R D S N ps eo cap :=
  ⟨h.da.below hb, h.rn.below hb, h.same, h.foot, h.bx, btN h.bel hb⟩
/-- Behind the program's call and the document's. -/
theorem DuD.both (h : DuD w V p m x rs R D S N ps eo cap) (h1 : AdTo V V1 p m rs T M) (h2 : RsTo w.heap.size V1 V2 x qs) (hs : SameP T M qs) : DuX w x (.pointer (some ⟨p, 0, none⟩)) V2 := by
  obtain ⟨rs', R', D', hd, ht, hF⟩ := h1
  obtain ⟨eo', cap', hr, htx⟩ := h2
  have hrn1 := rs_keptD h.da h.rn ht
  have hfoot : ∀ i, FootD p m rs' i → w.heap.size ≤ i := fun i hi => by
    rcases hF i hi with h0 | h0
    · exact h.foot i h0
    · exact Nat.le_trans h.bel.size h0
  have hb1 : Below w.heap.size w V1 := h.bel.trans (ht.below h.foot h.bel.size)
  have hb2 : Below w.heap.size w V2 := hb1.trans (htx.below (fun i hi => by rw [hi]; exact h.bx) hb1.size)
  exact ⟨p, m, rs', R', D', T, M, qs, eo', cap', rfl, da_keptD hd hrn1 htx, hr, hs, hfoot, h.bx, hb2⟩
/-- The copy goes on; the old set may turn as it will. -/
theorem DuD.forked (h : DuD w V p m x rs R D S N ps eo cap) (hf : DdFork V D R S N p' m' rs' V2) (h3 : Turns (FootD p m rs) V2 V3) : DuX w x (.pointer (some ⟨p', 0, none⟩)) V3 := by
  obtain ⟨hd, hb2, hf2⟩ := hf
  have hd2 : DotsAt V2 p rs R m D S N := h.da.below hb2
  have hr2 : RsAt V2 w.heap.size x ps eo cap := h.rn.below hb2
  have hr3 := rs_keptD hd2 hr2 h3
  have hs2 : w.heap.size ≤ V2.heap.size := Nat.le_trans h.bel.size hb2.size
  refine ⟨p', m', rs', R, D, S, N, ps, eo, cap, rfl, hd.turned h3 (fun i hi hj => ?_), hr3, h.same, fun i hi => Nat.le_trans h.bel.size (hf2 i hi), h.bx, (btN h.bel hb2).trans (h3.below h.foot hs2)⟩
  have h1 := hf2 i hi
  have h2 := h.da.pre.foot_lt i hj
  omega
end
end Go.Proofs.Ytplecopphddjhaa
