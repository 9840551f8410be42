/-
  The document's acceptor, where its promise and its votes are turned (memory).
-/
import Derived.Test.YtfmnbehopdmahaaGreatAvG
import Derived.Test.YtfmnbehopdmahaaGreatAcX
import Derived.Test.YtfmnbehopdmahaaGreatAcH
import Derived.Test.YtfmnbehopdmahaaGreatOrdK
import Derived.Deep.RegionHeld3
import Derived.Shelf.SlMaps.Clone
import Derived.Shelf.Lay
import Derived.Ground.SlmcProg
namespace Go.Proofs.YtfmnbehopdmahaaGreat
open Go.RowKit Go.Maps

theorem ra_ne {w : World} {B x : Nat} {nd : Int} {pr : Int × Int} {xs : List VoM} {eo : Option Addr} {cap : Nat} (h : RaAt w B x nd pr xs eo cap) : ∀ g off, eo = some ⟨g, off, none⟩ → x ≠ g := by
  intro g off e
  subst e
  rcases h.row.2 with ⟨h0, _⟩ | ⟨g', cap', cur, he, _, hgg, _⟩
  · cases h0
  · cases he
    exact blk_neH h.blk (show Blk w g 73 cur.toList from hgg) (by decide)
theorem RaAt.turned {F : Nat → Prop} {w w' : World} {B x : Nat} {nd : Int} {pr : Int × Int} {xs : List VoM} {eo : Option Addr} {cap : Nat} (h : RaAt w B x nd pr xs eo cap) (ht : Turns F w w') (hF : ∀ i, F i → B ≤ i) (hi : ∀ i, F i → ∀ cs, ¬ Blk w i 3 cs) (hx : ¬ F x) (hr : ∀ g off, eo = some ⟨g, off, none⟩ → ¬ F g) : RaAt w' B x nd pr xs eo cap := by
  refine ⟨ht.blk h.blk hx, ht.row h.row (fun k hk => ?_), fun z hz => voOk_turned (h.ok z hz) ht (fun b off e hne => (h.low z hz b off e hne).off hF hi), h.few, h.low.turned ht hi, h.bx⟩
  cases eo with
  | none => cases hk
  | some ad =>
    obtain ⟨g, e, _⟩ := ra_addr h
    subst e
    cases hk
    exact hr g 0 rfl
/-- The promise stored. -/
theorem ra_prom {w : World} {B x : Nat} {nd : Int} {pr : Int × Int} {xs : List VoM} {eo : Option Addr} {cap : Nat} (h : RaAt w B x nd pr xs eo cap) (r n : Int) : RaAt ((w.setCell ⟨x, 1, none⟩ (.int .i64 r)).setCell ⟨x, 2, none⟩ (.int .i64 n)) B x nd (r, n) xs eo cap := by
  have t : Turns (fun i => i = x) w ((w.setCell ⟨x, 1, none⟩ (.int .i64 r)).setCell ⟨x, 2, none⟩ (.int .i64 n)) := turns_own (turns_own (Turns.refl _ _))
  have hix : ∀ i, i = x → ∀ cs, ¬ Blk w i 3 cs := fun i hi cs hc => by subst hi; exact blk_neH h.blk hc (by decide) rfl
  refine ⟨(h.blk.set 1 _).set 2 _, t.row h.row (fun k hk e => ?_), fun z hz => voOk_turned (h.ok z hz) t (fun b off e hne => (h.low z hz b off e hne).off (fun i hi => by rw [hi]; exact h.bx) hix), h.few, h.low.turned t hix, h.bx⟩
  cases eo with
  | none => cases hk
  | some ad =>
    obtain ⟨g, e2, _⟩ := ra_addr h
    subst e2
    cases hk
    exact ra_ne h g 0 rfl e.symm
/-- The end of a Prepare that is taken. -/
theorem prep_on {B : Nat} {F : Nat → Prop} {w W7 w8 V : World} {x : Nat} {a : Ac} {X : MsM} {xs : List VoM} {ro yo : Option Addr} {rc yc : Nat} (h : RaIn B w x a xs ro rc) (hB : B ≤ w.heap.size) (ht : takesA a X = true) (hk : kindA a X = 2) (hra : RaAt W7 B x a.node X.bal xs ro rc) (h7 : Turns (fun i => i = x) w W7)
    (hown : w8.ownsRow W7.heap.size 73 8 (.slice yo (aboveV xs X.slot xs.length).length yc) (aboveV xs X.slot xs.length).length (flatVo (aboveV xs X.slot xs.length))) (h8 : Below W7.heap.size W7 w8) (hV : Turns F w8 V) (hF : ∀ i, F i → w.heap.size ≤ i ∧ i < W7.heap.size) (hI : ∀ i, F i → ∀ cs, ¬ Blk w8 i 3 cs) (hg : ∀ g off, ro = some ⟨g, off, none⟩ → g < w.heap.size) (c : Bool) (hc : changesA a X = c) :
    OnD B w x a ro X (.returned (.tuple #[.agg #[.int .i64 2, .int .i64 a.node, .int .i64 X.frm, .int .i64 X.bal.1, .int .i64 X.bal.2, .int .i64 X.slot, .bool true, .string ⟨#[]⟩, .string ⟨#[]⟩, .int .i64 0, .slice none 0 0, .slice yo (aboveV xs X.slot xs.length).length yc, .slice none 0 0, .slice none 0 0, .int .i64 0], .string (if c = true then recOf X else ⟨#[]⟩), .bool true])) V := by
  have ha : afterA a X = promA a X.bal := by unfold afterA; rw [if_pos hk]
  have hw7 : Below B w W7 := h7.below (fun i hi => by rw [hi]; exact h.ra.bx) hB
  have hxl : x < w.heap.size := h.ra.blk.lt
  have h78 : W7.heap.size ≤ w8.heap.size := h8.size
  have hra8 : RaAt V B x a.node X.bal xs ro rc := (hra.below h8).turned hV (fun i hi => Nat.le_trans hB (hF i hi).1) hI (fun hf => by have := hF x hf; omega) (fun g off e hf => by have := hg g off e; have := hF g hf; omega)
  have hrow := hV.row hown (fun k hk hf => by have h1 := (hown.lt k hk).1; have h2 := hF k hf; omega)
  have hok : AllVo V (aboveV xs X.slot xs.length) := fun z hz => hra8.ok z (aboveV_mem hz)
  obtain ⟨ao', c', e', _, hheld⟩ := heldVo_of_own rfl hrow hok
  cases e'
  unfold OnD
  rw [if_pos ht]
  refine ⟨yo, yc, aboveV xs X.slot xs.length, ?_, ?_, hheld, Nat.le_trans (aboveV_len _ _ _) h.ra.few, fun b off e => ?_, ?_⟩
  · rw [ha, hk, hc]
    rfl
  · rw [if_pos hk, ha]
    have := (h.tw.prom X.bal).above X.slot
    exact this
  · subst e
    have h1 := (hown.lt b rfl).1
    have h2 := h7.size
    omega
  · rw [ha]
    refine ⟨xs, ro, rc, ⟨hra8, h.tw.prom X.bal, ?_⟩, ?_, fun q e => .inl e⟩
    · rw [← ha]
      exact afterA_ok h.gok (takesA_right ht)
    · exact ((h7.mono (fun i hi => .inl hi)).trans (Turns.of_below (F := fun _ => False) h8 (Nat.le_refl _)) (fun _ h => h.elim)).trans hV (fun i hi => .inr (hF i hi).1)
/-- The end of an Accept that is taken. -/
theorem acc_on {B : Nat} {F : Nat → Prop} {w W7 w8 V : World} {x : Nat} {a : Ac} {X : MsM} {xs : List VoM} {ro : Option Addr} {rc : Nat} (h : RaIn B w x a xs ro rc) (hB : B ≤ w.heap.size) (ht : takesA a X = true) (hk : kindA a X = 4) (h7 : Turns (fun i => i = x) w W7)
    (hvo : VotR B W7 x a.node X.bal ro (voteV xs ⟨X.slot, X.bal, X.en⟩) w8) (hV : Turns F w8 V) (hF : ∀ i, F i → w.heap.size ≤ i ∧ i < W7.heap.size) (hI : ∀ i, F i → ∀ cs, ¬ Blk w8 i 3 cs) (hg : ∀ g off, ro = some ⟨g, off, none⟩ → g < w.heap.size) (c : Bool) (hc : changesA a X = c) :
    OnD B w x a ro X (.returned (.tuple #[.agg #[.int .i64 4, .int .i64 a.node, .int .i64 X.frm, .int .i64 X.bal.1, .int .i64 X.bal.2, .int .i64 X.slot, .bool true, .string ⟨#[]⟩, .string ⟨#[]⟩, .int .i64 0, .slice none 0 0, .slice none 0 0, .slice none 0 0, .slice none 0 0, .int .i64 0], .string (if c = true then recOf X else ⟨#[]⟩), .bool true])) V := by
  have ha : afterA a X = voteA a X.slot (X.bal, X.en.e) := by unfold afterA; rw [if_neg (by rw [hk]; decide), if_pos hk]
  obtain ⟨eo', cap', hra, ht8, hnew⟩ := hvo
  have hxl : x < w.heap.size := h.ra.blk.lt
  have h7s := h7.size
  have hra8 : RaAt V B x a.node X.bal (voteV xs ⟨X.slot, X.bal, X.en⟩) eo' cap' := hra.turned hV (fun i hi => Nat.le_trans hB (hF i hi).1) hI (fun hf => by have := hF x hf; omega) (fun g off e hf => by
    have h1 := hF g hf
    rcases hnew _ e with h2 | h2
    · have := hg g off h2; omega
    · have h3 : W7.heap.size ≤ g := h2; omega)
  unfold OnD
  rw [if_pos ht]
  refine ⟨none, 0, [], ?_, ?_, ⟨fun y hy => (by cases hy), .inl rfl⟩, Nat.zero_le _, fun b off e => (by cases e), ?_⟩
  · rw [ha, hk, hc]
    rfl
  · rw [if_neg (by rw [hk]; decide)]; rfl
  · rw [ha]
    refine ⟨_, eo', cap', ⟨hra8, h.tw.vote h.gok ⟨X.slot, X.bal, X.en⟩, ?_⟩, ?_, fun q e => ?_⟩
    · rw [← ha]
      exact afterA_ok h.gok (takesA_right ht)
    · exact ((h7.mono (fun i hi => .inl hi)).trans ht8 (fun i hi => .inl hi)).trans hV (fun i hi => .inr (hF i hi).1)
    · rcases hnew q e with h1 | h1
      · exact .inl h1
      · exact .inr (Nat.le_trans h7s h1)
theorem prep_on2 {B : Nat} {F : Nat → Prop} {w W7 w8 V : World} {x : Nat} {a : Ac} {X : MsM} {xs : List VoM} {ro yo : Option Addr} {rc yc : Nat} (h : RaIn B w x a xs ro rc) (hB : B ≤ w.heap.size) (ht : takesA a X = true) (hk : kindA a X = 2) (hra : RaAt W7 B x a.node X.bal xs ro rc) (h7 : Turns (fun i => i = x) w W7)
    (hown : w8.ownsRow W7.heap.size 73 8 (.slice yo (aboveV xs X.slot xs.length).length yc) (aboveV xs X.slot xs.length).length (flatVo (aboveV xs X.slot xs.length))) (h8 : Below W7.heap.size W7 w8) (hV : Turns F w8 V) (hF : ∀ i, F i → w.heap.size ≤ i ∧ i < W7.heap.size) (hI : ∀ i, F i → ∀ cs, ¬ Blk w8 i 3 cs) (hg : ∀ g off, ro = some ⟨g, off, none⟩ → g < w.heap.size) (c : Bool) (hc : changesA a X = c) {nd : Int} (hnd : a.node = nd) {YN : Nat} (hyn : (aboveV xs X.slot xs.length).length = YN) {R : ByteArray} (hR : (if c = true then recOf X else ⟨#[]⟩) = R) :
    OnD B w x a ro X (.returned (.tuple #[.agg #[.int .i64 2, .int .i64 nd, .int .i64 X.frm, .int .i64 X.bal.1, .int .i64 X.bal.2, .int .i64 X.slot, .bool true, .string ⟨#[]⟩, .string ⟨#[]⟩, .int .i64 0, .slice none 0 0, .slice yo YN yc, .slice none 0 0, .slice none 0 0, .int .i64 0], .string R, .bool true])) V := by
  subst hnd hyn hR
  exact prep_on h hB ht hk hra h7 hown h8 hV hF hI hg c hc
theorem acc_on2 {B : Nat} {F : Nat → Prop} {w W7 w8 V : World} {x : Nat} {a : Ac} {X : MsM} {xs : List VoM} {ro : Option Addr} {rc : Nat} (h : RaIn B w x a xs ro rc) (hB : B ≤ w.heap.size) (ht : takesA a X = true) (hk : kindA a X = 4) (h7 : Turns (fun i => i = x) w W7)
    (hvo : VotR B W7 x a.node X.bal ro (voteV xs ⟨X.slot, X.bal, X.en⟩) w8) (hV : Turns F w8 V) (hF : ∀ i, F i → w.heap.size ≤ i ∧ i < W7.heap.size) (hI : ∀ i, F i → ∀ cs, ¬ Blk w8 i 3 cs) (hg : ∀ g off, ro = some ⟨g, off, none⟩ → g < w.heap.size) (c : Bool) (hc : changesA a X = c) {nd : Int} (hnd : a.node = nd) {R : ByteArray} (hR : (if c = true then recOf X else ⟨#[]⟩) = R) :
    OnD B w x a ro X (.returned (.tuple #[.agg #[.int .i64 4, .int .i64 nd, .int .i64 X.frm, .int .i64 X.bal.1, .int .i64 X.bal.2, .int .i64 X.slot, .bool true, .string ⟨#[]⟩, .string ⟨#[]⟩, .int .i64 0, .slice none 0 0, .slice none 0 0, .slice none 0 0, .slice none 0 0, .int .i64 0], .string R, .bool true])) V := by
  subst hnd hR
  exact acc_on h hB ht hk h7 hvo hV hF hI hg c hc
end Go.Proofs.YtfmnbehopdmahaaGreat
/-
  Package acceptor: Fork; what Drop asks of each vote.
-/
namespace Go.Proofs
open Go.Shelf Go.RowKit Go.Lib
shelf_lay_g SlLaysW.n5 Slmc 5 at Tryz 30 as YtfmnbehopdmahaaGreat.cloneVo
end Go.Proofs
namespace Go.Proofs.YtfmnbehopdmahaaGreat
open Go.RowKit Go.Maps

theorem dropFn {W : World} {bs : Nat} {s z : Int} (v : Value) (h : Blk W bs 3 [.int .i64 s]) : Calls Tryz.prog 32 #[.int .i64 z, v, .pointer (some ⟨bs, 0, none⟩)] W fun e w' => e = .returned (.bool (decide (z < s))) ∧ Below W.heap.size W w' := by
  have c0 := h.cell (i := 0) rfl
  have hlt := h.lt
  go_enter Tryz.func32, Tryz.ntmps32
  go_wp2
  all_goals
    go_ret
    exact ⟨rfl, (Below.refl _ _).alloc (Nat.le_refl _) _⟩
theorem cloneVo_any {V : World} {m n : Nat} {S : Int → Option VoM} {D : DataW Value} (h : VoMap V m S n D) : Calls Tryz.prog 30 #[.map (some m)] V fun e w' => ∃ m', e = .returned (.map (some m')) ∧ VoMap w' m' S n D ∧ V.heap.size ≤ m' ∧ Below V.heap.size V w' := by
  have hc := AnyW.maps_Clone_owns cloneVo 3 valR m n D V h.map
  refine Calls.mono hc ?_
  rintro e w' ⟨rfl, h1, _, h3⟩
  exact ⟨_, rfl, ⟨h1, h.key, (h.below h3).ok, h.cnt⟩, Nat.le_refl _, h3⟩
/-- What Fork answers: another acceptor, in new blocks. -/
def ForkA (w : World) (a : Ac) (p' m' : Nat) (w' : World) : Prop := AcAt w' p' m' a ∧ Below w.heap.size w w' ∧ w.heap.size ≤ p' ∧ w.heap.size ≤ m'
theorem forkA_of {w U W' : World} {p m p' m' n : Nat} {a : Ac} {S : Int → Option VoM} {D : DataW Value} (h : AcAt w p m a) (hn : a.ks.length = n) (hS : ∀ t, (S t).map VoM.vt = a.f t) (hs : ScL w U) (hm : VoMap U m' S n D) (hml : w.heap.size ≤ m') (hW : W' = U.alloc (.cells #[.int .i64 a.node, .int .i64 a.pr.1, .int .i64 a.pr.2, .map (some m')] 59)) (hp : p' = U.heap.size) : ForkA w a p' m' W' := by
  subst hn hW hp
  have hb : Below U.heap.size U (U.alloc (.cells #[.int .i64 a.node, .int .i64 a.pr.1, .int .i64 a.pr.2, .map (some m')] 59)) := (Below.refl _ _).alloc (Nat.le_refl _) _
  exact ⟨⟨h.ok, Blk.new U _ _, S, D, hm.below hb, hS⟩, bt' hs.out hb, hs.out.size, hml⟩
set_option maxRecDepth 1000000 in
set_option maxHeartbeats 2000000 in
theorem AcAt.fork {w : World} {p m : Nat} {a : Ac} (h : AcAt w p m a) : Calls Tryz.prog 12 #[.pointer (some ⟨p, 0, none⟩)] w fun e w' => ∃ p' m', e = .returned (.pointer (some ⟨p', 0, none⟩)) ∧ ForkA w a p' m' w' := by
  have HCL := hid h.closed
  have H := hid h
  obtain ⟨S, D, hEM, hS⟩ := h.map
  obtain ⟨n, HN⟩ : ∃ n, Hid (a.ks.length = n) := ⟨_, hid rfl⟩
  rw [HN.out] at hEM
  have HS := hid hS
  obtain ⟨nd, hnd⟩ : ∃ q, a.node = q := ⟨_, rfl⟩
  obtain ⟨r, hr⟩ : ∃ q, a.pr.1 = q := ⟨_, rfl⟩
  obtain ⟨b, hb⟩ : ∃ q, a.pr.2 = q := ⟨_, rfl⟩
  have HCE : Hid (∀ V, ScL w V → Calls Tryz.prog 30 #[.map (some m)] V fun e w' => ∃ m', e = .returned (.map (some m')) ∧ Hid (VoMap w' m' S n D ∧ w.heap.size ≤ m') ∧ ScL w w') := fun V hV => by
    refine (cloneVo_any (hEM.below hV.out)).mono ?_
    rintro e w' ⟨m', rfl, h1, h2, h3⟩
    exact ⟨m', rfl, ⟨h1, Nat.le_trans hV.out.size h2⟩, hV.go h3⟩
  have HSA : Hid (∀ V, ScL w V → (ScL w V ∧ V.cell? ⟨p, 0, none⟩ = some (.int .i64 nd) ∧ V.cell? ⟨p, 1, none⟩ = some (.int .i64 r) ∧ V.cell? ⟨p, 2, none⟩ = some (.int .i64 b) ∧ V.cell? ⟨p, 3, none⟩ = some (.map (some m)))) := fun V hV => by
    have h1 := (H.out.below hV.out).cells
    rw [hnd, hr, hb] at h1
    exact ⟨hV, h1⟩
  have HMK : Hid (∀ U W' m' p', ScL w U → VoMap U m' S n D → w.heap.size ≤ m' → W' = U.alloc (.cells #[.int .i64 nd, .int .i64 r, .int .i64 b, .map (some m')] 59) → p' = U.heap.size → ForkA w a p' m' W') := fun U W' m' p' c1 c2 c3 c4 c5 => forkA_of H.out HN.out HS.out c1 c2 c3 (by rw [hnd, hr, hb]; exact c4) c5
  clear h hEM hS hnd hr hb
  go_enter Tryz.func12, Tryz.ntmps12
  go_wp2_with fail
  refine HCL.out.mono ?_
  rintro e w1 ⟨rfl, rfl⟩
  go_wp2
  go_region_held3 (fun V => ScL w1 V ∧ V.cell? ⟨p, 0, none⟩ = some (.int .i64 nd) ∧ V.cell? ⟨p, 1, none⟩ = some (.int .i64 r) ∧ V.cell? ⟨p, 2, none⟩ = some (.int .i64 b) ∧ V.cell? ⟨p, 3, none⟩ = some (.map (some m)))
    ((refine HSA.out _ ?_; (repeat (first | with_reducible assumption | exact ScL.start _ | apply ScL.dr | apply ScL.alloc))))
    (first
      | (go_at_call 30; with_reducible refine (HCE.out _ (by (repeat (first | with_reducible assumption | exact ScL.start _ | apply ScL.dr)))).mono ?_; rintro e w6 ⟨m6, rfl, HF6, hs6⟩)
      | fail)
  have hF : Hid (ForkA w1 a w6.heap.size m6 (w6.alloc (.cells #[.int .i64 nd, .int .i64 r, .int .i64 b, .map (some m6)] 59))) := HMK.out w6 _ m6 _ hs6 HF6.out.1 HF6.out.2 rfl rfl
  go_wp2
  go_ret
  exact ⟨_, m6, rfl, hF.out⟩
/-- With no votes below a slot. -/
def dropA (a : Ac) (s : Int) : Ac := ⟨a.node, a.pr, fun t => if t < s then none else a.f t, a.ks.filter (fun t => decide (s ≤ t))⟩
theorem dropA_ok {a : Ac} (h : AcOk a) (s : Int) : AcOk (dropA a s) := by
  refine ⟨h.rise.filter _, fun t => ?_, fun t ht => h.slot t ((List.mem_filter.1 ht).1), Nat.le_trans (List.length_filter_le _ _) h.few, fun t v hv => ?_, h.pr, h.node⟩
  · show t ∈ a.ks.filter (fun t => decide (s ≤ t)) ↔ (if t < s then none else a.f t).isSome = true
    rw [List.mem_filter, h.has t]
    by_cases e : t < s
    · rw [if_pos e]
      simp
      omega
    · rw [if_neg e]
      simp
      omega
  · have hv' : (if t < s then none else a.f t) = some v := hv
    split at hv'
    · cases hv'
    · exact h.right t v hv'
end Go.Proofs.YtfmnbehopdmahaaGreat
/-
  pannierref16.New; the document's votes of a slot and above put in the votes' place.
-/
namespace Go.Proofs.YtfmnbehopdmahaaGreat
open Go.RowKit Go.Maps

theorem rnewA_bad (w : World) (n : Int) (h : n < 0 ∨ 7 ≤ n) : Calls Tryz.prog 6 #[.int .i64 n] w fun e w' => e = .returned (.tuple #[.pointer none, .int .i64 1]) ∧ w' = w := by
  by_cases h0 : n < 0
  · go_enter Tryz.func6, Tryz.ntmps6
    go_wp2
    go_ret2
    exact ⟨rfl, rfl⟩
  · have h1 : 6 < n := by omega
    go_enter Tryz.func6, Tryz.ntmps6
    go_wp2
    go_ret2
    exact ⟨rfl, rfl⟩
theorem rnewA_good (w : World) (n : Int) (h0 : ¬ n < 0) (h1 : ¬ 7 ≤ n) {B : Nat} (hB : B ≤ w.heap.size) : Calls Tryz.prog 6 #[.int .i64 n] w fun e w' => ∃ x, e = .returned (.tuple #[.pointer (some ⟨x, 0, none⟩), .int .i64 0]) ∧ RaIn B w' x (newAc n) [] none 0 ∧ Below w.heap.size w w' ∧ w.heap.size ≤ x := by
  obtain ⟨w2, hw2⟩ : ∃ W, W = w.alloc (.cells #[.int .i64 n, .int .i64 0, .int .i64 0, .slice none 0 0] 51) := ⟨_, rfl⟩
  have HW : Hid (w2 = w.alloc (.cells #[.int .i64 n, .int .i64 0, .int .i64 0, .slice none 0 0] 51)) := hid hw2
  have HB : Hid (Below w.heap.size w w2) := by rw [hw2]; exact (Below.refl _ _).alloc (Nat.le_refl _) _
  have HK : Hid (Blk w2 w.heap.size 51 [.int .i64 n, .int .i64 0, .int .i64 0, .slice none 0 0]) := by rw [hw2]; exact Blk.new w _ _
  have HAT : Hid (RaIn B w2 w.heap.size (newAc n) [] none 0) := ⟨⟨HK.out, World.ownsRow_nil _ _ _ _, fun x h => (by cases h), Nat.zero_le _, fun x h => (by cases h), hB⟩, ⟨rfl, fun x h => (by cases h)⟩, newAc_ok ⟨by omega, by omega⟩⟩
  have h2 : ¬ 6 < n := by omega
  clear hw2 hB
  go_enter Tryz.func6, Tryz.ntmps6
  go_wp2
  go_ret2
  rw [← HW.out]
  exact ⟨_, rfl, HAT.out, HB.out, Nat.le_refl _⟩
theorem TwV.drop {xs : List VoM} {a : Ac} (h : TwV xs a) (s : Int) : TwV (aboveV xs s xs.length) (dropA a s) := by
  unfold aboveV
  rw [List.take_length]
  refine ⟨?_, fun y hy => ?_⟩
  · show _ = a.ks.filter (fun t => decide (s ≤ t))
    rw [← h.ns, List.filter_map]
    rfl
  · obtain ⟨h1, h2⟩ := List.mem_filter.1 hy
    have h3 : s ≤ y.slot := of_decide_eq_true h2
    show (if y.slot < s then Option.none else a.f y.slot) = _
    rw [if_neg (by omega)]
    exact h.fs y h1
theorem RaIn.dropV {B : Nat} {W9 w5 W : World} {x : Nat} {a : Ac} {xs : List VoM} {ro bo : Option Addr} {rc cp : Nat} (h : RaIn B W9 x a xs ro rc) (hB : B ≤ W9.heap.size) (s : Int) (hown : w5.ownsRow W9.heap.size 73 8 (.slice bo (aboveV xs s xs.length).length cp) (aboveV xs s xs.length).length (flatVo (aboveV xs s xs.length))) (hb : Below W9.heap.size W9 w5) (hW : W = w5.setCell ⟨x, 3, none⟩ (.slice bo (aboveV xs s xs.length).length cp)) :
    RaTo B W9 W x (dropA a s) ro := by
  obtain ⟨eo', cap', h1, h2, h3⟩ := ra_newrow h.ra hB rfl (Nat.le_trans (aboveV_len _ _ _) h.ra.few) (fun z hz => h.ra.ok z (aboveV_mem hz)) (fun z hz => h.ra.low z (aboveV_mem hz)) hb hown hW
  exact ⟨_, eo', cap', ⟨h1, h.tw.drop s, dropA_ok h.gok s⟩, h2, h3⟩
end Go.Proofs.YtfmnbehopdmahaaGreat
/-
  pannierref16.Fork: the same, of its own.
-/
namespace Go.Proofs.YtfmnbehopdmahaaGreat
open Go.RowKit Go.Maps

/-- What the document's Fork leaves. -/
def FkD (B : Nat) (w : World) (a : Ac) (xs : List VoM) (e : Ending) (w' : World) : Prop := ∃ x' ro' rc', e = .returned (.pointer (some ⟨x', 0, none⟩)) ∧ RaIn B w' x' a xs ro' rc' ∧ Below w.heap.size w w' ∧ (∀ i, FootR x' ro' i → w.heap.size ≤ i)
set_option maxRecDepth 1000000 in
set_option maxHeartbeats 4000000 in
theorem RaIn.fork {B : Nat} {w : World} {x : Nat} {a : Ac} {xs : List VoM} {ro : Option Addr} {rc : Nat} (h : RaIn B w x a xs ro rc) (hB : B ≤ w.heap.size) : Calls Tryz.prog 36 #[.pointer (some ⟨x, 0, none⟩)] w (FkD B w a xs) := by
  obtain ⟨n, HN⟩ : ∃ n, Hid (xs.length = n) := ⟨_, hid rfl⟩
  obtain ⟨nd, hnd⟩ : ∃ q, a.node = q := ⟨_, rfl⟩
  obtain ⟨r, hr⟩ : ∃ q, a.pr.1 = q := ⟨_, rfl⟩
  obtain ⟨b, hb⟩ : ∃ q, a.pr.2 = q := ⟨_, rfl⟩
  have HFW : Hid (n ≤ 4096) := by rw [← HN.out]; exact hid h.ra.few
  have HSA : Hid (∀ V, ScL w V → (ScL w V ∧ V.cell? ⟨x, 0, none⟩ = some (.int .i64 nd) ∧ V.cell? ⟨x, 1, none⟩ = some (.int .i64 r) ∧ V.cell? ⟨x, 2, none⟩ = some (.int .i64 b) ∧ V.cell? ⟨x, 3, none⟩ = some (.slice ro n rc))) := fun V hV => by
    have h1 := (h.ra.below hV.out).blk
    rw [hnd, hr, hb, HN.out] at h1
    exact ⟨hV, h1.cell rfl, h1.cell rfl, h1.cell rfl, h1.cell rfl⟩
  have HHX : Hid (∀ V, ScL w V → HeldV8 V ro xs) := fun V hV => h.ra.held.v8.below hV.out
  have HFIN : Hid (∀ w5 W9 x9 bo cp, ScL w w5 → w5.ownsRow w.heap.size 73 8 (.slice bo n cp) n (flatVo xs) → W9 = w5.alloc (.cells #[.int .i64 nd, .int .i64 r, .int .i64 b, .slice bo n cp] 51) → x9 = w5.heap.size → FkD B w a xs (.returned (.pointer (some ⟨x9, 0, none⟩))) W9) := fun w5 W9 x9 bo cp hs hown hW hx => by
    subst hx
    have hba : Below w5.heap.size w5 W9 := by rw [hW]; exact (Below.refl _ _).alloc (Nat.le_refl _) _
    have hb9 : Below w.heap.size w W9 := bt' hs.out hba
    have hk : Blk W9 w5.heap.size 51 [.int .i64 a.node, .int .i64 a.pr.1, .int .i64 a.pr.2, .slice bo xs.length cp] := by rw [hW, hnd, hr, hb, HN.out]; exact Blk.new w5 _ _
    have hrow : W9.ownsRow w.heap.size 73 8 (.slice bo xs.length cp) xs.length (flatVo xs) := by rw [HN.out]; exact (Turns.of_below (F := fun _ => False) hba (Nat.le_refl _)).row hown (fun _ _ h => h)
    refine ⟨_, bo, cp, rfl, ⟨⟨hk, ownsRow_base hrow hB, h.ra.ok.below hb9, h.ra.few, h.ra.low.below hb9, Nat.le_trans hB hs.out.size⟩, h.tw, h.gok⟩, hb9, fun i hi => ?_⟩
    rcases hi with hi | ⟨off, hi⟩
    · rw [hi]; exact hs.out.size
    · exact (hrow.lt i (by rw [hi]; rfl)).1
  clear h hB hnd hr hb
  go_enter Tryz.func36, Tryz.ntmps36
  go_wp2
  refine wp_region_noPanic ?_
  refine wp_region_K 16 (fun V => ScL w V ∧ V.cell? ⟨x, 0, none⟩ = some (.int .i64 nd) ∧ V.cell? ⟨x, 1, none⟩ = some (.int .i64 r) ∧ V.cell? ⟨x, 2, none⟩ = some (.int .i64 b) ∧ V.cell? ⟨x, 3, none⟩ = some (.slice ro n rc)) (by kernel_rfl) (HSA.out _ (ScL.start w).dr) (fun hHeld => ?_)
  have hs0 := (ScL.start w).dr
  refine wpAnyK_take (i := 0) (oi := { dst := some 3, op := Go.Op.move (Go.Operand.tmp 0), type := 28, pos := "ref.go:103", after := #[], guard := none }) (v := ?vqq0) [] rfl (by kernel_rfl) (by kernel_rfl) (by kernel_rfl) (by kernel_rfl) (by kernel_rfl) (fun _ _ _ h => h) (Or.inl ⟨by rfl, ?hyqq0⟩) (by assumption) ?restqq0
  case hyqq0 => (intro w0 hSw; (try dsimp only at hSw); go_simp; try with_reducible rfl)
  simp only [Act.put, List.setIfInBounds_toArray, List.set_cons_zero, List.set_cons_succ]
  refine wpAnyK_take (i := 1) (oi := { dst := some 4, op := Go.Op.nilCheck (Go.Operand.tmp 3), type := 0, pos := "ref.go:103", after := #[{ on := 0, ground := Go.Ground.data }], guard := none }) (v := ?vqq1) [] rfl (by kernel_rfl) (by kernel_rfl) (by kernel_rfl) (by kernel_rfl) (by kernel_rfl) (fun _ _ _ h => h) (Or.inl ⟨by rfl, ?hyqq1⟩) (by assumption) ?restqq1
  case hyqq1 => (intro w0 hSw; (try dsimp only at hSw); go_simp; try with_reducible rfl)
  simp only [Act.put, List.setIfInBounds_toArray, List.set_cons_zero, List.set_cons_succ]
  refine wpAnyK_take (i := 2) (oi := { dst := some 5, op := Go.Op.fieldAddr 51 (Go.Operand.tmp 4) 0, type := 0, pos := "ref.go:103", after := #[{ on := 1, ground := Go.Ground.data }], guard := none }) (v := ?vqq2) [] rfl (by kernel_rfl) (by kernel_rfl) (by kernel_rfl) (by kernel_rfl) (by kernel_rfl) (fun _ _ _ h => h) (Or.inl ⟨by rfl, ?hyqq2⟩) (by assumption) ?restqq2
  case hyqq2 => (intro w0 hSw; (try dsimp only at hSw); go_simp; try with_reducible rfl)
  simp only [Act.put, List.setIfInBounds_toArray, List.set_cons_zero, List.set_cons_succ]
  refine wpAnyK_take (i := 3) (oi := { dst := some 6, op := Go.Op.load 3 (Go.Operand.tmp 5), type := 3, pos := "ref.go:103", after := #[{ on := 2, ground := Go.Ground.data }], guard := none }) (v := ?vqq3) [] rfl (by kernel_rfl) (by kernel_rfl) (by kernel_rfl) (by kernel_rfl) (by kernel_rfl) (fun _ _ _ h => h) (Or.inl ⟨by rfl, ?hyqq3⟩) (by assumption) ?restqq3
  case hyqq3 => (intro w0 hSw; (try dsimp only at hSw); go_simp; try with_reducible rfl)
  simp only [Act.put, List.setIfInBounds_toArray, List.set_cons_zero, List.set_cons_succ]
  refine wpAnyK_take (i := 4) (oi := { dst := some 7, op := Go.Op.move (Go.Operand.tmp 0), type := 28, pos := "ref.go:103", after := #[], guard := none }) (v := ?vqq4) [] rfl (by kernel_rfl) (by kernel_rfl) (by kernel_rfl) (by kernel_rfl) (by kernel_rfl) (fun _ _ _ h => h) (Or.inl ⟨by rfl, ?hyqq4⟩) (by assumption) ?restqq4
  case hyqq4 => (intro w0 hSw; (try dsimp only at hSw); go_simp; try with_reducible rfl)
  simp only [Act.put, List.setIfInBounds_toArray, List.set_cons_zero, List.set_cons_succ]
  refine wpAnyK_take (i := 5) (oi := { dst := some 8, op := Go.Op.nilCheck (Go.Operand.tmp 7), type := 0, pos := "ref.go:103", after := #[{ on := 4, ground := Go.Ground.data }], guard := none }) (v := ?vqq5) [] rfl (by kernel_rfl) (by kernel_rfl) (by kernel_rfl) (by kernel_rfl) (by kernel_rfl) (fun _ _ _ h => h) (Or.inl ⟨by rfl, ?hyqq5⟩) (by assumption) ?restqq5
  case hyqq5 => (intro w0 hSw; (try dsimp only at hSw); go_simp; try with_reducible rfl)
  simp only [Act.put, List.setIfInBounds_toArray, List.set_cons_zero, List.set_cons_succ]
  refine wpAnyK_take (i := 6) (oi := { dst := some 9, op := Go.Op.fieldAddr 51 (Go.Operand.tmp 8) 1, type := 0, pos := "ref.go:103", after := #[{ on := 5, ground := Go.Ground.data }], guard := none }) (v := ?vqq6) [] rfl (by kernel_rfl) (by kernel_rfl) (by kernel_rfl) (by kernel_rfl) (by kernel_rfl) (fun _ _ _ h => h) (Or.inl ⟨by rfl, ?hyqq6⟩) (by assumption) ?restqq6
  case hyqq6 => (intro w0 hSw; (try dsimp only at hSw); go_simp; try with_reducible rfl)
  simp only [Act.put, List.setIfInBounds_toArray, List.set_cons_zero, List.set_cons_succ]
  refine wpAnyK_take (i := 7) (oi := { dst := some 10, op := Go.Op.load 35 (Go.Operand.tmp 9), type := 35, pos := "ref.go:103", after := #[{ on := 6, ground := Go.Ground.data }], guard := none }) (v := ?vqq7) [] rfl (by kernel_rfl) (by kernel_rfl) (by kernel_rfl) (by kernel_rfl) (by kernel_rfl) (fun _ _ _ h => h) (Or.inl ⟨by rfl, ?hyqq7⟩) (by assumption) ?restqq7
  case hyqq7 => (intro w0 hSw; (try dsimp only at hSw); go_simp; try with_reducible rfl)
  simp only [Act.put, List.setIfInBounds_toArray, List.set_cons_zero, List.set_cons_succ]
  refine wpAnyK_take (i := 9) (oi := { dst := some 12, op := Go.Op.move (Go.Operand.tmp 0), type := 28, pos := "ref.go:103", after := #[], guard := none }) (v := ?vqq9) [] rfl (by kernel_rfl) (by kernel_rfl) (by kernel_rfl) (by kernel_rfl) (by kernel_rfl) (fun _ _ _ h => h) (Or.inl ⟨by rfl, ?hyqq9⟩) (by assumption) ?restqq9
  case hyqq9 => (intro w0 hSw; (try dsimp only at hSw); go_simp; try with_reducible rfl)
  simp only [Act.put, List.setIfInBounds_toArray, List.set_cons_zero, List.set_cons_succ]
  refine wpAnyK_take (i := 10) (oi := { dst := some 13, op := Go.Op.nilCheck (Go.Operand.tmp 12), type := 0, pos := "ref.go:103", after := #[{ on := 9, ground := Go.Ground.data }], guard := none }) (v := ?vqq10) [] rfl (by kernel_rfl) (by kernel_rfl) (by kernel_rfl) (by kernel_rfl) (by kernel_rfl) (fun _ _ _ h => h) (Or.inl ⟨by rfl, ?hyqq10⟩) (by assumption) ?restqq10
  case hyqq10 => (intro w0 hSw; (try dsimp only at hSw); go_simp; try with_reducible rfl)
  simp only [Act.put, List.setIfInBounds_toArray, List.set_cons_zero, List.set_cons_succ]
  refine wpAnyK_take (i := 11) (oi := { dst := some 14, op := Go.Op.fieldAddr 51 (Go.Operand.tmp 13) 2, type := 0, pos := "ref.go:103", after := #[{ on := 10, ground := Go.Ground.data }], guard := none }) (v := ?vqq11) [] rfl (by kernel_rfl) (by kernel_rfl) (by kernel_rfl) (by kernel_rfl) (by kernel_rfl) (fun _ _ _ h => h) (Or.inl ⟨by rfl, ?hyqq11⟩) (by assumption) ?restqq11
  case hyqq11 => (intro w0 hSw; (try dsimp only at hSw); go_simp; try with_reducible rfl)
  simp only [Act.put, List.setIfInBounds_toArray, List.set_cons_zero, List.set_cons_succ]
  refine wpAnyK_take (i := 12) (oi := { dst := some 15, op := Go.Op.load 40 (Go.Operand.tmp 14), type := 40, pos := "ref.go:103", after := #[{ on := 11, ground := Go.Ground.data }], guard := none }) (v := ?vqq12) [] rfl (by kernel_rfl) (by kernel_rfl) (by kernel_rfl) (by kernel_rfl) (by kernel_rfl) (fun _ _ _ h => h) (Or.inl ⟨by rfl, ?hyqq12⟩) (by assumption) ?restqq12
  case hyqq12 => (intro w0 hSw; (try dsimp only at hSw); go_simp; try with_reducible rfl)
  simp only [Act.put, List.setIfInBounds_toArray, List.set_cons_zero, List.set_cons_succ]
  refine wpAnyK_ready (rs := [8]) (by kernel_rfl) (by simp) ?_
  refine AllReadyK.cons (o := { dst := some 11, op := Go.Op.buildSlice 40 0 #[], type := 40, pos := "ref.go:103", after := #[], guard := none }) rfl (fun K hK => ?_) AllReadyK.nil
  go_simp
  refine hK.out _ _ (.inr (HSA.out _ (by (repeat (first | assumption | exact ScL.start _ | apply ScL.dr | apply ScL.alloc))))) (fun hHeld => ?_)
  have hHeld := hHeld.resolve_right (by decide)
  clear hK K
  try simp only [Act.put, List.setIfInBounds_toArray, List.set_cons_zero, List.set_cons_succ]
  refine wpAnyK_ready (rs := [13]) (by kernel_rfl) (by simp) ?_
  refine AllReadyK.cons (o := { dst := some 16, op := Go.Op.call { callee := Go.Callee.builtin Go.Builtin.append, args := #[Go.Operand.tmp 11, Go.Operand.tmp 15], argTypes := #[40, 40] }, type := 40, pos := "ref.go:103", after := #[{ on := 8, ground := Go.Ground.data }, { on := 12, ground := Go.Ground.data }], guard := none }) rfl (fun K hK => ?_) AllReadyK.nil
  refine step_copy_v8 rfl _ _ rfl w.heap.size _ rfl ?own _ n _ xs HN.out rfl ?hh ?hsum ?hbase ?rest
  case own => first | exact ownV8_made w _ (Nat.le_refl _) | exact ownV8_made w.drew _ (Nat.le_refl _) | exact (ownV8_made w _ (Nat.le_refl _)).drew
  case hh => exact HHX.out _ (by (repeat (first | assumption | exact ScL.start _ | apply ScL.dr | apply ScL.alloc)))
  case hsum => have := HFW.out; omega
  case hbase => exact ScL.size (by (repeat (first | assumption | exact ScL.start _ | apply ScL.dr | apply ScL.alloc)))
  intro b3 c3 w5 hown3 hb3 hg3
  have hsc3 : ScL w w5 := ScL.grown (by (repeat (first | assumption | exact ScL.start _ | apply ScL.dr | apply ScL.alloc))) hb3
  refine hK.out _ _ (.inr (HSA.out _ (by (repeat (first | assumption | exact ScL.start _ | apply ScL.dr | apply ScL.alloc))))) (fun hHeld => ?_)
  have hHeld := hHeld.resolve_right (by decide)
  clear hK K
  try simp only [Act.put, List.setIfInBounds_toArray, List.set_cons_zero, List.set_cons_succ]
  refine wpAnyK_take (i := 14) (oi := { dst := some 17, op := Go.Op.build 51 #[(0, Go.Operand.tmp 6), (1, Go.Operand.tmp 10), (2, Go.Operand.tmp 16)], type := 51, pos := "ref.go:103", after := #[{ on := 3, ground := Go.Ground.data }, { on := 7, ground := Go.Ground.data }, { on := 13, ground := Go.Ground.data }], guard := none }) (v := ?vqq14) [] rfl (by kernel_rfl) (by kernel_rfl) (by kernel_rfl) (by kernel_rfl) (by kernel_rfl) (fun _ _ _ h => h) (Or.inl ⟨by rfl, ?hyqq14⟩) (by assumption) ?restqq14
  case hyqq14 => (intro w0 hSw; (try dsimp only at hSw); go_simp; try with_reducible rfl)
  simp only [Act.put, List.setIfInBounds_toArray, List.set_cons_zero, List.set_cons_succ]
  refine wpAnyK_ready (rs := [15]) (by kernel_rfl) (by simp) ?_
  refine AllReadyK.cons (o := { dst := some 18, op := Go.Op.box 51 (Go.Operand.tmp 17), type := 28, pos := "ref.go:103", after := #[{ on := 14, ground := Go.Ground.data }], guard := none }) rfl (fun K hK => ?_) AllReadyK.nil
  go_simp
  have HFI := hid (HFIN.out w5 _ _ b3 c3 hsc3 hown3 rfl rfl)
  have hsc9 := hsc3.alloc (.cells #[.int .i64 nd, .int .i64 r, .int .i64 b, .slice b3 n c3] 51)
  refine hK.out _ _ (.inr (HSA.out _ (by (repeat (first | assumption | exact ScL.start _ | apply ScL.dr | apply ScL.alloc))))) (fun hHeld => ?_)
  have hHeld := hHeld.resolve_right (by decide)
  clear hK K
  try simp only [Act.put, List.setIfInBounds_toArray, List.set_cons_zero, List.set_cons_succ]
  refine wpAnyK_ready (rs := [16]) (by kernel_rfl) (by simp) ?_
  refine AllReadyK.cons (o := { dst := some 2, op := Go.Op.assign (Go.Operand.tmp 18), type := 28, pos := "ref.go:103", after := #[{ on := 15, ground := Go.Ground.data }, { on := 13, ground := Go.Ground.chain }, { on := 0, ground := Go.Ground.phase }, { on := 1, ground := Go.Ground.phase }, { on := 2, ground := Go.Ground.phase }, { on := 3, ground := Go.Ground.phase }, { on := 4, ground := Go.Ground.phase }, { on := 5, ground := Go.Ground.phase }, { on := 6, ground := Go.Ground.phase }, { on := 7, ground := Go.Ground.phase }, { on := 8, ground := Go.Ground.phase }, { on := 9, ground := Go.Ground.phase }, { on := 10, ground := Go.Ground.phase }, { on := 11, ground := Go.Ground.phase }, { on := 12, ground := Go.Ground.phase }, { on := 13, ground := Go.Ground.phase }, { on := 14, ground := Go.Ground.phase }, { on := 15, ground := Go.Ground.phase }], guard := none }) rfl (fun K hK => ?_) AllReadyK.nil
  go_simp
  refine hK.out _ _ (.inl rfl) (fun _ => ?_)
  clear hK K
  try simp only [Act.put, List.setIfInBounds_toArray, List.set_cons_zero, List.set_cons_succ]
  refine wpAnyK_done (by kernel_rfl) ?_ _
  refine NoPanic.normal ?_
  go_wp2
  go_ret
  first | exact HFI.out | (simp only [List.getD_toArray] ; exact HFI.out) | (have h9 := HFI.out; simpa using h9)
end Go.Proofs.YtfmnbehopdmahaaGreat
