/-
  Package seal: order makes the order of a seal.
-/
import Derived.Test.YtfokmldfnkonpaaSmB
import Derived.Test.YtfokmldfnkonpaaStrClone2
import Derived.Deep.RegionHeld3
import Derived.Deep.AppendLies
import Derived.Deep.RegionLaw
namespace Go.Proofs.Ytfokmldfnkonpaa
open Go.RowKit Go.Maps

theorem i64O {N : Nat} (h : N < 65536) : I64 ((N : Int) + 1) := by unfold I64; omega
theorem addO {N : Nat} (h : N < 65536) : IntKind.i64.wrap ((N : Int) + 1) = (N : Int) + 1 := by rw [IntKind.wrap_i64]; omega
/-- V is a world behind W. -/
structure ScO (W V : World) : Prop where
  out : Below W.heap.size W V
theorem ScO.start (W : World) : ScO W W := ⟨Below.refl _ _⟩
theorem ScO.go {W V U : World} (h : ScO W V) (hb : Below V.heap.size V U) : ScO W U := ⟨bt' h.out hb⟩
theorem ScO.dr {W V : World} (h : ScO W V) : ScO W V.drew := ⟨h.out.drew⟩
theorem ScO.alloc {W V : World} (h : ScO W V) (o : Obj) : ScO W (V.alloc o) := ⟨h.out.alloc h.out.size _⟩
theorem ScO.set {W V : World} (h : ScO W V) (i : Nat) (u : Value) {b : Nat} (hb : W.heap.size ≤ b) : ScO W (V.setCell ⟨b, i, none⟩ u) := ⟨h.out.trans ((Turns.refl (fun k => k = b) V).setCell (p := ⟨b, i, none⟩) (.inl rfl) u |>.below (fun k hk => by rw [hk]; exact hb) h.out.size)⟩
theorem zeroOrd {V U : World} (hb : Below ((V.alloc (.cells #[.int .i64 0, .string ⟨#[]⟩, .string ⟨#[]⟩, .int .i64 0, .slice none 0 0] 32)).drew).heap.size ((V.alloc (.cells #[.int .i64 0, .string ⟨#[]⟩, .string ⟨#[]⟩, .int .i64 0, .slice none 0 0] 32)).drew) U) : Blk U V.heap.size 32 [.int .i64 0, .string ⟨#[]⟩, .string ⟨#[]⟩, .int .i64 0, .slice none 0 0] :=
  (Blk.new V 32 [.int .i64 0, .string ⟨#[]⟩, .string ⟨#[]⟩, .int .i64 0, .slice none 0 0]).drew.below hb (by simp)
/-- A region with a few leaves: the walk goes on once. -/
theorem wp_share3 {P : Program} {id : Nat} {ops : Array Oper} {b : Bool} {Q : Exit → Act → World → Prop} {a : Act} {w : World} {A : Nat → Option Addr → Nat → Act} {S : Nat → Option Addr → Nat → World → Prop}
    (h1 : (Code.region id ops b).wp P (NoPanic (fun e a w => ∃ q bo cp, e = .normal ∧ a = A q bo cp ∧ S q bo cp w)) a w) (h2 : ∀ q bo cp w, S q bo cp w → Q .normal (A q bo cp) w) : (Code.region id ops b).wp P Q a w :=
  Code.wp_mono (fun e a w h => by
    cases e with
    | panic c => exact (h : False).elim
    | _ =>
      obtain ⟨q, bo, cp, e1, rfl, h3⟩ := h
      first | (cases e1; done) | exact h2 q bo cp _ h3) h1
theorem wp_share0 {P : Program} {id : Nat} {ops : Array Oper} {b : Bool} {Q : Exit → Act → World → Prop} {a : Act} {w : World} {A : Act} {S : World → Prop}
    (h1 : (Code.region id ops b).wp P (NoPanic (fun e a w => e = .normal ∧ a = A ∧ S w)) a w) (h2 : ∀ w, S w → Q .normal A w) : (Code.region id ops b).wp P Q a w :=
  Code.wp_mono (fun e a w h => by
    cases e with
    | panic c => exact (h : False).elim
    | _ =>
      obtain ⟨e1, rfl, h3⟩ := h
      first | (cases e1; done) | exact h2 _ h3) h1
/-- What order leaves. -/
def OrderP (B : Nat) (w : World) (p mi me : Nat) (v : Value) (g : Sm) (x : En) (e : Ending) (w' : World) : Prop := ∃ bo cp v', e = .returned (OrM.val ⟨newO g x, bo, cp⟩) ∧ HV w' bo cp x.cut ∧ (∀ b off, bo = some ⟨b, off, none⟩ → w.heap.size ≤ b ∧ ∃ cs, Blk w' b 3 cs) ∧ SmAt B w' p mi me v' ⟨g.os ++ [newO g x], g.dn⟩ ∧ Turns (FootM p mi me v) w w' ∧ (v'.ownBlock = v.ownBlock ∨ ∃ k, v'.ownBlock = some k ∧ w.heap.size ≤ k)
/-- What lies behind the making of an order's box. -/
def MadeO (W1 : World) (tk ct : ByteArray) (ep : Int) (dp : List Int) (N XN : Nat) (q : Nat) (bo : Option Addr) (cp : Nat) (W2 : World) : Prop :=
  Blk W2 q 32 [.int .i64 ((N : Int) + 1), .string tk, .string ct, .int .i64 ep, .slice bo XN cp] ∧ W1.heap.size ≤ q ∧ Below W1.heap.size W1 W2 ∧ HV W2 bo cp dp ∧ ∀ b off, bo = some ⟨b, off, none⟩ → W1.heap.size ≤ b ∧ ∃ cs, Blk W2 b 3 cs
theorem madeO_1 {W1 w2 : World} {tk ct : ByteArray} {ep : Int} {dp : List Int} {N XN cp : Nat} {bo : Option Addr} (hs : ScO W1 w2) (hv : HV w2 bo cp dp) (hn : ∀ b off, bo = some ⟨b, off, none⟩ → W1.heap.size ≤ b ∧ ∃ cs, Blk w2 b 3 cs) :
    MadeO W1 tk ct ep dp N XN w2.heap.size bo cp (w2.alloc (.cells #[.int .i64 ((N : Int) + 1), .string tk, .string ct, .int .i64 ep, .slice bo XN cp] 32)) := by
  have hb : Below w2.heap.size w2 (w2.alloc (.cells #[.int .i64 ((N : Int) + 1), .string tk, .string ct, .int .i64 ep, .slice bo XN cp] 32)) := (Below.refl _ _).alloc (Nat.le_refl _) _
  refine ⟨Blk.new w2 _ _, hs.out.size, bt' hs.out hb, hv.below hb, fun b off e => ?_⟩
  obtain ⟨h1, cs, h2⟩ := hn b off e
  exact ⟨h1, cs, h2.below hb h2.lt⟩
theorem madeO_2 {W1 w2 W3 : World} {q : Nat} {tk ct : ByteArray} {ep : Int} {dp : List Int} {N XN cp : Nat} {bo : Option Addr} (hq : q = W1.heap.size) (hs : ScO W1 w2) (hz : Blk w2 q 32 [.int .i64 0, .string ⟨#[]⟩, .string ⟨#[]⟩, .int .i64 0, .slice none 0 0]) (hv : HV w2 bo cp dp) (hn : ∀ b off, bo = some ⟨b, off, none⟩ → W1.heap.size ≤ b ∧ ∃ cs, Blk w2 b 3 cs)
    (hW : W3 = st5 w2 q (.int .i64 ((N : Int) + 1)) (.string tk) (.string ct) (.int .i64 ep) (.slice bo XN cp)) : MadeO W1 tk ct ep dp N XN q bo cp W3 := by
  subst hW
  have ht := st5_turns w2 q (.int .i64 ((N : Int) + 1)) (.string tk) (.string ct) (.int .i64 ep) (.slice bo XN cp)
  have hne : ∀ b off, bo = some ⟨b, off, none⟩ → b ≠ q := fun b off e hb => by
    obtain ⟨_, cs, h2⟩ := hn b off e
    rw [hb] at h2
    exact noN_blk hz (by decide) q rfl cs h2
  refine ⟨st5_blk hz _ _ _ _ _, by omega, hs.out.trans (ht.below (fun i hi => by omega) hs.out.size), ⟨hv.held.turned ht (fun b off e _ hF => hne b off e hF), hv.room, hv.few⟩, fun b off e => ?_⟩
  obtain ⟨h1, cs, h2⟩ := hn b off e
  exact ⟨h1, cs, ht.blk h2 (hne b off e)⟩
/-- A machine while an order is made: the order x lies behind the row, the maps tell fi and fe. -/
structure OrdMid (B : Nat) (W : World) (p mi me : Nat) (v : Value) (g : Sm) (x : OrM) (fi fe : ByteArray → Option Int) (ni ne : Nat) : Prop where
  blk : Blk W p 60 [v, .map (some mi), .map (some me), .int .i64 g.dn]
  row : ∃ xs : List OrM, xs.map (·.e) = g.os ∧ W.ownsRow B 32 5 v (g.os.length + 1) (flatO (xs ++ [x])) ∧ AllO W (xs ++ [x])
  ids : ∃ N D, N ≤ ni ∧ SiMap W mi N D fi
  eps : ∃ N D, N ≤ ne ∧ SiMap W me N D fe
theorem OrdMid.turned {B : Nat} {W W' : World} {p mi me : Nat} {v : Value} {g : Sm} {x : OrM} {fi fe : ByteArray → Option Int} {ni ne : Nat} (h : OrdMid B W p mi me v g x fi fe ni ne) {F : Nat → Prop} (ht : Turns F W W') (hd : ∀ i, FootM p mi me v i → ¬ F i) (hF : NoN W F) : OrdMid B W' p mi me v g x fi fe ni ne := by
  obtain ⟨xs, h1, h2, h3⟩ := h.row
  obtain ⟨N, D, h4, h5⟩ := h.ids
  obtain ⟨N', D', h6, h7⟩ := h.eps
  exact ⟨ht.blk h.blk (hd p (.inl rfl)), ⟨xs, h1, ht.row h2 (fun k hk => hd k (.inr (.inr (.inr hk)))), h3.turned hF ht⟩, ⟨N, D, h4, h5.turned ht (hd mi (.inr (.inl rfl)))⟩, ⟨N', D', h6, h7.turned ht (hd me (.inr (.inr (.inl rfl))))⟩⟩
theorem ord_mid {B : Nat} {W2 w3 W4 : World} {p mi me : Nat} {v v' : Value} {g : Sm} {x : OrM} (h : SmAt B W2 p mi me v g) (hx : OrKeep W2 x) {xs : List OrM} (hxs : xs.map (·.e) = g.os) (hrow : W2.ownsRow B 32 5 v g.os.length (flatO xs)) (hall : AllO W2 xs) {o : Obj} (hgrow : ((W2.alloc o).drew).grownBy w3 v.ownBlock) (hown : w3.ownsRow B 32 5 v' (g.os.length + 1) (flatO xs ++ x.cells)) (hW4 : W4 = w3.setCell ⟨p, 0, none⟩ v') :
    OrdMid B W4 p mi me v' g x (idF g) (epF g) g.os.length g.os.length ∧ Turns (fun i => i = p ∨ v.ownBlock = some i) W2 W4 := by
  have t1 : Turns (fun i => v.ownBlock = some i) W2 w3 := ((Turns.refl _ W2).alloc o).drew.grown hgrow (fun k hk => .inl hk)
  have hp3 : Blk w3 p 60 [v, .map (some mi), .map (some me), .int .i64 g.dn] := t1.blk h.blk (fun e => h.blk.not_row (by decide) hrow e.symm)
  have t2 : Turns (fun i => i = p) w3 W4 := by rw [hW4]; exact (Turns.refl (fun i => i = p) w3).setCell (p := ⟨p, 0, none⟩) (.inl rfl) _
  have t3 : Turns (fun i => i = p ∨ v.ownBlock = some i) W2 W4 := (t1.mono (fun i hi => .inr hi)).trans t2 (fun i hi => .inl (.inl hi))
  have hno : NoN W2 (fun i => i = p ∨ v.ownBlock = some i) := h.noN.mono (fun i hi => by
    rcases hi with rfl | hi
    · exact .inl rfl
    · exact .inr (.inr (.inr hi)))
  obtain ⟨N, D, h4, h5⟩ := h.ids
  obtain ⟨N', D', h6, h7⟩ := h.eps
  have hmi : ¬ (mi = p ∨ v.ownBlock = some mi) := by
    rintro (e | e)
    · exact h.blk.not_map h5.map e.symm
    · exact row_not_map hrow h5.map e.symm
  have hme : ¬ (me = p ∨ v.ownBlock = some me) := by
    rintro (e | e)
    · exact h.blk.not_map h7.map e.symm
    · exact row_not_map hrow h7.map e.symm
  refine ⟨⟨?_, ⟨xs, hxs, ?_, ?_⟩, ⟨N, D, h4, h5.turned t3 hmi⟩, ⟨N', D', h6, h7.turned t3 hme⟩⟩, t3⟩
  · rw [hW4]
    exact hp3.set 0 v'
  · rw [flatO_snoc]
    exact t2.row hown (fun k hk e => by subst e; exact hp3.not_row (by decide) hown hk.symm)
  · intro y hy
    rcases List.mem_append.1 hy with h1 | h1
    · exact (hall y h1).turned hno t3
    · simp at h1
      subst h1
      exact hx.turned hno t3
section
variable {B : Nat} {W : World} {p mi me : Nat} {v : Value} {g : Sm} {x : OrM} {fi fe : ByteArray → Option Int} {ni ne : Nat}
theorem OrdMid.noN (h : OrdMid B W p mi me v g x fi fe ni ne) : NoN W (FootM p mi me v) := by
  obtain ⟨xs, h1, h2, h3⟩ := h.row
  obtain ⟨N, D, h4, h5⟩ := h.ids
  obtain ⟨N', D', h6, h7⟩ := h.eps
  rintro i (rfl | rfl | rfl | hi)
  · exact noN_blk h.blk (by decide) _ rfl
  · exact noN_map h5.map _ rfl
  · exact noN_map h7.map _ rfl
  · exact noN_row h2 (by decide) _ hi
theorem OrdMid.putI (h : OrdMid B W p mi me v g x fi fe ni ne) (hne : mi ≠ me) (hn : ni < maxLen) {tk : ByteArray} (hs : tk.size ≤ maxLen) (i : Int) :
    ∃ w5, (Instr.mapUpdate 58 (.map (some mi)) (.string tk) (.int .i64 i)).run Try.prog W.drew = .ok () w5 ∧ OrdMid B w5 p mi me v g x (fun t => if t = tk then some i else fi t) fe (ni + 1) ne ∧ Turns (fun k => k = mi) W w5 := by
  obtain ⟨xs, h1, h2, h3⟩ := h.row
  obtain ⟨N, D, h4, h5⟩ := h.ids
  obtain ⟨N', D', h6, h7⟩ := h.eps
  obtain ⟨w5, hrun, ⟨D5, hm⟩, ht⟩ := (h5.turned (F := fun _ => False) (Turns.refl _ W).drew (fun h => h)).put (by omega) hs i
  have ht' : Turns (fun k => k = mi) W w5 := ((Turns.refl _ W).drew).trans ht (fun i hi => .inl hi)
  refine ⟨w5, hrun, ⟨ht'.blk h.blk (h.blk.not_map h5.map), ⟨xs, h1, ht'.row h2 (fun k hk e => by subst e; exact row_not_map h2 h5.map hk.symm), h3.turned (noN_map h5.map) ht'⟩, ⟨N + 1, D5, by omega, hm⟩, ⟨N', D', h6, h7.turned ht' (fun e => hne e.symm)⟩⟩, ht'⟩
theorem OrdMid.putE (h : OrdMid B W p mi me v g x fi fe ni ne) (hne : mi ≠ me) (hn : ne < maxLen) {ct : ByteArray} (hs : ct.size ≤ maxLen) (i : Int) :
    ∃ w5, (Instr.mapUpdate 58 (.map (some me)) (.string ct) (.int .i64 i)).run Try.prog W = .ok () w5 ∧ OrdMid B w5 p mi me v g x fi (fun t => if t = ct then some i else fe t) ni (ne + 1) ∧ Turns (fun k => k = me) W w5 := by
  obtain ⟨xs, h1, h2, h3⟩ := h.row
  obtain ⟨N, D, h4, h5⟩ := h.ids
  obtain ⟨N', D', h6, h7⟩ := h.eps
  obtain ⟨w5, hrun, ⟨D5, hm⟩, ht'⟩ := h7.put (by omega) hs i
  refine ⟨w5, hrun, ⟨ht'.blk h.blk (h.blk.not_map h7.map), ⟨xs, h1, ht'.row h2 (fun k hk e => by subst e; exact row_not_map h2 h7.map hk.symm), h3.turned (noN_map h7.map) ht'⟩, ⟨N, D, h4, h5.turned ht' hne⟩, ⟨N' + 1, D5, by omega, hm⟩⟩, ht'⟩
theorem ord_end {B0 : Nat} {W0 : World} {v0 : Value} {e : En} (h0 : SmAt B0 W0 p mi me v0 g) (h : OrdMid B0 W p mi me v g x (fun t => if t = e.tok then some ((g.os.length : Int) + 1) else idF g t) (fun t => if t = e.cart then some ((cntO e.cart g.os : Int) + 1) else epF g t) (g.os.length + 1) (g.os.length + 1)) (hw : wayO g e = 5) (hx : x.e = newO g e) :
    SmAt B0 W p mi me v ⟨g.os ++ [newO g e], g.dn⟩ := by
  have h5 := of_way5 hw
  have hok : SmOk ⟨g.os ++ [newO g e], g.dn⟩ := by
    have := doS_ok h0.ok e
    unfold doS at this
    rw [if_neg (by rw [hw]; decide), if_pos hw] at this
    exact dn_ok this _
  obtain ⟨xs, h1, h2, h3⟩ := h.row
  obtain ⟨N, D, h4, hm⟩ := h.ids
  obtain ⟨N', D', h6, hm'⟩ := h.eps
  refine ⟨hok, h.blk, ⟨xs ++ [x], by simp [h1, hx], by simpa using h2, h3⟩, ⟨N, D, by simpa using h4, hm.congr (fun t => (idF_new h5.2.2.1 _ t).symm)⟩, ⟨N', D', by simpa using h6, hm'.congr (fun c => (epF_new _ c).symm)⟩, h0.ne, h0.bp, h0.bi, h0.be⟩
end
theorem wp_shareN {P : Program} {id : Nat} {ops : Array Oper} {b : Bool} {Q : Exit → Act → World → Prop} {a : Act} {w : World} {A : Nat → Nat → Act} {S : Nat → Nat → World → Prop}
    (h1 : (Code.region id ops b).wp P (NoPanic (fun e a w => ∃ q c, e = .normal ∧ a = A q c ∧ S q c w)) a w) (h2 : ∀ q c w, S q c w → Q .normal (A q c) w) : (Code.region id ops b).wp P Q a w :=
  Code.wp_mono (fun e a w h => by
    cases e with
    | panic c => exact (h : False).elim
    | _ =>
      obtain ⟨q, c, e1, rfl, h3⟩ := h
      first | (cases e1; done) | exact h2 q c _ h3) h1
theorem cells_newO (w : World) (x0 x1 x2 x3 x4 : Value) : ∀ j u, [x0, x1, x2, x3, x4][j]? = some u → (w.alloc (.cells #[x0, x1, x2, x3, x4] 32)).drew.cell? ((⟨w.heap.size, 0, none⟩ : Addr).add j) = some u := by
  intro j u hu
  rw [Addr.add_lit, Nat.zero_add]
  exact (Blk.new w 32 [x0, x1, x2, x3, x4]).cell hu
theorem or_one5 (i ep : Int) (tk ct : ByteArray) (bo : Option Addr) (n cp : Nat) : ∀ u ∈ [Value.int .i64 i, .string tk, .string ct, .int .i64 ep, .slice bo n cp], u.oneCell' = true := by
  intro u hu
  simp at hu
  rcases hu with rfl | rfl | rfl | rfl | rfl <;> rfl
set_option maxRecDepth 1000000 in
set_option maxHeartbeats 2000000 in
theorem SmAt.order {B : Nat} {w : World} {p mi me : Nat} {v : Value} {g : Sm} (h : SmAt B w p mi me v g) (hB : B ≤ w.heap.size) (tk ct : ByteArray) (ep : Int) (dp : List Int) (ao1 : Option Addr) (cap1 : Nat) (hx : EnOk w ⟨⟨false, tk, ct, ep, dp⟩, ao1, cap1⟩) (hway : wayO g ⟨false, tk, ct, ep, dp⟩ = 5) (hs1 : tk.size ≤ 140737488355328) (hs2 : ct.size ≤ 140737488355328) :
    Calls Try.prog 30 #[.pointer (some ⟨p, 0, none⟩), .agg #[.string tk, .string ct, .int .i64 ep, .slice ao1 dp.length cap1]] w (OrderP B w p mi me v g ⟨false, tk, ct, ep, dp⟩) := by
  obtain ⟨XN, HXN⟩ : ∃ m, Hid (dp.length = m) := ⟨_, hid rfl⟩
  obtain ⟨N, HN⟩ : ∃ N, Hid (g.os.length = N) := ⟨_, hid rfl⟩
  obtain ⟨_, _, hf, hep, hlen⟩ := of_way5 hway
  have HFI : Hid (findO tk g.os = none) := hf
  have HLE : Hid (N < 65536) := by rw [← HN.out]; exact hlen
  obtain ⟨W0, hW0⟩ : ∃ W, W = w.alloc (.cells #[.string tk, .string ct, .int .i64 ep, .slice ao1 XN cap1] 37) := ⟨_, rfl⟩
  obtain ⟨W, hW⟩ : ∃ W, W = W0.alloc (.cells #[.int .i64 0, .string ⟨#[]⟩, .string ⟨#[]⟩, .int .i64 0, .slice none 0 0] 32) := ⟨_, rfl⟩
  have hz0 : W0.heap.size = w.heap.size + 1 := by rw [hW0]; simp
  have hb0 : Below w.heap.size w W0 := by rw [hW0]; exact (Below.refl _ _).alloc (Nat.le_refl _) _
  have HB : Hid (Below w.heap.size w W) := by rw [hW]; exact hb0.alloc hb0.size _
  have HK : Hid (Blk W w.heap.size 37 [.string tk, .string ct, .int .i64 ep, .slice ao1 XN cap1]) := by rw [hW, hW0]; exact (Blk.new w _ _).alloc _
  have HR : Hid (Blk W (w.heap.size + 1) 32 [.int .i64 0, .string ⟨#[]⟩, .string ⟨#[]⟩, .int .i64 0, .slice none 0 0]) := by rw [hW, ← hz0]; exact Blk.new W0 _ _
  have HW : Hid (W = (w.alloc (.cells #[.string tk, .string ct, .int .i64 ep, .slice ao1 XN cap1] 37)).alloc (.cells #[.int .i64 0, .string ⟨#[]⟩, .string ⟨#[]⟩, .int .i64 0, .slice none 0 0] 32)) := by show _ = _; rw [hW, hW0]
  obtain ⟨q, hq⟩ : ∃ q, q = w.heap.size := ⟨_, rfl⟩
  have HQ := hid hq
  rw [← hq] at HK HR
  have H := hid h
  have HX := hid hx
  have HBB := hid hB
  have HCS := hid (fun V (hV : ScO W V) => (strClone_any tk V hs1).mono (fun e w' (hh : _ ∧ _) => And.intro hh.1 (hV.go hh.2)))
  have HCC := hid (fun V (hV : ScO W V) => (strClone_any ct V hs2).mono (fun e w' (hh : _ ∧ _) => And.intro hh.1 (hV.go hh.2)))
  have HTS : Hid (tk.size ≤ maxLen) := hx.ht
  have HTC : Hid (ct.size ≤ maxLen) := hx.hc
  have HSA : Hid (∀ V, ScO W V → (ScO W V ∧ V.cell? ⟨q, 0, none⟩ = some (.string tk) ∧ V.cell? ⟨q, 1, none⟩ = some (.string ct))) := fun V hV => by
    have hb := HK.out.below hV.out HK.out.lt
    exact ⟨hV, hb.cell rfl, hb.cell rfl⟩
  have HEP : Hid (ep = (cntO ct g.os : Int)) := hep
  have HCL : Hid (cntO ct g.os ≤ N) := by rw [← HN.out]; exact cntO_le _ _
  have HWAY := hid hway
  rw [HXN.out]
  clear h hx hB hway hf hep hlen hs1 hs2 hW hW0 hz0 hb0 hq
  go_enter Try.func30, Try.ntmps30
  go_wp2
  rw [← HW.out, ← HQ.out]
  apply wp_share0 (S := fun V => ScO W V)
  · go_region_held3 (fun V => ScO W V ∧ V.cell? ⟨q, 0, none⟩ = some (.string tk) ∧ V.cell? ⟨q, 1, none⟩ = some (.string ct))
      (first | (refine ⟨?_, ?_, ?_⟩ <;> assumption) | (refine HSA.out _ ?_; (repeat (first | assumption | exact ScO.start _ | apply ScO.dr))))
      (first
        | (go_at_call 39; with_reducible refine (HCS.out _ (by (repeat (first | assumption | exact ScO.start _ | apply ScO.dr)))).mono ?_; rintro e w5 ⟨rfl, hs5⟩)
        | (go_at_call 39; with_reducible refine (HCC.out _ (by (repeat (first | assumption | exact ScO.start _ | apply ScO.dr)))).mono ?_; rintro e w6 ⟨rfl, hs6⟩))
    all_goals
      rename_i hHeld
      exact NoPanic.normal ⟨rfl, rfl, hHeld.1⟩
  rintro W1 hs1
  have HB1 : Hid (Below w.heap.size w W1) := bt' HB.out hs1.out
  have HS1 := hid (H.out.below HB1.out)
  have HK1 := hid (HK.out.below hs1.out HK.out.lt)
  have HR1 := hid (HR.out.below hs1.out HR.out.lt)
  have HXO : Hid (OrOk W1 ⟨⟨(N : Int) + 1, tk, ct, ep, dp⟩, ao1, cap1⟩) := ⟨(HX.out.below HB1.out).cut, i64O HLE.out, HX.out.ie, HX.out.ht, HX.out.hc⟩
  have HTD : Hid (∀ V, ScO W1 V → Calls Try.prog 35 #[.agg #[.int .i64 ((N : Int) + 1), .string tk, .string ct, .int .i64 ep, .slice ao1 XN cap1]] V fun e w' => ∃ bo cp, e = .returned (.agg #[.int .i64 ((N : Int) + 1), .string tk, .string ct, .int .i64 ep, .slice bo XN cp]) ∧ Hid (HV w' bo cp dp ∧ ∀ b off, bo = some ⟨b, off, none⟩ → W1.heap.size ≤ b ∧ ∃ cs, Blk w' b 3 cs) ∧ ScO W1 w' ∧ Below V.heap.size V w') := fun V hV => by
    have h1 := toldSm V ⟨⟨(N : Int) + 1, tk, ct, ep, dp⟩, ao1, cap1⟩ (HXO.out.below hV.out)
    unfold ToldOr at h1
    simp only [OrM.val] at h1
    rw [HXN.out] at h1
    refine h1.mono ?_
    rintro e w' ⟨bo, cp, rfl, h2, h3, h4⟩
    exact ⟨bo, cp, rfl, ⟨h2, fun b off e => ⟨Nat.le_trans hV.out.size (h3 b off e).1, (h3 b off e).2⟩⟩, hV.go h4, h4⟩
  obtain ⟨xs, ao, cap, hv, hcap, hxs, hh, hall⟩ := HS1.out.rowAt
  subst hv
  rw [HN.out] at hcap
  have HRO : Hid (∃ ys, ys.map OrM.e = g.os ∧ W1.ownsRow B 32 5 (.slice ao N cap) N (flatO ys) ∧ AllO W1 ys) := by
    obtain ⟨ys, y1, y2, y3⟩ := HS1.out.row
    rw [HN.out] at y2
    exact ⟨ys, y1, y2, y3⟩
  have HPB := hid HS1.out.blk
  rw [HN.out] at HPB
  have HSB : Hid (∀ V, ScO W1 V → (ScO W1 V ∧ V.cell? ⟨p, 0, none⟩ = some (.slice ao N cap) ∧ V.cell? ⟨q, 2, none⟩ = some (.int .i64 ep) ∧ V.cell? ⟨q, 3, none⟩ = some (.slice ao1 XN cap1))) := fun V hV => by
    have hb := HK1.out.below hV.out HK1.out.lt
    have hp := HPB.out.below hV.out HPB.out.lt
    exact ⟨hV, hp.cell rfl, hb.cell rfl, hb.cell rfl⟩
  have hadd : IntKind.i64.wrap ((N : Int) + 1) = (N : Int) + 1 := addO HLE.out
  clear hs1 hcap hxs hh hall
  go_wp2
  apply wp_share3 (S := MadeO W1 tk ct ep dp N XN)
  · go_region_held3 (fun V => ScO W1 V ∧ V.cell? ⟨p, 0, none⟩ = some (.slice ao N cap) ∧ V.cell? ⟨q, 2, none⟩ = some (.int .i64 ep) ∧ V.cell? ⟨q, 3, none⟩ = some (.slice ao1 XN cap1))
      (first | (refine ⟨?_, ?_, ?_, ?_⟩ <;> assumption) | (refine HSB.out _ ?_; (repeat (first | assumption | exact ScO.start _ | apply ScO.dr | apply ScO.alloc | refine ScO.set ?_ _ _ (Nat.le_refl _) | refine ScO.set ?_ _ _ hs5.out.size))))
      (first
        | (go_at_call 35; with_reducible refine (HTD.out _ (by (repeat (first | assumption | exact ScO.start _ | apply ScO.dr | apply ScO.alloc)))).mono ?_; rintro e w5 ⟨bo, cp, rfl, HV5, hs5, hb5⟩; (try (have hz4 := zeroOrd hb5; have z0 := hz4.cell (i := 0) rfl; have z1 := hz4.cell (i := 1) rfl; have z2 := hz4.cell (i := 2) rfl; have z3 := hz4.cell (i := 3) rfl; have z4 := hz4.cell (i := 4) rfl; have y0 := hz4.frozen 0; have y1 := hz4.frozen 1; have y2 := hz4.frozen 2; have y3 := hz4.frozen 3; have y4 := hz4.frozen 4)); clear hb5))
    · obtain ⟨hv5, hn5⟩ := HV5.out
      have hM : MadeO W1 tk ct ep dp N XN w5.heap.size bo cp (w5.alloc (.cells #[.int .i64 ((N : Int) + 1), .string tk, .string ct, .int .i64 ep, .slice bo XN cp] 32)) := madeO_1 hs5 hv5 hn5
      generalize (w5.alloc (.cells #[.int .i64 ((N : Int) + 1), .string tk, .string ct, .int .i64 ep, .slice bo XN cp] 32)) = V at hM ⊢
      generalize w5.heap.size = qq at hM ⊢
      exact NoPanic.normal ⟨qq, bo, cp, rfl, rfl, hM⟩
    · obtain ⟨hv5, hn5⟩ := HV5.out
      obtain ⟨W3, hW3⟩ : ∃ V, V = st5 w5 W1.heap.size (.int .i64 ((N : Int) + 1)) (.string tk) (.string ct) (.int .i64 ep) (.slice bo XN cp) := ⟨_, rfl⟩
      have hM : MadeO W1 tk ct ep dp N XN W1.heap.size bo cp W3 := madeO_2 rfl hs5 hz4 hv5 hn5 hW3
      unfold st5 at hW3
      rw [← hW3]
      generalize W1.heap.size = qq at hM ⊢
      exact NoPanic.normal ⟨qq, bo, cp, rfl, rfl, hM⟩
  rintro qo bo cp W2 ⟨hko, hqo, hb2, hvo, hno⟩
  have HKO := hid hko
  have HQO := hid hqo
  have HB2 := hid hb2
  have HVO := hid hvo
  have HNO := hid hno
  have HS2 := hid (HS1.out.below hb2)
  have HP2 := hid (HPB.out.below hb2 HPB.out.lt)
  have HR2 := hid (HR1.out.below hb2 HR1.out.lt)
  have HRO2 : Hid (∃ ys, ys.map OrM.e = g.os ∧ W2.ownsRow B 32 5 (.slice ao N cap) N (flatO ys) ∧ AllO W2 ys) := by
    obtain ⟨ys, y1, y2, y3⟩ := HRO.out
    exact ⟨ys, y1, (Turns.of_below (F := fun _ => False) hb2 (Nat.le_refl _)).row y2 (fun _ _ h => h), y3.below hb2⟩
  obtain ⟨ys, hy1, hy2, hy3⟩ := HRO2.out
  have HY1 := hid hy1
  have HY2 := hid hy2
  have HY3 := hid hy3
  have a0 := HP2.out.cell (i := 0) rfl
  have a0' := (HP2.out.alloc (.cells #[.int .i64 ((N : Int) + 1), .string tk, .string ct, .int .i64 ep, .slice bo XN cp] 32)).cell (i := 0) rfl
  have o0 := hko.cell (i := 0) rfl
  have o1 := hko.cell (i := 1) rfl
  have o2 := hko.cell (i := 2) rfl
  have o3 := hko.cell (i := 3) rfl
  have o4 := hko.cell (i := 4) rfl
  obtain ⟨iO, hi, hz0, hz1, hz2⟩ := info_parts Try.infoOr
  have HBW : Hid (B ≤ W2.heap.size) := Nat.le_trans HBB.out (Nat.le_trans HB1.out.size hb2.size)
  clear hko hqo hb2 hvo hno hy1 hy2 hy3 hadd
  go_wp2
  apply wp_shareN (S := fun g3 cap3 W4 => Hid (∃ w3, W4 = w3.setCell ⟨p, 0, none⟩ (.slice (some ⟨g3, 0, none⟩) (N + 1) cap3) ∧ w3.ownsRow B 32 5 (.slice (some ⟨g3, 0, none⟩) (N + 1) cap3) (N + 1) (flatO ys ++ [.int .i64 ((N : Int) + 1), .string tk, .string ct, .int .i64 ep, .slice bo XN cp]) ∧ ((W2.alloc (.cells #[.int .i64 ((N : Int) + 1), .string tk, .string ct, .int .i64 ep, .slice bo XN cp] 32)).drew).grownBy w3 (Value.slice ao N cap).ownBlock ∧ ((Value.slice ao N cap).ownBlock = some g3 ∨ g3 = W2.heap.size + 1)))
  · go_region_law ((refine step_append_lies _ (by rfl) _ _ 26 (by rfl) B 32 iO (.agg #[.int .i64 0, .string ⟨#[]⟩, .string ⟨#[]⟩, .int .i64 0, .slice none 0 0]) 5 72 Try.underlying26 hi hz0 hz1 hz2 rfl (by decide) (.slice ao N cap) N (flatO ys) (by rfl) (by exact (HY2.out.alloc _).drew) ⟨W2.heap.size, 0, none⟩ 1 1 [.int .i64 ((N : Int) + 1), .string tk, .string ct, .int .i64 ep, .slice bo XN cp] (by rfl) rfl (by exact cells_newO _ _ _ _ _ _) (or_one5 _ _ _ _ _ _ _) (by decide) (by have := HLE.out; unfold maxLen; omega) (by have := HLE.out; omega) (by have := HBW.out; simp; omega) (W2.heap.size + 1) (by simp) ?_; intro g3 cap3 w3 hown3 hgrow3 hat3 hlt3; have hblk3 := (HP2.out.alloc (.cells #[.int .i64 ((N : Int) + 1), .string tk, .string ct, .int .i64 ep, .slice bo XN cp] 32)).drew.kept hgrow3 (HP2.out.not_row (by decide) HY2.out); have hfz3 := hblk3.frozen 0; have hce3 := hblk3.cell (i := 0) rfl; have HO3 := hid hown3; have HG3 := hid hgrow3; have HA3 := hid hat3; clear hown3 hgrow3 hat3 hblk3))
    all_goals exact NoPanic.normal ⟨g3, cap3, rfl, rfl, ⟨w3, rfl, HO3.out, HG3.out, HA3.out⟩⟩
  rintro g3 cap3 W4 H4
  obtain ⟨w3, hW4, hown3, hgrow3, hat3⟩ := H4.out
  have HXK : Hid (OrKeep W2 ⟨⟨(N : Int) + 1, tk, ct, ep, dp⟩, bo, cp⟩) := ⟨⟨HVO.out, HXO.out.ii, HXO.out.ie, HXO.out.ht, HXO.out.hc⟩, fun b off e _ => (HNO.out b off e).2⟩
  obtain ⟨hmid, ht24⟩ := ord_mid (x := ⟨⟨(N : Int) + 1, tk, ct, ep, dp⟩, bo, cp⟩) HS2.out HXK.out HY1.out (by rw [HN.out]; exact HY2.out) HY3.out (by rw [HN.out]; exact hgrow3) (v' := .slice (some ⟨g3, 0, none⟩) (N + 1) cap3) (by rw [HN.out]; show _ ∧ _; have h1 := hown3; simp only [OrM.cells]; rw [HXN.out]; exact h1) hW4
  have HM4 := hid hmid
  have HLP : Hid (∀ i, FootM p mi me (.slice ao N cap) i → i < q) := fun i hi => by rw [HQ.out]; refine H.out.lt i ?_; rw [HN.out]; exact hi
  have HQW : Hid (q + 1 < W1.heap.size) := HR1.out.lt
  have HNW : Hid (W1.heap.size ≤ W2.heap.size) := HB2.out.size
  have HT24 : Hid (Turns (FootM p mi me (.slice ao N cap)) W2 W4) := by
    rw [HN.out] at ht24
    exact ht24.mono (fun i hi => by
      rcases hi with rfl | hi
      · exact .inl rfl
      · exact .inr (.inr (.inr hi)))
  have HOW : Hid ((Value.slice (some ⟨g3, 0, none⟩) (N + 1) cap3).ownBlock = some g3 ∧ ((Value.slice ao N cap).ownBlock = some g3 ∨ g3 = W2.heap.size + 1)) := ⟨rfl, hat3⟩
  have HFN : Hid (∀ i, q ≤ i → i < W2.heap.size → ¬ FootM p mi me (.slice (some ⟨g3, 0, none⟩) (N + 1) cap3) i) := fun i h1 h2 hf => by
    rcases hf with e | e | e | e
    · have := HLP.out i (.inl e); omega
    · have := HLP.out i (.inr (.inl e)); omega
    · have := HLP.out i (.inr (.inr (.inl e))); omega
    · have e1 : i = g3 := by simpa [Value.ownBlock] using e.symm
      rcases HOW.out.2 with h3 | h3
      · have := HLP.out g3 (.inr (.inr (.inr h3))); omega
      · omega
  have HK4 := hid (HT24.out.blk HKO.out (fun hf => by have := HLP.out _ hf; have := HQO.out; have := HQW.out; omega))
  have HR4 := hid (HT24.out.blk HR2.out (fun hf => by have := HLP.out _ hf; omega))
  have HML : Hid (N < maxLen) := by have := HLE.out; show _ < _; unfold maxLen; omega
  obtain ⟨w5, hrun, hm5, ht5⟩ := HM4.out.putI H.out.ne (by rw [HN.out]; exact HML.out) HTS.out ((N : Int) + 1)
  have HM5 := hid hm5
  have HT5 := hid ht5
  have HMP : Hid (mi ≠ p ∧ mi ≠ me) := ⟨fun e => by obtain ⟨_, _, _, h5⟩ := H.out.ids; exact H.out.blk.not_map h5.map e.symm, H.out.ne⟩
  have HLI : Hid (mi < q) := HLP.out mi (.inr (.inl rfl))
  have HLM : Hid (me < q) := HLP.out me (.inr (.inr (.inl rfl)))
  have HK5 := hid (HT5.out.blk HK4.out (fun e => by have := HLI.out; have := HQO.out; have := HQW.out; omega))
  have HR5 := hid (HT5.out.blk HR4.out (fun e => by have := HLI.out; omega))
  have b1 := HM4.out.blk.cell (i := 1) rfl
  have b2 := HM4.out.blk.cell (i := 2) rfl
  have d0 := HK4.out.cell (i := 0) rfl
  have b15 := HM5.out.blk.cell (i := 1) rfl
  have b25 := HM5.out.blk.cell (i := 2) rfl
  have d05 := HK5.out.cell (i := 0) rfl
  obtain ⟨w6, hrun6, hm6, ht6⟩ := HM5.out.putE H.out.ne (by rw [HN.out]; exact HML.out) HTC.out ((cntO ct g.os : Int) + 1)
  have HM6 := hid hm6
  have HT6 := hid ht6
  have HK6 := hid (HT6.out.blk HK5.out (fun e => by have := HLM.out; have := HQO.out; have := HQW.out; omega))
  have HR6 := hid (HT6.out.blk HR5.out (fun e => by have := HLM.out; omega))
  have hlk5 : (Instr.lookup 58 (.map (some me)) (.string ct) false).run Try.prog w5 = .ok (.int .i64 (cntO ct g.os)) w5 := by
    obtain ⟨_, _, _, h7⟩ := HM5.out.eps
    have h8 := h7.lookup HTC.out
    rw [epF_getD] at h8
    exact h8
  obtain ⟨cn, HCN⟩ : ∃ c, Hid (cntO ct g.os = c) := ⟨_, hid rfl⟩
  rw [HCN.out] at hlk5 hrun6
  have hadd : wrap64 ((cn : Int) + 1) = (cn : Int) + 1 := by have h1 := HCL.out; rw [HCN.out] at h1; have h2 := HLE.out; exact wrapO (by omega) (by omega)
  clear hmid ht24 hown3 hgrow3 hat3 hm5 ht5 hm6 ht6 hW4 a0 a0' o0 o1 o2 o3 o4 hi hz0 hz1 hz2 H4
  go_wp2
  go_region_held3 (fun V => V.cell? ⟨p, 1, none⟩ = some (.map (some mi)) ∧ V.cell? ⟨qo, 0, none⟩ = some (.int .i64 ((N : Int) + 1))) (go_keep) (fail)
  have f0 := HK6.out.cell (i := 0) rfl
  have f1 := HK6.out.cell (i := 1) rfl
  have f2 := HK6.out.cell (i := 2) rfl
  have f3 := HK6.out.cell (i := 3) rfl
  have f4 := HK6.out.cell (i := 4) rfl
  have HOX6 : Hid (OrOk w6 ⟨⟨(N : Int) + 1, tk, ct, ep, dp⟩, bo, cp⟩) := by
    obtain ⟨zs, _, _, h3⟩ := HM6.out.row
    exact (h3 _ (List.mem_append.2 (.inr (List.mem_singleton.2 rfl)))).ok
  have HT7 := hid (toldSm w6 ⟨⟨(N : Int) + 1, tk, ct, ep, dp⟩, bo, cp⟩ HOX6.out)
  unfold ToldOr at HT7
  simp only [OrM.val] at HT7
  rw [HXN.out] at HT7
  have HS6 : Hid (SmAt B w6 p mi me (.slice (some ⟨g3, 0, none⟩) (N + 1) cap3) ⟨g.os ++ [newO g ⟨false, tk, ct, ep, dp⟩], g.dn⟩) := ord_end (x := ⟨⟨(N : Int) + 1, tk, ct, ep, dp⟩, bo, cp⟩) H.out (by have := HM6.out; rw [HN.out] at this ⊢; exact this) HWAY.out (by unfold newO; rw [HN.out])
  have HTW6 : Hid (Turns (FootM p mi me (.slice ao N cap)) w w6) := by
    refine (((Turns.of_below (F := FootM p mi me (.slice ao N cap)) HB1.out (Nat.le_refl _)).trans (Turns.of_below (F := fun _ => False) HB2.out (Nat.le_refl _)) (fun _ h => h.elim)).trans HT24.out (fun i hi => .inl hi)).trans HT5.out (fun i hi => .inl (.inr (.inl hi))) |>.trans HT6.out (fun i hi => .inl (.inr (.inr (.inl hi))))
  clear hrun HTD HSB HCS HCC HSA
  go_wp2_with fail
  refine HT7.out.mono ?_
  rintro e w7 ⟨bo7, cp7, rfl, hv7, hn7, hb7⟩
  have HV7 := hid hv7
  have HN7 := hid hn7
  have HB7 := hid hb7
  have HS7 := hid (HS6.out.below hb7)
  have hr7 := HR6.out.below hb7 HR6.out.lt
  have HQ6 : Hid (q + 1 < w6.heap.size) := HR6.out.lt
  have HNB := hid (noN_blk hr7 (by decide))
  have r0 := hr7.cell (i := 0) rfl
  have r1 := hr7.cell (i := 1) rfl
  have r2 := hr7.cell (i := 2) rfl
  have r3 := hr7.cell (i := 3) rfl
  have r4 := hr7.cell (i := 4) rfl
  have q0 := hr7.frozen 0
  have q1 := hr7.frozen 1
  have q2 := hr7.frozen 2
  have q3 := hr7.frozen 3
  have q4 := hr7.frozen 4
  obtain ⟨W3, hW3⟩ : ∃ V, V = st5 w7 (q + 1) (.int .i64 ((N : Int) + 1)) (.string tk) (.string ct) (.int .i64 ep) (.slice bo7 XN cp7) := ⟨_, rfl⟩
  have hk9 : Blk W3 (q + 1) 32 [.int .i64 ((N : Int) + 1), .string tk, .string ct, .int .i64 ep, .slice bo7 XN cp7] := by rw [hW3]; exact st5_blk hr7 _ _ _ _ _
  have HT9 : Hid (Turns (fun i => i = (q + 1)) w7 W3) := by rw [hW3]; exact st5_turns _ _ _ _ _ _ _
  have k0 := hk9.cell (i := 0) rfl
  have k1 := hk9.cell (i := 1) rfl
  have k2 := hk9.cell (i := 2) rfl
  have k3 := hk9.cell (i := 3) rfl
  have k4 := hk9.cell (i := 4) rfl
  have HS9 : Hid (SmAt B W3 p mi me (.slice (some ⟨g3, 0, none⟩) (N + 1) cap3) ⟨g.os ++ [newO g ⟨false, tk, ct, ep, dp⟩], g.dn⟩) := HS7.out.turned HT9.out (fun i hi e => HFN.out i (by omega) (by have := HQW.out; have := HNW.out; omega) hi) HNB.out
  have HPO : Hid (∀ e, e = Ending.returned (.agg #[.int .i64 ((N : Int) + 1), .string tk, .string ct, .int .i64 ep, .slice bo7 XN cp7]) → OrderP B w p mi me (.slice ao g.os.length cap) g ⟨false, tk, ct, ep, dp⟩ e W3) := fun e he => by
    refine ⟨bo7, cp7, _, ?_, ⟨HV7.out.held.turned HT9.out (fun b off e _ hF => by have := (HN7.out b off e).1; have := HQ6.out; omega), HV7.out.room, HV7.out.few⟩, fun b off e => ?_, HS9.out, ?_, ?_⟩
    · rw [he]
      simp only [OrM.val, newO]
      rw [HXN.out, HN.out]
    · obtain ⟨h1, cs, h2⟩ := HN7.out b off e
      exact ⟨by have := HTW6.out.size; omega, cs, HT9.out.blk h2 (fun hF => by have := HQ6.out; omega)⟩
    · rw [HN.out]
      exact (HTW6.out.trans (Turns.of_below (F := fun _ => False) HB7.out (Nat.le_refl _)) (fun _ h => h.elim)).trans HT9.out (fun i hi => .inr (by have := HQ.out; omega))
    · rw [HN.out]
      rcases HOW.out.2 with h3 | h3
      · exact .inl (by rw [h3]; rfl)
      · exact .inr ⟨g3, rfl, by have h4 := HB1.out.size; have h5 := HNW.out; omega⟩
  clear hr7 hk9 hv7 hn7 hb7
  go_wp2
  unfold st5 at hW3
  rw [← hW3]
  (try simp only [Exit.inBlock, Exit.then])
  refine bodyPost_ret (v := .agg #[.int .i64 ((N : Int) + 1), .string tk, .string ct, .int .i64 ep, .slice bo7 XN cp7]) ?_ rfl (HPO.out _ rfl)
  rw [results_cell1B rfl]
  go_simp
end Go.Proofs.Ytfokmldfnkonpaa
