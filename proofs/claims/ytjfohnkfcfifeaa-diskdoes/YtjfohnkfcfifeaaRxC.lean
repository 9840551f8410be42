/-
  The document's disk: one cell of a file set anew; Sync.
-/
import Derived.Test.YtjfohnkfcfifeaaRxA
import Derived.BigRegion
namespace Go.Proofs.Ytjfohnkfcfifeaa
open Go.RowKit Go.Maps
set_option linter.unusedSimpArgs false

theorem flatFr_set : ∀ (L : List Rf) (k : Nat) (_ : k < L.length) (c : Nat) (u : Value) (f : Rf), c < 3 → f.cells = (L[k]).cells.set c u → (flatR L).set (k * 3 + c) u = flatR (L.set k f)
  | [], k, h, _, _, _, _, _ => by cases h
  | x :: r, 0, _, c, u, f, hc, he => by
    simp only [List.getElem_cons_zero] at he
    unfold flatR
    rw [List.flatMap_cons, List.set_cons_zero, List.flatMap_cons, he, Nat.zero_mul, Nat.zero_add, List.set_append_left _ _ (show c < x.cells.length from hc)]
  | x :: r, k + 1, h, c, u, f, hc, he => by
    simp only [List.getElem_cons_succ] at he
    have := flatFr_set r k (by simpa using h) c u f hc he
    unfold flatR at this ⊢
    rw [List.flatMap_cons, List.set_cons_succ, List.flatMap_cons, ← this, List.set_append_right _ _ (show x.cells.length ≤ _ by show 3 ≤ _; omega)]
    congr 2
    show (k + 1) * 3 + c - 3 = _
    omega
theorem row_setX {w : World} {B e size g n cap : Nat} {xs : List Value} (h : w.ownsRow B e size (.slice (some ⟨g, 0, none⟩) n cap) n xs) {j : Nat} (u : Value) : (w.setCell ⟨g, j, none⟩ u).ownsRow B e size (.slice (some ⟨g, 0, none⟩) n cap) n (xs.set j u) := by
  refine ⟨by rw [List.length_set]; exact h.1, ?_⟩
  rcases h.2 with ⟨h0, _⟩ | ⟨g', cap', cur, he, hB, hg, hn, hm, hsz, htk⟩
  · cases h0
  · cases he
    have hb : Blk w g e cur.toList := hg
    refine .inr ⟨g, cap, (cur.toList.set j u).toArray, rfl, hB, hb.set j u, hn, hm, by simp [hsz], ?_⟩
    show (cur.toList.set j u).take (n * size) = xs.set j u
    rw [← htk, List.take_set]
theorem row_frozenX {w : World} {B e size g n cap : Nat} {xs : List Value} (h : w.ownsRow B e size (.slice (some ⟨g, 0, none⟩) n cap) n xs) (j : Nat) : w.frozen? ⟨g, j, none⟩ = false := by
  rcases h.2 with ⟨h0, _⟩ | ⟨g', cap', cur, he, hB, hg, _⟩
  · cases h0
  · cases he
    have hb : Blk w g e cur.toList := hg
    exact hb.frozen j
section
variable {w W : World} {B x : Nat} {size : Int} {g : Xd} {cap : Nat}
def Xd.setL (g : Xd) (k : Nat) (f : Rf) : Xd := { g with L := g.L.set k f }
theorem XdAt.zero {eo : Option Addr} (h : XdAt w B x size g eo cap) (hn : 0 < g.L.length) : ∃ b, eo = some ⟨b, 0, none⟩ := by
  rcases h.row.2 with ⟨_, h0⟩ | ⟨b, cp, cur, he, _⟩
  · omega
  · cases he
    exact ⟨b, rfl⟩
/-- One cell of a file. -/
theorem XdAt.store {b : Nat} (h : XdAt w B x size g (some ⟨b, 0, none⟩) cap) {k : Nat} (hk : k < g.L.length) (c : Nat) (hc : c < 3) (u : Value) (f : Rf) (hf : f.cells = (g.L[k]).cells.set c u) (hroom : (rtotal (g.L.set k f) : Int) ≤ size) (hW : W = w.setCell ⟨b, k * 3 + c, none⟩ u) :
    XdAt W B x size (g.setL k f) (some ⟨b, 0, none⟩) cap ∧ Turns (fun i => i = b) w W := by
  have ht : Turns (fun i => i = b) w W := by rw [hW]; exact (Turns.refl (fun i => i = b) _).setCell (p := ⟨b, k * 3 + c, none⟩) (.inl rfl) _
  have hl : (g.L.set k f).length = g.L.length := List.length_set
  refine ⟨⟨?_, ?_, ?_, hroom, h.big, h.cal⟩, ht⟩
  · show Blk W x _ [_, .slice _ (g.L.set k f).length cap, _, _]
    rw [hl]
    exact ht.blk h.blk (fun e => by subst e; exact h.blk.not_row (by decide) h.row rfl)
  · show W.ownsRow B _ 3 (.slice _ (g.L.set k f).length cap) (g.L.set k f).length (flatR (g.L.set k f))
    rw [hl, ← flatFr_set g.L k hk c u f hc hf, hW]
    exact row_setX h.row u
  · show (g.L.set k f).length ≤ 64
    rw [hl]
    exact h.few
theorem rtotal_set : ∀ (L : List Rf) (k : Nat) (_h : k < L.length) (f : Rf), rtotal (L.set k f) + L[k].bytes.size = rtotal L + f.bytes.size
  | [], k, h, _ => by cases h
  | x :: r, 0, _, f => by
    simp only [List.set_cons_zero, List.getElem_cons_zero, rtotal]
    omega
  | x :: r, k + 1, h, f => by
    have := rtotal_set r k (by simpa using h) f
    simp only [List.set_cons_succ, List.getElem_cons_succ, rtotal]
    omega
theorem blk_eqX {w : World} {b : Nat} {t t' : TypeId} {cs cs' : List Value} (h : Blk w b t cs) (k : Blk w b t' cs') : cs = cs' := by
  have h1 : w.heap[b]? = _ := h
  have h2 : w.heap[b]? = _ := k
  rw [h1] at h2
  injection h2 with h2
  injection h2 with h2 _ _
  exact List.toArray_inj h2
/-- A cell of a file, then one call more. -/
theorem XdTo.cell {b : Nat} {w0 w1 w2 : World} {g1 g2 : Xd} (_h : XdAt w0 B x size g (some ⟨b, 0, none⟩) cap) (hb : Below w0.heap.size w0 w1) (h1 : XdAt W B x size g1 (some ⟨b, 0, none⟩) cap) (ht : Turns (fun i => i = b) w1 W) (hl : g1.L.length = g.L.length) (h2 : XdTo B W w2 x size (FootZ x (some ⟨b, 0, none⟩) g1.L.length cap) g2) : XdTo B w0 w2 x size (FootZ x (some ⟨b, 0, none⟩) g.L.length cap) g2 := by
  refine XdTo.trans (w1 := W) (g1 := g1) ⟨_, cap, h1, (Turns.of_below (F := FootZ x (some ⟨b, 0, none⟩) g.L.length cap) hb (Nat.le_refl _)).trans ht (fun i hi => .inl (.inr (by rw [hi]; rfl))), fun i hi => ?_⟩ (fun eo1 cap1 h3 => ?_)
  · rw [hl] at hi
    exact .inl hi
  · have h4 := blk_eqX h1.blk h3.blk
    simp only [List.cons.injEq, Value.slice.injEq] at h4
    obtain ⟨_, ⟨e1, _, e2⟩, _⟩ := h4
    subst e1 e2
    exact h2
theorem XdTo.ahead {F : Nat → Prop} {w0 w1 w2 : World} {g1 : Xd} (hb : Below w0.heap.size w0 w1) (h : XdTo B w1 w2 x size F g1) : XdTo B w0 w2 x size F g1 := by
  obtain ⟨eo, cap, h1, h2, h3⟩ := h
  exact ⟨eo, cap, h1, (Turns.of_below (F := F) hb (Nat.le_refl _)).trans h2 (fun i hi => .inl hi), fun i hi => (h3 i hi).imp (fun h => h) (fun h => Nat.le_trans hb.size h)⟩
theorem XdAt.none_len {w : World} {eo : Option Addr} (h : XdAt w B x size g eo cap) : g.L.length ≤ 64 := h.few
theorem Xd.did_L (g : Xd) : g.did.L = g.L := by unfold Xd.did; split <;> rfl
/-- What Sync makes. -/
def syncC (g : Xd) (s : ByteArray) : Int := if g.off then 31 else if rint g.L s < 0 then 4 else 0
def fileAt (g : Xd) (s : ByteArray) : Rf := g.L.getD (ridx g.L s) ⟨⟨#[]⟩, ⟨#[]⟩, 0⟩
def syncX (g : Xd) (s : ByteArray) : Xd := if syncC g s = 0 then (g.setL (ridx g.L s) { fileAt g s with sure := ((fileAt g s).bytes.size : Nat) }).did else g
theorem fileAt_eq {g : Xd} {s : ByteArray} (h : ridx g.L s < g.L.length) : fileAt g s = g.L[ridx g.L s] := by
  unfold fileAt
  rw [List.getD_eq_getElem?_getD, List.getElem?_eq_getElem h]
  rfl
theorem roffX {eo : Option Addr} (h : XdAt w B x size g eo cap) : Calls Try.prog 38 #[.pointer (some ⟨x, 0, none⟩)] w fun e w' => e = .returned (.bool g.off) ∧ w' = w := roff_any h.rd
set_option maxRecDepth 100000 in
set_option maxHeartbeats 1000000 in
theorem XdAt.sync {eo : Option Addr} (h : XdAt w B x size g eo cap) (s : ByteArray) : Calls Try.prog 26 #[.pointer (some ⟨x, 0, none⟩), .string s] w fun e w' => e = .returned (.int .i64 (syncC g s)) ∧ XdTo B w w' x size (FootZ x eo g.L.length cap) (syncX g s) := by
  have H := hid h
  have HOFF := hid (roffX h)
  have HFIND := hid (h.find s)
  clear h
  by_cases hoff : g.off = true
  · have HC : Hid (syncC g s = 31 ∧ syncX g s = g) := by
      have h1 : syncC g s = 31 := by unfold syncC; rw [if_pos hoff]
      exact ⟨h1, by unfold syncX; rw [h1]; rfl⟩
    rw [hoff] at HOFF
    rw [HC.out.1, HC.out.2]
    clear hoff
    go_enter Try.func26, Try.ntmps26
    go_wp2_with fail
    refine HOFF.out.mono ?_
    rintro e w1 ⟨rfl, rfl⟩
    go_wp2
    go_ret
    exact ⟨rfl, XdTo.same H.out (Below.refl _ _)⟩
  have hoff : g.off = false := by simpa using hoff
  have HOF := hid hoff
  rw [hoff] at HOFF
  clear hoff
  go_enter Try.func26, Try.ntmps26
  go_wp2_with fail
  refine HOFF.out.mono ?_
  rintro e w1 ⟨rfl, rfl⟩
  go_wp2_with fail
  refine HFIND.out.mono ?_
  rintro e w2 ⟨rfl, hb2⟩
  have HB2 := hid hb2
  clear hb2 HOFF HFIND
  by_cases hneg : rint g.L s < 0
  · have HC : Hid (syncC g s = 4 ∧ syncX g s = g) := by
      have h1 : syncC g s = 4 := by unfold syncC; rw [HOF.out, if_neg (by decide), if_pos hneg]
      exact ⟨h1, by unfold syncX; rw [h1]; rfl⟩
    go_wp2
    go_ret
    exact ⟨by rw [HC.out.1]; first | done | rfl, by rw [HC.out.2]; exact XdTo.same H.out HB2.out⟩
  have HC : Hid (syncC g s = 0) := by show _ = _; unfold syncC; rw [HOF.out, if_neg (by decide), if_neg hneg]
  obtain ⟨k, hk1, hk2, hk3⟩ := rint_at hneg
  rw [hk1]
  have HK2 := hid hk2
  have HK3 := hid hk3
  obtain ⟨n, HN⟩ : ∃ n, Hid (g.L.length = n) := ⟨_, hid rfl⟩
  have hkn : (k : Int) < (n : Int) := by have := HN.out; omega
  have hk0 : (0 : Int) ≤ (k : Int) := by omega
  have hkneg : ¬ (k : Int) < 0 := by omega
  have H2 := hid (H.out.below HB2.out)
  obtain ⟨b, heo⟩ := H2.out.zero (by omega)
  subst heo
  have c1 := H2.out.blk.cell (i := 1) rfl
  rw [HN.out] at c1
  obtain ⟨b', off, hao, _, a0, a1, a2⟩ := H2.out.held.1.cellsD HK2.out
  cases hao
  obtain ⟨⟨qn, qb, qs⟩, HQ⟩ : ∃ z, Hid (g.L[k]'HK2.out = z) := ⟨_, hid rfl⟩
  rw [HQ.out] at a0 a1 a2
  simp only [Nat.zero_add] at a0 a1 a2
  have f2 := row_frozenX H2.out.row (k * 3 + 2)
  clear a0 hneg hk1 hk2 hk3
  have HST : Hid (∀ U W, Below w2.heap.size w2 U → W = U.setCell ⟨b, k * 3 + 2, none⟩ (.int .i64 (qb.size : Int)) → XdAt W B x size (g.setL k ⟨qn, qb, (qb.size : Nat)⟩) (some ⟨b, 0, none⟩) cap ∧ Turns (fun i => i = b) U W) := fun U W hU hW => by
    refine (H2.out.below hU).store HK2.out 2 (by decide) _ _ (by rw [HQ.out]; rfl) ?_ hW
    have h1 := rtotal_set g.L k HK2.out ⟨qn, qb, (qb.size : Nat)⟩
    rw [HQ.out] at h1
    simp only at h1
    have h2 := H.out.room
    omega
  have HX : Hid (syncX g s = (g.setL k ⟨qn, qb, (qb.size : Nat)⟩).did) := by
    show _ = _
    unfold syncX
    rw [if_pos HC.out, HK3.out]
    have h1 : fileAt g s = ⟨qn, qb, qs⟩ := by
      rw [fileAt_eq (by rw [HK3.out]; exact HK2.out)]
      simp only [HK3.out]
      exact HQ.out
    rw [h1]
  go_wp2
  go_region
  obtain ⟨hs1, hs2⟩ := HST.out w2 _ (Below.refl _ _) rfl
  obtain ⟨W3, hW3⟩ : ∃ V, V = (w2.setCell ⟨b, k * 3 + 2, none⟩ (.int .i64 (qb.size : Int))).drew := ⟨_, rfl⟩
  have H3 : Hid (XdAt W3 B x size (g.setL k ⟨qn, qb, (qb.size : Nat)⟩) (some ⟨b, 0, none⟩) cap) := by rw [hW3]; exact hs1.below (Below.refl _ _).drew
  have HT3 : Hid (Turns (fun i => i = b) w2 W3) := by rw [hW3]; exact hs2.drew
  rw [← hW3]
  have HD := hid (H3.out.did (show (g.setL k ⟨qn, qb, (qb.size : Nat)⟩).off = false from HOF.out))
  clear hs1 hs2 hW3 c1 a1 a2 f2
  go_wp2_with fail
  refine HD.out.mono ?_
  rintro e w5 ⟨rfl, h5⟩
  have HF := hid (XdTo.cell H.out HB2.out H3.out HT3.out List.length_set h5)
  clear h5 HD
  go_wp2
  go_ret
  exact ⟨by rw [HC.out]; first | done | rfl, by rw [HX.out]; exact HF.out⟩
end
end Go.Proofs.Ytjfohnkfcfifeaa
/-
  The document's disk: put and drop, what they make.
-/
namespace Go.Proofs.Ytjfohnkfcfifeaa
open Go.RowKit Go.Maps

/-- Does a name stand ahead of another? -/
def lessB (a b : ByteArray) : Bool := Op.bytesLess a.toList b.toList
def rpos (L : List Rf) (s : ByteArray) : Nat := L.findIdx (fun f => !lessB f.name s)
def AheadF (L : List Rf) (s : ByteArray) (k : Nat) : Prop := ∀ j (h : j < L.length), j < k → lessB L[j].name s = true
theorem rpos_le (L : List Rf) (s : ByteArray) : rpos L s ≤ L.length := List.findIdx_le_length
theorem rpos_at {L : List Rf} {s : ByteArray} {k : Nat} (hk : k < L.length) (h : AheadF L s k) (hn : lessB L[k].name s = false) : k = rpos L s := by
  symm
  unfold rpos
  rw [List.findIdx_eq hk]
  exact ⟨by simpa using hn, fun j hj => by simpa using h j (by omega) hj⟩
theorem rpos_end {L : List Rf} {s : ByteArray} (h : AheadF L s L.length) : L.length = rpos L s := by
  have h1 := rpos_le L s
  by_cases h2 : rpos L s < L.length
  · have h3 := List.findIdx_getElem (p := fun f : Rf => !lessB f.name s) (w := h2)
    have h4 := h _ h2 h2
    simp only [Bool.not_eq_true'] at h3
    rw [show L[rpos L s].name = L[List.findIdx (fun f : Rf => !lessB f.name s) L].name from rfl, h3] at h4
    cases h4
  · omega
def insF (L : List Rf) (k : Nat) (f : Rf) : List Rf := L.take k ++ [f] ++ L.drop k
theorem insF_len {L : List Rf} {k : Nat} (hk : k ≤ L.length) (f : Rf) : (insF L k f).length = L.length + 1 := by
  unfold insF
  simp
  omega
theorem rtotal_app : ∀ (a b : List Rf), rtotal (a ++ b) = rtotal a + rtotal b
  | [], b => by simp [rtotal]
  | x :: r, b => by
    rw [List.cons_append, rtotal, rtotal, rtotal_app r b]
    omega
theorem rtotal_ins (L : List Rf) (k : Nat) (f : Rf) : rtotal (insF L k f) = rtotal L + f.bytes.size := by
  unfold insF
  rw [rtotal_app, rtotal_app]
  have h : rtotal (L.take k ++ L.drop k) = rtotal L := by rw [List.take_append_drop]
  rw [rtotal_app] at h
  simp only [rtotal]
  omega
def putX (g : Xd) (f : Rf) : Xd := { g with L := insF g.L (rpos g.L f.name) f }
def dropL (L : List Rf) (k : Nat) : List Rf := L.take k ++ L.drop (k + 1)
def dropX (g : Xd) (k : Nat) : Xd := { g with L := dropL g.L k }
theorem dropL_len {L : List Rf} {k : Nat} (hk : k < L.length) : (dropL L k).length + 1 = L.length := by
  unfold dropL
  simp
  omega
theorem rtotal_drop {L : List Rf} {k : Nat} (hk : k < L.length) : rtotal (dropL L k) + L[k].bytes.size = rtotal L := by
  unfold dropL
  rw [rtotal_app]
  have h : rtotal (L.take (k + 1) ++ L.drop (k + 1)) = rtotal L := by rw [List.take_append_drop]
  rw [rtotal_app, rtotal_take hk] at h
  omega
/-- A row of its own in the place of the old one. -/
theorem xd_new {B : Nat} {w w4 w5 W : World} {x r : Nat} {size : Int} {g : Xd} {eo bo : Option Addr} {cap cp : Nat} (h : XdAt w B x size g eo cap) (hB : B ≤ w.heap.size) (L' : List Rf) (hr : r = L'.length) (hl : L'.length ≤ 64) (hroom : (rtotal L' : Int) ≤ size)
    (hb4 : Below w.heap.size w w4) (hs5 : ScN w4 w5) (hown : w5.ownsRow w4.heap.size 47 3 (.slice bo r cp) r (flatR L')) (hW : W = w5.setCell ⟨x, 1, none⟩ (.slice bo r cp)) : XdTo B w W x size (FootZ x eo g.L.length cap) { g with L := L' } := by
  subst hr
  have hb5 : Blk w5 x 43 [.int .i64 size, .slice eo g.L.length cap, .bool g.stops, .int .i64 g.calls] := h.blk.below (btN hb4 hs5.out) h.blk.lt
  have t1 : Turns (fun i => i = x) w5 W := by rw [hW]; exact (Turns.refl (fun i => i = x) w5).setCell (p := ⟨x, 1, none⟩) (.inl rfl) _
  refine ⟨bo, cp, ⟨?_, ?_, hl, hroom, h.big, h.cal⟩, (Turns.of_below (F := FootZ x eo g.L.length cap) (btN hb4 hs5.out) (Nat.le_refl _)).trans t1 (fun i hi => .inl (.inl hi)), ?_⟩
  · rw [hW]
    exact hb5.set 1 _
  · refine t1.row (ownsRow_baseN hown (Nat.le_trans hB hb4.size)) (fun k hk e => ?_)
    have h1 := (hown.lt k hk).1
    have h2 := hb4.size
    have h3 := h.blk.lt
    omega
  · rintro i (hi | hi)
    · exact .inl (.inl hi)
    · exact .inr (Nat.le_trans hb4.size (hown.lt i hi).1)
end Go.Proofs.Ytjfohnkfcfifeaa
