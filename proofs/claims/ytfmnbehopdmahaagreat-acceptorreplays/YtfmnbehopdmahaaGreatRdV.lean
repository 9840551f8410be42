/-
  Package codec: a reader's message, as one.
-/
import Derived.Test.YtfmnbehopdmahaaGreatRdR
namespace Go.Proofs.YtfmnbehopdmahaaGreat
open Go.RowKit Go.Maps

/-- A message that a reader made behind a first world. -/
structure MsNew (w w' : World) (x : MsM) : Prop where
  ok : MsOk w' x
  cut : HN w' x.en.ao x.en.cap x.en.e.cut
  cutN : ∀ b off, x.en.ao = some ⟨b, off, none⟩ → x.en.e.cut ≠ [] → w.heap.size ≤ b
  vs : VosAt w 4096 w' x.vo x.vc x.vs
  seen : HN w' x.so x.sc x.seen
  seenN : ∀ b off, x.so = some ⟨b, off, none⟩ → x.seen ≠ [] → w.heap.size ≤ b
  evs : EvsAt w 4096 w' x.eo x.ec x.evs
theorem RdAt.msgR {w : World} {rb : Nat} {ao : Option Addr} {len cap : Nat} {bs : List Int} {st : Option (List Int)} (h : RdAt w rb ao len cap bs st) : Calls Tryz.prog 48 #[.pointer (some ⟨rb, 0, none⟩)] w fun e w' => (∃ x : MsM, e = .returned x.val ∧ Got st pMsg x.d ∧ MsNew w w' x) ∧ RdAt w' rb ao len cap bs (nxt st pMsg) ∧ Turns (fun i => i = rb) w w' := by
  refine h.partMsg.mono ?_
  rintro e w' ⟨⟨y0, y1, y2, y3, z3, y4, a5, c5, p5, t5, s5, q5, y5, a6, c6, y6, a7, c7, y7, a8, c8, y8, y9, he, g0, i0, g1, i1, g2, i2, g3, i3, g4, i4, g5, i5, v5, n5, g6, v6, g7, v7, n7, g8, v8, g9, i9⟩, hr, ht⟩
  refine ⟨⟨⟨y0, y1, y2, (y3, z3), y4, ⟨⟨p5, t5, s5, q5, y5⟩, a5, c5⟩, a6, c6, y6, a7, c7, y7, a8, c8, y8, y9⟩, he, ?_, ?_⟩, ?_, ht⟩
  · exact got_map _ (got_seq g0 (got_seq g1 (got_seq g2 (got_seq g3 (got_seq g4 (got_seq g5 (got_seq g6 (got_seq g7 (got_seq g8 g9)))))))))
  · exact ⟨⟨⟨v5.hv, i5.1, Nat.le_trans i5.2.1 (by decide), Nat.le_trans i5.2.2 (by decide)⟩, v6.held.held, Nat.le_trans v6.few (by decide), v7.hv, v8.held.held, Nat.le_trans v8.few (by decide), i0, i1, i2, i3.1, i3.2, i4, i9⟩, v5, n5, v6, v7, n7, v8⟩
  · unfold pMsg
    rw [nxt_map, ← nxt_seq, ← nxt_seq, ← nxt_seq, ← nxt_seq, ← nxt_seq, ← nxt_seq, ← nxt_seq, ← nxt_seq, ← nxt_seq]
    exact hr
end Go.Proofs.YtfmnbehopdmahaaGreat
/-
  Package codec: readBy of a message.
-/
namespace Go.Proofs.YtfmnbehopdmahaaGreat
open Go.RowKit Go.Maps

/-- No block that F turns holds numbers, votes or events. -/
def Apart (w : World) (F : Nat → Prop) : Prop := ∀ b cs, (Blk w b 3 cs ∨ Blk w b 73 cs ∨ Blk w b 97 cs) → ¬ F b
theorem apart_blk {w : World} {b : Nat} {t : TypeId} {xs : List Value} (h : Blk w b t xs) (h1 : t ≠ 3) (h2 : t ≠ 73) (h3 : t ≠ 97) : Apart w (fun i => i = b) := fun c cs hc => by
  rcases hc with hc | hc | hc
  · exact blk_neR hc h (Ne.symm h1)
  · exact blk_neR hc h (Ne.symm h2)
  · exact blk_neR hc h (Ne.symm h3)
theorem HN.apart {F : Nat → Prop} {w w' : World} {ao : Option Addr} {cap : Nat} {xs : List Int} (h : HN w ao cap xs) (ht : Turns F w w') (hF : Apart w F) : HN w' ao cap xs := hnK ht h (fun b off e _ => by
  obtain ⟨cs, hc⟩ := h.num b off e
  exact hF b cs (.inl hc))
theorem VosAt.apart {F : Nat → Prop} {w : World} {most : Nat} {w' w2 : World} {ao : Option Addr} {cap : Nat} {y : List VoM} (h : VosAt w most w' ao cap y) (ht : Turns F w' w2) (hF : Apart w' F) : VosAt w most w2 ao cap y :=
  have hv : ∀ b off, ao = some ⟨b, off, none⟩ → ¬ F b := fun b off e => by
    obtain ⟨_, cs', hc⟩ := h.new b off e
    exact hF b cs' (.inr (.inl hc))
  ⟨h.held.turned ht (fun b cs' hc => hF b cs' (.inl hc)) hv, h.room, h.few, fun b off e => ⟨(h.new b off e).1, by
    obtain ⟨_, cs', hc⟩ := h.new b off e
    exact ⟨cs', ht.blk hc (hv b off e)⟩⟩⟩
theorem EvsAt.apart {F : Nat → Prop} {w : World} {most : Nat} {w' w2 : World} {ao : Option Addr} {cap : Nat} {y : List EvM} (h : EvsAt w most w' ao cap y) (ht : Turns F w' w2) (hF : Apart w' F) : EvsAt w most w2 ao cap y :=
  have hv : ∀ b off, ao = some ⟨b, off, none⟩ → ¬ F b := fun b off e => by
    obtain ⟨_, cs', hc⟩ := h.new b off e
    exact hF b cs' (.inr (.inr hc))
  ⟨h.held.turned ht (fun b cs' hc => hF b cs' (.inl hc)) hv, h.room, h.few, fun b off e => ⟨(h.new b off e).1, by
    obtain ⟨_, cs', hc⟩ := h.new b off e
    exact ⟨cs', ht.blk hc (hv b off e)⟩⟩⟩
theorem MsNew.turned {F : Nat → Prop} {w w' w2 : World} {x : MsM} (h : MsNew w w' x) (ht : Turns F w' w2) (hF : Apart w' F) : MsNew w w2 x :=
  have h1 := h.cut.apart ht hF
  have h2 := h.vs.apart ht hF
  have h3 := h.seen.apart ht hF
  have h4 := h.evs.apart ht hF
  ⟨⟨⟨h1.hv, h.ok.en.ie, h.ok.en.ht, h.ok.en.hc⟩, h2.held.held, h.ok.vl, h3.hv, h4.held.held, h.ok.el, h.ok.ik, h.ok.ifr, h.ok.it, h.ok.ib1, h.ok.ib2, h.ok.isl, h.ok.iti⟩, h1, h.cutN, h2, h3, h.seenN, h4⟩
theorem MsNew.below {w w' w2 : World} {x : MsM} (h : MsNew w w' x) (hb : Below w'.heap.size w' w2) : MsNew w w2 x := h.turned (F := fun _ => False) (Turns.of_below hb (Nat.le_refl _)) (fun _ _ _ h => h)
theorem MsNew.mono {v w w' : World} {x : MsM} (h : MsNew w w' x) (hs : v.heap.size ≤ w.heap.size) : MsNew v w' x := ⟨h.ok, h.cut, fun b off e hne => Nat.le_trans hs (h.cutN b off e hne), h.vs.mono hs, h.seen, fun b off e hne => Nat.le_trans hs (h.seenN b off e hne), h.evs.mono hs⟩
theorem msNew_zero (w w' : World) : MsNew w w' ⟨0, 0, 0, (0, 0), 0, ⟨⟨false, ⟨#[]⟩, ⟨#[]⟩, 0, []⟩, none, 0⟩, none, 0, [], none, 0, [], none, 0, [], 0⟩ :=
  ⟨⟨⟨hv_nilE _, i64_0K, Nat.zero_le _, Nat.zero_le _⟩, (heldVN_nil _).held, Nat.zero_le _, hv_nilE _, (heldEN_nil _).held, Nat.zero_le _, i64_0K, i64_0K, i64_0K, i64_0K, i64_0K, i64_0K, i64_0K⟩, hn_nilE _, (fun b off e => (by cases e)), vosAt_nil _ _ _, hn_nilE _, (fun b off e => (by cases e)), evsAt_nil _ _ _⟩
/-- What a read of a message answers. -/
def ReadMs (w : World) (len : Nat) (bs : List Int) (e : Ending) (w' : World) : Prop := ∃ (x : MsM) (n : Nat) (E : Int), e = .returned (.tuple #[x.val, .int .i64 (n : Int), .int .i64 E]) ∧ MsNew w w' x ∧ ((E = 0 ∧ n ≤ len ∧ pMsg bs = some (x.d, bs.drop n)) ∨ (E = 10 ∧ pMsg bs = none)) ∧ Below w.heap.size w w'
set_option maxRecDepth 1000000 in
set_option maxHeartbeats 16000000 in
theorem readByMs (ao : Option Addr) (len cap : Nat) (bs : List Int) (w : World) (h : Held w ao len cap bs) : Calls Tryz.prog 72 #[.slice ao len cap, .func (.func 48) #[] #[]] w (ReadMs w len bs) := by
  obtain ⟨W1, hW1⟩ : ∃ W, W = w.alloc (.cells #[.int .i64 0, .int .i64 0, .int .i64 0, .int .i64 0, .int .i64 0, .int .i64 0, .bool false, .string ⟨#[]⟩, .string ⟨#[]⟩, .int .i64 0, .slice none 0 0, .slice none 0 0, .slice none 0 0, .slice none 0 0, .int .i64 0] 43) := ⟨_, rfl⟩
  obtain ⟨W, hW⟩ : ∃ W, W = W1.alloc (.cells #[.slice ao len cap, .int .i64 0, .int .i64 0] 158) := ⟨_, rfl⟩
  have hs1 : W1.heap.size = w.heap.size + 1 := by rw [hW1]; simp
  have hb1 : Below w.heap.size w W1 := by rw [hW1]; exact (Below.refl _ _).alloc (Nat.le_refl _) _
  have hb : Below w.heap.size w W := by rw [hW]; exact hb1.alloc hb1.size _
  obtain ⟨rs, hrs⟩ : ∃ q, q = w.heap.size := ⟨_, rfl⟩
  obtain ⟨rb, hrb⟩ : ∃ q, q = w.heap.size + 1 := ⟨_, rfl⟩
  have HKS : Hid (Blk W rs 43 [.int .i64 0, .int .i64 0, .int .i64 0, .int .i64 0, .int .i64 0, .int .i64 0, .bool false, .string ⟨#[]⟩, .string ⟨#[]⟩, .int .i64 0, .slice none 0 0, .slice none 0 0, .slice none 0 0, .slice none 0 0, .int .i64 0]) := by rw [hrs, hW, hW1]; exact (Blk.new w _ _).alloc _
  have hk : Blk W rb 158 [.slice ao len cap, .int .i64 0, .int .i64 0] := by rw [hrb, hW, ← hs1]; exact Blk.new W1 _ _
  have HRD : Hid (RdAt W rb ao len cap bs (some bs)) := ⟨h.below hb (Nat.le_refl _), 0, 0, hk, Nat.zero_le _, .inl ⟨rfl, rfl⟩⟩
  have HPT := hid HRD.out.msgR
  have HNE : Hid (rs ≠ rb ∧ w.heap.size ≤ rs ∧ w.heap.size ≤ rb ∧ rs < rb) := ⟨by omega, by omega, by omega, by omega⟩
  have HW : Hid (W = (w.alloc (.cells #[.int .i64 0, .int .i64 0, .int .i64 0, .int .i64 0, .int .i64 0, .int .i64 0, .bool false, .string ⟨#[]⟩, .string ⟨#[]⟩, .int .i64 0, .slice none 0 0, .slice none 0 0, .slice none 0 0, .slice none 0 0, .int .i64 0] 43)).alloc (.cells #[.slice ao len cap, .int .i64 0, .int .i64 0] 158)) := by show _ = _; rw [hW, hW1]
  have HRS := hid hrs
  have HRB := hid hrb
  have HB := hid hb
  clear h hk hW hW1 hs1 hb1 hb hrs hrb
  go_enter Tryz.func72, Tryz.ntmps72
  go_wp2_with fail
  rw [← HW.out, ← HRB.out, ← HRS.out]
  refine HPT.out.mono ?_
  rintro e u ⟨⟨⟨kd, fr, tt, ⟨br, bn⟩, sl, ⟨⟨np, tk, ct, ep, cut⟩, a, c⟩, va, vc, vs, sa, sc, seen, ea, ec, evs, ti⟩, rfl, hg, hmn⟩, hrr, ht⟩
  simp only [MsM.val]
  obtain ⟨XN, HXN⟩ : ∃ m, Hid (cut.length = m) := ⟨_, hid rfl⟩
  obtain ⟨VN, HVN⟩ : ∃ m, Hid (vs.length = m) := ⟨_, hid rfl⟩
  obtain ⟨SN, HSN⟩ : ∃ m, Hid (seen.length = m) := ⟨_, hid rfl⟩
  obtain ⟨EN, HEN⟩ : ∃ m, Hid (evs.length = m) := ⟨_, hid rfl⟩
  rw [HXN.out, HVN.out, HSN.out, HEN.out]
  have HGV := hid hg
  have hku := ht.blk HKS.out HNE.out.1
  have HBU : Hid (Below w.heap.size w u) := HB.out.trans (ht.below (fun i hh => by rw [hh]; exact HNE.out.2.2.1) HB.out.size)
  obtain ⟨U, hU⟩ : ∃ V, V = u.alloc (.cells #[.int .i64 kd, .int .i64 fr, .int .i64 tt, .int .i64 br, .int .i64 bn, .int .i64 sl, .bool np, .string tk, .string ct, .int .i64 ep, .slice a XN c, .slice va VN vc, .slice sa SN sc, .slice ea EN ec, .int .i64 ti] 43) := ⟨_, rfl⟩
  obtain ⟨xb, hxb⟩ : ∃ q, q = u.heap.size := ⟨_, rfl⟩
  have hbU : Below u.heap.size u U := by rw [hU]; exact (Below.refl _ _).alloc (Nat.le_refl _) _
  have HKX : Hid (Blk U xb 43 [.int .i64 kd, .int .i64 fr, .int .i64 tt, .int .i64 br, .int .i64 bn, .int .i64 sl, .bool np, .string tk, .string ct, .int .i64 ep, .slice a XN c, .slice va VN vc, .slice sa SN sc, .slice ea EN ec, .int .i64 ti]) := by rw [hU, hxb]; exact Blk.new u _ _
  have HKS2 := hid (hku.below hbU hku.lt)
  have HRU := hid (hrr.below hbU)
  have HBX := hid (bt' HBU.out hbU)
  have HXS : Hid (rs < xb ∧ rb < xb) := by obtain ⟨_, _, hkk, _⟩ := hrr.blk; have h1 := hku.lt; have h2 := hkk.lt; exact ⟨by omega, by omega⟩
  have HMN := hid ((hmn.below hbU).mono HB.out.size)
  have HU := hid hU
  have HXB := hid hxb
  obtain ⟨at', er, hkk, hat, hst⟩ := HRU.out.blk
  have HAT := hid hat
  have HKB := hid hkk
  clear hg hmn ht hrr hku hbU hU hxb hat hkk HPT
  rcases hst with ⟨h1, rfl⟩ | ⟨h1, rfl⟩
  · have HP : Hid (pMsg bs = some (MsM.d ⟨kd, fr, tt, (br, bn), sl, ⟨⟨np, tk, ct, ep, cut⟩, a, c⟩, va, vc, vs, sa, sc, seen, ea, ec, evs, ti⟩, bs.drop at')) := by
      unfold nxt at h1
      rw [Option.bind_some] at h1
      cases hp : pMsg bs with
      | none => rw [hp] at h1; cases h1
      | some t =>
        obtain ⟨x, r⟩ := t
        rw [hp] at h1
        cases h1
        rw [HGV.out x (bs.drop at') (by rw [Option.bind_some]; exact hp)]
        exact hid rfl
    clear h1
    have q0 := HKX.out.cell (i := 0) rfl
    have q1 := HKX.out.cell (i := 1) rfl
    have q2 := HKX.out.cell (i := 2) rfl
    have q3 := HKX.out.cell (i := 3) rfl
    have q4 := HKX.out.cell (i := 4) rfl
    have q5 := HKX.out.cell (i := 5) rfl
    have q6 := HKX.out.cell (i := 6) rfl
    have q7 := HKX.out.cell (i := 7) rfl
    have q8 := HKX.out.cell (i := 8) rfl
    have q9 := HKX.out.cell (i := 9) rfl
    have q10 := HKX.out.cell (i := 10) rfl
    have q11 := HKX.out.cell (i := 11) rfl
    have q12 := HKX.out.cell (i := 12) rfl
    have q13 := HKX.out.cell (i := 13) rfl
    have q14 := HKX.out.cell (i := 14) rfl
    have r0 := HKS2.out.cell (i := 0) rfl
    have f0 := HKS2.out.frozen 0
    have r1 := HKS2.out.cell (i := 1) rfl
    have f1 := HKS2.out.frozen 1
    have r2 := HKS2.out.cell (i := 2) rfl
    have f2 := HKS2.out.frozen 2
    have r3 := HKS2.out.cell (i := 3) rfl
    have f3 := HKS2.out.frozen 3
    have r4 := HKS2.out.cell (i := 4) rfl
    have f4 := HKS2.out.frozen 4
    have r5 := HKS2.out.cell (i := 5) rfl
    have f5 := HKS2.out.frozen 5
    have r6 := HKS2.out.cell (i := 6) rfl
    have f6 := HKS2.out.frozen 6
    have r7 := HKS2.out.cell (i := 7) rfl
    have f7 := HKS2.out.frozen 7
    have r8 := HKS2.out.cell (i := 8) rfl
    have f8 := HKS2.out.frozen 8
    have r9 := HKS2.out.cell (i := 9) rfl
    have f9 := HKS2.out.frozen 9
    have r10 := HKS2.out.cell (i := 10) rfl
    have f10 := HKS2.out.frozen 10
    have r11 := HKS2.out.cell (i := 11) rfl
    have f11 := HKS2.out.frozen 11
    have r12 := HKS2.out.cell (i := 12) rfl
    have f12 := HKS2.out.frozen 12
    have r13 := HKS2.out.cell (i := 13) rfl
    have f13 := HKS2.out.frozen 13
    have r14 := HKS2.out.cell (i := 14) rfl
    have f14 := HKS2.out.frozen 14
    have b1 := HKB.out.cell (i := 1) rfl
    have b2 := HKB.out.cell (i := 2) rfl
    have HSA : Hid (∀ V, Turns (fun i => i = rs) U V → (Turns (fun i => i = rs) U V ∧ V.cell? ⟨xb, 0, none⟩ = some (.int .i64 kd) ∧ V.cell? ⟨xb, 1, none⟩ = some (.int .i64 fr) ∧ V.cell? ⟨xb, 2, none⟩ = some (.int .i64 tt) ∧ V.cell? ⟨xb, 3, none⟩ = some (.int .i64 br) ∧ V.cell? ⟨xb, 4, none⟩ = some (.int .i64 bn) ∧ V.cell? ⟨xb, 5, none⟩ = some (.int .i64 sl) ∧ V.cell? ⟨xb, 6, none⟩ = some (.bool np) ∧ V.cell? ⟨xb, 7, none⟩ = some (.string tk) ∧ V.cell? ⟨xb, 8, none⟩ = some (.string ct) ∧ V.cell? ⟨xb, 9, none⟩ = some (.int .i64 ep) ∧ V.cell? ⟨xb, 10, none⟩ = some (.slice a XN c) ∧ V.cell? ⟨xb, 11, none⟩ = some (.slice va VN vc) ∧ V.cell? ⟨xb, 12, none⟩ = some (.slice sa SN sc) ∧ V.cell? ⟨xb, 13, none⟩ = some (.slice ea EN ec) ∧ V.cell? ⟨xb, 14, none⟩ = some (.int .i64 ti) ∧ V.cell? ⟨rb, 1, none⟩ = some (.int .i64 (at' : Int)))) := fun V hV => by
      have h1 := hV.blk HKX.out (by have := HXS.out.1; omega)
      have h2 := hV.blk HKB.out (fun e => HNE.out.1 e.symm)
      exact ⟨hV, h1.cell rfl, h1.cell rfl, h1.cell rfl, h1.cell rfl, h1.cell rfl, h1.cell rfl, h1.cell rfl, h1.cell rfl, h1.cell rfl, h1.cell rfl, h1.cell rfl, h1.cell rfl, h1.cell rfl, h1.cell rfl, h1.cell rfl, h2.cell rfl⟩
    have HTU : Hid (Turns (fun i => i = rs) U U) := Turns.refl _ _
    rw [HU.out] at q0 q1 q2 q3 q4 q5 q6 q7 q8 q9 q10 q11 q12 q13 q14 r0 f0 r1 f1 r2 f2 r3 f3 r4 f4 r5 f5 r6 f6 r7 f7 r8 f8 r9 f9 r10 f10 r11 f11 r12 f12 r13 f13 r14 f14 b1 b2
    go_wp2
    rw [← HU.out, ← HXB.out]
    clear q0 q1 q2 q3 q4 q5 q6 q7 q8 q9 q10 q11 q12 q13 q14 r0 f0 r1 f1 r2 f2 r3 f3 r4 f4 r5 f5 r6 f6 r7 f7 r8 f8 r9 f9 r10 f10 r11 f11 r12 f12 r13 f13 r14 f14 b1 b2
    have q0 := HKX.out.cell (i := 0) rfl
    have q1 := HKX.out.cell (i := 1) rfl
    have q2 := HKX.out.cell (i := 2) rfl
    have q3 := HKX.out.cell (i := 3) rfl
    have q4 := HKX.out.cell (i := 4) rfl
    have q5 := HKX.out.cell (i := 5) rfl
    have q6 := HKX.out.cell (i := 6) rfl
    have q7 := HKX.out.cell (i := 7) rfl
    have q8 := HKX.out.cell (i := 8) rfl
    have q9 := HKX.out.cell (i := 9) rfl
    have q10 := HKX.out.cell (i := 10) rfl
    have q11 := HKX.out.cell (i := 11) rfl
    have q12 := HKX.out.cell (i := 12) rfl
    have q13 := HKX.out.cell (i := 13) rfl
    have q14 := HKX.out.cell (i := 14) rfl
    have r0 := HKS2.out.cell (i := 0) rfl
    have f0 := HKS2.out.frozen 0
    have r1 := HKS2.out.cell (i := 1) rfl
    have f1 := HKS2.out.frozen 1
    have r2 := HKS2.out.cell (i := 2) rfl
    have f2 := HKS2.out.frozen 2
    have r3 := HKS2.out.cell (i := 3) rfl
    have f3 := HKS2.out.frozen 3
    have r4 := HKS2.out.cell (i := 4) rfl
    have f4 := HKS2.out.frozen 4
    have r5 := HKS2.out.cell (i := 5) rfl
    have f5 := HKS2.out.frozen 5
    have r6 := HKS2.out.cell (i := 6) rfl
    have f6 := HKS2.out.frozen 6
    have r7 := HKS2.out.cell (i := 7) rfl
    have f7 := HKS2.out.frozen 7
    have r8 := HKS2.out.cell (i := 8) rfl
    have f8 := HKS2.out.frozen 8
    have r9 := HKS2.out.cell (i := 9) rfl
    have f9 := HKS2.out.frozen 9
    have r10 := HKS2.out.cell (i := 10) rfl
    have f10 := HKS2.out.frozen 10
    have r11 := HKS2.out.cell (i := 11) rfl
    have f11 := HKS2.out.frozen 11
    have r12 := HKS2.out.cell (i := 12) rfl
    have f12 := HKS2.out.frozen 12
    have r13 := HKS2.out.cell (i := 13) rfl
    have f13 := HKS2.out.frozen 13
    have r14 := HKS2.out.cell (i := 14) rfl
    have f14 := HKS2.out.frozen 14
    have b1 := HKB.out.cell (i := 1) rfl
    have b2 := HKB.out.cell (i := 2) rfl
    go_region_held3 (fun V => Turns (fun i => i = rs) U V ∧ V.cell? ⟨xb, 0, none⟩ = some (.int .i64 kd) ∧ V.cell? ⟨xb, 1, none⟩ = some (.int .i64 fr) ∧ V.cell? ⟨xb, 2, none⟩ = some (.int .i64 tt) ∧ V.cell? ⟨xb, 3, none⟩ = some (.int .i64 br) ∧ V.cell? ⟨xb, 4, none⟩ = some (.int .i64 bn) ∧ V.cell? ⟨xb, 5, none⟩ = some (.int .i64 sl) ∧ V.cell? ⟨xb, 6, none⟩ = some (.bool np) ∧ V.cell? ⟨xb, 7, none⟩ = some (.string tk) ∧ V.cell? ⟨xb, 8, none⟩ = some (.string ct) ∧ V.cell? ⟨xb, 9, none⟩ = some (.int .i64 ep) ∧ V.cell? ⟨xb, 10, none⟩ = some (.slice a XN c) ∧ V.cell? ⟨xb, 11, none⟩ = some (.slice va VN vc) ∧ V.cell? ⟨xb, 12, none⟩ = some (.slice sa SN sc) ∧ V.cell? ⟨xb, 13, none⟩ = some (.slice ea EN ec) ∧ V.cell? ⟨xb, 14, none⟩ = some (.int .i64 ti) ∧ V.cell? ⟨rb, 1, none⟩ = some (.int .i64 (at' : Int)))
      (first | (refine HSA.out _ ?_; (repeat (first | with_reducible assumption | with_reducible exact HTU.out | with_reducible apply Turns.drew | with_reducible apply turns_rs)); done))
      (fail)
    all_goals
      obtain ⟨W9, hW9⟩ : ∃ V, V = (((((((((((((((U.setCell ⟨rs, 0, none⟩ (.int .i64 kd)).setCell ⟨rs, 1, none⟩ (.int .i64 fr)).setCell ⟨rs, 2, none⟩ (.int .i64 tt)).setCell ⟨rs, 3, none⟩ (.int .i64 br)).setCell ⟨rs, 4, none⟩ (.int .i64 bn)).setCell ⟨rs, 5, none⟩ (.int .i64 sl)).setCell ⟨rs, 6, none⟩ (.bool np)).setCell ⟨rs, 7, none⟩ (.string tk)).setCell ⟨rs, 8, none⟩ (.string ct)).setCell ⟨rs, 9, none⟩ (.int .i64 ep)).setCell ⟨rs, 10, none⟩ (.slice a XN c)).setCell ⟨rs, 11, none⟩ (.slice va VN vc)).setCell ⟨rs, 12, none⟩ (.slice sa SN sc)).setCell ⟨rs, 13, none⟩ (.slice ea EN ec)).setCell ⟨rs, 14, none⟩ (.int .i64 ti)).drew := ⟨_, rfl⟩
      have hk9 : Blk W9 rs 43 [.int .i64 kd, .int .i64 fr, .int .i64 tt, .int .i64 br, .int .i64 bn, .int .i64 sl, .bool np, .string tk, .string ct, .int .i64 ep, .slice a XN c, .slice va VN vc, .slice sa SN sc, .slice ea EN ec, .int .i64 ti] := by rw [hW9]; exact (((((((((((((((HKS2.out.set 0 _).set 1 _).set 2 _).set 3 _).set 4 _).set 5 _).set 6 _).set 7 _).set 8 _).set 9 _).set 10 _).set 11 _).set 12 _).set 13 _).set 14 _).drew
      have hst : Turns (fun i => i = rs) U W9 := by rw [hW9]; exact ((((((((((((((((Turns.refl (fun i => i = rs) U).setCell (p := ⟨rs, 0, none⟩) (.inl rfl) _).setCell (p := ⟨rs, 1, none⟩) (.inl rfl) _).setCell (p := ⟨rs, 2, none⟩) (.inl rfl) _).setCell (p := ⟨rs, 3, none⟩) (.inl rfl) _).setCell (p := ⟨rs, 4, none⟩) (.inl rfl) _).setCell (p := ⟨rs, 5, none⟩) (.inl rfl) _).setCell (p := ⟨rs, 6, none⟩) (.inl rfl) _).setCell (p := ⟨rs, 7, none⟩) (.inl rfl) _).setCell (p := ⟨rs, 8, none⟩) (.inl rfl) _).setCell (p := ⟨rs, 9, none⟩) (.inl rfl) _).setCell (p := ⟨rs, 10, none⟩) (.inl rfl) _).setCell (p := ⟨rs, 11, none⟩) (.inl rfl) _).setCell (p := ⟨rs, 12, none⟩) (.inl rfl) _).setCell (p := ⟨rs, 13, none⟩) (.inl rfl) _).setCell (p := ⟨rs, 14, none⟩) (.inl rfl) _).drew
      have HMF : Hid (MsNew w W9 ⟨kd, fr, tt, (br, bn), sl, ⟨⟨np, tk, ct, ep, cut⟩, a, c⟩, va, vc, vs, sa, sc, seen, ea, ec, evs, ti⟩) := HMN.out.turned hst (apart_blk HKS2.out (by decide) (by decide) (by decide))
      have HBF : Hid (Below w.heap.size w W9) := HBX.out.trans (hst.below (fun i hh => by rw [hh]; exact HNE.out.2.1) HBX.out.size)
      have k0 := hk9.cell (i := 0) rfl
      have k1 := hk9.cell (i := 1) rfl
      have k2 := hk9.cell (i := 2) rfl
      have k3 := hk9.cell (i := 3) rfl
      have k4 := hk9.cell (i := 4) rfl
      have k5 := hk9.cell (i := 5) rfl
      have k6 := hk9.cell (i := 6) rfl
      have k7 := hk9.cell (i := 7) rfl
      have k8 := hk9.cell (i := 8) rfl
      have k9 := hk9.cell (i := 9) rfl
      have k10 := hk9.cell (i := 10) rfl
      have k11 := hk9.cell (i := 11) rfl
      have k12 := hk9.cell (i := 12) rfl
      have k13 := hk9.cell (i := 13) rfl
      have k14 := hk9.cell (i := 14) rfl
      clear hk9 hst
      go_wp2
      rw [← hW9]
      (try simp only [Exit.inBlock, Exit.then])
      refine bodyPost_ret (v := .tuple #[.agg #[.int .i64 kd, .int .i64 fr, .int .i64 tt, .int .i64 br, .int .i64 bn, .int .i64 sl, .bool np, .string tk, .string ct, .int .i64 ep, .slice a XN c, .slice va VN vc, .slice sa SN sc, .slice ea EN ec, .int .i64 ti], .int .i64 (at' : Int), .int .i64 0]) ?_ rfl ⟨⟨kd, fr, tt, (br, bn), sl, ⟨⟨np, tk, ct, ep, cut⟩, a, c⟩, va, vc, vs, sa, sc, seen, ea, ec, evs, ti⟩, at', 0, by simp only [MsM.val]; rw [HXN.out, HVN.out, HSN.out, HEN.out], HMF.out, .inl ⟨rfl, HAT.out, HP.out⟩, HBF.out⟩
      rw [results_cellR3 rfl]
      go_simp
  · have HP : Hid (pMsg bs = none) := by
      unfold nxt at h1
      rw [Option.bind_some] at h1
      cases hp : pMsg bs with
      | none => exact hid rfl
      | some t => rw [hp] at h1; cases h1
    clear h1
    obtain ⟨U2, hU2⟩ : ∃ V, V = U.alloc (.cells #[.int .i64 0, .int .i64 0, .int .i64 0, .int .i64 0, .int .i64 0, .int .i64 0, .bool false, .string ⟨#[]⟩, .string ⟨#[]⟩, .int .i64 0, .slice none 0 0, .slice none 0 0, .slice none 0 0, .slice none 0 0, .int .i64 0] 43) := ⟨_, rfl⟩
    obtain ⟨zb, hzb⟩ : ∃ q, q = u.heap.size + 1 := ⟨_, rfl⟩
    have hUs : U.heap.size = u.heap.size + 1 := by rw [HU.out]; simp
    have hbz : Below U.heap.size U U2 := by rw [hU2]; exact (Below.refl _ _).alloc (Nat.le_refl _) _
    have HKZ : Hid (Blk U2 zb 43 [.int .i64 0, .int .i64 0, .int .i64 0, .int .i64 0, .int .i64 0, .int .i64 0, .bool false, .string ⟨#[]⟩, .string ⟨#[]⟩, .int .i64 0, .slice none 0 0, .slice none 0 0, .slice none 0 0, .slice none 0 0, .int .i64 0]) := by rw [hU2, hzb, ← hUs]; exact Blk.new U _ _
    have HKS3 := hid (HKS2.out.below hbz HKS2.out.lt)
    have HKB3 := hid (HKB.out.below hbz HKB.out.lt)
    have HBZ := hid (bt' HBX.out hbz)
    have HZS : Hid (rs < zb) := by have h1 := HKS2.out.lt; exact hid (by omega)
    have HSA : Hid (∀ V, Turns (fun i => i = rs) U2 V → (Turns (fun i => i = rs) U2 V ∧ V.cell? ⟨zb, 0, none⟩ = some (.int .i64 0) ∧ V.cell? ⟨zb, 1, none⟩ = some (.int .i64 0) ∧ V.cell? ⟨zb, 2, none⟩ = some (.int .i64 0) ∧ V.cell? ⟨zb, 3, none⟩ = some (.int .i64 0) ∧ V.cell? ⟨zb, 4, none⟩ = some (.int .i64 0) ∧ V.cell? ⟨zb, 5, none⟩ = some (.int .i64 0) ∧ V.cell? ⟨zb, 6, none⟩ = some (.bool false) ∧ V.cell? ⟨zb, 7, none⟩ = some (.string ⟨#[]⟩) ∧ V.cell? ⟨zb, 8, none⟩ = some (.string ⟨#[]⟩) ∧ V.cell? ⟨zb, 9, none⟩ = some (.int .i64 0) ∧ V.cell? ⟨zb, 10, none⟩ = some (.slice none 0 0) ∧ V.cell? ⟨zb, 11, none⟩ = some (.slice none 0 0) ∧ V.cell? ⟨zb, 12, none⟩ = some (.slice none 0 0) ∧ V.cell? ⟨zb, 13, none⟩ = some (.slice none 0 0) ∧ V.cell? ⟨zb, 14, none⟩ = some (.int .i64 0) ∧ V.cell? ⟨rb, 2, none⟩ = some (.int .i64 10))) := fun V hV => by
      have h1 := hV.blk HKZ.out (by have := HZS.out; omega)
      have h2 := hV.blk HKB3.out (fun e => HNE.out.1 e.symm)
      exact ⟨hV, h1.cell rfl, h1.cell rfl, h1.cell rfl, h1.cell rfl, h1.cell rfl, h1.cell rfl, h1.cell rfl, h1.cell rfl, h1.cell rfl, h1.cell rfl, h1.cell rfl, h1.cell rfl, h1.cell rfl, h1.cell rfl, h1.cell rfl, h2.cell rfl⟩
    have HTU : Hid (Turns (fun i => i = rs) U2 U2) := Turns.refl _ _
    have HU2 := hid hU2
    have HZB := hid hzb
    have b2 := HKB.out.cell (i := 2) rfl
    rw [HU.out] at b2
    clear hU2 hzb hbz hUs
    go_wp2
    rw [← HU.out, ← HU2.out, ← HZB.out]
    clear b2
    have r0 := HKS3.out.cell (i := 0) rfl
    have f0 := HKS3.out.frozen 0
    have r1 := HKS3.out.cell (i := 1) rfl
    have f1 := HKS3.out.frozen 1
    have r2 := HKS3.out.cell (i := 2) rfl
    have f2 := HKS3.out.frozen 2
    have r3 := HKS3.out.cell (i := 3) rfl
    have f3 := HKS3.out.frozen 3
    have r4 := HKS3.out.cell (i := 4) rfl
    have f4 := HKS3.out.frozen 4
    have r5 := HKS3.out.cell (i := 5) rfl
    have f5 := HKS3.out.frozen 5
    have r6 := HKS3.out.cell (i := 6) rfl
    have f6 := HKS3.out.frozen 6
    have r7 := HKS3.out.cell (i := 7) rfl
    have f7 := HKS3.out.frozen 7
    have r8 := HKS3.out.cell (i := 8) rfl
    have f8 := HKS3.out.frozen 8
    have r9 := HKS3.out.cell (i := 9) rfl
    have f9 := HKS3.out.frozen 9
    have r10 := HKS3.out.cell (i := 10) rfl
    have f10 := HKS3.out.frozen 10
    have r11 := HKS3.out.cell (i := 11) rfl
    have f11 := HKS3.out.frozen 11
    have r12 := HKS3.out.cell (i := 12) rfl
    have f12 := HKS3.out.frozen 12
    have r13 := HKS3.out.cell (i := 13) rfl
    have f13 := HKS3.out.frozen 13
    have r14 := HKS3.out.cell (i := 14) rfl
    have f14 := HKS3.out.frozen 14
    go_region_held3 (fun V => Turns (fun i => i = rs) U2 V ∧ V.cell? ⟨zb, 0, none⟩ = some (.int .i64 0) ∧ V.cell? ⟨zb, 1, none⟩ = some (.int .i64 0) ∧ V.cell? ⟨zb, 2, none⟩ = some (.int .i64 0) ∧ V.cell? ⟨zb, 3, none⟩ = some (.int .i64 0) ∧ V.cell? ⟨zb, 4, none⟩ = some (.int .i64 0) ∧ V.cell? ⟨zb, 5, none⟩ = some (.int .i64 0) ∧ V.cell? ⟨zb, 6, none⟩ = some (.bool false) ∧ V.cell? ⟨zb, 7, none⟩ = some (.string ⟨#[]⟩) ∧ V.cell? ⟨zb, 8, none⟩ = some (.string ⟨#[]⟩) ∧ V.cell? ⟨zb, 9, none⟩ = some (.int .i64 0) ∧ V.cell? ⟨zb, 10, none⟩ = some (.slice none 0 0) ∧ V.cell? ⟨zb, 11, none⟩ = some (.slice none 0 0) ∧ V.cell? ⟨zb, 12, none⟩ = some (.slice none 0 0) ∧ V.cell? ⟨zb, 13, none⟩ = some (.slice none 0 0) ∧ V.cell? ⟨zb, 14, none⟩ = some (.int .i64 0) ∧ V.cell? ⟨rb, 2, none⟩ = some (.int .i64 10))
      (first | (refine HSA.out _ ?_; (repeat (first | with_reducible assumption | with_reducible exact HTU.out | with_reducible apply Turns.drew | with_reducible apply turns_rs)); done))
      (fail)
    all_goals
      obtain ⟨W9, hW9⟩ : ∃ V, V = (((((((((((((((U2.setCell ⟨rs, 0, none⟩ (.int .i64 0)).setCell ⟨rs, 1, none⟩ (.int .i64 0)).setCell ⟨rs, 2, none⟩ (.int .i64 0)).setCell ⟨rs, 3, none⟩ (.int .i64 0)).setCell ⟨rs, 4, none⟩ (.int .i64 0)).setCell ⟨rs, 5, none⟩ (.int .i64 0)).setCell ⟨rs, 6, none⟩ (.bool false)).setCell ⟨rs, 7, none⟩ (.string ⟨#[]⟩)).setCell ⟨rs, 8, none⟩ (.string ⟨#[]⟩)).setCell ⟨rs, 9, none⟩ (.int .i64 0)).setCell ⟨rs, 10, none⟩ (.slice none 0 0)).setCell ⟨rs, 11, none⟩ (.slice none 0 0)).setCell ⟨rs, 12, none⟩ (.slice none 0 0)).setCell ⟨rs, 13, none⟩ (.slice none 0 0)).setCell ⟨rs, 14, none⟩ (.int .i64 0)).drew := ⟨_, rfl⟩
      have hk9 : Blk W9 rs 43 [.int .i64 0, .int .i64 0, .int .i64 0, .int .i64 0, .int .i64 0, .int .i64 0, .bool false, .string ⟨#[]⟩, .string ⟨#[]⟩, .int .i64 0, .slice none 0 0, .slice none 0 0, .slice none 0 0, .slice none 0 0, .int .i64 0] := by rw [hW9]; exact (((((((((((((((HKS3.out.set 0 _).set 1 _).set 2 _).set 3 _).set 4 _).set 5 _).set 6 _).set 7 _).set 8 _).set 9 _).set 10 _).set 11 _).set 12 _).set 13 _).set 14 _).drew
      have hst : Turns (fun i => i = rs) U2 W9 := by rw [hW9]; exact ((((((((((((((((Turns.refl (fun i => i = rs) U2).setCell (p := ⟨rs, 0, none⟩) (.inl rfl) _).setCell (p := ⟨rs, 1, none⟩) (.inl rfl) _).setCell (p := ⟨rs, 2, none⟩) (.inl rfl) _).setCell (p := ⟨rs, 3, none⟩) (.inl rfl) _).setCell (p := ⟨rs, 4, none⟩) (.inl rfl) _).setCell (p := ⟨rs, 5, none⟩) (.inl rfl) _).setCell (p := ⟨rs, 6, none⟩) (.inl rfl) _).setCell (p := ⟨rs, 7, none⟩) (.inl rfl) _).setCell (p := ⟨rs, 8, none⟩) (.inl rfl) _).setCell (p := ⟨rs, 9, none⟩) (.inl rfl) _).setCell (p := ⟨rs, 10, none⟩) (.inl rfl) _).setCell (p := ⟨rs, 11, none⟩) (.inl rfl) _).setCell (p := ⟨rs, 12, none⟩) (.inl rfl) _).setCell (p := ⟨rs, 13, none⟩) (.inl rfl) _).setCell (p := ⟨rs, 14, none⟩) (.inl rfl) _).drew
      have HBF : Hid (Below w.heap.size w W9) := HBZ.out.trans (hst.below (fun i hh => by rw [hh]; exact HNE.out.2.1) HBZ.out.size)
      have k0 := hk9.cell (i := 0) rfl
      have k1 := hk9.cell (i := 1) rfl
      have k2 := hk9.cell (i := 2) rfl
      have k3 := hk9.cell (i := 3) rfl
      have k4 := hk9.cell (i := 4) rfl
      have k5 := hk9.cell (i := 5) rfl
      have k6 := hk9.cell (i := 6) rfl
      have k7 := hk9.cell (i := 7) rfl
      have k8 := hk9.cell (i := 8) rfl
      have k9 := hk9.cell (i := 9) rfl
      have k10 := hk9.cell (i := 10) rfl
      have k11 := hk9.cell (i := 11) rfl
      have k12 := hk9.cell (i := 12) rfl
      have k13 := hk9.cell (i := 13) rfl
      have k14 := hk9.cell (i := 14) rfl
      clear hk9 hst
      go_wp2
      rw [← hW9]
      (try simp only [Exit.inBlock, Exit.then])
      refine bodyPost_ret (v := .tuple #[.agg #[.int .i64 0, .int .i64 0, .int .i64 0, .int .i64 0, .int .i64 0, .int .i64 0, .bool false, .string ⟨#[]⟩, .string ⟨#[]⟩, .int .i64 0, .slice none 0 0, .slice none 0 0, .slice none 0 0, .slice none 0 0, .int .i64 0], .int .i64 0, .int .i64 10]) ?_ rfl ⟨⟨0, 0, 0, (0, 0), 0, ⟨⟨false, ⟨#[]⟩, ⟨#[]⟩, 0, []⟩, none, 0⟩, none, 0, [], none, 0, [], none, 0, [], 0⟩, 0, 10, rfl, msNew_zero _ _, .inr ⟨rfl, HP.out⟩, HBF.out⟩
      rw [results_cellR3 rfl]
      go_simp
end Go.Proofs.YtfmnbehopdmahaaGreat
/-
  Package codec: readBounded of a message.
-/
namespace Go.Proofs.YtfmnbehopdmahaaGreat
open Go.RowKit Go.Maps

set_option maxRecDepth 1000000 in
set_option maxHeartbeats 16000000 in
theorem boundedMs (ao : Option Addr) (len cap : Nat) (bs : List Int) (w : World) (h : Held w ao len cap bs) (hl : len ≤ 65536) : Calls Tryz.prog 47 #[.slice ao len cap, .func (.func 48) #[] #[]] w (ReadMs w len bs) := by
  obtain ⟨W, hW⟩ : ∃ W, W = w.alloc (.cells #[.int .i64 0, .int .i64 0, .int .i64 0, .int .i64 0, .int .i64 0, .int .i64 0, .bool false, .string ⟨#[]⟩, .string ⟨#[]⟩, .int .i64 0, .slice none 0 0, .slice none 0 0, .slice none 0 0, .slice none 0 0, .int .i64 0] 43) := ⟨_, rfl⟩
  have hb : Below w.heap.size w W := by rw [hW]; exact (Below.refl _ _).alloc (Nat.le_refl _) _
  obtain ⟨rs, hrs⟩ : ∃ q, q = w.heap.size := ⟨_, rfl⟩
  have HKR : Hid (Blk W rs 43 [.int .i64 0, .int .i64 0, .int .i64 0, .int .i64 0, .int .i64 0, .int .i64 0, .bool false, .string ⟨#[]⟩, .string ⟨#[]⟩, .int .i64 0, .slice none 0 0, .slice none 0 0, .slice none 0 0, .slice none 0 0, .int .i64 0]) := by rw [hrs, hW]; exact Blk.new w _ _
  have HR := hid (readByMs ao len cap bs W (h.below hb (Nat.le_refl _)))
  have HW := hid hW
  have HRS := hid hrs
  have HB := hid hb
  have hl' : ¬ ((65536 : Int) < (len : Int)) := by omega
  clear h hW hrs hb hl
  go_enter Tryz.func47, Tryz.ntmps47
  go_wp2_with fail
  rw [← HW.out]
  refine HR.out.mono ?_
  rintro e w1 ⟨⟨kd, fr, tt, ⟨br, bn⟩, sl, ⟨⟨np, tk, ct, ep, cut⟩, a, c⟩, va, vc, vs, sa, sc, seen, ea, ec, evs, ti⟩, n, E, rfl, hmn, hor, hb1⟩
  simp only [MsM.val]
  obtain ⟨XN, HXN⟩ : ∃ m, Hid (cut.length = m) := ⟨_, hid rfl⟩
  obtain ⟨VN, HVN⟩ : ∃ m, Hid (vs.length = m) := ⟨_, hid rfl⟩
  obtain ⟨SN, HSN⟩ : ∃ m, Hid (seen.length = m) := ⟨_, hid rfl⟩
  obtain ⟨EN, HEN⟩ : ∃ m, Hid (evs.length = m) := ⟨_, hid rfl⟩
  rw [HXN.out, HVN.out, HSN.out, HEN.out, ← HRS.out]
  have hkr1 := HKR.out.below hb1 HKR.out.lt
  have r0 := hkr1.cell (i := 0) rfl
  have f0 := hkr1.frozen 0
  have r1 := hkr1.cell (i := 1) rfl
  have f1 := hkr1.frozen 1
  have r2 := hkr1.cell (i := 2) rfl
  have f2 := hkr1.frozen 2
  have r3 := hkr1.cell (i := 3) rfl
  have f3 := hkr1.frozen 3
  have r4 := hkr1.cell (i := 4) rfl
  have f4 := hkr1.frozen 4
  have r5 := hkr1.cell (i := 5) rfl
  have f5 := hkr1.frozen 5
  have r6 := hkr1.cell (i := 6) rfl
  have f6 := hkr1.frozen 6
  have r7 := hkr1.cell (i := 7) rfl
  have f7 := hkr1.frozen 7
  have r8 := hkr1.cell (i := 8) rfl
  have f8 := hkr1.frozen 8
  have r9 := hkr1.cell (i := 9) rfl
  have f9 := hkr1.frozen 9
  have r10 := hkr1.cell (i := 10) rfl
  have f10 := hkr1.frozen 10
  have r11 := hkr1.cell (i := 11) rfl
  have f11 := hkr1.frozen 11
  have r12 := hkr1.cell (i := 12) rfl
  have f12 := hkr1.frozen 12
  have r13 := hkr1.cell (i := 13) rfl
  have f13 := hkr1.frozen 13
  have r14 := hkr1.cell (i := 14) rfl
  have f14 := hkr1.frozen 14
  obtain ⟨W9, hW9⟩ : ∃ V, V = (((((((((((((((w1.setCell ⟨rs, 0, none⟩ (.int .i64 kd)).setCell ⟨rs, 1, none⟩ (.int .i64 fr)).setCell ⟨rs, 2, none⟩ (.int .i64 tt)).setCell ⟨rs, 3, none⟩ (.int .i64 br)).setCell ⟨rs, 4, none⟩ (.int .i64 bn)).setCell ⟨rs, 5, none⟩ (.int .i64 sl)).setCell ⟨rs, 6, none⟩ (.bool np)).setCell ⟨rs, 7, none⟩ (.string tk)).setCell ⟨rs, 8, none⟩ (.string ct)).setCell ⟨rs, 9, none⟩ (.int .i64 ep)).setCell ⟨rs, 10, none⟩ (.slice a XN c)).setCell ⟨rs, 11, none⟩ (.slice va VN vc)).setCell ⟨rs, 12, none⟩ (.slice sa SN sc)).setCell ⟨rs, 13, none⟩ (.slice ea EN ec)).setCell ⟨rs, 14, none⟩ (.int .i64 ti)) := ⟨_, rfl⟩
  have hk9 : Blk W9 rs 43 [.int .i64 kd, .int .i64 fr, .int .i64 tt, .int .i64 br, .int .i64 bn, .int .i64 sl, .bool np, .string tk, .string ct, .int .i64 ep, .slice a XN c, .slice va VN vc, .slice sa SN sc, .slice ea EN ec, .int .i64 ti] := by rw [hW9]; exact (((((((((((((((hkr1.set 0 _).set 1 _).set 2 _).set 3 _).set 4 _).set 5 _).set 6 _).set 7 _).set 8 _).set 9 _).set 10 _).set 11 _).set 12 _).set 13 _).set 14 _)
  have hst : Turns (fun i => i = rs) w1 W9 := by rw [hW9]; exact ((((((((((((((((Turns.refl (fun i => i = rs) w1).setCell (p := ⟨rs, 0, none⟩) (.inl rfl) _).setCell (p := ⟨rs, 1, none⟩) (.inl rfl) _).setCell (p := ⟨rs, 2, none⟩) (.inl rfl) _).setCell (p := ⟨rs, 3, none⟩) (.inl rfl) _).setCell (p := ⟨rs, 4, none⟩) (.inl rfl) _).setCell (p := ⟨rs, 5, none⟩) (.inl rfl) _).setCell (p := ⟨rs, 6, none⟩) (.inl rfl) _).setCell (p := ⟨rs, 7, none⟩) (.inl rfl) _).setCell (p := ⟨rs, 8, none⟩) (.inl rfl) _).setCell (p := ⟨rs, 9, none⟩) (.inl rfl) _).setCell (p := ⟨rs, 10, none⟩) (.inl rfl) _).setCell (p := ⟨rs, 11, none⟩) (.inl rfl) _).setCell (p := ⟨rs, 12, none⟩) (.inl rfl) _).setCell (p := ⟨rs, 13, none⟩) (.inl rfl) _).setCell (p := ⟨rs, 14, none⟩) (.inl rfl) _)
  have HMF : Hid (MsNew w W9 ⟨kd, fr, tt, (br, bn), sl, ⟨⟨np, tk, ct, ep, cut⟩, a, c⟩, va, vc, vs, sa, sc, seen, ea, ec, evs, ti⟩) := (hmn.mono HB.out.size).turned hst (apart_blk hkr1 (by decide) (by decide) (by decide))
  have HBF : Hid (Below w.heap.size w W9) := (HB.out.trans (hb1.mono HB.out.size)).trans (hst.below (fun i hh => by rw [hh, HRS.out]; exact Nat.le_refl _) (HB.out.trans (hb1.mono HB.out.size)).size)
  have HOR := hid hor
  have k0 := hk9.cell (i := 0) rfl
  have k1 := hk9.cell (i := 1) rfl
  have k2 := hk9.cell (i := 2) rfl
  have k3 := hk9.cell (i := 3) rfl
  have k4 := hk9.cell (i := 4) rfl
  have k5 := hk9.cell (i := 5) rfl
  have k6 := hk9.cell (i := 6) rfl
  have k7 := hk9.cell (i := 7) rfl
  have k8 := hk9.cell (i := 8) rfl
  have k9 := hk9.cell (i := 9) rfl
  have k10 := hk9.cell (i := 10) rfl
  have k11 := hk9.cell (i := 11) rfl
  have k12 := hk9.cell (i := 12) rfl
  have k13 := hk9.cell (i := 13) rfl
  have k14 := hk9.cell (i := 14) rfl
  clear hk9 hst hkr1 hmn hor hb1 HR
  go_wp2
  rw [← hW9]
  (try simp only [Exit.inBlock, Exit.then])
  refine bodyPost_ret (v := .tuple #[.agg #[.int .i64 kd, .int .i64 fr, .int .i64 tt, .int .i64 br, .int .i64 bn, .int .i64 sl, .bool np, .string tk, .string ct, .int .i64 ep, .slice a XN c, .slice va VN vc, .slice sa SN sc, .slice ea EN ec, .int .i64 ti], .int .i64 (n : Int), .int .i64 E]) ?_ rfl ⟨⟨kd, fr, tt, (br, bn), sl, ⟨⟨np, tk, ct, ep, cut⟩, a, c⟩, va, vc, vs, sa, sc, seen, ea, ec, evs, ti⟩, n, E, by simp only [MsM.val]; rw [HXN.out, HVN.out, HSN.out, HEN.out], HMF.out, HOR.out, HBF.out⟩
  rw [results_cellR3 rfl]
  go_simp
end Go.Proofs.YtfmnbehopdmahaaGreat
/-
  Package codec: readBounded of a message, of any bytes; ReadMsg.
-/
namespace Go.Proofs.YtfmnbehopdmahaaGreat
open Go.RowKit Go.Maps

theorem results_cellR2 {fn : Func} {p u : Tmp} {ty : TypeId} (h : fn.results = #[.cell p ty, .tmp u]) (tmps : Array Value) (P : Program) (w : World) :
    (results fn tmps).run P w = ((asAddr (tmps.getD p undef)).run P w).andThen fun a w₁ => ((loadVar ty a).run P w₁).andThen fun x w₂ => .ok (.tuple #[x, tmps.getD u undef]) w₂ := by
  simp only [results, h]
  simp [Sem.run_bind, Result.andThen]
set_option maxRecDepth 1000000 in
set_option maxHeartbeats 16000000 in
theorem boundedBig (ao : Option Addr) (len cap : Nat) (w : World) (hl : 65536 < len) : Calls Tryz.prog 47 #[.slice ao len cap, .func (.func 48) #[] #[]] w fun e w' => e = .returned (.tuple #[.agg #[.int .i64 0, .int .i64 0, .int .i64 0, .int .i64 0, .int .i64 0, .int .i64 0, .bool false, .string ⟨#[]⟩, .string ⟨#[]⟩, .int .i64 0, .slice none 0 0, .slice none 0 0, .slice none 0 0, .slice none 0 0, .int .i64 0], .int .i64 0, .int .i64 10]) ∧ Below w.heap.size w w' := by
  have hl' : (65536 : Int) < (len : Int) := by omega
  clear hl
  go_enter Tryz.func47, Tryz.ntmps47
  go_wp2
  refine bodyPost_ret (v := .tuple #[.agg #[.int .i64 0, .int .i64 0, .int .i64 0, .int .i64 0, .int .i64 0, .int .i64 0, .bool false, .string ⟨#[]⟩, .string ⟨#[]⟩, .int .i64 0, .slice none 0 0, .slice none 0 0, .slice none 0 0, .slice none 0 0, .int .i64 0], .int .i64 0, .int .i64 10]) ?_ rfl ⟨rfl, ((Below.refl _ _).alloc (Nat.le_refl _) _).alloc (by simp) _⟩
  rw [results_cellR3 rfl]
  go_simp
/-- Is there a message in these bytes, and nothing behind it? -/
def IsMsg (len : Nat) (bs : List Int) : Prop := len ≤ 65536 ∧ ∃ y, pMsg bs = some (y, [])
/-- What readBounded answers. -/
def BMs (w : World) (len : Nat) (bs : List Int) (e : Ending) (w' : World) : Prop := ∃ (x : MsM) (n : Nat) (E : Int), e = .returned (.tuple #[x.val, .int .i64 (n : Int), .int .i64 E]) ∧ MsNew w w' x ∧ ((E = 0 ∧ len ≤ 65536 ∧ n ≤ len ∧ pMsg bs = some (x.d, bs.drop n)) ∨ (E = 10 ∧ ¬ IsMsg len bs)) ∧ Below w.heap.size w w'
/-- Which message, and which error. -/
def RmOr (x : MsM) (E : Int) (len : Nat) (bs : List Int) : Prop := (E = 0 ∧ len ≤ 65536 ∧ pMsg bs = some (x.d, [])) ∨ (E = 10 ∧ x = ⟨0, 0, 0, (0, 0), 0, ⟨⟨false, ⟨#[]⟩, ⟨#[]⟩, 0, []⟩, none, 0⟩, none, 0, [], none, 0, [], none, 0, [], 0⟩ ∧ ¬ IsMsg len bs)
/-- What ReadMsg answers. -/
def RMs (w : World) (len : Nat) (bs : List Int) (e : Ending) (w' : World) : Prop := ∃ (x : MsM) (E : Int), e = .returned (.tuple #[x.val, .int .i64 E]) ∧ MsNew w w' x ∧ RmOr x E len bs ∧ Below w.heap.size w w'
theorem boundAll (ao : Option Addr) (len cap : Nat) (bs : List Int) (w : World) (h : Held w ao len cap bs) : Calls Tryz.prog 47 #[.slice ao len cap, .func (.func 48) #[] #[]] w (BMs w len bs) := by
  by_cases hl : len ≤ 65536
  · refine (boundedMs ao len cap bs w h hl).mono ?_
    rintro e w' ⟨x, n, E, he, hn, hor, hb⟩
    refine ⟨x, n, E, he, hn, ?_, hb⟩
    rcases hor with ⟨h1, h2, h3⟩ | ⟨h1, h2⟩
    · exact .inl ⟨h1, hl, h2, h3⟩
    · refine .inr ⟨h1, fun ⟨_, y, hy⟩ => ?_⟩
      rw [h2] at hy
      cases hy
  · refine (boundedBig ao len cap w (by omega)).mono ?_
    rintro e w' ⟨rfl, hb⟩
    exact ⟨⟨0, 0, 0, (0, 0), 0, ⟨⟨false, ⟨#[]⟩, ⟨#[]⟩, 0, []⟩, none, 0⟩, none, 0, [], none, 0, [], none, 0, [], 0⟩, 0, 10, rfl, msNew_zero w w', .inr ⟨rfl, fun ⟨h1, _⟩ => hl h1⟩, hb⟩
set_option maxRecDepth 1000000 in
set_option maxHeartbeats 16000000 in
theorem readMsg_any (ao : Option Addr) (len cap : Nat) (bs : List Int) (w : World) (h : Held w ao len cap bs) : Calls Tryz.prog 34 #[.slice ao len cap] w (RMs w len bs) := by
  obtain ⟨W, hW⟩ : ∃ W, W = w.alloc (.cells #[.int .i64 0, .int .i64 0, .int .i64 0, .int .i64 0, .int .i64 0, .int .i64 0, .bool false, .string ⟨#[]⟩, .string ⟨#[]⟩, .int .i64 0, .slice none 0 0, .slice none 0 0, .slice none 0 0, .slice none 0 0, .int .i64 0] 43) := ⟨_, rfl⟩
  have hb : Below w.heap.size w W := by rw [hW]; exact (Below.refl _ _).alloc (Nat.le_refl _) _
  obtain ⟨rs, hrs⟩ : ∃ q, q = w.heap.size := ⟨_, rfl⟩
  have HKR : Hid (Blk W rs 43 [.int .i64 0, .int .i64 0, .int .i64 0, .int .i64 0, .int .i64 0, .int .i64 0, .bool false, .string ⟨#[]⟩, .string ⟨#[]⟩, .int .i64 0, .slice none 0 0, .slice none 0 0, .slice none 0 0, .slice none 0 0, .int .i64 0]) := by rw [hrs, hW]; exact Blk.new w _ _
  have HR := hid (boundAll ao len cap bs W (h.below hb (Nat.le_refl _)))
  have HW := hid hW
  have HRS := hid hrs
  have HB := hid hb
  have HBS : Hid (bs.length = len) := h.hlen
  clear h hW hrs hb
  go_enter Tryz.func34, Tryz.ntmps34
  go_wp2_with fail
  rw [← HW.out]
  refine HR.out.mono ?_
  rintro e w1 ⟨⟨kd, fr, tt, ⟨br, bn⟩, sl, ⟨⟨np, tk, ct, ep, cut⟩, a, c⟩, va, vc, vs, sa, sc, seen, ea, ec, evs, ti⟩, n, E, rfl, hmn, hor, hb1⟩
  simp only [MsM.val]
  obtain ⟨XN, HXN⟩ : ∃ m, Hid (cut.length = m) := ⟨_, hid rfl⟩
  obtain ⟨VN, HVN⟩ : ∃ m, Hid (vs.length = m) := ⟨_, hid rfl⟩
  obtain ⟨SN, HSN⟩ : ∃ m, Hid (seen.length = m) := ⟨_, hid rfl⟩
  obtain ⟨EN, HEN⟩ : ∃ m, Hid (evs.length = m) := ⟨_, hid rfl⟩
  rw [HXN.out, HVN.out, HSN.out, HEN.out, ← HRS.out]
  obtain ⟨U, hU⟩ : ∃ V, V = w1.alloc (.cells #[.int .i64 kd, .int .i64 fr, .int .i64 tt, .int .i64 br, .int .i64 bn, .int .i64 sl, .bool np, .string tk, .string ct, .int .i64 ep, .slice a XN c, .slice va VN vc, .slice sa SN sc, .slice ea EN ec, .int .i64 ti] 43) := ⟨_, rfl⟩
  have hbU : Below w1.heap.size w1 U := by rw [hU]; exact (Below.refl _ _).alloc (Nat.le_refl _) _
  have HKX : Hid (Blk U w1.heap.size 43 [.int .i64 kd, .int .i64 fr, .int .i64 tt, .int .i64 br, .int .i64 bn, .int .i64 sl, .bool np, .string tk, .string ct, .int .i64 ep, .slice a XN c, .slice va VN vc, .slice sa SN sc, .slice ea EN ec, .int .i64 ti]) := by rw [hU]; exact Blk.new w1 _ _
  have HKS2 : Hid (Blk U rs 43 [.int .i64 0, .int .i64 0, .int .i64 0, .int .i64 0, .int .i64 0, .int .i64 0, .bool false, .string ⟨#[]⟩, .string ⟨#[]⟩, .int .i64 0, .slice none 0 0, .slice none 0 0, .slice none 0 0, .slice none 0 0, .int .i64 0]) := by
    have h1 := HKR.out.below hb1 HKR.out.lt
    exact h1.below hbU h1.lt
  have HBX : Hid (Below w.heap.size w U) := (HB.out.trans (hb1.mono HB.out.size)).trans (hbU.mono (HB.out.trans (hb1.mono HB.out.size)).size)
  have HMN : Hid (MsNew w U ⟨kd, fr, tt, (br, bn), sl, ⟨⟨np, tk, ct, ep, cut⟩, a, c⟩, va, vc, vs, sa, sc, seen, ea, ec, evs, ti⟩) := (hmn.below hbU).mono HB.out.size
  have HU := hid hU
  clear hU hbU hmn hb1 HKR HR
  rcases hor with ⟨rfl, hl, hn, hp⟩ | ⟨rfl, hno⟩
  · by_cases he : n = len
    · subst he
      have HOR : Hid (RmOr ⟨kd, fr, tt, (br, bn), sl, ⟨⟨np, tk, ct, ep, cut⟩, a, c⟩, va, vc, vs, sa, sc, seen, ea, ec, evs, ti⟩ 0 n bs) := .inl ⟨rfl, hl, by rw [hp, List.drop_of_length_le (by rw [HBS.out]; exact Nat.le_refl _)]⟩
      clear hl hn hp
      obtain ⟨W9, hW9⟩ : ∃ V, V = (((((((((((((((U.setCell ⟨rs, 0, none⟩ (.int .i64 kd)).setCell ⟨rs, 1, none⟩ (.int .i64 fr)).setCell ⟨rs, 2, none⟩ (.int .i64 tt)).setCell ⟨rs, 3, none⟩ (.int .i64 br)).setCell ⟨rs, 4, none⟩ (.int .i64 bn)).setCell ⟨rs, 5, none⟩ (.int .i64 sl)).setCell ⟨rs, 6, none⟩ (.bool np)).setCell ⟨rs, 7, none⟩ (.string tk)).setCell ⟨rs, 8, none⟩ (.string ct)).setCell ⟨rs, 9, none⟩ (.int .i64 ep)).setCell ⟨rs, 10, none⟩ (.slice a XN c)).setCell ⟨rs, 11, none⟩ (.slice va VN vc)).setCell ⟨rs, 12, none⟩ (.slice sa SN sc)).setCell ⟨rs, 13, none⟩ (.slice ea EN ec)).setCell ⟨rs, 14, none⟩ (.int .i64 ti)) := ⟨_, rfl⟩
      have hk9 : Blk W9 rs 43 [.int .i64 kd, .int .i64 fr, .int .i64 tt, .int .i64 br, .int .i64 bn, .int .i64 sl, .bool np, .string tk, .string ct, .int .i64 ep, .slice a XN c, .slice va VN vc, .slice sa SN sc, .slice ea EN ec, .int .i64 ti] := by rw [hW9]; exact (((((((((((((((HKS2.out.set 0 _).set 1 _).set 2 _).set 3 _).set 4 _).set 5 _).set 6 _).set 7 _).set 8 _).set 9 _).set 10 _).set 11 _).set 12 _).set 13 _).set 14 _)
      have hst : Turns (fun i => i = rs) U W9 := by rw [hW9]; exact ((((((((((((((((Turns.refl (fun i => i = rs) U).setCell (p := ⟨rs, 0, none⟩) (.inl rfl) _).setCell (p := ⟨rs, 1, none⟩) (.inl rfl) _).setCell (p := ⟨rs, 2, none⟩) (.inl rfl) _).setCell (p := ⟨rs, 3, none⟩) (.inl rfl) _).setCell (p := ⟨rs, 4, none⟩) (.inl rfl) _).setCell (p := ⟨rs, 5, none⟩) (.inl rfl) _).setCell (p := ⟨rs, 6, none⟩) (.inl rfl) _).setCell (p := ⟨rs, 7, none⟩) (.inl rfl) _).setCell (p := ⟨rs, 8, none⟩) (.inl rfl) _).setCell (p := ⟨rs, 9, none⟩) (.inl rfl) _).setCell (p := ⟨rs, 10, none⟩) (.inl rfl) _).setCell (p := ⟨rs, 11, none⟩) (.inl rfl) _).setCell (p := ⟨rs, 12, none⟩) (.inl rfl) _).setCell (p := ⟨rs, 13, none⟩) (.inl rfl) _).setCell (p := ⟨rs, 14, none⟩) (.inl rfl) _)
      have HMF : Hid (MsNew w W9 ⟨kd, fr, tt, (br, bn), sl, ⟨⟨np, tk, ct, ep, cut⟩, a, c⟩, va, vc, vs, sa, sc, seen, ea, ec, evs, ti⟩) := HMN.out.turned hst (apart_blk HKS2.out (by decide) (by decide) (by decide))
      have HBF : Hid (Below w.heap.size w W9) := HBX.out.trans (hst.below (fun i hh => by rw [hh, HRS.out]; exact Nat.le_refl _) HBX.out.size)
      have k0 := hk9.cell (i := 0) rfl
      have k1 := hk9.cell (i := 1) rfl
      have k2 := hk9.cell (i := 2) rfl
      have k3 := hk9.cell (i := 3) rfl
      have k4 := hk9.cell (i := 4) rfl
      have k5 := hk9.cell (i := 5) rfl
      have k6 := hk9.cell (i := 6) rfl
      have k7 := hk9.cell (i := 7) rfl
      have k8 := hk9.cell (i := 8) rfl
      have k9 := hk9.cell (i := 9) rfl
      have k10 := hk9.cell (i := 10) rfl
      have k11 := hk9.cell (i := 11) rfl
      have k12 := hk9.cell (i := 12) rfl
      have k13 := hk9.cell (i := 13) rfl
      have k14 := hk9.cell (i := 14) rfl
      clear hk9 hst
      have q0 := HKX.out.cell (i := 0) rfl
      have q1 := HKX.out.cell (i := 1) rfl
      have q2 := HKX.out.cell (i := 2) rfl
      have q3 := HKX.out.cell (i := 3) rfl
      have q4 := HKX.out.cell (i := 4) rfl
      have q5 := HKX.out.cell (i := 5) rfl
      have q6 := HKX.out.cell (i := 6) rfl
      have q7 := HKX.out.cell (i := 7) rfl
      have q8 := HKX.out.cell (i := 8) rfl
      have q9 := HKX.out.cell (i := 9) rfl
      have q10 := HKX.out.cell (i := 10) rfl
      have q11 := HKX.out.cell (i := 11) rfl
      have q12 := HKX.out.cell (i := 12) rfl
      have q13 := HKX.out.cell (i := 13) rfl
      have q14 := HKX.out.cell (i := 14) rfl
      have r0 := HKS2.out.cell (i := 0) rfl
      have r1 := HKS2.out.cell (i := 1) rfl
      have r2 := HKS2.out.cell (i := 2) rfl
      have r3 := HKS2.out.cell (i := 3) rfl
      have r4 := HKS2.out.cell (i := 4) rfl
      have r5 := HKS2.out.cell (i := 5) rfl
      have r6 := HKS2.out.cell (i := 6) rfl
      have r7 := HKS2.out.cell (i := 7) rfl
      have r8 := HKS2.out.cell (i := 8) rfl
      have r9 := HKS2.out.cell (i := 9) rfl
      have r10 := HKS2.out.cell (i := 10) rfl
      have r11 := HKS2.out.cell (i := 11) rfl
      have r12 := HKS2.out.cell (i := 12) rfl
      have r13 := HKS2.out.cell (i := 13) rfl
      have r14 := HKS2.out.cell (i := 14) rfl
      have f0 := HKS2.out.frozen 0
      have f1 := HKS2.out.frozen 1
      have f2 := HKS2.out.frozen 2
      have f3 := HKS2.out.frozen 3
      have f4 := HKS2.out.frozen 4
      have f5 := HKS2.out.frozen 5
      have f6 := HKS2.out.frozen 6
      have f7 := HKS2.out.frozen 7
      have f8 := HKS2.out.frozen 8
      have f9 := HKS2.out.frozen 9
      have f10 := HKS2.out.frozen 10
      have f11 := HKS2.out.frozen 11
      have f12 := HKS2.out.frozen 12
      have f13 := HKS2.out.frozen 13
      have f14 := HKS2.out.frozen 14
      rw [HU.out] at q0 r0 f0 q1 r1 f1 q2 r2 f2 q3 r3 f3 q4 r4 f4 q5 r5 f5 q6 r6 f6 q7 r7 f7 q8 r8 f8 q9 r9 f9 q10 r10 f10 q11 r11 f11 q12 r12 f12 q13 r13 f13 q14 r14 f14
      go_wp2
      rw [← HU.out, ← hW9]
      clear hW9 q0 r0 f0 q1 r1 f1 q2 r2 f2 q3 r3 f3 q4 r4 f4 q5 r5 f5 q6 r6 f6 q7 r7 f7 q8 r8 f8 q9 r9 f9 q10 r10 f10 q11 r11 f11 q12 r12 f12 q13 r13 f13 q14 r14 f14
      (try simp only [Exit.inBlock, Exit.then])
      refine bodyPost_ret (v := .tuple #[.agg #[.int .i64 kd, .int .i64 fr, .int .i64 tt, .int .i64 br, .int .i64 bn, .int .i64 sl, .bool np, .string tk, .string ct, .int .i64 ep, .slice a XN c, .slice va VN vc, .slice sa SN sc, .slice ea EN ec, .int .i64 ti], .int .i64 0]) ?_ rfl ⟨⟨kd, fr, tt, (br, bn), sl, ⟨⟨np, tk, ct, ep, cut⟩, a, c⟩, va, vc, vs, sa, sc, seen, ea, ec, evs, ti⟩, 0, by simp only [MsM.val]; rw [HXN.out, HVN.out, HSN.out, HEN.out], HMF.out, HOR.out, HBF.out⟩
      rw [results_cellR2 rfl]
      go_simp
    · have hne : ¬ (n : Int) = (len : Int) := by omega
      have HOR : Hid (RmOr ⟨0, 0, 0, (0, 0), 0, ⟨⟨false, ⟨#[]⟩, ⟨#[]⟩, 0, []⟩, none, 0⟩, none, 0, [], none, 0, [], none, 0, [], 0⟩ 10 len bs) := .inr ⟨rfl, rfl, fun ⟨_, y, hy⟩ => by
        rw [hp] at hy
        have h1 : bs.drop n = [] := by injection hy with hy; injection hy
        have h2 := List.length_drop (i := n) (l := bs)
        rw [h1, HBS.out] at h2
        simp at h2
        omega⟩
      clear hl hn hp
      obtain ⟨W9, hW9⟩ : ∃ V, V = (((((((((((((((U.setCell ⟨rs, 0, none⟩ (.int .i64 0)).setCell ⟨rs, 1, none⟩ (.int .i64 0)).setCell ⟨rs, 2, none⟩ (.int .i64 0)).setCell ⟨rs, 3, none⟩ (.int .i64 0)).setCell ⟨rs, 4, none⟩ (.int .i64 0)).setCell ⟨rs, 5, none⟩ (.int .i64 0)).setCell ⟨rs, 6, none⟩ (.bool false)).setCell ⟨rs, 7, none⟩ (.string ⟨#[]⟩)).setCell ⟨rs, 8, none⟩ (.string ⟨#[]⟩)).setCell ⟨rs, 9, none⟩ (.int .i64 0)).setCell ⟨rs, 10, none⟩ (.slice none 0 0)).setCell ⟨rs, 11, none⟩ (.slice none 0 0)).setCell ⟨rs, 12, none⟩ (.slice none 0 0)).setCell ⟨rs, 13, none⟩ (.slice none 0 0)).setCell ⟨rs, 14, none⟩ (.int .i64 0)) := ⟨_, rfl⟩
      have hk9 : Blk W9 rs 43 [.int .i64 0, .int .i64 0, .int .i64 0, .int .i64 0, .int .i64 0, .int .i64 0, .bool false, .string ⟨#[]⟩, .string ⟨#[]⟩, .int .i64 0, .slice none 0 0, .slice none 0 0, .slice none 0 0, .slice none 0 0, .int .i64 0] := by rw [hW9]; exact (((((((((((((((HKS2.out.set 0 _).set 1 _).set 2 _).set 3 _).set 4 _).set 5 _).set 6 _).set 7 _).set 8 _).set 9 _).set 10 _).set 11 _).set 12 _).set 13 _).set 14 _)
      have hst : Turns (fun i => i = rs) U W9 := by rw [hW9]; exact ((((((((((((((((Turns.refl (fun i => i = rs) U).setCell (p := ⟨rs, 0, none⟩) (.inl rfl) _).setCell (p := ⟨rs, 1, none⟩) (.inl rfl) _).setCell (p := ⟨rs, 2, none⟩) (.inl rfl) _).setCell (p := ⟨rs, 3, none⟩) (.inl rfl) _).setCell (p := ⟨rs, 4, none⟩) (.inl rfl) _).setCell (p := ⟨rs, 5, none⟩) (.inl rfl) _).setCell (p := ⟨rs, 6, none⟩) (.inl rfl) _).setCell (p := ⟨rs, 7, none⟩) (.inl rfl) _).setCell (p := ⟨rs, 8, none⟩) (.inl rfl) _).setCell (p := ⟨rs, 9, none⟩) (.inl rfl) _).setCell (p := ⟨rs, 10, none⟩) (.inl rfl) _).setCell (p := ⟨rs, 11, none⟩) (.inl rfl) _).setCell (p := ⟨rs, 12, none⟩) (.inl rfl) _).setCell (p := ⟨rs, 13, none⟩) (.inl rfl) _).setCell (p := ⟨rs, 14, none⟩) (.inl rfl) _)
      have HMF : Hid (MsNew w W9 ⟨0, 0, 0, (0, 0), 0, ⟨⟨false, ⟨#[]⟩, ⟨#[]⟩, 0, []⟩, none, 0⟩, none, 0, [], none, 0, [], none, 0, [], 0⟩) := msNew_zero w W9
      have HBF : Hid (Below w.heap.size w W9) := HBX.out.trans (hst.below (fun i hh => by rw [hh, HRS.out]; exact Nat.le_refl _) HBX.out.size)
      have k0 := hk9.cell (i := 0) rfl
      have k1 := hk9.cell (i := 1) rfl
      have k2 := hk9.cell (i := 2) rfl
      have k3 := hk9.cell (i := 3) rfl
      have k4 := hk9.cell (i := 4) rfl
      have k5 := hk9.cell (i := 5) rfl
      have k6 := hk9.cell (i := 6) rfl
      have k7 := hk9.cell (i := 7) rfl
      have k8 := hk9.cell (i := 8) rfl
      have k9 := hk9.cell (i := 9) rfl
      have k10 := hk9.cell (i := 10) rfl
      have k11 := hk9.cell (i := 11) rfl
      have k12 := hk9.cell (i := 12) rfl
      have k13 := hk9.cell (i := 13) rfl
      have k14 := hk9.cell (i := 14) rfl
      clear hk9 hst
      have q0 := HKX.out.cell (i := 0) rfl
      have q1 := HKX.out.cell (i := 1) rfl
      have q2 := HKX.out.cell (i := 2) rfl
      have q3 := HKX.out.cell (i := 3) rfl
      have q4 := HKX.out.cell (i := 4) rfl
      have q5 := HKX.out.cell (i := 5) rfl
      have q6 := HKX.out.cell (i := 6) rfl
      have q7 := HKX.out.cell (i := 7) rfl
      have q8 := HKX.out.cell (i := 8) rfl
      have q9 := HKX.out.cell (i := 9) rfl
      have q10 := HKX.out.cell (i := 10) rfl
      have q11 := HKX.out.cell (i := 11) rfl
      have q12 := HKX.out.cell (i := 12) rfl
      have q13 := HKX.out.cell (i := 13) rfl
      have q14 := HKX.out.cell (i := 14) rfl
      have r0 := HKS2.out.cell (i := 0) rfl
      have r1 := HKS2.out.cell (i := 1) rfl
      have r2 := HKS2.out.cell (i := 2) rfl
      have r3 := HKS2.out.cell (i := 3) rfl
      have r4 := HKS2.out.cell (i := 4) rfl
      have r5 := HKS2.out.cell (i := 5) rfl
      have r6 := HKS2.out.cell (i := 6) rfl
      have r7 := HKS2.out.cell (i := 7) rfl
      have r8 := HKS2.out.cell (i := 8) rfl
      have r9 := HKS2.out.cell (i := 9) rfl
      have r10 := HKS2.out.cell (i := 10) rfl
      have r11 := HKS2.out.cell (i := 11) rfl
      have r12 := HKS2.out.cell (i := 12) rfl
      have r13 := HKS2.out.cell (i := 13) rfl
      have r14 := HKS2.out.cell (i := 14) rfl
      have f0 := HKS2.out.frozen 0
      have f1 := HKS2.out.frozen 1
      have f2 := HKS2.out.frozen 2
      have f3 := HKS2.out.frozen 3
      have f4 := HKS2.out.frozen 4
      have f5 := HKS2.out.frozen 5
      have f6 := HKS2.out.frozen 6
      have f7 := HKS2.out.frozen 7
      have f8 := HKS2.out.frozen 8
      have f9 := HKS2.out.frozen 9
      have f10 := HKS2.out.frozen 10
      have f11 := HKS2.out.frozen 11
      have f12 := HKS2.out.frozen 12
      have f13 := HKS2.out.frozen 13
      have f14 := HKS2.out.frozen 14
      rw [HU.out] at q0 r0 f0 q1 r1 f1 q2 r2 f2 q3 r3 f3 q4 r4 f4 q5 r5 f5 q6 r6 f6 q7 r7 f7 q8 r8 f8 q9 r9 f9 q10 r10 f10 q11 r11 f11 q12 r12 f12 q13 r13 f13 q14 r14 f14
      go_wp2
      rw [← HU.out, ← hW9]
      clear hW9 q0 r0 f0 q1 r1 f1 q2 r2 f2 q3 r3 f3 q4 r4 f4 q5 r5 f5 q6 r6 f6 q7 r7 f7 q8 r8 f8 q9 r9 f9 q10 r10 f10 q11 r11 f11 q12 r12 f12 q13 r13 f13 q14 r14 f14
      (try simp only [Exit.inBlock, Exit.then])
      refine bodyPost_ret (v := .tuple #[.agg #[.int .i64 0, .int .i64 0, .int .i64 0, .int .i64 0, .int .i64 0, .int .i64 0, .bool false, .string ⟨#[]⟩, .string ⟨#[]⟩, .int .i64 0, .slice none 0 0, .slice none 0 0, .slice none 0 0, .slice none 0 0, .int .i64 0], .int .i64 10]) ?_ rfl ⟨⟨0, 0, 0, (0, 0), 0, ⟨⟨false, ⟨#[]⟩, ⟨#[]⟩, 0, []⟩, none, 0⟩, none, 0, [], none, 0, [], none, 0, [], 0⟩, 10, rfl, HMF.out, HOR.out, HBF.out⟩
      rw [results_cellR2 rfl]
      go_simp
  · have HOR : Hid (RmOr ⟨0, 0, 0, (0, 0), 0, ⟨⟨false, ⟨#[]⟩, ⟨#[]⟩, 0, []⟩, none, 0⟩, none, 0, [], none, 0, [], none, 0, [], 0⟩ 10 len bs) := .inr ⟨rfl, rfl, hno⟩
    clear hno
    obtain ⟨W9, hW9⟩ : ∃ V, V = (((((((((((((((U.setCell ⟨rs, 0, none⟩ (.int .i64 0)).setCell ⟨rs, 1, none⟩ (.int .i64 0)).setCell ⟨rs, 2, none⟩ (.int .i64 0)).setCell ⟨rs, 3, none⟩ (.int .i64 0)).setCell ⟨rs, 4, none⟩ (.int .i64 0)).setCell ⟨rs, 5, none⟩ (.int .i64 0)).setCell ⟨rs, 6, none⟩ (.bool false)).setCell ⟨rs, 7, none⟩ (.string ⟨#[]⟩)).setCell ⟨rs, 8, none⟩ (.string ⟨#[]⟩)).setCell ⟨rs, 9, none⟩ (.int .i64 0)).setCell ⟨rs, 10, none⟩ (.slice none 0 0)).setCell ⟨rs, 11, none⟩ (.slice none 0 0)).setCell ⟨rs, 12, none⟩ (.slice none 0 0)).setCell ⟨rs, 13, none⟩ (.slice none 0 0)).setCell ⟨rs, 14, none⟩ (.int .i64 0)) := ⟨_, rfl⟩
    have hk9 : Blk W9 rs 43 [.int .i64 0, .int .i64 0, .int .i64 0, .int .i64 0, .int .i64 0, .int .i64 0, .bool false, .string ⟨#[]⟩, .string ⟨#[]⟩, .int .i64 0, .slice none 0 0, .slice none 0 0, .slice none 0 0, .slice none 0 0, .int .i64 0] := by rw [hW9]; exact (((((((((((((((HKS2.out.set 0 _).set 1 _).set 2 _).set 3 _).set 4 _).set 5 _).set 6 _).set 7 _).set 8 _).set 9 _).set 10 _).set 11 _).set 12 _).set 13 _).set 14 _)
    have hst : Turns (fun i => i = rs) U W9 := by rw [hW9]; exact ((((((((((((((((Turns.refl (fun i => i = rs) U).setCell (p := ⟨rs, 0, none⟩) (.inl rfl) _).setCell (p := ⟨rs, 1, none⟩) (.inl rfl) _).setCell (p := ⟨rs, 2, none⟩) (.inl rfl) _).setCell (p := ⟨rs, 3, none⟩) (.inl rfl) _).setCell (p := ⟨rs, 4, none⟩) (.inl rfl) _).setCell (p := ⟨rs, 5, none⟩) (.inl rfl) _).setCell (p := ⟨rs, 6, none⟩) (.inl rfl) _).setCell (p := ⟨rs, 7, none⟩) (.inl rfl) _).setCell (p := ⟨rs, 8, none⟩) (.inl rfl) _).setCell (p := ⟨rs, 9, none⟩) (.inl rfl) _).setCell (p := ⟨rs, 10, none⟩) (.inl rfl) _).setCell (p := ⟨rs, 11, none⟩) (.inl rfl) _).setCell (p := ⟨rs, 12, none⟩) (.inl rfl) _).setCell (p := ⟨rs, 13, none⟩) (.inl rfl) _).setCell (p := ⟨rs, 14, none⟩) (.inl rfl) _)
    have HMF : Hid (MsNew w W9 ⟨0, 0, 0, (0, 0), 0, ⟨⟨false, ⟨#[]⟩, ⟨#[]⟩, 0, []⟩, none, 0⟩, none, 0, [], none, 0, [], none, 0, [], 0⟩) := msNew_zero w W9
    have HBF : Hid (Below w.heap.size w W9) := HBX.out.trans (hst.below (fun i hh => by rw [hh, HRS.out]; exact Nat.le_refl _) HBX.out.size)
    have k0 := hk9.cell (i := 0) rfl
    have k1 := hk9.cell (i := 1) rfl
    have k2 := hk9.cell (i := 2) rfl
    have k3 := hk9.cell (i := 3) rfl
    have k4 := hk9.cell (i := 4) rfl
    have k5 := hk9.cell (i := 5) rfl
    have k6 := hk9.cell (i := 6) rfl
    have k7 := hk9.cell (i := 7) rfl
    have k8 := hk9.cell (i := 8) rfl
    have k9 := hk9.cell (i := 9) rfl
    have k10 := hk9.cell (i := 10) rfl
    have k11 := hk9.cell (i := 11) rfl
    have k12 := hk9.cell (i := 12) rfl
    have k13 := hk9.cell (i := 13) rfl
    have k14 := hk9.cell (i := 14) rfl
    clear hk9 hst
    have q0 := HKX.out.cell (i := 0) rfl
    have q1 := HKX.out.cell (i := 1) rfl
    have q2 := HKX.out.cell (i := 2) rfl
    have q3 := HKX.out.cell (i := 3) rfl
    have q4 := HKX.out.cell (i := 4) rfl
    have q5 := HKX.out.cell (i := 5) rfl
    have q6 := HKX.out.cell (i := 6) rfl
    have q7 := HKX.out.cell (i := 7) rfl
    have q8 := HKX.out.cell (i := 8) rfl
    have q9 := HKX.out.cell (i := 9) rfl
    have q10 := HKX.out.cell (i := 10) rfl
    have q11 := HKX.out.cell (i := 11) rfl
    have q12 := HKX.out.cell (i := 12) rfl
    have q13 := HKX.out.cell (i := 13) rfl
    have q14 := HKX.out.cell (i := 14) rfl
    have r0 := HKS2.out.cell (i := 0) rfl
    have r1 := HKS2.out.cell (i := 1) rfl
    have r2 := HKS2.out.cell (i := 2) rfl
    have r3 := HKS2.out.cell (i := 3) rfl
    have r4 := HKS2.out.cell (i := 4) rfl
    have r5 := HKS2.out.cell (i := 5) rfl
    have r6 := HKS2.out.cell (i := 6) rfl
    have r7 := HKS2.out.cell (i := 7) rfl
    have r8 := HKS2.out.cell (i := 8) rfl
    have r9 := HKS2.out.cell (i := 9) rfl
    have r10 := HKS2.out.cell (i := 10) rfl
    have r11 := HKS2.out.cell (i := 11) rfl
    have r12 := HKS2.out.cell (i := 12) rfl
    have r13 := HKS2.out.cell (i := 13) rfl
    have r14 := HKS2.out.cell (i := 14) rfl
    have f0 := HKS2.out.frozen 0
    have f1 := HKS2.out.frozen 1
    have f2 := HKS2.out.frozen 2
    have f3 := HKS2.out.frozen 3
    have f4 := HKS2.out.frozen 4
    have f5 := HKS2.out.frozen 5
    have f6 := HKS2.out.frozen 6
    have f7 := HKS2.out.frozen 7
    have f8 := HKS2.out.frozen 8
    have f9 := HKS2.out.frozen 9
    have f10 := HKS2.out.frozen 10
    have f11 := HKS2.out.frozen 11
    have f12 := HKS2.out.frozen 12
    have f13 := HKS2.out.frozen 13
    have f14 := HKS2.out.frozen 14
    rw [HU.out] at q0 r0 f0 q1 r1 f1 q2 r2 f2 q3 r3 f3 q4 r4 f4 q5 r5 f5 q6 r6 f6 q7 r7 f7 q8 r8 f8 q9 r9 f9 q10 r10 f10 q11 r11 f11 q12 r12 f12 q13 r13 f13 q14 r14 f14
    go_wp2
    rw [← HU.out, ← hW9]
    clear hW9 q0 r0 f0 q1 r1 f1 q2 r2 f2 q3 r3 f3 q4 r4 f4 q5 r5 f5 q6 r6 f6 q7 r7 f7 q8 r8 f8 q9 r9 f9 q10 r10 f10 q11 r11 f11 q12 r12 f12 q13 r13 f13 q14 r14 f14
    (try simp only [Exit.inBlock, Exit.then])
    refine bodyPost_ret (v := .tuple #[.agg #[.int .i64 0, .int .i64 0, .int .i64 0, .int .i64 0, .int .i64 0, .int .i64 0, .bool false, .string ⟨#[]⟩, .string ⟨#[]⟩, .int .i64 0, .slice none 0 0, .slice none 0 0, .slice none 0 0, .slice none 0 0, .int .i64 0], .int .i64 10]) ?_ rfl ⟨⟨0, 0, 0, (0, 0), 0, ⟨⟨false, ⟨#[]⟩, ⟨#[]⟩, 0, []⟩, none, 0⟩, none, 0, [], none, 0, [], none, 0, [], 0⟩, 10, rfl, HMF.out, HOR.out, HBF.out⟩
    rw [results_cellR2 rfl]
    go_simp
end Go.Proofs.YtfmnbehopdmahaaGreat
