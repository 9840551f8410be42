/-
  Package codec: a reader's lists of events.
-/
import Derived.Test.YtmpkbdhihdboiaaRdP
namespace Go.Proofs.Ytmpkbdhihdboiaa
open Go.RowKit Go.Maps

theorem HeldEN.turned {F : Nat → Prop} {w w' : World} {ao : Option Addr} {ys : List EvM} (h : HeldEN w ao ys) (ht : Turns F w w') (hn : ∀ b cs, Blk w b 3 cs → ¬ F b) (hb : ∀ b off, ao = some ⟨b, off, none⟩ → ¬ F b) : HeldEN w' ao ys := by
  have hk : ∀ y ∈ ys, HN w' y.ao y.cap y.e.deps := fun y hy => hnK ht (h.num y hy) (fun b off e _ hF => by
    obtain ⟨cs, hc⟩ := (h.num y hy).num b off e
    exact hn b cs hc hF)
  refine ⟨⟨fun y hy => (h.held.1 y hy).at' (hk y hy), ?_⟩, hk⟩
  rcases h.held.2 with h0 | ⟨b, off, h1, h2, h3⟩
  · exact .inl h0
  · refine .inr ⟨b, off, h1, Nat.lt_of_lt_of_le h2 ht.size, fun j hj c u hu => ?_⟩
    have e : w'.cell? ⟨b, off + j * 8 + c, none⟩ = w.cell? ⟨b, off + j * 8 + c, none⟩ := by simp [World.cell?, ht.block b h2 (hb b off h1)]
    rw [e]
    exact h3 j hj c u hu
/-- A row of events, made behind a first world. -/
structure EvsAt (w : World) (most : Nat) (w' : World) (ao : Option Addr) (cap : Nat) (y : List EvM) : Prop where
  held : HeldEN w' ao y
  room : y.length ≤ cap
  few : y.length ≤ most
  new : ∀ b off, ao = some ⟨b, off, none⟩ → w.heap.size ≤ b ∧ ∃ cs, Blk w' b 36 cs
theorem evsAt_nil (w : World) (most : Nat) (w' : World) : EvsAt w most w' none 0 [] := ⟨heldEN_nil _, Nat.le_refl _, Nat.zero_le _, fun b off e => (by cases e)⟩
theorem EvsAt.mono {v w : World} {most : Nat} {w' : World} {ao : Option Addr} {cap : Nat} {y : List EvM} (h : EvsAt w most w' ao cap y) (hs : v.heap.size ≤ w.heap.size) : EvsAt v most w' ao cap y := ⟨h.held, h.room, h.few, fun b off e => ⟨Nat.le_trans hs (h.new b off e).1, (h.new b off e).2⟩⟩
/-- One block of another type is turned. -/
theorem EvsAt.other {w : World} {most : Nat} {w' w2 : World} {ao : Option Addr} {cap : Nat} {y : List EvM} {rb : Nat} {t : TypeId} {cs : List Value} (h : EvsAt w most w' ao cap y) (ht : Turns (fun i => i = rb) w' w2) (hk : Blk w' rb t cs) (h1 : t ≠ 3) (h2 : t ≠ 36) : EvsAt w most w2 ao cap y :=
  have hv : ∀ b off, ao = some ⟨b, off, none⟩ → b ≠ rb := fun b off e => by
    obtain ⟨_, cs', hc⟩ := h.new b off e
    exact blk_neR hc hk (Ne.symm h2)
  ⟨h.held.turned ht (fun b cs' hc => blk_neR hc hk (Ne.symm h1)) hv, h.room, h.few, fun b off e => ⟨(h.new b off e).1, by
    obtain ⟨_, cs', hc⟩ := h.new b off e
    exact ⟨cs', ht.blk hc (hv b off e)⟩⟩⟩
theorem EvsAt.turned {w : World} {most : Nat} {w' w2 : World} {ao : Option Addr} {cap : Nat} {y : List EvM} {rb : Nat} {cs : List Value} (h : EvsAt w most w' ao cap y) (ht : Turns (fun i => i = rb) w' w2) (hk : Blk w' rb 107 cs) : EvsAt w most w2 ao cap y := h.other ht hk (by decide) (by decide)
set_option maxRecDepth 1000000 in
theorem listEv1 (ao : Option Addr) (len cap : Nat) (bs : List Int) (w : World) (mb pb most : Nat) (hm : most ≤ 4096) (h : Held w ao len cap bs) (hkm : Blk w mb 3 [.int .i64 (most : Int)]) (hk : Blk w pb 75 [.func (.func 34) #[] #[]]) : Calls Try.prog 86 #[.slice ao len cap, .pointer (some ⟨mb, 0, none⟩), .pointer (some ⟨pb, 0, none⟩)] w (ListEv w len bs most) := by
  have HR := hid (readListEv ao len cap bs w pb most hm h hk)
  have c0 := hkm.cell (i := 0) rfl
  clear h hk hkm
  go_enter Try.func86, Try.ntmps86
  go_wp2_with fail
  refine HR.out.mono ?_
  rintro e w1 ⟨ao2, cap2, l, n, E, rfl, hA⟩
  have HA := hid hA
  clear hA HR
  go_wp2
  go_ret3
  exact ⟨ao2, cap2, l, n, E, rfl, HA.out⟩
set_option maxRecDepth 1000000 in
set_option maxHeartbeats 4000000 in
theorem RdAt.takeLEv {w : World} {rb : Nat} {ao : Option Addr} {len cap : Nat} {bs : List Int} {st : Option (List Int)} {mb pb : Nat} (h : RdAt w rb ao len cap bs st) (most : Nat) (p : Rdr (List Ev)) (hread : ∀ (at' : Nat) (co : Option Addr) (L C : Nat), Held w co L C (bs.drop at') → L = (bs.drop at').length → ∀ V, ScL w V → Calls Try.prog 86 #[.slice co L C, .pointer (some ⟨mb, 0, none⟩), .pointer (some ⟨pb, 0, none⟩)] V (fun e w' => ∃ (ao2 : Option Addr) (cap2 : Nat) (y : List EvM) (n : Nat) (E : Int), e = .returned (.tuple #[.slice ao2 y.length cap2, .int .i64 (n : Int), .int .i64 E]) ∧ Hid ((E = 0 ∧ n ≤ L ∧ p (bs.drop at') = some (y.map EvM.e, (bs.drop at').drop n)) ∨ (E = 10 ∧ p (bs.drop at') = none)) ∧ Hid (EvsAt w most w' ao2 cap2 y) ∧ ScL w w')) : Calls Try.prog 85 #[.pointer (some ⟨rb, 0, none⟩), .func (.func 86) #[] #[.pointer (some ⟨mb, 0, none⟩), .pointer (some ⟨pb, 0, none⟩)]] w fun e w' => (∃ (ao2 : Option Addr) (cap2 : Nat) (y : List EvM), e = .returned (.slice ao2 y.length cap2) ∧ Got st p (y.map EvM.e) ∧ EvsAt w most w' ao2 cap2 y) ∧ RdAt w' rb ao len cap bs (nxt st p) ∧ Turns (fun i => i = rb) w w' := by
  obtain ⟨at', er, hk, hat, hst⟩ := h.blk
  have HH := hid h
  have HK := hid hk
  have c0 := hk.cell (i := 0) rfl
  have c1 := hk.cell (i := 1) rfl
  have c2 := hk.cell (i := 2) rfl
  have f1 := hk.frozen 1
  have f2 := hk.frozen 2
  rcases hst with ⟨rfl, rfl⟩ | ⟨rfl, rfl⟩
  · have hcut : ∀ W, (Instr.slice 37 (.slice ao len cap) (some (.int .i64 (at' : Int))) none none).run Try.prog W = .ok (.slice (cutAt ao cap at') (len - at') (cap - at')) W := fun W => run_cut_l W 37 5 Try.underlying37 size1R ao len cap at' _ rfl hat
    obtain ⟨co, hco⟩ : ∃ q, q = cutAt ao cap at' := ⟨_, rfl⟩
    obtain ⟨L, hL⟩ : ∃ q, q = len - at' := ⟨_, rfl⟩
    obtain ⟨C, hC⟩ : ∃ q, q = cap - at' := ⟨_, rfl⟩
    have hhc : Held w co L C (bs.drop at') := by rw [hco, hL, hC]; exact h.held.cutl hat
    rw [← hco, ← hL, ← hC] at hcut
    have HRD := hid (hread at' co L C hhc (by rw [hL, List.length_drop, h.held.hlen]))
    have HSA : Hid (∀ V, ScL w V → (ScL w V ∧ V.cell? ⟨rb, 0, none⟩ = some (.slice ao len cap) ∧ V.cell? ⟨rb, 1, none⟩ = some (.int .i64 (at' : Int)))) := fun V hV => ⟨hV, (hV.out.cell (p := ⟨rb, 0, none⟩) HK.out.lt).trans c0, (hV.out.cell (p := ⟨rb, 1, none⟩) HK.out.lt).trans c1⟩
    have HLE0 : Hid (at' + L = len) := hid (by omega)
    have HMX : Hid (len ≤ 9223372036854775807) := by have h1 := h.held.hcap; have h2 := h.held.hmax; unfold maxLen at h2; exact hid (by omega)
    clear hread hhc hco hL hC h hk
    go_enter Try.func85, Try.ntmps85
    go_wp2
    go_region_held3 (fun V => ScL w V ∧ V.cell? ⟨rb, 0, none⟩ = some (.slice ao len cap) ∧ V.cell? ⟨rb, 1, none⟩ = some (.int .i64 (at' : Int)))
      (first | (refine HSA.out _ ?_; (repeat (first | with_reducible assumption | with_reducible exact ScL.start _ | with_reducible apply ScL.dr)); done))
      ((go_at_call 86; with_reducible refine (HRD.out _ (by (repeat (first | assumption | exact ScL.start _ | apply ScL.dr)))).mono ?_; rintro e w5 ⟨ao2, cap2, y, n, E, rfl, HOR, HVL, hs5⟩))
    all_goals
      rcases HOR.out with ⟨rfl, hn, hp⟩ | ⟨rfl, hp⟩
      · have HLE : Hid (at' + n ≤ len) := by have h1 := HLE0.out; exact hid (by omega)
        clear HOR hn
        have hk5 := HK.out.below hs5.out HK.out.lt
        have d1 := hk5.cell (i := 1) rfl
        have g1 := hk5.frozen 1
        have hsum : IntKind.i64.wrap ((at' : Int) + (n : Int)) = (at' : Int) + (n : Int) := by rw [IntKind.wrap_i64]; have h1 := HLE.out; have h2 := HMX.out; omega
        obtain ⟨W3, hW3⟩ : ∃ V, V = w5.setCell ⟨rb, 1, none⟩ (.int .i64 ((at' : Int) + (n : Int))) := ⟨_, rfl⟩
        have hT : Turns (fun i => i = rb) w5 W3 := by rw [hW3]; exact (Turns.refl (fun i => i = rb) w5).setCell (p := ⟨rb, 1, none⟩) (.inl rfl) _
        have HF : Hid (RdAt W3 rb ao len cap bs (nxt (some (bs.drop at')) p)) := by
          refine ⟨(HH.out.held.below hs5.out (Nat.le_refl _)).turned hT (held_off (HH.out.held.below hs5.out (Nat.le_refl _)) hk5), at' + n, 0, by rw [hW3]; exact hk5.set 1 _, by have h1 := HLE.out; omega, .inl ⟨?_, rfl⟩⟩
          unfold nxt
          rw [Option.bind_some, hp, ← List.drop_drop]
          rfl
        have HT : Hid (Turns (fun i => i = rb) w W3) := (Turns.of_below (F := fun i => i = rb) hs5.out (Nat.le_refl _)).trans hT (fun i hi => .inl hi)
        have HVF : Hid (EvsAt w most W3 ao2 cap2 y) := HVL.out.turned hT hk5
        have HP := hid hp
        clear hk5 hT hs5 hp
        go_wp2
        rw [← hW3]
        go_ret
        exact ⟨⟨ao2, cap2, y, rfl, (fun x r hx => by rw [Option.bind_some, HP.out] at hx; cases hx; rfl), HVF.out⟩, HF.out, HT.out⟩
      · clear HOR
        have hk5 := HK.out.below hs5.out HK.out.lt
        have d2 := hk5.cell (i := 2) rfl
        have g2 := hk5.frozen 2
        obtain ⟨W3, hW3⟩ : ∃ V, V = w5.setCell ⟨rb, 2, none⟩ (.int .i64 10) := ⟨_, rfl⟩
        have hT : Turns (fun i => i = rb) w5 W3 := by rw [hW3]; exact (Turns.refl (fun i => i = rb) w5).setCell (p := ⟨rb, 2, none⟩) (.inl rfl) _
        have HF : Hid (RdAt W3 rb ao len cap bs (nxt (some (bs.drop at')) p)) := by
          refine ⟨(HH.out.held.below hs5.out (Nat.le_refl _)).turned hT (held_off (HH.out.held.below hs5.out (Nat.le_refl _)) hk5), at', 10, by rw [hW3]; exact hk5.set 2 _, hat, .inr ⟨?_, rfl⟩⟩
          unfold nxt
          rw [Option.bind_some, hp]
          rfl
        have HT : Hid (Turns (fun i => i = rb) w W3) := (Turns.of_below (F := fun i => i = rb) hs5.out (Nat.le_refl _)).trans hT (fun i hi => .inl hi)
        have HVF : Hid (EvsAt w most W3 (none : Option Addr) 0 []) := evsAt_nil _ _ _
        have HP := hid hp
        clear hk5 hT hs5 hp
        go_wp2
        rw [← hW3]
        go_ret
        exact ⟨⟨(none : Option Addr), 0, [], rfl, (fun x r hx => by rw [Option.bind_some, HP.out] at hx; cases hx), HVF.out⟩, HF.out, HT.out⟩
  · clear hk h hread
    go_enter Try.func85, Try.ntmps85
    go_wp2
    go_ret
    exact ⟨⟨(none : Option Addr), 0, [], rfl, fun x r hx => (by cases hx), evsAt_nil _ _ _⟩, HH.out, Turns.refl _ _⟩
set_option maxRecDepth 1000000 in
set_option maxHeartbeats 1000000 in
/-- listOf of events. -/
theorem RdAt.listEv {w : World} {rb : Nat} {ao : Option Addr} {len cap : Nat} {bs : List Int} {st : Option (List Int)} (h : RdAt w rb ao len cap bs st) (most : Nat) (hm : most ≤ 4096) : Calls Try.prog 63 #[.pointer (some ⟨rb, 0, none⟩), .int .i64 (most : Int), .func (.func 34) #[] #[]] w fun e w' => (∃ (ao2 : Option Addr) (cap2 : Nat) (y : List EvM), e = .returned (.slice ao2 y.length cap2) ∧ Got st (pList most pEvent) (y.map EvM.e) ∧ EvsAt w most w' ao2 cap2 y) ∧ RdAt w' rb ao len cap bs (nxt st (pList most pEvent)) ∧ Turns (fun i => i = rb) w w' := by
  obtain ⟨W1, hW1⟩ : ∃ W, W = w.alloc (.cells #[.int .i64 (most : Int)] 3) := ⟨_, rfl⟩
  obtain ⟨W, hW⟩ : ∃ W, W = W1.alloc (.cells #[.func (.func 34) #[] #[]] 75) := ⟨_, rfl⟩
  have hs1 : W1.heap.size = w.heap.size + 1 := by rw [hW1]; simp
  have hb1 : Below w.heap.size w W1 := by rw [hW1]; exact (Below.refl _ _).alloc (Nat.le_refl _) _
  have hb : Below w.heap.size w W := by rw [hW]; exact hb1.alloc hb1.size _
  obtain ⟨mb, hmb⟩ : ∃ q, q = w.heap.size := ⟨_, rfl⟩
  obtain ⟨pb, hpb⟩ : ∃ q, q = w.heap.size + 1 := ⟨_, rfl⟩
  have HKM : Hid (Blk W mb 3 [.int .i64 (most : Int)]) := by rw [hmb, hW, hW1]; exact (Blk.new w _ _).alloc _
  have HKP : Hid (Blk W pb 75 [.func (.func 34) #[] #[]]) := by rw [hpb, hW, ← hs1]; exact Blk.new W1 _ _
  have HTK := hid ((h.below hb).takeLEv (mb := mb) (pb := pb) most (pList most pEvent) (fun at' co L C hc hL V hV => by
    refine (listEv1 co L C (bs.drop at') V mb pb most hm (hc.below hV.out (Nat.le_refl _)) (HKM.out.below hV.out HKM.out.lt) (HKP.out.below hV.out HKP.out.lt)).mono ?_
    rintro e w' ⟨ao2, cap2, l, n, E, he, hv, hc1, hc2, hab, hor, hb'⟩
    exact ⟨ao2, cap2, l, n, E, he, hor, ⟨hv, hc1, hc2, fun b off e => ⟨Nat.le_trans hV.out.size (hab b off e).1, (hab b off e).2⟩⟩, hV.go hb'⟩))
  have HW : Hid (W = (w.alloc (.cells #[.int .i64 (most : Int)] 3)).alloc (.cells #[.func (.func 34) #[] #[]] 75)) := by show _ = _; rw [hW, hW1]
  have HMB := hid hmb
  have HPB := hid hpb
  have HB := hid hb
  clear h hW hW1 hs1 hb1 hb hmb hpb
  go_enter Try.func63, Try.ntmps63
  go_wp2_with fail
  rw [← HW.out, ← HPB.out, ← HMB.out]
  refine HTK.out.mono ?_
  rintro e w1 ⟨⟨ao2, cap2, y, rfl, hg, hv⟩, hr, ht⟩
  have HA := hid (And.intro hg (hv.mono HB.out.size))
  have HR := hid hr
  have HT : Hid (Turns (fun i => i = rb) w w1) := (Turns.of_below (F := fun i => i = rb) HB.out (Nat.le_refl _)).trans ht (fun _ hi => .inl hi)
  clear hg hv hr ht HTK
  go_wp2
  go_ret
  exact ⟨⟨ao2, cap2, y, rfl, HA.out.1, HA.out.2⟩, HR.out, HT.out⟩
end Go.Proofs.Ytmpkbdhihdboiaa
