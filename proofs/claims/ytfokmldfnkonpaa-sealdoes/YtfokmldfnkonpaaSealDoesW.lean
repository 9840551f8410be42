/-
  pannierlaw19.SealDoes answers true for whatever entries, cart, token, Id.
-/
import Derived.Test.YtfokmldfnkonpaaBalOpen
import Derived.Test.YtfokmldfnkonpaaSdD
import Derived.Deep.RegionHeld3
namespace Go.Proofs.Ytfokmldfnkonpaa
open Go.RowKit Go.Maps

/-- Two machines, apart from one another. -/
def Does0 (W : World) (px p mi me : Nat) (v vx : Value) (g : Sm) (wr : World) : Prop := SmAt W.heap.size wr p mi me v g ∧ RfM W.heap.size wr px vx g ∧ (∀ i, FootM p mi me v i → ¬ FootN px vx i) ∧ Below W.heap.size W wr
/-- Between two rounds. -/
def Does1 (W : World) (px : Nat) (zs : List EnM) (k : Nat) (u : Value) (wr : World) : Prop := ∃ p mi me v vx, u = .pointer (some ⟨p, 0, none⟩) ∧ Does0 W px p mi me v vx (runS (ensTo zs k)) wr
theorem Does0.below {W wr w' : World} {px p mi me : Nat} {v vx : Value} {g : Sm} (h : Does0 W px p mi me v vx g wr) (hb : Below wr.heap.size wr w') : Does0 W px p mi me v vx g w' := ⟨h.1.below hb, h.2.1.below hb, h.2.2.1, bt' h.2.2.2 hb⟩
theorem apart_m {w : World} {px p mi me : Nat} {v v' vx : Value} (hd : ∀ i, FootM p mi me v i → ¬ FootN px vx i) (hl : ∀ i, FootN px vx i → i < w.heap.size) (hv : v'.ownBlock = v.ownBlock ∨ ∃ k, v'.ownBlock = some k ∧ w.heap.size ≤ k) : ∀ i, FootM p mi me v' i → ¬ FootN px vx i := by
  rintro i (e | e | e | e) hf
  · exact hd i (.inl e) hf
  · exact hd i (.inr (.inl e)) hf
  · exact hd i (.inr (.inr (.inl e))) hf
  · rcases hv with h1 | ⟨k, h1, h2⟩
    · rw [h1] at e
      exact hd i (.inr (.inr (.inr e))) hf
    · rw [h1] at e
      have e1 : k = i := by simpa using e
      have := hl i hf
      omega
theorem apart_n {w : World} {px p mi me : Nat} {v vx vx' : Value} (hd : ∀ i, FootM p mi me v i → ¬ FootN px vx i) (hl : ∀ i, FootM p mi me v i → i < w.heap.size) (hv : vx'.ownBlock = vx.ownBlock ∨ ∃ k, vx'.ownBlock = some k ∧ w.heap.size ≤ k) : ∀ i, FootM p mi me v i → ¬ FootN px vx' i := by
  rintro i hf (e | e)
  · exact hd i hf (.inl e)
  · rcases hv with h1 | ⟨k, h1, h2⟩
    · rw [h1] at e
      exact hd i hf (.inr e)
    · rw [h1] at e
      have e1 : k = i := by simpa using e
      have := hl i hf
      omega
theorem RfM.noN {B : Nat} {w : World} {p : Nat} {v : Value} {g : Sm} (h : RfM B w p v g) : NoN w (FootN p v) := by
  obtain ⟨xs, h1, h2, h3⟩ := h.row
  rintro i (rfl | hi)
  · exact noN_blk h.blk (by decide) _ rfl
  · exact noN_row h2 (by decide) _ hi
/-- The program's Do: what it leaves of both. -/
theorem does_m {W wr w3 : World} {px p mi me : Nat} {v v3 vx : Value} {g : Sm} (h : Does0 W px p mi me v vx g wr) (ht : Turns (FootM p mi me v) wr w3) (hv : v3.ownBlock = v.ownBlock ∨ ∃ k, v3.ownBlock = some k ∧ wr.heap.size ≤ k) : RfM W.heap.size w3 px vx g ∧ (∀ i, FootM p mi me v3 i → ¬ FootN px vx i) :=
  ⟨h.2.1.turned ht (fun i hi hf => h.2.2.1 i hf hi) (fun i hi => h.1.base i hi), apart_m h.2.2.1 h.2.1.lt hv⟩
/-- The document's Do: what it leaves of the program's machine. -/
theorem does_x {W w4 w5 : World} {px p mi me : Nat} {v vx vx' : Value} {g g' : Sm} (hs : SmAt W.heap.size w4 p mi me v g) (hr : RfM W.heap.size w4 px vx g') (hd : ∀ i, FootM p mi me v i → ¬ FootN px vx i) (ht : Turns (FootN px vx) w4 w5) (hv : vx'.ownBlock = vx.ownBlock ∨ ∃ k, vx'.ownBlock = some k ∧ w4.heap.size ≤ k) : SmAt W.heap.size w5 p mi me v g ∧ (∀ i, FootM p mi me v i → ¬ FootN px vx' i) :=
  ⟨hs.turned ht (fun i hi hf => hd i hi hf) hr.noN, apart_n hd hs.lt hv⟩
/-- A row of orders that tells os. -/
def RowsO (os : List Or) (V : World) (ro : Option Addr) : Prop := ∃ ys : List OrM, ys.map OrM.e = os ∧ HeldOr V ro ys ∧ ∀ x ∈ ys, OrOk V x
/-- A row of seals that tells those of os. -/
def RowsS (os : List Or) (V : World) (so : Option Addr) : Prop := ∃ ss : List SlM, ss.map SlM.e = os.map slO ∧ HeldSl V so ss
def enOther : En := ⟨false, ⟨#[111, 116, 104, 101, 114]⟩, ⟨#[111, 116, 104, 101, 114]⟩, 0, []⟩
set_option maxRecDepth 1000000 in
set_option maxHeartbeats 4000000 in
theorem sealDoes_walk (ao : Option Addr) (cap : Nat) (zs : List EnM) (cart tok : ByteArray) (id : Int) (w : World) (hz : HeldEn w ao zs) (hl : zs.length ≤ 1954687338268) (hc : cart.size ≤ maxLen) (ht : tok.size ≤ maxLen) (hid' : -9223372036854775808 ≤ id ∧ id ≤ 9223372036854775807) :
    Calls Try.prog 3 #[.slice ao zs.length cap, .string cart, .string tok, .int .i64 id] w fun e w' => e = .returned (.bool true) ∧ Below w.heap.size w w' := by
  have HZ := hid hz
  have HCA := hid hc
  have HTO := hid ht
  have HID : Hid (I64 id) := hid'
  obtain ⟨n, HN⟩ : ∃ n, Hid (zs.length = n) := ⟨_, hid rfl⟩
  rw [HN.out] at hl ⊢
  have HL := hid hl
  have HNEW := hid (newSm w)
  clear hz hl hc ht hid'
  go_enter Try.func3, Try.ntmps3
  go_wp2_with fail
  refine HNEW.out.mono ?_
  rintro e w1 ⟨p0, mi0, me0, rfl, hat, hb1⟩
  obtain ⟨W2, hW2⟩ : ∃ V, V = w1.alloc (.cells #[.slice none 0 0, .int .i64 0] 28) := ⟨_, rfl⟩
  have hb2 : Below w1.heap.size w1 W2 := by rw [hW2]; exact (Below.refl _ _).alloc (Nat.le_refl _) _
  obtain ⟨px, hpx⟩ : ∃ q, q = w1.heap.size := ⟨_, rfl⟩
  have HPX := hid hpx
  have HW2 := hid hW2
  have HD2 : Hid (Does0 w px p0 mi0 me0 (.slice none 0 0) (.slice none 0 0) noSm W2) := by
    refine ⟨hat.below hb2, ⟨noSm_ok, by rw [hW2, hpx]; exact Blk.new _ _ _, ⟨[], rfl, ⟨rfl, .inl ⟨rfl, rfl⟩⟩, fun x hx => (by cases hx)⟩, by rw [hpx]; exact hb1.size⟩, fun i hi hf => ?_, bt' hb1 hb2⟩
    have h1 := hat.lt i hi
    rcases hf with e | e
    · omega
    · simp [Value.ownBlock] at e
  have HLV := hid (livesSm W2)
  clear hat hb1 hb2 hW2 hpx HNEW
  go_wp2_with fail
  rw [← HW2.out, ← HPX.out]
  refine HLV.out.mono ?_
  rintro e w2 ⟨rfl, hb2⟩
  have HC1 : Hid (Does1 w px zs 0 (.pointer (some ⟨p0, 0, none⟩)) w2) := ⟨p0, mi0, me0, _, _, rfl, HD2.out.below hb2⟩
  clear hb2 HLV
  go_wp2
  go_loopw [9, 11, 12, 13, 14, 15, 16, 17, 18] (fun u i _ _ _ _ _ _ _ wr => ∃ k : Nat, k ≤ n ∧ i = .int .i64 k ∧ (∃ p, u = .pointer (some ⟨p, 0, none⟩)) ∧ Hid (Does1 w px zs k u wr)) (fun _ i _ _ _ _ _ _ _ _ => n - (intOf i).toNat)
  case atStart => exact ⟨0, Nat.zero_le _, rfl, ⟨p0, rfl⟩, HC1.out⟩
  case round =>
    obtain ⟨k, hk, rfl, ⟨p, hu⟩, HR⟩ := hrel
    subst hu
    obtain ⟨p', mi, me, v, vx, hpe, hdoes⟩ := HR.out
    have hpp : p' = p := by injection hpe with h1; injection h1 with h1; injection h1 with h1; exact h1.symm
    subst hpp
    have HD := hid hdoes
    clear hpe hdoes HR
    by_cases hlt : k < n
    · have hlt' : (k : Int) < (n : Int) := by omega
      have hkx : Hid (k < zs.length) := (by rw [HN.out]; exact hlt : k < zs.length)
      have HKM : Hid (k + 1 ≤ n) := (by omega : k + 1 ≤ n)
      have HOK := hid (HZ.out.okD hkx.out)
      obtain ⟨bb, off, hao, hbb, d0, d1, d2, d3, d4⟩ := (HZ.out.below HD.out.2.2.2).cellsD hkx.out
      subst hao
      have HDN : Hid ((runS (ensTo zs k)).dn ≤ 4611686018427387904) := dn_fits (Nat.le_of_lt hkx.out) HN.out HL.out
      have HDN2 : Hid ((runS (ensTo zs (k + 1))).dn ≤ 4611686018427387904) := dn_fits hkx.out HN.out HL.out
      have hw0 := wrapK hlt HL.out
      have HEN := hid (ensTo_snoc hkx.out)
      have HDO := hid (HD.out.1.doW HD.out.2.2.2 HDN.out (zs.getD k default) HOK.out)
      obtain ⟨X, hX⟩ : ∃ X, X = zs.getD k default := ⟨_, rfl⟩
      have HXD := hid hX
      rw [← hX] at d0 d1 d2 d3 d4 HDO HEN HOK
      clear hX hbb
      obtain ⟨⟨np, tk, ct, ep, dp⟩, ao1, cap1⟩ := X
      simp only at d0 d1 d2 d3 d4
      obtain ⟨XN, HXN⟩ : ∃ m, Hid (dp.length = m) := ⟨_, hid rfl⟩
      simp only [EnM.val] at HDO
      rw [HXN.out] at d4 HDO
      obtain ⟨G, HG⟩ : ∃ G, Hid (runS (ensTo zs k) = G) := ⟨_, hid rfl⟩
      have HG1 : Hid (runS (ensTo zs (k + 1)) = doS G ⟨np, tk, ct, ep, dp⟩) := by rw [HEN.out, runS_snoc, HG.out]; exact rfl
      rw [HG.out] at HD HDO HDN
      rw [HG1.out] at HDN2
      go_wp2_with fail
      refine HDO.out.mono ?_
      rintro e w3 ⟨oid, otk, oct, oep, bo, on, cp, v3, rfl, e0, e1, e2, e3, e4, hv3, hn3, hs3, ht3, hov3, hb3⟩
      have HMX := hid (does_m HD.out ht3 hov3)
      obtain ⟨odp, hodp⟩ : ∃ l, l = (doR G ⟨np, tk, ct, ep, dp⟩).cut := ⟨_, rfl⟩
      have HDR : Hid (doR G ⟨np, tk, ct, ep, dp⟩ = ⟨oid, otk, oct, oep, odp⟩) := by
        rw [e0, e1, e2, e3, hodp]
        exact rfl
      have HON : Hid (odp.length = on) := by rw [hodp, e4]; exact rfl
      have HV3 : Hid (HV w3 bo cp odp) := by rw [hodp]; exact hv3
      have HN3 := hid hn3
      have HS3 := hid hs3
      have HB3 := hid hb3
      obtain ⟨W4, hW4⟩ : ∃ V, V = w3.alloc (.cells #[.int .i64 oid, .string otk, .string oct, .int .i64 oep, .slice bo on cp] 32) := ⟨_, rfl⟩
      have hb34 : Below w3.heap.size w3 W4 := by rw [hW4]; exact (Below.refl _ _).alloc (Nat.le_refl _) _
      have HS4 := hid (hs3.below hb34)
      have HR4 := hid (HMX.out.1.below hb34)
      have HB4 := hid (bt' hb3 hb34)
      have HV4 := hid (HV3.out.below hb34)
      have HN4 : Hid (∀ b off, bo = some ⟨b, off, none⟩ → ∃ cs, Blk W4 b 3 cs) := fun b off e => by
        obtain ⟨_, cs, h2⟩ := hn3 b off e
        exact ⟨cs, h2.below hb34 h2.lt⟩
      have HK4 : Hid (Blk W4 w3.heap.size 32 [.int .i64 oid, .string otk, .string oct, .int .i64 oep, .slice bo on cp]) := by rw [hW4]; exact Blk.new _ _ _
      obtain ⟨qa, hqa⟩ : ∃ q, q = w3.heap.size := ⟨_, rfl⟩
      rw [← hqa] at HK4
      have HQA := hid hqa
      have HQF : Hid (¬ FootN px vx qa) := fun hf => by have h1 := HD.out.2.1.lt _ hf; have h2 := ht3.size; omega
      have HW4 := hid hW4
      have HDX := hid (HR4.out.do HB4.out.size HDN.out ⟨⟨np, tk, ct, ep, dp⟩, ao1, cap1⟩ (HOK.out.below HB4.out) (HOK.out.cutLt))
      simp only [EnM.val] at HDX
      rw [HXN.out] at HDX
      unfold DoL at HDX
      rw [HDR.out] at HDX
      obtain ⟨bb', off', he', _, f0, f1, f2, f3, f4⟩ := (HZ.out.below HB4.out).cellsD hkx.out
      cases he'
      rw [← HXD.out] at f0 f1 f2 f3 f4
      simp only at f0 f1 f2 f3 f4
      rw [HXN.out] at f4
      rw [hW4] at f0 f1 f2 f3 f4
      obtain ⟨made, HMD⟩ : ∃ b, Hid (decide (wayO G ⟨np, tk, ct, ep, dp⟩ = 5) = b) := ⟨_, hid rfl⟩
      obtain ⟨code, HCD⟩ : ∃ c, Hid (codeO (wayO G ⟨np, tk, ct, ep, dp⟩) = c) := ⟨_, hid rfl⟩
      simp only [OrM.val] at HDX
      rw [HMD.out, HCD.out, HON.out] at HDX
      rw [HMD.out, HCD.out]
      clear e0 e1 e2 e3 e4 hv3 hn3 hs3 ht3 hov3 hb3 hodp hb34 hW4 hqa d0 d1 d2 d3 d4 HDO
      go_wp2_with fail
      rw [← HW4.out, ← HQA.out]
      refine HDX.out.mono ?_
      rintro e w5 ⟨bo5, cp5, vx5, rfl, hv5, hl5, hr5, ht5, hox5⟩
      have HXM := hid (does_x HS4.out HR4.out HMX.out.2 ht5 hox5)
      have HB5 : Hid (Below w.heap.size w w5) := HB4.out.trans (ht5.below (fun i hi => HR4.out.base i hi) HB4.out.size)
      have HVA : Hid (HV w5 bo cp odp) := ⟨HV4.out.held.turned ht5 (fun b off e _ hf => by obtain ⟨cs, h2⟩ := HN4.out b off e; exact HR4.out.noN b hf cs h2), HV4.out.room, HV4.out.few⟩
      have HVB : Hid (HV w5 bo5 cp5 odp) := hv5
      have HKA := hid (ht5.blk HK4.out HQF.out)
      have HR5 := hid hr5
      obtain ⟨W6, hW6⟩ : ∃ V, V = w5.alloc (.cells #[.int .i64 oid, .string otk, .string oct, .int .i64 oep, .slice bo5 on cp5] 32) := ⟨_, rfl⟩
      have hb56 : Below w5.heap.size w5 W6 := by rw [hW6]; exact (Below.refl _ _).alloc (Nat.le_refl _) _
      have HS6 := hid (HXM.out.1.below hb56)
      have HR6 := hid (hr5.below hb56)
      have HB6 := hid (bt' HB5.out hb56)
      have HVA6 := hid (HVA.out.below hb56)
      have HVB6 := hid (HVB.out.below hb56)
      have HKA6 := hid (HKA.out.below hb56 HKA.out.lt)
      have HKB6 : Hid (Blk W6 w5.heap.size 32 [.int .i64 oid, .string otk, .string oct, .int .i64 oep, .slice bo5 on cp5]) := by rw [hW6]; exact Blk.new _ _ _
      obtain ⟨qb, hqb⟩ : ∃ q, q = w5.heap.size := ⟨_, rfl⟩
      rw [← hqb] at HKB6
      have HQB := hid hqb
      have HW6 := hid hW6
      obtain ⟨DN, HDD⟩ : ∃ d, Hid ((doS G ⟨np, tk, ct, ep, dp⟩).dn = d) := ⟨_, hid rfl⟩
      have hq9 : (made != made) = false := by simp
      have hc9 : (code != code) = false := by simp
      have hd9 : ((DN : Int) != (DN : Int)) = false := by simp
      have HSM : Hid (∀ V, ScO W6 V → Calls Try.prog 12 #[.agg #[.int .i64 oid, .string otk, .string oct, .int .i64 oep, .slice bo on cp], .agg #[.int .i64 oid, .string otk, .string oct, .int .i64 oep, .slice bo5 on cp5]] V fun e w' => e = .returned (.bool true) ∧ ScO W6 w') := fun V hV =>
        (sameOrder_any V _ otk oct oep odp bo bo5 cp cp5 on HON.out (HVA6.out.below hV.out) (HVB6.out.below hV.out)).mono (fun e w' hh => ⟨hh.1, hV.go hh.2⟩)
      have HDE : Hid (∀ V, ScO W6 V → Calls Try.prog 13 #[.pointer (some ⟨p', 0, none⟩)] V fun e w' => e = .returned (.int .i64 DN) ∧ w' = V) := fun V hV => by
        have h1 := (HS6.out.below hV.out).done
        rw [HDD.out] at h1
        exact h1
      have HSA : Hid (∀ V, ScO W6 V → (ScO W6 V ∧ V.cell? ⟨qa, 0, none⟩ = some (.int .i64 oid) ∧ V.cell? ⟨qa, 1, none⟩ = some (.string otk) ∧ V.cell? ⟨qa, 2, none⟩ = some (.string oct) ∧ V.cell? ⟨qa, 3, none⟩ = some (.int .i64 oep) ∧ V.cell? ⟨qa, 4, none⟩ = some (.slice bo on cp) ∧ V.cell? ⟨qb, 0, none⟩ = some (.int .i64 oid) ∧ V.cell? ⟨qb, 1, none⟩ = some (.string otk) ∧ V.cell? ⟨qb, 2, none⟩ = some (.string oct) ∧ V.cell? ⟨qb, 3, none⟩ = some (.int .i64 oep) ∧ V.cell? ⟨qb, 4, none⟩ = some (.slice bo5 on cp5) ∧ V.cell? ⟨px, 1, none⟩ = some (.int .i64 DN))) := fun V hV => by
        have h1 := HKA6.out.below hV.out HKA6.out.lt
        have h2 := HKB6.out.below hV.out HKB6.out.lt
        have h3 := (HR6.out.below hV.out).blk.cell (i := 1) rfl
        rw [HDD.out] at h3
        exact ⟨hV, h1.cell rfl, h1.cell rfl, h1.cell rfl, h1.cell rfl, h1.cell rfl, h2.cell rfl, h2.cell rfl, h2.cell rfl, h2.cell rfl, h2.cell rfl, h3⟩
      clear hv5 hl5 hr5 ht5 hox5 hb56 hW6 hqb f0 f1 f2 f3 f4 HDX
      go_wp2
      rw [← HW6.out, ← HQB.out]
      apply wp_share0 (S := fun V => ScO W6 V)
      · go_region_held3 (fun V => ScO W6 V ∧ V.cell? ⟨qa, 0, none⟩ = some (.int .i64 oid) ∧ V.cell? ⟨qa, 1, none⟩ = some (.string otk) ∧ V.cell? ⟨qa, 2, none⟩ = some (.string oct) ∧ V.cell? ⟨qa, 3, none⟩ = some (.int .i64 oep) ∧ V.cell? ⟨qa, 4, none⟩ = some (.slice bo on cp) ∧ V.cell? ⟨qb, 0, none⟩ = some (.int .i64 oid) ∧ V.cell? ⟨qb, 1, none⟩ = some (.string otk) ∧ V.cell? ⟨qb, 2, none⟩ = some (.string oct) ∧ V.cell? ⟨qb, 3, none⟩ = some (.int .i64 oep) ∧ V.cell? ⟨qb, 4, none⟩ = some (.slice bo5 on cp5) ∧ V.cell? ⟨px, 1, none⟩ = some (.int .i64 DN))
          ((refine HSA.out _ ?_; (repeat (first | with_reducible assumption | exact ScO.start _ | apply ScO.dr))))
          (first
            | (go_at_call 12; with_reducible refine (HSM.out _ (by (repeat (first | with_reducible assumption | exact ScO.start _ | apply ScO.dr)))).mono ?_; rintro e x5 ⟨rfl, hs5⟩)
            | (go_at_call 13; with_reducible refine (HDE.out _ (by (repeat (first | with_reducible assumption | exact ScO.start _ | apply ScO.dr)))).mono ?_; rintro e x6 ⟨rfl, rfl⟩))
        all_goals
          rename_i hHeld
          exact NoPanic.normal ⟨rfl, rfl, hHeld.1⟩
      rintro W7 hs7
      have HS7 := hid (HS6.out.below hs7.out)
      have HR7 := hid (HR6.out.below hs7.out)
      have HB7 := hid (bt' HB6.out hs7.out)
      clear hs7 HSM HDE HSA
      have HAP := hid HXM.out.2
      cases hk5 : ((k : Int) % 5 == 4) with
      | false =>
        have HF7 : Hid (Does1 w px zs (k + 1) (.pointer (some ⟨p', 0, none⟩)) W7) := ⟨p', mi, me, v3, vx5, rfl, by rw [HG1.out]; exact ⟨HS7.out, HR7.out, HAP.out, HB7.out⟩⟩
        go_wp2
        go_roundw
        case rel => exact ⟨k + 1, HKM.out, by go_num, ⟨p', rfl⟩, HF7.out⟩
        case measure => first | exact measW HKM.out hw0 | exact meas1 HKM.out
      | true =>
        have HFK := hid (HS7.out.fork HB7.out.size)
        have HON1 := hid (fun V => one_any V ⟨#[111, 116, 104, 101, 114]⟩ ⟨#[111, 116, 104, 101, 114]⟩ 0)
        go_wp2_with fail
        refine HFK.out.mono ?_
        rintro e w8 ⟨v8, mi8, me8, p8, rfl, hfk, hfb, hfn⟩
        have HF8 := hid hfk
        have HFB := hid hfb
        have HFN := hid hfn
        clear hfk hfb hfn HFK
        go_wp2_with fail
        refine (HON1.out _).mono ?_
        rintro e w9 ⟨rfl, hb9⟩
        have HB79 := hid (bt' HFB.out hb9)
        have HD9 : Hid (Does0 w px p' mi me v3 vx5 (doS G ⟨np, tk, ct, ep, dp⟩) w9) := ⟨HS7.out.below HB79.out, HR7.out.below HB79.out, HAP.out, bt' HB7.out HB79.out⟩
        have HF9 := hid (HF8.out.below hb9)
        have HDO9 := hid (HD9.out.1.do HD9.out.2.2.2.size HDN2.out ⟨enOther, none, 0⟩ (enOk_c w9 enOther rfl i64_zeroS (by decide) (by decide)) (fun b off e => by cases e))
        simp only [EnM.val, enOther, List.length_nil] at HDO9
        clear hb9 HON1
        go_wp2_with fail
        refine HDO9.out.mono ?_
        rintro e w10 ⟨bo10, cp10, v10, rfl, _, _, hs10, ht10, hov10⟩
        have HMX10 := hid (does_m HD9.out ht10 hov10)
        have HF10 : Hid (Does1 w px zs (k + 1) (.pointer (some ⟨p8, 0, none⟩)) w10) := by
          refine ⟨p8, mi8, me8, v8, vx5, rfl, ?_⟩
          rw [HG1.out]
          refine ⟨HF9.out.turned ht10 (fun i hi hf => ?_) HD9.out.1.noN, HMX10.out.1, fun i hi hf => ?_, HD9.out.2.2.2.trans (ht10.below (fun i hi => HD9.out.1.base i hi) HD9.out.2.2.2.size)⟩
          · have h1 := HFN.out i hi
            have h2 := HS7.out.lt i hf
            omega
          · have h1 := HFN.out i hi
            have h2 := HR7.out.lt i hf
            omega
        clear hs10 ht10 hov10 HDO9
        go_wp2
        go_roundw
        case rel => exact ⟨k + 1, HKM.out, by go_num, ⟨p8, rfl⟩, HF10.out⟩
        case measure => first | exact measW HKM.out hw0 | exact meas1 HKM.out
    · have hlt' : ¬ (k : Int) < (n : Int) := by omega
      obtain ⟨G, HG⟩ : ∃ G, Hid (runS (ensTo zs k) = G) := ⟨_, hid rfl⟩
      rw [HG.out] at HD
      obtain ⟨N, HNN⟩ : ∃ N, Hid (G.os.length = N) := ⟨_, hid rfl⟩
      have HFE : Hid (N ≤ 65536) := by rw [← HNN.out]; exact HD.out.1.ok.few
      obtain ⟨xs, xo, xc, hxv, _, hx1, hxh, hxl⟩ := HD.out.2.1.rowAt
      rw [HNN.out] at hxv
      subst hxv
      have HX1 := hid hx1
      have HXL : Hid (xs.length = N) := by rw [← HNN.out, ← hx1]; show _ = _; simp
      have HXH := hid hxh
      have HXW := hid hxl
      clear hx1 hxh hxl
      obtain ⟨FT, HFT⟩ : ∃ F, Hid (findO tok G.os = F) := ⟨_, hid rfl⟩
      obtain ⟨FG, HFG⟩ : ∃ F, Hid (getO G id = F) := ⟨_, hid rfl⟩
      obtain ⟨⟨tid, ttk, tct, tep, tdp⟩, HTV⟩ : ∃ Y, Hid (FT.getD zeroOr = Y) := ⟨_, hid rfl⟩
      obtain ⟨⟨gid, gtk, gct, gep, gdp⟩, HGV⟩ : ∃ Y, Hid (FG.getD zeroOr = Y) := ⟨_, hid rfl⟩
      obtain ⟨bt1, HBT⟩ : ∃ q, Hid (FT.isSome = q) := ⟨_, hid rfl⟩
      obtain ⟨bg1, HBG⟩ : ∃ q, Hid (FG.isSome = q) := ⟨_, hid rfl⟩
      obtain ⟨TN, HTN⟩ : ∃ m, Hid (tdp.length = m) := ⟨_, hid rfl⟩
      obtain ⟨GN, HGN⟩ : ∃ m, Hid (gdp.length = m) := ⟨_, hid rfl⟩
      have HC1 : Hid (∀ V, Below wr.heap.size wr V → Calls Try.prog 16 #[.pointer (some ⟨p', 0, none⟩), .string tok] V fun e w' => ∃ bo cp, e = .returned (.tuple #[.agg #[.int .i64 tid, .string ttk, .string tct, .int .i64 tep, .slice bo TN cp], .bool bt1]) ∧ Hid (HV w' bo cp tdp) ∧ Below V.heap.size V w') := fun V hV => by
        have h1 := (HD.out.1.below hV).token tok HTO.out
        rw [HFT.out] at h1
        refine h1.mono ?_
        rintro e w' ⟨bo, cp, rfl, h2, _, h4⟩
        rw [HTV.out] at h2
        refine ⟨bo, cp, ?_, h2, h4⟩
        rw [HTV.out, HBT.out]
        simp only [OrM.val]
        rw [HTN.out]
      have HC2 : Hid (∀ V, Below wr.heap.size wr V → Calls Try.prog 17 #[.pointer (some ⟨px, 0, none⟩), .string tok] V fun e w' => ∃ bo cp, e = .returned (.tuple #[.agg #[.int .i64 tid, .string ttk, .string tct, .int .i64 tep, .slice bo TN cp], .bool bt1]) ∧ Hid (HV w' bo cp tdp) ∧ Below V.heap.size V w') := fun V hV => by
        have h1 := (HD.out.2.1.below hV).token (Nat.le_trans HD.out.2.2.2.size hV.size) tok
        rw [HFT.out] at h1
        refine h1.mono ?_
        rintro e w' ⟨bo, cp, rfl, h2, _, h4⟩
        rw [HTV.out] at h2
        refine ⟨bo, cp, ?_, h2, h4⟩
        rw [HTV.out, HBT.out]
        simp only [OrM.val]
        rw [HTN.out]
      have HC3 : Hid (∀ V, Below wr.heap.size wr V → Calls Try.prog 18 #[.pointer (some ⟨p', 0, none⟩), .int .i64 id] V fun e w' => ∃ bo cp, e = .returned (.tuple #[.agg #[.int .i64 gid, .string gtk, .string gct, .int .i64 gep, .slice bo GN cp], .bool bg1]) ∧ Hid (HV w' bo cp gdp) ∧ Below V.heap.size V w') := fun V hV => by
        have h1 := (HD.out.1.below hV).get id HID.out
        rw [HFG.out] at h1
        refine h1.mono ?_
        rintro e w' ⟨bo, cp, rfl, h2, _, h4⟩
        rw [HGV.out] at h2
        refine ⟨bo, cp, ?_, h2, h4⟩
        rw [HGV.out, HBG.out]
        simp only [OrM.val]
        rw [HGN.out]
      have HC4 : Hid (∀ V, Below wr.heap.size wr V → Calls Try.prog 19 #[.pointer (some ⟨px, 0, none⟩), .int .i64 id] V fun e w' => ∃ bo cp, e = .returned (.tuple #[.agg #[.int .i64 gid, .string gtk, .string gct, .int .i64 gep, .slice bo GN cp], .bool bg1]) ∧ Hid (HV w' bo cp gdp) ∧ Below V.heap.size V w') := fun V hV => by
        have h1 := (HD.out.2.1.below hV).get (Nat.le_trans HD.out.2.2.2.size hV.size) id
        rw [HFG.out] at h1
        refine h1.mono ?_
        rintro e w' ⟨bo, cp, rfl, h2, _, h4⟩
        rw [HGV.out] at h2
        refine ⟨bo, cp, ?_, h2, h4⟩
        rw [HGV.out, HBG.out]
        simp only [OrM.val]
        rw [HGN.out]
      go_wp2_with fail
      refine (HC1.out _ (Below.refl _ _)).mono ?_
      rintro e y1 ⟨bo1, cp1, rfl, HV1, hb1⟩
      obtain ⟨W1, hW1⟩ : ∃ V, V = y1.alloc (.cells #[.int .i64 tid, .string ttk, .string tct, .int .i64 tep, .slice bo1 TN cp1] 32) := ⟨_, rfl⟩
      have hbx1 : Below y1.heap.size y1 W1 := by rw [hW1]; exact (Below.refl _ _).alloc (Nat.le_refl _) _
      have HS1 : Hid (Below wr.heap.size wr W1) := bt' hb1 hbx1
      have HA1 : Hid (Below wr.heap.size wr W1) := bt' (Below.refl _ _) HS1.out
      have HU1_1 := hid (HV1.out.below hbx1)
      have HK1_1 : Hid (Blk W1 y1.heap.size 32 [.int .i64 tid, .string ttk, .string tct, .int .i64 tep, .slice bo1 TN cp1]) := by rw [hW1]; exact Blk.new _ _ _
      obtain ⟨q1, hq1⟩ : ∃ q, q = y1.heap.size := ⟨_, rfl⟩
      rw [← hq1] at HK1_1
      have HQ1 := hid hq1
      have HW1 := hid hW1
      clear hb1 hbx1 hW1 hq1
      go_wp2_with fail
      rw [← HW1.out, ← HQ1.out]
      refine (HC2.out _ (HA1.out)).mono ?_
      rintro e y2 ⟨bo2, cp2, rfl, HV2, hb2⟩
      obtain ⟨W2, hW2⟩ : ∃ V, V = y2.alloc (.cells #[.int .i64 tid, .string ttk, .string tct, .int .i64 tep, .slice bo2 TN cp2] 32) := ⟨_, rfl⟩
      have hbx2 : Below y2.heap.size y2 W2 := by rw [hW2]; exact (Below.refl _ _).alloc (Nat.le_refl _) _
      have HS2 : Hid (Below W1.heap.size W1 W2) := bt' hb2 hbx2
      have HA2 : Hid (Below wr.heap.size wr W2) := bt' (HA1.out) HS2.out
      have HU2_2 := hid (HV2.out.below hbx2)
      have HK2_2 : Hid (Blk W2 y2.heap.size 32 [.int .i64 tid, .string ttk, .string tct, .int .i64 tep, .slice bo2 TN cp2]) := by rw [hW2]; exact Blk.new _ _ _
      obtain ⟨q2, hq2⟩ : ∃ q, q = y2.heap.size := ⟨_, rfl⟩
      rw [← hq2] at HK2_2
      have HQ2 := hid hq2
      have HW2 := hid hW2
      have HU1_2 := hid (HU1_1.out.below HS2.out)
      have HK1_2 := hid (HK1_1.out.below HS2.out HK1_1.out.lt)
      clear hb2 hbx2 hW2 hq2
      go_wp2_with fail
      rw [← HW2.out, ← HQ2.out]
      refine (HC3.out _ (HA2.out)).mono ?_
      rintro e y3 ⟨bo3, cp3, rfl, HV3, hb3⟩
      obtain ⟨W3, hW3⟩ : ∃ V, V = y3.alloc (.cells #[.int .i64 gid, .string gtk, .string gct, .int .i64 gep, .slice bo3 GN cp3] 32) := ⟨_, rfl⟩
      have hbx3 : Below y3.heap.size y3 W3 := by rw [hW3]; exact (Below.refl _ _).alloc (Nat.le_refl _) _
      have HS3 : Hid (Below W2.heap.size W2 W3) := bt' hb3 hbx3
      have HA3 : Hid (Below wr.heap.size wr W3) := bt' (HA2.out) HS3.out
      have HU3_3 := hid (HV3.out.below hbx3)
      have HK3_3 : Hid (Blk W3 y3.heap.size 32 [.int .i64 gid, .string gtk, .string gct, .int .i64 gep, .slice bo3 GN cp3]) := by rw [hW3]; exact Blk.new _ _ _
      obtain ⟨q3, hq3⟩ : ∃ q, q = y3.heap.size := ⟨_, rfl⟩
      rw [← hq3] at HK3_3
      have HQ3 := hid hq3
      have HW3 := hid hW3
      have HU1_3 := hid (HU1_2.out.below HS3.out)
      have HK1_3 := hid (HK1_2.out.below HS3.out HK1_2.out.lt)
      have HU2_3 := hid (HU2_2.out.below HS3.out)
      have HK2_3 := hid (HK2_2.out.below HS3.out HK2_2.out.lt)
      clear hb3 hbx3 hW3 hq3
      go_wp2_with fail
      rw [← HW3.out, ← HQ3.out]
      refine (HC4.out _ (HA3.out)).mono ?_
      rintro e y4 ⟨bo4, cp4, rfl, HV4, hb4⟩
      obtain ⟨W4, hW4⟩ : ∃ V, V = y4.alloc (.cells #[.int .i64 gid, .string gtk, .string gct, .int .i64 gep, .slice bo4 GN cp4] 32) := ⟨_, rfl⟩
      have hbx4 : Below y4.heap.size y4 W4 := by rw [hW4]; exact (Below.refl _ _).alloc (Nat.le_refl _) _
      have HS4 : Hid (Below W3.heap.size W3 W4) := bt' hb4 hbx4
      have HA4 : Hid (Below wr.heap.size wr W4) := bt' (HA3.out) HS4.out
      have HU4_4 := hid (HV4.out.below hbx4)
      have HK4_4 : Hid (Blk W4 y4.heap.size 32 [.int .i64 gid, .string gtk, .string gct, .int .i64 gep, .slice bo4 GN cp4]) := by rw [hW4]; exact Blk.new _ _ _
      obtain ⟨q4, hq4⟩ : ∃ q, q = y4.heap.size := ⟨_, rfl⟩
      rw [← hq4] at HK4_4
      have HQ4 := hid hq4
      have HW4 := hid hW4
      have HU1_4 := hid (HU1_3.out.below HS4.out)
      have HK1_4 := hid (HK1_3.out.below HS4.out HK1_3.out.lt)
      have HU2_4 := hid (HU2_3.out.below HS4.out)
      have HK2_4 := hid (HK2_3.out.below HS4.out HK2_3.out.lt)
      have HU3_4 := hid (HU3_3.out.below HS4.out)
      have HK3_4 := hid (HK3_3.out.below HS4.out HK3_3.out.lt)
      clear hb4 hbx4 hW4 hq4
      go_wp2
      rw [← HW4.out, ← HQ4.out]
      have hb21 : (bt1 == bt1) = true := by simp
      have hb22 : (bg1 == bg1) = true := by simp
      obtain ⟨cn, HCN⟩ : ∃ c, Hid (cntO cart G.os = c) := ⟨_, hid rfl⟩
      have hb23 : ((cn : Int) == (cn : Int)) = true := by simp
      have HM4 := hid (HD.out.below HA4.out)
      have HR1 : Hid (∀ V, ScO W4 V → Calls Try.prog 12 #[.agg #[.int .i64 tid, .string ttk, .string tct, .int .i64 tep, .slice bo1 TN cp1], .agg #[.int .i64 tid, .string ttk, .string tct, .int .i64 tep, .slice bo2 TN cp2]] V fun e w' => e = .returned (.bool true) ∧ ScO W4 w') := fun V hV =>
        (sameOrder_any V _ ttk tct tep tdp bo1 bo2 cp1 cp2 TN HTN.out (HU1_4.out.below hV.out) (HU2_4.out.below hV.out)).mono (fun e w' hh => ⟨hh.1, hV.go hh.2⟩)
      have HR2 : Hid (∀ V, ScO W4 V → Calls Try.prog 12 #[.agg #[.int .i64 gid, .string gtk, .string gct, .int .i64 gep, .slice bo3 GN cp3], .agg #[.int .i64 gid, .string gtk, .string gct, .int .i64 gep, .slice bo4 GN cp4]] V fun e w' => e = .returned (.bool true) ∧ ScO W4 w') := fun V hV =>
        (sameOrder_any V _ gtk gct gep gdp bo3 bo4 cp3 cp4 GN HGN.out (HU3_4.out.below hV.out) (HU4_4.out.below hV.out)).mono (fun e w' hh => ⟨hh.1, hV.go hh.2⟩)
      have HR3 : Hid (∀ V, ScO W4 V → Calls Try.prog 20 #[.pointer (some ⟨p', 0, none⟩), .string cart] V fun e w' => e = .returned (.int .i64 cn) ∧ w' = V) := fun V hV => by
        have h1 := (HM4.out.1.below hV.out).epoch cart HCA.out
        rw [HCN.out] at h1
        exact h1
      have HR4 : Hid (∀ V, ScO W4 V → Calls Try.prog 21 #[.pointer (some ⟨px, 0, none⟩), .string cart] V fun e w' => e = .returned (.int .i64 cn) ∧ w' = V) := fun V hV => by
        have h1 := (HM4.out.2.1.below hV.out).epoch cart
        rw [HCN.out] at h1
        exact h1
      have HR5 : Hid (∀ V, ScO W4 V → Calls Try.prog 23 #[.pointer (some ⟨p', 0, none⟩)] V fun e w' => ∃ ro rc, e = .returned (.slice ro N rc) ∧ Hid (RowsO G.os w' ro) ∧ ScO W4 w') := fun V hV => by
        refine ((HM4.out.1.below hV.out).orders).mono ?_
        rintro e w' ⟨ro, rc, ys, rfl, h1, h2, h3, h4⟩
        have hl : ys.length = G.os.length := by rw [← h1]; simp
        obtain ⟨ro', rc', he, _, hh⟩ := heldOr_of_own hl h2
        cases he
        rw [HNN.out]
        exact ⟨ro, rc, rfl, ⟨ys, h1, hh, fun x hx => (h3 x hx).ok⟩, hV.go h4⟩
      have HR6 : Hid (∀ V ro rc, ScO W4 V → Hid (RowsO G.os V ro) → Calls Try.prog 22 #[.slice ro N rc, .slice xo N xc] V fun e w' => e = .returned (.bool true) ∧ ScO W4 w') := fun V ro rc hV hR => by
        obtain ⟨ys, h1, h2, h3⟩ := hR.out
        have hVW : Below wr.heap.size wr V := bt' HA4.out hV.out
        refine (sameOrders_ok V ro xo rc xc N ys xs (by rw [← HNN.out, ← h1]; simp) (by rw [h1, HX1.out]) h2 (HXH.out.below hVW) h3 (fun x hx => (HXW.out x hx).ok.below hVW) HFE.out).mono (fun e w' hh => ⟨hh.1, hV.go hh.2⟩)
      have HR7 : Hid (∀ V, ScO W4 V → Calls Try.prog 25 #[.pointer (some ⟨p', 0, none⟩)] V fun e w' => ∃ so sc, e = .returned (.slice so N sc) ∧ Hid (RowsS G.os w' so) ∧ ScO W4 w') := fun V hV => by
        refine ((HM4.out.1.below hV.out).seals).mono ?_
        rintro e w' ⟨so, sc, ss, rfl, h1, h2, h4⟩
        rw [HNN.out]
        exact ⟨so, sc, rfl, ⟨ss, h1, h2⟩, hV.go h4⟩
      have HR8 : Hid (∀ V so, ScO W4 V → Hid (RowsS G.os V so) → Calls Try.prog 26 #[.pointer (some ⟨px, 0, none⟩)] V fun e w' => ∃ so2 sc2, e = .returned (.slice so2 N sc2) ∧ Hid (RowsS G.os w' so2) ∧ Hid (RowsS G.os w' so) ∧ ScO W4 w') := fun V so hV hR => by
        refine ((HM4.out.2.1.below hV.out).seals (Nat.le_trans HM4.out.2.2.2.size hV.out.size)).mono ?_
        rintro e w' ⟨so2, sc2, ss, rfl, h1, h2, h4⟩
        obtain ⟨ss0, g1, g2⟩ := hR.out
        rw [HNN.out]
        exact ⟨so2, sc2, rfl, ⟨ss, h1, h2⟩, ⟨ss0, g1, g2.below h4⟩, hV.go h4⟩
      have HR9 : Hid (∀ V so sc so2 sc2, ScO W4 V → Hid (RowsS G.os V so) → Hid (RowsS G.os V so2) → Calls Try.prog 24 #[.slice so N sc, .slice so2 N sc2] V fun e w' => e = .returned (.bool true) ∧ ScO W4 w') := fun V so sc so2 sc2 hV hR hR2 => by
        obtain ⟨s1, g1, g2⟩ := hR.out
        obtain ⟨s2, k1, k2⟩ := hR2.out
        have hl : s1.length = N := by have h1 := congrArg List.length g1; rw [← HNN.out]; simpa using h1
        refine (sameSeals_any V so so2 sc sc2 N s1 s2 hl (by rw [g1, k1]) g2 k2 HFE.out).mono (fun e w' hh => ⟨hh.1, hV.go hh.2⟩)
      have HSA : Hid (∀ V, ScO W4 V → (ScO W4 V ∧ V.cell? ⟨q1, 0, none⟩ = some (.int .i64 tid) ∧ V.cell? ⟨q1, 1, none⟩ = some (.string ttk) ∧ V.cell? ⟨q1, 2, none⟩ = some (.string tct) ∧ V.cell? ⟨q1, 3, none⟩ = some (.int .i64 tep) ∧ V.cell? ⟨q1, 4, none⟩ = some (.slice bo1 TN cp1) ∧ V.cell? ⟨q2, 0, none⟩ = some (.int .i64 tid) ∧ V.cell? ⟨q2, 1, none⟩ = some (.string ttk) ∧ V.cell? ⟨q2, 2, none⟩ = some (.string tct) ∧ V.cell? ⟨q2, 3, none⟩ = some (.int .i64 tep) ∧ V.cell? ⟨q2, 4, none⟩ = some (.slice bo2 TN cp2) ∧ V.cell? ⟨q3, 0, none⟩ = some (.int .i64 gid) ∧ V.cell? ⟨q3, 1, none⟩ = some (.string gtk) ∧ V.cell? ⟨q3, 2, none⟩ = some (.string gct) ∧ V.cell? ⟨q3, 3, none⟩ = some (.int .i64 gep) ∧ V.cell? ⟨q3, 4, none⟩ = some (.slice bo3 GN cp3) ∧ V.cell? ⟨q4, 0, none⟩ = some (.int .i64 gid) ∧ V.cell? ⟨q4, 1, none⟩ = some (.string gtk) ∧ V.cell? ⟨q4, 2, none⟩ = some (.string gct) ∧ V.cell? ⟨q4, 3, none⟩ = some (.int .i64 gep) ∧ V.cell? ⟨q4, 4, none⟩ = some (.slice bo4 GN cp4) ∧ V.cell? ⟨px, 0, none⟩ = some (.slice xo N xc))) := fun V hV => by
        have h1 := HK1_4.out.below hV.out HK1_4.out.lt
        have h2 := HK2_4.out.below hV.out HK2_4.out.lt
        have h3 := HK3_4.out.below hV.out HK3_4.out.lt
        have h4 := HK4_4.out.below hV.out HK4_4.out.lt
        have h5 := (HM4.out.2.1.below hV.out).blk.cell (i := 0) rfl
        exact ⟨hV, h1.cell rfl, h1.cell rfl, h1.cell rfl, h1.cell rfl, h1.cell rfl, h2.cell rfl, h2.cell rfl, h2.cell rfl, h2.cell rfl, h2.cell rfl, h3.cell rfl, h3.cell rfl, h3.cell rfl, h3.cell rfl, h3.cell rfl, h4.cell rfl, h4.cell rfl, h4.cell rfl, h4.cell rfl, h4.cell rfl, h5⟩
      have HBF : Hid (∀ V, ScO W4 V → Below w.heap.size w V) := fun V hV => bt' HM4.out.2.2.2 hV.out
      clear hb21 hb22 hb23
      have hb21 : (bt1 == bt1) = true := by simp
      have hb22 : (bg1 == bg1) = true := by simp
      have hb23 : ((cn : Int) == (cn : Int)) = true := by simp
      go_region_held3 (fun V => ScO W4 V ∧ V.cell? ⟨q1, 0, none⟩ = some (.int .i64 tid) ∧ V.cell? ⟨q1, 1, none⟩ = some (.string ttk) ∧ V.cell? ⟨q1, 2, none⟩ = some (.string tct) ∧ V.cell? ⟨q1, 3, none⟩ = some (.int .i64 tep) ∧ V.cell? ⟨q1, 4, none⟩ = some (.slice bo1 TN cp1) ∧ V.cell? ⟨q2, 0, none⟩ = some (.int .i64 tid) ∧ V.cell? ⟨q2, 1, none⟩ = some (.string ttk) ∧ V.cell? ⟨q2, 2, none⟩ = some (.string tct) ∧ V.cell? ⟨q2, 3, none⟩ = some (.int .i64 tep) ∧ V.cell? ⟨q2, 4, none⟩ = some (.slice bo2 TN cp2) ∧ V.cell? ⟨q3, 0, none⟩ = some (.int .i64 gid) ∧ V.cell? ⟨q3, 1, none⟩ = some (.string gtk) ∧ V.cell? ⟨q3, 2, none⟩ = some (.string gct) ∧ V.cell? ⟨q3, 3, none⟩ = some (.int .i64 gep) ∧ V.cell? ⟨q3, 4, none⟩ = some (.slice bo3 GN cp3) ∧ V.cell? ⟨q4, 0, none⟩ = some (.int .i64 gid) ∧ V.cell? ⟨q4, 1, none⟩ = some (.string gtk) ∧ V.cell? ⟨q4, 2, none⟩ = some (.string gct) ∧ V.cell? ⟨q4, 3, none⟩ = some (.int .i64 gep) ∧ V.cell? ⟨q4, 4, none⟩ = some (.slice bo4 GN cp4) ∧ V.cell? ⟨px, 0, none⟩ = some (.slice xo N xc))
          ((refine HSA.out _ ?_; (repeat (first | with_reducible assumption | exact ScO.start _ | apply ScO.dr))))
          (first
            | (go_at_call 12; with_reducible refine (HR1.out _ (by (repeat (first | with_reducible assumption | exact ScO.start _ | apply ScO.dr)))).mono ?_; rintro e x1 ⟨rfl, hs1⟩)
            | (go_at_call 12; with_reducible refine (HR2.out _ (by (repeat (first | with_reducible assumption | exact ScO.start _ | apply ScO.dr)))).mono ?_; rintro e x2 ⟨rfl, hs2⟩)
            | (go_at_call 20; with_reducible refine (HR3.out _ (by (repeat (first | with_reducible assumption | exact ScO.start _ | apply ScO.dr)))).mono ?_; rintro e x3 ⟨rfl, rfl⟩)
            | (go_at_call 21; with_reducible refine (HR4.out _ (by (repeat (first | with_reducible assumption | exact ScO.start _ | apply ScO.dr)))).mono ?_; rintro e x4 ⟨rfl, rfl⟩)
            | (go_at_call 23; with_reducible refine (HR5.out _ (by (repeat (first | with_reducible assumption | exact ScO.start _ | apply ScO.dr)))).mono ?_; rintro e x5 ⟨ro5, rc5, rfl, HRO, hs5⟩)
            | (go_at_call 22; with_reducible refine (HR6.out _ _ _ hs5 HRO).mono ?_; rintro e x6 ⟨rfl, hs6⟩)
            | (go_at_call 25; with_reducible refine (HR7.out _ hs6).mono ?_; rintro e x7 ⟨so7, sc7, rfl, HRS, hs7⟩)
            | (go_at_call 26; with_reducible refine (HR8.out _ _ hs7 HRS).mono ?_; rintro e x8 ⟨so8, sc8, rfl, HRS8, HRS7, hs8⟩)
            | (go_at_call 24; with_reducible refine (HR9.out _ _ _ _ _ hs8 HRS7 HRS8).mono ?_; rintro e x9 ⟨rfl, hs9⟩))
      all_goals
        go_wp2
        go_ret
        exact ⟨rfl, HBF.out _ hs9⟩
end Go.Proofs.Ytfokmldfnkonpaa
