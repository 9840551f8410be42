/-
  pannierref18.Choose: a slot that has an entry; no more room; a new one.
-/
import Derived.Test.YtgghfmdciohinaaOrdK
namespace Go.Proofs.Ytgghfmdciohinaa
open Go.RowKit Go.Maps

set_option maxRecDepth 1000000 in
set_option maxHeartbeats 2000000 in
theorem RlIn.choose_has {B : Nat} {w : World} {x : Nat} {g : Lr} {xs : List StM} {eo : Option Addr} {cap : Nat} (h : RlIn B w x g xs eo cap) (s : Int) (hs : I64 s) (y : EnM) (hy : EnOk w y) (hr : 0 ≤ s ∧ s ≤ 2147483647 ∧ RightEn y.e = true) {z : StM} (hf : findR xs s = some z) : Calls Try.prog 8 #[.pointer (some ⟨x, 0, none⟩), .int .i64 s, y.val] w (RChP B w x g eo s y.e) := by
  have HF := hid hf
  have HZO : Hid (EnOk w z.en) := (h.rl.ok z (by unfold findR at hf; exact List.mem_of_find?_eq_some hf)).en
  have HGF : Hid (g.f s = some z.en.e) := by
    have := h.twin.find h.gok s
    rw [hf] at this
    exact this.symm
  clear hf
  have H := hid h
  have HS64 := hid hs
  obtain ⟨W, hW⟩ : ∃ W, W = w.alloc (.cells y.cells.toArray 33) := ⟨_, rfl⟩
  have HB : Hid (Below w.heap.size w W) := by rw [hW]; exact (Below.refl _ _).alloc (Nat.le_refl _) _
  have HK : Hid (Blk W w.heap.size 33 y.cells) := by rw [hW]; exact Blk.new w _ _
  have HW := hid hW
  have HMAY := hid (rentry_anyQD W y (hy.below HB.out))
  have HY := hid hy
  obtain ⟨E, HE⟩ : ∃ E, Hid (y.e = E) := ⟨_, hid rfl⟩
  obtain ⟨XN, HXN⟩ : ∃ m, Hid (y.e.cut.length = m) := ⟨_, hid rfl⟩
  have HRE : Hid (RightEn E = true) := by rw [← HE.out]; exact hr.2.2
  rw [HE.out, HRE.out] at HMAY
  rw [HE.out]
  have h0 : ¬ s < 0 := by omega
  have h1 : ¬ 2147483647 < s := by omega
  have HSB : Hid (0 ≤ s ∧ s ≤ 2147483647) := ⟨hr.1, hr.2.1⟩
  obtain ⟨⟨np, tk, ct, ep, dp⟩, ao1, cap1⟩ := y
  simp only [EnM.val, EnM.cells] at HW HK HMAY HXN ⊢
  rw [HXN.out] at HW HK HMAY ⊢
  have c0 := HK.out.cell (i := 0) rfl
  have c1 := HK.out.cell (i := 1) rfl
  have c2 := HK.out.cell (i := 2) rfl
  have c3 := HK.out.cell (i := 3) rfl
  have c4 := HK.out.cell (i := 4) rfl
  obtain ⟨pb, hpb⟩ : ∃ q, q = w.heap.size := ⟨_, rfl⟩
  rw [← hpb] at c0 c1 c2 c3 c4
  have HPB := hid hpb
  have HPX : Hid (pb ≠ x) := by
    have := h.rl.blk.lt
    exact (by omega : pb ≠ x)
  clear hpb hW h hy hr hs
  go_enter Try.func8, Try.ntmps8
  go_wp2_with fail
  rw [← HW.out, ← HPB.out]
  refine HMAY.out.mono ?_
  rintro e w2 ⟨rfl, hb2⟩
  have HB2 := hid (bt' HB.out hb2)
  have HK2 := hid (HK.out.below hb2 HK.out.lt)
  have HGET := hid ((H.out.rl.below HB2.out).get s)
  clear hb2 c0 c1 c2 c3 c4
  rw [HF.out] at HGET
  go_wp2_with fail
  refine HGET.out.mono ?_
  rintro e w3 ⟨rfl, hb3⟩
  have HB3 := hid (bt' HB2.out hb3)
  have HK3 := hid (HK2.out.below hb3 HK2.out.lt)
  obtain ⟨slz, ze, zo, zc⟩ := z
  obtain ⟨zn, zt, zct, zep, zd⟩ := ze
  obtain ⟨ZN, HZN⟩ : ∃ m, Hid (zd.length = m) := ⟨_, hid rfl⟩
  simp only [EnM.val, Option.map_some, Option.getD_some, Option.isSome_some] at HZO HGF ⊢
  rw [HZN.out]
  obtain ⟨W4, hW4⟩ : ∃ V, V = w3.alloc (.cells #[.bool zn, .string zt, .string zct, .int .i64 zep, .slice zo ZN zc] 33) := ⟨_, rfl⟩
  have hb4 : Below w3.heap.size w3 W4 := by rw [hW4]; exact (Below.refl _ _).alloc (Nat.le_refl _) _
  have HB4 := hid (bt' HB3.out hb4)
  have hk4 := HK3.out.below hb4 HK3.out.lt
  have hz4 : Blk W4 w3.heap.size 33 [.bool zn, .string zt, .string zct, .int .i64 zep, .slice zo ZN zc] := by rw [hW4]; exact Blk.new _ _ _
  obtain ⟨qz, hqz⟩ : ∃ q, q = w3.heap.size := ⟨_, rfl⟩
  rw [← hqz] at hz4
  rw [← HPB.out] at hk4
  have HK4 := hid hk4
  have HZ4 := hid hz4
  have HQZ := hid hqz
  have HW4 := hid hW4
  have HSE := hid (fun V (hV : ScL W4 V) => (sameEntry_R V ⟨⟨zn, zt, zct, zep, zd⟩, zo, zc⟩ ⟨⟨np, tk, ct, ep, dp⟩, ao1, cap1⟩ (HZO.out.below (bt' HB4.out hV.out)) (HY.out.below (bt' HB4.out hV.out))).mono (fun e w' (hh : _ ∧ _) => And.intro hh.1 (hV.go hh.2)))
  simp only [EnM.val] at HSE
  rw [HZN.out, HXN.out] at HSE
  have HSA : Hid (∀ V, ScL W4 V → (ScL W4 V ∧ V.cell? ⟨pb, 0, none⟩ = some (.bool np) ∧ V.cell? ⟨pb, 1, none⟩ = some (.string tk) ∧ V.cell? ⟨pb, 2, none⟩ = some (.string ct) ∧ V.cell? ⟨pb, 3, none⟩ = some (.int .i64 ep) ∧ V.cell? ⟨pb, 4, none⟩ = some (.slice ao1 XN cap1) ∧ V.cell? ⟨qz, 0, none⟩ = some (.bool zn) ∧ V.cell? ⟨qz, 1, none⟩ = some (.string zt) ∧ V.cell? ⟨qz, 2, none⟩ = some (.string zct) ∧ V.cell? ⟨qz, 3, none⟩ = some (.int .i64 zep) ∧ V.cell? ⟨qz, 4, none⟩ = some (.slice zo ZN zc))) := fun V hV => by
    have h1 := HK4.out.below hV.out HK4.out.lt
    have h2 := HZ4.out.below hV.out HZ4.out.lt
    exact ⟨hV, h1.cell rfl, h1.cell rfl, h1.cell rfl, h1.cell rfl, h1.cell rfl, h2.cell rfl, h2.cell rfl, h2.cell rfl, h2.cell rfl, h2.cell rfl⟩
  have k0 := hk4.cell (i := 0) rfl
  have k1 := hk4.cell (i := 1) rfl
  have k2 := hk4.cell (i := 2) rfl
  have k3 := hk4.cell (i := 3) rfl
  have k4 := hk4.cell (i := 4) rfl
  have z0 := hz4.cell (i := 0) rfl
  have z1 := hz4.cell (i := 1) rfl
  have z2 := hz4.cell (i := 2) rfl
  have z3 := hz4.cell (i := 3) rfl
  have z4 := hz4.cell (i := 4) rfl
  clear hb3 hb4 hk4 hz4 hqz
  have HQ : Hid (chooseC g s E = if E = (⟨zn, zt, zct, zep, zd⟩ : En) then 5 else 180) := by show _ = _; unfold chooseC; rw [if_pos ⟨HSB.out.1, HSB.out.2, HRE.out⟩, HGF.out]
  have HST := hid (HSE.out W4 (ScL.start W4))
  rw [hW4] at k0 k1 k2 k3 k4 z0 z1 z2 z3 z4
  by_cases hee : (⟨zn, zt, zct, zep, zd⟩ : En) = ⟨np, tk, ct, ep, dp⟩
  · rw [decide_eq_true hee] at HST
    have HC : Hid (chooseC g s E = 5) := by rw [HQ.out, if_pos (by rw [← HE.out]; exact hee.symm)]; exact hid rfl
    clear hee hW4 HSE
    go_wp2_with fail
    rw [← HW4.out]
    refine HST.out.mono ?_
    rintro e w5 ⟨rfl, hs5⟩
    have HB5 := hid (bt' HB4.out hs5.out)
    clear hs5 k0 k1 k2 k3 k4 z0 z1 z2 z3 z4
    go_wp2
    go_ret
    exact rChP_no H.out HB5.out HC.out (by decide)
  · rw [decide_eq_false hee] at HST
    have HC : Hid (chooseC g s E = 180) := by rw [HQ.out, if_neg (by rw [← HE.out]; exact fun e => hee e.symm)]; exact hid rfl
    clear hee hW4 HSE
    go_wp2_with fail
    rw [← HW4.out]
    refine HST.out.mono ?_
    rintro e w5 ⟨rfl, hs5⟩
    have HB5 := hid (bt' HB4.out hs5.out)
    clear hs5 k0 k1 k2 k3 k4 z0 z1 z2 z3 z4
    go_wp2
    go_ret
    exact rChP_no H.out HB5.out HC.out (by decide)
theorem held_dropS6 {w : World} {b off cap : Nat} {xs : List StM} (h : HeldS6 w (some ⟨b, off, none⟩) xs) (k : Nat) (hc : xs.length ≤ cap) : HeldS6 w (if cap = k then some ⟨b, off, none⟩ else some ⟨b, off + k * 6, none⟩) (xs.drop k) := by
  split
  · exact .inl (List.drop_eq_nil_of_le (by omega))
  · exact h.drop k
theorem rl_cap {w : World} {B x : Nat} {xs : List StM} {eo : Option Addr} {cap : Nat} (h : RlAt w B x xs eo cap) : xs.length ≤ cap := by
  obtain ⟨_, _, he, hnc, _⟩ := own_formS6 h.row
  cases he
  exact hnc
theorem rl_addr {w : World} {B x : Nat} {xs : List StM} {ad : Addr} {cap : Nat} (h : RlAt w B x xs (some ad) cap) : ∃ b off, ad = ⟨b, off, none⟩ := by
  rcases h.row.2 with ⟨he, _⟩ | ⟨g, c, cur, he, _⟩
  · cases he
  · cases he
    exact ⟨_, _, rfl⟩
theorem rl_none {w : World} {B x : Nat} {xs : List StM} {cap : Nat} (h : RlAt w B x xs none cap) : xs.length = 0 := by
  rcases h.row.2 with ⟨_, h0⟩ | ⟨g, c, cur, he, _⟩
  · exact h0
  · cases he
theorem rl_none_cap {w : World} {B x : Nat} {xs : List StM} {cap : Nat} (h : RlAt w B x xs none cap) : cap = 0 := by
  rcases h.row.2 with ⟨he, _⟩ | ⟨g, c, cur, he, _⟩
  · injection he
  · cases he
/-- One slot more. -/
theorem rl_app {B : Nat} {W9 w5 W : World} {x : Nat} {g : Lr} {xs : List StM} {eo bo : Option Addr} {cap cp k r : Nat} {s : Int} {y : EnM} (h : RlIn B W9 x g xs eo cap) (hB : B ≤ W9.heap.size) (hs : I64 s) (hy : EnOk W9 y) (hyl : ∀ b off, y.ao = some ⟨b, off, none⟩ → y.e.cut ≠ [] → b < B) (hc : chooseC g s y.e = 0) (hk : k = aheadOf g.ks s) (hr : r = xs.length + 1) (hsc : ScL W9 w5) (hown : w5.ownsRow W9.heap.size 35 6 (.slice bo r cp) r (flatSt (insR xs k ⟨s, y⟩))) (hW : W = w5.setCell ⟨x, 0, none⟩ (.slice bo r cp)) :
    RlIn B W x (chooseL g s y.e) (insR xs k ⟨s, y⟩) bo cp ∧ Turns (fun i => i = x) W9 W ∧ (∃ a, bo = some a ∧ W9.heap.size ≤ a.block) := by
  subst hr hk
  obtain ⟨h1, h2, h3, h4, h5⟩ := chooseC_zero hc
  have hxlt : x < W9.heap.size := h.rl.blk.lt
  have t1 : Turns (fun i => i = x) w5 W := by rw [hW]; exact (Turns.refl (fun i => i = x) w5).setCell (p := ⟨x, 0, none⟩) (.inl rfl) _
  have t2 : Turns (fun i => i = x) W9 W := (Turns.of_below (F := fun i => i = x) hsc.out (Nat.le_refl _)).trans t1 (fun i hi => .inl hi)
  have hlen : (insR xs (aheadOf g.ks s) ⟨s, y⟩).length = xs.length + 1 := by
    unfold insR
    have := aheadOf_le g.ks s
    rw [← h.twin.len] at this
    simp
    omega
  have hmem : ∀ z ∈ insR xs (aheadOf g.ks s) ⟨s, y⟩, z ∈ xs ∨ z = ⟨s, y⟩ := fun z hz => by
    unfold insR at hz
    rcases List.mem_append.1 hz with h1 | h1
    · rcases List.mem_append.1 h1 with h2 | h2
      · exact .inl (List.mem_of_mem_take h2)
      · exact .inr (List.mem_singleton.1 h2)
    · exact .inl (List.mem_of_mem_drop h1)
  have hput : chooseL g s y.e = putL g s y.e := by unfold chooseL; rw [if_pos hc]
  refine ⟨⟨⟨?_, ?_, fun z hz => ?_, ?_⟩, ?_, fun z hz => ?_, h.bx, chooseL_ok h.gok s y.e⟩, t2, ?_⟩
  · rw [hlen, hW]
    exact (h.rl.blk.below hsc.out hxlt).set 0 _
  · rw [hlen]
    refine t1.row (ownsRow_base hown hB) (fun k hk e => ?_)
    have := (hown.lt k hk).1
    omega
  · rcases hmem z hz with h6 | h6
    · exact ⟨enOk_turned (h.rl.ok z h6).en t2 (fun b off e hne hf => by have := h.low z h6 b off e hne; have := h.bx; omega), (h.rl.ok z h6).is⟩
    · subst h6
      exact ⟨enOk_turned hy t2 (fun b off e hne hf => by have := hyl b off e hne; have := h.bx; omega), hs⟩
  · rw [hlen]
    have := h.twin.len
    omega
  · rw [hput]
    exact h.twin.put h.gok (x := ⟨s, y⟩) h4
  · rcases hmem z hz with h6 | h6
    · exact h.low z h6
    · subst h6; exact hyl
  · rcases hown.2 with ⟨_, h0⟩ | ⟨k, cap, cur, he, hk, _⟩
    · omega
    · cases he
      exact ⟨_, rfl, hk⟩
set_option maxRecDepth 1000000 in
set_option maxHeartbeats 4000000 in
theorem RlIn.choose_new {B : Nat} {w : World} {x : Nat} {g : Lr} {xs : List StM} {eo : Option Addr} {cap : Nat} (h : RlIn B w x g xs eo cap) (s : Int) (hs : I64 s) (y : EnM) (hy : EnOk w y) (hr : 0 ≤ s ∧ s ≤ 2147483647 ∧ RightEn y.e = true) (hyl : ∀ b off, y.ao = some ⟨b, off, none⟩ → y.e.cut ≠ [] → b < B) (hB : B ≤ w.heap.size) (hf : findR xs s = none) : Calls Try.prog 8 #[.pointer (some ⟨x, 0, none⟩), .int .i64 s, y.val] w (RChP B w x g eo s y.e) := by
  have HF := hid hf
  have HBW := hid hB
  have HYL := hid hyl
  have HGF : Hid (g.f s = none) := by
    have := h.twin.find h.gok s
    rw [hf] at this
    exact this.symm
  clear hf hB hyl
  have H := hid h
  have HS64 := hid hs
  obtain ⟨W, hW⟩ : ∃ W, W = w.alloc (.cells y.cells.toArray 33) := ⟨_, rfl⟩
  have HB : Hid (Below w.heap.size w W) := by rw [hW]; exact (Below.refl _ _).alloc (Nat.le_refl _) _
  have HK : Hid (Blk W w.heap.size 33 y.cells) := by rw [hW]; exact Blk.new w _ _
  have HW := hid hW
  have HMAY := hid (rentry_anyQD W y (hy.below HB.out))
  have HY := hid hy
  obtain ⟨E, HE⟩ : ∃ E, Hid (y.e = E) := ⟨_, hid rfl⟩
  obtain ⟨XN, HXN⟩ : ∃ m, Hid (y.e.cut.length = m) := ⟨_, hid rfl⟩
  have HRE : Hid (RightEn E = true) := by rw [← HE.out]; exact hr.2.2
  rw [HE.out, HRE.out] at HMAY
  rw [HE.out]
  have h0 : ¬ s < 0 := by omega
  have h1 : ¬ 2147483647 < s := by omega
  have HSB : Hid (0 ≤ s ∧ s ≤ 2147483647) := ⟨hr.1, hr.2.1⟩
  obtain ⟨⟨np, tk, ct, ep, dp⟩, ao1, cap1⟩ := y
  simp only [EnM.val, EnM.cells] at HW HK HMAY HXN ⊢
  rw [HXN.out] at HW HK HMAY ⊢
  have c0 := HK.out.cell (i := 0) rfl
  have c1 := HK.out.cell (i := 1) rfl
  have c2 := HK.out.cell (i := 2) rfl
  have c3 := HK.out.cell (i := 3) rfl
  have c4 := HK.out.cell (i := 4) rfl
  obtain ⟨pb, hpb⟩ : ∃ q, q = w.heap.size := ⟨_, rfl⟩
  rw [← hpb] at c0 c1 c2 c3 c4
  have HPB := hid hpb
  have HPX : Hid (pb ≠ x) := by
    have := h.rl.blk.lt
    exact (by omega : pb ≠ x)
  clear hpb hW h hy hr hs
  go_enter Try.func8, Try.ntmps8
  go_wp2_with fail
  rw [← HW.out, ← HPB.out]
  refine HMAY.out.mono ?_
  rintro e w2 ⟨rfl, hb2⟩
  have HB2 := hid (bt' HB.out hb2)
  have HK2 := hid (HK.out.below hb2 HK.out.lt)
  have HGET := hid ((H.out.rl.below HB2.out).get s)
  clear hb2 c0 c1 c2 c3 c4
  rw [HF.out] at HGET
  go_wp2_with fail
  refine HGET.out.mono ?_
  rintro e w3 ⟨rfl, hb3⟩
  have HB3 := hid (bt' HB2.out hb3)
  have HK3 := hid (HK2.out.below hb3 HK2.out.lt)
  simp only [Option.map_none, Option.getD_none, Option.isSome_none, noopM, EnM.val, noopEn, List.length_nil]
  obtain ⟨W4, hW4⟩ : ∃ V, V = w3.alloc (.cells #[.bool true, .string ⟨#[]⟩, .string ⟨#[]⟩, .int .i64 0, .slice none 0 0] 33) := ⟨_, rfl⟩
  have hb4 : Below w3.heap.size w3 W4 := by rw [hW4]; exact (Below.refl _ _).alloc (Nat.le_refl _) _
  have HB4 := hid (bt' HB3.out hb4)
  have hk4 := HK3.out.below hb4 HK3.out.lt
  rw [← HPB.out] at hk4
  have HK4 := hid hk4
  have HW4 := hid hW4
  have HX4 := hid (H.out.below HB4.out)
  obtain ⟨n, HN⟩ : ∃ n, Hid (xs.length = n) := ⟨_, hid rfl⟩
  have HNF : Hid (n ≤ 65536) := by rw [← HN.out]; exact H.out.rl.few
  have HGN : Hid (g.ks.length = n) := by rw [← HN.out]; exact H.out.twin.len.symm
  have a0 := HX4.out.rl.blk.cell (i := 0) rfl
  rw [HN.out] at a0
  rw [hW4] at a0
  clear hb3 hb4 hk4 hW4
  by_cases hfull : 65536 ≤ n
  · have hfull' : (65536 : Int) ≤ (n : Int) := by omega
    have HC : Hid (chooseC g s E = 2) := by show _ = _; unfold chooseC; rw [if_pos ⟨HSB.out.1, HSB.out.2, HRE.out⟩, HGF.out, HGN.out]; simp; omega
    clear hfull
    go_wp2
    rw [← HW4.out]
    go_ret
    exact rChP_no H.out HB4.out HC.out (by decide)
  have hfull' : decide ((65536 : Int) ≤ (n : Int)) = false := decide_eq_false (by omega)
  have HNL : Hid (n < 65536) := (by omega : n < 65536)
  have HC : Hid (chooseC g s E = 0) := by show _ = _; unfold chooseC; rw [if_pos ⟨HSB.out.1, HSB.out.2, HRE.out⟩, HGF.out, HGN.out, if_pos HNL.out]
  have HSC4 := hid (ScL.start W4)
  have HSA : Hid (∀ V, ScL W4 V → (ScL W4 V ∧ V.cell? ⟨x, 0, none⟩ = some (.slice eo n cap) ∧ V.cell? ⟨pb, 0, none⟩ = some (.bool np) ∧ V.cell? ⟨pb, 1, none⟩ = some (.string tk) ∧ V.cell? ⟨pb, 2, none⟩ = some (.string ct) ∧ V.cell? ⟨pb, 3, none⟩ = some (.int .i64 ep) ∧ V.cell? ⟨pb, 4, none⟩ = some (.slice ao1 XN cap1))) := fun V hV => by
    have h1 := HK4.out.below hV.out HK4.out.lt
    have h2 := (HX4.out.rl.blk.below hV.out HX4.out.rl.blk.lt).cell (i := 0) rfl
    rw [HN.out] at h2
    exact ⟨hV, h2, h1.cell rfl, h1.cell rfl, h1.cell rfl, h1.cell rfl, h1.cell rfl⟩
  obtain ⟨X, hX⟩ : ∃ X : StM, X = ⟨s, ⟨⟨np, tk, ct, ep, dp⟩, ao1, cap1⟩⟩ := ⟨_, rfl⟩
  have HXC : Hid (X.cells = [.int .i64 s, .bool np, .string tk, .string ct, .int .i64 ep, .slice ao1 XN cap1]) := by rw [hX]; simp only [StM.cells]; rw [HXN.out]; exact rfl
  have HXX := hid hX
  have HH3 : Hid (∀ V : World, HeldS6 (V.alloc (.cells #[.int .i64 s, .bool np, .string tk, .string ct, .int .i64 ep, .slice ao1 XN cap1] 35)) (some ⟨V.heap.size, 0, none⟩) [X]) := fun V => by
    have h1 := held_newS6 V X
    rw [HXC.out] at h1
    exact h1
  have HHX : Hid (∀ V, ScL W4 V → HeldS6 V eo xs) := fun V hV => HX4.out.rl.held.s6.below hV.out
  have HFIN : Hid (∀ w5 W bo cp k r, ScL W4 w5 → k = aheadOf g.ks s → r = n + 1 → w5.ownsRow W4.heap.size 35 6 (.slice bo r cp) r (flatSt (insR xs k X)) → W = w5.setCell ⟨x, 0, none⟩ (.slice bo r cp) → RChP B w x g eo s E (.returned (.int .i64 0)) W) := fun w5 W bo cp k r c1 c2 c3 c4 c5 => by
    rw [HXX.out] at c4
    have hcz : chooseC g s (⟨⟨np, tk, ct, ep, dp⟩, ao1, cap1⟩ : EnM).e = 0 := by rw [HE.out]; exact HC.out
    obtain ⟨h6, h7, a, h8, h9⟩ := rl_app HX4.out (Nat.le_trans HBW.out HB4.out.size) HS64.out (HY.out.below HB4.out) HYL.out hcz c2 (by rw [HN.out]; exact c3) c1 c4 c5
    rw [HE.out] at h6
    exact ⟨by rw [HC.out], _, bo, cp, h6, (Turns.of_below (F := fun i => i = x) HB4.out (Nat.le_refl _)).trans h7 (fun i hi => .inl hi), .inr ⟨a, h8, Nat.le_trans HB4.out.size h9⟩⟩
  have HHA : Hid (HeldS6 ((W4.alloc (.cells #[.int .i64 s, .bool np, .string tk, .string ct, .int .i64 ep, .slice ao1 XN cap1] 35)).alloc (.cells #[] 35)).drew (some ⟨W4.heap.size, 0, none⟩) [X]) := (HH3.out W4).below (((Below.refl _ (W4.alloc (.cells #[.int .i64 s, .bool np, .string tk, .string ct, .int .i64 ep, .slice ao1 XN cap1] 35))).alloc (Nat.le_refl _) (.cells #[] 35)).drew)
  have HHB : Hid (HeldS6 ((W4.alloc (.cells #[] 35)).alloc (.cells #[.int .i64 s, .bool np, .string tk, .string ct, .int .i64 ep, .slice ao1 XN cap1] 35)).drew (some ⟨W4.heap.size + 1, 0, none⟩) [X]) := by
    have h1 := HH3.out (W4.alloc (.cells #[] 35))
    rw [World.size_alloc] at h1
    exact h1.below (Below.refl _ _).drew
  have HKC : Hid (n ≤ cap) := by rw [← HN.out]; exact rl_cap H.out.rl
  clear hfull hX
  go_wp2
  rw [← HW4.out]
  have hx0 := (HSA.out W4 (ScL.start W4)).2.1
  clear a0
  go_loop [9] (fun i => ∃ k : Nat, k ≤ n ∧ i = .int .i64 k ∧ Hid (∀ j (hj : j < g.ks.length), j < k → g.ks[j] < s)) (fun i => n - (intOf i).toNat)
  case atStart => exact ⟨0, Nat.zero_le _, rfl, fun j _ h => (by omega)⟩
  case round =>
    obtain ⟨k, hk, rfl, HLO⟩ := hrel
    have hk0 : (0 : Int) ≤ (k : Int) := by omega
    have hkn : (k : Int) ≤ (n : Int) := by omega
    have hkc : (k : Int) ≤ (cap : Int) := by have := HKC.out; omega
    have hnc : (n : Int) ≤ (cap : Int) := by have := HKC.out; omega
    have HKN : Hid (k ≤ n) := hk
    by_cases hlt : k < n
    · have hlt' : decide ((k : Int) < (n : Int)) = true := decide_eq_true (by omega)
      have hltn : (k : Int) < (n : Int) := by omega
      have HKX : Hid (k < xs.length) := by rw [HN.out]; exact hlt
      have HKM : Hid (k + 1 ≤ n) := (by omega : k + 1 ≤ n)
      have HKG : Hid (k < g.ks.length) := by rw [HGN.out]; exact hlt
      have hwk : wrap64 ((k : Int) + 1) = (k : Int) + 1 := wrapS (by omega) (by have := HNF.out; omega)
      obtain ⟨b, off, hao, _, d0, _⟩ := HX4.out.rl.held.cellsD HKX.out
      obtain ⟨sl, HSL⟩ : ∃ z, Hid ((xs.getD k default).n = z) := ⟨_, hid rfl⟩
      rw [HSL.out] at d0
      have HGK : Hid (g.ks[k]'HKG.out = sl) := by
        have h1 : (xs.map (·.n))[k]? = g.ks[k]? := by rw [H.out.twin.ns]
        rw [List.getElem?_map, List.getElem?_eq_getElem HKX.out, List.getElem?_eq_getElem HKG.out] at h1
        rw [← HSL.out, st_getD HKX.out]
        show _ = _
        simpa using h1.symm
      by_cases hls : sl < s
      · have hls' : decide (sl < s) = true := decide_eq_true hls
        have HNX : Hid (∀ j (hj : j < g.ks.length), j < k + 1 → g.ks[j] < s) := fun j hj hjk => by
          by_cases e : j = k
          · subst e; rw [HGK.out]; exact hls
          · exact HLO.out j hj (by omega)
        subst hao
        clear hls hlt hk
        go_wp2
        go_round
        case rel => exact ⟨k + 1, HKM.out, by go_num, HNX.out⟩
        case measure => first | exact measWD HKM.out hwk | exact meas1D HKM.out
      · have hls' : decide (sl < s) = false := decide_eq_false hls
        have HKE : Hid (k = aheadOf g.ks s) := aheadOf_eq HLO.out (by have := HKG.out; omega) (.inr ⟨HKG.out, by rw [HGK.out]; exact hls⟩)
        subst hao
        clear hls hlt hk
        go_wp2
        refine wp_region_noPanic ?_
        refine wp_region_K 23 (fun V => ScL W4 V ∧ V.cell? ⟨x, 0, none⟩ = some (.slice (some ⟨b, off, none⟩) n cap) ∧ V.cell? ⟨pb, 0, none⟩ = some (.bool np) ∧ V.cell? ⟨pb, 1, none⟩ = some (.string tk) ∧ V.cell? ⟨pb, 2, none⟩ = some (.string ct) ∧ V.cell? ⟨pb, 3, none⟩ = some (.int .i64 ep) ∧ V.cell? ⟨pb, 4, none⟩ = some (.slice ao1 XN cap1)) (by kernel_rfl) (HSA.out _ (ScL.start W4).dr) (fun hHeld => ?_)
        have hs0 := (ScL.start W4).dr
        refine wpAnyK_take (i := 0) (oi := { dst := some 59, op := Go.Op.move (Go.Operand.tmp 0), type := 25, pos := "ref.go:61", after := #[], guard := none }) (v := ?vq1) [] rfl (by kernel_rfl) (by kernel_rfl) (by kernel_rfl) (by kernel_rfl) (by kernel_rfl) (fun _ _ _ h => h) (Or.inl ⟨by rfl, ?hyq1⟩) (by assumption) ?restq1
        case hyq1 => (intro w0 hSw; (try dsimp only at hSw); go_simp; try with_reducible rfl)
        simp only [Act.put, List.setIfInBounds_toArray, List.set_cons_zero, List.set_cons_succ]
        refine wpAnyK_take (i := 2) (oi := { dst := some 61, op := Go.Op.move (Go.Operand.tmp 0), type := 25, pos := "ref.go:61", after := #[], guard := none }) (v := ?vq2) [] rfl (by kernel_rfl) (by kernel_rfl) (by kernel_rfl) (by kernel_rfl) (by kernel_rfl) (fun _ _ _ h => h) (Or.inl ⟨by rfl, ?hyq2⟩) (by assumption) ?restq2
        case hyq2 => (intro w0 hSw; (try dsimp only at hSw); go_simp; try with_reducible rfl)
        simp only [Act.put, List.setIfInBounds_toArray, List.set_cons_zero, List.set_cons_succ]
        refine wpAnyK_take (i := 3) (oi := { dst := some 62, op := Go.Op.nilCheck (Go.Operand.tmp 61), type := 0, pos := "ref.go:61", after := #[{ on := 2, ground := Go.Ground.data }], guard := none }) (v := ?vq3) [] rfl (by kernel_rfl) (by kernel_rfl) (by kernel_rfl) (by kernel_rfl) (by kernel_rfl) (fun _ _ _ h => h) (Or.inl ⟨by rfl, ?hyq3⟩) (by assumption) ?restq3
        case hyq3 => (intro w0 hSw; (try dsimp only at hSw); go_simp; try with_reducible rfl)
        simp only [Act.put, List.setIfInBounds_toArray, List.set_cons_zero, List.set_cons_succ]
        refine wpAnyK_take (i := 4) (oi := { dst := some 63, op := Go.Op.fieldAddr 27 (Go.Operand.tmp 62) 0, type := 0, pos := "ref.go:61", after := #[{ on := 3, ground := Go.Ground.data }], guard := none }) (v := ?vq4) [] rfl (by kernel_rfl) (by kernel_rfl) (by kernel_rfl) (by kernel_rfl) (by kernel_rfl) (fun _ _ _ h => h) (Or.inl ⟨by rfl, ?hyq4⟩) (by assumption) ?restq4
        case hyq4 => (intro w0 hSw; (try dsimp only at hSw); go_simp; try with_reducible rfl)
        simp only [Act.put, List.setIfInBounds_toArray, List.set_cons_zero, List.set_cons_succ]
        refine wpAnyK_take (i := 5) (oi := { dst := some 64, op := Go.Op.load 22 (Go.Operand.tmp 63), type := 22, pos := "ref.go:61", after := #[{ on := 4, ground := Go.Ground.data }], guard := none }) (v := ?vq5) [] rfl (by kernel_rfl) (by kernel_rfl) (by kernel_rfl) (by kernel_rfl) (by kernel_rfl) (fun _ _ _ h => h) (Or.inl ⟨by rfl, ?hyq5⟩) (by assumption) ?restq5
        case hyq5 => (intro w0 hSw; (try dsimp only at hSw); go_simp; try with_reducible rfl)
        simp only [Act.put, List.setIfInBounds_toArray, List.set_cons_zero, List.set_cons_succ]
        refine wpAnyK_take (i := 6) (oi := { dst := some 65, op := Go.Op.move (Go.Operand.tmp 9), type := 3, pos := "ref.go:61", after := #[], guard := none }) (v := ?vq6) [] rfl (by kernel_rfl) (by kernel_rfl) (by kernel_rfl) (by kernel_rfl) (by kernel_rfl) (fun _ _ _ h => h) (Or.inl ⟨by rfl, ?hyq6⟩) (by assumption) ?restq6
        case hyq6 => (intro w0 hSw; (try dsimp only at hSw); go_simp; try with_reducible rfl)
        simp only [Act.put, List.setIfInBounds_toArray, List.set_cons_zero, List.set_cons_succ]
        refine wpAnyK_take (i := 7) (oi := { dst := some 66, op := Go.Op.slice 22 (Go.Operand.tmp 64) none (some (Go.Operand.tmp 65)) none, type := 22, pos := "ref.go:61", after := #[{ on := 5, ground := Go.Ground.data }, { on := 6, ground := Go.Ground.data }], guard := none }) (v := ?vq7) [] rfl (by kernel_rfl) (by kernel_rfl) (by kernel_rfl) (by kernel_rfl) (by kernel_rfl) (fun _ _ _ h => h) (Or.inl ⟨by rfl, ?hyq7⟩) (by assumption) ?restq7
        case hyq7 => (intro w0 hSw; (try dsimp only at hSw); go_simp; try with_reducible rfl)
        simp only [Act.put, List.setIfInBounds_toArray, List.set_cons_zero, List.set_cons_succ]
        refine wpAnyK_take (i := 9) (oi := { dst := some 68, op := Go.Op.move (Go.Operand.tmp 1), type := 3, pos := "ref.go:61", after := #[], guard := none }) (v := ?vq8) [] rfl (by kernel_rfl) (by kernel_rfl) (by kernel_rfl) (by kernel_rfl) (by kernel_rfl) (fun _ _ _ h => h) (Or.inl ⟨by rfl, ?hyq8⟩) (by assumption) ?restq8
        case hyq8 => (intro w0 hSw; (try dsimp only at hSw); go_simp; try with_reducible rfl)
        simp only [Act.put, List.setIfInBounds_toArray, List.set_cons_zero, List.set_cons_succ]
        refine wpAnyK_take (i := 10) (oi := { dst := some 69, op := Go.Op.load 33 (Go.Operand.tmp 5), type := 33, pos := "ref.go:61", after := #[], guard := none }) (v := ?vq9) [] rfl (by kernel_rfl) (by kernel_rfl) (by kernel_rfl) (by kernel_rfl) (by kernel_rfl) (fun _ _ _ h => h) (Or.inl ⟨by rfl, ?hyq9⟩) (by assumption) ?restq9
        case hyq9 => (intro w0 hSw; (try dsimp only at hSw); go_simp; try with_reducible rfl)
        simp only [Act.put, List.setIfInBounds_toArray, List.set_cons_zero, List.set_cons_succ]
        refine wpAnyK_take (i := 11) (oi := { dst := some 70, op := Go.Op.build 35 #[(0, Go.Operand.tmp 68), (1, Go.Operand.tmp 69)], type := 35, pos := "ref.go:61", after := #[{ on := 9, ground := Go.Ground.data }, { on := 10, ground := Go.Ground.data }], guard := none }) (v := ?vq10) [] rfl (by kernel_rfl) (by kernel_rfl) (by kernel_rfl) (by kernel_rfl) (by kernel_rfl) (fun _ _ _ h => h) (Or.inl ⟨by rfl, ?hyq10⟩) (by assumption) ?restq10
        case hyq10 => (intro w0 hSw; (try dsimp only at hSw); go_simp; try with_reducible rfl)
        simp only [Act.put, List.setIfInBounds_toArray, List.set_cons_zero, List.set_cons_succ]
        refine wpAnyK_take (i := 14) (oi := { dst := some 73, op := Go.Op.move (Go.Operand.tmp 0), type := 25, pos := "ref.go:61", after := #[], guard := none }) (v := ?vq11) [] rfl (by kernel_rfl) (by kernel_rfl) (by kernel_rfl) (by kernel_rfl) (by kernel_rfl) (fun _ _ _ h => h) (Or.inl ⟨by rfl, ?hyq11⟩) (by assumption) ?restq11
        case hyq11 => (intro w0 hSw; (try dsimp only at hSw); go_simp; try with_reducible rfl)
        simp only [Act.put, List.setIfInBounds_toArray, List.set_cons_zero, List.set_cons_succ]
        refine wpAnyK_take (i := 15) (oi := { dst := some 74, op := Go.Op.nilCheck (Go.Operand.tmp 73), type := 0, pos := "ref.go:61", after := #[{ on := 14, ground := Go.Ground.data }], guard := none }) (v := ?vq12) [] rfl (by kernel_rfl) (by kernel_rfl) (by kernel_rfl) (by kernel_rfl) (by kernel_rfl) (fun _ _ _ h => h) (Or.inl ⟨by rfl, ?hyq12⟩) (by assumption) ?restq12
        case hyq12 => (intro w0 hSw; (try dsimp only at hSw); go_simp; try with_reducible rfl)
        simp only [Act.put, List.setIfInBounds_toArray, List.set_cons_zero, List.set_cons_succ]
        refine wpAnyK_take (i := 16) (oi := { dst := some 75, op := Go.Op.fieldAddr 27 (Go.Operand.tmp 74) 0, type := 0, pos := "ref.go:61", after := #[{ on := 15, ground := Go.Ground.data }], guard := none }) (v := ?vq13) [] rfl (by kernel_rfl) (by kernel_rfl) (by kernel_rfl) (by kernel_rfl) (by kernel_rfl) (fun _ _ _ h => h) (Or.inl ⟨by rfl, ?hyq13⟩) (by assumption) ?restq13
        case hyq13 => (intro w0 hSw; (try dsimp only at hSw); go_simp; try with_reducible rfl)
        simp only [Act.put, List.setIfInBounds_toArray, List.set_cons_zero, List.set_cons_succ]
        refine wpAnyK_take (i := 17) (oi := { dst := some 76, op := Go.Op.load 22 (Go.Operand.tmp 75), type := 22, pos := "ref.go:61", after := #[{ on := 16, ground := Go.Ground.data }], guard := none }) (v := ?vq14) [] rfl (by kernel_rfl) (by kernel_rfl) (by kernel_rfl) (by kernel_rfl) (by kernel_rfl) (fun _ _ _ h => h) (Or.inl ⟨by rfl, ?hyq14⟩) (by assumption) ?restq14
        case hyq14 => (intro w0 hSw; (try dsimp only at hSw); go_simp; try with_reducible rfl)
        simp only [Act.put, List.setIfInBounds_toArray, List.set_cons_zero, List.set_cons_succ]
        refine wpAnyK_take (i := 18) (oi := { dst := some 77, op := Go.Op.move (Go.Operand.tmp 9), type := 3, pos := "ref.go:61", after := #[], guard := none }) (v := ?vq15) [] rfl (by kernel_rfl) (by kernel_rfl) (by kernel_rfl) (by kernel_rfl) (by kernel_rfl) (fun _ _ _ h => h) (Or.inl ⟨by rfl, ?hyq15⟩) (by assumption) ?restq15
        case hyq15 => (intro w0 hSw; (try dsimp only at hSw); go_simp; try with_reducible rfl)
        simp only [Act.put, List.setIfInBounds_toArray, List.set_cons_zero, List.set_cons_succ]
        refine wpAnyK_take (i := 19) (oi := { dst := some 78, op := Go.Op.slice 22 (Go.Operand.tmp 76) (some (Go.Operand.tmp 77)) none none, type := 22, pos := "ref.go:61", after := #[{ on := 17, ground := Go.Ground.data }, { on := 18, ground := Go.Ground.data }], guard := none }) (v := ?vq16) [] rfl (by kernel_rfl) (by kernel_rfl) (by kernel_rfl) (by kernel_rfl) (by kernel_rfl) (fun _ _ _ h => h) (Or.inl ⟨by rfl, ?hyq16⟩) (by assumption) ?restq16
        case hyq16 => (intro w0 hSw; (try dsimp only at hSw); go_simp; try with_reducible rfl)
        simp only [Act.put, List.setIfInBounds_toArray, List.set_cons_zero, List.set_cons_succ]
        refine wpAnyK_ready (rs := [1, 12]) (by kernel_rfl) (by simp) ?_
        refine AllReadyK.cons (o := { dst := some 60, op := Go.Op.buildSlice 22 0 #[], type := 22, pos := "ref.go:61", after := #[], guard := none }) rfl (fun K hK => ?_) (AllReadyK.cons (o := { dst := some 71, op := Go.Op.buildSlice 22 1 #[(0, Go.Operand.tmp 70)], type := 22, pos := "ref.go:61", after := #[{ on := 11, ground := Go.Ground.data }], guard := none }) rfl (fun K hK => ?_) AllReadyK.nil)
        · go_simp
          refine hK.out _ _ (.inr (HSA.out _ (by (repeat (first | assumption | exact ScL.start _ | apply ScL.dr | apply ScL.alloc))))) (fun hHeld => ?_)
          have hHeld := hHeld.resolve_right (by decide)
          clear hK K
          try simp only [Act.put, List.setIfInBounds_toArray, List.set_cons_zero, List.set_cons_succ]
          refine wpAnyK_ready (rs := [8, 12]) (by kernel_rfl) (by simp) ?_
          refine AllReadyK.cons (o := { dst := some 67, op := Go.Op.call { callee := Go.Callee.builtin Go.Builtin.append, args := #[Go.Operand.tmp 60, Go.Operand.tmp 66], argTypes := #[22, 22] }, type := 22, pos := "ref.go:61", after := #[{ on := 1, ground := Go.Ground.data }, { on := 7, ground := Go.Ground.data }], guard := none }) rfl (fun K hK => ?_) (AllReadyK.cons (o := { dst := some 71, op := Go.Op.buildSlice 22 1 #[(0, Go.Operand.tmp 70)], type := 22, pos := "ref.go:61", after := #[{ on := 11, ground := Go.Ground.data }], guard := none }) rfl (fun K hK => ?_) AllReadyK.nil)
          · refine step_copy_s6 rfl _ _ rfl W4.heap.size _ rfl ?ownz31 _ _ _ (xs.take k) ?hmz31 rfl ?hhz31 ?hsumz31 ?hbasez31 ?restz31
            case ownz31 => first | exact ownS6_made W4 _ (Nat.le_refl _) | exact (ownS6_made W4 _ (Nat.le_refl _)).alloc _ | exact ownS6_made2 W4 _ _ (Nat.le_refl _)
            case hmz31 => have := HN.out; have := HKN.out; rw [List.length_take]; omega
            case hhz31 => first | exact (HHX.out _ (by (repeat (first | assumption | exact ScL.start _ | apply ScL.dr | apply ScL.alloc)))).take k | exact (.inl (by have := HN.out; have := HKN.out; exact List.take_eq_nil_iff.2 (.inl (by omega))))
            case hsumz31 => have := HKN.out; have := HNL.out; omega
            case hbasez31 => exact ScL.size (by (repeat (first | assumption | exact ScL.start _ | apply ScL.dr | apply ScL.alloc)))
            intro b3 c3 w5 hown3 hb3 hg3
            have hsc3 : ScL W4 w5 := ScL.grown (by (repeat (first | assumption | exact ScL.start _ | apply ScL.dr | apply ScL.alloc))) hb3
            refine hK.out _ _ (.inr (HSA.out _ (by (repeat (first | assumption | exact ScL.start _ | apply ScL.dr | apply ScL.alloc))))) (fun hHeld => ?_)
            have hHeld := hHeld.resolve_right (by decide)
            clear hK K
            try simp only [Act.put, List.setIfInBounds_toArray, List.set_cons_zero, List.set_cons_succ]
            refine wpAnyK_ready (rs := [12]) (by kernel_rfl) (by simp) ?_
            refine AllReadyK.cons (o := { dst := some 71, op := Go.Op.buildSlice 22 1 #[(0, Go.Operand.tmp 70)], type := 22, pos := "ref.go:61", after := #[{ on := 11, ground := Go.Ground.data }], guard := none }) rfl (fun K hK => ?_) AllReadyK.nil
            go_simp
            refine hK.out _ _ (.inr (HSA.out _ (by (repeat (first | assumption | exact ScL.start _ | apply ScL.dr | apply ScL.alloc))))) (fun hHeld => ?_)
            have hHeld := hHeld.resolve_right (by decide)
            clear hK K
            try simp only [Act.put, List.setIfInBounds_toArray, List.set_cons_zero, List.set_cons_succ]
            refine wpAnyK_ready (rs := [13]) (by kernel_rfl) (by simp) ?_
            refine AllReadyK.cons (o := { dst := some 72, op := Go.Op.call { callee := Go.Callee.builtin Go.Builtin.append, args := #[Go.Operand.tmp 67, Go.Operand.tmp 71], argTypes := #[22, 22] }, type := 22, pos := "ref.go:61", after := #[{ on := 8, ground := Go.Ground.data }, { on := 12, ground := Go.Ground.data }, { on := 8, ground := Go.Ground.chain }], guard := none }) rfl (fun K hK => ?_) AllReadyK.nil
            refine step_append_s6 rfl _ _ rfl W4.heap.size _ _ (xs.take k) ?hnz22 rfl (hown3.alloc _) _ 1 1 [X] rfl rfl ?hhz22 ?hsumz22 ?hbasez22 ?restz22
            case hnz22 => have := HN.out; have := HKN.out; rw [List.length_take]; omega
            case hhz22 => exact HH3.out _
            case hsumz22 => have := HKN.out; have := HNL.out; omega
            case hbasez22 => exact ScL.size (by (repeat (first | assumption | exact ScL.start _ | apply ScL.dr | apply ScL.alloc)))
            intro b4 c4 w6 hown4 hb4 hg4
            have hsc4 : ScL W4 w6 := ScL.grown (by (repeat (first | assumption | exact ScL.start _ | apply ScL.dr | apply ScL.alloc))) hb4
            refine hK.out _ _ (.inr (HSA.out _ (by (repeat (first | assumption | exact ScL.start _ | apply ScL.dr | apply ScL.alloc))))) (fun hHeld => ?_)
            have hHeld := hHeld.resolve_right (by decide)
            clear hK K
            try simp only [Act.put, List.setIfInBounds_toArray, List.set_cons_zero, List.set_cons_succ]
            refine wpAnyK_ready (rs := [20]) (by kernel_rfl) (by simp) ?_
            refine AllReadyK.cons (o := { dst := some 79, op := Go.Op.call { callee := Go.Callee.builtin Go.Builtin.append, args := #[Go.Operand.tmp 72, Go.Operand.tmp 78], argTypes := #[22, 22] }, type := 22, pos := "ref.go:61", after := #[{ on := 13, ground := Go.Ground.data }, { on := 19, ground := Go.Ground.data }, { on := 13, ground := Go.Ground.chain }], guard := none }) rfl (fun K hK => ?_) AllReadyK.nil
            refine step_append_s6 rfl _ _ rfl W4.heap.size _ _ (xs.take k ++ [X]) ?hnz23 rfl hown4 _ _ _ (xs.drop k) ?hmz23 rfl ?hhz23 ?hsumz23 ?hbasez23 ?restz23
            case hnz23 => have := HN.out; have := HKN.out; rw [List.length_append, List.length_take, List.length_singleton]; omega
            case hmz23 => have := HN.out; have := HKN.out; rw [List.length_drop]; omega
            case hhz23 => first | exact (HHX.out _ (by (repeat (first | assumption | exact ScL.start _ | apply ScL.dr | apply ScL.alloc)))).drop k | exact held_dropS6 (HHX.out _ (by (repeat (first | assumption | exact ScL.start _ | apply ScL.dr | apply ScL.alloc)))) k (by have := HN.out; have := HKC.out; omega)
            case hsumz23 => have := HKN.out; have := HNL.out; omega
            case hbasez23 => exact ScL.size (by (repeat (first | assumption | exact ScL.start _ | apply ScL.dr | apply ScL.alloc)))
            intro b5 c5 w7 hown5 hb5 hg5
            have hsc5 : ScL W4 w7 := ScL.grown (by (repeat (first | assumption | exact ScL.start _ | apply ScL.dr | apply ScL.alloc))) hb5
            refine hK.out _ _ (.inr (HSA.out _ (by (repeat (first | assumption | exact ScL.start _ | apply ScL.dr | apply ScL.alloc))))) (fun hHeld => ?_)
            have hHeld := hHeld.resolve_right (by decide)
            clear hK K
            try simp only [Act.put, List.setIfInBounds_toArray, List.set_cons_zero, List.set_cons_succ]
            have hpk5 := HX4.out.rl.blk.below hsc5.out HX4.out.rl.blk.lt
            have f5 := hpk5.frozen 0
            have e5 := hpk5.cell (i := 0) rfl
            rw [HN.out] at e5
            refine wpAnyK_take (i := 21) (oi := { dst := some 80, op := Go.Op.nilCheck (Go.Operand.tmp 59), type := 0, pos := "ref.go:61", after := #[{ on := 0, ground := Go.Ground.data }, { on := 0, ground := Go.Ground.phase }, { on := 1, ground := Go.Ground.phase }, { on := 2, ground := Go.Ground.phase }, { on := 3, ground := Go.Ground.phase }, { on := 4, ground := Go.Ground.phase }, { on := 5, ground := Go.Ground.phase }, { on := 6, ground := Go.Ground.phase }, { on := 7, ground := Go.Ground.phase }, { on := 8, ground := Go.Ground.phase }, { on := 9, ground := Go.Ground.phase }, { on := 10, ground := Go.Ground.phase }, { on := 11, ground := Go.Ground.phase }, { on := 12, ground := Go.Ground.phase }, { on := 13, ground := Go.Ground.phase }, { on := 14, ground := Go.Ground.phase }, { on := 15, ground := Go.Ground.phase }, { on := 16, ground := Go.Ground.phase }, { on := 17, ground := Go.Ground.phase }, { on := 18, ground := Go.Ground.phase }, { on := 19, ground := Go.Ground.phase }, { on := 20, ground := Go.Ground.phase }], guard := none }) (v := ?vq24) [22] rfl (by kernel_rfl) (by kernel_rfl) (by kernel_rfl) (by kernel_rfl) (by kernel_rfl) (fun _ _ _ h => h) (Or.inl ⟨by rfl, ?hyq24⟩) (by assumption) ?restq24
            case hyq24 => (intro w0 hSw; (try dsimp only at hSw); go_simp; try with_reducible rfl)
            simp only [Act.put, List.setIfInBounds_toArray, List.set_cons_zero, List.set_cons_succ]
            refine wpAnyK_take (i := 22) (oi := { dst := some 81, op := Go.Op.fieldAddr 27 (Go.Operand.tmp 80) 0, type := 0, pos := "ref.go:61", after := #[{ on := 21, ground := Go.Ground.data }, { on := 0, ground := Go.Ground.phase }, { on := 1, ground := Go.Ground.phase }, { on := 2, ground := Go.Ground.phase }, { on := 3, ground := Go.Ground.phase }, { on := 4, ground := Go.Ground.phase }, { on := 5, ground := Go.Ground.phase }, { on := 6, ground := Go.Ground.phase }, { on := 7, ground := Go.Ground.phase }, { on := 8, ground := Go.Ground.phase }, { on := 9, ground := Go.Ground.phase }, { on := 10, ground := Go.Ground.phase }, { on := 11, ground := Go.Ground.phase }, { on := 12, ground := Go.Ground.phase }, { on := 13, ground := Go.Ground.phase }, { on := 14, ground := Go.Ground.phase }, { on := 15, ground := Go.Ground.phase }, { on := 16, ground := Go.Ground.phase }, { on := 17, ground := Go.Ground.phase }, { on := 18, ground := Go.Ground.phase }, { on := 19, ground := Go.Ground.phase }, { on := 20, ground := Go.Ground.phase }], guard := none }) (v := ?vq25) [] rfl (by kernel_rfl) (by kernel_rfl) (by kernel_rfl) (by kernel_rfl) (by kernel_rfl) (fun _ _ _ h => h) (Or.inl ⟨by rfl, ?hyq25⟩) (by assumption) ?restq25
            case hyq25 => (intro w0 hSw; (try dsimp only at hSw); go_simp; try with_reducible rfl)
            simp only [Act.put, List.setIfInBounds_toArray, List.set_cons_zero, List.set_cons_succ]
            refine wpAnyK_ready (rs := [23]) (by kernel_rfl) (by simp) ?_
            refine AllReadyK.cons (o := { dst := none, op := Go.Op.store 22 (Go.Operand.tmp 81) (Go.Operand.tmp 79), type := 0, pos := "ref.go:61", after := #[{ on := 22, ground := Go.Ground.data }, { on := 20, ground := Go.Ground.data }, { on := 20, ground := Go.Ground.chain }, { on := 0, ground := Go.Ground.phase }, { on := 1, ground := Go.Ground.phase }, { on := 2, ground := Go.Ground.phase }, { on := 3, ground := Go.Ground.phase }, { on := 4, ground := Go.Ground.phase }, { on := 5, ground := Go.Ground.phase }, { on := 6, ground := Go.Ground.phase }, { on := 7, ground := Go.Ground.phase }, { on := 8, ground := Go.Ground.phase }, { on := 9, ground := Go.Ground.phase }, { on := 10, ground := Go.Ground.phase }, { on := 11, ground := Go.Ground.phase }, { on := 12, ground := Go.Ground.phase }, { on := 13, ground := Go.Ground.phase }, { on := 14, ground := Go.Ground.phase }, { on := 15, ground := Go.Ground.phase }, { on := 16, ground := Go.Ground.phase }, { on := 17, ground := Go.Ground.phase }, { on := 18, ground := Go.Ground.phase }, { on := 19, ground := Go.Ground.phase }, { on := 20, ground := Go.Ground.phase }], guard := none }) rfl (fun K hK => ?_) AllReadyK.nil
            go_simp
            refine hK.out _ _ (.inl rfl) (fun _ => ?_)
            clear hK K
            try simp only [Act.put, List.setIfInBounds_toArray, List.set_cons_zero, List.set_cons_succ]
            refine wpAnyK_done (by kernel_rfl) ?_ _
            refine NoPanic.normal ?_
            have HEND := hid (HFIN.out w7 _ b5 c5 k _ hsc5 HKE.out (by have := HKN.out; omega) hown5 rfl)
            clear hown3 hown4 hown5 hsc3 hsc4 hsc5 hb3 hb4 hb5 hg3 hg4 hg5 hHeld hs0 f5 e5 hpk5
            go_wp2
            all_goals (go_ret; exact HEND.out)
          · go_simp
            refine hK.out _ _ (.inr (HSA.out _ (by (repeat (first | assumption | exact ScL.start _ | apply ScL.dr | apply ScL.alloc))))) (fun hHeld => ?_)
            have hHeld := hHeld.resolve_right (by decide)
            clear hK K
            try simp only [Act.put, List.setIfInBounds_toArray, List.set_cons_zero, List.set_cons_succ]
            refine wpAnyK_ready (rs := [8]) (by kernel_rfl) (by simp) ?_
            refine AllReadyK.cons (o := { dst := some 67, op := Go.Op.call { callee := Go.Callee.builtin Go.Builtin.append, args := #[Go.Operand.tmp 60, Go.Operand.tmp 66], argTypes := #[22, 22] }, type := 22, pos := "ref.go:61", after := #[{ on := 1, ground := Go.Ground.data }, { on := 7, ground := Go.Ground.data }], guard := none }) rfl (fun K hK => ?_) AllReadyK.nil
            refine step_copy_s6 rfl _ _ rfl W4.heap.size _ rfl ?ownz17 _ _ _ (xs.take k) ?hmz17 rfl ?hhz17 ?hsumz17 ?hbasez17 ?restz17
            case ownz17 => first | exact ownS6_made W4 _ (Nat.le_refl _) | exact (ownS6_made W4 _ (Nat.le_refl _)).alloc _ | exact ownS6_made2 W4 _ _ (Nat.le_refl _)
            case hmz17 => have := HN.out; have := HKN.out; rw [List.length_take]; omega
            case hhz17 => first | exact (HHX.out _ (by (repeat (first | assumption | exact ScL.start _ | apply ScL.dr | apply ScL.alloc)))).take k | exact (.inl (by have := HN.out; have := HKN.out; exact List.take_eq_nil_iff.2 (.inl (by omega))))
            case hsumz17 => have := HKN.out; have := HNL.out; omega
            case hbasez17 => exact ScL.size (by (repeat (first | assumption | exact ScL.start _ | apply ScL.dr | apply ScL.alloc)))
            intro b3 c3 w5 hown3 hb3 hg3
            have hsc3 : ScL W4 w5 := ScL.grown (by (repeat (first | assumption | exact ScL.start _ | apply ScL.dr | apply ScL.alloc))) hb3
            refine hK.out _ _ (.inr (HSA.out _ (by (repeat (first | assumption | exact ScL.start _ | apply ScL.dr | apply ScL.alloc))))) (fun hHeld => ?_)
            have hHeld := hHeld.resolve_right (by decide)
            clear hK K
            try simp only [Act.put, List.setIfInBounds_toArray, List.set_cons_zero, List.set_cons_succ]
            refine wpAnyK_ready (rs := [13]) (by kernel_rfl) (by simp) ?_
            refine AllReadyK.cons (o := { dst := some 72, op := Go.Op.call { callee := Go.Callee.builtin Go.Builtin.append, args := #[Go.Operand.tmp 67, Go.Operand.tmp 71], argTypes := #[22, 22] }, type := 22, pos := "ref.go:61", after := #[{ on := 8, ground := Go.Ground.data }, { on := 12, ground := Go.Ground.data }, { on := 8, ground := Go.Ground.chain }], guard := none }) rfl (fun K hK => ?_) AllReadyK.nil
            refine step_append_s6 rfl _ _ rfl W4.heap.size _ _ (xs.take k) ?hnz18 rfl (hown3) _ 1 1 [X] rfl rfl ?hhz18 ?hsumz18 ?hbasez18 ?restz18
            case hnz18 => have := HN.out; have := HKN.out; rw [List.length_take]; omega
            case hhz18 => exact held_grownS6 (show HeldS6 _ (some ⟨W4.heap.size + 1, 0, none⟩) [X] from HHB.out) hg3 (by simp)
            case hsumz18 => have := HKN.out; have := HNL.out; omega
            case hbasez18 => exact ScL.size (by (repeat (first | assumption | exact ScL.start _ | apply ScL.dr | apply ScL.alloc)))
            intro b4 c4 w6 hown4 hb4 hg4
            have hsc4 : ScL W4 w6 := ScL.grown (by (repeat (first | assumption | exact ScL.start _ | apply ScL.dr | apply ScL.alloc))) hb4
            refine hK.out _ _ (.inr (HSA.out _ (by (repeat (first | assumption | exact ScL.start _ | apply ScL.dr | apply ScL.alloc))))) (fun hHeld => ?_)
            have hHeld := hHeld.resolve_right (by decide)
            clear hK K
            try simp only [Act.put, List.setIfInBounds_toArray, List.set_cons_zero, List.set_cons_succ]
            refine wpAnyK_ready (rs := [20]) (by kernel_rfl) (by simp) ?_
            refine AllReadyK.cons (o := { dst := some 79, op := Go.Op.call { callee := Go.Callee.builtin Go.Builtin.append, args := #[Go.Operand.tmp 72, Go.Operand.tmp 78], argTypes := #[22, 22] }, type := 22, pos := "ref.go:61", after := #[{ on := 13, ground := Go.Ground.data }, { on := 19, ground := Go.Ground.data }, { on := 13, ground := Go.Ground.chain }], guard := none }) rfl (fun K hK => ?_) AllReadyK.nil
            refine step_append_s6 rfl _ _ rfl W4.heap.size _ _ (xs.take k ++ [X]) ?hnz19 rfl hown4 _ _ _ (xs.drop k) ?hmz19 rfl ?hhz19 ?hsumz19 ?hbasez19 ?restz19
            case hnz19 => have := HN.out; have := HKN.out; rw [List.length_append, List.length_take, List.length_singleton]; omega
            case hmz19 => have := HN.out; have := HKN.out; rw [List.length_drop]; omega
            case hhz19 => first | exact (HHX.out _ (by (repeat (first | assumption | exact ScL.start _ | apply ScL.dr | apply ScL.alloc)))).drop k | exact held_dropS6 (HHX.out _ (by (repeat (first | assumption | exact ScL.start _ | apply ScL.dr | apply ScL.alloc)))) k (by have := HN.out; have := HKC.out; omega)
            case hsumz19 => have := HKN.out; have := HNL.out; omega
            case hbasez19 => exact ScL.size (by (repeat (first | assumption | exact ScL.start _ | apply ScL.dr | apply ScL.alloc)))
            intro b5 c5 w7 hown5 hb5 hg5
            have hsc5 : ScL W4 w7 := ScL.grown (by (repeat (first | assumption | exact ScL.start _ | apply ScL.dr | apply ScL.alloc))) hb5
            refine hK.out _ _ (.inr (HSA.out _ (by (repeat (first | assumption | exact ScL.start _ | apply ScL.dr | apply ScL.alloc))))) (fun hHeld => ?_)
            have hHeld := hHeld.resolve_right (by decide)
            clear hK K
            try simp only [Act.put, List.setIfInBounds_toArray, List.set_cons_zero, List.set_cons_succ]
            have hpk5 := HX4.out.rl.blk.below hsc5.out HX4.out.rl.blk.lt
            have f5 := hpk5.frozen 0
            have e5 := hpk5.cell (i := 0) rfl
            rw [HN.out] at e5
            refine wpAnyK_take (i := 21) (oi := { dst := some 80, op := Go.Op.nilCheck (Go.Operand.tmp 59), type := 0, pos := "ref.go:61", after := #[{ on := 0, ground := Go.Ground.data }, { on := 0, ground := Go.Ground.phase }, { on := 1, ground := Go.Ground.phase }, { on := 2, ground := Go.Ground.phase }, { on := 3, ground := Go.Ground.phase }, { on := 4, ground := Go.Ground.phase }, { on := 5, ground := Go.Ground.phase }, { on := 6, ground := Go.Ground.phase }, { on := 7, ground := Go.Ground.phase }, { on := 8, ground := Go.Ground.phase }, { on := 9, ground := Go.Ground.phase }, { on := 10, ground := Go.Ground.phase }, { on := 11, ground := Go.Ground.phase }, { on := 12, ground := Go.Ground.phase }, { on := 13, ground := Go.Ground.phase }, { on := 14, ground := Go.Ground.phase }, { on := 15, ground := Go.Ground.phase }, { on := 16, ground := Go.Ground.phase }, { on := 17, ground := Go.Ground.phase }, { on := 18, ground := Go.Ground.phase }, { on := 19, ground := Go.Ground.phase }, { on := 20, ground := Go.Ground.phase }], guard := none }) (v := ?vq20) [22] rfl (by kernel_rfl) (by kernel_rfl) (by kernel_rfl) (by kernel_rfl) (by kernel_rfl) (fun _ _ _ h => h) (Or.inl ⟨by rfl, ?hyq20⟩) (by assumption) ?restq20
            case hyq20 => (intro w0 hSw; (try dsimp only at hSw); go_simp; try with_reducible rfl)
            simp only [Act.put, List.setIfInBounds_toArray, List.set_cons_zero, List.set_cons_succ]
            refine wpAnyK_take (i := 22) (oi := { dst := some 81, op := Go.Op.fieldAddr 27 (Go.Operand.tmp 80) 0, type := 0, pos := "ref.go:61", after := #[{ on := 21, ground := Go.Ground.data }, { on := 0, ground := Go.Ground.phase }, { on := 1, ground := Go.Ground.phase }, { on := 2, ground := Go.Ground.phase }, { on := 3, ground := Go.Ground.phase }, { on := 4, ground := Go.Ground.phase }, { on := 5, ground := Go.Ground.phase }, { on := 6, ground := Go.Ground.phase }, { on := 7, ground := Go.Ground.phase }, { on := 8, ground := Go.Ground.phase }, { on := 9, ground := Go.Ground.phase }, { on := 10, ground := Go.Ground.phase }, { on := 11, ground := Go.Ground.phase }, { on := 12, ground := Go.Ground.phase }, { on := 13, ground := Go.Ground.phase }, { on := 14, ground := Go.Ground.phase }, { on := 15, ground := Go.Ground.phase }, { on := 16, ground := Go.Ground.phase }, { on := 17, ground := Go.Ground.phase }, { on := 18, ground := Go.Ground.phase }, { on := 19, ground := Go.Ground.phase }, { on := 20, ground := Go.Ground.phase }], guard := none }) (v := ?vq21) [] rfl (by kernel_rfl) (by kernel_rfl) (by kernel_rfl) (by kernel_rfl) (by kernel_rfl) (fun _ _ _ h => h) (Or.inl ⟨by rfl, ?hyq21⟩) (by assumption) ?restq21
            case hyq21 => (intro w0 hSw; (try dsimp only at hSw); go_simp; try with_reducible rfl)
            simp only [Act.put, List.setIfInBounds_toArray, List.set_cons_zero, List.set_cons_succ]
            refine wpAnyK_ready (rs := [23]) (by kernel_rfl) (by simp) ?_
            refine AllReadyK.cons (o := { dst := none, op := Go.Op.store 22 (Go.Operand.tmp 81) (Go.Operand.tmp 79), type := 0, pos := "ref.go:61", after := #[{ on := 22, ground := Go.Ground.data }, { on := 20, ground := Go.Ground.data }, { on := 20, ground := Go.Ground.chain }, { on := 0, ground := Go.Ground.phase }, { on := 1, ground := Go.Ground.phase }, { on := 2, ground := Go.Ground.phase }, { on := 3, ground := Go.Ground.phase }, { on := 4, ground := Go.Ground.phase }, { on := 5, ground := Go.Ground.phase }, { on := 6, ground := Go.Ground.phase }, { on := 7, ground := Go.Ground.phase }, { on := 8, ground := Go.Ground.phase }, { on := 9, ground := Go.Ground.phase }, { on := 10, ground := Go.Ground.phase }, { on := 11, ground := Go.Ground.phase }, { on := 12, ground := Go.Ground.phase }, { on := 13, ground := Go.Ground.phase }, { on := 14, ground := Go.Ground.phase }, { on := 15, ground := Go.Ground.phase }, { on := 16, ground := Go.Ground.phase }, { on := 17, ground := Go.Ground.phase }, { on := 18, ground := Go.Ground.phase }, { on := 19, ground := Go.Ground.phase }, { on := 20, ground := Go.Ground.phase }], guard := none }) rfl (fun K hK => ?_) AllReadyK.nil
            go_simp
            refine hK.out _ _ (.inl rfl) (fun _ => ?_)
            clear hK K
            try simp only [Act.put, List.setIfInBounds_toArray, List.set_cons_zero, List.set_cons_succ]
            refine wpAnyK_done (by kernel_rfl) ?_ _
            refine NoPanic.normal ?_
            have HEND := hid (HFIN.out w7 _ b5 c5 k _ hsc5 HKE.out (by have := HKN.out; omega) hown5 rfl)
            clear hown3 hown4 hown5 hsc3 hsc4 hsc5 hb3 hb4 hb5 hg3 hg4 hg5 hHeld hs0 f5 e5 hpk5
            go_wp2
            all_goals (go_ret; exact HEND.out)
        · go_simp
          refine hK.out _ _ (.inr (HSA.out _ (by (repeat (first | assumption | exact ScL.start _ | apply ScL.dr | apply ScL.alloc))))) (fun hHeld => ?_)
          have hHeld := hHeld.resolve_right (by decide)
          clear hK K
          try simp only [Act.put, List.setIfInBounds_toArray, List.set_cons_zero, List.set_cons_succ]
          refine wpAnyK_ready (rs := [1]) (by kernel_rfl) (by simp) ?_
          refine AllReadyK.cons (o := { dst := some 60, op := Go.Op.buildSlice 22 0 #[], type := 22, pos := "ref.go:61", after := #[], guard := none }) rfl (fun K hK => ?_) AllReadyK.nil
          go_simp
          refine hK.out _ _ (.inr (HSA.out _ (by (repeat (first | assumption | exact ScL.start _ | apply ScL.dr | apply ScL.alloc))))) (fun hHeld => ?_)
          have hHeld := hHeld.resolve_right (by decide)
          clear hK K
          try simp only [Act.put, List.setIfInBounds_toArray, List.set_cons_zero, List.set_cons_succ]
          refine wpAnyK_ready (rs := [8]) (by kernel_rfl) (by simp) ?_
          refine AllReadyK.cons (o := { dst := some 67, op := Go.Op.call { callee := Go.Callee.builtin Go.Builtin.append, args := #[Go.Operand.tmp 60, Go.Operand.tmp 66], argTypes := #[22, 22] }, type := 22, pos := "ref.go:61", after := #[{ on := 1, ground := Go.Ground.data }, { on := 7, ground := Go.Ground.data }], guard := none }) rfl (fun K hK => ?_) AllReadyK.nil
          refine step_copy_s6 rfl _ _ rfl W4.heap.size _ rfl ?ownz26 _ _ _ (xs.take k) ?hmz26 rfl ?hhz26 ?hsumz26 ?hbasez26 ?restz26
          case ownz26 => first | exact ownS6_made W4 _ (Nat.le_refl _) | exact (ownS6_made W4 _ (Nat.le_refl _)).alloc _ | exact ownS6_made2 W4 _ _ (Nat.le_refl _)
          case hmz26 => have := HN.out; have := HKN.out; rw [List.length_take]; omega
          case hhz26 => first | exact (HHX.out _ (by (repeat (first | assumption | exact ScL.start _ | apply ScL.dr | apply ScL.alloc)))).take k | exact (.inl (by have := HN.out; have := HKN.out; exact List.take_eq_nil_iff.2 (.inl (by omega))))
          case hsumz26 => have := HKN.out; have := HNL.out; omega
          case hbasez26 => exact ScL.size (by (repeat (first | assumption | exact ScL.start _ | apply ScL.dr | apply ScL.alloc)))
          intro b3 c3 w5 hown3 hb3 hg3
          have hsc3 : ScL W4 w5 := ScL.grown (by (repeat (first | assumption | exact ScL.start _ | apply ScL.dr | apply ScL.alloc))) hb3
          refine hK.out _ _ (.inr (HSA.out _ (by (repeat (first | assumption | exact ScL.start _ | apply ScL.dr | apply ScL.alloc))))) (fun hHeld => ?_)
          have hHeld := hHeld.resolve_right (by decide)
          clear hK K
          try simp only [Act.put, List.setIfInBounds_toArray, List.set_cons_zero, List.set_cons_succ]
          refine wpAnyK_ready (rs := [13]) (by kernel_rfl) (by simp) ?_
          refine AllReadyK.cons (o := { dst := some 72, op := Go.Op.call { callee := Go.Callee.builtin Go.Builtin.append, args := #[Go.Operand.tmp 67, Go.Operand.tmp 71], argTypes := #[22, 22] }, type := 22, pos := "ref.go:61", after := #[{ on := 8, ground := Go.Ground.data }, { on := 12, ground := Go.Ground.data }, { on := 8, ground := Go.Ground.chain }], guard := none }) rfl (fun K hK => ?_) AllReadyK.nil
          refine step_append_s6 rfl _ _ rfl W4.heap.size _ _ (xs.take k) ?hnz27 rfl (hown3) _ 1 1 [X] rfl rfl ?hhz27 ?hsumz27 ?hbasez27 ?restz27
          case hnz27 => have := HN.out; have := HKN.out; rw [List.length_take]; omega
          case hhz27 => exact held_grownS6 (show HeldS6 _ (some ⟨W4.heap.size, 0, none⟩) [X] from HHA.out) hg3 (by simp)
          case hsumz27 => have := HKN.out; have := HNL.out; omega
          case hbasez27 => exact ScL.size (by (repeat (first | assumption | exact ScL.start _ | apply ScL.dr | apply ScL.alloc)))
          intro b4 c4 w6 hown4 hb4 hg4
          have hsc4 : ScL W4 w6 := ScL.grown (by (repeat (first | assumption | exact ScL.start _ | apply ScL.dr | apply ScL.alloc))) hb4
          refine hK.out _ _ (.inr (HSA.out _ (by (repeat (first | assumption | exact ScL.start _ | apply ScL.dr | apply ScL.alloc))))) (fun hHeld => ?_)
          have hHeld := hHeld.resolve_right (by decide)
          clear hK K
          try simp only [Act.put, List.setIfInBounds_toArray, List.set_cons_zero, List.set_cons_succ]
          refine wpAnyK_ready (rs := [20]) (by kernel_rfl) (by simp) ?_
          refine AllReadyK.cons (o := { dst := some 79, op := Go.Op.call { callee := Go.Callee.builtin Go.Builtin.append, args := #[Go.Operand.tmp 72, Go.Operand.tmp 78], argTypes := #[22, 22] }, type := 22, pos := "ref.go:61", after := #[{ on := 13, ground := Go.Ground.data }, { on := 19, ground := Go.Ground.data }, { on := 13, ground := Go.Ground.chain }], guard := none }) rfl (fun K hK => ?_) AllReadyK.nil
          refine step_append_s6 rfl _ _ rfl W4.heap.size _ _ (xs.take k ++ [X]) ?hnz28 rfl hown4 _ _ _ (xs.drop k) ?hmz28 rfl ?hhz28 ?hsumz28 ?hbasez28 ?restz28
          case hnz28 => have := HN.out; have := HKN.out; rw [List.length_append, List.length_take, List.length_singleton]; omega
          case hmz28 => have := HN.out; have := HKN.out; rw [List.length_drop]; omega
          case hhz28 => first | exact (HHX.out _ (by (repeat (first | assumption | exact ScL.start _ | apply ScL.dr | apply ScL.alloc)))).drop k | exact held_dropS6 (HHX.out _ (by (repeat (first | assumption | exact ScL.start _ | apply ScL.dr | apply ScL.alloc)))) k (by have := HN.out; have := HKC.out; omega)
          case hsumz28 => have := HKN.out; have := HNL.out; omega
          case hbasez28 => exact ScL.size (by (repeat (first | assumption | exact ScL.start _ | apply ScL.dr | apply ScL.alloc)))
          intro b5 c5 w7 hown5 hb5 hg5
          have hsc5 : ScL W4 w7 := ScL.grown (by (repeat (first | assumption | exact ScL.start _ | apply ScL.dr | apply ScL.alloc))) hb5
          refine hK.out _ _ (.inr (HSA.out _ (by (repeat (first | assumption | exact ScL.start _ | apply ScL.dr | apply ScL.alloc))))) (fun hHeld => ?_)
          have hHeld := hHeld.resolve_right (by decide)
          clear hK K
          try simp only [Act.put, List.setIfInBounds_toArray, List.set_cons_zero, List.set_cons_succ]
          have hpk5 := HX4.out.rl.blk.below hsc5.out HX4.out.rl.blk.lt
          have f5 := hpk5.frozen 0
          have e5 := hpk5.cell (i := 0) rfl
          rw [HN.out] at e5
          refine wpAnyK_take (i := 21) (oi := { dst := some 80, op := Go.Op.nilCheck (Go.Operand.tmp 59), type := 0, pos := "ref.go:61", after := #[{ on := 0, ground := Go.Ground.data }, { on := 0, ground := Go.Ground.phase }, { on := 1, ground := Go.Ground.phase }, { on := 2, ground := Go.Ground.phase }, { on := 3, ground := Go.Ground.phase }, { on := 4, ground := Go.Ground.phase }, { on := 5, ground := Go.Ground.phase }, { on := 6, ground := Go.Ground.phase }, { on := 7, ground := Go.Ground.phase }, { on := 8, ground := Go.Ground.phase }, { on := 9, ground := Go.Ground.phase }, { on := 10, ground := Go.Ground.phase }, { on := 11, ground := Go.Ground.phase }, { on := 12, ground := Go.Ground.phase }, { on := 13, ground := Go.Ground.phase }, { on := 14, ground := Go.Ground.phase }, { on := 15, ground := Go.Ground.phase }, { on := 16, ground := Go.Ground.phase }, { on := 17, ground := Go.Ground.phase }, { on := 18, ground := Go.Ground.phase }, { on := 19, ground := Go.Ground.phase }, { on := 20, ground := Go.Ground.phase }], guard := none }) (v := ?vq29) [22] rfl (by kernel_rfl) (by kernel_rfl) (by kernel_rfl) (by kernel_rfl) (by kernel_rfl) (fun _ _ _ h => h) (Or.inl ⟨by rfl, ?hyq29⟩) (by assumption) ?restq29
          case hyq29 => (intro w0 hSw; (try dsimp only at hSw); go_simp; try with_reducible rfl)
          simp only [Act.put, List.setIfInBounds_toArray, List.set_cons_zero, List.set_cons_succ]
          refine wpAnyK_take (i := 22) (oi := { dst := some 81, op := Go.Op.fieldAddr 27 (Go.Operand.tmp 80) 0, type := 0, pos := "ref.go:61", after := #[{ on := 21, ground := Go.Ground.data }, { on := 0, ground := Go.Ground.phase }, { on := 1, ground := Go.Ground.phase }, { on := 2, ground := Go.Ground.phase }, { on := 3, ground := Go.Ground.phase }, { on := 4, ground := Go.Ground.phase }, { on := 5, ground := Go.Ground.phase }, { on := 6, ground := Go.Ground.phase }, { on := 7, ground := Go.Ground.phase }, { on := 8, ground := Go.Ground.phase }, { on := 9, ground := Go.Ground.phase }, { on := 10, ground := Go.Ground.phase }, { on := 11, ground := Go.Ground.phase }, { on := 12, ground := Go.Ground.phase }, { on := 13, ground := Go.Ground.phase }, { on := 14, ground := Go.Ground.phase }, { on := 15, ground := Go.Ground.phase }, { on := 16, ground := Go.Ground.phase }, { on := 17, ground := Go.Ground.phase }, { on := 18, ground := Go.Ground.phase }, { on := 19, ground := Go.Ground.phase }, { on := 20, ground := Go.Ground.phase }], guard := none }) (v := ?vq30) [] rfl (by kernel_rfl) (by kernel_rfl) (by kernel_rfl) (by kernel_rfl) (by kernel_rfl) (fun _ _ _ h => h) (Or.inl ⟨by rfl, ?hyq30⟩) (by assumption) ?restq30
          case hyq30 => (intro w0 hSw; (try dsimp only at hSw); go_simp; try with_reducible rfl)
          simp only [Act.put, List.setIfInBounds_toArray, List.set_cons_zero, List.set_cons_succ]
          refine wpAnyK_ready (rs := [23]) (by kernel_rfl) (by simp) ?_
          refine AllReadyK.cons (o := { dst := none, op := Go.Op.store 22 (Go.Operand.tmp 81) (Go.Operand.tmp 79), type := 0, pos := "ref.go:61", after := #[{ on := 22, ground := Go.Ground.data }, { on := 20, ground := Go.Ground.data }, { on := 20, ground := Go.Ground.chain }, { on := 0, ground := Go.Ground.phase }, { on := 1, ground := Go.Ground.phase }, { on := 2, ground := Go.Ground.phase }, { on := 3, ground := Go.Ground.phase }, { on := 4, ground := Go.Ground.phase }, { on := 5, ground := Go.Ground.phase }, { on := 6, ground := Go.Ground.phase }, { on := 7, ground := Go.Ground.phase }, { on := 8, ground := Go.Ground.phase }, { on := 9, ground := Go.Ground.phase }, { on := 10, ground := Go.Ground.phase }, { on := 11, ground := Go.Ground.phase }, { on := 12, ground := Go.Ground.phase }, { on := 13, ground := Go.Ground.phase }, { on := 14, ground := Go.Ground.phase }, { on := 15, ground := Go.Ground.phase }, { on := 16, ground := Go.Ground.phase }, { on := 17, ground := Go.Ground.phase }, { on := 18, ground := Go.Ground.phase }, { on := 19, ground := Go.Ground.phase }, { on := 20, ground := Go.Ground.phase }], guard := none }) rfl (fun K hK => ?_) AllReadyK.nil
          go_simp
          refine hK.out _ _ (.inl rfl) (fun _ => ?_)
          clear hK K
          try simp only [Act.put, List.setIfInBounds_toArray, List.set_cons_zero, List.set_cons_succ]
          refine wpAnyK_done (by kernel_rfl) ?_ _
          refine NoPanic.normal ?_
          have HEND := hid (HFIN.out w7 _ b5 c5 k _ hsc5 HKE.out (by have := HKN.out; omega) hown5 rfl)
          clear hown3 hown4 hown5 hsc3 hsc4 hsc5 hb3 hb4 hb5 hg3 hg4 hg5 hHeld hs0 f5 e5 hpk5
          go_wp2
          all_goals (go_ret; exact HEND.out)
    · have hlt' : ¬ (k : Int) < (n : Int) := by omega
      have HKE : Hid (k = aheadOf g.ks s) := aheadOf_eq HLO.out (by have := HGN.out; omega) (.inl (by have := HGN.out; omega))
      have HKE2 : Hid (k = n) := (by omega : k = n)
      have HALL : Hid ((0 : Int) ≤ (k : Int) ∧ (k : Int) ≤ (n : Int) ∧ (k : Int) ≤ (cap : Int) ∧ (n : Int) ≤ (cap : Int)) := ⟨hk0, hkn, hkc, hnc⟩
      clear hlt hk hk0 hkn hkc hnc
      cases eo with
      | some ad =>
        obtain ⟨b, off, hao⟩ := rl_addr HX4.out.rl
        subst hao
        go_wp2
        obtain ⟨hk0, hkn, hkc, hnc⟩ := HALL.out
        refine wp_region_noPanic ?_
        refine wp_region_K 23 (fun V => ScL W4 V ∧ V.cell? ⟨x, 0, none⟩ = some (.slice (some ⟨b, off, none⟩) n cap) ∧ V.cell? ⟨pb, 0, none⟩ = some (.bool np) ∧ V.cell? ⟨pb, 1, none⟩ = some (.string tk) ∧ V.cell? ⟨pb, 2, none⟩ = some (.string ct) ∧ V.cell? ⟨pb, 3, none⟩ = some (.int .i64 ep) ∧ V.cell? ⟨pb, 4, none⟩ = some (.slice ao1 XN cap1)) (by kernel_rfl) (HSA.out _ (ScL.start W4).dr) (fun hHeld => ?_)
        have hs0 := (ScL.start W4).dr
        refine wpAnyK_take (i := 0) (oi := { dst := some 59, op := Go.Op.move (Go.Operand.tmp 0), type := 25, pos := "ref.go:61", after := #[], guard := none }) (v := ?vq34) [] rfl (by kernel_rfl) (by kernel_rfl) (by kernel_rfl) (by kernel_rfl) (by kernel_rfl) (fun _ _ _ h => h) (Or.inl ⟨by rfl, ?hyq34⟩) (by assumption) ?restq34
        case hyq34 => (intro w0 hSw; (try dsimp only at hSw); go_simp; try with_reducible rfl)
        simp only [Act.put, List.setIfInBounds_toArray, List.set_cons_zero, List.set_cons_succ]
        refine wpAnyK_take (i := 2) (oi := { dst := some 61, op := Go.Op.move (Go.Operand.tmp 0), type := 25, pos := "ref.go:61", after := #[], guard := none }) (v := ?vq35) [] rfl (by kernel_rfl) (by kernel_rfl) (by kernel_rfl) (by kernel_rfl) (by kernel_rfl) (fun _ _ _ h => h) (Or.inl ⟨by rfl, ?hyq35⟩) (by assumption) ?restq35
        case hyq35 => (intro w0 hSw; (try dsimp only at hSw); go_simp; try with_reducible rfl)
        simp only [Act.put, List.setIfInBounds_toArray, List.set_cons_zero, List.set_cons_succ]
        refine wpAnyK_take (i := 3) (oi := { dst := some 62, op := Go.Op.nilCheck (Go.Operand.tmp 61), type := 0, pos := "ref.go:61", after := #[{ on := 2, ground := Go.Ground.data }], guard := none }) (v := ?vq36) [] rfl (by kernel_rfl) (by kernel_rfl) (by kernel_rfl) (by kernel_rfl) (by kernel_rfl) (fun _ _ _ h => h) (Or.inl ⟨by rfl, ?hyq36⟩) (by assumption) ?restq36
        case hyq36 => (intro w0 hSw; (try dsimp only at hSw); go_simp; try with_reducible rfl)
        simp only [Act.put, List.setIfInBounds_toArray, List.set_cons_zero, List.set_cons_succ]
        refine wpAnyK_take (i := 4) (oi := { dst := some 63, op := Go.Op.fieldAddr 27 (Go.Operand.tmp 62) 0, type := 0, pos := "ref.go:61", after := #[{ on := 3, ground := Go.Ground.data }], guard := none }) (v := ?vq37) [] rfl (by kernel_rfl) (by kernel_rfl) (by kernel_rfl) (by kernel_rfl) (by kernel_rfl) (fun _ _ _ h => h) (Or.inl ⟨by rfl, ?hyq37⟩) (by assumption) ?restq37
        case hyq37 => (intro w0 hSw; (try dsimp only at hSw); go_simp; try with_reducible rfl)
        simp only [Act.put, List.setIfInBounds_toArray, List.set_cons_zero, List.set_cons_succ]
        refine wpAnyK_take (i := 5) (oi := { dst := some 64, op := Go.Op.load 22 (Go.Operand.tmp 63), type := 22, pos := "ref.go:61", after := #[{ on := 4, ground := Go.Ground.data }], guard := none }) (v := ?vq38) [] rfl (by kernel_rfl) (by kernel_rfl) (by kernel_rfl) (by kernel_rfl) (by kernel_rfl) (fun _ _ _ h => h) (Or.inl ⟨by rfl, ?hyq38⟩) (by assumption) ?restq38
        case hyq38 => (intro w0 hSw; (try dsimp only at hSw); go_simp; try with_reducible rfl)
        simp only [Act.put, List.setIfInBounds_toArray, List.set_cons_zero, List.set_cons_succ]
        refine wpAnyK_take (i := 6) (oi := { dst := some 65, op := Go.Op.move (Go.Operand.tmp 9), type := 3, pos := "ref.go:61", after := #[], guard := none }) (v := ?vq39) [] rfl (by kernel_rfl) (by kernel_rfl) (by kernel_rfl) (by kernel_rfl) (by kernel_rfl) (fun _ _ _ h => h) (Or.inl ⟨by rfl, ?hyq39⟩) (by assumption) ?restq39
        case hyq39 => (intro w0 hSw; (try dsimp only at hSw); go_simp; try with_reducible rfl)
        simp only [Act.put, List.setIfInBounds_toArray, List.set_cons_zero, List.set_cons_succ]
        refine wpAnyK_take (i := 7) (oi := { dst := some 66, op := Go.Op.slice 22 (Go.Operand.tmp 64) none (some (Go.Operand.tmp 65)) none, type := 22, pos := "ref.go:61", after := #[{ on := 5, ground := Go.Ground.data }, { on := 6, ground := Go.Ground.data }], guard := none }) (v := ?vq40) [] rfl (by kernel_rfl) (by kernel_rfl) (by kernel_rfl) (by kernel_rfl) (by kernel_rfl) (fun _ _ _ h => h) (Or.inl ⟨by rfl, ?hyq40⟩) (by assumption) ?restq40
        case hyq40 => (intro w0 hSw; (try dsimp only at hSw); go_simp; try with_reducible rfl)
        simp only [Act.put, List.setIfInBounds_toArray, List.set_cons_zero, List.set_cons_succ]
        refine wpAnyK_take (i := 9) (oi := { dst := some 68, op := Go.Op.move (Go.Operand.tmp 1), type := 3, pos := "ref.go:61", after := #[], guard := none }) (v := ?vq41) [] rfl (by kernel_rfl) (by kernel_rfl) (by kernel_rfl) (by kernel_rfl) (by kernel_rfl) (fun _ _ _ h => h) (Or.inl ⟨by rfl, ?hyq41⟩) (by assumption) ?restq41
        case hyq41 => (intro w0 hSw; (try dsimp only at hSw); go_simp; try with_reducible rfl)
        simp only [Act.put, List.setIfInBounds_toArray, List.set_cons_zero, List.set_cons_succ]
        refine wpAnyK_take (i := 10) (oi := { dst := some 69, op := Go.Op.load 33 (Go.Operand.tmp 5), type := 33, pos := "ref.go:61", after := #[], guard := none }) (v := ?vq42) [] rfl (by kernel_rfl) (by kernel_rfl) (by kernel_rfl) (by kernel_rfl) (by kernel_rfl) (fun _ _ _ h => h) (Or.inl ⟨by rfl, ?hyq42⟩) (by assumption) ?restq42
        case hyq42 => (intro w0 hSw; (try dsimp only at hSw); go_simp; try with_reducible rfl)
        simp only [Act.put, List.setIfInBounds_toArray, List.set_cons_zero, List.set_cons_succ]
        refine wpAnyK_take (i := 11) (oi := { dst := some 70, op := Go.Op.build 35 #[(0, Go.Operand.tmp 68), (1, Go.Operand.tmp 69)], type := 35, pos := "ref.go:61", after := #[{ on := 9, ground := Go.Ground.data }, { on := 10, ground := Go.Ground.data }], guard := none }) (v := ?vq43) [] rfl (by kernel_rfl) (by kernel_rfl) (by kernel_rfl) (by kernel_rfl) (by kernel_rfl) (fun _ _ _ h => h) (Or.inl ⟨by rfl, ?hyq43⟩) (by assumption) ?restq43
        case hyq43 => (intro w0 hSw; (try dsimp only at hSw); go_simp; try with_reducible rfl)
        simp only [Act.put, List.setIfInBounds_toArray, List.set_cons_zero, List.set_cons_succ]
        refine wpAnyK_take (i := 14) (oi := { dst := some 73, op := Go.Op.move (Go.Operand.tmp 0), type := 25, pos := "ref.go:61", after := #[], guard := none }) (v := ?vq44) [] rfl (by kernel_rfl) (by kernel_rfl) (by kernel_rfl) (by kernel_rfl) (by kernel_rfl) (fun _ _ _ h => h) (Or.inl ⟨by rfl, ?hyq44⟩) (by assumption) ?restq44
        case hyq44 => (intro w0 hSw; (try dsimp only at hSw); go_simp; try with_reducible rfl)
        simp only [Act.put, List.setIfInBounds_toArray, List.set_cons_zero, List.set_cons_succ]
        refine wpAnyK_take (i := 15) (oi := { dst := some 74, op := Go.Op.nilCheck (Go.Operand.tmp 73), type := 0, pos := "ref.go:61", after := #[{ on := 14, ground := Go.Ground.data }], guard := none }) (v := ?vq45) [] rfl (by kernel_rfl) (by kernel_rfl) (by kernel_rfl) (by kernel_rfl) (by kernel_rfl) (fun _ _ _ h => h) (Or.inl ⟨by rfl, ?hyq45⟩) (by assumption) ?restq45
        case hyq45 => (intro w0 hSw; (try dsimp only at hSw); go_simp; try with_reducible rfl)
        simp only [Act.put, List.setIfInBounds_toArray, List.set_cons_zero, List.set_cons_succ]
        refine wpAnyK_take (i := 16) (oi := { dst := some 75, op := Go.Op.fieldAddr 27 (Go.Operand.tmp 74) 0, type := 0, pos := "ref.go:61", after := #[{ on := 15, ground := Go.Ground.data }], guard := none }) (v := ?vq46) [] rfl (by kernel_rfl) (by kernel_rfl) (by kernel_rfl) (by kernel_rfl) (by kernel_rfl) (fun _ _ _ h => h) (Or.inl ⟨by rfl, ?hyq46⟩) (by assumption) ?restq46
        case hyq46 => (intro w0 hSw; (try dsimp only at hSw); go_simp; try with_reducible rfl)
        simp only [Act.put, List.setIfInBounds_toArray, List.set_cons_zero, List.set_cons_succ]
        refine wpAnyK_take (i := 17) (oi := { dst := some 76, op := Go.Op.load 22 (Go.Operand.tmp 75), type := 22, pos := "ref.go:61", after := #[{ on := 16, ground := Go.Ground.data }], guard := none }) (v := ?vq47) [] rfl (by kernel_rfl) (by kernel_rfl) (by kernel_rfl) (by kernel_rfl) (by kernel_rfl) (fun _ _ _ h => h) (Or.inl ⟨by rfl, ?hyq47⟩) (by assumption) ?restq47
        case hyq47 => (intro w0 hSw; (try dsimp only at hSw); go_simp; try with_reducible rfl)
        simp only [Act.put, List.setIfInBounds_toArray, List.set_cons_zero, List.set_cons_succ]
        refine wpAnyK_take (i := 18) (oi := { dst := some 77, op := Go.Op.move (Go.Operand.tmp 9), type := 3, pos := "ref.go:61", after := #[], guard := none }) (v := ?vq48) [] rfl (by kernel_rfl) (by kernel_rfl) (by kernel_rfl) (by kernel_rfl) (by kernel_rfl) (fun _ _ _ h => h) (Or.inl ⟨by rfl, ?hyq48⟩) (by assumption) ?restq48
        case hyq48 => (intro w0 hSw; (try dsimp only at hSw); go_simp; try with_reducible rfl)
        simp only [Act.put, List.setIfInBounds_toArray, List.set_cons_zero, List.set_cons_succ]
        refine wpAnyK_take (i := 19) (oi := { dst := some 78, op := Go.Op.slice 22 (Go.Operand.tmp 76) (some (Go.Operand.tmp 77)) none none, type := 22, pos := "ref.go:61", after := #[{ on := 17, ground := Go.Ground.data }, { on := 18, ground := Go.Ground.data }], guard := none }) (v := ?vq49) [] rfl (by kernel_rfl) (by kernel_rfl) (by kernel_rfl) (by kernel_rfl) (by kernel_rfl) (fun _ _ _ h => h) (Or.inl ⟨by rfl, ?hyq49⟩) (by assumption) ?restq49
        case hyq49 => (intro w0 hSw; (try dsimp only at hSw); go_simp; try with_reducible rfl)
        simp only [Act.put, List.setIfInBounds_toArray, List.set_cons_zero, List.set_cons_succ]
        refine wpAnyK_ready (rs := [1, 12]) (by kernel_rfl) (by simp) ?_
        refine AllReadyK.cons (o := { dst := some 60, op := Go.Op.buildSlice 22 0 #[], type := 22, pos := "ref.go:61", after := #[], guard := none }) rfl (fun K hK => ?_) (AllReadyK.cons (o := { dst := some 71, op := Go.Op.buildSlice 22 1 #[(0, Go.Operand.tmp 70)], type := 22, pos := "ref.go:61", after := #[{ on := 11, ground := Go.Ground.data }], guard := none }) rfl (fun K hK => ?_) AllReadyK.nil)
        · go_simp
          refine hK.out _ _ (.inr (HSA.out _ (by (repeat (first | assumption | exact ScL.start _ | apply ScL.dr | apply ScL.alloc))))) (fun hHeld => ?_)
          have hHeld := hHeld.resolve_right (by decide)
          clear hK K
          try simp only [Act.put, List.setIfInBounds_toArray, List.set_cons_zero, List.set_cons_succ]
          refine wpAnyK_ready (rs := [8, 12]) (by kernel_rfl) (by simp) ?_
          refine AllReadyK.cons (o := { dst := some 67, op := Go.Op.call { callee := Go.Callee.builtin Go.Builtin.append, args := #[Go.Operand.tmp 60, Go.Operand.tmp 66], argTypes := #[22, 22] }, type := 22, pos := "ref.go:61", after := #[{ on := 1, ground := Go.Ground.data }, { on := 7, ground := Go.Ground.data }], guard := none }) rfl (fun K hK => ?_) (AllReadyK.cons (o := { dst := some 71, op := Go.Op.buildSlice 22 1 #[(0, Go.Operand.tmp 70)], type := 22, pos := "ref.go:61", after := #[{ on := 11, ground := Go.Ground.data }], guard := none }) rfl (fun K hK => ?_) AllReadyK.nil)
          · refine step_copy_s6 rfl _ _ rfl W4.heap.size _ rfl ?ownz64 _ _ _ (xs.take k) ?hmz64 rfl ?hhz64 ?hsumz64 ?hbasez64 ?restz64
            case ownz64 => first | exact ownS6_made W4 _ (Nat.le_refl _) | exact (ownS6_made W4 _ (Nat.le_refl _)).alloc _ | exact ownS6_made2 W4 _ _ (Nat.le_refl _)
            case hmz64 => have := HN.out; have := HKN.out; rw [List.length_take]; omega
            case hhz64 => first | exact (HHX.out _ (by (repeat (first | assumption | exact ScL.start _ | apply ScL.dr | apply ScL.alloc)))).take k | exact (.inl (by have := HN.out; have := HKN.out; exact List.take_eq_nil_iff.2 (.inl (by omega))))
            case hsumz64 => have := HKN.out; have := HNL.out; omega
            case hbasez64 => exact ScL.size (by (repeat (first | assumption | exact ScL.start _ | apply ScL.dr | apply ScL.alloc)))
            intro b3 c3 w5 hown3 hb3 hg3
            have hsc3 : ScL W4 w5 := ScL.grown (by (repeat (first | assumption | exact ScL.start _ | apply ScL.dr | apply ScL.alloc))) hb3
            refine hK.out _ _ (.inr (HSA.out _ (by (repeat (first | assumption | exact ScL.start _ | apply ScL.dr | apply ScL.alloc))))) (fun hHeld => ?_)
            have hHeld := hHeld.resolve_right (by decide)
            clear hK K
            try simp only [Act.put, List.setIfInBounds_toArray, List.set_cons_zero, List.set_cons_succ]
            refine wpAnyK_ready (rs := [12]) (by kernel_rfl) (by simp) ?_
            refine AllReadyK.cons (o := { dst := some 71, op := Go.Op.buildSlice 22 1 #[(0, Go.Operand.tmp 70)], type := 22, pos := "ref.go:61", after := #[{ on := 11, ground := Go.Ground.data }], guard := none }) rfl (fun K hK => ?_) AllReadyK.nil
            go_simp
            refine hK.out _ _ (.inr (HSA.out _ (by (repeat (first | assumption | exact ScL.start _ | apply ScL.dr | apply ScL.alloc))))) (fun hHeld => ?_)
            have hHeld := hHeld.resolve_right (by decide)
            clear hK K
            try simp only [Act.put, List.setIfInBounds_toArray, List.set_cons_zero, List.set_cons_succ]
            refine wpAnyK_ready (rs := [13]) (by kernel_rfl) (by simp) ?_
            refine AllReadyK.cons (o := { dst := some 72, op := Go.Op.call { callee := Go.Callee.builtin Go.Builtin.append, args := #[Go.Operand.tmp 67, Go.Operand.tmp 71], argTypes := #[22, 22] }, type := 22, pos := "ref.go:61", after := #[{ on := 8, ground := Go.Ground.data }, { on := 12, ground := Go.Ground.data }, { on := 8, ground := Go.Ground.chain }], guard := none }) rfl (fun K hK => ?_) AllReadyK.nil
            refine step_append_s6 rfl _ _ rfl W4.heap.size _ _ (xs.take k) ?hnz55 rfl (hown3.alloc _) _ 1 1 [X] rfl rfl ?hhz55 ?hsumz55 ?hbasez55 ?restz55
            case hnz55 => have := HN.out; have := HKN.out; rw [List.length_take]; omega
            case hhz55 => exact HH3.out _
            case hsumz55 => have := HKN.out; have := HNL.out; omega
            case hbasez55 => exact ScL.size (by (repeat (first | assumption | exact ScL.start _ | apply ScL.dr | apply ScL.alloc)))
            intro b4 c4 w6 hown4 hb4 hg4
            have hsc4 : ScL W4 w6 := ScL.grown (by (repeat (first | assumption | exact ScL.start _ | apply ScL.dr | apply ScL.alloc))) hb4
            refine hK.out _ _ (.inr (HSA.out _ (by (repeat (first | assumption | exact ScL.start _ | apply ScL.dr | apply ScL.alloc))))) (fun hHeld => ?_)
            have hHeld := hHeld.resolve_right (by decide)
            clear hK K
            try simp only [Act.put, List.setIfInBounds_toArray, List.set_cons_zero, List.set_cons_succ]
            refine wpAnyK_ready (rs := [20]) (by kernel_rfl) (by simp) ?_
            refine AllReadyK.cons (o := { dst := some 79, op := Go.Op.call { callee := Go.Callee.builtin Go.Builtin.append, args := #[Go.Operand.tmp 72, Go.Operand.tmp 78], argTypes := #[22, 22] }, type := 22, pos := "ref.go:61", after := #[{ on := 13, ground := Go.Ground.data }, { on := 19, ground := Go.Ground.data }, { on := 13, ground := Go.Ground.chain }], guard := none }) rfl (fun K hK => ?_) AllReadyK.nil
            refine step_append_s6 rfl _ _ rfl W4.heap.size _ _ (xs.take k ++ [X]) ?hnz56 rfl hown4 _ _ _ (xs.drop k) ?hmz56 rfl ?hhz56 ?hsumz56 ?hbasez56 ?restz56
            case hnz56 => have := HN.out; have := HKN.out; rw [List.length_append, List.length_take, List.length_singleton]; omega
            case hmz56 => have := HN.out; have := HKN.out; rw [List.length_drop]; omega
            case hhz56 => first | exact (HHX.out _ (by (repeat (first | assumption | exact ScL.start _ | apply ScL.dr | apply ScL.alloc)))).drop k | exact held_dropS6 (HHX.out _ (by (repeat (first | assumption | exact ScL.start _ | apply ScL.dr | apply ScL.alloc)))) k (by have := HN.out; have := HKC.out; omega)
            case hsumz56 => have := HKN.out; have := HNL.out; omega
            case hbasez56 => exact ScL.size (by (repeat (first | assumption | exact ScL.start _ | apply ScL.dr | apply ScL.alloc)))
            intro b5 c5 w7 hown5 hb5 hg5
            have hsc5 : ScL W4 w7 := ScL.grown (by (repeat (first | assumption | exact ScL.start _ | apply ScL.dr | apply ScL.alloc))) hb5
            refine hK.out _ _ (.inr (HSA.out _ (by (repeat (first | assumption | exact ScL.start _ | apply ScL.dr | apply ScL.alloc))))) (fun hHeld => ?_)
            have hHeld := hHeld.resolve_right (by decide)
            clear hK K
            try simp only [Act.put, List.setIfInBounds_toArray, List.set_cons_zero, List.set_cons_succ]
            have hpk5 := HX4.out.rl.blk.below hsc5.out HX4.out.rl.blk.lt
            have f5 := hpk5.frozen 0
            have e5 := hpk5.cell (i := 0) rfl
            rw [HN.out] at e5
            refine wpAnyK_take (i := 21) (oi := { dst := some 80, op := Go.Op.nilCheck (Go.Operand.tmp 59), type := 0, pos := "ref.go:61", after := #[{ on := 0, ground := Go.Ground.data }, { on := 0, ground := Go.Ground.phase }, { on := 1, ground := Go.Ground.phase }, { on := 2, ground := Go.Ground.phase }, { on := 3, ground := Go.Ground.phase }, { on := 4, ground := Go.Ground.phase }, { on := 5, ground := Go.Ground.phase }, { on := 6, ground := Go.Ground.phase }, { on := 7, ground := Go.Ground.phase }, { on := 8, ground := Go.Ground.phase }, { on := 9, ground := Go.Ground.phase }, { on := 10, ground := Go.Ground.phase }, { on := 11, ground := Go.Ground.phase }, { on := 12, ground := Go.Ground.phase }, { on := 13, ground := Go.Ground.phase }, { on := 14, ground := Go.Ground.phase }, { on := 15, ground := Go.Ground.phase }, { on := 16, ground := Go.Ground.phase }, { on := 17, ground := Go.Ground.phase }, { on := 18, ground := Go.Ground.phase }, { on := 19, ground := Go.Ground.phase }, { on := 20, ground := Go.Ground.phase }], guard := none }) (v := ?vq57) [22] rfl (by kernel_rfl) (by kernel_rfl) (by kernel_rfl) (by kernel_rfl) (by kernel_rfl) (fun _ _ _ h => h) (Or.inl ⟨by rfl, ?hyq57⟩) (by assumption) ?restq57
            case hyq57 => (intro w0 hSw; (try dsimp only at hSw); go_simp; try with_reducible rfl)
            simp only [Act.put, List.setIfInBounds_toArray, List.set_cons_zero, List.set_cons_succ]
            refine wpAnyK_take (i := 22) (oi := { dst := some 81, op := Go.Op.fieldAddr 27 (Go.Operand.tmp 80) 0, type := 0, pos := "ref.go:61", after := #[{ on := 21, ground := Go.Ground.data }, { on := 0, ground := Go.Ground.phase }, { on := 1, ground := Go.Ground.phase }, { on := 2, ground := Go.Ground.phase }, { on := 3, ground := Go.Ground.phase }, { on := 4, ground := Go.Ground.phase }, { on := 5, ground := Go.Ground.phase }, { on := 6, ground := Go.Ground.phase }, { on := 7, ground := Go.Ground.phase }, { on := 8, ground := Go.Ground.phase }, { on := 9, ground := Go.Ground.phase }, { on := 10, ground := Go.Ground.phase }, { on := 11, ground := Go.Ground.phase }, { on := 12, ground := Go.Ground.phase }, { on := 13, ground := Go.Ground.phase }, { on := 14, ground := Go.Ground.phase }, { on := 15, ground := Go.Ground.phase }, { on := 16, ground := Go.Ground.phase }, { on := 17, ground := Go.Ground.phase }, { on := 18, ground := Go.Ground.phase }, { on := 19, ground := Go.Ground.phase }, { on := 20, ground := Go.Ground.phase }], guard := none }) (v := ?vq58) [] rfl (by kernel_rfl) (by kernel_rfl) (by kernel_rfl) (by kernel_rfl) (by kernel_rfl) (fun _ _ _ h => h) (Or.inl ⟨by rfl, ?hyq58⟩) (by assumption) ?restq58
            case hyq58 => (intro w0 hSw; (try dsimp only at hSw); go_simp; try with_reducible rfl)
            simp only [Act.put, List.setIfInBounds_toArray, List.set_cons_zero, List.set_cons_succ]
            refine wpAnyK_ready (rs := [23]) (by kernel_rfl) (by simp) ?_
            refine AllReadyK.cons (o := { dst := none, op := Go.Op.store 22 (Go.Operand.tmp 81) (Go.Operand.tmp 79), type := 0, pos := "ref.go:61", after := #[{ on := 22, ground := Go.Ground.data }, { on := 20, ground := Go.Ground.data }, { on := 20, ground := Go.Ground.chain }, { on := 0, ground := Go.Ground.phase }, { on := 1, ground := Go.Ground.phase }, { on := 2, ground := Go.Ground.phase }, { on := 3, ground := Go.Ground.phase }, { on := 4, ground := Go.Ground.phase }, { on := 5, ground := Go.Ground.phase }, { on := 6, ground := Go.Ground.phase }, { on := 7, ground := Go.Ground.phase }, { on := 8, ground := Go.Ground.phase }, { on := 9, ground := Go.Ground.phase }, { on := 10, ground := Go.Ground.phase }, { on := 11, ground := Go.Ground.phase }, { on := 12, ground := Go.Ground.phase }, { on := 13, ground := Go.Ground.phase }, { on := 14, ground := Go.Ground.phase }, { on := 15, ground := Go.Ground.phase }, { on := 16, ground := Go.Ground.phase }, { on := 17, ground := Go.Ground.phase }, { on := 18, ground := Go.Ground.phase }, { on := 19, ground := Go.Ground.phase }, { on := 20, ground := Go.Ground.phase }], guard := none }) rfl (fun K hK => ?_) AllReadyK.nil
            go_simp
            refine hK.out _ _ (.inl rfl) (fun _ => ?_)
            clear hK K
            try simp only [Act.put, List.setIfInBounds_toArray, List.set_cons_zero, List.set_cons_succ]
            refine wpAnyK_done (by kernel_rfl) ?_ _
            refine NoPanic.normal ?_
            have HEND := hid (HFIN.out w7 _ b5 c5 k _ hsc5 HKE.out (by have := HKN.out; omega) hown5 rfl)
            clear hown3 hown4 hown5 hsc3 hsc4 hsc5 hb3 hb4 hb5 hg3 hg4 hg5 hHeld hs0 f5 e5 hpk5
            go_wp2
            all_goals (go_ret; exact HEND.out)
          · go_simp
            refine hK.out _ _ (.inr (HSA.out _ (by (repeat (first | assumption | exact ScL.start _ | apply ScL.dr | apply ScL.alloc))))) (fun hHeld => ?_)
            have hHeld := hHeld.resolve_right (by decide)
            clear hK K
            try simp only [Act.put, List.setIfInBounds_toArray, List.set_cons_zero, List.set_cons_succ]
            refine wpAnyK_ready (rs := [8]) (by kernel_rfl) (by simp) ?_
            refine AllReadyK.cons (o := { dst := some 67, op := Go.Op.call { callee := Go.Callee.builtin Go.Builtin.append, args := #[Go.Operand.tmp 60, Go.Operand.tmp 66], argTypes := #[22, 22] }, type := 22, pos := "ref.go:61", after := #[{ on := 1, ground := Go.Ground.data }, { on := 7, ground := Go.Ground.data }], guard := none }) rfl (fun K hK => ?_) AllReadyK.nil
            refine step_copy_s6 rfl _ _ rfl W4.heap.size _ rfl ?ownz50 _ _ _ (xs.take k) ?hmz50 rfl ?hhz50 ?hsumz50 ?hbasez50 ?restz50
            case ownz50 => first | exact ownS6_made W4 _ (Nat.le_refl _) | exact (ownS6_made W4 _ (Nat.le_refl _)).alloc _ | exact ownS6_made2 W4 _ _ (Nat.le_refl _)
            case hmz50 => have := HN.out; have := HKN.out; rw [List.length_take]; omega
            case hhz50 => first | exact (HHX.out _ (by (repeat (first | assumption | exact ScL.start _ | apply ScL.dr | apply ScL.alloc)))).take k | exact (.inl (by have := HN.out; have := HKN.out; exact List.take_eq_nil_iff.2 (.inl (by omega))))
            case hsumz50 => have := HKN.out; have := HNL.out; omega
            case hbasez50 => exact ScL.size (by (repeat (first | assumption | exact ScL.start _ | apply ScL.dr | apply ScL.alloc)))
            intro b3 c3 w5 hown3 hb3 hg3
            have hsc3 : ScL W4 w5 := ScL.grown (by (repeat (first | assumption | exact ScL.start _ | apply ScL.dr | apply ScL.alloc))) hb3
            refine hK.out _ _ (.inr (HSA.out _ (by (repeat (first | assumption | exact ScL.start _ | apply ScL.dr | apply ScL.alloc))))) (fun hHeld => ?_)
            have hHeld := hHeld.resolve_right (by decide)
            clear hK K
            try simp only [Act.put, List.setIfInBounds_toArray, List.set_cons_zero, List.set_cons_succ]
            refine wpAnyK_ready (rs := [13]) (by kernel_rfl) (by simp) ?_
            refine AllReadyK.cons (o := { dst := some 72, op := Go.Op.call { callee := Go.Callee.builtin Go.Builtin.append, args := #[Go.Operand.tmp 67, Go.Operand.tmp 71], argTypes := #[22, 22] }, type := 22, pos := "ref.go:61", after := #[{ on := 8, ground := Go.Ground.data }, { on := 12, ground := Go.Ground.data }, { on := 8, ground := Go.Ground.chain }], guard := none }) rfl (fun K hK => ?_) AllReadyK.nil
            refine step_append_s6 rfl _ _ rfl W4.heap.size _ _ (xs.take k) ?hnz51 rfl (hown3) _ 1 1 [X] rfl rfl ?hhz51 ?hsumz51 ?hbasez51 ?restz51
            case hnz51 => have := HN.out; have := HKN.out; rw [List.length_take]; omega
            case hhz51 => exact held_grownS6 (show HeldS6 _ (some ⟨W4.heap.size + 1, 0, none⟩) [X] from HHB.out) hg3 (by simp)
            case hsumz51 => have := HKN.out; have := HNL.out; omega
            case hbasez51 => exact ScL.size (by (repeat (first | assumption | exact ScL.start _ | apply ScL.dr | apply ScL.alloc)))
            intro b4 c4 w6 hown4 hb4 hg4
            have hsc4 : ScL W4 w6 := ScL.grown (by (repeat (first | assumption | exact ScL.start _ | apply ScL.dr | apply ScL.alloc))) hb4
            refine hK.out _ _ (.inr (HSA.out _ (by (repeat (first | assumption | exact ScL.start _ | apply ScL.dr | apply ScL.alloc))))) (fun hHeld => ?_)
            have hHeld := hHeld.resolve_right (by decide)
            clear hK K
            try simp only [Act.put, List.setIfInBounds_toArray, List.set_cons_zero, List.set_cons_succ]
            refine wpAnyK_ready (rs := [20]) (by kernel_rfl) (by simp) ?_
            refine AllReadyK.cons (o := { dst := some 79, op := Go.Op.call { callee := Go.Callee.builtin Go.Builtin.append, args := #[Go.Operand.tmp 72, Go.Operand.tmp 78], argTypes := #[22, 22] }, type := 22, pos := "ref.go:61", after := #[{ on := 13, ground := Go.Ground.data }, { on := 19, ground := Go.Ground.data }, { on := 13, ground := Go.Ground.chain }], guard := none }) rfl (fun K hK => ?_) AllReadyK.nil
            refine step_append_s6 rfl _ _ rfl W4.heap.size _ _ (xs.take k ++ [X]) ?hnz52 rfl hown4 _ _ _ (xs.drop k) ?hmz52 rfl ?hhz52 ?hsumz52 ?hbasez52 ?restz52
            case hnz52 => have := HN.out; have := HKN.out; rw [List.length_append, List.length_take, List.length_singleton]; omega
            case hmz52 => have := HN.out; have := HKN.out; rw [List.length_drop]; omega
            case hhz52 => first | exact (HHX.out _ (by (repeat (first | assumption | exact ScL.start _ | apply ScL.dr | apply ScL.alloc)))).drop k | exact held_dropS6 (HHX.out _ (by (repeat (first | assumption | exact ScL.start _ | apply ScL.dr | apply ScL.alloc)))) k (by have := HN.out; have := HKC.out; omega)
            case hsumz52 => have := HKN.out; have := HNL.out; omega
            case hbasez52 => exact ScL.size (by (repeat (first | assumption | exact ScL.start _ | apply ScL.dr | apply ScL.alloc)))
            intro b5 c5 w7 hown5 hb5 hg5
            have hsc5 : ScL W4 w7 := ScL.grown (by (repeat (first | assumption | exact ScL.start _ | apply ScL.dr | apply ScL.alloc))) hb5
            refine hK.out _ _ (.inr (HSA.out _ (by (repeat (first | assumption | exact ScL.start _ | apply ScL.dr | apply ScL.alloc))))) (fun hHeld => ?_)
            have hHeld := hHeld.resolve_right (by decide)
            clear hK K
            try simp only [Act.put, List.setIfInBounds_toArray, List.set_cons_zero, List.set_cons_succ]
            have hpk5 := HX4.out.rl.blk.below hsc5.out HX4.out.rl.blk.lt
            have f5 := hpk5.frozen 0
            have e5 := hpk5.cell (i := 0) rfl
            rw [HN.out] at e5
            refine wpAnyK_take (i := 21) (oi := { dst := some 80, op := Go.Op.nilCheck (Go.Operand.tmp 59), type := 0, pos := "ref.go:61", after := #[{ on := 0, ground := Go.Ground.data }, { on := 0, ground := Go.Ground.phase }, { on := 1, ground := Go.Ground.phase }, { on := 2, ground := Go.Ground.phase }, { on := 3, ground := Go.Ground.phase }, { on := 4, ground := Go.Ground.phase }, { on := 5, ground := Go.Ground.phase }, { on := 6, ground := Go.Ground.phase }, { on := 7, ground := Go.Ground.phase }, { on := 8, ground := Go.Ground.phase }, { on := 9, ground := Go.Ground.phase }, { on := 10, ground := Go.Ground.phase }, { on := 11, ground := Go.Ground.phase }, { on := 12, ground := Go.Ground.phase }, { on := 13, ground := Go.Ground.phase }, { on := 14, ground := Go.Ground.phase }, { on := 15, ground := Go.Ground.phase }, { on := 16, ground := Go.Ground.phase }, { on := 17, ground := Go.Ground.phase }, { on := 18, ground := Go.Ground.phase }, { on := 19, ground := Go.Ground.phase }, { on := 20, ground := Go.Ground.phase }], guard := none }) (v := ?vq53) [22] rfl (by kernel_rfl) (by kernel_rfl) (by kernel_rfl) (by kernel_rfl) (by kernel_rfl) (fun _ _ _ h => h) (Or.inl ⟨by rfl, ?hyq53⟩) (by assumption) ?restq53
            case hyq53 => (intro w0 hSw; (try dsimp only at hSw); go_simp; try with_reducible rfl)
            simp only [Act.put, List.setIfInBounds_toArray, List.set_cons_zero, List.set_cons_succ]
            refine wpAnyK_take (i := 22) (oi := { dst := some 81, op := Go.Op.fieldAddr 27 (Go.Operand.tmp 80) 0, type := 0, pos := "ref.go:61", after := #[{ on := 21, ground := Go.Ground.data }, { on := 0, ground := Go.Ground.phase }, { on := 1, ground := Go.Ground.phase }, { on := 2, ground := Go.Ground.phase }, { on := 3, ground := Go.Ground.phase }, { on := 4, ground := Go.Ground.phase }, { on := 5, ground := Go.Ground.phase }, { on := 6, ground := Go.Ground.phase }, { on := 7, ground := Go.Ground.phase }, { on := 8, ground := Go.Ground.phase }, { on := 9, ground := Go.Ground.phase }, { on := 10, ground := Go.Ground.phase }, { on := 11, ground := Go.Ground.phase }, { on := 12, ground := Go.Ground.phase }, { on := 13, ground := Go.Ground.phase }, { on := 14, ground := Go.Ground.phase }, { on := 15, ground := Go.Ground.phase }, { on := 16, ground := Go.Ground.phase }, { on := 17, ground := Go.Ground.phase }, { on := 18, ground := Go.Ground.phase }, { on := 19, ground := Go.Ground.phase }, { on := 20, ground := Go.Ground.phase }], guard := none }) (v := ?vq54) [] rfl (by kernel_rfl) (by kernel_rfl) (by kernel_rfl) (by kernel_rfl) (by kernel_rfl) (fun _ _ _ h => h) (Or.inl ⟨by rfl, ?hyq54⟩) (by assumption) ?restq54
            case hyq54 => (intro w0 hSw; (try dsimp only at hSw); go_simp; try with_reducible rfl)
            simp only [Act.put, List.setIfInBounds_toArray, List.set_cons_zero, List.set_cons_succ]
            refine wpAnyK_ready (rs := [23]) (by kernel_rfl) (by simp) ?_
            refine AllReadyK.cons (o := { dst := none, op := Go.Op.store 22 (Go.Operand.tmp 81) (Go.Operand.tmp 79), type := 0, pos := "ref.go:61", after := #[{ on := 22, ground := Go.Ground.data }, { on := 20, ground := Go.Ground.data }, { on := 20, ground := Go.Ground.chain }, { on := 0, ground := Go.Ground.phase }, { on := 1, ground := Go.Ground.phase }, { on := 2, ground := Go.Ground.phase }, { on := 3, ground := Go.Ground.phase }, { on := 4, ground := Go.Ground.phase }, { on := 5, ground := Go.Ground.phase }, { on := 6, ground := Go.Ground.phase }, { on := 7, ground := Go.Ground.phase }, { on := 8, ground := Go.Ground.phase }, { on := 9, ground := Go.Ground.phase }, { on := 10, ground := Go.Ground.phase }, { on := 11, ground := Go.Ground.phase }, { on := 12, ground := Go.Ground.phase }, { on := 13, ground := Go.Ground.phase }, { on := 14, ground := Go.Ground.phase }, { on := 15, ground := Go.Ground.phase }, { on := 16, ground := Go.Ground.phase }, { on := 17, ground := Go.Ground.phase }, { on := 18, ground := Go.Ground.phase }, { on := 19, ground := Go.Ground.phase }, { on := 20, ground := Go.Ground.phase }], guard := none }) rfl (fun K hK => ?_) AllReadyK.nil
            go_simp
            refine hK.out _ _ (.inl rfl) (fun _ => ?_)
            clear hK K
            try simp only [Act.put, List.setIfInBounds_toArray, List.set_cons_zero, List.set_cons_succ]
            refine wpAnyK_done (by kernel_rfl) ?_ _
            refine NoPanic.normal ?_
            have HEND := hid (HFIN.out w7 _ b5 c5 k _ hsc5 HKE.out (by have := HKN.out; omega) hown5 rfl)
            clear hown3 hown4 hown5 hsc3 hsc4 hsc5 hb3 hb4 hb5 hg3 hg4 hg5 hHeld hs0 f5 e5 hpk5
            go_wp2
            all_goals (go_ret; exact HEND.out)
        · go_simp
          refine hK.out _ _ (.inr (HSA.out _ (by (repeat (first | assumption | exact ScL.start _ | apply ScL.dr | apply ScL.alloc))))) (fun hHeld => ?_)
          have hHeld := hHeld.resolve_right (by decide)
          clear hK K
          try simp only [Act.put, List.setIfInBounds_toArray, List.set_cons_zero, List.set_cons_succ]
          refine wpAnyK_ready (rs := [1]) (by kernel_rfl) (by simp) ?_
          refine AllReadyK.cons (o := { dst := some 60, op := Go.Op.buildSlice 22 0 #[], type := 22, pos := "ref.go:61", after := #[], guard := none }) rfl (fun K hK => ?_) AllReadyK.nil
          go_simp
          refine hK.out _ _ (.inr (HSA.out _ (by (repeat (first | assumption | exact ScL.start _ | apply ScL.dr | apply ScL.alloc))))) (fun hHeld => ?_)
          have hHeld := hHeld.resolve_right (by decide)
          clear hK K
          try simp only [Act.put, List.setIfInBounds_toArray, List.set_cons_zero, List.set_cons_succ]
          refine wpAnyK_ready (rs := [8]) (by kernel_rfl) (by simp) ?_
          refine AllReadyK.cons (o := { dst := some 67, op := Go.Op.call { callee := Go.Callee.builtin Go.Builtin.append, args := #[Go.Operand.tmp 60, Go.Operand.tmp 66], argTypes := #[22, 22] }, type := 22, pos := "ref.go:61", after := #[{ on := 1, ground := Go.Ground.data }, { on := 7, ground := Go.Ground.data }], guard := none }) rfl (fun K hK => ?_) AllReadyK.nil
          refine step_copy_s6 rfl _ _ rfl W4.heap.size _ rfl ?ownz59 _ _ _ (xs.take k) ?hmz59 rfl ?hhz59 ?hsumz59 ?hbasez59 ?restz59
          case ownz59 => first | exact ownS6_made W4 _ (Nat.le_refl _) | exact (ownS6_made W4 _ (Nat.le_refl _)).alloc _ | exact ownS6_made2 W4 _ _ (Nat.le_refl _)
          case hmz59 => have := HN.out; have := HKN.out; rw [List.length_take]; omega
          case hhz59 => first | exact (HHX.out _ (by (repeat (first | assumption | exact ScL.start _ | apply ScL.dr | apply ScL.alloc)))).take k | exact (.inl (by have := HN.out; have := HKN.out; exact List.take_eq_nil_iff.2 (.inl (by omega))))
          case hsumz59 => have := HKN.out; have := HNL.out; omega
          case hbasez59 => exact ScL.size (by (repeat (first | assumption | exact ScL.start _ | apply ScL.dr | apply ScL.alloc)))
          intro b3 c3 w5 hown3 hb3 hg3
          have hsc3 : ScL W4 w5 := ScL.grown (by (repeat (first | assumption | exact ScL.start _ | apply ScL.dr | apply ScL.alloc))) hb3
          refine hK.out _ _ (.inr (HSA.out _ (by (repeat (first | assumption | exact ScL.start _ | apply ScL.dr | apply ScL.alloc))))) (fun hHeld => ?_)
          have hHeld := hHeld.resolve_right (by decide)
          clear hK K
          try simp only [Act.put, List.setIfInBounds_toArray, List.set_cons_zero, List.set_cons_succ]
          refine wpAnyK_ready (rs := [13]) (by kernel_rfl) (by simp) ?_
          refine AllReadyK.cons (o := { dst := some 72, op := Go.Op.call { callee := Go.Callee.builtin Go.Builtin.append, args := #[Go.Operand.tmp 67, Go.Operand.tmp 71], argTypes := #[22, 22] }, type := 22, pos := "ref.go:61", after := #[{ on := 8, ground := Go.Ground.data }, { on := 12, ground := Go.Ground.data }, { on := 8, ground := Go.Ground.chain }], guard := none }) rfl (fun K hK => ?_) AllReadyK.nil
          refine step_append_s6 rfl _ _ rfl W4.heap.size _ _ (xs.take k) ?hnz60 rfl (hown3) _ 1 1 [X] rfl rfl ?hhz60 ?hsumz60 ?hbasez60 ?restz60
          case hnz60 => have := HN.out; have := HKN.out; rw [List.length_take]; omega
          case hhz60 => exact held_grownS6 (show HeldS6 _ (some ⟨W4.heap.size, 0, none⟩) [X] from HHA.out) hg3 (by simp)
          case hsumz60 => have := HKN.out; have := HNL.out; omega
          case hbasez60 => exact ScL.size (by (repeat (first | assumption | exact ScL.start _ | apply ScL.dr | apply ScL.alloc)))
          intro b4 c4 w6 hown4 hb4 hg4
          have hsc4 : ScL W4 w6 := ScL.grown (by (repeat (first | assumption | exact ScL.start _ | apply ScL.dr | apply ScL.alloc))) hb4
          refine hK.out _ _ (.inr (HSA.out _ (by (repeat (first | assumption | exact ScL.start _ | apply ScL.dr | apply ScL.alloc))))) (fun hHeld => ?_)
          have hHeld := hHeld.resolve_right (by decide)
          clear hK K
          try simp only [Act.put, List.setIfInBounds_toArray, List.set_cons_zero, List.set_cons_succ]
          refine wpAnyK_ready (rs := [20]) (by kernel_rfl) (by simp) ?_
          refine AllReadyK.cons (o := { dst := some 79, op := Go.Op.call { callee := Go.Callee.builtin Go.Builtin.append, args := #[Go.Operand.tmp 72, Go.Operand.tmp 78], argTypes := #[22, 22] }, type := 22, pos := "ref.go:61", after := #[{ on := 13, ground := Go.Ground.data }, { on := 19, ground := Go.Ground.data }, { on := 13, ground := Go.Ground.chain }], guard := none }) rfl (fun K hK => ?_) AllReadyK.nil
          refine step_append_s6 rfl _ _ rfl W4.heap.size _ _ (xs.take k ++ [X]) ?hnz61 rfl hown4 _ _ _ (xs.drop k) ?hmz61 rfl ?hhz61 ?hsumz61 ?hbasez61 ?restz61
          case hnz61 => have := HN.out; have := HKN.out; rw [List.length_append, List.length_take, List.length_singleton]; omega
          case hmz61 => have := HN.out; have := HKN.out; rw [List.length_drop]; omega
          case hhz61 => first | exact (HHX.out _ (by (repeat (first | assumption | exact ScL.start _ | apply ScL.dr | apply ScL.alloc)))).drop k | exact held_dropS6 (HHX.out _ (by (repeat (first | assumption | exact ScL.start _ | apply ScL.dr | apply ScL.alloc)))) k (by have := HN.out; have := HKC.out; omega)
          case hsumz61 => have := HKN.out; have := HNL.out; omega
          case hbasez61 => exact ScL.size (by (repeat (first | assumption | exact ScL.start _ | apply ScL.dr | apply ScL.alloc)))
          intro b5 c5 w7 hown5 hb5 hg5
          have hsc5 : ScL W4 w7 := ScL.grown (by (repeat (first | assumption | exact ScL.start _ | apply ScL.dr | apply ScL.alloc))) hb5
          refine hK.out _ _ (.inr (HSA.out _ (by (repeat (first | assumption | exact ScL.start _ | apply ScL.dr | apply ScL.alloc))))) (fun hHeld => ?_)
          have hHeld := hHeld.resolve_right (by decide)
          clear hK K
          try simp only [Act.put, List.setIfInBounds_toArray, List.set_cons_zero, List.set_cons_succ]
          have hpk5 := HX4.out.rl.blk.below hsc5.out HX4.out.rl.blk.lt
          have f5 := hpk5.frozen 0
          have e5 := hpk5.cell (i := 0) rfl
          rw [HN.out] at e5
          refine wpAnyK_take (i := 21) (oi := { dst := some 80, op := Go.Op.nilCheck (Go.Operand.tmp 59), type := 0, pos := "ref.go:61", after := #[{ on := 0, ground := Go.Ground.data }, { on := 0, ground := Go.Ground.phase }, { on := 1, ground := Go.Ground.phase }, { on := 2, ground := Go.Ground.phase }, { on := 3, ground := Go.Ground.phase }, { on := 4, ground := Go.Ground.phase }, { on := 5, ground := Go.Ground.phase }, { on := 6, ground := Go.Ground.phase }, { on := 7, ground := Go.Ground.phase }, { on := 8, ground := Go.Ground.phase }, { on := 9, ground := Go.Ground.phase }, { on := 10, ground := Go.Ground.phase }, { on := 11, ground := Go.Ground.phase }, { on := 12, ground := Go.Ground.phase }, { on := 13, ground := Go.Ground.phase }, { on := 14, ground := Go.Ground.phase }, { on := 15, ground := Go.Ground.phase }, { on := 16, ground := Go.Ground.phase }, { on := 17, ground := Go.Ground.phase }, { on := 18, ground := Go.Ground.phase }, { on := 19, ground := Go.Ground.phase }, { on := 20, ground := Go.Ground.phase }], guard := none }) (v := ?vq62) [22] rfl (by kernel_rfl) (by kernel_rfl) (by kernel_rfl) (by kernel_rfl) (by kernel_rfl) (fun _ _ _ h => h) (Or.inl ⟨by rfl, ?hyq62⟩) (by assumption) ?restq62
          case hyq62 => (intro w0 hSw; (try dsimp only at hSw); go_simp; try with_reducible rfl)
          simp only [Act.put, List.setIfInBounds_toArray, List.set_cons_zero, List.set_cons_succ]
          refine wpAnyK_take (i := 22) (oi := { dst := some 81, op := Go.Op.fieldAddr 27 (Go.Operand.tmp 80) 0, type := 0, pos := "ref.go:61", after := #[{ on := 21, ground := Go.Ground.data }, { on := 0, ground := Go.Ground.phase }, { on := 1, ground := Go.Ground.phase }, { on := 2, ground := Go.Ground.phase }, { on := 3, ground := Go.Ground.phase }, { on := 4, ground := Go.Ground.phase }, { on := 5, ground := Go.Ground.phase }, { on := 6, ground := Go.Ground.phase }, { on := 7, ground := Go.Ground.phase }, { on := 8, ground := Go.Ground.phase }, { on := 9, ground := Go.Ground.phase }, { on := 10, ground := Go.Ground.phase }, { on := 11, ground := Go.Ground.phase }, { on := 12, ground := Go.Ground.phase }, { on := 13, ground := Go.Ground.phase }, { on := 14, ground := Go.Ground.phase }, { on := 15, ground := Go.Ground.phase }, { on := 16, ground := Go.Ground.phase }, { on := 17, ground := Go.Ground.phase }, { on := 18, ground := Go.Ground.phase }, { on := 19, ground := Go.Ground.phase }, { on := 20, ground := Go.Ground.phase }], guard := none }) (v := ?vq63) [] rfl (by kernel_rfl) (by kernel_rfl) (by kernel_rfl) (by kernel_rfl) (by kernel_rfl) (fun _ _ _ h => h) (Or.inl ⟨by rfl, ?hyq63⟩) (by assumption) ?restq63
          case hyq63 => (intro w0 hSw; (try dsimp only at hSw); go_simp; try with_reducible rfl)
          simp only [Act.put, List.setIfInBounds_toArray, List.set_cons_zero, List.set_cons_succ]
          refine wpAnyK_ready (rs := [23]) (by kernel_rfl) (by simp) ?_
          refine AllReadyK.cons (o := { dst := none, op := Go.Op.store 22 (Go.Operand.tmp 81) (Go.Operand.tmp 79), type := 0, pos := "ref.go:61", after := #[{ on := 22, ground := Go.Ground.data }, { on := 20, ground := Go.Ground.data }, { on := 20, ground := Go.Ground.chain }, { on := 0, ground := Go.Ground.phase }, { on := 1, ground := Go.Ground.phase }, { on := 2, ground := Go.Ground.phase }, { on := 3, ground := Go.Ground.phase }, { on := 4, ground := Go.Ground.phase }, { on := 5, ground := Go.Ground.phase }, { on := 6, ground := Go.Ground.phase }, { on := 7, ground := Go.Ground.phase }, { on := 8, ground := Go.Ground.phase }, { on := 9, ground := Go.Ground.phase }, { on := 10, ground := Go.Ground.phase }, { on := 11, ground := Go.Ground.phase }, { on := 12, ground := Go.Ground.phase }, { on := 13, ground := Go.Ground.phase }, { on := 14, ground := Go.Ground.phase }, { on := 15, ground := Go.Ground.phase }, { on := 16, ground := Go.Ground.phase }, { on := 17, ground := Go.Ground.phase }, { on := 18, ground := Go.Ground.phase }, { on := 19, ground := Go.Ground.phase }, { on := 20, ground := Go.Ground.phase }], guard := none }) rfl (fun K hK => ?_) AllReadyK.nil
          go_simp
          refine hK.out _ _ (.inl rfl) (fun _ => ?_)
          clear hK K
          try simp only [Act.put, List.setIfInBounds_toArray, List.set_cons_zero, List.set_cons_succ]
          refine wpAnyK_done (by kernel_rfl) ?_ _
          refine NoPanic.normal ?_
          have HEND := hid (HFIN.out w7 _ b5 c5 k _ hsc5 HKE.out (by have := HKN.out; omega) hown5 rfl)
          clear hown3 hown4 hown5 hsc3 hsc4 hsc5 hb3 hb4 hb5 hg3 hg4 hg5 hHeld hs0 f5 e5 hpk5
          go_wp2
          all_goals (go_ret; exact HEND.out)
      | none =>
        have hn0 : n = 0 := by rw [← HN.out]; exact rl_none H.out.rl
        have hk00 : k = 0 := by have := HKE2.out; omega
        subst hn0
        subst hk00
        have HCP : Hid (cap = 0) := rl_none_cap H.out.rl
        rw [HCP.out] at HX4 HSA H hx0 HALL
        go_wp2
        obtain ⟨hk0, hkn, hkc, hnc⟩ := HALL.out
        refine wp_region_noPanic ?_
        refine wp_region_K 23 (fun V => ScL W4 V ∧ V.cell? ⟨x, 0, none⟩ = some (.slice none 0 0) ∧ V.cell? ⟨pb, 0, none⟩ = some (.bool np) ∧ V.cell? ⟨pb, 1, none⟩ = some (.string tk) ∧ V.cell? ⟨pb, 2, none⟩ = some (.string ct) ∧ V.cell? ⟨pb, 3, none⟩ = some (.int .i64 ep) ∧ V.cell? ⟨pb, 4, none⟩ = some (.slice ao1 XN cap1)) (by kernel_rfl) (HSA.out _ (ScL.start W4).dr) (fun hHeld => ?_)
        have hs0 := (ScL.start W4).dr
        refine wpAnyK_take (i := 0) (oi := { dst := some 59, op := Go.Op.move (Go.Operand.tmp 0), type := 25, pos := "ref.go:61", after := #[], guard := none }) (v := ?vq67) [] rfl (by kernel_rfl) (by kernel_rfl) (by kernel_rfl) (by kernel_rfl) (by kernel_rfl) (fun _ _ _ h => h) (Or.inl ⟨by rfl, ?hyq67⟩) (by assumption) ?restq67
        case hyq67 => (intro w0 hSw; (try dsimp only at hSw); go_simp; try with_reducible rfl)
        simp only [Act.put, List.setIfInBounds_toArray, List.set_cons_zero, List.set_cons_succ]
        refine wpAnyK_take (i := 2) (oi := { dst := some 61, op := Go.Op.move (Go.Operand.tmp 0), type := 25, pos := "ref.go:61", after := #[], guard := none }) (v := ?vq68) [] rfl (by kernel_rfl) (by kernel_rfl) (by kernel_rfl) (by kernel_rfl) (by kernel_rfl) (fun _ _ _ h => h) (Or.inl ⟨by rfl, ?hyq68⟩) (by assumption) ?restq68
        case hyq68 => (intro w0 hSw; (try dsimp only at hSw); go_simp; try with_reducible rfl)
        simp only [Act.put, List.setIfInBounds_toArray, List.set_cons_zero, List.set_cons_succ]
        refine wpAnyK_take (i := 3) (oi := { dst := some 62, op := Go.Op.nilCheck (Go.Operand.tmp 61), type := 0, pos := "ref.go:61", after := #[{ on := 2, ground := Go.Ground.data }], guard := none }) (v := ?vq69) [] rfl (by kernel_rfl) (by kernel_rfl) (by kernel_rfl) (by kernel_rfl) (by kernel_rfl) (fun _ _ _ h => h) (Or.inl ⟨by rfl, ?hyq69⟩) (by assumption) ?restq69
        case hyq69 => (intro w0 hSw; (try dsimp only at hSw); go_simp; try with_reducible rfl)
        simp only [Act.put, List.setIfInBounds_toArray, List.set_cons_zero, List.set_cons_succ]
        refine wpAnyK_take (i := 4) (oi := { dst := some 63, op := Go.Op.fieldAddr 27 (Go.Operand.tmp 62) 0, type := 0, pos := "ref.go:61", after := #[{ on := 3, ground := Go.Ground.data }], guard := none }) (v := ?vq70) [] rfl (by kernel_rfl) (by kernel_rfl) (by kernel_rfl) (by kernel_rfl) (by kernel_rfl) (fun _ _ _ h => h) (Or.inl ⟨by rfl, ?hyq70⟩) (by assumption) ?restq70
        case hyq70 => (intro w0 hSw; (try dsimp only at hSw); go_simp; try with_reducible rfl)
        simp only [Act.put, List.setIfInBounds_toArray, List.set_cons_zero, List.set_cons_succ]
        refine wpAnyK_take (i := 5) (oi := { dst := some 64, op := Go.Op.load 22 (Go.Operand.tmp 63), type := 22, pos := "ref.go:61", after := #[{ on := 4, ground := Go.Ground.data }], guard := none }) (v := ?vq71) [] rfl (by kernel_rfl) (by kernel_rfl) (by kernel_rfl) (by kernel_rfl) (by kernel_rfl) (fun _ _ _ h => h) (Or.inl ⟨by rfl, ?hyq71⟩) (by assumption) ?restq71
        case hyq71 => (intro w0 hSw; (try dsimp only at hSw); go_simp; try with_reducible rfl)
        simp only [Act.put, List.setIfInBounds_toArray, List.set_cons_zero, List.set_cons_succ]
        refine wpAnyK_take (i := 6) (oi := { dst := some 65, op := Go.Op.move (Go.Operand.tmp 9), type := 3, pos := "ref.go:61", after := #[], guard := none }) (v := ?vq72) [] rfl (by kernel_rfl) (by kernel_rfl) (by kernel_rfl) (by kernel_rfl) (by kernel_rfl) (fun _ _ _ h => h) (Or.inl ⟨by rfl, ?hyq72⟩) (by assumption) ?restq72
        case hyq72 => (intro w0 hSw; (try dsimp only at hSw); go_simp; try with_reducible rfl)
        simp only [Act.put, List.setIfInBounds_toArray, List.set_cons_zero, List.set_cons_succ]
        refine wpAnyK_take (i := 7) (oi := { dst := some 66, op := Go.Op.slice 22 (Go.Operand.tmp 64) none (some (Go.Operand.tmp 65)) none, type := 22, pos := "ref.go:61", after := #[{ on := 5, ground := Go.Ground.data }, { on := 6, ground := Go.Ground.data }], guard := none }) (v := ?vq73) [] rfl (by kernel_rfl) (by kernel_rfl) (by kernel_rfl) (by kernel_rfl) (by kernel_rfl) (fun _ _ _ h => h) (Or.inl ⟨by rfl, ?hyq73⟩) (by assumption) ?restq73
        case hyq73 => (intro w0 hSw; (try dsimp only at hSw); go_simp; try with_reducible rfl)
        simp only [Act.put, List.setIfInBounds_toArray, List.set_cons_zero, List.set_cons_succ]
        refine wpAnyK_take (i := 9) (oi := { dst := some 68, op := Go.Op.move (Go.Operand.tmp 1), type := 3, pos := "ref.go:61", after := #[], guard := none }) (v := ?vq74) [] rfl (by kernel_rfl) (by kernel_rfl) (by kernel_rfl) (by kernel_rfl) (by kernel_rfl) (fun _ _ _ h => h) (Or.inl ⟨by rfl, ?hyq74⟩) (by assumption) ?restq74
        case hyq74 => (intro w0 hSw; (try dsimp only at hSw); go_simp; try with_reducible rfl)
        simp only [Act.put, List.setIfInBounds_toArray, List.set_cons_zero, List.set_cons_succ]
        refine wpAnyK_take (i := 10) (oi := { dst := some 69, op := Go.Op.load 33 (Go.Operand.tmp 5), type := 33, pos := "ref.go:61", after := #[], guard := none }) (v := ?vq75) [] rfl (by kernel_rfl) (by kernel_rfl) (by kernel_rfl) (by kernel_rfl) (by kernel_rfl) (fun _ _ _ h => h) (Or.inl ⟨by rfl, ?hyq75⟩) (by assumption) ?restq75
        case hyq75 => (intro w0 hSw; (try dsimp only at hSw); go_simp; try with_reducible rfl)
        simp only [Act.put, List.setIfInBounds_toArray, List.set_cons_zero, List.set_cons_succ]
        refine wpAnyK_take (i := 11) (oi := { dst := some 70, op := Go.Op.build 35 #[(0, Go.Operand.tmp 68), (1, Go.Operand.tmp 69)], type := 35, pos := "ref.go:61", after := #[{ on := 9, ground := Go.Ground.data }, { on := 10, ground := Go.Ground.data }], guard := none }) (v := ?vq76) [] rfl (by kernel_rfl) (by kernel_rfl) (by kernel_rfl) (by kernel_rfl) (by kernel_rfl) (fun _ _ _ h => h) (Or.inl ⟨by rfl, ?hyq76⟩) (by assumption) ?restq76
        case hyq76 => (intro w0 hSw; (try dsimp only at hSw); go_simp; try with_reducible rfl)
        simp only [Act.put, List.setIfInBounds_toArray, List.set_cons_zero, List.set_cons_succ]
        refine wpAnyK_take (i := 14) (oi := { dst := some 73, op := Go.Op.move (Go.Operand.tmp 0), type := 25, pos := "ref.go:61", after := #[], guard := none }) (v := ?vq77) [] rfl (by kernel_rfl) (by kernel_rfl) (by kernel_rfl) (by kernel_rfl) (by kernel_rfl) (fun _ _ _ h => h) (Or.inl ⟨by rfl, ?hyq77⟩) (by assumption) ?restq77
        case hyq77 => (intro w0 hSw; (try dsimp only at hSw); go_simp; try with_reducible rfl)
        simp only [Act.put, List.setIfInBounds_toArray, List.set_cons_zero, List.set_cons_succ]
        refine wpAnyK_take (i := 15) (oi := { dst := some 74, op := Go.Op.nilCheck (Go.Operand.tmp 73), type := 0, pos := "ref.go:61", after := #[{ on := 14, ground := Go.Ground.data }], guard := none }) (v := ?vq78) [] rfl (by kernel_rfl) (by kernel_rfl) (by kernel_rfl) (by kernel_rfl) (by kernel_rfl) (fun _ _ _ h => h) (Or.inl ⟨by rfl, ?hyq78⟩) (by assumption) ?restq78
        case hyq78 => (intro w0 hSw; (try dsimp only at hSw); go_simp; try with_reducible rfl)
        simp only [Act.put, List.setIfInBounds_toArray, List.set_cons_zero, List.set_cons_succ]
        refine wpAnyK_take (i := 16) (oi := { dst := some 75, op := Go.Op.fieldAddr 27 (Go.Operand.tmp 74) 0, type := 0, pos := "ref.go:61", after := #[{ on := 15, ground := Go.Ground.data }], guard := none }) (v := ?vq79) [] rfl (by kernel_rfl) (by kernel_rfl) (by kernel_rfl) (by kernel_rfl) (by kernel_rfl) (fun _ _ _ h => h) (Or.inl ⟨by rfl, ?hyq79⟩) (by assumption) ?restq79
        case hyq79 => (intro w0 hSw; (try dsimp only at hSw); go_simp; try with_reducible rfl)
        simp only [Act.put, List.setIfInBounds_toArray, List.set_cons_zero, List.set_cons_succ]
        refine wpAnyK_take (i := 17) (oi := { dst := some 76, op := Go.Op.load 22 (Go.Operand.tmp 75), type := 22, pos := "ref.go:61", after := #[{ on := 16, ground := Go.Ground.data }], guard := none }) (v := ?vq80) [] rfl (by kernel_rfl) (by kernel_rfl) (by kernel_rfl) (by kernel_rfl) (by kernel_rfl) (fun _ _ _ h => h) (Or.inl ⟨by rfl, ?hyq80⟩) (by assumption) ?restq80
        case hyq80 => (intro w0 hSw; (try dsimp only at hSw); go_simp; try with_reducible rfl)
        simp only [Act.put, List.setIfInBounds_toArray, List.set_cons_zero, List.set_cons_succ]
        refine wpAnyK_take (i := 18) (oi := { dst := some 77, op := Go.Op.move (Go.Operand.tmp 9), type := 3, pos := "ref.go:61", after := #[], guard := none }) (v := ?vq81) [] rfl (by kernel_rfl) (by kernel_rfl) (by kernel_rfl) (by kernel_rfl) (by kernel_rfl) (fun _ _ _ h => h) (Or.inl ⟨by rfl, ?hyq81⟩) (by assumption) ?restq81
        case hyq81 => (intro w0 hSw; (try dsimp only at hSw); go_simp; try with_reducible rfl)
        simp only [Act.put, List.setIfInBounds_toArray, List.set_cons_zero, List.set_cons_succ]
        refine wpAnyK_take (i := 19) (oi := { dst := some 78, op := Go.Op.slice 22 (Go.Operand.tmp 76) (some (Go.Operand.tmp 77)) none none, type := 22, pos := "ref.go:61", after := #[{ on := 17, ground := Go.Ground.data }, { on := 18, ground := Go.Ground.data }], guard := none }) (v := ?vq82) [] rfl (by kernel_rfl) (by kernel_rfl) (by kernel_rfl) (by kernel_rfl) (by kernel_rfl) (fun _ _ _ h => h) (Or.inl ⟨by rfl, ?hyq82⟩) (by assumption) ?restq82
        case hyq82 => (intro w0 hSw; (try dsimp only at hSw); go_simp; try with_reducible rfl)
        simp only [Act.put, List.setIfInBounds_toArray, List.set_cons_zero, List.set_cons_succ]
        refine wpAnyK_ready (rs := [1, 12]) (by kernel_rfl) (by simp) ?_
        refine AllReadyK.cons (o := { dst := some 60, op := Go.Op.buildSlice 22 0 #[], type := 22, pos := "ref.go:61", after := #[], guard := none }) rfl (fun K hK => ?_) (AllReadyK.cons (o := { dst := some 71, op := Go.Op.buildSlice 22 1 #[(0, Go.Operand.tmp 70)], type := 22, pos := "ref.go:61", after := #[{ on := 11, ground := Go.Ground.data }], guard := none }) rfl (fun K hK => ?_) AllReadyK.nil)
        · go_simp
          refine hK.out _ _ (.inr (HSA.out _ (by (repeat (first | assumption | exact ScL.start _ | apply ScL.dr | apply ScL.alloc))))) (fun hHeld => ?_)
          have hHeld := hHeld.resolve_right (by decide)
          clear hK K
          try simp only [Act.put, List.setIfInBounds_toArray, List.set_cons_zero, List.set_cons_succ]
          refine wpAnyK_ready (rs := [8, 12]) (by kernel_rfl) (by simp) ?_
          refine AllReadyK.cons (o := { dst := some 67, op := Go.Op.call { callee := Go.Callee.builtin Go.Builtin.append, args := #[Go.Operand.tmp 60, Go.Operand.tmp 66], argTypes := #[22, 22] }, type := 22, pos := "ref.go:61", after := #[{ on := 1, ground := Go.Ground.data }, { on := 7, ground := Go.Ground.data }], guard := none }) rfl (fun K hK => ?_) (AllReadyK.cons (o := { dst := some 71, op := Go.Op.buildSlice 22 1 #[(0, Go.Operand.tmp 70)], type := 22, pos := "ref.go:61", after := #[{ on := 11, ground := Go.Ground.data }], guard := none }) rfl (fun K hK => ?_) AllReadyK.nil)
          · refine step_copy_s6 rfl _ _ rfl W4.heap.size _ rfl ?ownz97 _ _ _ (xs.take 0) ?hmz97 rfl ?hhz97 ?hsumz97 ?hbasez97 ?restz97
            case ownz97 => first | exact ownS6_made W4 _ (Nat.le_refl _) | exact (ownS6_made W4 _ (Nat.le_refl _)).alloc _ | exact ownS6_made2 W4 _ _ (Nat.le_refl _)
            case hmz97 => have := HN.out; have := HKN.out; rw [List.length_take]; omega
            case hhz97 => first | exact (HHX.out _ (by (repeat (first | assumption | exact ScL.start _ | apply ScL.dr | apply ScL.alloc)))).take 0 | exact (.inl (by have := HN.out; have := HKN.out; exact List.take_eq_nil_iff.2 (.inl (by omega))))
            case hsumz97 => have := HKN.out; have := HNL.out; omega
            case hbasez97 => exact ScL.size (by (repeat (first | assumption | exact ScL.start _ | apply ScL.dr | apply ScL.alloc)))
            intro b3 c3 w5 hown3 hb3 hg3
            have hsc3 : ScL W4 w5 := ScL.grown (by (repeat (first | assumption | exact ScL.start _ | apply ScL.dr | apply ScL.alloc))) hb3
            refine hK.out _ _ (.inr (HSA.out _ (by (repeat (first | assumption | exact ScL.start _ | apply ScL.dr | apply ScL.alloc))))) (fun hHeld => ?_)
            have hHeld := hHeld.resolve_right (by decide)
            clear hK K
            try simp only [Act.put, List.setIfInBounds_toArray, List.set_cons_zero, List.set_cons_succ]
            refine wpAnyK_ready (rs := [12]) (by kernel_rfl) (by simp) ?_
            refine AllReadyK.cons (o := { dst := some 71, op := Go.Op.buildSlice 22 1 #[(0, Go.Operand.tmp 70)], type := 22, pos := "ref.go:61", after := #[{ on := 11, ground := Go.Ground.data }], guard := none }) rfl (fun K hK => ?_) AllReadyK.nil
            go_simp
            refine hK.out _ _ (.inr (HSA.out _ (by (repeat (first | assumption | exact ScL.start _ | apply ScL.dr | apply ScL.alloc))))) (fun hHeld => ?_)
            have hHeld := hHeld.resolve_right (by decide)
            clear hK K
            try simp only [Act.put, List.setIfInBounds_toArray, List.set_cons_zero, List.set_cons_succ]
            refine wpAnyK_ready (rs := [13]) (by kernel_rfl) (by simp) ?_
            refine AllReadyK.cons (o := { dst := some 72, op := Go.Op.call { callee := Go.Callee.builtin Go.Builtin.append, args := #[Go.Operand.tmp 67, Go.Operand.tmp 71], argTypes := #[22, 22] }, type := 22, pos := "ref.go:61", after := #[{ on := 8, ground := Go.Ground.data }, { on := 12, ground := Go.Ground.data }, { on := 8, ground := Go.Ground.chain }], guard := none }) rfl (fun K hK => ?_) AllReadyK.nil
            refine step_append_s6 rfl _ _ rfl W4.heap.size _ _ (xs.take 0) ?hnz88 rfl (hown3.alloc _) _ 1 1 [X] rfl rfl ?hhz88 ?hsumz88 ?hbasez88 ?restz88
            case hnz88 => have := HN.out; have := HKN.out; rw [List.length_take]; omega
            case hhz88 => exact HH3.out _
            case hsumz88 => have := HKN.out; have := HNL.out; omega
            case hbasez88 => exact ScL.size (by (repeat (first | assumption | exact ScL.start _ | apply ScL.dr | apply ScL.alloc)))
            intro b4 c4 w6 hown4 hb4 hg4
            have hsc4 : ScL W4 w6 := ScL.grown (by (repeat (first | assumption | exact ScL.start _ | apply ScL.dr | apply ScL.alloc))) hb4
            refine hK.out _ _ (.inr (HSA.out _ (by (repeat (first | assumption | exact ScL.start _ | apply ScL.dr | apply ScL.alloc))))) (fun hHeld => ?_)
            have hHeld := hHeld.resolve_right (by decide)
            clear hK K
            try simp only [Act.put, List.setIfInBounds_toArray, List.set_cons_zero, List.set_cons_succ]
            refine wpAnyK_ready (rs := [20]) (by kernel_rfl) (by simp) ?_
            refine AllReadyK.cons (o := { dst := some 79, op := Go.Op.call { callee := Go.Callee.builtin Go.Builtin.append, args := #[Go.Operand.tmp 72, Go.Operand.tmp 78], argTypes := #[22, 22] }, type := 22, pos := "ref.go:61", after := #[{ on := 13, ground := Go.Ground.data }, { on := 19, ground := Go.Ground.data }, { on := 13, ground := Go.Ground.chain }], guard := none }) rfl (fun K hK => ?_) AllReadyK.nil
            refine step_append_s6 rfl _ _ rfl W4.heap.size _ _ (xs.take 0 ++ [X]) ?hnz89 rfl hown4 _ _ _ (xs.drop 0) ?hmz89 rfl ?hhz89 ?hsumz89 ?hbasez89 ?restz89
            case hnz89 => have := HN.out; have := HKN.out; rw [List.length_append, List.length_take, List.length_singleton]; omega
            case hmz89 => have := HN.out; have := HKN.out; rw [List.length_drop]; omega
            case hhz89 => exact (.inl (by have := HN.out; have := HKN.out; exact List.drop_eq_nil_of_le (by omega)))
            case hsumz89 => have := HKN.out; have := HNL.out; omega
            case hbasez89 => exact ScL.size (by (repeat (first | assumption | exact ScL.start _ | apply ScL.dr | apply ScL.alloc)))
            intro b5 c5 w7 hown5 hb5 hg5
            have hsc5 : ScL W4 w7 := ScL.grown (by (repeat (first | assumption | exact ScL.start _ | apply ScL.dr | apply ScL.alloc))) hb5
            refine hK.out _ _ (.inr (HSA.out _ (by (repeat (first | assumption | exact ScL.start _ | apply ScL.dr | apply ScL.alloc))))) (fun hHeld => ?_)
            have hHeld := hHeld.resolve_right (by decide)
            clear hK K
            try simp only [Act.put, List.setIfInBounds_toArray, List.set_cons_zero, List.set_cons_succ]
            have hpk5 := HX4.out.rl.blk.below hsc5.out HX4.out.rl.blk.lt
            have f5 := hpk5.frozen 0
            have e5 := hpk5.cell (i := 0) rfl
            rw [HN.out] at e5
            refine wpAnyK_take (i := 21) (oi := { dst := some 80, op := Go.Op.nilCheck (Go.Operand.tmp 59), type := 0, pos := "ref.go:61", after := #[{ on := 0, ground := Go.Ground.data }, { on := 0, ground := Go.Ground.phase }, { on := 1, ground := Go.Ground.phase }, { on := 2, ground := Go.Ground.phase }, { on := 3, ground := Go.Ground.phase }, { on := 4, ground := Go.Ground.phase }, { on := 5, ground := Go.Ground.phase }, { on := 6, ground := Go.Ground.phase }, { on := 7, ground := Go.Ground.phase }, { on := 8, ground := Go.Ground.phase }, { on := 9, ground := Go.Ground.phase }, { on := 10, ground := Go.Ground.phase }, { on := 11, ground := Go.Ground.phase }, { on := 12, ground := Go.Ground.phase }, { on := 13, ground := Go.Ground.phase }, { on := 14, ground := Go.Ground.phase }, { on := 15, ground := Go.Ground.phase }, { on := 16, ground := Go.Ground.phase }, { on := 17, ground := Go.Ground.phase }, { on := 18, ground := Go.Ground.phase }, { on := 19, ground := Go.Ground.phase }, { on := 20, ground := Go.Ground.phase }], guard := none }) (v := ?vq90) [22] rfl (by kernel_rfl) (by kernel_rfl) (by kernel_rfl) (by kernel_rfl) (by kernel_rfl) (fun _ _ _ h => h) (Or.inl ⟨by rfl, ?hyq90⟩) (by assumption) ?restq90
            case hyq90 => (intro w0 hSw; (try dsimp only at hSw); go_simp; try with_reducible rfl)
            simp only [Act.put, List.setIfInBounds_toArray, List.set_cons_zero, List.set_cons_succ]
            refine wpAnyK_take (i := 22) (oi := { dst := some 81, op := Go.Op.fieldAddr 27 (Go.Operand.tmp 80) 0, type := 0, pos := "ref.go:61", after := #[{ on := 21, ground := Go.Ground.data }, { on := 0, ground := Go.Ground.phase }, { on := 1, ground := Go.Ground.phase }, { on := 2, ground := Go.Ground.phase }, { on := 3, ground := Go.Ground.phase }, { on := 4, ground := Go.Ground.phase }, { on := 5, ground := Go.Ground.phase }, { on := 6, ground := Go.Ground.phase }, { on := 7, ground := Go.Ground.phase }, { on := 8, ground := Go.Ground.phase }, { on := 9, ground := Go.Ground.phase }, { on := 10, ground := Go.Ground.phase }, { on := 11, ground := Go.Ground.phase }, { on := 12, ground := Go.Ground.phase }, { on := 13, ground := Go.Ground.phase }, { on := 14, ground := Go.Ground.phase }, { on := 15, ground := Go.Ground.phase }, { on := 16, ground := Go.Ground.phase }, { on := 17, ground := Go.Ground.phase }, { on := 18, ground := Go.Ground.phase }, { on := 19, ground := Go.Ground.phase }, { on := 20, ground := Go.Ground.phase }], guard := none }) (v := ?vq91) [] rfl (by kernel_rfl) (by kernel_rfl) (by kernel_rfl) (by kernel_rfl) (by kernel_rfl) (fun _ _ _ h => h) (Or.inl ⟨by rfl, ?hyq91⟩) (by assumption) ?restq91
            case hyq91 => (intro w0 hSw; (try dsimp only at hSw); go_simp; try with_reducible rfl)
            simp only [Act.put, List.setIfInBounds_toArray, List.set_cons_zero, List.set_cons_succ]
            refine wpAnyK_ready (rs := [23]) (by kernel_rfl) (by simp) ?_
            refine AllReadyK.cons (o := { dst := none, op := Go.Op.store 22 (Go.Operand.tmp 81) (Go.Operand.tmp 79), type := 0, pos := "ref.go:61", after := #[{ on := 22, ground := Go.Ground.data }, { on := 20, ground := Go.Ground.data }, { on := 20, ground := Go.Ground.chain }, { on := 0, ground := Go.Ground.phase }, { on := 1, ground := Go.Ground.phase }, { on := 2, ground := Go.Ground.phase }, { on := 3, ground := Go.Ground.phase }, { on := 4, ground := Go.Ground.phase }, { on := 5, ground := Go.Ground.phase }, { on := 6, ground := Go.Ground.phase }, { on := 7, ground := Go.Ground.phase }, { on := 8, ground := Go.Ground.phase }, { on := 9, ground := Go.Ground.phase }, { on := 10, ground := Go.Ground.phase }, { on := 11, ground := Go.Ground.phase }, { on := 12, ground := Go.Ground.phase }, { on := 13, ground := Go.Ground.phase }, { on := 14, ground := Go.Ground.phase }, { on := 15, ground := Go.Ground.phase }, { on := 16, ground := Go.Ground.phase }, { on := 17, ground := Go.Ground.phase }, { on := 18, ground := Go.Ground.phase }, { on := 19, ground := Go.Ground.phase }, { on := 20, ground := Go.Ground.phase }], guard := none }) rfl (fun K hK => ?_) AllReadyK.nil
            go_simp
            refine hK.out _ _ (.inl rfl) (fun _ => ?_)
            clear hK K
            try simp only [Act.put, List.setIfInBounds_toArray, List.set_cons_zero, List.set_cons_succ]
            refine wpAnyK_done (by kernel_rfl) ?_ _
            refine NoPanic.normal ?_
            have HEND := hid (HFIN.out w7 _ b5 c5 0 _ hsc5 HKE.out (by have := HKN.out; omega) hown5 rfl)
            clear hown3 hown4 hown5 hsc3 hsc4 hsc5 hb3 hb4 hb5 hg3 hg4 hg5 hHeld hs0 f5 e5 hpk5
            go_wp2
            all_goals (go_ret; exact HEND.out)
          · go_simp
            refine hK.out _ _ (.inr (HSA.out _ (by (repeat (first | assumption | exact ScL.start _ | apply ScL.dr | apply ScL.alloc))))) (fun hHeld => ?_)
            have hHeld := hHeld.resolve_right (by decide)
            clear hK K
            try simp only [Act.put, List.setIfInBounds_toArray, List.set_cons_zero, List.set_cons_succ]
            refine wpAnyK_ready (rs := [8]) (by kernel_rfl) (by simp) ?_
            refine AllReadyK.cons (o := { dst := some 67, op := Go.Op.call { callee := Go.Callee.builtin Go.Builtin.append, args := #[Go.Operand.tmp 60, Go.Operand.tmp 66], argTypes := #[22, 22] }, type := 22, pos := "ref.go:61", after := #[{ on := 1, ground := Go.Ground.data }, { on := 7, ground := Go.Ground.data }], guard := none }) rfl (fun K hK => ?_) AllReadyK.nil
            refine step_copy_s6 rfl _ _ rfl W4.heap.size _ rfl ?ownz83 _ _ _ (xs.take 0) ?hmz83 rfl ?hhz83 ?hsumz83 ?hbasez83 ?restz83
            case ownz83 => first | exact ownS6_made W4 _ (Nat.le_refl _) | exact (ownS6_made W4 _ (Nat.le_refl _)).alloc _ | exact ownS6_made2 W4 _ _ (Nat.le_refl _)
            case hmz83 => have := HN.out; have := HKN.out; rw [List.length_take]; omega
            case hhz83 => first | exact (HHX.out _ (by (repeat (first | assumption | exact ScL.start _ | apply ScL.dr | apply ScL.alloc)))).take 0 | exact (.inl (by have := HN.out; have := HKN.out; exact List.take_eq_nil_iff.2 (.inl (by omega))))
            case hsumz83 => have := HKN.out; have := HNL.out; omega
            case hbasez83 => exact ScL.size (by (repeat (first | assumption | exact ScL.start _ | apply ScL.dr | apply ScL.alloc)))
            intro b3 c3 w5 hown3 hb3 hg3
            have hsc3 : ScL W4 w5 := ScL.grown (by (repeat (first | assumption | exact ScL.start _ | apply ScL.dr | apply ScL.alloc))) hb3
            refine hK.out _ _ (.inr (HSA.out _ (by (repeat (first | assumption | exact ScL.start _ | apply ScL.dr | apply ScL.alloc))))) (fun hHeld => ?_)
            have hHeld := hHeld.resolve_right (by decide)
            clear hK K
            try simp only [Act.put, List.setIfInBounds_toArray, List.set_cons_zero, List.set_cons_succ]
            refine wpAnyK_ready (rs := [13]) (by kernel_rfl) (by simp) ?_
            refine AllReadyK.cons (o := { dst := some 72, op := Go.Op.call { callee := Go.Callee.builtin Go.Builtin.append, args := #[Go.Operand.tmp 67, Go.Operand.tmp 71], argTypes := #[22, 22] }, type := 22, pos := "ref.go:61", after := #[{ on := 8, ground := Go.Ground.data }, { on := 12, ground := Go.Ground.data }, { on := 8, ground := Go.Ground.chain }], guard := none }) rfl (fun K hK => ?_) AllReadyK.nil
            refine step_append_s6 rfl _ _ rfl W4.heap.size _ _ (xs.take 0) ?hnz84 rfl (hown3) _ 1 1 [X] rfl rfl ?hhz84 ?hsumz84 ?hbasez84 ?restz84
            case hnz84 => have := HN.out; have := HKN.out; rw [List.length_take]; omega
            case hhz84 => exact held_grownS6 (show HeldS6 _ (some ⟨W4.heap.size + 1, 0, none⟩) [X] from HHB.out) hg3 (by simp)
            case hsumz84 => have := HKN.out; have := HNL.out; omega
            case hbasez84 => exact ScL.size (by (repeat (first | assumption | exact ScL.start _ | apply ScL.dr | apply ScL.alloc)))
            intro b4 c4 w6 hown4 hb4 hg4
            have hsc4 : ScL W4 w6 := ScL.grown (by (repeat (first | assumption | exact ScL.start _ | apply ScL.dr | apply ScL.alloc))) hb4
            refine hK.out _ _ (.inr (HSA.out _ (by (repeat (first | assumption | exact ScL.start _ | apply ScL.dr | apply ScL.alloc))))) (fun hHeld => ?_)
            have hHeld := hHeld.resolve_right (by decide)
            clear hK K
            try simp only [Act.put, List.setIfInBounds_toArray, List.set_cons_zero, List.set_cons_succ]
            refine wpAnyK_ready (rs := [20]) (by kernel_rfl) (by simp) ?_
            refine AllReadyK.cons (o := { dst := some 79, op := Go.Op.call { callee := Go.Callee.builtin Go.Builtin.append, args := #[Go.Operand.tmp 72, Go.Operand.tmp 78], argTypes := #[22, 22] }, type := 22, pos := "ref.go:61", after := #[{ on := 13, ground := Go.Ground.data }, { on := 19, ground := Go.Ground.data }, { on := 13, ground := Go.Ground.chain }], guard := none }) rfl (fun K hK => ?_) AllReadyK.nil
            refine step_append_s6 rfl _ _ rfl W4.heap.size _ _ (xs.take 0 ++ [X]) ?hnz85 rfl hown4 _ _ _ (xs.drop 0) ?hmz85 rfl ?hhz85 ?hsumz85 ?hbasez85 ?restz85
            case hnz85 => have := HN.out; have := HKN.out; rw [List.length_append, List.length_take, List.length_singleton]; omega
            case hmz85 => have := HN.out; have := HKN.out; rw [List.length_drop]; omega
            case hhz85 => exact (.inl (by have := HN.out; have := HKN.out; exact List.drop_eq_nil_of_le (by omega)))
            case hsumz85 => have := HKN.out; have := HNL.out; omega
            case hbasez85 => exact ScL.size (by (repeat (first | assumption | exact ScL.start _ | apply ScL.dr | apply ScL.alloc)))
            intro b5 c5 w7 hown5 hb5 hg5
            have hsc5 : ScL W4 w7 := ScL.grown (by (repeat (first | assumption | exact ScL.start _ | apply ScL.dr | apply ScL.alloc))) hb5
            refine hK.out _ _ (.inr (HSA.out _ (by (repeat (first | assumption | exact ScL.start _ | apply ScL.dr | apply ScL.alloc))))) (fun hHeld => ?_)
            have hHeld := hHeld.resolve_right (by decide)
            clear hK K
            try simp only [Act.put, List.setIfInBounds_toArray, List.set_cons_zero, List.set_cons_succ]
            have hpk5 := HX4.out.rl.blk.below hsc5.out HX4.out.rl.blk.lt
            have f5 := hpk5.frozen 0
            have e5 := hpk5.cell (i := 0) rfl
            rw [HN.out] at e5
            refine wpAnyK_take (i := 21) (oi := { dst := some 80, op := Go.Op.nilCheck (Go.Operand.tmp 59), type := 0, pos := "ref.go:61", after := #[{ on := 0, ground := Go.Ground.data }, { on := 0, ground := Go.Ground.phase }, { on := 1, ground := Go.Ground.phase }, { on := 2, ground := Go.Ground.phase }, { on := 3, ground := Go.Ground.phase }, { on := 4, ground := Go.Ground.phase }, { on := 5, ground := Go.Ground.phase }, { on := 6, ground := Go.Ground.phase }, { on := 7, ground := Go.Ground.phase }, { on := 8, ground := Go.Ground.phase }, { on := 9, ground := Go.Ground.phase }, { on := 10, ground := Go.Ground.phase }, { on := 11, ground := Go.Ground.phase }, { on := 12, ground := Go.Ground.phase }, { on := 13, ground := Go.Ground.phase }, { on := 14, ground := Go.Ground.phase }, { on := 15, ground := Go.Ground.phase }, { on := 16, ground := Go.Ground.phase }, { on := 17, ground := Go.Ground.phase }, { on := 18, ground := Go.Ground.phase }, { on := 19, ground := Go.Ground.phase }, { on := 20, ground := Go.Ground.phase }], guard := none }) (v := ?vq86) [22] rfl (by kernel_rfl) (by kernel_rfl) (by kernel_rfl) (by kernel_rfl) (by kernel_rfl) (fun _ _ _ h => h) (Or.inl ⟨by rfl, ?hyq86⟩) (by assumption) ?restq86
            case hyq86 => (intro w0 hSw; (try dsimp only at hSw); go_simp; try with_reducible rfl)
            simp only [Act.put, List.setIfInBounds_toArray, List.set_cons_zero, List.set_cons_succ]
            refine wpAnyK_take (i := 22) (oi := { dst := some 81, op := Go.Op.fieldAddr 27 (Go.Operand.tmp 80) 0, type := 0, pos := "ref.go:61", after := #[{ on := 21, ground := Go.Ground.data }, { on := 0, ground := Go.Ground.phase }, { on := 1, ground := Go.Ground.phase }, { on := 2, ground := Go.Ground.phase }, { on := 3, ground := Go.Ground.phase }, { on := 4, ground := Go.Ground.phase }, { on := 5, ground := Go.Ground.phase }, { on := 6, ground := Go.Ground.phase }, { on := 7, ground := Go.Ground.phase }, { on := 8, ground := Go.Ground.phase }, { on := 9, ground := Go.Ground.phase }, { on := 10, ground := Go.Ground.phase }, { on := 11, ground := Go.Ground.phase }, { on := 12, ground := Go.Ground.phase }, { on := 13, ground := Go.Ground.phase }, { on := 14, ground := Go.Ground.phase }, { on := 15, ground := Go.Ground.phase }, { on := 16, ground := Go.Ground.phase }, { on := 17, ground := Go.Ground.phase }, { on := 18, ground := Go.Ground.phase }, { on := 19, ground := Go.Ground.phase }, { on := 20, ground := Go.Ground.phase }], guard := none }) (v := ?vq87) [] rfl (by kernel_rfl) (by kernel_rfl) (by kernel_rfl) (by kernel_rfl) (by kernel_rfl) (fun _ _ _ h => h) (Or.inl ⟨by rfl, ?hyq87⟩) (by assumption) ?restq87
            case hyq87 => (intro w0 hSw; (try dsimp only at hSw); go_simp; try with_reducible rfl)
            simp only [Act.put, List.setIfInBounds_toArray, List.set_cons_zero, List.set_cons_succ]
            refine wpAnyK_ready (rs := [23]) (by kernel_rfl) (by simp) ?_
            refine AllReadyK.cons (o := { dst := none, op := Go.Op.store 22 (Go.Operand.tmp 81) (Go.Operand.tmp 79), type := 0, pos := "ref.go:61", after := #[{ on := 22, ground := Go.Ground.data }, { on := 20, ground := Go.Ground.data }, { on := 20, ground := Go.Ground.chain }, { on := 0, ground := Go.Ground.phase }, { on := 1, ground := Go.Ground.phase }, { on := 2, ground := Go.Ground.phase }, { on := 3, ground := Go.Ground.phase }, { on := 4, ground := Go.Ground.phase }, { on := 5, ground := Go.Ground.phase }, { on := 6, ground := Go.Ground.phase }, { on := 7, ground := Go.Ground.phase }, { on := 8, ground := Go.Ground.phase }, { on := 9, ground := Go.Ground.phase }, { on := 10, ground := Go.Ground.phase }, { on := 11, ground := Go.Ground.phase }, { on := 12, ground := Go.Ground.phase }, { on := 13, ground := Go.Ground.phase }, { on := 14, ground := Go.Ground.phase }, { on := 15, ground := Go.Ground.phase }, { on := 16, ground := Go.Ground.phase }, { on := 17, ground := Go.Ground.phase }, { on := 18, ground := Go.Ground.phase }, { on := 19, ground := Go.Ground.phase }, { on := 20, ground := Go.Ground.phase }], guard := none }) rfl (fun K hK => ?_) AllReadyK.nil
            go_simp
            refine hK.out _ _ (.inl rfl) (fun _ => ?_)
            clear hK K
            try simp only [Act.put, List.setIfInBounds_toArray, List.set_cons_zero, List.set_cons_succ]
            refine wpAnyK_done (by kernel_rfl) ?_ _
            refine NoPanic.normal ?_
            have HEND := hid (HFIN.out w7 _ b5 c5 0 _ hsc5 HKE.out (by have := HKN.out; omega) hown5 rfl)
            clear hown3 hown4 hown5 hsc3 hsc4 hsc5 hb3 hb4 hb5 hg3 hg4 hg5 hHeld hs0 f5 e5 hpk5
            go_wp2
            all_goals (go_ret; exact HEND.out)
        · go_simp
          refine hK.out _ _ (.inr (HSA.out _ (by (repeat (first | assumption | exact ScL.start _ | apply ScL.dr | apply ScL.alloc))))) (fun hHeld => ?_)
          have hHeld := hHeld.resolve_right (by decide)
          clear hK K
          try simp only [Act.put, List.setIfInBounds_toArray, List.set_cons_zero, List.set_cons_succ]
          refine wpAnyK_ready (rs := [1]) (by kernel_rfl) (by simp) ?_
          refine AllReadyK.cons (o := { dst := some 60, op := Go.Op.buildSlice 22 0 #[], type := 22, pos := "ref.go:61", after := #[], guard := none }) rfl (fun K hK => ?_) AllReadyK.nil
          go_simp
          refine hK.out _ _ (.inr (HSA.out _ (by (repeat (first | assumption | exact ScL.start _ | apply ScL.dr | apply ScL.alloc))))) (fun hHeld => ?_)
          have hHeld := hHeld.resolve_right (by decide)
          clear hK K
          try simp only [Act.put, List.setIfInBounds_toArray, List.set_cons_zero, List.set_cons_succ]
          refine wpAnyK_ready (rs := [8]) (by kernel_rfl) (by simp) ?_
          refine AllReadyK.cons (o := { dst := some 67, op := Go.Op.call { callee := Go.Callee.builtin Go.Builtin.append, args := #[Go.Operand.tmp 60, Go.Operand.tmp 66], argTypes := #[22, 22] }, type := 22, pos := "ref.go:61", after := #[{ on := 1, ground := Go.Ground.data }, { on := 7, ground := Go.Ground.data }], guard := none }) rfl (fun K hK => ?_) AllReadyK.nil
          refine step_copy_s6 rfl _ _ rfl W4.heap.size _ rfl ?ownz92 _ _ _ (xs.take 0) ?hmz92 rfl ?hhz92 ?hsumz92 ?hbasez92 ?restz92
          case ownz92 => first | exact ownS6_made W4 _ (Nat.le_refl _) | exact (ownS6_made W4 _ (Nat.le_refl _)).alloc _ | exact ownS6_made2 W4 _ _ (Nat.le_refl _)
          case hmz92 => have := HN.out; have := HKN.out; rw [List.length_take]; omega
          case hhz92 => first | exact (HHX.out _ (by (repeat (first | assumption | exact ScL.start _ | apply ScL.dr | apply ScL.alloc)))).take 0 | exact (.inl (by have := HN.out; have := HKN.out; exact List.take_eq_nil_iff.2 (.inl (by omega))))
          case hsumz92 => have := HKN.out; have := HNL.out; omega
          case hbasez92 => exact ScL.size (by (repeat (first | assumption | exact ScL.start _ | apply ScL.dr | apply ScL.alloc)))
          intro b3 c3 w5 hown3 hb3 hg3
          have hsc3 : ScL W4 w5 := ScL.grown (by (repeat (first | assumption | exact ScL.start _ | apply ScL.dr | apply ScL.alloc))) hb3
          refine hK.out _ _ (.inr (HSA.out _ (by (repeat (first | assumption | exact ScL.start _ | apply ScL.dr | apply ScL.alloc))))) (fun hHeld => ?_)
          have hHeld := hHeld.resolve_right (by decide)
          clear hK K
          try simp only [Act.put, List.setIfInBounds_toArray, List.set_cons_zero, List.set_cons_succ]
          refine wpAnyK_ready (rs := [13]) (by kernel_rfl) (by simp) ?_
          refine AllReadyK.cons (o := { dst := some 72, op := Go.Op.call { callee := Go.Callee.builtin Go.Builtin.append, args := #[Go.Operand.tmp 67, Go.Operand.tmp 71], argTypes := #[22, 22] }, type := 22, pos := "ref.go:61", after := #[{ on := 8, ground := Go.Ground.data }, { on := 12, ground := Go.Ground.data }, { on := 8, ground := Go.Ground.chain }], guard := none }) rfl (fun K hK => ?_) AllReadyK.nil
          refine step_append_s6 rfl _ _ rfl W4.heap.size _ _ (xs.take 0) ?hnz93 rfl (hown3) _ 1 1 [X] rfl rfl ?hhz93 ?hsumz93 ?hbasez93 ?restz93
          case hnz93 => have := HN.out; have := HKN.out; rw [List.length_take]; omega
          case hhz93 => exact held_grownS6 (show HeldS6 _ (some ⟨W4.heap.size, 0, none⟩) [X] from HHA.out) hg3 (by simp)
          case hsumz93 => have := HKN.out; have := HNL.out; omega
          case hbasez93 => exact ScL.size (by (repeat (first | assumption | exact ScL.start _ | apply ScL.dr | apply ScL.alloc)))
          intro b4 c4 w6 hown4 hb4 hg4
          have hsc4 : ScL W4 w6 := ScL.grown (by (repeat (first | assumption | exact ScL.start _ | apply ScL.dr | apply ScL.alloc))) hb4
          refine hK.out _ _ (.inr (HSA.out _ (by (repeat (first | assumption | exact ScL.start _ | apply ScL.dr | apply ScL.alloc))))) (fun hHeld => ?_)
          have hHeld := hHeld.resolve_right (by decide)
          clear hK K
          try simp only [Act.put, List.setIfInBounds_toArray, List.set_cons_zero, List.set_cons_succ]
          refine wpAnyK_ready (rs := [20]) (by kernel_rfl) (by simp) ?_
          refine AllReadyK.cons (o := { dst := some 79, op := Go.Op.call { callee := Go.Callee.builtin Go.Builtin.append, args := #[Go.Operand.tmp 72, Go.Operand.tmp 78], argTypes := #[22, 22] }, type := 22, pos := "ref.go:61", after := #[{ on := 13, ground := Go.Ground.data }, { on := 19, ground := Go.Ground.data }, { on := 13, ground := Go.Ground.chain }], guard := none }) rfl (fun K hK => ?_) AllReadyK.nil
          refine step_append_s6 rfl _ _ rfl W4.heap.size _ _ (xs.take 0 ++ [X]) ?hnz94 rfl hown4 _ _ _ (xs.drop 0) ?hmz94 rfl ?hhz94 ?hsumz94 ?hbasez94 ?restz94
          case hnz94 => have := HN.out; have := HKN.out; rw [List.length_append, List.length_take, List.length_singleton]; omega
          case hmz94 => have := HN.out; have := HKN.out; rw [List.length_drop]; omega
          case hhz94 => exact (.inl (by have := HN.out; have := HKN.out; exact List.drop_eq_nil_of_le (by omega)))
          case hsumz94 => have := HKN.out; have := HNL.out; omega
          case hbasez94 => exact ScL.size (by (repeat (first | assumption | exact ScL.start _ | apply ScL.dr | apply ScL.alloc)))
          intro b5 c5 w7 hown5 hb5 hg5
          have hsc5 : ScL W4 w7 := ScL.grown (by (repeat (first | assumption | exact ScL.start _ | apply ScL.dr | apply ScL.alloc))) hb5
          refine hK.out _ _ (.inr (HSA.out _ (by (repeat (first | assumption | exact ScL.start _ | apply ScL.dr | apply ScL.alloc))))) (fun hHeld => ?_)
          have hHeld := hHeld.resolve_right (by decide)
          clear hK K
          try simp only [Act.put, List.setIfInBounds_toArray, List.set_cons_zero, List.set_cons_succ]
          have hpk5 := HX4.out.rl.blk.below hsc5.out HX4.out.rl.blk.lt
          have f5 := hpk5.frozen 0
          have e5 := hpk5.cell (i := 0) rfl
          rw [HN.out] at e5
          refine wpAnyK_take (i := 21) (oi := { dst := some 80, op := Go.Op.nilCheck (Go.Operand.tmp 59), type := 0, pos := "ref.go:61", after := #[{ on := 0, ground := Go.Ground.data }, { on := 0, ground := Go.Ground.phase }, { on := 1, ground := Go.Ground.phase }, { on := 2, ground := Go.Ground.phase }, { on := 3, ground := Go.Ground.phase }, { on := 4, ground := Go.Ground.phase }, { on := 5, ground := Go.Ground.phase }, { on := 6, ground := Go.Ground.phase }, { on := 7, ground := Go.Ground.phase }, { on := 8, ground := Go.Ground.phase }, { on := 9, ground := Go.Ground.phase }, { on := 10, ground := Go.Ground.phase }, { on := 11, ground := Go.Ground.phase }, { on := 12, ground := Go.Ground.phase }, { on := 13, ground := Go.Ground.phase }, { on := 14, ground := Go.Ground.phase }, { on := 15, ground := Go.Ground.phase }, { on := 16, ground := Go.Ground.phase }, { on := 17, ground := Go.Ground.phase }, { on := 18, ground := Go.Ground.phase }, { on := 19, ground := Go.Ground.phase }, { on := 20, ground := Go.Ground.phase }], guard := none }) (v := ?vq95) [22] rfl (by kernel_rfl) (by kernel_rfl) (by kernel_rfl) (by kernel_rfl) (by kernel_rfl) (fun _ _ _ h => h) (Or.inl ⟨by rfl, ?hyq95⟩) (by assumption) ?restq95
          case hyq95 => (intro w0 hSw; (try dsimp only at hSw); go_simp; try with_reducible rfl)
          simp only [Act.put, List.setIfInBounds_toArray, List.set_cons_zero, List.set_cons_succ]
          refine wpAnyK_take (i := 22) (oi := { dst := some 81, op := Go.Op.fieldAddr 27 (Go.Operand.tmp 80) 0, type := 0, pos := "ref.go:61", after := #[{ on := 21, ground := Go.Ground.data }, { on := 0, ground := Go.Ground.phase }, { on := 1, ground := Go.Ground.phase }, { on := 2, ground := Go.Ground.phase }, { on := 3, ground := Go.Ground.phase }, { on := 4, ground := Go.Ground.phase }, { on := 5, ground := Go.Ground.phase }, { on := 6, ground := Go.Ground.phase }, { on := 7, ground := Go.Ground.phase }, { on := 8, ground := Go.Ground.phase }, { on := 9, ground := Go.Ground.phase }, { on := 10, ground := Go.Ground.phase }, { on := 11, ground := Go.Ground.phase }, { on := 12, ground := Go.Ground.phase }, { on := 13, ground := Go.Ground.phase }, { on := 14, ground := Go.Ground.phase }, { on := 15, ground := Go.Ground.phase }, { on := 16, ground := Go.Ground.phase }, { on := 17, ground := Go.Ground.phase }, { on := 18, ground := Go.Ground.phase }, { on := 19, ground := Go.Ground.phase }, { on := 20, ground := Go.Ground.phase }], guard := none }) (v := ?vq96) [] rfl (by kernel_rfl) (by kernel_rfl) (by kernel_rfl) (by kernel_rfl) (by kernel_rfl) (fun _ _ _ h => h) (Or.inl ⟨by rfl, ?hyq96⟩) (by assumption) ?restq96
          case hyq96 => (intro w0 hSw; (try dsimp only at hSw); go_simp; try with_reducible rfl)
          simp only [Act.put, List.setIfInBounds_toArray, List.set_cons_zero, List.set_cons_succ]
          refine wpAnyK_ready (rs := [23]) (by kernel_rfl) (by simp) ?_
          refine AllReadyK.cons (o := { dst := none, op := Go.Op.store 22 (Go.Operand.tmp 81) (Go.Operand.tmp 79), type := 0, pos := "ref.go:61", after := #[{ on := 22, ground := Go.Ground.data }, { on := 20, ground := Go.Ground.data }, { on := 20, ground := Go.Ground.chain }, { on := 0, ground := Go.Ground.phase }, { on := 1, ground := Go.Ground.phase }, { on := 2, ground := Go.Ground.phase }, { on := 3, ground := Go.Ground.phase }, { on := 4, ground := Go.Ground.phase }, { on := 5, ground := Go.Ground.phase }, { on := 6, ground := Go.Ground.phase }, { on := 7, ground := Go.Ground.phase }, { on := 8, ground := Go.Ground.phase }, { on := 9, ground := Go.Ground.phase }, { on := 10, ground := Go.Ground.phase }, { on := 11, ground := Go.Ground.phase }, { on := 12, ground := Go.Ground.phase }, { on := 13, ground := Go.Ground.phase }, { on := 14, ground := Go.Ground.phase }, { on := 15, ground := Go.Ground.phase }, { on := 16, ground := Go.Ground.phase }, { on := 17, ground := Go.Ground.phase }, { on := 18, ground := Go.Ground.phase }, { on := 19, ground := Go.Ground.phase }, { on := 20, ground := Go.Ground.phase }], guard := none }) rfl (fun K hK => ?_) AllReadyK.nil
          go_simp
          refine hK.out _ _ (.inl rfl) (fun _ => ?_)
          clear hK K
          try simp only [Act.put, List.setIfInBounds_toArray, List.set_cons_zero, List.set_cons_succ]
          refine wpAnyK_done (by kernel_rfl) ?_ _
          refine NoPanic.normal ?_
          have HEND := hid (HFIN.out w7 _ b5 c5 0 _ hsc5 HKE.out (by have := HKN.out; omega) hown5 rfl)
          clear hown3 hown4 hown5 hsc3 hsc4 hsc5 hb3 hb4 hb5 hg3 hg4 hg5 hHeld hs0 f5 e5 hpk5
          go_wp2
          all_goals (go_ret; exact HEND.out)
end Go.Proofs.Ytgghfmdciohinaa
