/-
  Records and what they say, for Replay: with no memory in it.
-/
import Derived.Test.YthcpopigkbefhaaGreatAcX
import Derived.Test.YthcpopigkbefhaaGreatRdV
import Derived.Laws.IdiomStrings
namespace Go.Proofs.YthcpopigkbefhaaGreat
open Go.RowKit Go.Maps

theorem rightMs_of {x : MsM} (h : RightMsD x.d) : RightMs x = true := by
  unfold RightMs RightVs RightEs
  simp only [Bool.and_eq_true, List.all_eq_true]
  refine ⟨decide_eq_true h.k, decide_eq_true h.f, decide_eq_true h.t, h.b, decide_eq_true h.s, h.e, ⟨decide_eq_true ?_, fun y hy => ?_⟩, h.n, ⟨decide_eq_true ?_, fun y hy => ?_⟩, decide_eq_true h.i⟩
  · have := h.v.1
    rw [show x.d.vs = x.vs.map VoM.d from rfl, List.length_map] at this
    exact this
  · exact h.v.2 _ (List.mem_map.2 ⟨y, hy, rfl⟩)
  · have := h.w.1
    rw [show x.d.evs = x.evs.map (fun y => y.e) from rfl, List.length_map] at this
    exact this
  · exact h.w.2 _ (List.mem_map.2 ⟨y, hy, rfl⟩)
theorem rightMs_eq {x y : MsM} (h : x.d = y.d) : RightMs x = RightMs y := by
  rw [Bool.eq_iff_iff]
  exact ⟨fun hx => rightMs_of (h ▸ rightMs_d hx), fun hy => rightMs_of (h.symm ▸ rightMs_d hy)⟩
section
variable {a : Ac} {x y : MsM}
theorem takes_d (h : x.d = y.d) : takesA a x = takesA a y := by
  unfold takesA
  rw [rightMs_eq h, encMs_d, encMs_d, h, show x.to = y.to from congrArg MsD.to h, show x.kind = y.kind from congrArg MsD.kind h]
theorem kind_d (h : x.d = y.d) : kindA a x = kindA a y := by
  unfold kindA
  rw [show x.bal = y.bal from congrArg MsD.bal h, show x.kind = y.kind from congrArg MsD.kind h, show x.slot = y.slot from congrArg MsD.slot h]
theorem after_d (h : x.d = y.d) : afterA a x = afterA a y := by
  unfold afterA
  rw [kind_d h, show x.bal = y.bal from congrArg MsD.bal h, show x.slot = y.slot from congrArg MsD.slot h, show x.en.e = y.en.e from congrArg MsD.en h]
/-- A message that changes nothing. -/
theorem after_same (h : AcOk a) (hc : changesA a x = false) : afterA a x = a := by
  unfold afterA
  unfold changesA at hc
  rcases kindA_or a x with k | k | k
  · rw [if_neg (by rw [k]; decide), if_neg (by rw [k]; decide)]
  · rw [if_pos k] at hc
    rw [if_pos k]
    have : x.bal = a.pr := by simpa using hc
    unfold promA
    rw [this]
  · have k2 : ¬ kindA a x = 2 := by rw [k]; decide
    rw [if_neg k2, if_pos k] at hc
    rw [if_neg k2, if_pos k]
    have hv : a.f x.slot = some (x.bal, x.en.e) := by simpa using hc
    have hr := h.right _ _ hv
    have hn : ¬ 0 < cmpB a.pr x.bal := kind_other (by rw [k]; decide)
    have hb : x.bal = a.pr := by
      have h1 : cmpB x.bal a.pr ≤ 0 := hr.2.2
      have h2 := cmpB_neg a.pr x.bal
      exact (cmpB_zero.1 (show cmpB a.pr x.bal = 0 by omega)).symm
    have hm : x.slot ∈ a.ks := (h.has _).2 (by rw [hv]; rfl)
    unfold voteA
    rw [putS_old h.rise hm]
    have hf : (fun t => if t = x.slot then some (x.bal, x.en.e) else a.f t) = a.f := by
      funext t
      by_cases e : t = x.slot
      · rw [if_pos e, e, hv]
      · rw [if_neg e]
    rw [hf]
    show (⟨a.node, x.bal, a.f, a.ks⟩ : Ac) = a
    rw [hb]
end
theorem recOf_ne (x : MsM) : ¬ recOf x = ⟨#[]⟩ := fun h => by
  have h1 : (recOf x).size = 0 := by rw [h]; rfl
  unfold recOf at h1
  rw [strOfNums_size] at h1
  have h2 := enc_pos x.kind.toNat
  unfold encMs at h1
  simp only [List.length_append] at h1
  omega
theorem recOf_nums (x : MsM) : strNums (recOf x) = encMs x := strNums_ofR (encMs_byte x)
theorem recOf_reads {x : MsM} (h : RightMs x = true) : pMsg (strNums (recOf x)) = some (x.d, []) := by
  have := pMsg_reads.fwd x.d [] (rightMs_d h)
  rw [List.append_nil, ← encMs_d] at this
  rw [recOf_nums]
  exact this
end Go.Proofs.YthcpopigkbefhaaGreat
/-
  Package acceptor: Replay of any record.
-/
namespace Go.Proofs.YthcpopigkbefhaaGreat
open Go.RowKit Go.Maps

/-- []byte(s): a new row that holds its bytes. -/
theorem conv_bytes (w : World) (s : ByteArray) (hs : s.size ≤ maxLen) : ∃ C W, (convert 9 56 (.string s)).run Tryz.prog w = .ok (.slice (some ⟨w.heap.size, 0, none⟩) s.size C) W ∧ Held W (some ⟨w.heap.size, 0, none⟩) s.size C (strNums s) ∧ Below w.heap.size w W := by
  refine ⟨_, _, run_bytes_of_string w 9 56 5 s Tryz.underlying9 Tryz.underlying56 Tryz.underlying5, ⟨strNums_len s, grownCap_ge _ _ _ _, grownCap_le_maxLen _ _ _ _ hs, fun h => (by cases h), strNums_byte s, fun ad had j hj => ?_, fun ad had _ => ?_⟩, (Below.refl _ _).drew.alloc (Nat.le_refl _) _⟩
  · cases had
    have hb : (w.drew.alloc (.cells (bytesRow s (grownCap w s.size 0 5)) 5 ((bytesRow s (grownCap w s.size 0 5)).size, (bytesRow s (grownCap w s.size 0 5)).size + 1))).heap[w.heap.size]? = some (.cells (bytesRow s (grownCap w s.size 0 5)) 5 ((bytesRow s (grownCap w s.size 0 5)).size, (bytesRow s (grownCap w s.size 0 5)).size + 1)) := World.alloc_heap_new w.drew _
    rw [Addr.add_lit, Nat.zero_add]
    unfold World.cell?
    rw [hb]
    show (bytesRow s _)[j]? = _
    have hd : j < s.data.size := hj
    unfold bytesRow
    rw [Array.getElem?_append_left (by simpa using hd)]
    simp only [strNums, List.getD, List.getElem?_map, Array.getElem?_map, Array.getElem?_toList, Array.getElem?_eq_getElem hd, Option.map_some, Option.getD_some]
  · cases had
    show w.heap.size < (w.heap.push _).size
    simp
/-- What Replay leaves. -/
def ReplP (w : World) (p m : Nat) (a : Ac) (rec : ByteArray) (e : Ending) (w' : World) : Prop := ∃ (b : Ac) (E : Int), e = .returned (.int .i64 E) ∧ AcAt w' p m b ∧ Turns (FootA p m) w w' ∧
  ((E = 0 ∧ ∃ x : MsM, rec.size ≤ 65536 ∧ pMsg (strNums rec) = some (x.d, []) ∧ takesA a x = true ∧ kindA a x ≠ 5 ∧ b = afterA a x) ∨
   (E = 10 ∧ b = a ∧ ¬ ∃ x : MsM, rec.size ≤ 65536 ∧ pMsg (strNums rec) = some (x.d, []) ∧ takesA a x = true ∧ kindA a x ≠ 5))
set_option maxRecDepth 1000000 in
set_option maxHeartbeats 16000000 in
theorem AcAt.replay {w : World} {p m : Nat} {a : Ac} (h : AcAt w p m a) (rec : ByteArray) (hs : rec.size ≤ maxLen) : Calls Tryz.prog 7 #[.pointer (some ⟨p, 0, none⟩), .string rec] w (ReplP w p m a rec) := by
  obtain ⟨C, W1, hcv, hheld, hb1⟩ := conv_bytes w rec hs
  obtain ⟨RN, HRN⟩ : ∃ n, Hid (rec.size = n) := ⟨_, hid rfl⟩
  rw [HRN.out] at hcv hheld
  have HC := hid h.closed
  have HRM := hid (readMsg_any _ _ _ _ W1 hheld)
  have H1 := hid (h.below hb1)
  have HB1 := hid hb1
  have HLT := hid h.lt
  clear h hs hheld hb1
  go_enter Tryz.func7, Tryz.ntmps7
  go_wp2_with fail
  refine HC.out.mono ?_
  rintro e wz ⟨rfl, hwz⟩
  rw [hwz]
  clear hwz
  go_wp2_with fail
  refine HRM.out.mono ?_
  rintro e w2 ⟨⟨kd, fr, tt, ⟨br, bn⟩, sl, ⟨⟨np, tk, ct, ep, cut⟩, a_1, c⟩, va, vc, vs, sa, sc, seen, ea, ec, evs, ti⟩, E, rfl, hmn, hor, hb2⟩
  simp only [MsM.val]
  obtain ⟨XN, HXN⟩ : ∃ m, Hid (cut.length = m) := ⟨_, hid rfl⟩
  obtain ⟨VN, HVN⟩ : ∃ m, Hid (vs.length = m) := ⟨_, hid rfl⟩
  obtain ⟨SN, HSN⟩ : ∃ m, Hid (seen.length = m) := ⟨_, hid rfl⟩
  obtain ⟨EN, HEN⟩ : ∃ m, Hid (evs.length = m) := ⟨_, hid rfl⟩
  rw [HXN.out, HVN.out, HSN.out, HEN.out]
  obtain ⟨U, hU⟩ : ∃ V, V = w2.alloc (.cells #[.int .i64 kd, .int .i64 fr, .int .i64 tt, .int .i64 br, .int .i64 bn, .int .i64 sl, .bool np, .string tk, .string ct, .int .i64 ep, .slice a_1 XN c, .slice va VN vc, .slice sa SN sc, .slice ea EN ec, .int .i64 ti] 38) := ⟨_, rfl⟩
  have hbU : Below w2.heap.size w2 U := by rw [hU]; exact (Below.refl _ _).alloc (Nat.le_refl _) _
  have HKM : Hid (Blk U w2.heap.size 38 [.int .i64 kd, .int .i64 fr, .int .i64 tt, .int .i64 br, .int .i64 bn, .int .i64 sl, .bool np, .string tk, .string ct, .int .i64 ep, .slice a_1 XN c, .slice va VN vc, .slice sa SN sc, .slice ea EN ec, .int .i64 ti]) := by rw [hU]; exact Blk.new w2 _ _
  have HBU := hid (bt' (bt' HB1.out hb2) hbU)
  have HAU := hid ((H1.out.below hb2).below hbU)
  have HMN := hid (hmn.below hbU)
  have HU := hid hU
  clear hU hbU hmn hb2 HRM H1 hcv
  rcases hor with ⟨rfl, hl, hp⟩ | ⟨rfl, _, hno⟩
  · have HSZ : Hid (rec.size ≤ 65536) := by rw [HRN.out]; exact hid hl
    have HPM := hid hp
    have HEF := hid (HAU.out.effectOf ⟨kd, fr, tt, (br, bn), sl, ⟨⟨np, tk, ct, ep, cut⟩, a_1, c⟩, va, vc, vs, sa, sc, seen, ea, ec, evs, ti⟩ HMN.out.ok)
    simp only [MsM.val] at HEF
    rw [HXN.out, HVN.out, HSN.out, HEN.out] at HEF
    have HSP : Hid (∀ b off, a_1 = some ⟨b, off, none⟩ → cut ≠ [] → b ≠ p) := fun b off e hne hp => by
      have h1 := HMN.out.cutN b off e hne
      have h2 := HLT.out p (.inl rfl)
      have h3 := HB1.out.size
      omega
    clear hl hp
    have q0 := HKM.out.cell (i := 0) rfl
    have q1 := HKM.out.cell (i := 1) rfl
    have q2 := HKM.out.cell (i := 2) rfl
    have q3 := HKM.out.cell (i := 3) rfl
    have q4 := HKM.out.cell (i := 4) rfl
    have q5 := HKM.out.cell (i := 5) rfl
    have q6 := HKM.out.cell (i := 6) rfl
    have q7 := HKM.out.cell (i := 7) rfl
    have q8 := HKM.out.cell (i := 8) rfl
    have q9 := HKM.out.cell (i := 9) rfl
    have q10 := HKM.out.cell (i := 10) rfl
    have q11 := HKM.out.cell (i := 11) rfl
    have q12 := HKM.out.cell (i := 12) rfl
    have q13 := HKM.out.cell (i := 13) rfl
    have q14 := HKM.out.cell (i := 14) rfl
    rw [HU.out] at q0 q1 q2 q3 q4 q5 q6 q7 q8 q9 q10 q11 q12 q13 q14
    go_wp2_with fail
    rw [← HU.out]
    refine HEF.out.mono ?_
    rintro e w4 ⟨hb4, h4⟩
    clear q0 q1 q2 q3 q4 q5 q6 q7 q8 q9 q10 q11 q12 q13 q14
    by_cases htk : takesA a ⟨kd, fr, tt, (br, bn), sl, ⟨⟨np, tk, ct, ep, cut⟩, a_1, c⟩, va, vc, vs, sa, sc, seen, ea, ec, evs, ti⟩ = true
    · rw [if_pos htk] at h4
      obtain ⟨f2, lb2, rfl, hdo⟩ := h4
      have HTK := hid htk
      obtain ⟨kk, HKK⟩ : ∃ q, Hid (kindA a ⟨kd, fr, tt, (br, bn), sl, ⟨⟨np, tk, ct, ep, cut⟩, a_1, c⟩, va, vc, vs, sa, sc, seen, ea, ec, evs, ti⟩ = q) := ⟨_, hid rfl⟩
      obtain ⟨RR, HRR⟩ : ∃ q, Hid ((if changesA a ⟨kd, fr, tt, (br, bn), sl, ⟨⟨np, tk, ct, ep, cut⟩, a_1, c⟩, va, vc, vs, sa, sc, seen, ea, ec, evs, ti⟩ = true then recOf ⟨kd, fr, tt, (br, bn), sl, ⟨⟨np, tk, ct, ep, cut⟩, a_1, c⟩, va, vc, vs, sa, sc, seen, ea, ec, evs, ti⟩ else ⟨#[]⟩) = q) := ⟨_, hid rfl⟩
      obtain ⟨cc, HCC⟩ : ∃ q, Hid (changesA a ⟨kd, fr, tt, (br, bn), sl, ⟨⟨np, tk, ct, ep, cut⟩, a_1, c⟩, va, vc, vs, sa, sc, seen, ea, ec, evs, ti⟩ = q) := ⟨_, hid rfl⟩
      rw [HKK.out, HRR.out, HCC.out]
      obtain ⟨W5, hW5⟩ : ∃ V, V = w4.alloc (.cells #[.int .i64 kk, .bool cc, .string RR, .func (.func f2) #[] lb2] 50) := ⟨_, rfl⟩
      have hb5 : Below w4.heap.size w4 W5 := by rw [hW5]; exact (Below.refl _ _).alloc (Nat.le_refl _) _
      have HB5 := hid (bt' HBU.out (bt' hb4 hb5))
      have HA5 := hid (HAU.out.below (bt' hb4 hb5))
      have HX5 := hid (HMN.out.ok.below (bt' hb4 hb5))
      have HDO := hid (hdo.below hb5)
      have HKX : Hid (Blk W5 w4.heap.size 50 [.int .i64 kk, .bool cc, .string RR, .func (.func f2) #[] lb2]) := by rw [hW5]; exact Blk.new w4 _ _
      have HW5 := hid hW5
      have HRG := hid (takesA_right HTK.out)
      clear hb4 hdo hb5 hW5 htk HEF
      rcases HDO.out with ⟨hk, rfl, rfl⟩ | ⟨ba2, bm2, rfl, hA2, hM2, (⟨hk, rfl⟩ | ⟨hk, rfl⟩)⟩
      · obtain rfl : kk = 5 := by rw [← HKK.out]; exact hk
        have HFI : Hid (ReplP w p m a rec (.returned (.int .i64 10)) W5) := ⟨a, 10, rfl, HA5.out, Turns.of_below (F := FootA p m) HB5.out (Nat.le_refl _), .inr ⟨rfl, rfl, fun ⟨y, _, hy, _, hk5⟩ => by
          rw [HPM.out] at hy
          have hd : y.d = MsM.d ⟨kd, fr, tt, (br, bn), sl, ⟨⟨np, tk, ct, ep, cut⟩, a_1, c⟩, va, vc, vs, sa, sc, seen, ea, ec, evs, ti⟩ := by injection hy with hy; injection hy with hy; exact hy.symm
          exact hk5 ((kind_d hd).trans HKK.out)⟩⟩
        have x0 := HKX.out.cell (i := 0) rfl
        rw [HW5.out] at x0
        clear hk
        go_wp2
        go_ret
        rw [← HW5.out]
        exact HFI.out
      · have HDC := hid (does_prep HA5.out hA2 hM2 HRG.out hk)
        have HKN : Hid (kk ≠ 5) := (by rw [← HKK.out, hk]; decide : kk ≠ 5)
        have hkk : ¬ kk = 5 := HKN.out
        clear hA2 hM2 hk
        have x0 := HKX.out.cell (i := 0) rfl
        have x3 := HKX.out.cell (i := 3) rfl
        rw [HW5.out] at x0 x3
        go_wp2_with fail
        rw [← HW5.out]
        refine HDC.out.mono ?_
        rintro e w6 ⟨rfl, hat6, ht6⟩
        have HFI : Hid (ReplP w p m a rec (.returned (.int .i64 0)) w6) := ⟨_, 0, rfl, hat6, (Turns.of_below (F := FootA p m) HB5.out (Nat.le_refl _)).trans ht6 (fun i hi => .inl hi), .inl ⟨rfl, ⟨kd, fr, tt, (br, bn), sl, ⟨⟨np, tk, ct, ep, cut⟩, a_1, c⟩, va, vc, vs, sa, sc, seen, ea, ec, evs, ti⟩, HSZ.out, HPM.out, HTK.out, (by rw [HKK.out]; exact HKN.out), rfl⟩⟩
        clear hat6 ht6 x0 x3
        go_wp2
        go_ret
        exact HFI.out
      · have HDC := hid (does_acc HA5.out hA2 hM2 HX5.out HSP.out HRG.out hk)
        have HKN : Hid (kk ≠ 5) := (by rw [← HKK.out, hk]; decide : kk ≠ 5)
        have hkk : ¬ kk = 5 := HKN.out
        clear hA2 hM2 hk
        have x0 := HKX.out.cell (i := 0) rfl
        have x3 := HKX.out.cell (i := 3) rfl
        rw [HW5.out] at x0 x3
        go_wp2_with fail
        rw [← HW5.out]
        refine HDC.out.mono ?_
        rintro e w6 ⟨rfl, hat6, ht6⟩
        have HFI : Hid (ReplP w p m a rec (.returned (.int .i64 0)) w6) := ⟨_, 0, rfl, hat6, (Turns.of_below (F := FootA p m) HB5.out (Nat.le_refl _)).trans ht6 (fun i hi => .inl hi), .inl ⟨rfl, ⟨kd, fr, tt, (br, bn), sl, ⟨⟨np, tk, ct, ep, cut⟩, a_1, c⟩, va, vc, vs, sa, sc, seen, ea, ec, evs, ti⟩, HSZ.out, HPM.out, HTK.out, (by rw [HKK.out]; exact HKN.out), rfl⟩⟩
        clear hat6 ht6 x0 x3
        go_wp2
        go_ret
        exact HFI.out
    · rw [if_neg htk] at h4
      subst h4
      obtain ⟨W5, hW5⟩ : ∃ V, V = w4.alloc (.cells #[.int .i64 0, .bool false, .string ⟨#[]⟩, .nilFunc] 50) := ⟨_, rfl⟩
      have hb5 : Below w4.heap.size w4 W5 := by rw [hW5]; exact (Below.refl _ _).alloc (Nat.le_refl _) _
      have HFI : Hid (ReplP w p m a rec (.returned (.int .i64 10)) W5) := ⟨a, 10, rfl, HAU.out.below (bt' hb4 hb5), Turns.of_below (F := FootA p m) (bt' HBU.out (bt' hb4 hb5)) (Nat.le_refl _), .inr ⟨rfl, rfl, fun ⟨y, _, hy, hty, _⟩ => by
        rw [HPM.out] at hy
        have hd : y.d = MsM.d ⟨kd, fr, tt, (br, bn), sl, ⟨⟨np, tk, ct, ep, cut⟩, a_1, c⟩, va, vc, vs, sa, sc, seen, ea, ec, evs, ti⟩ := by injection hy with hy; injection hy with hy; exact hy.symm
        rw [takes_d hd] at hty
        exact htk hty⟩⟩
      have HW5 := hid hW5
      clear hb4 hb5 hW5 htk HEF
      go_wp2
      go_ret
      rw [← HW5.out]
      exact HFI.out
  · have HFI : Hid (ReplP w p m a rec (.returned (.int .i64 10)) U) := ⟨a, 10, rfl, HAU.out, Turns.of_below (F := FootA p m) HBU.out (Nat.le_refl _), .inr ⟨rfl, rfl, fun ⟨y, h1, h2, _, _⟩ => hno ⟨by rw [← HRN.out]; exact h1, y.d, h2⟩⟩⟩
    clear hno
    go_wp2
    go_ret
    rw [← HU.out]
    exact HFI.out
end Go.Proofs.YthcpopigkbefhaaGreat
/-
  Three acceptors side by side ('A3').
-/
namespace Go.Proofs.YthcpopigkbefhaaGreat
open Go.RowKit Go.Maps

structure A3 (B : Nat) (w : World) (p m q n r o : Nat) (a b c : Ac) : Prop where
  x : AcIn B w p m a
  y : AcIn B w q n b
  z : AcIn B w r o c
  d1 : ∀ i, FootA p m i → ¬ FootA q n i
  d2 : ∀ i, FootA p m i → ¬ FootA r o i
  d3 : ∀ i, FootA q n i → ¬ FootA r o i
section
variable {B : Nat} {w w' : World} {p m q n r o : Nat} {a b c a' : Ac}
theorem AcIn.other {F : Nat → Prop} (h : AcIn B w p m a) (ht : Turns F w w') (hd : ∀ i, FootA p m i → ¬ F i) (hF : NoNum w F) : AcIn B w' p m a := ⟨h.at'.turned ht hd hF, h.bp, h.bm⟩
theorem AcIn.foot (h : AcIn B w p m a) : ∀ i, FootA p m i → B ≤ i := fun i hi => by
  rcases hi with rfl | rfl
  · exact h.bp
  · exact h.bm
theorem A3.below (h : A3 B w p m q n r o a b c) (hb : Below w.heap.size w w') : A3 B w' p m q n r o a b c := ⟨h.x.below hb, h.y.below hb, h.z.below hb, h.d1, h.d2, h.d3⟩
theorem A3.turnX (h : A3 B w p m q n r o a b c) (hx : AcIn B w' p m a') (ht : Turns (FootA p m) w w') : A3 B w' p m q n r o a' b c :=
  ⟨hx, h.y.other ht (fun i hi hf => h.d1 i hf hi) h.x.at'.noNum, h.z.other ht (fun i hi hf => h.d2 i hf hi) h.x.at'.noNum, h.d1, h.d2, h.d3⟩
theorem A3.turnY (h : A3 B w p m q n r o a b c) (hx : AcIn B w' q n a') (ht : Turns (FootA q n) w w') : A3 B w' p m q n r o a a' c :=
  ⟨h.x.other ht h.d1 h.y.at'.noNum, hx, h.z.other ht (fun i hi hf => h.d3 i hf hi) h.y.at'.noNum, h.d1, h.d2, h.d3⟩
theorem A3.turnZ (h : A3 B w p m q n r o a b c) (hx : AcIn B w' r o a') (ht : Turns (FootA r o) w w') : A3 B w' p m q n r o a b a' :=
  ⟨h.x.other ht h.d2 h.z.at'.noNum, h.y.other ht h.d3 h.z.at'.noNum, hx, h.d1, h.d2, h.d3⟩
end
end Go.Proofs.YthcpopigkbefhaaGreat
/-
  What must come of every acceptor: the laws' lives.
-/
namespace Go.Proofs.YthcpopigkbefhaaGreat
open Go.RowKit Go.Maps

/-- A message to node 1 with a Noop. -/
def mkMs (k fr : Int) (b : Int × Int) (sl : Int) : MsM := ⟨k, fr, 1, b, sl, ⟨noopEn, none, 0⟩, none, 0, [], none, 0, [], none, 0, [], 0⟩
theorem hv_noneY (w : World) : HV w none 0 [] := ⟨⟨fun x h => (by cases h), .inl rfl⟩, Nat.le_refl _, Nat.zero_le _⟩
theorem i64_0Y : I64 0 := by unfold I64; decide
theorem i64_1Y : I64 1 := by unfold I64; decide
theorem mkMs_ok (w : World) (k fr : Int) (b : Int × Int) (sl : Int) (hk : I64 k) (hf : I64 fr) (h1 : I64 b.1) (h2 : I64 b.2) (hs : I64 sl) : MsOk w (mkMs k fr b sl) :=
  ⟨⟨hv_noneY w, i64_0Y, Nat.zero_le _, Nat.zero_le _⟩, ⟨fun x h => (by cases h), .inl rfl⟩, Nat.zero_le _, hv_noneY w, ⟨fun x h => (by cases h), .inl rfl⟩, Nat.zero_le _, hk, hf, i64_1Y, h1, h2, hs, i64_0Y⟩
theorem mkMs_b (B : Nat) (k fr : Int) (b : Int × Int) (sl : Int) : MsB B (mkMs k fr b sl) := fun _ _ e _ => by cases e
def ms1 : MsM := mkMs 1 0 (2, 0) 0
def ms2 : MsM := mkMs 3 2 (1, 2) 0
def ms3 : MsM := mkMs 3 0 (2, 0) 3
def ac0 : Ac := newAc 1
def ac1 : Ac := promA ac0 (2, 0)
def ac3 : Ac := voteA ac1 3 ((2, 0), noopEn)
theorem takes_1 : takesA ac0 ms1 = true := by decide +kernel
theorem kind_1 : kindA ac0 ms1 = 2 := by decide +kernel
theorem after_1 : afterA ac0 ms1 = ac1 := by unfold afterA; rw [if_pos kind_1]; rfl
theorem rec_1 : ¬ (if changesA ac0 ms1 = true then recOf ms1 else ⟨#[]⟩ : ByteArray).toList = [] := by decide +kernel
theorem takes_2 : takesA ac1 ms2 = true := by decide +kernel
theorem kind_2 : kindA ac1 ms2 = 5 := by decide +kernel
theorem after_2 : afterA ac1 ms2 = ac1 := kind5_after kind_2
theorem rec_2 : (if changesA ac1 ms2 = true then recOf ms2 else ⟨#[]⟩) = (⟨#[]⟩ : ByteArray) := kind5_rec kind_2
theorem takes_3 : takesA ac1 ms3 = true := by decide +kernel
theorem kind_3 : kindA ac1 ms3 = 4 := by decide +kernel
theorem after_3 : afterA ac1 ms3 = ac3 := by unfold afterA; rw [if_neg (by rw [kind_3]; decide), if_pos kind_3]; rfl
theorem rec_3 : ¬ (if changesA ac1 ms3 = true then recOf ms3 else ⟨#[]⟩ : ByteArray).toList = [] := by decide +kernel
theorem votes_3 : (fromTo ac3 0 ac3.ks.length).length = 1 := by decide +kernel
set_option maxRecDepth 1000000 in
set_option maxHeartbeats 4000000 in
theorem livesAc (w : World) : Calls Tryz.prog 5 #[] w fun e w' => e = .returned (.bool true) ∧ Below w.heap.size w w' := by
  have HNEW := hid (newA_good w 1 (by omega) (by omega))
  go_enter Tryz.func5, Tryz.ntmps5
  go_wp2_with fail
  refine HNEW.out.mono ?_
  rintro e w1 ⟨p, m, rfl, hat, hb1, hp, hm⟩
  obtain ⟨W2, hW2⟩ : ∃ V, V = w1.alloc (.cells #[.bool true, .string ⟨#[]⟩, .string ⟨#[]⟩, .int .i64 0, .slice none 0 0] 34) := ⟨_, rfl⟩
  have hb2 : Below w1.heap.size w1 W2 := by rw [hW2]; exact (Below.refl _ _).alloc (Nat.le_refl _) _
  obtain ⟨be, hbe⟩ : ∃ q, q = w1.heap.size := ⟨_, rfl⟩
  have HL2 : Hid (AcIn w.heap.size W2 p m ac0) := ⟨hat.below hb2, hp, hm⟩
  have HB2 := hid (bt' hb1 hb2)
  have HK2 : Hid (Blk W2 be 34 [.bool true, .string ⟨#[]⟩, .string ⟨#[]⟩, .int .i64 0, .slice none 0 0]) := by rw [hW2, hbe]; exact Blk.new w1 _ _
  have HPF : Hid (¬ FootA p m be) := fun hf => by have := hat.lt _ hf; omega
  have HW2 := hid hW2
  have HBE := hid hbe
  obtain ⟨R1, HR1⟩ : ∃ R, Hid ((if changesA ac0 ms1 = true then recOf ms1 else ⟨#[]⟩) = R) := ⟨_, hid rfl⟩
  have hR1 : ¬ R1.toList = [] := by rw [← HR1.out]; exact rec_1
  obtain ⟨R3, HR3⟩ : ∃ R, Hid ((if changesA ac1 ms3 = true then recOf ms3 else ⟨#[]⟩) = R) := ⟨_, hid rfl⟩
  have hR3 : ¬ R3.toList = [] := by rw [← HR3.out]; exact rec_3
  have HC1 := hid (HL2.out.on_yes HB2.out.size ms1 (mkMs_ok _ _ _ _ _ (by unfold I64; decide) (by unfold I64; decide) (by unfold I64; decide) (by unfold I64; decide) (by unfold I64; decide)) (mkMs_b _ _ _ _ _) takes_1 after_1 kind_1 HR1.out (r := 2) (n := 0) (nd := 1) rfl rfl)
  simp only [ms1, mkMs, MsM.val, noopEn, List.length_nil] at HC1
  have c0 := HK2.out.cell (i := 0) rfl
  have c1 := HK2.out.cell (i := 1) rfl
  have c2 := HK2.out.cell (i := 2) rfl
  have c3 := HK2.out.cell (i := 3) rfl
  have c4 := HK2.out.cell (i := 4) rfl
  rw [HW2.out] at c0 c1 c2 c3 c4
  rw [HBE.out] at c0 c1 c2 c3 c4
  clear hat hb1 hb2 hp hm hW2 hbe HNEW
  go_wp2_with fail
  rw [← HW2.out, ← HBE.out]
  refine HC1.out.mono ?_
  rintro e v1 ⟨⟨vo1, vc1, N1, rfl⟩, hac1, ht1, hb1⟩
  obtain ⟨V1, hV1⟩ : ∃ V, V = v1.alloc (.cells #[.int .i64 2, .int .i64 1, .int .i64 0, .int .i64 2, .int .i64 0, .int .i64 0, .bool true, .string ⟨#[]⟩, .string ⟨#[]⟩, .int .i64 0, .slice none 0 0, .slice vo1 N1 vc1, .slice none 0 0, .slice none 0 0, .int .i64 0] 38) := ⟨_, rfl⟩
  have hc1 : Below v1.heap.size v1 V1 := by rw [hV1]; exact (Below.refl _ _).alloc (Nat.le_refl _) _
  obtain ⟨z1, hz1⟩ : ∃ q, q = v1.heap.size := ⟨_, rfl⟩
  have HZ1 : Hid (Blk V1 z1 38 [.int .i64 2, .int .i64 1, .int .i64 0, .int .i64 2, .int .i64 0, .int .i64 0, .bool true, .string ⟨#[]⟩, .string ⟨#[]⟩, .int .i64 0, .slice none 0 0, .slice vo1 N1 vc1, .slice none 0 0, .slice none 0 0, .int .i64 0]) := by rw [hV1, hz1]; exact Blk.new v1 _ _
  have HLV1 := hid (hac1.below hc1)
  have HBV1 := hid (bt' (HB2.out.trans hb1) hc1)
  have HPZ1 : Hid (¬ FootA p m z1) := fun hf => by have := hac1.at'.lt _ hf; omega
  have HVE1 := hid hV1
  have HZE1 := hid hz1
  have HEB1 := hid ((ht1.blk HK2.out HPF.out).below hc1 (ht1.blk HK2.out HPF.out).lt)
  have HC2 := hid (HLV1.out.on_yes HBV1.out.size ms2 (mkMs_ok _ _ _ _ _ (by unfold I64; decide) (by unfold I64; decide) (by unfold I64; decide) (by unfold I64; decide) (by unfold I64; decide)) (mkMs_b _ _ _ _ _) takes_2 after_2 kind_2 rec_2 (r := 2) (n := 0) (nd := 1) rfl rfl)
  simp only [ms2, mkMs, MsM.val, noopEn, List.length_nil] at HC2
  clear c0 c1 c2 c3 c4
  have c0 := HEB1.out.cell (i := 0) rfl
  have c1 := HEB1.out.cell (i := 1) rfl
  have c2 := HEB1.out.cell (i := 2) rfl
  have c3 := HEB1.out.cell (i := 3) rfl
  have c4 := HEB1.out.cell (i := 4) rfl
  rw [HVE1.out] at c0 c1 c2 c3 c4
  clear hac1 ht1 hb1 hc1 hV1 hz1 HC1
  go_wp2_with fail
  rw [← HVE1.out, ← HZE1.out]
  refine HC2.out.mono ?_
  rintro e v2 ⟨⟨vo2, vc2, N2, rfl⟩, hac2, ht2, hb2⟩
  obtain ⟨V2, hV2⟩ : ∃ V, V = v2.alloc (.cells #[.int .i64 5, .int .i64 1, .int .i64 2, .int .i64 2, .int .i64 0, .int .i64 0, .bool true, .string ⟨#[]⟩, .string ⟨#[]⟩, .int .i64 0, .slice none 0 0, .slice vo2 N2 vc2, .slice none 0 0, .slice none 0 0, .int .i64 0] 38) := ⟨_, rfl⟩
  have hc2 : Below v2.heap.size v2 V2 := by rw [hV2]; exact (Below.refl _ _).alloc (Nat.le_refl _) _
  obtain ⟨z2, hz2⟩ : ∃ q, q = v2.heap.size := ⟨_, rfl⟩
  have HZ2 : Hid (Blk V2 z2 38 [.int .i64 5, .int .i64 1, .int .i64 2, .int .i64 2, .int .i64 0, .int .i64 0, .bool true, .string ⟨#[]⟩, .string ⟨#[]⟩, .int .i64 0, .slice none 0 0, .slice vo2 N2 vc2, .slice none 0 0, .slice none 0 0, .int .i64 0]) := by rw [hV2, hz2]; exact Blk.new v2 _ _
  have HLV2 := hid (hac2.below hc2)
  have HBV2 := hid (bt' (HBV1.out.trans hb2) hc2)
  have HPZ2 : Hid (¬ FootA p m z2) := fun hf => by have := hac2.at'.lt _ hf; omega
  have HVE2 := hid hV2
  have HZE2 := hid hz2
  have HEB2 := hid ((ht2.blk HEB1.out HPF.out).below hc2 (ht2.blk HEB1.out HPF.out).lt)
  have HZ1b := hid ((ht2.blk HZ1.out HPZ1.out).below hc2 (ht2.blk HZ1.out HPZ1.out).lt)
  have HC3 := hid (HLV2.out.on_yes HBV2.out.size ms3 (mkMs_ok _ _ _ _ _ (by unfold I64; decide) (by unfold I64; decide) (by unfold I64; decide) (by unfold I64; decide) (by unfold I64; decide)) (mkMs_b _ _ _ _ _) takes_3 after_3 kind_3 HR3.out (r := 2) (n := 0) (nd := 1) rfl rfl)
  simp only [ms3, mkMs, MsM.val, noopEn, List.length_nil] at HC3
  clear c0 c1 c2 c3 c4
  have c0 := HEB2.out.cell (i := 0) rfl
  have c1 := HEB2.out.cell (i := 1) rfl
  have c2 := HEB2.out.cell (i := 2) rfl
  have c3 := HEB2.out.cell (i := 3) rfl
  have c4 := HEB2.out.cell (i := 4) rfl
  rw [HVE2.out] at c0 c1 c2 c3 c4
  clear hac2 ht2 hb2 hc2 hV2 hz2 HC2
  go_wp2_with fail
  rw [← HVE2.out, ← HZE2.out]
  refine HC3.out.mono ?_
  rintro e v3 ⟨⟨vo3, vc3, N3, rfl⟩, hac3, ht3, hb3⟩
  obtain ⟨V3, hV3⟩ : ∃ V, V = v3.alloc (.cells #[.int .i64 4, .int .i64 1, .int .i64 0, .int .i64 2, .int .i64 0, .int .i64 3, .bool true, .string ⟨#[]⟩, .string ⟨#[]⟩, .int .i64 0, .slice none 0 0, .slice vo3 N3 vc3, .slice none 0 0, .slice none 0 0, .int .i64 0] 38) := ⟨_, rfl⟩
  have hc3 : Below v3.heap.size v3 V3 := by rw [hV3]; exact (Below.refl _ _).alloc (Nat.le_refl _) _
  obtain ⟨z3, hz3⟩ : ∃ q, q = v3.heap.size := ⟨_, rfl⟩
  have HZ3 : Hid (Blk V3 z3 38 [.int .i64 4, .int .i64 1, .int .i64 0, .int .i64 2, .int .i64 0, .int .i64 3, .bool true, .string ⟨#[]⟩, .string ⟨#[]⟩, .int .i64 0, .slice none 0 0, .slice vo3 N3 vc3, .slice none 0 0, .slice none 0 0, .int .i64 0]) := by rw [hV3, hz3]; exact Blk.new v3 _ _
  have HLV3 := hid (hac3.below hc3)
  have HBV3 := hid (bt' (HBV2.out.trans hb3) hc3)
  have HPZ3 : Hid (¬ FootA p m z3) := fun hf => by have := hac3.at'.lt _ hf; omega
  have HVE3 := hid hV3
  have HZE3 := hid hz3
  have HZ1c3 := hid ((ht3.blk HZ1b.out HPZ1.out).below hc3 (ht3.blk HZ1b.out HPZ1.out).lt)
  have HZ2c3 := hid ((ht3.blk HZ2.out HPZ2.out).below hc3 (ht3.blk HZ2.out HPZ2.out).lt)
  have HVO := hid HLV3.out.at'.votes
  have a0 := HZ1c3.out.cell (i := 0) rfl
  have b0 := HZ2c3.out.cell (i := 0) rfl
  have b3 := HZ2c3.out.cell (i := 3) rfl
  have d0 := HZ3.out.cell (i := 0) rfl
  rw [HVE3.out] at a0 b0 b3 d0
  rw [HZE3.out] at d0
  clear hac3 ht3 hb3 hc3 hV3 hz3 HC3 c0 c1 c2 c3 c4
  go_wp2_with fail
  rw [← HVE3.out]
  refine HVO.out.mono ?_
  rintro e w9 ⟨vo, vc, vs, rfl, hmap, _, _, _, hb9⟩
  have hlen : vs.length = 1 := by have := congrArg List.length hmap; rw [votes_3] at this; simpa using this
  rw [hlen]
  have HB9 := hid (bt' HBV3.out hb9)
  clear hmap hb9 hlen
  go_wp2
  go_ret
  have hE1 : R1.toList.isEmpty = false := by simpa using hR1
  have hE3 : R3.toList.isEmpty = false := by simpa using hR3
  refine ⟨?_, HB9.out⟩
  show Ending.returned (.bool (!R1.toList.isEmpty && !R3.toList.isEmpty)) = _
  rw [hE1, hE3]
  rfl
end Go.Proofs.YthcpopigkbefhaaGreat
