/-
  pannierref16.On of any message.
-/
import Derived.Test.YtfmnbehopdmahaaGreatAvV
import Derived.Test.YtfmnbehopdmahaaGreatAvW
import Derived.Test.YtfmnbehopdmahaaGreatAvX
import Derived.Test.YtfmnbehopdmahaaGreatAvY
import Derived.Test.YtfmnbehopdmahaaGreatAvP
import Derived.Test.YtfmnbehopdmahaaGreatAvQ
import Derived.Test.YtfmnbehopdmahaaGreatAvR
import Derived.Test.YtfmnbehopdmahaaGreatAcX
import Derived.Test.YtfmnbehopdmahaaGreatRdV
import Derived.Laws.IdiomStrings
import Derived.Test.YtfmnbehopdmahaaGreatRdF
import Derived.Test.YtfmnbehopdmahaaGreatRdD
import Derived.BigRegion
namespace Go.Proofs.YtfmnbehopdmahaaGreat
open Go.RowKit Go.Maps

theorem RaIn.on {w : World} {B x : Nat} {a : Ac} {xs : List VoM} {ro : Option Addr} {rc : Nat} (h : RaIn B w x a xs ro rc) (hB : B ≤ w.heap.size) (X : MsM) (hx : MsOk w X) (hs : SafeM w B X) : Calls Tryz.prog 10 #[.pointer (some ⟨x, 0, none⟩), X.val] w (OnD B w x a ro X) := by
  by_cases hr : RightMs X = true ∧ (encMs X).length ≤ 65536
  · by_cases ht : takesA a X = true
    · have hk : X.kind = 1 ∨ X.kind = 3 := by
        unfold takesA at ht
        simp only [Bool.and_eq_true, decide_eq_true_eq] at ht
        exact ht.2.1
      have hc := cmpB_or X.bal a.pr
      rcases hk with hk | hk
      · rcases hc with hc | hc | hc
        · exact h.on_r1 hB X hx ht hk hc
        · exact h.on_p0 hB X hx ht hk hc
        · exact h.on_p1 hB X hx ht hk hc
      · by_cases hf : findV xs X.slot 0 < 0
        · have hf' : findV xs X.slot 0 = -1 := by
            rcases findV_or xs X.slot 0 with h1 | ⟨j, _, h1, _⟩
            · exact h1
            · omega
          by_cases hn : xs.length < 4096
          · have hv : chgV xs ⟨X.slot, X.bal, X.en⟩ = true := by
              unfold chgV
              rw [if_neg (by show ¬ 0 ≤ findV xs X.slot 0; omega)]
            rcases hc with hc | hc | hc
            · exact h.on_r3b hB X hx ht hk hc hf' hn
            · exact h.on_a1 hB X hx hs ht hk hc hf' hn hv
            · exact h.on_a2 hB X hx hs ht hk hc hf' hn hv
          · have hn' : 4096 ≤ xs.length := by omega
            rcases hc with hc | hc | hc
            · exact h.on_r3c hB X hx ht hk hc hf' hn'
            · exact h.on_r3d hB X hx ht hk hc hf' hn'
            · exact h.on_r3e hB X hx ht hk hc hf' hn'
        · rcases hc with hc | hc | hc
          · exact h.on_r3a hB X hx ht hk hc hf
          · cases hv : chgV xs ⟨X.slot, X.bal, X.en⟩
            · exact h.on_a5 hB X hx hs ht hk hc hf hv
            · exact h.on_a4 hB X hx hs ht hk hc hf hv
          · refine h.on_a3 hB X hx hs ht hk hc hf ?_
            rw [h.tw.chg h.gok ⟨X.slot, X.bal, X.en⟩]
            have h1 := chg_or h.gok (x := X) (by rw [cmpB_neg, hc]; decide)
            rw [decide_eq_true (show a.pr ≠ X.bal from fun e => by rw [e, cmpB_same] at hc; exact absurd hc (by decide)), Bool.true_or] at h1
            exact h1.symm
    · exact h.on_other hB X hx hr ht
  · exact h.on_err hB X hx hr
end Go.Proofs.YtfmnbehopdmahaaGreat
/-
  Records and what they say, for Replay: with no memory in it.
-/
namespace Go.Proofs.YtfmnbehopdmahaaGreat
open Go.RowKit Go.Maps

theorem rightMs_of {x : MsM} (h : RightMsD x.d) : RightMs x = true := by
  unfold RightMs RightVs RightEs
  simp only [Bool.and_eq_true, List.all_eq_true]
  refine ⟨decide_eq_true h.k, decide_eq_true h.f, decide_eq_true h.t, h.b, decide_eq_true h.s, h.e, ⟨decide_eq_true ?_, fun y hy => ?_⟩, h.n, ⟨decide_eq_true ?_, fun y hy => ?_⟩, decide_eq_true h.i⟩
  · have := h.v.1
    rw [show x.d.vs = x.vs.map VoM.d from rfl, List.length_map] at this
    exact this
  · exact h.v.2 _ (List.mem_map.2 ⟨y, hy, rfl⟩)
  · have := h.w.1
    rw [show x.d.evs = x.evs.map (fun y => y.e) from rfl, List.length_map] at this
    exact this
  · exact h.w.2 _ (List.mem_map.2 ⟨y, hy, rfl⟩)
theorem rightMs_eq {x y : MsM} (h : x.d = y.d) : RightMs x = RightMs y := by
  rw [Bool.eq_iff_iff]
  exact ⟨fun hx => rightMs_of (h ▸ rightMs_d hx), fun hy => rightMs_of (h.symm ▸ rightMs_d hy)⟩
section
variable {a : Ac} {x y : MsM}
theorem takes_d (h : x.d = y.d) : takesA a x = takesA a y := by
  unfold takesA
  rw [rightMs_eq h, encMs_d, encMs_d, h, show x.to = y.to from congrArg MsD.to h, show x.kind = y.kind from congrArg MsD.kind h]
theorem kind_d (h : x.d = y.d) : kindA a x = kindA a y := by
  unfold kindA
  rw [show x.bal = y.bal from congrArg MsD.bal h, show x.kind = y.kind from congrArg MsD.kind h, show x.slot = y.slot from congrArg MsD.slot h]
theorem after_d (h : x.d = y.d) : afterA a x = afterA a y := by
  unfold afterA
  rw [kind_d h, show x.bal = y.bal from congrArg MsD.bal h, show x.slot = y.slot from congrArg MsD.slot h, show x.en.e = y.en.e from congrArg MsD.en h]
/-- A message that changes nothing. -/
theorem after_same (h : AcOk a) (hc : changesA a x = false) : afterA a x = a := by
  unfold afterA
  unfold changesA at hc
  rcases kindA_or a x with k | k | k
  · rw [if_neg (by rw [k]; decide), if_neg (by rw [k]; decide)]
  · rw [if_pos k] at hc
    rw [if_pos k]
    have : x.bal = a.pr := by simpa using hc
    unfold promA
    rw [this]
  · have k2 : ¬ kindA a x = 2 := by rw [k]; decide
    rw [if_neg k2, if_pos k] at hc
    rw [if_neg k2, if_pos k]
    have hv : a.f x.slot = some (x.bal, x.en.e) := by simpa using hc
    have hr := h.right _ _ hv
    have hn : ¬ 0 < cmpB a.pr x.bal := kind_other (by rw [k]; decide)
    have hb : x.bal = a.pr := by
      have h1 : cmpB x.bal a.pr ≤ 0 := hr.2.2
      have h2 := cmpB_neg a.pr x.bal
      exact (cmpB_zero.1 (show cmpB a.pr x.bal = 0 by omega)).symm
    have hm : x.slot ∈ a.ks := (h.has _).2 (by rw [hv]; rfl)
    unfold voteA
    rw [putS_old h.rise hm]
    have hf : (fun t => if t = x.slot then some (x.bal, x.en.e) else a.f t) = a.f := by
      funext t
      by_cases e : t = x.slot
      · rw [if_pos e, e, hv]
      · rw [if_neg e]
    rw [hf]
    show (⟨a.node, x.bal, a.f, a.ks⟩ : Ac) = a
    rw [hb]
end
theorem recOf_ne (x : MsM) : ¬ recOf x = ⟨#[]⟩ := fun h => by
  have h1 : (recOf x).size = 0 := by rw [h]; rfl
  unfold recOf at h1
  rw [strOfNums_size] at h1
  have h2 := enc_pos x.kind.toNat
  unfold encMs at h1
  simp only [List.length_append] at h1
  omega
theorem recOf_nums (x : MsM) : strNums (recOf x) = encMs x := strNums_ofR (encMs_byte x)
theorem recOf_reads {x : MsM} (h : RightMs x = true) : pMsg (strNums (recOf x)) = some (x.d, []) := by
  have := pMsg_reads.fwd x.d [] (rightMs_d h)
  rw [List.append_nil, ← encMs_d] at this
  rw [recOf_nums]
  exact this
end Go.Proofs.YtfmnbehopdmahaaGreat
/-
  Package acceptor: Replay of any record.
-/
namespace Go.Proofs.YtfmnbehopdmahaaGreat
open Go.RowKit Go.Maps

/-- []byte(s): a new row that holds its bytes. -/
theorem conv_bytes (w : World) (s : ByteArray) (hs : s.size ≤ maxLen) : ∃ C W, (convert 9 66 (.string s)).run Tryz.prog w = .ok (.slice (some ⟨w.heap.size, 0, none⟩) s.size C) W ∧ Held W (some ⟨w.heap.size, 0, none⟩) s.size C (strNums s) ∧ Below w.heap.size w W := by
  refine ⟨_, _, run_bytes_of_string w 9 66 5 s Tryz.underlying9 Tryz.underlying66 Tryz.underlying5, ⟨strNums_len s, grownCap_ge _ _ _ _, grownCap_le_maxLen _ _ _ _ hs, fun h => (by cases h), strNums_byte s, fun ad had j hj => ?_, fun ad had _ => ?_⟩, (Below.refl _ _).drew.alloc (Nat.le_refl _) _⟩
  · cases had
    have hb : (w.drew.alloc (.cells (bytesRow s (grownCap w s.size 0 5)) 5 ((bytesRow s (grownCap w s.size 0 5)).size, (bytesRow s (grownCap w s.size 0 5)).size + 1))).heap[w.heap.size]? = some (.cells (bytesRow s (grownCap w s.size 0 5)) 5 ((bytesRow s (grownCap w s.size 0 5)).size, (bytesRow s (grownCap w s.size 0 5)).size + 1)) := World.alloc_heap_new w.drew _
    rw [Addr.add_lit, Nat.zero_add]
    unfold World.cell?
    rw [hb]
    show (bytesRow s _)[j]? = _
    have hd : j < s.data.size := hj
    unfold bytesRow
    rw [Array.getElem?_append_left (by simpa using hd)]
    simp only [strNums, List.getD, List.getElem?_map, Array.getElem?_map, Array.getElem?_toList, Array.getElem?_eq_getElem hd, Option.map_some, Option.getD_some]
  · cases had
    show w.heap.size < (w.heap.push _).size
    simp
/-- What Replay leaves. -/
def ReplP (w : World) (p m : Nat) (a : Ac) (rec : ByteArray) (e : Ending) (w' : World) : Prop := ∃ (b : Ac) (E : Int), e = .returned (.int .i64 E) ∧ AcAt w' p m b ∧ Turns (FootA p m) w w' ∧
  ((E = 0 ∧ ∃ x : MsM, rec.size ≤ 65536 ∧ pMsg (strNums rec) = some (x.d, []) ∧ takesA a x = true ∧ kindA a x ≠ 5 ∧ b = afterA a x) ∨
   (E = 10 ∧ b = a ∧ ¬ ∃ x : MsM, rec.size ≤ 65536 ∧ pMsg (strNums rec) = some (x.d, []) ∧ takesA a x = true ∧ kindA a x ≠ 5))
set_option maxRecDepth 1000000 in
set_option maxHeartbeats 16000000 in
theorem AcAt.replay {w : World} {p m : Nat} {a : Ac} (h : AcAt w p m a) (rec : ByteArray) (hs : rec.size ≤ maxLen) : Calls Tryz.prog 16 #[.pointer (some ⟨p, 0, none⟩), .string rec] w (ReplP w p m a rec) := by
  obtain ⟨C, W1, hcv, hheld, hb1⟩ := conv_bytes w rec hs
  obtain ⟨RN, HRN⟩ : ∃ n, Hid (rec.size = n) := ⟨_, hid rfl⟩
  rw [HRN.out] at hcv hheld
  have HC := hid h.closed
  have HRM := hid (readMsg_any _ _ _ _ W1 hheld)
  have H1 := hid (h.below hb1)
  have HB1 := hid hb1
  have HLT := hid h.lt
  clear h hs hheld hb1
  go_enter Tryz.func16, Tryz.ntmps16
  go_wp2_with fail
  refine HC.out.mono ?_
  rintro e wz ⟨rfl, hwz⟩
  rw [hwz]
  clear hwz
  go_wp2_with fail
  refine HRM.out.mono ?_
  rintro e w2 ⟨⟨kd, fr, tt, ⟨br, bn⟩, sl, ⟨⟨np, tk, ct, ep, cut⟩, a_1, c⟩, va, vc, vs, sa, sc, seen, ea, ec, evs, ti⟩, E, rfl, hmn, hor, hb2⟩
  simp only [MsM.val]
  obtain ⟨XN, HXN⟩ : ∃ m, Hid (cut.length = m) := ⟨_, hid rfl⟩
  obtain ⟨VN, HVN⟩ : ∃ m, Hid (vs.length = m) := ⟨_, hid rfl⟩
  obtain ⟨SN, HSN⟩ : ∃ m, Hid (seen.length = m) := ⟨_, hid rfl⟩
  obtain ⟨EN, HEN⟩ : ∃ m, Hid (evs.length = m) := ⟨_, hid rfl⟩
  rw [HXN.out, HVN.out, HSN.out, HEN.out]
  obtain ⟨U, hU⟩ : ∃ V, V = w2.alloc (.cells #[.int .i64 kd, .int .i64 fr, .int .i64 tt, .int .i64 br, .int .i64 bn, .int .i64 sl, .bool np, .string tk, .string ct, .int .i64 ep, .slice a_1 XN c, .slice va VN vc, .slice sa SN sc, .slice ea EN ec, .int .i64 ti] 43) := ⟨_, rfl⟩
  have hbU : Below w2.heap.size w2 U := by rw [hU]; exact (Below.refl _ _).alloc (Nat.le_refl _) _
  have HKM : Hid (Blk U w2.heap.size 43 [.int .i64 kd, .int .i64 fr, .int .i64 tt, .int .i64 br, .int .i64 bn, .int .i64 sl, .bool np, .string tk, .string ct, .int .i64 ep, .slice a_1 XN c, .slice va VN vc, .slice sa SN sc, .slice ea EN ec, .int .i64 ti]) := by rw [hU]; exact Blk.new w2 _ _
  have HBU := hid (bt' (bt' HB1.out hb2) hbU)
  have HAU := hid ((H1.out.below hb2).below hbU)
  have HMN := hid (hmn.below hbU)
  have HU := hid hU
  clear hU hbU hmn hb2 HRM H1 hcv
  rcases hor with ⟨rfl, hl, hp⟩ | ⟨rfl, _, hno⟩
  · have HSZ : Hid (rec.size ≤ 65536) := by rw [HRN.out]; exact hid hl
    have HPM := hid hp
    have HEF := hid (HAU.out.effectOf ⟨kd, fr, tt, (br, bn), sl, ⟨⟨np, tk, ct, ep, cut⟩, a_1, c⟩, va, vc, vs, sa, sc, seen, ea, ec, evs, ti⟩ HMN.out.ok)
    simp only [MsM.val] at HEF
    rw [HXN.out, HVN.out, HSN.out, HEN.out] at HEF
    have HSP : Hid (∀ b off, a_1 = some ⟨b, off, none⟩ → cut ≠ [] → b ≠ p) := fun b off e hne hp => by
      have h1 := HMN.out.cutN b off e hne
      have h2 := HLT.out p (.inl rfl)
      have h3 := HB1.out.size
      omega
    clear hl hp
    have q0 := HKM.out.cell (i := 0) rfl
    have q1 := HKM.out.cell (i := 1) rfl
    have q2 := HKM.out.cell (i := 2) rfl
    have q3 := HKM.out.cell (i := 3) rfl
    have q4 := HKM.out.cell (i := 4) rfl
    have q5 := HKM.out.cell (i := 5) rfl
    have q6 := HKM.out.cell (i := 6) rfl
    have q7 := HKM.out.cell (i := 7) rfl
    have q8 := HKM.out.cell (i := 8) rfl
    have q9 := HKM.out.cell (i := 9) rfl
    have q10 := HKM.out.cell (i := 10) rfl
    have q11 := HKM.out.cell (i := 11) rfl
    have q12 := HKM.out.cell (i := 12) rfl
    have q13 := HKM.out.cell (i := 13) rfl
    have q14 := HKM.out.cell (i := 14) rfl
    rw [HU.out] at q0 q1 q2 q3 q4 q5 q6 q7 q8 q9 q10 q11 q12 q13 q14
    go_wp2_with fail
    rw [← HU.out]
    refine HEF.out.mono ?_
    rintro e w4 ⟨hb4, h4⟩
    clear q0 q1 q2 q3 q4 q5 q6 q7 q8 q9 q10 q11 q12 q13 q14
    by_cases htk : takesA a ⟨kd, fr, tt, (br, bn), sl, ⟨⟨np, tk, ct, ep, cut⟩, a_1, c⟩, va, vc, vs, sa, sc, seen, ea, ec, evs, ti⟩ = true
    · rw [if_pos htk] at h4
      obtain ⟨f2, lb2, rfl, hdo⟩ := h4
      have HTK := hid htk
      obtain ⟨kk, HKK⟩ : ∃ q, Hid (kindA a ⟨kd, fr, tt, (br, bn), sl, ⟨⟨np, tk, ct, ep, cut⟩, a_1, c⟩, va, vc, vs, sa, sc, seen, ea, ec, evs, ti⟩ = q) := ⟨_, hid rfl⟩
      obtain ⟨RR, HRR⟩ : ∃ q, Hid ((if changesA a ⟨kd, fr, tt, (br, bn), sl, ⟨⟨np, tk, ct, ep, cut⟩, a_1, c⟩, va, vc, vs, sa, sc, seen, ea, ec, evs, ti⟩ = true then recOf ⟨kd, fr, tt, (br, bn), sl, ⟨⟨np, tk, ct, ep, cut⟩, a_1, c⟩, va, vc, vs, sa, sc, seen, ea, ec, evs, ti⟩ else ⟨#[]⟩) = q) := ⟨_, hid rfl⟩
      obtain ⟨cc, HCC⟩ : ∃ q, Hid (changesA a ⟨kd, fr, tt, (br, bn), sl, ⟨⟨np, tk, ct, ep, cut⟩, a_1, c⟩, va, vc, vs, sa, sc, seen, ea, ec, evs, ti⟩ = q) := ⟨_, hid rfl⟩
      rw [HKK.out, HRR.out, HCC.out]
      obtain ⟨W5, hW5⟩ : ∃ V, V = w4.alloc (.cells #[.int .i64 kk, .bool cc, .string RR, .func (.func f2) #[] lb2] 62) := ⟨_, rfl⟩
      have hb5 : Below w4.heap.size w4 W5 := by rw [hW5]; exact (Below.refl _ _).alloc (Nat.le_refl _) _
      have HB5 := hid (bt' HBU.out (bt' hb4 hb5))
      have HA5 := hid (HAU.out.below (bt' hb4 hb5))
      have HX5 := hid (HMN.out.ok.below (bt' hb4 hb5))
      have HDO := hid (hdo.below hb5)
      have HKX : Hid (Blk W5 w4.heap.size 62 [.int .i64 kk, .bool cc, .string RR, .func (.func f2) #[] lb2]) := by rw [hW5]; exact Blk.new w4 _ _
      have HW5 := hid hW5
      have HRG := hid (takesA_right HTK.out)
      clear hb4 hdo hb5 hW5 htk HEF
      rcases HDO.out with ⟨hk, rfl, rfl⟩ | ⟨ba2, bm2, rfl, hA2, hM2, (⟨hk, rfl⟩ | ⟨hk, rfl⟩)⟩
      · obtain rfl : kk = 5 := by rw [← HKK.out]; exact hk
        have HFI : Hid (ReplP w p m a rec (.returned (.int .i64 10)) W5) := ⟨a, 10, rfl, HA5.out, Turns.of_below (F := FootA p m) HB5.out (Nat.le_refl _), .inr ⟨rfl, rfl, fun ⟨y, _, hy, _, hk5⟩ => by
          rw [HPM.out] at hy
          have hd : y.d = MsM.d ⟨kd, fr, tt, (br, bn), sl, ⟨⟨np, tk, ct, ep, cut⟩, a_1, c⟩, va, vc, vs, sa, sc, seen, ea, ec, evs, ti⟩ := by injection hy with hy; injection hy with hy; exact hy.symm
          exact hk5 ((kind_d hd).trans HKK.out)⟩⟩
        have x0 := HKX.out.cell (i := 0) rfl
        rw [HW5.out] at x0
        clear hk
        go_wp2
        go_ret
        rw [← HW5.out]
        exact HFI.out
      · have HDC := hid (does_prep HA5.out hA2 hM2 HRG.out hk)
        have HKN : Hid (kk ≠ 5) := (by rw [← HKK.out, hk]; decide : kk ≠ 5)
        have hkk : ¬ kk = 5 := HKN.out
        clear hA2 hM2 hk
        have x0 := HKX.out.cell (i := 0) rfl
        have x3 := HKX.out.cell (i := 3) rfl
        rw [HW5.out] at x0 x3
        go_wp2_with fail
        rw [← HW5.out]
        refine HDC.out.mono ?_
        rintro e w6 ⟨rfl, hat6, ht6⟩
        have HFI : Hid (ReplP w p m a rec (.returned (.int .i64 0)) w6) := ⟨_, 0, rfl, hat6, (Turns.of_below (F := FootA p m) HB5.out (Nat.le_refl _)).trans ht6 (fun i hi => .inl hi), .inl ⟨rfl, ⟨kd, fr, tt, (br, bn), sl, ⟨⟨np, tk, ct, ep, cut⟩, a_1, c⟩, va, vc, vs, sa, sc, seen, ea, ec, evs, ti⟩, HSZ.out, HPM.out, HTK.out, (by rw [HKK.out]; exact HKN.out), rfl⟩⟩
        clear hat6 ht6 x0 x3
        go_wp2
        go_ret
        exact HFI.out
      · have HDC := hid (does_acc HA5.out hA2 hM2 HX5.out HSP.out HRG.out hk)
        have HKN : Hid (kk ≠ 5) := (by rw [← HKK.out, hk]; decide : kk ≠ 5)
        have hkk : ¬ kk = 5 := HKN.out
        clear hA2 hM2 hk
        have x0 := HKX.out.cell (i := 0) rfl
        have x3 := HKX.out.cell (i := 3) rfl
        rw [HW5.out] at x0 x3
        go_wp2_with fail
        rw [← HW5.out]
        refine HDC.out.mono ?_
        rintro e w6 ⟨rfl, hat6, ht6⟩
        have HFI : Hid (ReplP w p m a rec (.returned (.int .i64 0)) w6) := ⟨_, 0, rfl, hat6, (Turns.of_below (F := FootA p m) HB5.out (Nat.le_refl _)).trans ht6 (fun i hi => .inl hi), .inl ⟨rfl, ⟨kd, fr, tt, (br, bn), sl, ⟨⟨np, tk, ct, ep, cut⟩, a_1, c⟩, va, vc, vs, sa, sc, seen, ea, ec, evs, ti⟩, HSZ.out, HPM.out, HTK.out, (by rw [HKK.out]; exact HKN.out), rfl⟩⟩
        clear hat6 ht6 x0 x3
        go_wp2
        go_ret
        exact HFI.out
    · rw [if_neg htk] at h4
      subst h4
      obtain ⟨W5, hW5⟩ : ∃ V, V = w4.alloc (.cells #[.int .i64 0, .bool false, .string ⟨#[]⟩, .nilFunc] 62) := ⟨_, rfl⟩
      have hb5 : Below w4.heap.size w4 W5 := by rw [hW5]; exact (Below.refl _ _).alloc (Nat.le_refl _) _
      have HFI : Hid (ReplP w p m a rec (.returned (.int .i64 10)) W5) := ⟨a, 10, rfl, HAU.out.below (bt' hb4 hb5), Turns.of_below (F := FootA p m) (bt' HBU.out (bt' hb4 hb5)) (Nat.le_refl _), .inr ⟨rfl, rfl, fun ⟨y, _, hy, hty, _⟩ => by
        rw [HPM.out] at hy
        have hd : y.d = MsM.d ⟨kd, fr, tt, (br, bn), sl, ⟨⟨np, tk, ct, ep, cut⟩, a_1, c⟩, va, vc, vs, sa, sc, seen, ea, ec, evs, ti⟩ := by injection hy with hy; injection hy with hy; exact hy.symm
        rw [takes_d hd] at hty
        exact htk hty⟩⟩
      have HW5 := hid hW5
      clear hb4 hb5 hW5 htk HEF
      go_wp2
      go_ret
      rw [← HW5.out]
      exact HFI.out
  · have HFI : Hid (ReplP w p m a rec (.returned (.int .i64 10)) U) := ⟨a, 10, rfl, HAU.out, Turns.of_below (F := FootA p m) HBU.out (Nat.le_refl _), .inr ⟨rfl, rfl, fun ⟨y, h1, h2, _, _⟩ => hno ⟨by rw [← HRN.out]; exact h1, y.d, h2⟩⟩⟩
    clear hno
    go_wp2
    go_ret
    rw [← HU.out]
    exact HFI.out
end Go.Proofs.YtfmnbehopdmahaaGreat
/-
  pannierref01's reader in memory; number.
-/
namespace Go.Proofs.YtfmnbehopdmahaaGreat
open Go.RowKit Go.Maps

/-- The document's reader, in its block rb: st is what is left to be read, if nothing was refused. -/
structure RqAt (B : Nat) (w : World) (rb : Nat) (bs : List Int) (st : Option (List Int)) : Prop where
  few : bs.length ≤ 65536
  brb : B ≤ rb
  blk : ∃ (bo : Option Addr) (L C at' : Nat) (ok : Bool), Blk w rb 104 [.slice bo L C, .int .i64 (at' : Int), .bool ok] ∧ Held w bo L C (bs.drop at') ∧ (∀ ad, bo = some ad → 0 < L → ad.block < B) ∧ at' ≤ bs.length ∧ ((st = some (bs.drop at') ∧ ok = true) ∨ (st = none ∧ ok = false))
theorem turns_ownQ {w V : World} {b i : Nat} {v : Value} (h : Turns (fun k => k = b) w V) : Turns (fun k => k = b) w (V.setCell ⟨b, i, none⟩ v) := h.setCell (p := ⟨b, i, none⟩) (.inl rfl) v
theorem held_offQ {w : World} {ao : Option Addr} {len cap : Nat} {bs : List Int} {rb : Nat} {c0 : Option Addr} {l0 k0 : Nat} {a1 : Int} {b2 : Bool} {t : TypeId} (h : Held w ao len cap bs) (k : Blk w rb t [.slice c0 l0 k0, .int .i64 a1, .bool b2]) : ∀ ad, ao = some ad → 0 < len → ad.block ≠ rb := by
  intro ad e hl hb
  obtain ⟨b, off, h1, _, h2⟩ := h.at hl
  rw [e] at h1
  cases h1
  have hb' : b = rb := hb
  subst hb'
  have h3 := h2 0 hl
  have hk := k
  unfold Blk at hk
  simp only [World.cell?, hk] at h3
  simp at h3
  match off, h3 with
  | 0, h3 => simp at h3
  | 1, h3 => simp at h3
  | 2, h3 => simp at h3
  | n + 3, h3 => simp at h3
theorem RqAt.below {B : Nat} {w w' : World} {rb : Nat} {bs : List Int} {st : Option (List Int)} (h : RqAt B w rb bs st) (hb : Below w.heap.size w w') : RqAt B w' rb bs st := by
  obtain ⟨bo, L, C, at', ok, h1, h2, h3⟩ := h.blk
  exact ⟨h.few, h.brb, bo, L, C, at', ok, h1.below hb h1.lt, h2.below hb (Nat.le_refl _), h3⟩
/-- What is written behind the reader's block leaves it. -/
theorem RqAt.far {B V : Nat} {w w' : World} {rb : Nat} {bs : List Int} {st : Option (List Int)} (h : RqAt B w rb bs st) (hV : rb < V) (hb : Below V w w') : RqAt B w' rb bs st := by
  obtain ⟨bo, L, C, at', ok, h1, h2, h3, h4⟩ := h.blk
  have ht : Turns (fun i => V ≤ i) w w' := ⟨hb.os, hb.tape, hb.output, hb.size, fun k _ hf => hb.block k (by have : ¬ V ≤ k := hf; omega)⟩
  exact ⟨h.few, h.brb, bo, L, C, at', ok, ht.blk h1 (by omega), h2.turned ht (fun ad e hl hf => by have := h3 ad e hl; have := h.brb; have hf' : V ≤ ad.block := hf; omega), h3, h4⟩
theorem cutAt_old {B C L n : Nat} {bo : Option Addr} (h : ∀ ad, bo = some ad → 0 < L → ad.block < B) : ∀ ad, cutAt bo C n = some ad → 0 < L - n → ad.block < B := by
  intro ad e hl
  unfold cutAt at e
  split at e
  · exact h ad e (by omega)
  · cases bo with
    | none => cases e
    | some a =>
      have h1 := h a rfl (by omega)
      injection e with e
      rw [← e]
      exact (show (a.add n).block = a.block by unfold Addr.add; (repeat' split) <;> rfl) ▸ h1
theorem RqAt.lt {B : Nat} {w : World} {rb : Nat} {bs : List Int} {st : Option (List Int)} (h : RqAt B w rb bs st) : rb < w.heap.size := by
  obtain ⟨_, _, _, _, _, h1, _⟩ := h.blk
  exact h1.lt
theorem pNum_bad {b : List Int} {most X n : Nat} (h : dec 0 0 b = (X, n, 10)) : pNum most b = none := by
  rw [pU_num]
  unfold pU
  rw [h, if_neg (show ¬ (10 : Int) = 0 by decide)]
  rfl
theorem pNum_big {b : List Int} {most X n : Nat} (h : dec 0 0 b = (X, n, 0)) (hx : ¬ X ≤ most) : pNum most b = none := by
  rw [pU_num]
  unfold pU
  rw [h, if_pos rfl]
  exact if_neg hx
theorem pNum_ok {b : List Int} {most X n : Nat} (h : dec 0 0 b = (X, n, 0)) (hx : X ≤ most) : pNum most b = some ((X : Int), b.drop n) := by
  rw [pU_num]
  unfold pU
  rw [h, if_pos rfl]
  exact if_pos hx
/-- A part that is refused. -/
theorem RqAt.refuse {α : Type} {B : Nat} {w W3 : World} {rb : Nat} {bs : List Int} {st : Option (List Int)} (h : RqAt B w rb bs st) (p : Rdr α) (hp : nxt st p = none) (hW : W3 = w.setCell ⟨rb, 2, none⟩ (.bool false)) : RqAt B W3 rb bs (nxt st p) ∧ Turns (fun i => i = rb) w W3 := by
  obtain ⟨bo, L, C, at', ok, h1, h2, h2b, h3, _⟩ := h.blk
  have hT : Turns (fun i => i = rb) w W3 := by rw [hW]; exact (Turns.refl (fun i => i = rb) w).setCell (p := ⟨rb, 2, none⟩) (.inl rfl) _
  refine ⟨⟨h.few, h.brb, bo, L, C, at', false, by rw [hW]; exact h1.set 2 _, h2.turned hT (held_offQ h2 h1), h2b, h3, .inr ⟨hp, rfl⟩⟩, hT⟩
theorem nxt_none {α : Type} (p : Rdr α) : nxt none p = none := rfl
theorem got_none {α : Type} (p : Rdr α) (y : α) : Got none p y := fun x r h => by cases h
theorem nxt_bad {α : Type} {p : Rdr α} {b : List Int} (h : p b = none) : nxt (some b) p = none := by unfold nxt; rw [Option.bind_some, h]; rfl
theorem got_bad {α : Type} {p : Rdr α} {b : List Int} (h : p b = none) (y : α) : Got (some b) p y := fun x r hx => by rw [Option.bind_some, h] at hx; cases hx
theorem nxt_ok {α : Type} {p : Rdr α} {b r : List Int} {y : α} (h : p b = some (y, r)) : nxt (some b) p = some r := by unfold nxt; rw [Option.bind_some, h]; rfl
theorem got_ok {α : Type} {p : Rdr α} {b r : List Int} {y : α} (h : p b = some (y, r)) : Got (some b) p y := fun x r' hx => by rw [Option.bind_some, h] at hx; cases hx; rfl
set_option maxRecDepth 1000000 in
set_option maxHeartbeats 4000000 in
theorem RqAt.number {B : Nat} {w : World} {rb : Nat} {bs : List Int} {st : Option (List Int)} (h : RqAt B w rb bs st) (most : Nat) (hm : most ≤ 4611686018427387904) : Calls Tryz.prog 49 #[.pointer (some ⟨rb, 0, none⟩), .int .u64 (most : Int)] w fun e w' => (∃ y : Int, e = .returned (.int .i64 y) ∧ (0 ≤ y ∧ y ≤ (most : Int)) ∧ Got st (pNum most) y) ∧ RqAt B w' rb bs (nxt st (pNum most)) ∧ Turns (fun i => i = rb) w w' := by
  obtain ⟨bo, L, C, at', ok, hk, hh, hold, hat, hst⟩ := h.blk
  have HOLD := hid hold
  have HBRB := hid h.brb
  clear hold
  obtain ⟨X, n, E, hd⟩ : ∃ X n E, dec 0 0 (bs.drop at') = (X, n, E) := ⟨_, _, _, rfl⟩
  have HRU : Hid (Calls Tryz.prog 81 #[.slice bo L C] w fun e w' => e = .returned (.tuple #[.int .u64 (X : Int), .int .i64 (n : Int), .int .i64 E]) ∧ Below w.heap.size w w') := by
    have h1 := refRead_any bo L C (bs.drop at') w hh
    rw [hd] at h1
    exact h1
  have HH := hid h
  have HK := hid hk
  have HHC := hid hh
  have HD := hid hd
  have HAT := hid hat
  have HM := hid hm
  have HST := hid hst
  have HFEW := hid h.few
  have HLL : Hid (L = bs.length - at') := by have := hh.hlen; rw [List.length_drop] at this; exact hid this.symm
  have HBY : Hid (AllB (bs.drop at')) := hid hh.byte
  have d0 := hk.cell (i := 0) rfl
  have hcut : ∀ W, n ≤ L → (Instr.slice 66 (.slice bo L C) (some (.int .i64 (n : Int))) none none).run Tryz.prog W = .ok (.slice (cutAt bo C n) (L - n) (C - n)) W := fun W hn => run_cut_l W 66 5 Tryz.underlying66 size1R bo L C n _ rfl hn
  have HCUT := hid hcut
  clear h hk hh hat hst hm hcut
  go_enter Tryz.func49, Tryz.ntmps49
  go_wp2_with fail
  refine HRU.out.mono ?_
  rintro e w1 ⟨rfl, hb1⟩
  have HH1 := hid (HH.out.below hb1)
  have HK1 := hid (HK.out.below hb1 HK.out.lt)
  have HC1 := hid (HHC.out.below hb1 (Nat.le_refl _))
  have HB1 := hid hb1
  clear hb1 d0
  have c0 := HK1.out.cell (i := 0) rfl
  have c1 := HK1.out.cell (i := 1) rfl
  have c2 := HK1.out.cell (i := 2) rfl
  have f0 := HK1.out.frozen 0
  have f1 := HK1.out.frozen 1
  have f2 := HK1.out.frozen 2
  obtain ⟨W3, hW3⟩ : ∃ V, V = w1.setCell ⟨rb, 2, none⟩ (.bool false) := ⟨_, rfl⟩
  have HREF : Hid (nxt st (pNum most) = none → RqAt B W3 rb bs (nxt st (pNum most)) ∧ Turns (fun i => i = rb) w W3) := fun hp => by
    obtain ⟨h1, h2⟩ := HH1.out.refuse (pNum most) hp hW3
    exact ⟨h1, (Turns.of_below (F := fun i => i = rb) HB1.out (Nat.le_refl _)).trans h2 (fun i hi => .inl hi)⟩
  have HI0 : Hid ((0 : Int) ≤ 0 ∧ (0 : Int) ≤ (most : Int)) := ⟨Int.le_refl _, by omega⟩
  rcases dec_cases (bs.drop at') 0 0 with hbad | ⟨X', n', hgood⟩
  · rw [hd] at hbad
    obtain ⟨rfl, rfl, rfl⟩ : X = 0 ∧ n = 0 ∧ E = 10 := by cases hbad; exact ⟨rfl, rfl, rfl⟩
    have HFIN : Hid ((∃ y : Int, (Ending.returned (.int .i64 0) : Ending) = .returned (.int .i64 y) ∧ (0 ≤ y ∧ y ≤ (most : Int)) ∧ Got st (pNum most) y) ∧ RqAt B W3 rb bs (nxt st (pNum most)) ∧ Turns (fun i => i = rb) w W3) := by
      rcases HST.out with ⟨hs, _⟩ | ⟨hs, _⟩
      · have hp := pNum_bad (most := most) HD.out
        exact ⟨⟨0, rfl, HI0.out, by rw [hs]; exact got_bad hp 0⟩, HREF.out (by rw [hs]; exact nxt_bad hp)⟩
      · exact ⟨⟨0, rfl, HI0.out, by rw [hs]; exact got_none _ 0⟩, HREF.out (by rw [hs]; rfl)⟩
    clear hbad hd
    go_wp2
    rw [← hW3]
    go_ret
    exact HFIN.out
  · rw [hd] at hgood
    obtain ⟨rfl, rfl, rfl⟩ : X = X' ∧ n = n' ∧ E = 0 := by cases hgood; exact ⟨rfl, rfl, rfl⟩
    obtain ⟨_, hx64, hnl, _⟩ := dec_back HBY.out hd
    have HNL : Hid (n ≤ L ∧ at' + n ≤ bs.length) := by rw [List.length_drop] at hnl; have h1 := HLL.out; have h2 := HAT.out; exact ⟨by omega, by omega⟩
    by_cases hx : X ≤ most
    · have hxI : ¬ (most : Int) < (X : Int) := by omega
      cases ok
      · have HFIN : Hid ((∃ y : Int, (Ending.returned (.int .i64 0) : Ending) = .returned (.int .i64 y) ∧ (0 ≤ y ∧ y ≤ (most : Int)) ∧ Got st (pNum most) y) ∧ RqAt B W3 rb bs (nxt st (pNum most)) ∧ Turns (fun i => i = rb) w W3) := by
          rcases HST.out with ⟨_, h0⟩ | ⟨hs, _⟩
          · cases h0
          · exact ⟨⟨0, rfl, HI0.out, by rw [hs]; exact got_none _ 0⟩, HREF.out (by rw [hs]; rfl)⟩
        clear hgood hd hx64 hnl hx
        go_wp2
        rw [← hW3]
        go_ret
        exact HFIN.out
      · have hcutn := fun W => HCUT.out W HNL.out.1
        have hsum : IntKind.i64.wrap ((at' : Int) + (n : Int)) = (at' : Int) + (n : Int) := by rw [IntKind.wrap_i64]; have h1 := HNL.out.2; have h2 := HFEW.out; omega
        have hwr : IntKind.i64.wrap (X : Int) = (X : Int) := by rw [IntKind.wrap_i64]; have h1 := HM.out; omega
        obtain ⟨co, hco⟩ : ∃ q, q = cutAt bo C n := ⟨_, rfl⟩
        obtain ⟨L2, hL2⟩ : ∃ q, q = L - n := ⟨_, rfl⟩
        obtain ⟨C2, hC2⟩ : ∃ q, q = C - n := ⟨_, rfl⟩
        rw [← hco, ← hL2, ← hC2] at hcutn
        obtain ⟨W4, hW4⟩ : ∃ V, V = (((w1.setCell ⟨rb, 0, none⟩ (.slice co L2 C2)).setCell ⟨rb, 1, none⟩ (.int .i64 ((at' : Int) + (n : Int))))).drew := ⟨_, rfl⟩
        have HFIN : Hid ((∃ y : Int, (Ending.returned (.int .i64 (X : Int)) : Ending) = .returned (.int .i64 y) ∧ (0 ≤ y ∧ y ≤ (most : Int)) ∧ Got st (pNum most) y) ∧ RqAt B W4 rb bs (nxt st (pNum most)) ∧ Turns (fun i => i = rb) w W4) := by
          have hp := pNum_ok (most := most) HD.out hx
          rcases HST.out with ⟨hs, _⟩ | ⟨_, h0⟩
          · have hT : Turns (fun i => i = rb) w1 W4 := by rw [hW4]; exact (turns_ownQ (turns_ownQ (Turns.refl _ _))).drew
            have hc := HC1.out.cutl HNL.out.1
            rw [← hco, ← hL2, ← hC2] at hc
            have hk4 : Blk W4 rb 104 [.slice co L2 C2, .int .i64 ((at' + n : Nat) : Int), .bool true] := by rw [hW4, Int.natCast_add]; exact ((HK1.out.set 0 _).set 1 _).drew
            refine ⟨⟨X, rfl, ⟨by omega, by omega⟩, by rw [hs]; exact got_ok hp⟩, ⟨HFEW.out, HBRB.out, co, L2, C2, at' + n, true, hk4, ?_, (by rw [hco, hL2]; exact cutAt_old HOLD.out), HNL.out.2, .inl ⟨?_, rfl⟩⟩, (Turns.of_below (F := fun i => i = rb) HB1.out (Nat.le_refl _)).trans hT (fun i hi => .inl hi)⟩
            · rw [← List.drop_drop]
              exact hc.turned hT (held_offQ hc HK1.out)
            · rw [hs, nxt_ok hp, List.drop_drop]
          · cases h0
        clear hgood hd hx64 hnl hx hco hL2 hC2 hW3 HREF
        go_wp2
        go_region
        go_wp2
        rw [← hW4]
        go_ret
        exact HFIN.out
    · have hxI : (most : Int) < (X : Int) := by omega
      have HFIN : Hid ((∃ y : Int, (Ending.returned (.int .i64 0) : Ending) = .returned (.int .i64 y) ∧ (0 ≤ y ∧ y ≤ (most : Int)) ∧ Got st (pNum most) y) ∧ RqAt B W3 rb bs (nxt st (pNum most)) ∧ Turns (fun i => i = rb) w W3) := by
        rcases HST.out with ⟨hs, _⟩ | ⟨hs, _⟩
        · have hp := pNum_big (most := most) HD.out hx
          exact ⟨⟨0, rfl, HI0.out, by rw [hs]; exact got_bad hp 0⟩, HREF.out (by rw [hs]; exact nxt_bad hp)⟩
        · exact ⟨⟨0, rfl, HI0.out, by rw [hs]; exact got_none _ 0⟩, HREF.out (by rw [hs]; rfl)⟩
      clear hgood hd hx64 hnl hx
      go_wp2
      rw [← hW3]
      go_ret
      exact HFIN.out
end Go.Proofs.YtfmnbehopdmahaaGreat
