/-
  What is written is bytes; the two forms of an event's bytes are one.
-/
import Derived.Test.YtmpkbdhihdboiaaGreatEvMay
import Derived.Test.YtmpkbdhihdboiaaGreatSealA
import Derived.Test.YtmpkbdhihdboiaaGreatRdM
import Derived.Deep.AppendLies
import Derived.Deep.RegionHeld3
import Derived.Deep.QuietTactic
import Derived.BigQuiet
namespace Go.Proofs.YtmpkbdhihdboiaaGreat
open Go.RowKit Go.Maps

theorem encByP (x : Nat) : AllB (enc x) := enc_byte x
theorem encNC_byP : ∀ v : List Int, AllB (encNC v)
  | [] => fun c h => (by cases h)
  | x :: r => (encByP _).append (encNC_byP r)
theorem encVC_byP (v : List Int) : AllB (encVC v) := (encByP _).append (encNC_byP v)
theorem encText_byP (s : ByteArray) : AllB (encText s) := (encByP _).append (strNums_byte s)
theorem encBC_byP (b : Bool) : AllB (encBC b) := fun c h => by cases b <;> simp [encBC] at h <;> omega
theorem encSe_byP (e : En) : AllB (encSe e) := (((encText_byP _).append (encText_byP _)).append (encByP _)).append (encVC_byP _)
theorem encEn_byP (e : En) : AllB (encEn e) := (encBC_byP _).append (by split; exact fun c h => (by cases h); exact encSe_byP e)
theorem encVo_byP (x : VoM) : AllB (encVo x) := ((encByP _).append ((encByP _).append (encByP _))).append (encEn_byP _)
theorem encEvC_byP (e : Ev) : AllB (encEvC e) := (((((((encByP _).append (encByP _)).append (encVC_byP _)).append (encText_byP _)).append (encByP _)).append (encText_byP _)).append (encByP _)).append (encBC_byP _)
theorem encMs_byP (x : MsM) : AllB (encMs x) := by
  have h1 : AllB (encVos x.vs) := (encByP _).append (fun c h => by obtain ⟨y, _, hy⟩ := List.mem_flatMap.1 h; exact encVo_byP y c hy)
  have h2 : AllB (encEvs x.evs) := (encByP _).append (fun c h => by obtain ⟨y, _, hy⟩ := List.mem_flatMap.1 h; exact encEvC_byP y.e c hy)
  exact (((((((((encByP _).append (encByP _)).append (encByP _)).append ((encByP _).append (encByP _))).append (encByP _)).append (encEn_byP _)).append h1).append (encVC_byP _)).append h2).append (encByP _)
theorem encN_same : ∀ v : List Int, encN v = encNC v
  | [] => rfl
  | x :: r => by simp only [encN, encNC, encN_same r]
theorem encEv_same (e : Ev) : encEv e = encEvC e := by
  unfold encEv encEvC encV encVC
  rw [encN_same]
  rfl
theorem rightEv_same (e : Ev) : RightEv e = RightEvC e := rfl
end Go.Proofs.YtmpkbdhihdboiaaGreat
/-
  The document's writers (pannierref01): rows of bytes of their own, appended to each other in regions that draw their order.
-/
namespace Go.Proofs.YtmpkbdhihdboiaaGreat
open Go.RowKit Go.Maps
attribute [local go_sem] Oper.semAt_some

/-- A row of bytes of its own, in the block g. -/
structure Rw (B : Nat) (V : World) (g : Nat) (v : Value) (bs : List Int) : Prop where
  own : V.ownsRow B 5 1 v bs.length (nums bs)
  blk : v.ownBlock = some g
  byte : AllB bs
  pos : 0 < bs.length
section
variable {B g h : Nat} {V V' : World} {v : Value} {bs : List Int}
theorem Rw.lt (r : Rw B V g v bs) : g < V.heap.size := (r.own.lt g r.blk).2
theorem Rw.dr (r : Rw B V g v bs) : Rw B V.drew g v bs := ⟨r.own, r.blk, r.byte, r.pos⟩
theorem Rw.below (r : Rw B V g v bs) (hb : Below V.heap.size V V') : Rw B V' g v bs := ⟨ownsRow_below r.own hb (Nat.le_refl _), r.blk, r.byte, r.pos⟩
theorem Rw.grown (r : Rw B V g v bs) (hg : V.grownBy V' (some h)) (hne : g ≠ h) : Rw B V' g v bs := by
  refine ⟨?_, r.blk, r.byte, r.pos⟩
  refine (Turns.of_grown (F := fun k => k = h) hg fun k hk => by simpa using hk.symm).row r.own ?_
  intro k hk
  rw [r.blk] at hk
  injection hk with hk
  subst hk
  exact hne
theorem Rw.form (r : Rw B V g v bs) : ∃ c, v = .slice (some ⟨g, 0, none⟩) bs.length c ∧ bs.length ≤ c := by
  have hp := r.pos
  rcases r.own.2 with ⟨_, h0⟩ | ⟨g', cap, cur, hv, _, _, hc, _⟩
  · omega
  · have hb := r.blk
    rw [hv] at hb
    have : g' = g := by simpa [Value.ownBlock] using hb
    subst this
    exact ⟨cap, hv, by omega⟩
theorem Rw.held (r : Rw B V g v bs) : ∃ c, v = .slice (some ⟨g, 0, none⟩) bs.length c ∧ Held V (some ⟨g, 0, none⟩) bs.length c bs := by
  obtain ⟨ao, cp, hv, hh⟩ := held_of_own r.own r.byte
  obtain ⟨c, hv', _⟩ := r.form
  have e := hv.symm.trans hv'
  injection e with e1 e2 e3
  subst e1 e3
  exact ⟨cp, hv, hh⟩
end
/-- What a writer's call leaves: a new row, and the rows that were. -/
def EncP (B : Nat) (W V : World) (bs : List Int) (e : Ending) (w' : World) : Prop := ∃ v g, e = .returned v ∧ Hid (Rw B w' g v bs) ∧ Below B W w' ∧ Hid (∀ g0 v0 bs0, Rw B V g0 v0 bs0 → Rw B w' g0 v0 bs0 ∧ g0 ≠ g)
/-- What a writer answers. -/
def WrP (bs : List Int) (w : World) (e : Ending) (w' : World) : Prop := ∃ v, e = .returned v ∧ w'.ownsRow w.heap.size 5 1 v bs.length (nums bs) ∧ Below w.heap.size w w'
theorem enc_step {P : Program} {f : FuncId} {args : Array Value} {B : Nat} {W V : World} {bs : List Int} (h : Calls P f args V (WrP bs V)) (hb : AllB bs) (hp : 0 < bs.length) (hV : Below B W V) (hB : B ≤ W.heap.size) : Calls P f args V (EncP B W V bs) := by
  refine h.mono ?_
  rintro e w' ⟨v, rfl, ho, hbel⟩
  have hs := hV.size
  have hBV : B ≤ V.heap.size := Nat.le_trans hB hs
  obtain ⟨g, c, hv, hg, hlt⟩ := World.ownsRow.form ho hp
  have hk : v.ownBlock = some g := by rw [hv]; rfl
  refine ⟨v, g, rfl, ⟨ownsRow_base ho hBV, hk, hb, hp⟩, hV.trans (hbel.mono hBV), ?_⟩
  intro g0 v0 bs0 r0
  refine ⟨r0.below hbel, ?_⟩
  have := r0.lt
  omega
theorem Rw.alloc {B g : Nat} {V : World} {v : Value} {bs : List Int} (r : Rw B V g v bs) (o : Obj) : Rw B (V.alloc o) g v bs := ⟨r.own.alloc _, r.blk, r.byte, r.pos⟩
/-- A byte in a block of its own. -/
theorem Rw.one {B : Nat} (V : World) (c : Int) (hc : 0 ≤ c ∧ c ≤ 255) (hB : B ≤ V.heap.size) : Rw B (V.alloc (.cells #[.int .u8 c] 5)) V.heap.size (.slice (some ⟨V.heap.size, 0, none⟩) 1 1) [c] :=
  ⟨⟨rfl, .inr ⟨V.heap.size, 1, #[.int .u8 c], rfl, hB, heap_alloc_new V _, Nat.le_refl _, by unfold maxLen; omega, rfl, rfl⟩⟩, rfl, fun x hx => by simp at hx; omega, Nat.one_pos⟩
/-- What an append leaves. -/
def AppQ (B : Nat) (W V : World) (g : Nat) (bs : List Int) (v' : Value) (w' : World) : Prop := ∃ g', Hid (Rw B w' g' v' bs) ∧ Below B W w' ∧ Hid (∀ g0 v0 bs0, Rw B V g0 v0 bs0 → g0 ≠ g → Rw B w' g0 v0 bs0)
theorem appQ_of {B : Nat} {W V w' : World} {g g' cap : Nat} {v : Value} {bs bs1 : List Int} (hR : Rw B V g v bs) (hb1 : AllB bs1) (hV : Below B W V) (hB : B ≤ W.heap.size)
    (hown : w'.ownsRow B 5 1 (.slice (some ⟨g', 0, none⟩) (bs.length + bs1.length) cap) (bs.length + bs1.length) (nums bs ++ nums bs1)) (hgrow : V.grownBy w' v.ownBlock) : AppQ B W V g (bs ++ bs1) (.slice (some ⟨g', 0, none⟩) (bs.length + bs1.length) cap) w' := by
  have hBV : B ≤ V.heap.size := Nat.le_trans hB hV.size
  have hp := hR.pos
  rw [hR.blk] at hgrow
  refine ⟨g', ⟨by rw [nums_append, List.length_append]; exact hown, rfl, hR.byte.append hb1, by rw [List.length_append]; omega⟩, hV.trans ((Below.refl _ _).grown hgrow hBV (fun k hk => ?_)), ?_⟩
  · exact (hR.own.lt k (by rw [hR.blk]; exact hk)).1
  · intro g0 v0 bs0 r0 hne
    exact r0.grown hgrow hne
theorem step_append_rw {ops : Array Oper} {o : Oper} {a : Act} {K : Act → World → Prop} {Q : Exit → Act → World → Prop} {E : Prop} (V : World) (hgd : o.guard = none) (s x : Operand)
    (ho : o.op = .call { callee := .builtin .append, args := #[s, x], argTypes := #[33, 33] })
    (B : Nat) (W : World) (g g1 : Nat) (v v1 : Value) (bs bs1 : List Int) (hs : a.eval s = v) (hx : a.eval x = v1) (hR : Rw B V g v bs) (hR1 : Rw B V g1 v1 bs1) (hsum : bs.length + bs1.length ≤ 140737488355328) (hV : Below B W V) (hB : B ≤ W.heap.size)
    (h : ∀ v' w', AppQ B W V g (bs ++ bs1) v' w' → K (a.put o.dst v') w') :
    if Region.wanted o (yielded ops a.tmps) = true then Oper.wp Tryz.prog o a V K Q else E := by
  obtain ⟨i0, hi, hz0, hz1, hz2⟩ := info_parts Tryz.info5
  obtain ⟨c1, hv1, hh1⟩ := hR1.held
  have hp1 := hR1.pos
  refine step_append_lies V hgd s x 33 ho B 5 i0 (.int .u8 0) 1 1 Tryz.underlying33 hi hz0 hz1 hz2 rfl (by decide) v bs.length (nums bs) hs hR.own ⟨g1, 0, none⟩ bs1.length c1 (nums bs1) (hx.trans hv1) (by rw [nums_len]; omega) (hh1.news _ rfl) (nums_one bs1) hp1 (by unfold maxLen; omega) (by omega) (Nat.le_trans hB hV.size) _ rfl ?_
  intro g' cap w' hown hgrow _ _
  exact h _ w' (appQ_of hR hR1.byte hV hB hown hgrow)
theorem wpList_append_rw {ops : Array Oper} {rest : List Oper} {o : Oper} {a : Act} {Q : Exit → Act → World → Prop} (V : World) (hgd : o.guard = none) (s x : Operand)
    (ho : o.op = .call { callee := .builtin .append, args := #[s, x], argTypes := #[33, 33] })
    (B : Nat) (W : World) (g g1 : Nat) (v v1 : Value) (bs bs1 : List Int) (hs : a.eval s = v) (hx : a.eval x = v1) (hR : Rw B V g v bs) (hR1 : Rw B V g1 v1 bs1) (hsum : bs.length + bs1.length ≤ 140737488355328) (hV : Below B W V) (hB : B ≤ W.heap.size)
    (h : ∀ v' w', AppQ B W V g (bs ++ bs1) v' w' → wpList Tryz.prog ops Q rest (a.put o.dst v') w') : wpList Tryz.prog ops Q (o :: rest) a V := by
  obtain ⟨i0, hi, hz0, hz1, hz2⟩ := info_parts Tryz.info5
  obtain ⟨c1, hv1, hh1⟩ := hR1.held
  have hp1 := hR1.pos
  refine wpList_append_lies V hgd s x 33 ho B 5 i0 (.int .u8 0) 1 1 Tryz.underlying33 hi hz0 hz1 hz2 rfl (by decide) v bs.length (nums bs) hs hR.own ⟨g1, 0, none⟩ bs1.length c1 (nums bs1) (hx.trans hv1) (by rw [nums_len]; omega) (hh1.news _ rfl) (nums_one bs1) hp1 (by unfold maxLen; omega) (by omega) (Nat.le_trans hB hV.size) _ rfl ?_
  intro g' cap w' hown hgrow _ _
  exact h _ w' (appQ_of hR hR1.byte hV hB hown hgrow)
theorem below_dr1 {B : Nat} {W V : World} (h : Below B W V) : Below B W V.drew := below_dn h 1
end Go.Proofs.YtmpkbdhihdboiaaGreat
/-
  The document's writer of a vector (pannierref01.vector).
-/
namespace Go.Proofs.YtmpkbdhihdboiaaGreat
open Go.RowKit Go.Maps
attribute [local go_sem] Oper.semAt_some

set_option maxRecDepth 100000 in
set_option maxHeartbeats 1000000 in
theorem rvectorW (w : World) (ao : Option Addr) (cap : Nat) (v : List Int) (m : Nat) (hm : v.length = m) (hv : HV w ao cap v) (h7 : m ≤ 7) (hin : InVC v) :
    Calls Tryz.prog 48 #[.slice ao m cap] w (WrP (encVC v) w) := by
  have l0 := enc_le10 (x := m) (by omega)
  have hwr : IntKind.u64.wrap (m : Int) = (m : Int) := by rw [IntKind.wrap_u64]; omega
  have HBL : Hid (w.heap.size ≤ w.heap.size) := Nat.le_refl _
  have HA : Hid (Calls Tryz.prog 45 #[.int .u64 (m : Int)] w (EncP w.heap.size w w (enc m))) := by
    have h := refUint_any (m : Int) w (by omega) (by omega)
    rw [Int.toNat_natCast] at h
    exact enc_step h (enc_byte _) (enc_pos _) (Below.refl _ _) (Nat.le_refl _)
  have HM := hid hm
  have HVV := hid hv
  have HIN := hid hin
  have HL0 := hid l0
  clear hm hv hin l0
  go_enter Tryz.func48, Tryz.ntmps48
  go_wp2_with fail
  refine HA.out.mono ?_
  rintro e w1 ⟨v1, g1, rfl, hr1, hb1, hk1⟩
  have HB1 := hid hb1
  clear hb1 hk1 HA
  go_wp2
  go_loopw [3, 4] (fun b i wr => ∃ k : Nat, k ≤ m ∧ i = .int .i64 k ∧ ∃ g, Hid (Rw w.heap.size wr g b (enc m ++ encNC (v.take k)) ∧ Below w.heap.size w wr)) (fun _ i _ => m - (intOf i).toNat)
  case atStart => exact ⟨0, Nat.zero_le _, rfl, g1, by rw [List.take_zero]; show Rw _ _ _ _ (enc m ++ []); rw [List.append_nil]; exact hr1.out, HB1.out⟩
  case round =>
    obtain ⟨k, hk, rfl, g, HR⟩ := hrel
    by_cases hlt : k < m
    · have hlt' : (k : Int) < (m : Int) := by omega
      have hkx : Hid (k < v.length) := (by rw [HM.out]; exact hlt : k < v.length)
      have HKM : Hid (k + 1 ≤ m) := (by omega : k + 1 ≤ m)
      rcases (HVV.out.below HR.out.2).held.2 with h0 | ⟨b, off, hao, hb, hc⟩
      · exfalso
        have := hkx.out
        rw [h0] at this
        cases this
      have gk := hc k hkx.out
      have HX2 := hid (HIN.out _ (getD_mem hkx.out))
      have HTK := hid (encN_takeC hkx.out)
      have HLN : Hid ((encNC (v.take k)).length ≤ 70) := by
        have h1 := encN_lenC (inV_takeC HIN.out k)
        have h2 : (v.take k).length ≤ 7 := by rw [List.length_take]; omega
        show _ ≤ _
        omega
      subst hao
      clear hc
      obtain ⟨X, HX⟩ : ∃ X, Hid (v.getD k 0 = X) := ⟨_, hid rfl⟩
      rw [HX.out] at gk HX2 HTK
      have hwx : IntKind.u64.wrap X = X := by have := HX2.out; rw [IntKind.wrap_u64]; omega
      have HAN : Hid (Calls Tryz.prog 45 #[.int .u64 X] wr (EncP w.heap.size w wr (enc X.toNat))) := by
        have h := refUint_any X wr HX2.out.1 (by have := HX2.out; omega)
        exact enc_step h (enc_byte _) (enc_pos _) HR.out.2 (Nat.le_refl _)
      have HLX : Hid ((enc X.toNat).length ≤ 10) := enc_le10 (by have := HX2.out; omega)
      have HSM : Hid ((enc m ++ encNC (v.take k)).length + (enc X.toNat).length ≤ 140737488355328) := by
        have h1 := HLN.out
        have h2 := HLX.out
        have h3 := HL0.out
        show _ ≤ _
        rw [List.length_append]
        omega
      go_wp2_with fail
      refine HAN.out.mono ?_
      rintro e w2 ⟨v2, g2, rfl, hr2, hb2, hk2⟩
      go_wp2_with (at_builtin; refine wpList_append_rw _ rfl _ _ rfl w.heap.size w g g2 u3 v2 _ _ rfl rfl (hk2.out _ _ _ HR.out.1).1 hr2.out HSM.out hb2 HBL.out ?_; rintro v3 w3 ⟨g3, hr3, hb3, hk3⟩)
      have HB3 := hid hb3
      clear hb2 hb3 HAN
      go_wp2
      go_roundw
      case rel =>
        refine ⟨k + 1, HKM.out, by go_num, g3, ?_, HB3.out⟩
        rw [HTK.out, ← List.append_assoc]
        exact hr3.out
      case measure => simp [intOf]; have := HKM.out; omega
    · have hlt' : ¬ (k : Int) < (m : Int) := by omega
      have hke : Hid (v.take k = v) := by show _ = _; rw [List.take_of_length_le]; have := HM.out; omega
      rw [hke.out] at HR
      have HE : Hid (∃ g, Rw w.heap.size wr g u3 (encVC v)) := by
        refine ⟨g, ?_⟩
        unfold encVC
        rw [HM.out]
        exact HR.out.1
      go_wp2
      go_ret
      obtain ⟨_, he⟩ := HE.out
      exact ⟨_, rfl, he.own, HR.out.2⟩
end Go.Proofs.YtmpkbdhihdboiaaGreat
