/-
  The dots of the events that wait, in order: maps.Keys, slices.Collect, slices.SortedFunc.
-/
import Derived.Test.YtcammngbhnhjjaaApps
import Derived.Test.YtcammngbhnhjjaaLogI
namespace Go.Proofs.Ytcammngbhnhjjaa
open Go.RowKit Go.Shelf Go.Maps
attribute [local go_sem] Oper.semAt_some

set_option maxRecDepth 100000 in
set_option maxHeartbeats 1000000 in
theorem keysLog_seq (n : Nat) (hn : 1 ≤ n) (Bm b nn : Nat) (D0 : DataW Value) (V : World) (hm : V.cell? ⟨Bm, 0, none⟩ = some (.map (some b))) (hown : V.ownsMap Try.prog 31 valR b nn D0) :
    SeqStopsK Fence.wide n Try.prog 47 #[.pointer (some ⟨Bm, 0, none⟩)] (fun x : Int × Int => #[dotV x]) KeepsWalks (fun ss => KeysOf' D0 ss ∧ ss.length ≤ Maps.size D0) (fun _ => True) (Maps.size D0) V := by
  intro l J Jx W hW hJ hJx hY h0
  have hm' : W.cell? ⟨Bm, 0, none⟩ = some (.map (some b)) := (hW.cell (World.block_lt_of_cell? V _ hm)).trans hm
  have hown' : W.ownsMap Try.prog 31 valR b nn D0 := (Turns.of_below (F := fun _ => False) hW (Nat.le_refl _)).map hown (fun h => h)
  have HAH := hid (allHeld_of hown)
  have HJ := hid hJ
  have HY := hid hY
  clear hm hown hW hJ hJx hY
  change CallsIn Fence.wide n Try.prog 47 #[.func (.yield l) #[] #[], .pointer (some ⟨Bm, 0, none⟩)] W _
  refine callsIn_of_wp Try.func47 rfl trivial ?_ rfl
  simp only [Try.ntmps47, List.size_toArray, List.length_cons, List.length_nil, Nat.reduceAdd, Nat.reduceSub, Array.replicate_succ, Array.replicate_zero, List.push_toArray, List.append_toArray, List.nil_append, List.cons_append]
  gi_wp2_with (first
    | (gi_at_range; refine wpListIn_range_own _ rfl _ 50 rfl 31 33 Try.keyedDot Try.underlying50 _ b nn _ rfl hown' ?_; intro w0 hrg0 hg0 hs0)
    | gi_in)
  gi_loopw [3] (fun _ wr => Hid (∃ (left : Lit → Bool) (cnt : Nat) (ss : List (Int × Int)), wr.ranges Try.prog 31 valR b W.heap.size nn D0 left cnt ∧ CollD D0 left ss ∧ J ss wr ∧ ss.length + cnt ≤ Maps.size D0 ∧ W.heap.size ≤ wr.heap.size))
    (fun _ wr => wr.rangeLeft b W.heap.size)
  case atStart =>
    exact ⟨_, _, [], hrg0, CollD.start D0, HJ.out [] W w0 none h0 hg0 (fun r e => by cases e), by simp, hg0.size⟩
  case round =>
    obtain ⟨left, cnt, ss, hrg, hC, hJs, hcnt, hsz⟩ := hrel.out
    clear hrel
    gi_wp2_with (first
      | (gi_at_next; refine wpListIn_next_ranges _ rfl _ rfl 31 Try.keyedDot valR (fun x : Int × Int => dotV x) (fun v : Value => v) (fun key kl hk => by obtain ⟨o, s, hx, _⟩ := dk_inv hk; exact ⟨(o, s), hx⟩) (fun v y _ => ⟨v, rfl⟩) b W.heap.size nn _ _ _ rfl hrg ?_ ?_)
      | gi_in)
    · intro hc0 hl0
      gi_wp2
      refine bodyPost_end (results_none rfl _ _ _) rfl ?_
      exact ⟨⟨_, rfl⟩, .inl ⟨ss, ⟨hC.done HAH.out hl0, by omega⟩, hJs⟩⟩
    · intro o s v kl yd yp w2 cnt2 hkey hlk hv hat hrg2 hlt hg2 hs2 hen
      obtain ⟨o', s', he, rfl, ho, hs⟩ := dk_inv hkey
      have hee : o = o' ∧ s = s' := by simpa [dotV, dotVal] using he
      obtain ⟨rfl, rfl⟩ := hee
      have hyd : yd = .held v := by
        unfold valR at hv
        cases hv
        rfl
      subst hyd
      have HH : Hid (Maps.has D0 (dk o s) = true) := by
        show _ = _
        rw [has_look HAH.out, look_at hat]
        rfl
      have hJ2 : J ss w2 := HJ.out ss wr w2 (some W.heap.size) hJs hg2 (fun r e => by cases e; exact ⟨Nat.le_refl _, hrg.iter_walk⟩)
      have hJ3 : J ss (w2.alloc (.cells #[.int .i64 o, .int .i64 s] 31)) := HJ.out ss w2 _ none hJ2 (World.grownBy_alloc w2 _ none) (fun r e => by cases e)
      obtain ⟨fn, tmps, assign, body, hy, hR⟩ := HY.out ss (o, s) _ hJ3 (by omega)
      have HR := hid hR
      have HRG := hid (hrg2.alloc (.cells #[.int .i64 o, .int .i64 s] 31))
      have HC2 := hid (hC.step ho hs hlk HH.out)
      have HCN : Hid ((ss ++ [(o, s)]).length + cnt2 ≤ Maps.size D0) := (by simp; omega : (ss ++ [(o, s)]).length + cnt2 ≤ Maps.size D0)
      have HLT : Hid (∀ w9 : World, w9.ranges Try.prog 31 valR b W.heap.size nn D0 (fun z => left z && !z.sameKey (dk o s)) cnt2 → w9.rangeLeft b W.heap.size < wr.rangeLeft b W.heap.size) := fun w9 h9 => by rw [h9.left_eq, hrg.left_eq]; exact hlt
      have HSZ : Hid (W.heap.size ≤ w2.heap.size) := Nat.le_trans hsz hg2.size
      clear hR hs2 hJ2 hJ3 hrg2 hat hlk hkey hv hg2 hcnt hlt
      dsimp only [dotV] at hy hen ⊢
      gi_wp2
      refine HR.out.mono ?_
      rintro e W3 (⟨rfl, hJ4, hk4⟩ | ⟨rfl, hJx4⟩)
      · have HJ4 := hid hJ4
        have HRG4 := hid (HRG.out.of_walks hk4)
        have HS4 : Hid (W.heap.size ≤ W3.heap.size) := Nat.le_trans (Nat.le_trans HSZ.out (by simp)) hk4.size
        clear hJ4 hk4 HR hy
        gi_wp2
        go_roundw
        case rel => exact ⟨_, cnt2, ss ++ [(o, s)], HRG4.out, HC2.out, HJ4.out, HCN.out, HS4.out⟩
        case measure => exact HLT.out _ HRG4.out
      · have HJ4 := hid hJx4
        clear hJx4 HR hy
        gi_wp2
        refine bodyPost_ret (results_none rfl _ _ _) rfl ?_
        exact ⟨⟨_, rfl⟩, .inr ⟨_, trivial, HJ4.out⟩⟩
theorem keysLog_any (w : World) (mb : Option Nat) : Calls Try.prog 33 #[.map mb] w fun e w' => e = .returned (.func (.func 47) #[] #[.pointer (some ⟨w.heap.size, 0, none⟩)]) ∧ w' = w.alloc (.cells #[.map mb] 50) := by
  go_enter Try.func33, Try.ntmps33
  go_wp2
  go_ret
  exact ⟨rfl, rfl⟩
set_option maxRecDepth 100000 in
set_option maxHeartbeats 1000000 in
theorem appendSeqLog (w : World) (Bm b nn : Nat) (D0 : DataW Value) (hm : w.cell? ⟨Bm, 0, none⟩ = some (.map (some b))) (hown : w.ownsMap Try.prog 31 valR b nn D0) (hsz : Maps.size D0 ≤ 65536) :
    Calls Try.prog 56 #[.slice none 0 0, .func (.func 47) #[] #[.pointer (some ⟨Bm, 0, none⟩)]] w (AnsK w D0) := by
  refine (callsIn_wide (n := 5)).1 ?_
  obtain ⟨W0, hW0⟩ : ∃ W0, W0 = w.alloc (.cells #[.slice none 0 0] 45) := ⟨_, rfl⟩
  have HB0 : Hid (Below w.heap.size w W0) := by rw [hW0]; exact (Below.refl _ w).alloc (Nat.le_refl _) _
  have HBX : Hid (Boxed W0 w.heap.size 45 (.slice none 0 0)) := by rw [hW0]; exact Boxed.new w 45 _
  have HS0 : Hid (W0.heap.size = w.heap.size + 1) := by rw [hW0]; exact World.size_alloc w _
  have HSQ := hid (keysLog_seq 4 (by omega) Bm b nn D0 W0 ((HB0.out.cell (World.block_lt_of_cell? w _ hm)).trans hm) ((Turns.of_below (F := fun _ => False) HB0.out (Nat.le_refl _)).map hown (fun h => h)))
  clear hm hown
  refine callsIn_of_wp_marks Try.func56 rfl trivial ?_ rfl
  simp only [Try.ntmps56, List.size_toArray, List.length_cons, List.length_nil, Nat.reduceAdd, Nat.reduceSub, Array.replicate_succ, Array.replicate_zero, List.push_toArray, List.append_toArray, List.nil_append, List.cons_append]
  gi_wp2
  rw [← hW0]
  clear hW0
  have hseq := HSQ.out
  have hs0 := HS0.out
  apply wpIn_rangeFunc_boxA (encs := fun x : Int × Int => #[dotV x]) (Kp := KeepsWalks) rfl (by omega) (gf := 47) (lb := #[.pointer (some ⟨Bm, 0, none⟩)]) rfl trivial (enters_of Try.func47 (by kernel_rfl) rfl)
    hseq (fun a b => walksK_t a b) (fun W l o o' hl ho hc hw => walksK_b (w := W0) W l o o' hl ho hc hw) (Below.refl _ _) (fun _ => rfl) (Coll w w.heap.size) (coll_own w w.heap.size W0.heap.size (by omega) (Nat.le_refl _))
    ⟨none, 0, HBX.out, ⟨rfl, .inl ⟨rfl, rfl⟩⟩, HB0.out⟩ (Bx := fun x => [.int .i64 x.1, .int .i64 x.2]) (t := 31) (B := w.heap.size + 1)
  case hassign =>
    intro l pre x W K hIp hK
    dsimp only [dotV]
    have hsW : w.heap.size + 1 ≤ W.heap.size := by
      obtain ⟨_, _, hb, _, _⟩ := hIp
      exact hb.lt
    gi_wp2
    obtain ⟨g, hg⟩ : ∃ g, g = W.heap.size := ⟨_, rfl⟩
    have hbk : Blk (W.alloc (.cells #[.int .i64 x.1, .int .i64 x.2] 31)) g 31 [.int .i64 x.1, .int .i64 x.2] := by rw [hg]; exact Blk.new W 31 [.int .i64 x.1, .int .i64 x.2]
    rw [← hg]
    exact hK g (W.alloc (.cells #[.int .i64 x.1, .int .i64 x.2] 31)) ((KeepsOthers.alloc W _).from _) (KeepsOthers.alloc W _).walks ((coll_own w w.heap.size W0.heap.size (by omega) (Nat.le_refl _)).alloc _ hIp) hbk (by omega)
  case hbody =>
    rintro l pre ⟨x1, x2⟩ g W ⟨eo, cap, hbx, hrow, hbl⟩ hbk hgl hlt
    have hcb := hbx.cell
    have hfb := hbx.frozen
    have c0 := hbk.cell (i := 0) rfl
    have c1 := hbk.cell (i := 1) rfl
    have HROW := hid hrow
    have HBOX := hid hbx
    have HBL := hid hbl
    have hlt2 := hbx.lt
    have HPL : Hid (pre.length ≤ 1000000) := (by omega : pre.length ≤ 1000000)
    have HSW : Hid (w.heap.size ≤ W.heap.size) := hbl.size
    clear hrow hbx hbl hbk hlt
    gi_wp2_with (gi_at_builtin; refine wpListIn_append_dot W _ (x1, x2) rfl rfl _ _ rfl w.heap.size _ pre rfl rfl HROW.out HSW.out HPL.out ?_)
    intro v' w' hown' hb' hgrow
    have hk1 : KeepsOthers W w' := (KeepsOthers.alloc W _).trans (keeps_row (HROW.out.alloc _) hgrow)
    have hbx' : Boxed w' w.heap.size 45 (.slice eo pre.length cap) := (HBOX.out.alloc _).kept hgrow (fun e => by
      have := (show Blk W w.heap.size 45 [.slice eo pre.length cap] from HBOX.out).not_row (by decide) HROW.out
      exact this e)
    have hcb2 := hbx'.cell
    have hfb2 := hbx'.frozen
    have hl1 : (pre ++ [(x1, x2)]).length = pre.length + 1 := by simp
    obtain ⟨eo2, cap2, rfl⟩ := own_slice hown'
    have HL1 := hid hl1
    have HK1 := hid hk1
    have HBX' := hid hbx'
    have HOWN' := hid hown'
    have HBL' : Hid (Below w.heap.size w w') := HBL.out.trans hb'
    clear hk1 hbx' hown' hb' hgrow hl1
    gi_wp2
    refine ⟨(HK1.out.trans (KeepsOthers.setCell _ _ _)).from _, (HK1.out.trans (KeepsOthers.setCell _ _ _)).walks, eo2, cap2, by rw [HL1.out]; exact HBX'.out.set _, ?_, HBL'.out.setCell (p := ⟨w.heap.size, 0, none⟩) (Nat.le_refl _) _⟩
    rw [HL1.out]
    have hnr := (show Blk w' w.heap.size 45 [.slice eo pre.length cap] from HBX'.out).not_row (by decide) HOWN'.out
    exact ((Turns.refl (fun i => i = w.heap.size) w').setCell (p := ⟨w.heap.size, 0, none⟩) (.inl rfl) _).row HOWN'.out (fun g hg e => hnr (by rw [hg, e]))
  case hafter =>
    rintro D xs W hD ⟨hkeys, hlen⟩ ⟨eo, cap, hbx, hrow, hbl⟩ hDef
    have hcb := hbx.cell
    have HROW := hid hrow
    have HBL := hid hbl
    have HK := hid hkeys
    have HL := hid hlen
    have HDef := hid hDef
    clear hrow hbl hkeys hlen hDef
    gi_wp2
    refine ⟨by simp, .inl ⟨_, _, rfl, run_takeDeferred HDef.out, ?_⟩⟩
    refine ⟨_, results_tmp rfl _ _ _, _, xs, rfl, HK.out, HL.out, ?_, HBL.out.trans (belowK_b (w := w) (Nat.le_refl _) _ D _ _ (by omega) HDef.out rfl rfl)⟩
    refine (Turns.of_grown (F := fun i => i = D) (grownBy_putObj' W D (.deferred none)) (fun k e => by cases e; rfl)).row HROW.out (fun g hg e => ?_)
    subst e
    rcases HROW.out.2 with ⟨h0, _⟩ | ⟨g', c', cur, h0, _, hb, _⟩
    · rw [h0] at hg
      simp [Value.ownBlock] at hg
    · rw [h0] at hg
      have : g' = g := by simpa [Value.ownBlock] using hg
      subst this
      rw [HDef.out] at hb
      cases hb
theorem collectLog (w : World) (Bm b nn : Nat) (D0 : DataW Value) (hm : w.cell? ⟨Bm, 0, none⟩ = some (.map (some b))) (hown : w.ownsMap Try.prog 31 valR b nn D0) (hsz : Maps.size D0 ≤ 65536) :
    Calls Try.prog 45 #[.func (.func 47) #[] #[.pointer (some ⟨Bm, 0, none⟩)]] w (AnsK w D0) := by
  have H := hid (appendSeqLog w Bm b nn D0 hm hown hsz)
  clear hm hown hsz
  go_enter Try.func45, Try.ntmps45
  go_wp2_with fail
  refine H.out.mono ?_
  rintro e w' ⟨v, ss, rfl, h1, h2, h3, h4⟩
  have H1 := hid h1
  have H2 := hid h2
  have H3 := hid h3
  have H4 := hid h4
  clear h1 h2 h3 h4
  go_wp2
  go_ret
  exact ⟨v, ss, rfl, H1.out, H2.out, H3.out, H4.out⟩
theorem sortedLog (w : World) (Bm b nn : Nat) (D0 : DataW Value) (hm : w.cell? ⟨Bm, 0, none⟩ = some (.map (some b))) (hown : w.ownsMap Try.prog 31 valR b nn D0) (hsz : Maps.size D0 ≤ 65536) :
    Calls Try.prog 32 #[.func (.func 47) #[] #[.pointer (some ⟨Bm, 0, none⟩)], .func (.func 34) #[] #[]] w (AnsX w D0) := by
  have H := hid (collectLog w Bm b nn D0 hm hown hsz)
  clear hm hown
  go_enter Try.func32, Try.ntmps32
  go_wp2_with fail
  refine H.out.mono ?_
  rintro e w1 ⟨v, ss, rfl, h1, h2, h3, h4⟩
  have H1 := hid h1
  have H2 := hid h2
  have H3 := hid h3
  have H4 := hid h4
  rcases h3.2 with ⟨rfl, h0⟩ | ⟨g, cap, cur, rfl, hbg, _⟩
  · have hss : ss = [] := List.eq_nil_of_length_eq_zero h0
    subst hss
    clear h1 h2 h3 h4
    go_wp2_with fail
    refine (sortD_nil w1 34).mono ?_
    rintro e w2 ⟨rfl, rfl⟩
    go_wp2
    go_ret
    exact ⟨_, [], rfl, ⟨H1.out, .nil⟩, H2.out, H3.out, H4.out⟩
  · have HS := hid (sortLog_some h3 (by omega))
    have HBG := hid hbg
    clear h1 h2 h3 h4 hbg
    obtain ⟨L, HL⟩ : ∃ L, Hid (ss.length = L) := ⟨_, hid rfl⟩
    rw [HL.out] at HS ⊢
    go_wp2_with fail
    refine HS.out.mono ?_
    rintro e w2 ⟨rfl, hs, hp, hw, ho, hg⟩
    have HP := hid hp
    have HW := hid hw
    have HO := hid ho
    have HG := hid hg
    clear hp hw ho hg
    go_wp2
    go_ret
    have hl : hs.length = L := by rw [← HL.out]; exact HP.out.length_eq
    refine ⟨_, hs, rfl, sorted_keys H1.out HP.out (HW.out.imp (fun {a b} h => by omega)), by rw [HP.out.length_eq]; exact H2.out, by rw [hl]; exact HO.out, H4.out.grown HG.out H4.out.size (fun k e => by cases e; exact HBG.out)⟩
end Go.Proofs.Ytcammngbhnhjjaa
