/-
  Of sets of ints, what DotsJ tells of sets of strings (tools/mkint.py writes this text out of that one).
-/
import Derived.Test.YtjcoahcbdlpcpaaGreatDotsJ
import Derived.Test.YtjcoahcbdlpcpaaGreatDiI
import Derived.Test.YtjcoahcbdlpcpaaGreatDotsL
namespace Go.Proofs.YtjcoahcbdlpcpaaGreat.In
open Go.RowKit Go.Shelf Go.Maps
attribute [local go_sem] Oper.semAt_some

theorem keysD_any (w : World) (mb : Option Nat) : Calls Tryz.prog 34 #[.map mb] w fun e w' => e = .returned (.func (.func 47) #[] #[.pointer (some ⟨w.heap.size, 0, none⟩)]) ∧ w' = w.alloc (.cells #[.map mb] 46) := by
  go_enter Tryz.func34, Tryz.ntmps34
  go_wp2
  go_ret
  exact ⟨rfl, rfl⟩
set_option maxRecDepth 100000 in
set_option maxHeartbeats 1000000 in
theorem appendSeq_keys (w : World) (Bm b nn : Nat) (D0 : DataW Value) (hm : w.cell? ⟨Bm, 0, none⟩ = some (.map (some b))) (hown : w.ownsMap Tryz.prog 31 valR b nn D0) (hsz : Maps.size D0 ≤ 65536) :
    Calls Tryz.prog 56 #[.slice none 0 0, .func (.func 47) #[] #[.pointer (some ⟨Bm, 0, none⟩)]] w (AnsK w D0) := by
  refine (callsIn_wide (n := 5)).1 ?_
  obtain ⟨W0, hW0⟩ : ∃ W0, W0 = w.alloc (.cells #[.slice none 0 0] 42) := ⟨_, rfl⟩
  have HB0 : Hid (Below w.heap.size w W0) := by rw [hW0]; exact (Below.refl _ w).alloc (Nat.le_refl _) _
  have HBX : Hid (Boxed W0 w.heap.size 42 (.slice none 0 0)) := by rw [hW0]; exact Boxed.new w 42 _
  have HS0 : Hid (W0.heap.size = w.heap.size + 1) := by rw [hW0]; exact World.size_alloc w _
  have HSQ := hid (keysD_seq 4 (by omega) Bm b nn D0 W0 ((HB0.out.cell (World.block_lt_of_cell? w _ hm)).trans hm) ((Turns.of_below (F := fun _ => False) HB0.out (Nat.le_refl _)).map hown (fun h => h)))
  clear hm hown
  refine callsIn_of_wp_marks Tryz.func56 rfl trivial ?_ rfl
  simp only [Tryz.ntmps56, List.size_toArray, List.length_cons, List.length_nil, Nat.reduceAdd, Nat.reduceSub, Array.replicate_succ, Array.replicate_zero, List.push_toArray, List.append_toArray, List.nil_append, List.cons_append]
  gi_wp2
  rw [← hW0]
  clear hW0
  have hseq := HSQ.out
  have hs0 := HS0.out
  apply wpIn_rangeFunc_boxA (encs := fun x : Int × Int => #[dotV x]) (Kp := KeepsWalks) rfl (by omega) (gf := 47) (lb := #[.pointer (some ⟨Bm, 0, none⟩)]) rfl trivial (enters_of Tryz.func47 (by kernel_rfl) rfl)
    hseq (fun a b => walksK_t a b) (fun W l o o' hl ho hc hw => walksK_b (w := W0) W l o o' hl ho hc hw) (Below.refl _ _) (fun _ => rfl) (Coll w w.heap.size) (coll_own w w.heap.size W0.heap.size (by omega) (Nat.le_refl _))
    ⟨none, 0, HBX.out, ⟨rfl, .inl ⟨rfl, rfl⟩⟩, HB0.out⟩ (Bx := fun x => [.int .i64 x.1, .int .i64 x.2]) (t := 31) (B := w.heap.size + 1)
  case hassign =>
    intro l pre x W K hIp hK
    dsimp only [dotV]
    have hsW : w.heap.size + 1 ≤ W.heap.size := by
      obtain ⟨_, _, hb, _, _⟩ := hIp
      exact hb.lt
    gi_wp2
    obtain ⟨g, hg⟩ : ∃ g, g = W.heap.size := ⟨_, rfl⟩
    have hbk : Blk (W.alloc (.cells #[.int .i64 x.1, .int .i64 x.2] 31)) g 31 [.int .i64 x.1, .int .i64 x.2] := by rw [hg]; exact Blk.new W 31 [.int .i64 x.1, .int .i64 x.2]
    rw [← hg]
    exact hK g (W.alloc (.cells #[.int .i64 x.1, .int .i64 x.2] 31)) ((KeepsOthers.alloc W _).from _) (KeepsOthers.alloc W _).walks ((coll_own w w.heap.size W0.heap.size (by omega) (Nat.le_refl _)).alloc _ hIp) hbk (by omega)
  case hbody =>
    rintro l pre ⟨x1, x2⟩ g W ⟨eo, cap, hbx, hrow, hbl⟩ hbk hgl hlt
    have hcb := hbx.cell
    have hfb := hbx.frozen
    have c0 := hbk.cell (i := 0) rfl
    have c1 := hbk.cell (i := 1) rfl
    have HROW := hid hrow
    have HBOX := hid hbx
    have HBL := hid hbl
    have hlt2 := hbx.lt
    have HPL : Hid (pre.length ≤ 1000000) := (by omega : pre.length ≤ 1000000)
    have HSW : Hid (w.heap.size ≤ W.heap.size) := hbl.size
    clear hrow hbx hbl hbk hlt
    gi_wp2_with (gi_at_builtin; refine wpListIn_append_dot W _ (x1, x2) rfl rfl _ _ rfl w.heap.size _ pre rfl rfl HROW.out HSW.out HPL.out ?_)
    intro v' w' hown' hb' hgrow
    have hk1 : KeepsOthers W w' := (KeepsOthers.alloc W _).trans (keeps_row (HROW.out.alloc _) hgrow)
    have hbx' : Boxed w' w.heap.size 42 (.slice eo pre.length cap) := (HBOX.out.alloc _).kept hgrow (fun e => by
      have := (show Blk W w.heap.size 42 [.slice eo pre.length cap] from HBOX.out).not_row (by decide) HROW.out
      exact this e)
    have hcb2 := hbx'.cell
    have hfb2 := hbx'.frozen
    have hl1 : (pre ++ [(x1, x2)]).length = pre.length + 1 := by simp
    obtain ⟨eo2, cap2, rfl⟩ := own_slice hown'
    have HL1 := hid hl1
    have HK1 := hid hk1
    have HBX' := hid hbx'
    have HOWN' := hid hown'
    have HBL' : Hid (Below w.heap.size w w') := HBL.out.trans hb'
    clear hk1 hbx' hown' hb' hgrow hl1
    gi_wp2
    refine ⟨(HK1.out.trans (KeepsOthers.setCell _ _ _)).from _, (HK1.out.trans (KeepsOthers.setCell _ _ _)).walks, eo2, cap2, by rw [HL1.out]; exact HBX'.out.set _, ?_, HBL'.out.setCell (p := ⟨w.heap.size, 0, none⟩) (Nat.le_refl _) _⟩
    rw [HL1.out]
    have hnr := (show Blk w' w.heap.size 42 [.slice eo pre.length cap] from HBX'.out).not_row (by decide) HOWN'.out
    exact ((Turns.refl (fun i => i = w.heap.size) w').setCell (p := ⟨w.heap.size, 0, none⟩) (.inl rfl) _).row HOWN'.out (fun g hg e => hnr (by rw [hg, e]))
  case hafter =>
    rintro D xs W hD ⟨hkeys, hlen⟩ ⟨eo, cap, hbx, hrow, hbl⟩ hDef
    have hcb := hbx.cell
    have HROW := hid hrow
    have HBL := hid hbl
    have HK := hid hkeys
    have HL := hid hlen
    have HDef := hid hDef
    clear hrow hbl hkeys hlen hDef
    gi_wp2
    refine ⟨by simp, .inl ⟨_, _, rfl, run_takeDeferred HDef.out, ?_⟩⟩
    refine ⟨_, results_tmp rfl _ _ _, _, xs, rfl, HK.out, HL.out, ?_, HBL.out.trans (belowK_b (w := w) (Nat.le_refl _) _ D _ _ (by omega) HDef.out rfl rfl)⟩
    refine (Turns.of_grown (F := fun i => i = D) (grownBy_putObj' W D (.deferred none)) (fun k e => by cases e; rfl)).row HROW.out (fun g hg e => ?_)
    subst e
    rcases HROW.out.2 with ⟨h0, _⟩ | ⟨g', c', cur, h0, _, hb, _⟩
    · rw [h0] at hg
      simp [Value.ownBlock] at hg
    · rw [h0] at hg
      have : g' = g := by simpa [Value.ownBlock] using hg
      subst this
      rw [HDef.out] at hb
      cases hb
theorem collect_keys (w : World) (Bm b nn : Nat) (D0 : DataW Value) (hm : w.cell? ⟨Bm, 0, none⟩ = some (.map (some b))) (hown : w.ownsMap Tryz.prog 31 valR b nn D0) (hsz : Maps.size D0 ≤ 65536) :
    Calls Tryz.prog 45 #[.func (.func 47) #[] #[.pointer (some ⟨Bm, 0, none⟩)]] w (AnsK w D0) := by
  have H := hid (appendSeq_keys w Bm b nn D0 hm hown hsz)
  clear hm hown hsz
  go_enter Tryz.func45, Tryz.ntmps45
  go_wp2_with fail
  refine H.out.mono ?_
  rintro e w' ⟨v, ss, rfl, h1, h2, h3, h4⟩
  have H1 := hid h1
  have H2 := hid h2
  have H3 := hid h3
  have H4 := hid h4
  clear h1 h2 h3 h4
  go_wp2
  go_ret
  exact ⟨v, ss, rfl, H1.out, H2.out, H3.out, H4.out⟩
theorem sorted_any (w : World) (Bm b nn : Nat) (D0 : DataW Value) (hm : w.cell? ⟨Bm, 0, none⟩ = some (.map (some b))) (hown : w.ownsMap Tryz.prog 31 valR b nn D0) (hsz : Maps.size D0 ≤ 65536) :
    Calls Tryz.prog 33 #[.func (.func 47) #[] #[.pointer (some ⟨Bm, 0, none⟩)], .func (.func 35) #[] #[]] w (AnsX w D0) := by
  have H := hid (collect_keys w Bm b nn D0 hm hown hsz)
  clear hm hown
  go_enter Tryz.func33, Tryz.ntmps33
  go_wp2_with fail
  refine H.out.mono ?_
  rintro e w1 ⟨v, ss, rfl, h1, h2, h3, h4⟩
  have H1 := hid h1
  have H2 := hid h2
  have H3 := hid h3
  have H4 := hid h4
  rcases h3.2 with ⟨rfl, h0⟩ | ⟨g, cap, cur, rfl, hbg, _⟩
  · have hss : ss = [] := List.eq_nil_of_length_eq_zero h0
    subst hss
    clear h1 h2 h3 h4
    go_wp2_with fail
    refine (sortD_nil w1 35).mono ?_
    rintro e w2 ⟨rfl, rfl⟩
    go_wp2
    go_ret
    exact ⟨_, [], rfl, ⟨H1.out, .nil⟩, H2.out, H3.out, H4.out⟩
  · have HS := hid (sortD_some h3 (by omega))
    have HBG := hid hbg
    clear h1 h2 h3 h4 hbg
    obtain ⟨L, HL⟩ : ∃ L, Hid (ss.length = L) := ⟨_, hid rfl⟩
    rw [HL.out] at HS ⊢
    go_wp2_with fail
    refine HS.out.mono ?_
    rintro e w2 ⟨rfl, hs, hp, hw, ho, hg⟩
    have HP := hid hp
    have HW := hid hw
    have HO := hid ho
    have HG := hid hg
    clear hp hw ho hg
    go_wp2
    go_ret
    have hl : hs.length = L := by rw [← HL.out]; exact HP.out.length_eq
    refine ⟨_, hs, rfl, sorted_keys H1.out HP.out (HW.out.imp (fun {a b} h => by omega)), by rw [HP.out.length_eq]; exact H2.out, by rw [hl]; exact HO.out, H4.out.grown HG.out H4.out.size (fun k e => by cases e; exact HBG.out)⟩
theorem extras_nil (w : World) : Calls Tryz.prog 14 #[.pointer none] w fun e w' => e = .returned (.slice none 0 0) ∧ w' = w := by
  go_enter Tryz.func14, Tryz.ntmps14
  go_wp2_with fail
  refine (closedD_nil _).mono ?_
  rintro e w' ⟨rfl, rfl⟩
  go_wp2
  go_ret
  exact ⟨rfl, rfl⟩
theorem extras_any {w : World} {p m N : Nat} {rs : Nat → Value} {R : Nat → List Value} {D : DataW Value} {S : Int → Int → Option Value} (h : DotsPre w p rs R m D S N) :
    Calls Tryz.prog 14 #[.pointer (some ⟨p, 0, none⟩)] w (AnsX w D) := by
  have hc7 := h.blk.cell (i := 7) rfl
  have HB : Hid (Below w.heap.size w (w.alloc (.cells #[.map (some m)] 46))) := (Below.refl _ _).alloc (Nat.le_refl _) _
  have HS := hid (sorted_any (w.alloc (.cells #[.map (some m)] 46)) w.heap.size m N D (Boxed.new w 46 _).cell (h.map.alloc _) (by have := h.map.size_le; have := h.few; omega))
  clear h
  go_enter Tryz.func14, Tryz.ntmps14
  go_wp2_with fail
  refine (closedD_no w p m hc7).mono ?_
  rintro e w' ⟨rfl, rfl⟩
  go_wp2_with fail
  refine (keysD_any _ _).mono ?_
  rintro e w1 ⟨rfl, rfl⟩
  go_wp2_with fail
  refine HS.out.mono ?_
  rintro e w2 ⟨v, ss, rfl, h1, h2, h3, h4⟩
  have H1 := hid h1
  have H2 := hid h2
  have H3 : Hid (w2.ownsRow w'.heap.size 31 2 v ss.length (flatD ss)) := by
    refine ⟨h3.1, ?_⟩
    rcases h3.2 with h | ⟨g, cap, cur, e, hb, r⟩
    · exact .inl h
    · exact .inr ⟨g, cap, cur, e, by rw [World.size_alloc] at hb; omega, r⟩
  have H4 := hid (bt HB.out h4)
  clear h1 h2 h3 h4
  go_wp2
  go_ret
  exact ⟨v, ss, rfl, H1.out, H2.out, H3.out, H4.out⟩
end Go.Proofs.YtjcoahcbdlpcpaaGreat.In
/-
  Of sets of ints, what DotsK tells of sets of strings (tools/mkint.py writes this text out of that one).
-/
namespace Go.Proofs.YtjcoahcbdlpcpaaGreat.In
open Go.RowKit Go.Maps

theorem itD_eql (a b : Nat) (W : World) : (binOp .eql 36 (.func (.func 41) #[] #[.pointer (some ⟨a, 0, none⟩), .pointer (some ⟨b, 0, none⟩)]) .nilFunc).run Tryz.prog W = .ok (.bool false) W := by kernel_rfl
/-- An iterator: the set's box q, and behind it what is wanted. -/
def AnsT (w : World) (sp fv : Value) (e : Ending) (w' : World) : Prop := e = .returned (.func (.func 41) #[] #[.pointer (some ⟨w.heap.size, 0, none⟩), .pointer (some ⟨w.heap.size + 1, 0, none⟩)]) ∧ Boxed w' w.heap.size 23 sp ∧ Boxed w' (w.heap.size + 1) 61 fv ∧ Below w.heap.size w w'
theorem those_any (w : World) (sp fv : Value) (h1 : sp.oneCell' = true) (h2 : fv.oneCell' = true) (hs : sp.cells = #[sp]) (hf : fv.cells = #[fv]) : Calls Tryz.prog 29 #[sp, fv] w (AnsT w sp fv) := by
  have HB : Hid (Below w.heap.size w ((w.alloc (.cells #[sp] 23)).alloc (.cells #[fv] 61))) := ((Below.refl _ _).alloc (Nat.le_refl _) _).alloc (by simp) _
  have H1 : Hid (Boxed ((w.alloc (.cells #[sp] 23)).alloc (.cells #[fv] 61)) w.heap.size 23 sp) := (Boxed.new w _ _).alloc _
  have H2 : Hid (Boxed ((w.alloc (.cells #[sp] 23)).alloc (.cells #[fv] 61)) (w.heap.size + 1) 61 fv) := by
    have := Boxed.new (w.alloc (.cells #[sp] 23)) 61 fv
    rw [World.size_alloc] at this
    exact this
  go_enter Tryz.func29, Tryz.ntmps29
  go_wp2
  go_ret
  exact ⟨rfl, H1.out, H2.out, HB.out⟩
def AnsU (w : World) (sp : Value) (v : List Int) (e : Ending) (w' : World) : Prop := ∃ q co cc, w.heap.size < q ∧ e = .returned (.func (.func 41) #[] #[.pointer (some ⟨q, 0, none⟩), .pointer (some ⟨q + 1, 0, none⟩)]) ∧ Boxed w' q 23 sp ∧
  Boxed w' (q + 1) 61 (.func (.func 30) #[] #[.pointer (some ⟨w.heap.size, 0, none⟩)]) ∧ Boxed w' w.heap.size 38 (.slice co v.length cc) ∧ HV w' co cc v ∧ OldAt w.heap.size co v ∧ Below w.heap.size w w'
set_option maxRecDepth 100000 in
theorem upto_any (w : World) (pa : Option Addr) (vo : Option Addr) (vc : Nat) (v : List Int) (k : Nat) (hk : v.length = k) (hv : HV w vo vc v) : Calls Tryz.prog 9 #[.pointer pa, .slice vo k vc] w (AnsU w (.pointer pa) v) := by
  have HB1 : Hid (Below w.heap.size w (w.alloc (.cells #[.slice vo k vc] 38))) := (Below.refl _ _).alloc (Nat.le_refl _) _
  have HX1 : Hid (Boxed (w.alloc (.cells #[.slice vo k vc] 38)) w.heap.size 38 (.slice vo k vc)) := Boxed.new w _ _
  have HC := hid (clone2_any (w.alloc (.cells #[.slice vo k vc] 38)) vo vc v k hk (hv.below HB1.out))
  have HK := hid hk
  clear hv hk
  go_enter Tryz.func9, Tryz.ntmps9
  go_wp2_with fail
  generalize w.alloc (.cells #[.slice vo k vc] 38) = w1 at *
  refine HC.out.mono ?_
  rintro e w2 ⟨co, cc, rfl, hv2, hb2, ho2⟩
  have HX2 : Hid (Boxed w2 w.heap.size 38 (.slice vo k vc)) := (hb2.block _ HX1.out.lt).trans HX1.out
  have hc2 := HX2.out.cell
  have hf2 := HX2.out.frozen
  have HB2 := hid (bt HB1.out hb2)
  have hs1 : w.heap.size < w1.heap.size := HX1.out.lt
  have HO2 : Hid (OldAt w1.heap.size co v) := ho2
  obtain ⟨L, HL⟩ : ∃ L, Hid (v.length = L) := ⟨_, hid rfl⟩
  have HV2 := hid hv2
  have HT : Hid (Below w.heap.size w (w2.setCell ⟨w.heap.size, 0, none⟩ (.slice co L cc))) := HB2.out.setCell (p := ⟨w.heap.size, 0, none⟩) (Nat.le_refl _) _
  have HX3 : Hid (Boxed (w2.setCell ⟨w.heap.size, 0, none⟩ (.slice co L cc)) w.heap.size 38 (.slice co L cc)) := HX2.out.set _
  have HV3 : Hid (HV (w2.setCell ⟨w.heap.size, 0, none⟩ (.slice co L cc)) co cc v) := ⟨HV2.out.held.turned ((Turns.refl (fun i => i = w.heap.size) w2).setCell (p := ⟨w.heap.size, 0, none⟩) (.inl rfl) _) (fun b off e hne he => by have := HO2.out b off e hne; omega), HV2.out.room, HV2.out.few⟩
  have hs3 : w.heap.size < (w2.setCell ⟨w.heap.size, 0, none⟩ (.slice co L cc)).heap.size := HX3.out.lt
  rw [HL.out]
  clear hv2 hb2 ho2 HC
  go_wp2_with fail
  generalize w2.setCell ⟨w.heap.size, 0, none⟩ (.slice co L cc) = w3 at *
  refine (those_any w3 (.pointer pa) (.func (.func 30) #[] #[.pointer (some ⟨w.heap.size, 0, none⟩)]) rfl rfl rfl rfl).mono ?_
  rintro e w4 ⟨rfl, h1, h2, h3⟩
  have H1 := hid h1
  have H2 := hid h2
  have H4 := hid (bt HT.out h3)
  have HX4 : Hid (Boxed w4 w.heap.size 38 (.slice co L cc)) := (h3.block _ HX3.out.lt).trans HX3.out
  have HV4 := hid (HV3.out.below h3)
  clear h1 h2 h3
  go_wp2
  go_ret
  refine ⟨w3.heap.size, co, cc, hs3, rfl, H1.out, H2.out, by rw [HL.out]; exact HX4.out, HV4.out, HO2.out.mono (by omega), H4.out⟩
section
variable {w wb : World} {p m N : Nat} {rs : Nat → Value} {R : Nat → List Value} {D : DataW Value} {S : Int → Int → Option Value}
theorem Closed.below {B : Nat} (h : Closed w p m rs S N wb) (hf : ∀ i, FootD p m rs i → B ≤ i) (hB : B ≤ w.heap.size) : ∃ rs' R' D', DotsAt wb p rs' R' m D' S N ∧ Below B w wb ∧ ∀ i, FootD p m rs' i → B ≤ i := by
  obtain ⟨rs', R', D', h1, h2, h3⟩ := h
  refine ⟨rs', R', D', h1, h2.below hf hB, fun i hi => ?_⟩
  rcases h3 i hi with h | h
  · exact hf i h
  · omega
theorem DotsAt.len_eq (h : DotsAt w p rs R m D S N) {k : Nat} (hk : k < 7) (L : Nat) (h1 : ∀ i : Nat, i < L → (S (k : Int) ((i : Int) + 1)).isSome = true) (h2 : S (k : Int) ((L : Int) + 1) = none) : (R k).length = L := by
  have h3 := h.gap k hk
  have h4 := h.pre.runs k hk
  rcases Nat.lt_trichotomy (R k).length L with hlt | he | hgt
  · have := h1 _ hlt
    rw [h3] at this
    cases this
  · exact he
  · have := h4 L hgt
    rw [h2, List.getElem?_eq_getElem hgt] at this
    cases this
end
end Go.Proofs.YtjcoahcbdlpcpaaGreat.In
