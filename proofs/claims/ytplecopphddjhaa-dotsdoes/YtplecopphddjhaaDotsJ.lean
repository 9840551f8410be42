/-
  Package dots: the keys of a map, collected; Extras.
-/
import Derived.Test.YtplecopphddjhaaDotsI
namespace Go.Proofs.Ytplecopphddjhaa
open Go.RowKit Go.Shelf Go.Maps
attribute [local go_sem] Oper.semAt_some

theorem keysD_any (w : World) (mb : Option Nat) : Calls Try.prog 39 #[.map mb] w fun e w' => e = .returned (.func (.func 52) #[] #[.pointer (some ⟨w.heap.size, 0, none⟩)]) ∧ w' = w.alloc (.cells #[.map mb] 40) := by
  go_enter Try.func39, Try.ntmps39
  go_wp2
  go_ret
  exact ⟨rfl, rfl⟩
theorem keeps_row {W W' : World} {B e size n : Nat} {v : Value} {xs : List Value} (h : W.ownsRow B e size v n xs) (hg : W.grownBy W' v.ownBlock) : KeepsOthers W W' := by
  refine KeepsOthers.of_grownBy hg fun j o hj ho => ?_
  rcases h.2 with ⟨rfl, _⟩ | ⟨g, cap, cur, rfl, _, hb, _⟩
  · simp [Value.ownBlock] at hj
  · have : g = j := by simpa [Value.ownBlock] using hj
    subst this
    rw [hb] at ho
    cases ho
    rfl
/-- What lies between two rounds: the box at B0 holds the row of what has come. -/
def Coll (w : World) (B0 : Nat) (pre : List (Int × Int)) (W : World) : Prop := ∃ eo cap, Boxed W B0 50 (.slice eo pre.length cap) ∧ W.ownsRow B0 25 2 (.slice eo pre.length cap) pre.length (flatD pre) ∧ Below B0 w W
theorem coll_own (w : World) (B0 B : Nat) (hB0 : B0 ≤ B) (hw : B0 ≤ w.heap.size) : OwnFrom B (Coll w B0) := fun pre W W' row ⟨eo, cap, h1, h2, h3⟩ hg hr => by
  have hne : ∀ g, (∃ cs t, W.heap[g]? = some (.cells cs t (0, 0))) → some g ≠ row := fun g ⟨cs, t, hc⟩ e => by
    obtain ⟨_, o, ho, hoc⟩ := hr g e.symm
    rw [hc] at ho
    cases ho
    cases hoc
  refine ⟨eo, cap, h1.kept hg (hne B0 ⟨_, _, h1⟩), ?_, h3.grown hg (Nat.le_trans hw h3.size) (fun k e => Nat.le_trans hB0 (hr k e).1)⟩
  refine (Turns.of_grown (F := fun i => row = some i) hg (fun _ h => h)).row h2 (fun g hgb e => ?_)
  rcases h2.2 with ⟨h0, _⟩ | ⟨g', c', cur, h0, _, hb, _⟩
  · rw [h0] at hgb
    simp [Value.ownBlock] at hgb
  · rw [h0] at hgb
    have : g' = g := by simpa [Value.ownBlock] using hgb
    subst this
    exact hne g' ⟨_, _, hb⟩ e.symm
theorem wpListIn_append_dot {F : Fence} {n : Nat} {ops : Array Oper} {rest : List Oper} {o : Oper} {a : Act} {Q : Exit → Act → World → Prop} (W0 W : World) (x : Int × Int) (hW : W = W0.alloc (.cells #[.int .i64 x.1, .int .i64 x.2] 25)) (hgd : o.guard = none) (s xx : Operand)
    (ho : o.op = .call { callee := .builtin .append, args := #[s, xx], argTypes := #[50, 50] }) (B : Nat) (v : Value) (ds : List (Int × Int))
    (hs : a.eval s = v) (hx : a.eval xx = .slice (some ⟨W0.heap.size, 0, none⟩) 1 1) (hown : W0.ownsRow B 25 2 v ds.length (flatD ds)) (hB : B ≤ W0.heap.size) (hl : ds.length ≤ 1000000)
    (h : ∀ v' w', w'.ownsRow B 25 2 v' (ds ++ [x]).length (flatD (ds ++ [x])) → Below B W0 w' → W.grownBy w' v.ownBlock → wpListIn F n Try.prog ops Q rest (a.put o.dst v') w') :
    wpListIn F n Try.prog ops Q (o :: rest) a W := by
  subst hW
  obtain ⟨iI, hj, hy0, hy1, hy2⟩ := info_parts Try.infoDot
  have hn := Blk.new W0 25 [.int .i64 x.1, .int .i64 x.2]
  refine wpListIn_append_own _ hgd s xx 50 ho B 25 iI (.agg #[.int .i64 0, .int .i64 0]) 2 16 Try.underlying50 hj hy0 hy1 hy2 rfl (by decide) v ds.length (flatD ds) hs (hown.alloc _) ⟨W0.heap.size, 0, none⟩ 1 1 [.int .i64 x.1, .int .i64 x.2] hx rfl (fun j u hu => ?_) (fun u hu => by simp at hu; rcases hu with rfl | rfl <;> rfl) (by unfold maxLen; omega) (by omega) (by simp; omega) ?_
  · rw [Addr.add_lit, Nat.zero_add]
    exact hn.cell hu
  · intro v' w' hown' hgrow _
    refine h v' w' ?_ (((Below.refl _ _).alloc hB _).grown hgrow (by simp; omega) (fun k hk => (hown.lt k hk).1)) hgrow
    rw [flatD_snoc, List.length_append]
    exact hown'
/-- The keys of D, collected. -/
def AnsK (w : World) (D : DataW Value) (e : Ending) (w' : World) : Prop := ∃ v ss, e = .returned v ∧ KeysOf' D ss ∧ ss.length ≤ Maps.size D ∧ w'.ownsRow w.heap.size 25 2 v ss.length (flatD ss) ∧ Below w.heap.size w w'
set_option maxRecDepth 100000 in
set_option maxHeartbeats 1000000 in
theorem appendSeq_keys (w : World) (Bm b nn : Nat) (D0 : DataW Value) (hm : w.cell? ⟨Bm, 0, none⟩ = some (.map (some b))) (hown : w.ownsMap Try.prog 25 valR b nn D0) (hsz : Maps.size D0 ≤ 65536) :
    Calls Try.prog 61 #[.slice none 0 0, .func (.func 52) #[] #[.pointer (some ⟨Bm, 0, none⟩)]] w (AnsK w D0) := by
  refine (callsIn_wide (n := 5)).1 ?_
  obtain ⟨W0, hW0⟩ : ∃ W0, W0 = w.alloc (.cells #[.slice none 0 0] 50) := ⟨_, rfl⟩
  have HB0 : Hid (Below w.heap.size w W0) := by rw [hW0]; exact (Below.refl _ w).alloc (Nat.le_refl _) _
  have HBX : Hid (Boxed W0 w.heap.size 50 (.slice none 0 0)) := by rw [hW0]; exact Boxed.new w 50 _
  have HS0 : Hid (W0.heap.size = w.heap.size + 1) := by rw [hW0]; exact World.size_alloc w _
  have HSQ := hid (keysD_seq 4 (by omega) Bm b nn D0 W0 ((HB0.out.cell (World.block_lt_of_cell? w _ hm)).trans hm) ((Turns.of_below (F := fun _ => False) HB0.out (Nat.le_refl _)).map hown (fun h => h)))
  clear hm hown
  refine callsIn_of_wp_marks Try.func61 rfl trivial ?_ rfl
  simp only [Try.ntmps61, List.size_toArray, List.length_cons, List.length_nil, Nat.reduceAdd, Nat.reduceSub, Array.replicate_succ, Array.replicate_zero, List.push_toArray, List.append_toArray, List.nil_append, List.cons_append]
  gi_wp2
  rw [← hW0]
  clear hW0
  have hseq := HSQ.out
  have hs0 := HS0.out
  apply wpIn_rangeFunc_boxA (encs := fun x : Int × Int => #[dotV x]) (Kp := KeepsWalks) rfl (by omega) (gf := 52) (lb := #[.pointer (some ⟨Bm, 0, none⟩)]) rfl trivial (enters_of Try.func52 (by kernel_rfl) rfl)
    hseq (fun a b => walksK_t a b) (fun W l o o' hl ho hc hw => walksK_b (w := W0) W l o o' hl ho hc hw) (Below.refl _ _) (fun _ => rfl) (Coll w w.heap.size) (coll_own w w.heap.size W0.heap.size (by omega) (Nat.le_refl _))
    ⟨none, 0, HBX.out, ⟨rfl, .inl ⟨rfl, rfl⟩⟩, HB0.out⟩ (Bx := fun x => [.int .i64 x.1, .int .i64 x.2]) (t := 25) (B := w.heap.size + 1)
  case hassign =>
    intro l pre x W K hIp hK
    dsimp only [dotV]
    have hsW : w.heap.size + 1 ≤ W.heap.size := by
      obtain ⟨_, _, hb, _, _⟩ := hIp
      exact hb.lt
    gi_wp2
    obtain ⟨g, hg⟩ : ∃ g, g = W.heap.size := ⟨_, rfl⟩
    have hbk : Blk (W.alloc (.cells #[.int .i64 x.1, .int .i64 x.2] 25)) g 25 [.int .i64 x.1, .int .i64 x.2] := by rw [hg]; exact Blk.new W 25 [.int .i64 x.1, .int .i64 x.2]
    rw [← hg]
    exact hK g (W.alloc (.cells #[.int .i64 x.1, .int .i64 x.2] 25)) ((KeepsOthers.alloc W _).from _) (KeepsOthers.alloc W _).walks ((coll_own w w.heap.size W0.heap.size (by omega) (Nat.le_refl _)).alloc _ hIp) hbk (by omega)
  case hbody =>
    rintro l pre ⟨x1, x2⟩ g W ⟨eo, cap, hbx, hrow, hbl⟩ hbk hgl hlt
    have hcb := hbx.cell
    have hfb := hbx.frozen
    have c0 := hbk.cell (i := 0) rfl
    have c1 := hbk.cell (i := 1) rfl
    have HROW := hid hrow
    have HBOX := hid hbx
    have HBL := hid hbl
    have hlt2 := hbx.lt
    have HPL : Hid (pre.length ≤ 1000000) := (by omega : pre.length ≤ 1000000)
    have HSW : Hid (w.heap.size ≤ W.heap.size) := hbl.size
    clear hrow hbx hbl hbk hlt
    gi_wp2_with (gi_at_builtin; refine wpListIn_append_dot W _ (x1, x2) rfl rfl _ _ rfl w.heap.size _ pre rfl rfl HROW.out HSW.out HPL.out ?_)
    intro v' w' hown' hb' hgrow
    have hk1 : KeepsOthers W w' := (KeepsOthers.alloc W _).trans (keeps_row (HROW.out.alloc _) hgrow)
    have hbx' : Boxed w' w.heap.size 50 (.slice eo pre.length cap) := (HBOX.out.alloc _).kept hgrow (fun e => by
      have := (show Blk W w.heap.size 50 [.slice eo pre.length cap] from HBOX.out).not_row (by decide) HROW.out
      exact this e)
    have hcb2 := hbx'.cell
    have hfb2 := hbx'.frozen
    have hl1 : (pre ++ [(x1, x2)]).length = pre.length + 1 := by simp
    obtain ⟨eo2, cap2, rfl⟩ := own_slice hown'
    have HL1 := hid hl1
    have HK1 := hid hk1
    have HBX' := hid hbx'
    have HOWN' := hid hown'
    have HBL' : Hid (Below w.heap.size w w') := HBL.out.trans hb'
    clear hk1 hbx' hown' hb' hgrow hl1
    gi_wp2
    refine ⟨(HK1.out.trans (KeepsOthers.setCell _ _ _)).from _, (HK1.out.trans (KeepsOthers.setCell _ _ _)).walks, eo2, cap2, by rw [HL1.out]; exact HBX'.out.set _, ?_, HBL'.out.setCell (p := ⟨w.heap.size, 0, none⟩) (Nat.le_refl _) _⟩
    rw [HL1.out]
    have hnr := (show Blk w' w.heap.size 50 [.slice eo pre.length cap] from HBX'.out).not_row (by decide) HOWN'.out
    exact ((Turns.refl (fun i => i = w.heap.size) w').setCell (p := ⟨w.heap.size, 0, none⟩) (.inl rfl) _).row HOWN'.out (fun g hg e => hnr (by rw [hg, e]))
  case hafter =>
    rintro D xs W hD ⟨hkeys, hlen⟩ ⟨eo, cap, hbx, hrow, hbl⟩ hDef
    have hcb := hbx.cell
    have HROW := hid hrow
    have HBL := hid hbl
    have HK := hid hkeys
    have HL := hid hlen
    have HDef := hid hDef
    clear hrow hbl hkeys hlen hDef
    gi_wp2
    refine ⟨by simp, .inl ⟨_, _, rfl, run_takeDeferred HDef.out, ?_⟩⟩
    refine ⟨_, results_tmp rfl _ _ _, _, xs, rfl, HK.out, HL.out, ?_, HBL.out.trans (belowK_b (w := w) (Nat.le_refl _) _ D _ _ (by omega) HDef.out rfl rfl)⟩
    refine (Turns.of_grown (F := fun i => i = D) (grownBy_putObj' W D (.deferred none)) (fun k e => by cases e; rfl)).row HROW.out (fun g hg e => ?_)
    subst e
    rcases HROW.out.2 with ⟨h0, _⟩ | ⟨g', c', cur, h0, _, hb, _⟩
    · rw [h0] at hg
      simp [Value.ownBlock] at hg
    · rw [h0] at hg
      have : g' = g := by simpa [Value.ownBlock] using hg
      subst this
      rw [HDef.out] at hb
      cases hb
theorem collect_keys (w : World) (Bm b nn : Nat) (D0 : DataW Value) (hm : w.cell? ⟨Bm, 0, none⟩ = some (.map (some b))) (hown : w.ownsMap Try.prog 25 valR b nn D0) (hsz : Maps.size D0 ≤ 65536) :
    Calls Try.prog 50 #[.func (.func 52) #[] #[.pointer (some ⟨Bm, 0, none⟩)]] w (AnsK w D0) := by
  have H := hid (appendSeq_keys w Bm b nn D0 hm hown hsz)
  clear hm hown hsz
  go_enter Try.func50, Try.ntmps50
  go_wp2_with fail
  refine H.out.mono ?_
  rintro e w' ⟨v, ss, rfl, h1, h2, h3, h4⟩
  have H1 := hid h1
  have H2 := hid h2
  have H3 := hid h3
  have H4 := hid h4
  clear h1 h2 h3 h4
  go_wp2
  go_ret
  exact ⟨v, ss, rfl, H1.out, H2.out, H3.out, H4.out⟩
/-- The keys of D in order. -/
def SortedK (D : DataW Value) (ss : List (Int × Int)) : Prop := KeysOf' D ss ∧ ss.Pairwise (fun x y => cmpD x y < 0)
theorem sorted_keys {D : DataW Value} {gs hs : List (Int × Int)} (h : KeysOf' D gs) (hp : hs.Perm gs) (hw : hs.Pairwise (fun x y => ¬ cmpD y x < 0)) : SortedK D hs := by
  have hn : hs.Nodup := hp.nodup_iff.2 h.1
  refine ⟨⟨hn, fun o s => by rw [hp.mem_iff]; exact h.2 o s⟩, ?_⟩
  refine (hw.and hn).imp ?_
  rintro ⟨a1, a2⟩ ⟨b1, b2⟩ ⟨h1, h2⟩
  rw [cmpD_lt] at h1 ⊢
  simp only [ne_eq, Prod.mk.injEq] at h2
  simp only at h1 ⊢
  omega
def AnsX (w : World) (D : DataW Value) (e : Ending) (w' : World) : Prop := ∃ v ss, e = .returned v ∧ SortedK D ss ∧ ss.length ≤ Maps.size D ∧ w'.ownsRow w.heap.size 25 2 v ss.length (flatD ss) ∧ Below w.heap.size w w'
theorem sorted_any (w : World) (Bm b nn : Nat) (D0 : DataW Value) (hm : w.cell? ⟨Bm, 0, none⟩ = some (.map (some b))) (hown : w.ownsMap Try.prog 25 valR b nn D0) (hsz : Maps.size D0 ≤ 65536) :
    Calls Try.prog 38 #[.func (.func 52) #[] #[.pointer (some ⟨Bm, 0, none⟩)], .func (.func 40) #[] #[]] w (AnsX w D0) := by
  have H := hid (collect_keys w Bm b nn D0 hm hown hsz)
  clear hm hown
  go_enter Try.func38, Try.ntmps38
  go_wp2_with fail
  refine H.out.mono ?_
  rintro e w1 ⟨v, ss, rfl, h1, h2, h3, h4⟩
  have H1 := hid h1
  have H2 := hid h2
  have H3 := hid h3
  have H4 := hid h4
  rcases h3.2 with ⟨rfl, h0⟩ | ⟨g, cap, cur, rfl, hbg, _⟩
  · have hss : ss = [] := List.eq_nil_of_length_eq_zero h0
    subst hss
    clear h1 h2 h3 h4
    go_wp2_with fail
    refine (sortD_nil w1 40).mono ?_
    rintro e w2 ⟨rfl, rfl⟩
    go_wp2
    go_ret
    exact ⟨_, [], rfl, ⟨H1.out, .nil⟩, H2.out, H3.out, H4.out⟩
  · have HS := hid (sortD_some h3 (by omega))
    have HBG := hid hbg
    clear h1 h2 h3 h4 hbg
    obtain ⟨L, HL⟩ : ∃ L, Hid (ss.length = L) := ⟨_, hid rfl⟩
    rw [HL.out] at HS ⊢
    go_wp2_with fail
    refine HS.out.mono ?_
    rintro e w2 ⟨rfl, hs, hp, hw, ho, hg⟩
    have HP := hid hp
    have HW := hid hw
    have HO := hid ho
    have HG := hid hg
    clear hp hw ho hg
    go_wp2
    go_ret
    have hl : hs.length = L := by rw [← HL.out]; exact HP.out.length_eq
    refine ⟨_, hs, rfl, sorted_keys H1.out HP.out (HW.out.imp (fun {a b} h => by omega)), by rw [HP.out.length_eq]; exact H2.out, by rw [hl]; exact HO.out, H4.out.grown HG.out H4.out.size (fun k e => by cases e; exact HBG.out)⟩
theorem extras_nil (w : World) : Calls Try.prog 15 #[.pointer none] w fun e w' => e = .returned (.slice none 0 0) ∧ w' = w := by
  go_enter Try.func15, Try.ntmps15
  go_wp2_with fail
  refine (closedD_nil _).mono ?_
  rintro e w' ⟨rfl, rfl⟩
  go_wp2
  go_ret
  exact ⟨rfl, rfl⟩
theorem extras_any {w : World} {p m N : Nat} {rs : Nat → Value} {R : Nat → List Value} {D : DataW Value} {S : Int → Int → Option Value} (h : DotsPre w p rs R m D S N) :
    Calls Try.prog 15 #[.pointer (some ⟨p, 0, none⟩)] w (AnsX w D) := by
  have hc7 := h.blk.cell (i := 7) rfl
  have HB : Hid (Below w.heap.size w (w.alloc (.cells #[.map (some m)] 40))) := (Below.refl _ _).alloc (Nat.le_refl _) _
  have HS := hid (sorted_any (w.alloc (.cells #[.map (some m)] 40)) w.heap.size m N D (Boxed.new w 40 _).cell (h.map.alloc _) (by have := h.map.size_le; have := h.few; omega))
  clear h
  go_enter Try.func15, Try.ntmps15
  go_wp2_with fail
  refine (closedD_no w p m hc7).mono ?_
  rintro e w' ⟨rfl, rfl⟩
  go_wp2_with fail
  refine (keysD_any _ _).mono ?_
  rintro e w1 ⟨rfl, rfl⟩
  go_wp2_with fail
  refine HS.out.mono ?_
  rintro e w2 ⟨v, ss, rfl, h1, h2, h3, h4⟩
  have H1 := hid h1
  have H2 := hid h2
  have H3 : Hid (w2.ownsRow w'.heap.size 25 2 v ss.length (flatD ss)) := by
    refine ⟨h3.1, ?_⟩
    rcases h3.2 with h | ⟨g, cap, cur, e, hb, r⟩
    · exact .inl h
    · exact .inr ⟨g, cap, cur, e, by rw [World.size_alloc] at hb; omega, r⟩
  have H4 := hid (bt HB.out h4)
  clear h1 h2 h3 h4
  go_wp2
  go_ret
  exact ⟨v, ss, rfl, H1.out, H2.out, H3.out, H4.out⟩
end Go.Proofs.Ytplecopphddjhaa
