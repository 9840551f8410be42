/-
  The document's set: May, Less, Upto.
-/
import Derived.Test.YtplecopphddjhaaDdA
import Derived.Test.YtplecopphddjhaaDotsA
import Derived.Test.YtplecopphddjhaaVvD
namespace Go.Proofs.Ytplecopphddjhaa
open Go.RowKit Go.Maps
set_option linter.unusedSimpArgs false

theorem rmay_dot (w : World) (o s : Int) : Calls Try.prog 21 #[.agg #[.int .i64 o, .int .i64 s]] w fun e w' => e = .returned (.bool (decide (MayD o s))) ∧ Below w.heap.size w w' := by
  have HB : Hid (Below w.heap.size w (w.alloc (.cells #[.int .i64 o, .int .i64 s] 25))) := (Below.refl _ _).alloc (Nat.le_refl _) _
  by_cases h0 : 0 ≤ o
  · by_cases h1 : o ≤ 6
    · by_cases h2 : 1 ≤ s
      · by_cases h3 : s ≤ 2147483647
        · go_enter Try.func21, Try.ntmps21
          go_wp2
          go_ret
          exact ⟨ret_bool (by unfold MayD; simp [h0, h1, h2, h3]; omega), HB.out⟩
        · go_enter Try.func21, Try.ntmps21
          go_wp2
          go_ret
          exact ⟨by rw [decide_eq_false (show ¬ MayD o s by unfold MayD; omega)]; simp [h3], HB.out⟩
      · go_enter Try.func21, Try.ntmps21
        go_wp2
        go_ret
        exact ⟨by rw [decide_eq_false (show ¬ MayD o s by unfold MayD; omega)]; simp [h2], HB.out⟩
    · go_enter Try.func21, Try.ntmps21
      go_wp2
      go_ret
      exact ⟨by rw [decide_eq_false (show ¬ MayD o s by unfold MayD; omega)]; simp [h1], HB.out⟩
  · go_enter Try.func21, Try.ntmps21
    go_wp2
    go_ret
    exact ⟨by rw [decide_eq_false (show ¬ MayD o s by unfold MayD; omega)]; simp [h0], HB.out⟩
/-- Stands a dot ahead of another? -/
def LessD (a b c d : Int) : Prop := a < c ∨ a = c ∧ b < d
instance (a b c d : Int) : Decidable (LessD a b c d) := by unfold LessD; infer_instance
theorem rless_dot (w : World) (a b c d : Int) : Calls Try.prog 22 #[.agg #[.int .i64 a, .int .i64 b], .agg #[.int .i64 c, .int .i64 d]] w fun e w' => e = .returned (.bool (decide (LessD a b c d))) ∧ Below w.heap.size w w' := by
  have HB : Hid (Below w.heap.size w ((w.alloc (.cells #[.int .i64 a, .int .i64 b] 25)).alloc (.cells #[.int .i64 c, .int .i64 d] 25))) := ((Below.refl _ _).alloc (Nat.le_refl _) _).alloc (by simp) _
  by_cases h0 : a < c
  · go_enter Try.func22, Try.ntmps22
    go_wp2
    go_ret
    exact ⟨by rw [decide_eq_true (show LessD a b c d from .inl h0)]; simp [h0], HB.out⟩
  · by_cases h1 : a = c
    · subst h1
      by_cases h2 : b < d
      · go_enter Try.func22, Try.ntmps22
        go_wp2
        go_ret
        exact ⟨by rw [decide_eq_true (show LessD a b a d from .inr ⟨rfl, h2⟩)]; simp [h2], HB.out⟩
      · go_enter Try.func22, Try.ntmps22
        go_wp2
        go_ret
        exact ⟨by rw [decide_eq_false (show ¬ LessD a b a d by unfold LessD; omega)]; simp [h2], HB.out⟩
    · have he : (a == c) = false := beq_eq_false_iff_ne.2 h1
      go_enter Try.func22, Try.ntmps22
      go_wp2
      go_ret
      exact ⟨by rw [decide_eq_false (show ¬ LessD a b c d by unfold LessD; omega)]; simp [h0, h1], HB.out⟩
theorem take_snocP {ps : List PairV} {k : Nat} (hk : k < ps.length) : ps.take (k + 1) = ps.take k ++ [ps[k]] := by rw [List.take_add_one, List.getElem?_eq_getElem hk]; rfl
/-- append of one pair to a row of the call's own. -/
theorem wpList_append_pr {ops : Array Oper} {rest : List Oper} {o : Oper} {a : Act} {Q : Exit → Act → World → Prop} (W0 W : World) (x : PairV) (hW : W = W0.alloc (.cells x.cells.toArray 35)) (hgd : o.guard = none) (s xx : Operand)
    (ho : o.op = .call { callee := .builtin .append, args := #[s, xx], argTypes := #[22, 22] }) (B : Nat) (v : Value) (ds : List PairV)
    (hs : a.eval s = v) (hx : a.eval xx = .slice (some ⟨W0.heap.size, 0, none⟩) 1 1) (hown : W0.ownsRow B 35 3 v ds.length (flatPp ds)) (hB : B ≤ W0.heap.size) (hl : ds.length ≤ 65536)
    (h : ∀ v' w', w'.ownsRow B 35 3 v' (ds ++ [x]).length (flatPp (ds ++ [x])) → Below B W0 w' → wpList Try.prog ops Q rest (a.put o.dst v') w') : wpList Try.prog ops Q (o :: rest) a W := by
  subst hW
  obtain ⟨iI, hj, hy0, hy1, hy2⟩ := info_parts Try.infoPr
  have hn := Blk.new W0 35 x.cells
  refine wpList_append_own_at _ hgd s xx 22 ho B 35 iI PairV.zero 3 32 Try.underlying22 hj hy0 hy1 hy2 rfl (by decide) v ds.length (flatPp ds) hs (hown.alloc _) ⟨W0.heap.size, 0, none⟩ 1 1 x.cells hx rfl (fun j u hu => ?_) (pr_one x) (by unfold maxLen; omega) (by omega) (by simp; omega) ?_
  · rw [Addr.add_lit, Nat.zero_add]
    exact hn.cell hu
  · intro v' w' hown' hg _ _
    refine h v' w' ?_ (((Below.refl B W0).alloc hB _).grown hg (by simp; omega) (fun k hk => (hown.lt k hk).1))
    rw [List.length_append, flatPp_snoc]
    exact hown'
/-- Those that a vector has. -/
def uptoP (ps : List PairV) (v : List Int) : List PairV := ps.filter (fun q => decide (HasV v q.o q.s))
theorem uptoP_step {ps : List PairV} {k : Nat} (hk : k < ps.length) (v : List Int) : uptoP (ps.take (k + 1)) v = uptoP (ps.take k) v ++ (if HasV v ps[k].o ps[k].s then [ps[k]] else []) := by
  unfold uptoP
  rw [take_snocP hk, List.filter_append]
  congr 1
  by_cases h : HasV v ps[k].o ps[k].s <;> simp [h]
theorem uptoP_le (ps : List PairV) (k : Nat) (v : List Int) : (uptoP (ps.take k) v).length ≤ ps.length := by
  unfold uptoP
  have h1 := List.length_filter_le (fun q : PairV => decide (HasV v q.o q.s)) (ps.take k)
  rw [List.length_take] at h1
  omega
def UptoR (w : World) (ys : List PairV) (e : Ending) (w' : World) : Prop := ∃ v, e = .returned v ∧ w'.ownsRow w.heap.size 35 3 v ys.length (flatPp ys) ∧ Below w.heap.size w w'
set_option maxRecDepth 100000 in
theorem RsAt.upto {w : World} {B x : Nat} {ps : List PairV} {eo : Option Addr} {cap : Nat} (h : RsAt w B x ps eo cap) (vo : Option Addr) (vc : Nat) (v : List Int) (m : Nat) (hm : v.length = m) (hv : HV w vo vc v) : Calls Try.prog 29 #[.pointer (some ⟨x, 0, none⟩), .slice vo m vc] w (UptoR w (uptoP ps v)) := by
  have H := hid h
  have HV0 := hid hv
  have HM := hid hm
  obtain ⟨n, HN⟩ : ∃ n, Hid (ps.length = n) := ⟨_, hid rfl⟩
  have HF : Hid (n ≤ 65536) := by rw [← HN.out]; exact h.few
  clear h hv hm
  go_enter Try.func29, Try.ntmps29
  go_wp2
  go_loopw [5, 6] (fun u i wr => ∃ k : Nat, i = .int .i64 k ∧ Hid (k ≤ n) ∧ Hid (wr.ownsRow w.heap.size 35 3 u (uptoP (ps.take k) v).length (flatPp (uptoP (ps.take k) v)) ∧ Below w.heap.size w wr)) (fun _ i _ => n - (intOf i).toNat)
  case atStart => exact ⟨0, rfl, Nat.zero_le _, World.ownsRow_nil _ _ _ _, Below.refl _ _⟩
  case round =>
    obtain ⟨k, rfl, HK, HR⟩ := hrel
    have c1 := (H.out.below HR.out.2).blk.cell (i := 0) rfl
    rw [HN.out] at c1
    have HROW := hid HR.out.1
    have HB := hid HR.out.2
    by_cases hlt : k < n
    · have hlt' : (k : Int) < (n : Int) := by omega
      have HKX : Hid (k < ps.length) := by rw [HN.out]; exact hlt
      have HKM : Hid (k + 1 ≤ n) := (by omega : k + 1 ≤ n)
      have hwk : wrap64 ((k : Int) + 1) = (k : Int) + 1 := wrapN (by omega) (by have := HF.out; omega)
      have hheld := (H.out.below HR.out.2).held.1
      obtain ⟨b, off, hao, _, a0, a1, a2⟩ := hheld.cellsD HKX.out
      have HST := hid (uptoP_step HKX.out v)
      have HLE : Hid ((uptoP (ps.take k) v).length ≤ 65536) := Nat.le_trans (uptoP_le ps k v) (by have := HN.out; have := HF.out; omega)
      obtain ⟨q, HQ⟩ : ∃ q, Hid (ps[k]'HKX.out = q) := ⟨_, hid rfl⟩
      rw [HQ.out] at a0 a1 a2 HST
      obtain ⟨qo, qs, qt⟩ := q
      simp only at a0 a1 a2 HST
      subst hao
      have HHAS := hid (rhas_any wr vo vc v m HM.out (HV0.out.below HB.out) qo qs)
      have HCB := hid (H.out.below HB.out)
      clear hlt HR hheld
      by_cases he : HasV v qo qs
      · rw [if_pos he] at HST
        rw [decide_eq_true he] at HHAS
        clear he
        go_wp2_with fail
        refine HHAS.out.mono ?_
        rintro e w3 ⟨rfl, hb3⟩
        have HB3 := hid (btN HB.out hb3)
        have c2 := (HCB.out.below hb3).blk.cell (i := 0) rfl
        rw [HN.out] at c2
        obtain ⟨b2, off2, hao2, _, e0, e1, e2⟩ := (HCB.out.below hb3).held.1.cellsD HKX.out
        cases hao2
        rw [HQ.out] at e0 e1 e2
        have HROW3 := hid ((Turns.of_below (F := fun _ => False) hb3 (Nat.le_refl _)).row HROW.out (fun _ _ h => h))
        clear hb3 c1 a0 a1 a2
        go_wp2_with (first | (at_builtin; refine wpList_append_pr w3 _ ⟨qo, qs, qt⟩ rfl rfl _ _ rfl w.heap.size _ (uptoP (ps.take k) v) rfl rfl HROW3.out HB3.out.size HLE.out ?_; intro v' w5 hown hb5; have HO5 := hid hown; have HB5 := hid (HB3.out.trans hb5); clear hown hb5) | fail)
        go_roundw
        case rel => exact ⟨k + 1, by go_num, HKM.out, by rw [HST.out]; exact ⟨HO5.out, HB5.out⟩⟩
        case measure => first | exact measNW HKM.out hwk | exact measN1 HKM.out
      · rw [if_neg he, List.append_nil] at HST
        rw [decide_eq_false he] at HHAS
        clear he
        go_wp2_with fail
        refine HHAS.out.mono ?_
        rintro e w3 ⟨rfl, hb3⟩
        have HB3 := hid (btN HB.out hb3)
        have HROW3 := hid ((Turns.of_below (F := fun _ => False) hb3 (Nat.le_refl _)).row HROW.out (fun _ _ h => h))
        clear hb3 c1 a0 a1 a2
        go_wp2
        go_roundw
        case rel => exact ⟨k + 1, by go_num, HKM.out, by rw [HST.out]; exact ⟨HROW3.out, HB3.out⟩⟩
        case measure => first | exact measNW HKM.out hwk | exact measN1 HKM.out
    · have hlt' : ¬ (k : Int) < (n : Int) := by omega
      have HE : Hid (ps.take k = ps) := List.take_of_length_le (by have := HN.out; omega)
      clear HR
      rw [HE.out] at HROW
      go_wp2
      go_ret
      exact ⟨_, rfl, HROW.out, HB.out⟩
end Go.Proofs.Ytplecopphddjhaa
/-
  The document's set of dots: Add.
-/
namespace Go.Proofs.Ytplecopphddjhaa
open Go.RowKit Go.Maps

/-- How many stand ahead of a dot. -/
def Ahead (ps : List PairV) (o s : Int) (k : Nat) : Prop := ∀ j (h : j < ps.length), j < k → LessD ps[j].o ps[j].s o s
def posP (ps : List PairV) (o s : Int) : Nat := ps.findIdx (fun q => !decide (LessD q.o q.s o s))
theorem posP_le (ps : List PairV) (o s : Int) : posP ps o s ≤ ps.length := List.findIdx_le_length
theorem posP_at {ps : List PairV} {o s : Int} {k : Nat} (hk : k < ps.length) (h : Ahead ps o s k) (hn : ¬ LessD ps[k].o ps[k].s o s) : k = posP ps o s := by
  symm
  unfold posP
  rw [List.findIdx_eq hk]
  exact ⟨by simpa using hn, fun j hj => by simpa using h j (by omega) hj⟩
theorem posP_end {ps : List PairV} {o s : Int} (h : Ahead ps o s ps.length) : ps.length = posP ps o s := by
  have h1 := posP_le ps o s
  by_cases h2 : posP ps o s < ps.length
  · have h3 := List.findIdx_getElem (w := h2)
    have h4 := h _ h2 h2
    simp [posP] at h3 h4
    exact absurd h4 h3
  · omega
def raddC (ps : List PairV) (o s : Int) : Int := if MayD o s then (if (pget ps o s).isSome then 5 else if 65536 ≤ ps.length then 2 else 0) else 1
def insP (ps : List PairV) (k : Nat) (x : PairV) : List PairV := ps.take k ++ [x] ++ ps.drop k
def raddP (ps : List PairV) (o s : Int) (t : ByteArray) : List PairV := if raddC ps o s = 0 then insP ps (posP ps o s) ⟨o, s, t⟩ else ps
def RsTo (B : Nat) (w w' : World) (x : Nat) (ps : List PairV) : Prop := ∃ eo' cap', RsAt w' B x ps eo' cap' ∧ Turns (fun i => i = x) w w'
theorem RsTo.same {B : Nat} {w w' : World} {x : Nat} {ps : List PairV} {eo : Option Addr} {cap : Nat} (h : RsAt w B x ps eo cap) (hb : Below w.heap.size w w') : RsTo B w w' x ps := ⟨eo, cap, h.below hb, Turns.of_below hb (Nat.le_refl _)⟩
theorem rs_addr {w : World} {B x : Nat} {ps : List PairV} {ad : Addr} {cap : Nat} (h : RsAt w B x ps (some ad) cap) : ∃ b off, ad = ⟨b, off, none⟩ := by
  rcases h.row.2 with ⟨he, _⟩ | ⟨g, c, cur, he, _⟩
  · cases he
  · cases he
    exact ⟨_, _, rfl⟩
theorem rs_none {w : World} {B x : Nat} {ps : List PairV} {cap : Nat} (h : RsAt w B x ps none cap) : ps.length = 0 ∧ cap = 0 := by
  rcases h.row.2 with ⟨he, h0⟩ | ⟨g, c, cur, he, _⟩
  · injection he with _ _ h3
    exact ⟨h0, h3⟩
  · cases he
/-- One pair more. -/
theorem rs_ins {B : Nat} {w w4 w5 W : World} {x k r : Nat} {ps : List PairV} {eo bo : Option Addr} {cap cp : Nat} {o s : Int} {t : ByteArray} (h : RsAt w B x ps eo cap) (hB : B ≤ w.heap.size) (hc : raddC ps o s = 0) (hk : k = posP ps o s) (hr : r = ps.length + 1) (hl : ps.length < 65536)
    (hb4 : Below w.heap.size w w4) (hs5 : ScN w4 w5) (hown : w5.ownsRow w4.heap.size 35 3 (.slice bo r cp) r (flatPp (insP ps k ⟨o, s, t⟩))) (hW : W = w5.setCell ⟨x, 0, none⟩ (.slice bo r cp)) : RsTo B w W x (raddP ps o s t) := by
  subst hr hk
  have hxl := h.blk.lt
  have hb5 : Blk w5 x 30 [.slice eo ps.length cap] := h.blk.below (btN hb4 hs5.out) hxl
  have t1 : Turns (fun i => i = x) w5 W := by rw [hW]; exact (Turns.refl (fun i => i = x) w5).setCell (p := ⟨x, 0, none⟩) (.inl rfl) _
  have hp : raddP ps o s t = insP ps (posP ps o s) ⟨o, s, t⟩ := by unfold raddP; rw [if_pos hc]
  have hlen : (insP ps (posP ps o s) ⟨o, s, t⟩).length = ps.length + 1 := by
    unfold insP
    have := posP_le ps o s
    simp
    omega
  rw [hp]
  refine ⟨bo, cp, ⟨?_, ?_, by rw [hlen]; omega⟩, (Turns.of_below (F := fun i => i = x) (btN hb4 hs5.out) (Nat.le_refl _)).trans t1 (fun i hi => .inl hi)⟩
  · rw [hlen, hW]
    exact hb5.set 0 _
  · rw [hlen]
    refine t1.row (ownsRow_baseN hown (Nat.le_trans hB hb4.size)) (fun k hk e => ?_)
    have h1 := (hown.lt k hk).1
    have h2 := hb4.size
    omega
end Go.Proofs.Ytplecopphddjhaa
