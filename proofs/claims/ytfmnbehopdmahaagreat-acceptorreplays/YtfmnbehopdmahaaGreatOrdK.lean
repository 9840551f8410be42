/-
  Votes appended in a drawn region, by the cells alone; a row of votes with one more, with one turned.
-/
import Derived.Test.YtfmnbehopdmahaaGreatAvB
import Derived.Deep.RegionHeld3
import Derived.Deep.AppendLies
import Derived.Deep.RegionLaw
import Derived.Test.YtfmnbehopdmahaaGreatAcH
import Derived.Deep.QuietTactic
import Derived.BigQuiet
import Derived.BigRegion
import Derived.Test.YtfmnbehopdmahaaGreatBase
namespace Go.Proofs.YtfmnbehopdmahaaGreat
open Go.RowKit Go.Maps

/-- The cells of a row of slots. -/
def HeldV8 (w : World) (ao : Option Addr) (xs : List VoM) : Prop :=
  xs = [] ∨ ∃ b off, ao = some ⟨b, off, none⟩ ∧ b < w.heap.size ∧ ∀ j (hj : j < xs.length) c u, xs[j].cells[c]? = some u → w.cell? ⟨b, off + j * 8 + c, none⟩ = some u
theorem HeldV8.below {w w' : World} {ao : Option Addr} {xs : List VoM} (h : HeldV8 w ao xs) (hb : Below w.heap.size w w') : HeldV8 w' ao xs := by
  rcases h with h0 | ⟨b, off, h1, h2, h3⟩
  · exact .inl h0
  · exact .inr ⟨b, off, h1, Nat.lt_of_lt_of_le h2 hb.size, fun j hj c u hu => (hb.cell (p := ⟨b, off + j * 8 + c, none⟩) h2).trans (h3 j hj c u hu)⟩
theorem HeldVo.v8 {w : World} {ao : Option Addr} {xs : List VoM} (h : HeldVo w ao xs) : HeldV8 w ao xs := h.2
theorem HeldV8.take {w : World} {ao : Option Addr} {xs : List VoM} (h : HeldV8 w ao xs) (k : Nat) : HeldV8 w ao (xs.take k) := by
  rcases h with h0 | ⟨b, off, h1, h2, h3⟩
  · left; rw [h0]; simp
  · refine .inr ⟨b, off, h1, h2, fun j hj c u hu => ?_⟩
    rw [List.length_take] at hj
    exact h3 j (by omega) c u (by rw [List.getElem_take] at hu; exact hu)
theorem HeldV8.drop {w : World} {b off : Nat} {xs : List VoM} (h : HeldV8 w (some ⟨b, off, none⟩) xs) (k : Nat) : HeldV8 w (some ⟨b, off + k * 8, none⟩) (xs.drop k) := by
  rcases h with h0 | ⟨b', off', h1, h2, h3⟩
  · left; rw [h0]; simp
  · cases h1
    refine .inr ⟨b, off + k * 8, rfl, h2, fun j hj c u hu => ?_⟩
    rw [List.length_drop] at hj
    have := h3 (k + j) (by omega) c u (by rw [List.getElem_drop] at hu; exact hu)
    rw [show off + (k + j) * 8 + c = off + k * 8 + j * 8 + c by rw [Nat.add_mul]; omega] at this
    exact this
theorem heldV8_of_own {w : World} {B : Nat} {v : Value} {xs : List VoM} {n : Nat} (hn : xs.length = n) (h : w.ownsRow B 73 8 v n (flatVo xs)) : ∃ ao cap, v = .slice ao n cap ∧ n ≤ cap ∧ HeldV8 w ao xs := by
  subst hn
  obtain ⟨eo, cap, rfl, hnc, hc⟩ := own_form8 h
  refine ⟨eo, cap, rfl, hnc, ?_⟩
  by_cases h0 : xs = []
  · exact .inl h0
  · obtain ⟨g, rfl, _, hg, hcell⟩ := hc (List.length_pos_iff.2 h0)
    refine .inr ⟨g, 0, rfl, hg, fun j hj c u hu => ?_⟩
    rw [Nat.zero_add]
    exact hcell _ _ (flatVo_get xs j hj c u hu)
theorem HeldV8.news {w : World} {ad : Addr} {xs : List VoM} (h : HeldV8 w (some ad) xs) : ∀ j u, (flatVo xs)[j]? = some u → w.cell? (ad.add j) = some u := by
  intro i u hu
  have hlt := (List.getElem?_eq_some_iff.1 hu).1
  rw [flatVo_len] at hlt
  rcases h with h0 | ⟨b, off, e, _, h3⟩
  · subst h0
    simp at hlt
  · cases e
    have hj : i / 8 < xs.length := by omega
    have hc : xs[i / 8].cells[i % 8]? = some u := by
      have hlen : i % 8 < xs[i / 8].cells.length := by show _ < 8; omega
      have h4 := flatVo_get xs (i / 8) hj (i % 8) _ (List.getElem?_eq_getElem hlen)
      rw [show i / 8 * 8 + i % 8 = i by omega] at h4
      rw [hu] at h4
      rw [List.getElem?_eq_getElem hlen, h4]
    have h5 := h3 (i / 8) hj (i % 8) u hc
    rw [Addr.add_lit]
    rw [show off + i / 8 * 8 + i % 8 = off + i by omega] at h5
    exact h5
theorem flatV8_one (xs : List VoM) : ∀ u ∈ flatVo xs, u.oneCell' = true := by
  intro u hu
  obtain ⟨x, _, hx⟩ := List.mem_flatMap.1 hu
  exact vo_one x u hx
/-- append of orders to a row of the call's own, in a region that draws its order. -/
theorem step_append_v8 {ops : Array Oper} {o : Oper} {a : Act} {w : World} {K : Act → World → Prop} {Q : Exit → Act → World → Prop} {E : Prop} (hgd : o.guard = none) (s x : Operand)
    (ho : o.op = .call { callee := .builtin .append, args := #[s, x], argTypes := #[40, 40] })
    (base : Nat) (v : Value) (n : Nat) (ds : List VoM) (hn : ds.length = n) (hs : a.eval s = v) (hown : w.ownsRow base 73 8 v n (flatVo ds))
    (ao : Option Addr) (m c : Nat) (xs : List VoM) (hm : xs.length = m) (hx : a.eval x = .slice ao m c) (hh : HeldV8 w ao xs) (hsum : n + m ≤ 100000000) (hbase : base ≤ w.heap.size)
    (h : ∀ bo cp w', w'.ownsRow base 73 8 (.slice bo (n + m) cp) (n + m) (flatVo (ds ++ xs)) → Below base w w' → w.grownBy w' v.ownBlock → K (a.put o.dst (.slice bo (n + m) cp)) w') :
    if Region.wanted o (yielded ops a.tmps) = true then Oper.wp Tryz.prog o a w K Q else E := by
  have hw : Region.wanted o (yielded ops a.tmps) = true := by simp [Region.wanted, hgd]
  rw [if_pos hw]
  obtain ⟨iI, hj, hy0, hy1, hy2⟩ := info_parts Tryz.infoVo
  cases ao with
  | none =>
    have hx0 : xs = [] := by
      rcases hh with h0 | ⟨b, off, e, _⟩
      · exact h0
      · cases e
    subst hx0
    obtain rfl : 0 = m := hm
    have hr := run_append_noneI (P := Tryz.prog) w base 40 o.type 73 iI 8 Tryz.underlying40 hj v n c _ hown
    rw [List.append_nil] at h
    simp only [Nat.add_zero] at h
    obtain ⟨eo, cap, hv, _, _⟩ := heldV8_of_own hn hown
    unfold Oper.wp execOp
    simp only [ho, resolve, invoke, builtin, Sem.run_bind, Sem.run_pure, Result.andThen_ok, List.map_toArray, List.map_cons, List.map_nil, hs, hx, hr]
    have := h eo cap w (by rw [← hv]; exact hown) (Below.refl _ _) (World.grownBy.refl _ _)
    rw [← hv] at this
    exact this
  | some ad =>
    obtain ⟨v', w', hr, hown', hgrow, _, _⟩ := run_append_own_at (P := Tryz.prog) w base 40 o.type 73 iI _ 8 96 Tryz.underlying40 hj hy0 hy1 hy2 rfl (by decide) v n (flatVo ds) hown ad m c (flatVo xs) (by rw [flatVo_len, hm]) hh.news (flatV8_one xs) (by unfold maxLen; omega) (by omega) hbase
    unfold Oper.wp execOp
    simp only [ho, resolve, invoke, builtin, Sem.run_bind, Sem.run_pure, Result.andThen_ok, List.map_toArray, List.map_cons, List.map_nil, hs, hx, hr]
    rw [show flatVo ds ++ flatVo xs = flatVo (ds ++ xs) by simp [flatVo]] at hown'
    have hb : Below base w w' := (Below.refl _ _).grown hgrow hbase (fun k hk => (hown.lt k hk).1)
    obtain ⟨bo, cp, rfl, _, _⟩ := heldV8_of_own (by rw [List.length_append, hn, hm]) hown'
    exact h bo cp w' hown' hb hgrow
theorem step_copy_v8 {ops : Array Oper} {o : Oper} {a : Act} {w : World} {K : Act → World → Prop} {Q : Exit → Act → World → Prop} {E : Prop} (hgd : o.guard = none) (s x : Operand)
    (ho : o.op = .call { callee := .builtin .append, args := #[s, x], argTypes := #[40, 40] })
    (base : Nat) (g : Nat) (hs : a.eval s = .slice (some ⟨g, 0, none⟩) 0 0) (hown : w.ownsRow base 73 8 (.slice (some ⟨g, 0, none⟩) 0 0) 0 (flatVo []))
    (ao : Option Addr) (m c : Nat) (xs : List VoM) (hm : xs.length = m) (hx : a.eval x = .slice ao m c) (hh : HeldV8 w ao xs) (hsum : m ≤ 100000000) (hbase : base ≤ w.heap.size)
    (h : ∀ bo cp w', w'.ownsRow base 73 8 (.slice bo m cp) m (flatVo xs) → Below base w w' → w.grownBy w' (some g) → K (a.put o.dst (.slice bo m cp)) w') :
    if Region.wanted o (yielded ops a.tmps) = true then Oper.wp Tryz.prog o a w K Q else E := by
  refine step_append_v8 hgd s x ho base _ 0 [] rfl hs hown ao m c xs hm hx hh (by omega) hbase ?_
  intro bo cp w' h1 h2 h3
  rw [Nat.zero_add] at h1 ⊢
  exact h bo cp w' h1 h2 h3
theorem ownV8_made (w : World) (B : Nat) (hB : B ≤ w.heap.size) : (w.alloc (.cells #[] 73)).ownsRow B 73 8 (.slice (some ⟨w.heap.size, 0, none⟩) 0 0) 0 (flatVo []) :=
  ⟨rfl, .inr ⟨w.heap.size, 0, #[], rfl, hB, World.alloc_heap_new w _, Nat.le_refl _, Nat.zero_le _, rfl, rfl⟩⟩
theorem ownV8_made2 (w : World) (o : Obj) (B : Nat) (hB : B ≤ w.heap.size) : ((w.alloc o).alloc (.cells #[] 73)).ownsRow B 73 8 (.slice (some ⟨w.heap.size + 1, 0, none⟩) 0 0) 0 (flatVo []) := by
  have := ownV8_made (w.alloc o) B (by simp; omega)
  rw [World.size_alloc] at this
  exact this
theorem held_newV8 (V : World) (x : VoM) : HeldV8 (V.alloc (.cells x.cells.toArray 73)) (some ⟨V.heap.size, 0, none⟩) [x] := .inr ⟨V.heap.size, 0, rfl, by simp, fun j hj c u hu => by
  have hj0 : j = 0 := by simp at hj; exact hj
  subst hj0
  have h1 := (Blk.new V 73 x.cells).cell hu
  simpa using h1⟩
theorem held_grownV8 {w w' : World} {b g : Nat} {xs : List VoM} (h : HeldV8 w (some ⟨b, 0, none⟩) xs) (hg : w.grownBy w' (some g)) (hne : b ≠ g) : HeldV8 w' (some ⟨b, 0, none⟩) xs := by
  rcases h with h0 | ⟨b', off, e, h2, h3⟩
  · exact .inl h0
  · cases e
    refine .inr ⟨b, 0, rfl, Nat.lt_of_lt_of_le h2 hg.size, fun j hj c u hu => ?_⟩
    have h4 := h3 j hj c u hu
    have h5 := hg.block b h2 (by simpa using hne)
    unfold World.cell? at h4 ⊢
    rw [h5]
    exact h4

theorem ScL.grown {W V U : World} (h : ScL W V) (hb : Below W.heap.size V U) : ScL W U := ⟨h.out.trans hb⟩
theorem ScL.size {W V : World} (h : ScL W V) : W.heap.size ≤ V.heap.size := h.out.size
theorem enOk_turned {F : Nat → Prop} {w w' : World} {x : EnM} (h : EnOk w x) (ht : Turns F w w') (ho : ∀ b off, x.ao = some ⟨b, off, none⟩ → x.e.cut ≠ [] → ¬ F b) : EnOk w' x :=
  ⟨⟨h.cut.held.turned ht ho, h.cut.room, h.cut.few⟩, h.ie, h.ht, h.hc⟩
theorem voOk_turned {F : Nat → Prop} {w w' : World} {x : VoM} (h : VoOk w x) (ht : Turns F w w') (ho : ∀ b off, x.en.ao = some ⟨b, off, none⟩ → x.en.e.cut ≠ [] → ¬ F b) : VoOk w' x := ⟨enOk_turned h.en ht ho, h.is, h.i1, h.i2⟩
/-- How many of the first votes lie before the slot. -/
def leadV : List VoM → Int → Nat
  | [], _ => 0
  | x :: r, s => if x.slot < s then leadV r s + 1 else 0
def insV (xs : List VoM) (k : Nat) (v : VoM) : List VoM := xs.take k ++ [v] ++ xs.drop k
def voteV (xs : List VoM) (v : VoM) : List VoM := if 0 ≤ findV xs v.slot 0 then xs.set (findV xs v.slot 0).toNat v else insV xs (leadV xs v.slot) v
def chgV (xs : List VoM) (v : VoM) : Bool := if 0 ≤ findV xs v.slot 0 then !(decide ((xs.getD (findV xs v.slot 0).toNat default).bal = v.bal) && decide ((xs.getD (findV xs v.slot 0).toNat default).en.e = v.en.e)) else true
theorem leadV_le : ∀ (xs : List VoM) (s : Int), leadV xs s ≤ xs.length
  | [], _ => Nat.le_refl _
  | x :: r, s => by
    unfold leadV
    have := leadV_le r s
    rw [List.length_cons]
    split <;> omega
theorem leadV_step {xs : List VoM} {s : Int} {k : Nat} (hk : k < xs.length) : leadV (xs.drop k) s = if (xs.getD k default).slot < s then leadV (xs.drop (k + 1)) s + 1 else 0 := by
  rw [List.drop_eq_getElem_cons hk, vo_getD hk]
  rfl
theorem findV_or : ∀ (xs : List VoM) (s : Int) (k : Nat), findV xs s k = -1 ∨ ∃ j, j < xs.length ∧ findV xs s k = ((k + j : Nat) : Int) ∧ (xs.getD j default).slot = s
  | [], _, _ => .inl rfl
  | x :: r, s, k => by
    by_cases h : x.slot = s
    · exact .inr ⟨0, by simp, by simp [findV, h], by simpa using h⟩
    · rcases findV_or r s (k + 1) with h1 | ⟨j, h1, h2, h3⟩
      · exact .inl (by simp [findV, h, h1])
      · exact .inr ⟨j + 1, by simpa using h1, by simp only [findV, if_neg h, h2]; omega, by simpa using h3⟩
/-- What vote turns: the block, the row where it lay. -/
def FootR (x : Nat) (eo : Option Addr) (i : Nat) : Prop := i = x ∨ ∃ off, eo = some ⟨i, off, none⟩
/-- What vote leaves. -/
def VotR (B : Nat) (w : World) (x : Nat) (nd : Int) (pr : Int × Int) (eo : Option Addr) (ys : List VoM) (w' : World) : Prop :=
  ∃ eo' cap', RaAt w' B x nd pr ys eo' cap' ∧ Turns (FootR x eo) w w' ∧ (∀ a, eo' = some a → eo = some a ∨ w.heap.size ≤ a.block)
theorem ra_cap {w : World} {B x : Nat} {nd : Int} {pr : Int × Int} {xs : List VoM} {eo : Option Addr} {cap : Nat} (h : RaAt w B x nd pr xs eo cap) : xs.length ≤ cap := by
  obtain ⟨_, _, he, hnc, _⟩ := own_form8 h.row
  cases he
  exact hnc
theorem ra_addr {w : World} {B x : Nat} {nd : Int} {pr : Int × Int} {xs : List VoM} {ad : Addr} {cap : Nat} (h : RaAt w B x nd pr xs (some ad) cap) : ∃ g, ad = ⟨g, 0, none⟩ ∧ B ≤ g ∧ g < w.heap.size := by
  rcases h.row.2 with ⟨he, _⟩ | ⟨g, c, cur, he, h1, h2, _⟩
  · cases he
  · cases he
    exact ⟨g, rfl, h1, (Array.getElem?_eq_some_iff.1 h2).1⟩
theorem ra_none {w : World} {B x : Nat} {nd : Int} {pr : Int × Int} {xs : List VoM} {cap : Nat} (h : RaAt w B x nd pr xs none cap) : xs.length = 0 := by
  rcases h.row.2 with ⟨_, h0⟩ | ⟨g, c, cur, he, _⟩
  · exact h0
  · cases he
theorem held_dropV8 {w : World} {b off cap : Nat} {xs : List VoM} (h : HeldV8 w (some ⟨b, off, none⟩) xs) (k : Nat) (hc : xs.length ≤ cap) : HeldV8 w (if cap = k then some ⟨b, off, none⟩ else some ⟨b, off + k * 8, none⟩) (xs.drop k) := by
  split
  · exact .inl (List.drop_eq_nil_of_le (by omega))
  · exact h.drop k
theorem insV_len {xs : List VoM} {k : Nat} (hk : k ≤ xs.length) (v : VoM) : (insV xs k v).length = xs.length + 1 := by
  unfold insV
  simp
  omega
theorem insV_mem {xs : List VoM} {k : Nat} {v z : VoM} (h : z ∈ insV xs k v) : z ∈ xs ∨ z = v := by
  unfold insV at h
  rcases List.mem_append.1 h with h1 | h1
  · rcases List.mem_append.1 h1 with h2 | h2
    · exact .inl (List.mem_of_mem_take h2)
    · exact .inr (List.mem_singleton.1 h2)
  · exact .inl (List.mem_of_mem_drop h1)
/-- A new row of votes in its block. -/
theorem ra_newrow {B : Nat} {W9 w5 W : World} {x : Nat} {nd : Int} {pr : Int × Int} {xs ys : List VoM} {eo bo : Option Addr} {cap cp r : Nat} (h : RaAt W9 B x nd pr xs eo cap) (hB : B ≤ W9.heap.size) (hr : r = ys.length) (hf : r ≤ 4096) (hy : AllVo W9 ys) (hl : LowV W9 B ys) (hb : Below W9.heap.size W9 w5) (hown : w5.ownsRow W9.heap.size 73 8 (.slice bo r cp) r (flatVo ys)) (hW : W = w5.setCell ⟨x, 3, none⟩ (.slice bo r cp)) :
    VotR B W9 x nd pr eo ys W := by
  subst hr
  have hxlt : x < W9.heap.size := h.blk.lt
  have t1 : Turns (fun i => i = x) w5 W := by rw [hW]; exact (Turns.refl (fun i => i = x) w5).setCell (p := ⟨x, 3, none⟩) (.inl rfl) _
  have t2 : Turns (fun i => i = x) W9 W := (Turns.of_below (F := fun i => i = x) hb (Nat.le_refl _)).trans t1 (fun i hi => .inl hi)
  have hix : ∀ i, i = x → ∀ cs, ¬ Blk W9 i 3 cs := fun i hi cs hc => by subst hi; exact blk_neH h.blk hc (by decide) rfl
  refine ⟨bo, cp, ⟨?_, ?_, fun z hz => voOk_turned (hy z hz) t2 (fun b off e hne => (hl z hz b off e hne).off (fun i hi => by rw [hi]; exact h.bx) hix), hf, hl.turned t2 hix, h.bx⟩, t2.mono (fun i hi => .inl hi), ?_⟩
  · rw [hW]
    exact (h.blk.below hb hxlt).set 3 _
  · refine t1.row (ownsRow_base hown hB) (fun k hk e => ?_)
    have := (hown.lt k hk).1
    omega
  · intro a ha
    subst ha
    rcases hown.2 with ⟨he, h0⟩ | ⟨g, c, cur, he, hg, _⟩
    · cases he
    · cases he
      exact .inr hg
theorem row_setV {w : World} {B e size g n cap : Nat} {xs : List Value} (h : w.ownsRow B e size (.slice (some ⟨g, 0, none⟩) n cap) n xs) {j : Nat} (u : Value) : (w.setCell ⟨g, j, none⟩ u).ownsRow B e size (.slice (some ⟨g, 0, none⟩) n cap) n (xs.set j u) := by
  refine ⟨by rw [List.length_set]; exact h.1, ?_⟩
  rcases h.2 with ⟨h0, _⟩ | ⟨g', cap', cur, he, hB, hg, hn, hm, hsz, htk⟩
  · cases h0
  · cases he
    have hb : Blk w g e cur.toList := hg
    refine .inr ⟨g, cap, (cur.toList.set j u).toArray, rfl, hB, hb.set j u, hn, hm, by simp [hsz], ?_⟩
    show (cur.toList.set j u).take (n * size) = xs.set j u
    rw [← htk, List.take_set]
theorem row_frozenV {w : World} {B e size g n cap : Nat} {xs : List Value} (h : w.ownsRow B e size (.slice (some ⟨g, 0, none⟩) n cap) n xs) (j : Nat) : w.frozen? ⟨g, j, none⟩ = false := by
  rcases h.2 with ⟨h0, _⟩ | ⟨g', cap', cur, he, hB, hg, _⟩
  · cases h0
  · cases he
    exact (show Blk w g e cur.toList from hg).frozen j
/-- Eight cells of a block stored anew. -/
def st8 (w : World) (g o : Nat) (v : VoM) : World :=
  (((((((w.setCell ⟨g, o, none⟩ (.int .i64 v.slot)).setCell ⟨g, o + 1, none⟩ (.int .i64 v.bal.1)).setCell ⟨g, o + 2, none⟩ (.int .i64 v.bal.2)).setCell ⟨g, o + 3, none⟩ (.bool v.en.e.noop)).setCell ⟨g, o + 4, none⟩ (.string v.en.e.tok)).setCell ⟨g, o + 5, none⟩ (.string v.en.e.cart)).setCell ⟨g, o + 6, none⟩ (.int .i64 v.en.e.ep)).setCell ⟨g, o + 7, none⟩ (.slice v.en.ao v.en.e.cut.length v.en.cap)
theorem set8 (a0 a1 a2 a3 a4 a5 a6 a7 : Value) (r : List Value) (b0 b1 b2 b3 b4 b5 b6 b7 : Value) : (((((((([a0, a1, a2, a3, a4, a5, a6, a7] ++ r).set 0 b0).set 1 b1).set 2 b2).set 3 b3).set 4 b4).set 5 b5).set 6 b6).set 7 b7 = [b0, b1, b2, b3, b4, b5, b6, b7] ++ r := rfl
theorem set_shift (c xs : List Value) (j : Nat) (u : Value) : (c ++ xs).set (c.length + j) u = c ++ xs.set j u := by
  rw [List.set_append, if_neg (by omega), show c.length + j - c.length = j by omega]
theorem flatVo_set8 : ∀ (xs : List VoM) (k : Nat) (_ : k < xs.length) (v : VoM), ((((((((flatVo xs).set (k * 8) (.int .i64 v.slot)).set (k * 8 + 1) (.int .i64 v.bal.1)).set (k * 8 + 2) (.int .i64 v.bal.2)).set (k * 8 + 3) (.bool v.en.e.noop)).set (k * 8 + 4) (.string v.en.e.tok)).set (k * 8 + 5) (.string v.en.e.cart)).set (k * 8 + 6) (.int .i64 v.en.e.ep)).set (k * 8 + 7) (.slice v.en.ao v.en.e.cut.length v.en.cap) = flatVo (xs.set k v)
  | [], k, hk, _ => by cases hk
  | _ :: _, 0, _, v => by
    unfold flatVo
    simp only [List.flatMap_cons, List.set_cons_zero, VoM.cells]
    rfl
  | x :: r, k + 1, hk, v => by
    have := flatVo_set8 r k (by simpa using hk) v
    have hl : x.cells.length = 8 := rfl
    have e : ∀ j, (k + 1) * 8 + j = x.cells.length + (k * 8 + j) := fun j => by rw [hl]; omega
    have e0 : (k + 1) * 8 = x.cells.length + k * 8 := by rw [hl]; omega
    unfold flatVo at this ⊢
    simp only [List.set_cons_succ, List.flatMap_cons]
    rw [e 1, e 2, e 3, e 4, e 5, e 6, e 7, e0, set_shift, set_shift, set_shift, set_shift, set_shift, set_shift, set_shift, set_shift, this]
theorem st8_row {w : World} {B g n cap : Nat} {xs : List VoM} (h : w.ownsRow B 73 8 (.slice (some ⟨g, 0, none⟩) n cap) n (flatVo xs)) {k : Nat} (hk : k < xs.length) (v : VoM) : (st8 w g (k * 8) v).ownsRow B 73 8 (.slice (some ⟨g, 0, none⟩) n cap) n (flatVo (xs.set k v)) := by
  rw [← flatVo_set8 xs k hk v]
  exact row_setV (row_setV (row_setV (row_setV (row_setV (row_setV (row_setV (row_setV h _) _) _) _) _) _) _) _
theorem turns_ownR {w V : World} {b i : Nat} {v : Value} (h : Turns (fun k => k = b) w V) : Turns (fun k => k = b) w (V.setCell ⟨b, i, none⟩ v) := h.setCell (p := ⟨b, i, none⟩) (.inl rfl) v
theorem st8_turns (w : World) (g o : Nat) (v : VoM) : Turns (fun i => i = g) w (st8 w g o v) :=
  turns_ownR (turns_ownR (turns_ownR (turns_ownR (turns_ownR (turns_ownR (turns_ownR (turns_ownR (Turns.refl _ _))))))))
/-- A vote stored where another was. -/
theorem ra_set {B : Nat} {W9 W : World} {x g : Nat} {nd : Int} {pr : Int × Int} {xs : List VoM} {cap k : Nat} {v : VoM} (h : RaAt W9 B x nd pr xs (some ⟨g, 0, none⟩) cap) (hk : k < xs.length) (hv : VoOk W9 v) (hl : ∀ b off, v.en.ao = some ⟨b, off, none⟩ → v.en.e.cut ≠ [] → SafeC W9 B b) (hW : W = st8 W9 g (k * 8) v) :
    VotR B W9 x nd pr (some ⟨g, 0, none⟩) (xs.set k v) W := by
  subst hW
  have t := st8_turns W9 g (k * 8) v
  obtain ⟨g', e, hBg, hg⟩ := ra_addr h
  cases e
  have hne : x ≠ g := by
    rcases h.row.2 with ⟨h0, _⟩ | ⟨g', cap', cur, he, _, hgg, _⟩
    · cases h0
    · cases he
      exact blk_neH h.blk (show Blk W9 g 73 cur.toList from hgg) (by decide)
  have hig : ∀ i, i = g → ∀ cs, ¬ Blk W9 i 3 cs := fun i hi cs hc => by
    subst hi
    rcases h.row.2 with ⟨h0, _⟩ | ⟨g', cap', cur, he, _, hgg, _⟩
    · cases h0
    · cases he
      exact blk_neH (show Blk W9 i 73 cur.toList from hgg) hc (by decide) rfl
  have hlow : LowV W9 B (xs.set k v) := fun z hz b off e hne => by
    rcases List.mem_or_eq_of_mem_set hz with h1 | h1
    · exact h.low z h1 b off e hne
    · subst h1; exact hl b off e hne
  refine ⟨_, cap, ⟨?_, ?_, fun z hz => ?_, by rw [List.length_set]; exact h.few, hlow.turned t hig, h.bx⟩, t.mono (fun i hi => .inr ⟨0, by rw [hi]⟩), fun a e => .inl e⟩
  · rw [List.length_set]
    exact t.blk h.blk hne
  · rw [List.length_set]
    exact st8_row h.row hk v
  · have hz' : VoOk W9 z := by
      rcases List.mem_or_eq_of_mem_set hz with h1 | h1
      · exact h.ok z h1
      · subst h1; exact hv
    exact voOk_turned hz' t (fun b off e hne => (hlow z hz b off e hne).off (fun i hi => by rw [hi]; exact hBg) hig)
end Go.Proofs.YtfmnbehopdmahaaGreat
/-
  Package acceptor: kinds, onPrepare.
-/
namespace Go.Proofs.YtfmnbehopdmahaaGreat
open Go.RowKit Go.Maps

theorem neqBalB (W : World) (a1 a2 b1 b2 : Int) : (binOp .neq 35 (.agg #[.int .i64 a1, .int .i64 a2]) (.agg #[.int .i64 b1, .int .i64 b2])).run Tryz.prog W = .ok (.bool (decide ((a1, a2) ≠ (b1, b2)))) W := by
  by_cases h1 : a1 = b1
  · by_cases h2 : a2 = b2
    · subst h1 h2
      simp [go_sem]
    · subst h1
      simp [go_sem, h2]
  · simp [go_sem, h1]
theorem turns_own {w V : World} {b i : Nat} {v : Value} (h : Turns (fun k => k = b) w V) : Turns (fun k => k = b) w (V.setCell ⟨b, i, none⟩ v) := h.setCell (p := ⟨b, i, none⟩) (.inl rfl) v
/-- A block of four cells stored anew. -/
def st4 (w : World) (p : Nat) (v0 v1 v2 v3 : Value) : World := (((w.setCell ⟨p, 0, none⟩ v0).setCell ⟨p, 1, none⟩ v1).setCell ⟨p, 2, none⟩ v2).setCell ⟨p, 3, none⟩ v3
theorem st4_blk {w : World} {p : Nat} {t : TypeId} {a0 a1 a2 a3 : Value} (h : Blk w p t [a0, a1, a2, a3]) (v0 v1 v2 v3 : Value) : Blk (st4 w p v0 v1 v2 v3) p t [v0, v1, v2, v3] := (((h.set 0 v0).set 1 v1).set 2 v2).set 3 v3
theorem st4_turns (w : World) (p : Nat) (v0 v1 v2 v3 : Value) : Turns (fun i => i = p) w (st4 w p v0 v1 v2 v3) :=
  ((((Turns.refl (fun i => i = p) w).setCell (p := ⟨p, 0, none⟩) (.inl rfl) _).setCell (p := ⟨p, 1, none⟩) (.inl rfl) _).setCell (p := ⟨p, 2, none⟩) (.inl rfl) _).setCell (p := ⟨p, 3, none⟩) (.inl rfl) _
/-- What onPrepare leaves. -/
def PrepP (w : World) (p : Nat) (a : Ac) (x : MsM) (e : Ending) (w' : World) : Prop :=
  Below w.heap.size w w' ∧ (if 0 < cmpB a.pr x.bal then e = .returned (effV 5 false ⟨#[]⟩ 139 #[]) else
    ∃ ba bm, e = .returned (effV 2 (decide (x.bal ≠ a.pr)) ⟨#[]⟩ 89 #[.pointer (some ⟨bm, 0, none⟩), .pointer (some ⟨ba, 0, none⟩)]) ∧ Blk w' ba 24 [.pointer (some ⟨p, 0, none⟩)] ∧ Blk w' bm 43 x.cells ∧ w.heap.size ≤ ba ∧ w.heap.size ≤ bm)
set_option maxRecDepth 1000000 in
set_option maxHeartbeats 2000000 in
theorem AcAt.onPrepare {w : World} {p m : Nat} {a : Ac} (h : AcAt w p m a) (x : MsM) : Calls Tryz.prog 57 #[.pointer (some ⟨p, 0, none⟩), x.val] w (PrepP w p a x) := by
  obtain ⟨W1, hW1⟩ : ∃ W, W = w.alloc (.cells #[.pointer (some ⟨p, 0, none⟩)] 24) := ⟨_, rfl⟩
  obtain ⟨W2, hW2⟩ : ∃ W, W = W1.alloc (.cells x.cells.toArray 43) := ⟨_, rfl⟩
  obtain ⟨W, hW⟩ : ∃ W, W = W2.alloc (.cells #[.int .i64 0, .bool false, .string ⟨#[]⟩, .nilFunc] 62) := ⟨_, rfl⟩
  have hs1 : W1.heap.size = w.heap.size + 1 := by rw [hW1]; simp
  have hs2 : W2.heap.size = w.heap.size + 1 + 1 := by rw [hW2]; simp [hs1]
  have hb1 : Below w.heap.size w W1 := by rw [hW1]; exact (Below.refl _ _).alloc (Nat.le_refl _) _
  have hb2 : Below w.heap.size w W2 := by rw [hW2]; exact hb1.alloc hb1.size _
  have HB : Hid (Below w.heap.size w W) := by rw [hW]; exact hb2.alloc hb2.size _
  have HKA : Hid (Blk W w.heap.size 24 [.pointer (some ⟨p, 0, none⟩)]) := by rw [hW, hW2, hW1]; exact ((Blk.new w _ _).alloc _).alloc _
  have HKM : Hid (Blk W (w.heap.size + 1) 43 x.cells) := by rw [hW, hW2, ← hs1]; exact (Blk.new W1 _ _).alloc _
  have HKE : Hid (Blk W (w.heap.size + 1 + 1) 62 [.int .i64 0, .bool false, .string ⟨#[]⟩, .nilFunc]) := by rw [hW, ← hs2]; exact Blk.new W2 _ _
  have H := hid (h.below HB.out)
  have HAB := hid (H.out.above x.bal)
  have HRF := hid refusalA
  have HW : Hid (W = ((w.alloc (.cells #[.pointer (some ⟨p, 0, none⟩)] 24)).alloc (.cells x.cells.toArray 43)).alloc (.cells #[.int .i64 0, .bool false, .string ⟨#[]⟩, .nilFunc] 62)) := by show _ = _; rw [hW, hW2, hW1]
  obtain ⟨ba, hba⟩ : ∃ q, q = w.heap.size := ⟨_, rfl⟩
  obtain ⟨bm, hbm⟩ : ∃ q, q = w.heap.size + 1 := ⟨_, rfl⟩
  obtain ⟨be, hbe⟩ : ∃ q, q = w.heap.size + 1 + 1 := ⟨_, rfl⟩
  rw [← hba] at HKA
  rw [← hbm] at HKM
  rw [← hbe] at HKE
  have HBA := hid hba
  have HBM := hid hbm
  have HBE := hid hbe
  have HPL : Hid (p < w.heap.size) := h.lt p (.inl rfl)
  clear h hW hW1 hW2 hs1 hs2 hb1 hb2 hba hbm hbe
  obtain ⟨r, n, hpr⟩ : ∃ r n, a.pr = (r, n) := ⟨_, _, rfl⟩
  have HPR := hid hpr
  obtain ⟨C, HC⟩ : ∃ C, Hid (decide (0 < cmpB a.pr x.bal) = C) := ⟨_, hid rfl⟩
  rw [HC.out] at HAB
  clear hpr
  obtain ⟨kd, fr, to, ⟨br, bn⟩, sl, ⟨⟨np, tk, ct, ep, cut⟩, ao1, cap1⟩, vo, vc, vs, so, sc, seen, eo, ec, evs, ti⟩ := x
  obtain ⟨XN, HXN⟩ : ∃ m, Hid (cut.length = m) := ⟨_, hid rfl⟩
  obtain ⟨VN, HVN⟩ : ∃ m, Hid (vs.length = m) := ⟨_, hid rfl⟩
  obtain ⟨SN, HSN⟩ : ∃ m, Hid (seen.length = m) := ⟨_, hid rfl⟩
  obtain ⟨EN, HEN⟩ : ∃ m, Hid (evs.length = m) := ⟨_, hid rfl⟩
  simp only [MsM.val, MsM.cells] at HW HKM ⊢
  rw [HXN.out, HVN.out, HSN.out, HEN.out] at HW HKM
  rw [HXN.out, HVN.out, HSN.out, HEN.out]
  simp only at HAB
  have hka := HKA.out.cell (i := 0) rfl
  have hk3 := HKM.out.cell (i := 3) rfl
  have hk4 := HKM.out.cell (i := 4) rfl
  go_enter Tryz.func57, Tryz.ntmps57
  go_wp2_with fail
  rw [← HW.out, ← HBE.out, ← HBM.out, ← HBA.out]
  refine HAB.out.mono ?_
  rintro e w1 ⟨rfl, hb1⟩
  have HB1 := hid hb1
  have HE1 := hid (HKE.out.below hb1 HKE.out.lt)
  clear hka hk3 hk4
  cases C
  · have hnc : ¬ 0 < cmpB a.pr (br, bn) := by simpa using HC.out
    have hA1 := HKA.out.below hb1 HKA.out.lt
    have hM1 := HKM.out.below hb1 HKM.out.lt
    have hcp := (H.out.below hb1).cells
    rw [HPR.out] at hcp
    have d0 := hA1.cell (i := 0) rfl
    have d3 := hM1.cell (i := 3) rfl
    have d4 := hM1.cell (i := 4) rfl
    have d5 := hcp.2.1
    have d6 := hcp.2.2.1
    have e0 := HE1.out.cell (i := 0) rfl
    have e1 := HE1.out.cell (i := 1) rfl
    have e2 := HE1.out.cell (i := 2) rfl
    have e3 := HE1.out.cell (i := 3) rfl
    have g0 := HE1.out.frozen 0
    have g1 := HE1.out.frozen 1
    have g2 := HE1.out.frozen 2
    have g3 := HE1.out.frozen 3
    have HNC := hid hnc
    have HA1 := hid hA1
    have HM1 := hid hM1
    have HNE : Hid (ba ≠ be ∧ bm ≠ be ∧ p ≠ be) := by have := HBA.out; have := HBM.out; have := HBE.out; have := HPL.out; exact ⟨by omega, by omega, by omega⟩
    have hP1 := (H.out.below hb1).blk
    rw [HPR.out] at hP1
    have HP1 := hid hP1
    have HT0 : Hid (Turns (fun i => i = be) w1 w1) := Turns.refl _ _
    clear hnc hb1 hA1 hM1 hcp hP1
    have h3 : (br = r ∧ bn = n) ∨ (br = r ∧ ¬ bn = n) ∨ ¬ br = r := by
      by_cases h1 : br = r
      · by_cases h2 : bn = n
        · exact .inl ⟨h1, h2⟩
        · exact .inr (.inl ⟨h1, h2⟩)
      · exact .inr (.inr h1)
    rcases h3 with ⟨h1, h2⟩ | ⟨h1, h2⟩ | h1
    · have HV : Hid (decide ((br, bn) ≠ a.pr) = false) := decide_eq_false (by rw [HPR.out, h1, h2]; simp)
      subst h1 h2
      have HSA : Hid (∀ V, Turns (fun i => i = be) w1 V → (Turns (fun i => i = be) w1 V ∧ V.cell? ⟨ba, 0, none⟩ = some (.pointer (some ⟨p, 0, none⟩)) ∧ V.cell? ⟨bm, 3, none⟩ = some (.int .i64 br) ∧ V.cell? ⟨bm, 4, none⟩ = some (.int .i64 bn) ∧ V.cell? ⟨p, 1, none⟩ = some (.int .i64 br) ∧ V.cell? ⟨p, 2, none⟩ = some (.int .i64 bn))) := fun V hV => by
        have hA2 := hV.blk HA1.out HNE.out.1
        have hM2 := hV.blk HM1.out HNE.out.2.1
        have hP2 := hV.blk HP1.out HNE.out.2.2
        exact ⟨hV, hA2.cell rfl, hM2.cell rfl, hM2.cell rfl, hP2.cell rfl, hP2.cell rfl⟩
      go_wp2
      go_region_held3 (fun V => Turns (fun i => i = be) w1 V ∧ V.cell? ⟨ba, 0, none⟩ = some (.pointer (some ⟨p, 0, none⟩)) ∧ V.cell? ⟨bm, 3, none⟩ = some (.int .i64 br) ∧ V.cell? ⟨bm, 4, none⟩ = some (.int .i64 bn) ∧ V.cell? ⟨p, 1, none⟩ = some (.int .i64 br) ∧ V.cell? ⟨p, 2, none⟩ = some (.int .i64 bn))
        (first | (refine ⟨?_, ?_, ?_, ?_, ?_, ?_⟩ <;> assumption) | (refine HSA.out _ ?_; (repeat (first | assumption | exact HT0.out | apply Turns.drew | apply turns_own)); done))
        (fail)
      all_goals
        obtain ⟨W3, hW3⟩ : ∃ V, V = (st4 w1 be (.int .i64 2) (.bool false) (.string ⟨#[]⟩) (.func (.func 89) #[] #[.pointer (some ⟨bm, 0, none⟩), .pointer (some ⟨ba, 0, none⟩)])).drew := ⟨_, rfl⟩
        have hk9 : Blk W3 be 62 [.int .i64 2, .bool false, .string ⟨#[]⟩, .func (.func 89) #[] #[.pointer (some ⟨bm, 0, none⟩), .pointer (some ⟨ba, 0, none⟩)]] := by rw [hW3]; exact (st4_blk HE1.out _ _ _ _).drew
        have hT3 : Turns (fun i => i = be) w1 W3 := by rw [hW3]; exact (st4_turns _ _ _ _ _ _).drew
        have HBF : Hid (Below w.heap.size w W3) := (bt' HB.out HB1.out).trans (hT3.below (fun i hi => by rw [hi, HBE.out]; omega) (bt' HB.out HB1.out).size)
        have HA3 := hid (hT3.blk HA1.out HNE.out.1)
        have HM3 := hid (hT3.blk HM1.out HNE.out.2.1)
        have k0 := hk9.cell (i := 0) rfl
        have k1 := hk9.cell (i := 1) rfl
        have k2 := hk9.cell (i := 2) rfl
        have k3 := hk9.cell (i := 3) rfl
        clear hT3 hk9
        go_wp2
        unfold st4 at hW3
        rw [← hW3]
        (try simp only [Exit.inBlock, Exit.then])
        refine bodyPost_ret (v := .agg #[.int .i64 2, .bool false, .string ⟨#[]⟩, .func (.func 89) #[] #[.pointer (some ⟨bm, 0, none⟩), .pointer (some ⟨ba, 0, none⟩)]]) ?_ rfl ⟨HBF.out, ?_⟩
        · rw [results_cell1B rfl]
          go_simp
        · rw [if_neg (show ¬ 0 < cmpB a.pr (br, bn) by have := HNC.out; omega)]
          refine ⟨ba, bm, by rw [HV.out], HA3.out, ?_, by rw [HBA.out]; exact Nat.le_refl _, by rw [HBM.out]; exact Nat.le_succ _⟩
          simp only [MsM.cells]
          rw [HXN.out, HVN.out, HSN.out, HEN.out]
          exact HM3.out
    · have HV : Hid (decide ((br, bn) ≠ a.pr) = true) := decide_eq_true (by rw [HPR.out]; intro e; cases e; exact h2 rfl)
      subst h1
      have HSA : Hid (∀ V, Turns (fun i => i = be) w1 V → (Turns (fun i => i = be) w1 V ∧ V.cell? ⟨ba, 0, none⟩ = some (.pointer (some ⟨p, 0, none⟩)) ∧ V.cell? ⟨bm, 3, none⟩ = some (.int .i64 br) ∧ V.cell? ⟨bm, 4, none⟩ = some (.int .i64 bn) ∧ V.cell? ⟨p, 1, none⟩ = some (.int .i64 br) ∧ V.cell? ⟨p, 2, none⟩ = some (.int .i64 n))) := fun V hV => by
        have hA2 := hV.blk HA1.out HNE.out.1
        have hM2 := hV.blk HM1.out HNE.out.2.1
        have hP2 := hV.blk HP1.out HNE.out.2.2
        exact ⟨hV, hA2.cell rfl, hM2.cell rfl, hM2.cell rfl, hP2.cell rfl, hP2.cell rfl⟩
      go_wp2
      go_region_held3 (fun V => Turns (fun i => i = be) w1 V ∧ V.cell? ⟨ba, 0, none⟩ = some (.pointer (some ⟨p, 0, none⟩)) ∧ V.cell? ⟨bm, 3, none⟩ = some (.int .i64 br) ∧ V.cell? ⟨bm, 4, none⟩ = some (.int .i64 bn) ∧ V.cell? ⟨p, 1, none⟩ = some (.int .i64 br) ∧ V.cell? ⟨p, 2, none⟩ = some (.int .i64 n))
        (first | (refine ⟨?_, ?_, ?_, ?_, ?_, ?_⟩ <;> assumption) | (refine HSA.out _ ?_; (repeat (first | assumption | exact HT0.out | apply Turns.drew | apply turns_own)); done))
        (fail)
      all_goals
        obtain ⟨W3, hW3⟩ : ∃ V, V = (st4 w1 be (.int .i64 2) (.bool true) (.string ⟨#[]⟩) (.func (.func 89) #[] #[.pointer (some ⟨bm, 0, none⟩), .pointer (some ⟨ba, 0, none⟩)])).drew := ⟨_, rfl⟩
        have hk9 : Blk W3 be 62 [.int .i64 2, .bool true, .string ⟨#[]⟩, .func (.func 89) #[] #[.pointer (some ⟨bm, 0, none⟩), .pointer (some ⟨ba, 0, none⟩)]] := by rw [hW3]; exact (st4_blk HE1.out _ _ _ _).drew
        have hT3 : Turns (fun i => i = be) w1 W3 := by rw [hW3]; exact (st4_turns _ _ _ _ _ _).drew
        have HBF : Hid (Below w.heap.size w W3) := (bt' HB.out HB1.out).trans (hT3.below (fun i hi => by rw [hi, HBE.out]; omega) (bt' HB.out HB1.out).size)
        have HA3 := hid (hT3.blk HA1.out HNE.out.1)
        have HM3 := hid (hT3.blk HM1.out HNE.out.2.1)
        have k0 := hk9.cell (i := 0) rfl
        have k1 := hk9.cell (i := 1) rfl
        have k2 := hk9.cell (i := 2) rfl
        have k3 := hk9.cell (i := 3) rfl
        clear hT3 hk9
        go_wp2
        unfold st4 at hW3
        rw [← hW3]
        (try simp only [Exit.inBlock, Exit.then])
        refine bodyPost_ret (v := .agg #[.int .i64 2, .bool true, .string ⟨#[]⟩, .func (.func 89) #[] #[.pointer (some ⟨bm, 0, none⟩), .pointer (some ⟨ba, 0, none⟩)]]) ?_ rfl ⟨HBF.out, ?_⟩
        · rw [results_cell1B rfl]
          go_simp
        · rw [if_neg (show ¬ 0 < cmpB a.pr (br, bn) by have := HNC.out; omega)]
          refine ⟨ba, bm, by rw [HV.out], HA3.out, ?_, by rw [HBA.out]; exact Nat.le_refl _, by rw [HBM.out]; exact Nat.le_succ _⟩
          simp only [MsM.cells]
          rw [HXN.out, HVN.out, HSN.out, HEN.out]
          exact HM3.out
    · have HV : Hid (decide ((br, bn) ≠ a.pr) = true) := decide_eq_true (by rw [HPR.out]; intro e; cases e; exact h1 rfl)
      have HSA : Hid (∀ V, Turns (fun i => i = be) w1 V → (Turns (fun i => i = be) w1 V ∧ V.cell? ⟨ba, 0, none⟩ = some (.pointer (some ⟨p, 0, none⟩)) ∧ V.cell? ⟨bm, 3, none⟩ = some (.int .i64 br) ∧ V.cell? ⟨bm, 4, none⟩ = some (.int .i64 bn) ∧ V.cell? ⟨p, 1, none⟩ = some (.int .i64 r) ∧ V.cell? ⟨p, 2, none⟩ = some (.int .i64 n))) := fun V hV => by
        have hA2 := hV.blk HA1.out HNE.out.1
        have hM2 := hV.blk HM1.out HNE.out.2.1
        have hP2 := hV.blk HP1.out HNE.out.2.2
        exact ⟨hV, hA2.cell rfl, hM2.cell rfl, hM2.cell rfl, hP2.cell rfl, hP2.cell rfl⟩
      go_wp2
      go_region_held3 (fun V => Turns (fun i => i = be) w1 V ∧ V.cell? ⟨ba, 0, none⟩ = some (.pointer (some ⟨p, 0, none⟩)) ∧ V.cell? ⟨bm, 3, none⟩ = some (.int .i64 br) ∧ V.cell? ⟨bm, 4, none⟩ = some (.int .i64 bn) ∧ V.cell? ⟨p, 1, none⟩ = some (.int .i64 r) ∧ V.cell? ⟨p, 2, none⟩ = some (.int .i64 n))
        (first | (refine ⟨?_, ?_, ?_, ?_, ?_, ?_⟩ <;> assumption) | (refine HSA.out _ ?_; (repeat (first | assumption | exact HT0.out | apply Turns.drew | apply turns_own)); done))
        (fail)
      all_goals
        obtain ⟨W3, hW3⟩ : ∃ V, V = (st4 w1 be (.int .i64 2) (.bool true) (.string ⟨#[]⟩) (.func (.func 89) #[] #[.pointer (some ⟨bm, 0, none⟩), .pointer (some ⟨ba, 0, none⟩)])).drew := ⟨_, rfl⟩
        have hk9 : Blk W3 be 62 [.int .i64 2, .bool true, .string ⟨#[]⟩, .func (.func 89) #[] #[.pointer (some ⟨bm, 0, none⟩), .pointer (some ⟨ba, 0, none⟩)]] := by rw [hW3]; exact (st4_blk HE1.out _ _ _ _).drew
        have hT3 : Turns (fun i => i = be) w1 W3 := by rw [hW3]; exact (st4_turns _ _ _ _ _ _).drew
        have HBF : Hid (Below w.heap.size w W3) := (bt' HB.out HB1.out).trans (hT3.below (fun i hi => by rw [hi, HBE.out]; omega) (bt' HB.out HB1.out).size)
        have HA3 := hid (hT3.blk HA1.out HNE.out.1)
        have HM3 := hid (hT3.blk HM1.out HNE.out.2.1)
        have k0 := hk9.cell (i := 0) rfl
        have k1 := hk9.cell (i := 1) rfl
        have k2 := hk9.cell (i := 2) rfl
        have k3 := hk9.cell (i := 3) rfl
        clear hT3 hk9
        go_wp2
        unfold st4 at hW3
        rw [← hW3]
        (try simp only [Exit.inBlock, Exit.then])
        refine bodyPost_ret (v := .agg #[.int .i64 2, .bool true, .string ⟨#[]⟩, .func (.func 89) #[] #[.pointer (some ⟨bm, 0, none⟩), .pointer (some ⟨ba, 0, none⟩)]]) ?_ rfl ⟨HBF.out, ?_⟩
        · rw [results_cell1B rfl]
          go_simp
        · rw [if_neg (show ¬ 0 < cmpB a.pr (br, bn) by have := HNC.out; omega)]
          refine ⟨ba, bm, by rw [HV.out], HA3.out, ?_, by rw [HBA.out]; exact Nat.le_refl _, by rw [HBM.out]; exact Nat.le_succ _⟩
          simp only [MsM.cells]
          rw [HXN.out, HVN.out, HSN.out, HEN.out]
          exact HM3.out
  · have hyc : 0 < cmpB a.pr (br, bn) := by simpa using HC.out
    have HYC := hid hyc
    clear hyc hb1
    have e0 := HE1.out.cell (i := 0) rfl
    go_wp2_with fail
    refine (HRF.out _).mono ?_
    rintro e w2 ⟨rfl, hb2⟩
    have hE2 := HE1.out.below hb2 HE1.out.lt
    have HB2 := hid (bt' HB1.out hb2)
    have f0 := hE2.cell (i := 0) rfl
    have f1 := hE2.cell (i := 1) rfl
    have f2 := hE2.cell (i := 2) rfl
    have f3 := hE2.cell (i := 3) rfl
    have g0 := hE2.frozen 0
    have g1 := hE2.frozen 1
    have g2 := hE2.frozen 2
    have g3 := hE2.frozen 3
    obtain ⟨W3, hW3⟩ : ∃ V, V = st4 w2 be (.int .i64 5) (.bool false) (.string ⟨#[]⟩) (.func (.func 139) #[] #[]) := ⟨_, rfl⟩
    have hk9 : Blk W3 be 62 [.int .i64 5, .bool false, .string ⟨#[]⟩, .func (.func 139) #[] #[]] := by rw [hW3]; exact st4_blk hE2 _ _ _ _
    have HBF : Hid (Below w.heap.size w W3) := by rw [hW3]; exact (bt' HB.out HB2.out).trans ((st4_turns w2 be _ _ _ _).below (fun i hi => by rw [hi, HBE.out]; omega) (bt' HB.out HB2.out).size)
    have k0 := hk9.cell (i := 0) rfl
    have k1 := hk9.cell (i := 1) rfl
    have k2 := hk9.cell (i := 2) rfl
    have k3 := hk9.cell (i := 3) rfl
    clear hb2 hE2 hk9 e0
    unfold effV
    go_wp2
    unfold st4 at hW3
    rw [← hW3]
    (try simp only [Exit.inBlock, Exit.then])
    refine bodyPost_ret (v := .agg #[.int .i64 5, .bool false, .string ⟨#[]⟩, .func (.func 139) #[] #[]]) ?_ rfl ⟨HBF.out, ?_⟩
    · rw [results_cell1B rfl]
      go_simp
    · rw [if_pos HYC.out]
set_option maxRecDepth 100000 in
theorem onPrepare1A {w : World} {p m ba bm : Nat} {a : Ac} {x : MsM} (h : AcAt w p m a) (hA : Blk w ba 24 [.pointer (some ⟨p, 0, none⟩)]) (hM : Blk w bm 43 x.cells) (hr : RightBal x.bal = true) (hc : ¬ 0 < cmpB a.pr x.bal) : Calls Tryz.prog 89 #[.pointer (some ⟨bm, 0, none⟩), .pointer (some ⟨ba, 0, none⟩)] w fun e w' => e = .returned (.tuple #[]) ∧ AcAt w' p m (promA a x.bal) ∧ Turns (fun i => i = p) w w' := by
  obtain ⟨W3, hW3⟩ : ∃ V, V = (w.setCell ⟨p, 1, none⟩ (.int .i64 x.bal.1)).setCell ⟨p, 2, none⟩ (.int .i64 x.bal.2) := ⟨_, rfl⟩
  have hT : Turns (fun i => i = p) w W3 := by rw [hW3]; exact turns_own (turns_own (Turns.refl _ _))
  have HFIN : Hid (AcAt W3 p m (promA a x.bal) ∧ Turns (fun i => i = p) w W3) := by
    obtain ⟨S, D, h1, h2⟩ := h.map
    refine ⟨⟨promA_ok h.ok hr hc, ?_, S, D, h1.turned hT (fun e => h.pne e.symm) (noNum_blk h.blk (by decide)), h2⟩, hT⟩
    rw [hW3]
    exact (h.blk.set 1 _).set 2 _
  have c1 := h.cells.2.1
  have c2 := h.cells.2.2.1
  have f1 := h.blk.frozen 1
  have f2 := h.blk.frozen 2
  have d0 := hA.cell (i := 0) rfl
  have d3 := hM.cell (i := 3) rfl
  have d4 := hM.cell (i := 4) rfl
  clear h hA hM hT hc hr
  go_enter Tryz.func89, Tryz.ntmps89
  go_wp2
  rw [← hW3]
  (try simp only [Exit.inBlock, Exit.then])
  refine bodyPost_end (results_none rfl _ _ _) rfl ?_
  exact ⟨rfl, HFIN.out⟩
end Go.Proofs.YtfmnbehopdmahaaGreat
/-
  pannierref16.vote where the slot has a vote.
-/
namespace Go.Proofs.YtfmnbehopdmahaaGreat
open Go.RowKit Go.Maps

theorem VotR.drew {B : Nat} {w w' : World} {x : Nat} {nd : Int} {pr : Int × Int} {eo : Option Addr} {ys : List VoM} (h : VotR B w x nd pr eo ys w') : VotR B w x nd pr eo ys w'.drew := by
  obtain ⟨eo', cap', h1, h2, h3⟩ := h
  exact ⟨eo', cap', h1.below (Below.refl _ _).drew, h2.drew, h3⟩
set_option maxRecDepth 1000000 in
set_option maxHeartbeats 4000000 in
theorem RaAt.vote_has {w : World} {B x : Nat} {nd : Int} {pr : Int × Int} {xs : List VoM} {eo : Option Addr} {cap : Nat} (h : RaAt w B x nd pr xs eo cap) (v : VoM) (hv : VoOk w v) (hl : ∀ b off, v.en.ao = some ⟨b, off, none⟩ → v.en.e.cut ≠ [] → SafeC w B b) {k : Nat} (hk : k < xs.length) (hf : findV xs v.slot 0 = (k : Int)) :
    Calls Tryz.prog 24 #[.pointer (some ⟨x, 0, none⟩), v.val] w fun e w' => e = .returned (.bool (!(decide ((xs.getD k default).bal = v.bal) && decide ((xs.getD k default).en.e = v.en.e)))) ∧ VotR B w x nd pr eo (xs.set k v) w' := by
  obtain ⟨W, hW⟩ : ∃ W, W = w.alloc (.cells v.cells.toArray 73) := ⟨_, rfl⟩
  have HB : Hid (Below w.heap.size w W) := by rw [hW]; exact (Below.refl _ _).alloc (Nat.le_refl _) _
  have HK : Hid (Blk W w.heap.size 73 v.cells) := by rw [hW]; exact Blk.new w _ _
  have H := hid (h.below HB.out)
  have HV := hid (hv.below HB.out)
  obtain ⟨n, HN⟩ : ∃ n, Hid (xs.length = n) := ⟨_, hid rfl⟩
  have HNF : Hid (n ≤ 4096) := by rw [← HN.out]; exact h.few
  have HKX := hid hk
  have HL := hid hl
  obtain ⟨g, heo⟩ : ∃ g, eo = some ⟨g, 0, none⟩ := by
    cases eo with
    | none => have := ra_none h; omega
    | some a => obtain ⟨g, e, _⟩ := ra_addr h; exact ⟨g, by rw [e]⟩
  subst heo
  have HFIND := hid (H.out.find v.slot)
  rw [hf] at HFIND
  have HYO : Hid (VoOk W (xs.getD k default)) := by rw [vo_getD hk]; exact H.out.ok _ (List.getElem_mem hk)
  obtain ⟨pb, hpb⟩ : ∃ q, q = w.heap.size := ⟨_, rfl⟩
  rw [← hpb] at HK
  have HPB := hid hpb
  have HGN : Hid (g < w.heap.size ∧ x < w.heap.size) := by obtain ⟨g', e, _, h1⟩ := ra_addr h; cases e; exact ⟨h1, h.blk.lt⟩
  have HW := hid hW
  have HEND : Hid (∀ V W', ScL W V → W' = st8 V g (k * 8) v → VotR B w x nd pr (some ⟨g, 0, none⟩) (xs.set k v) W') := fun V W' hV hW' => by
    obtain ⟨eo', cap', h1, h2, h3⟩ := ra_set (H.out.below hV.out) HKX.out (HV.out.below hV.out) (fun b off e hne => (HL.out b off e hne).below (bt' HB.out hV.out)) hW'
    have hb : Below w.heap.size w V := bt' HB.out hV.out
    exact ⟨eo', cap', h1, (Turns.of_below (F := FootR x (some ⟨g, 0, none⟩)) hb (Nat.le_refl _)).trans h2 (fun i hi => .inl hi), fun a ha => (h3 a ha).imp id (fun h4 => Nat.le_trans hb.size h4)⟩
  have HCX : Hid (∀ V, ScL W V → V.cell? ⟨x, 3, none⟩ = some (.slice (some ⟨g, 0, none⟩) n cap)) := fun V hV => by
    have := (H.out.below hV.out).blk.cell (i := 3) rfl
    rw [HN.out] at this
    exact this
  have HFR : Hid (∀ V, ScL W V → ∀ j, V.frozen? ⟨g, j, none⟩ = false) := fun V hV j => row_frozenV (H.out.below hV.out).row j
  obtain ⟨b0, off0, hao, _, d0, d1, d2, d3, d4, d5, d6, d7⟩ := H.out.held.cellsD hk
  cases hao
  simp only [Nat.zero_add] at d0 d1 d2 d3 d4 d5 d6 d7
  generalize xs.getD k default = Y at d0 d1 d2 d3 d4 d5 d6 d7 HYO ⊢
  obtain ⟨zs, ⟨zr, zb⟩, ⟨⟨zn, zt, zct, zep, zd⟩, zo, zc⟩⟩ := Y
  obtain ⟨ZN, HZN⟩ : ∃ m, Hid (zd.length = m) := ⟨_, hid rfl⟩
  obtain ⟨sl, ⟨br, bn⟩, ⟨⟨np, tk, ct, ep, dp⟩, yo, yc⟩⟩ := v
  obtain ⟨XN, HXN⟩ : ∃ m, Hid (dp.length = m) := ⟨_, hid rfl⟩
  have HSE : Hid (∀ V, ScL W V → Calls Tryz.prog 43 #[(EnM.mk ⟨zn, zt, zct, zep, zd⟩ zo zc).val, (EnM.mk ⟨np, tk, ct, ep, dp⟩ yo yc).val] V fun e w' => e = .returned (.bool (decide ((⟨zn, zt, zct, zep, zd⟩ : En) = ⟨np, tk, ct, ep, dp⟩))) ∧ ScL W w') := fun V hV => (sameEntry_R V ⟨⟨zn, zt, zct, zep, zd⟩, zo, zc⟩ ⟨⟨np, tk, ct, ep, dp⟩, yo, yc⟩ (HYO.out.en.below hV.out) (HV.out.en.below hV.out)).mono (fun e w' (hh : _ ∧ _) => And.intro hh.1 (hV.go hh.2))
  simp only [EnM.val] at HSE
  rw [HZN.out, HXN.out] at HSE
  simp only [VoM.val, VoM.cells] at HW HK HEND HFIND d0 d1 d2 d3 d4 d5 d6 d7 ⊢
  rw [HXN.out] at HW HK ⊢
  rw [HZN.out] at d7
  have HCB : Hid (∀ V, ScL W V → V.cell? ⟨pb, 0, none⟩ = some (.int .i64 sl) ∧ V.cell? ⟨pb, 1, none⟩ = some (.int .i64 br) ∧ V.cell? ⟨pb, 2, none⟩ = some (.int .i64 bn) ∧ V.cell? ⟨pb, 3, none⟩ = some (.bool np) ∧ V.cell? ⟨pb, 4, none⟩ = some (.string tk) ∧ V.cell? ⟨pb, 5, none⟩ = some (.string ct) ∧ V.cell? ⟨pb, 6, none⟩ = some (.int .i64 ep) ∧ V.cell? ⟨pb, 7, none⟩ = some (.slice yo XN yc)) := fun V hV => by
    have h1 := HK.out.below hV.out HK.out.lt
    exact ⟨h1.cell rfl, h1.cell rfl, h1.cell rfl, h1.cell rfl, h1.cell rfl, h1.cell rfl, h1.cell rfl, h1.cell rfl⟩
  have HST : Hid (∀ V, ScL W V → VotR B w x nd pr (some ⟨g, 0, none⟩) (xs.set k ⟨sl, (br, bn), ⟨⟨np, tk, ct, ep, dp⟩, yo, yc⟩⟩) ((((((((V.setCell ⟨g, k * 8, none⟩ (.int .i64 sl)).setCell ⟨g, k * 8 + 1, none⟩ (.int .i64 br)).setCell ⟨g, k * 8 + 2, none⟩ (.int .i64 bn)).setCell ⟨g, k * 8 + 3, none⟩ (.bool np)).setCell ⟨g, k * 8 + 4, none⟩ (.string tk)).setCell ⟨g, k * 8 + 5, none⟩ (.string ct)).setCell ⟨g, k * 8 + 6, none⟩ (.int .i64 ep)).setCell ⟨g, k * 8 + 7, none⟩ (.slice yo XN yc))) := fun V hV => HEND.out V _ hV (by unfold st8; simp only; rw [HXN.out])
  have hkn : (k : Int) < (n : Int) := by have := HN.out; omega
  have hk0 : (0 : Int) ≤ (k : Int) := by omega
  have c3 := HCX.out W (ScL.start W)
  obtain ⟨a0, a1, a2, a3, a4, a5, a6, a7⟩ := HCB.out W (ScL.start W)
  obtain ⟨R, HR⟩ : ∃ R, Hid ((!(decide ((zr, zb) = (br, bn)) && decide ((⟨zn, zt, zct, zep, zd⟩ : En) = ⟨np, tk, ct, ep, dp⟩))) = R) := ⟨_, hid rfl⟩
  rw [HR.out]
  clear h hv hl hk hf hW hpb HEND HV HYO
  go_enter Tryz.func24, Tryz.ntmps24
  go_wp2_with fail
  rw [← HW.out, ← HPB.out]
  refine HFIND.out.mono ?_
  rintro e w2 ⟨rfl, rfl⟩
  have h3 : (zr = br ∧ zb = bn) ∨ (zr = br ∧ ¬ zb = bn) ∨ ¬ zr = br := by
    by_cases h1 : zr = br
    · by_cases h2 : zb = bn
      · exact .inl ⟨h1, h2⟩
      · exact .inr (.inl ⟨h1, h2⟩)
    · exact .inr (.inr h1)
  rcases h3 with ⟨rfl, rfl⟩ | ⟨rfl, h2⟩ | h1
  · have HF : Hid (R = !(decide ((⟨zn, zt, zct, zep, zd⟩ : En) = ⟨np, tk, ct, ep, dp⟩))) := by rw [← HR.out, decide_eq_true rfl, Bool.true_and]; exact hid rfl
    obtain ⟨Z, HZ⟩ : ∃ Z, Hid (decide ((⟨zn, zt, zct, zep, zd⟩ : En) = ⟨np, tk, ct, ep, dp⟩) = Z) := ⟨_, hid rfl⟩
    rw [HZ.out] at HF HSE
    have hq : ∀ V, (binOp .neq 35 (.agg #[.int .i64 zr, .int .i64 zb]) (.agg #[.int .i64 zr, .int .i64 zb])).run Tryz.prog V = .ok (.bool false) V := fun V => by
      rw [neqBalB, decide_eq_false (by intro e; exact e rfl)]
    have HSA : Hid (∀ V, ScL w2 V → (ScL w2 V ∧ V.cell? ⟨x, 3, none⟩ = some (.slice (some ⟨g, 0, none⟩) n cap) ∧ V.cell? ⟨g, k * 8 + 1, none⟩ = some (.int .i64 zr) ∧ V.cell? ⟨g, k * 8 + 2, none⟩ = some (.int .i64 zb) ∧ V.cell? ⟨g, k * 8 + 3, none⟩ = some (.bool zn) ∧ V.cell? ⟨g, k * 8 + 4, none⟩ = some (.string zt) ∧ V.cell? ⟨g, k * 8 + 5, none⟩ = some (.string zct) ∧ V.cell? ⟨g, k * 8 + 6, none⟩ = some (.int .i64 zep) ∧ V.cell? ⟨g, k * 8 + 7, none⟩ = some (.slice zo ZN zc) ∧ V.cell? ⟨pb, 1, none⟩ = some (.int .i64 zr) ∧ V.cell? ⟨pb, 2, none⟩ = some (.int .i64 zb) ∧ V.cell? ⟨pb, 3, none⟩ = some (.bool np) ∧ V.cell? ⟨pb, 4, none⟩ = some (.string tk) ∧ V.cell? ⟨pb, 5, none⟩ = some (.string ct) ∧ V.cell? ⟨pb, 6, none⟩ = some (.int .i64 ep) ∧ V.cell? ⟨pb, 7, none⟩ = some (.slice yo XN yc))) := fun V hV => by
      obtain ⟨e0, e1, e2, e3, e4, e5, e6, e7⟩ := HCB.out V hV
      have hc : ∀ i u, i < 8 → w2.cell? ⟨g, k * 8 + i, none⟩ = some u → V.cell? ⟨g, k * 8 + i, none⟩ = some u := fun i u _ h1 => (hV.out.cell (p := ⟨g, k * 8 + i, none⟩) (Nat.lt_of_lt_of_le HGN.out.1 HB.out.size)).trans h1
      exact ⟨hV, HCX.out V hV, hc 1 _ (by decide) d1, hc 2 _ (by decide) d2, hc 3 _ (by decide) d3, hc 4 _ (by decide) d4, hc 5 _ (by decide) d5, hc 6 _ (by decide) d6, hc 7 _ (by decide) d7, e1, e2, e3, e4, e5, e6, e7⟩
    go_wp2
    go_region_held3 (fun V => ScL w2 V ∧ V.cell? ⟨x, 3, none⟩ = some (.slice (some ⟨g, 0, none⟩) n cap) ∧ V.cell? ⟨g, k * 8 + 1, none⟩ = some (.int .i64 zr) ∧ V.cell? ⟨g, k * 8 + 2, none⟩ = some (.int .i64 zb) ∧ V.cell? ⟨g, k * 8 + 3, none⟩ = some (.bool zn) ∧ V.cell? ⟨g, k * 8 + 4, none⟩ = some (.string zt) ∧ V.cell? ⟨g, k * 8 + 5, none⟩ = some (.string zct) ∧ V.cell? ⟨g, k * 8 + 6, none⟩ = some (.int .i64 zep) ∧ V.cell? ⟨g, k * 8 + 7, none⟩ = some (.slice zo ZN zc) ∧ V.cell? ⟨pb, 1, none⟩ = some (.int .i64 zr) ∧ V.cell? ⟨pb, 2, none⟩ = some (.int .i64 zb) ∧ V.cell? ⟨pb, 3, none⟩ = some (.bool np) ∧ V.cell? ⟨pb, 4, none⟩ = some (.string tk) ∧ V.cell? ⟨pb, 5, none⟩ = some (.string ct) ∧ V.cell? ⟨pb, 6, none⟩ = some (.int .i64 ep) ∧ V.cell? ⟨pb, 7, none⟩ = some (.slice yo XN yc))
      ((refine HSA.out _ ?_; (repeat (first | with_reducible assumption | exact ScL.start _ | apply ScL.dr | apply ScL.alloc))))
      (first
        | (go_at_call 43; with_reducible refine (HSE.out _ (by (repeat (first | with_reducible assumption | exact ScL.start _ | apply ScL.dr)))).mono ?_; rintro e w6 ⟨rfl, hs6⟩)
        | fail)
    all_goals
      obtain ⟨a0, a1, a2, a3, a4, a5, a6, a7⟩ := HCB.out _ hs6
      obtain ⟨_, c3, z1, z2, z3, z4, z5, z6, z7, _⟩ := HSA.out _ hs6
      have z0 := (hs6.out.cell (p := ⟨g, k * 8, none⟩) (Nat.lt_of_lt_of_le HGN.out.1 HB.out.size)).trans d0
      have f0 := HFR.out _ hs6 (k * 8)
      have f1 := HFR.out _ hs6 (k * 8 + 1)
      have f2 := HFR.out _ hs6 (k * 8 + 2)
      have f3 := HFR.out _ hs6 (k * 8 + 3)
      have f4 := HFR.out _ hs6 (k * 8 + 4)
      have f5 := HFR.out _ hs6 (k * 8 + 5)
      have f6 := HFR.out _ hs6 (k * 8 + 6)
      have f7 := HFR.out _ hs6 (k * 8 + 7)
      have HS6 := hid hs6
      clear hs6 HCX HFR HCB HSE HSA
      go_wp2
      go_region
      go_wp2
      go_ret
      exact ⟨by rw [HF.out]; first | done | rfl, (HST.out w6 HS6.out).drew⟩
  · have HF : Hid (R = true) := by rw [← HR.out, decide_eq_false (by intro e; cases e; exact h2 rfl)]; exact hid rfl
    have hq := neqBalB w2 zr zb zr bn
    rw [decide_eq_true (by intro e; cases e; exact h2 rfl)] at hq
    have f0 := HFR.out w2 (ScL.start _) (k * 8)
    have f1 := HFR.out w2 (ScL.start _) (k * 8 + 1)
    have f2 := HFR.out w2 (ScL.start _) (k * 8 + 2)
    have f3 := HFR.out w2 (ScL.start _) (k * 8 + 3)
    have f4 := HFR.out w2 (ScL.start _) (k * 8 + 4)
    have f5 := HFR.out w2 (ScL.start _) (k * 8 + 5)
    have f6 := HFR.out w2 (ScL.start _) (k * 8 + 6)
    have f7 := HFR.out w2 (ScL.start _) (k * 8 + 7)
    clear HCX HFR HCB HSE
    go_wp2
    go_quiet (fail)
    go_wp2
    go_region
    go_wp2
    go_ret
    exact ⟨by rw [HF.out]; first | done | rfl, HST.out _ ⟨below_dn (Below.refl _ _) _⟩⟩
  · have HF : Hid (R = true) := by rw [← HR.out, decide_eq_false (by intro e; cases e; exact h1 rfl)]; exact hid rfl
    have hq := neqBalB w2 zr zb br bn
    rw [decide_eq_true (by intro e; cases e; exact h1 rfl)] at hq
    have f0 := HFR.out w2 (ScL.start _) (k * 8)
    have f1 := HFR.out w2 (ScL.start _) (k * 8 + 1)
    have f2 := HFR.out w2 (ScL.start _) (k * 8 + 2)
    have f3 := HFR.out w2 (ScL.start _) (k * 8 + 3)
    have f4 := HFR.out w2 (ScL.start _) (k * 8 + 4)
    have f5 := HFR.out w2 (ScL.start _) (k * 8 + 5)
    have f6 := HFR.out w2 (ScL.start _) (k * 8 + 6)
    have f7 := HFR.out w2 (ScL.start _) (k * 8 + 7)
    clear HCX HFR HCB HSE
    go_wp2
    go_quiet (fail)
    go_wp2
    go_region
    go_wp2
    go_ret
    exact ⟨by rw [HF.out]; first | done | rfl, HST.out _ ⟨below_dn (Below.refl _ _) _⟩⟩
end Go.Proofs.YtfmnbehopdmahaaGreat
/-
  A region whose last operation stores into what it reads: all that the store waits for may be taken first, though the store does not keep it. No function of the program is named here.
-/
namespace Go.Proofs.YtfmnbehopdmahaaGreat

section
variable {P : Program} {ops : Array Oper} {Q : Exit → Act → World → Prop} {md : Region.Mode} {S : World → Prop} {z : Nat}

/-- Whatever order is picked: S holds behind every operation but number z. -/
def wpAnyK (P : Program) (md : Region.Mode) (ops : Array Oper) (Q : Exit → Act → World → Prop) (S : World → Prop) (z : Nat) : Nat → Array Bool → Act → World → Prop
  | 0, listed, a, w => Region.ready md ops listed = [] ∧ Q .normal a w
  | fuel + 1, listed, a, w =>
    (Region.ready md ops listed = [] → Q .normal a w) ∧
    ∀ i ∈ Region.ready md ops listed, wpOp P ops Q i (fun a' w' => (i = z ∨ S w') ∧ wpAnyK P md ops Q S z fuel (listed.setIfInBounds i true) a' w') a w
theorem wpAny_of_K : ∀ (fuel : Nat) (listed : Array Bool) (a : Act) (w : World), wpAnyK P md ops Q S z fuel listed a w → wpAny P md ops Q fuel listed a w
  | 0, _, _, _, h => h
  | fuel + 1, _, _, _, h => ⟨h.1, fun i hi => wpOp_mono (fun a' w' h' => wpAny_of_K fuel _ a' w' h'.2) (h.2 i hi)⟩
/-- What has come up: all that it waits for has come up, too. -/
def ClosedK (md : Region.Mode) (ops : Array Oper) (listed : Array Bool) : Prop := ∀ j o, ops[j]? = some o → listed.getD j true = true → ∀ e ∈ o.after, Region.binds md e = true → listed.getD e.on false = true
theorem closedK_step {listed : Array Bool} (h : ClosedK md ops listed) {j : Nat} (hj : j ∈ Region.ready md ops listed) : ClosedK md ops (listed.setIfInBounds j true) := by
  intro k o hk hl e he hb
  by_cases hjk : j = k
  · subst hjk
    obtain ⟨_, o', ho, hall⟩ := mem_ready.1 hj
    rw [hk] at ho
    cases ho
    exact getD_set_true (hall e he hb)
  · rw [getD_set_ne true hjk] at hl
    exact getD_set_true (h k o hk hl e he hb)
def closedKB (md : Region.Mode) (ops : Array Oper) (listed : Array Bool) : Bool := (List.range ops.size).all fun j => !listed.getD j true || match ops[j]? with
  | some o => o.after.all fun e => !Region.binds md e || listed.getD e.on false
  | none => true
theorem closedKB_spec {listed : Array Bool} (h : closedKB md ops listed = true) : ClosedK md ops listed := by
  intro j o hj hl e he hb
  unfold closedKB at h
  rw [List.all_eq_true] at h
  have h1 := h j (List.mem_range.2 (Array.getElem?_eq_some_iff.1 hj).1)
  rw [hl, hj] at h1
  simp only [Bool.not_true, Bool.false_or, Array.all_eq_true_iff_forall_mem, Bool.or_eq_true, Bool.not_eq_true'] at h1
  rcases h1 e he with h2 | h2
  · rw [hb] at h2; cases h2
  · exact h2
/-- Each waits for the next one. -/
def chainK (md : Region.Mode) (ops : Array Oper) : List Nat → Bool
  | x :: y :: r => (match ops[x]? with
    | some o => o.after.any fun e => Region.binds md e && e.on == y
    | none => false) && chainK md ops (y :: r)
  | _ => true
theorem chainK_one {listed : Array Bool} (hc : ClosedK md ops listed) (x i : Nat) (h : (match ops[x]? with
    | some o => o.after.any fun e => Region.binds md e && e.on == i
    | none => false) = true) (hi : listed.getD i true = false) : x ∉ Region.ready md ops listed ∧ listed.getD x true = false := by
  cases ho : ops[x]? with
  | none => rw [ho] at h; cases h
  | some o =>
    rw [ho] at h
    obtain ⟨e, he, hb⟩ := Array.any_eq_true'.1 h
    simp only [Bool.and_eq_true, beq_iff_eq] at hb
    have hne : ¬ listed.getD e.on false = true := fun hl => by
      rw [hb.2] at hl
      have : i < listed.size := by
        rcases Nat.lt_or_ge i listed.size with h' | h'
        · exact h'
        · simp [Array.getElem?_eq_none h'] at hl
      simp [this] at hi hl
      rw [hi] at hl
      cases hl
    refine ⟨fun hr => ?_, ?_⟩
    · obtain ⟨_, o', ho', hall⟩ := mem_ready.1 hr
      rw [ho] at ho'
      cases ho'
      exact hne (hall e he hb.1)
    · cases hl : listed.getD x true with
      | false => rfl
      | true => exact absurd (hc x o ho hl e he hb.1) hne
theorem chainK_unlisted {listed : Array Bool} (hc : ClosedK md ops listed) : ∀ (c : List Nat) (x i : Nat), chainK md ops (x :: (c ++ [i])) = true → listed.getD i true = false → x ∉ Region.ready md ops listed ∧ listed.getD x true = false
  | [], x, i, h, hi => by
    simp only [List.nil_append, chainK, Bool.and_true] at h
    exact chainK_one hc x i h hi
  | y :: c, x, i, h, hi => by
    have h' : (match ops[x]? with
      | some o => o.after.any fun e => Region.binds md e && e.on == y
      | none => false) = true ∧ chainK md ops (y :: (c ++ [i])) = true := by
      have : chainK md ops (x :: (y :: (c ++ [i]))) = true := h
      unfold chainK at this
      simpa only [Bool.and_eq_true] using this
    obtain ⟨h1, h2⟩ := h'
    exact chainK_one hc x y h1 (chainK_unlisted hc c y i h2 hi).2
theorem wpAnyK_first {i : Nat} {oi : Oper} {v : Value} (hi : ops[i]? = some oi) (hsel : ∀ (j : Nat) (o : Oper) cs b, ops[j]? = some o → o.op ≠ .select cs b)
    (hQ : ∀ c a w, Q (.panic c) (a.put oi.dst v) w → Q (.panic c) a w) (c : List Nat) (hch : chainK md ops (z :: (c ++ [i])) = true) :
    ∀ (fuel : Nat) (listed : Array Bool) (a : Act) (w : World), ClosedK md ops listed →
      (∀ j oj, ops[j]? = some oj → j ≠ i → listed.getD j true = false → (∀ e ∈ oj.after, Region.binds md e = true → e.on ≠ i) → oi.apart ops oj = true) →
      i ∈ Region.ready md ops listed → YieldsIf P ops S oi v a → S w →
      wpAnyK P md ops Q S z fuel (listed.setIfInBounds i true) (a.put oi.dst v) w → wpAnyK P md ops Q S z (fuel + 1) listed a w := by
  intro fuel
  induction fuel with
  | zero =>
    intro listed a w _ _ hr hy hS H
    refine ⟨fun h => (by rw [h] at hr; cases hr), fun j hj => ?_⟩
    by_cases hji : j = i
    · subst hji; exact hy.wpOp hi hS ⟨.inr hS, H⟩
    · have := ready_mono hj hji
      rw [H.1] at this
      cases this
  | succ fuel ih =>
    intro listed a w hcl hfree hr hy hS H
    refine ⟨fun h => (by rw [h] at hr; cases hr), fun j hj => ?_⟩
    by_cases hji : j = i
    · subst hji; exact hy.wpOp hi hS ⟨.inr hS, H⟩
    · have h1 := H.2 j (ready_mono hj hji)
      have hjz : j ≠ z := fun e => (chainK_unlisted hcl c z i hch (mem_ready.1 hr).1).1 (e ▸ hj)
      obtain ⟨hjun, oj, hoj, hall⟩ := mem_ready.1 hj
      have hnot : ∀ e ∈ oj.after, Region.binds md e = true → e.on ≠ i := fun e he hb heq => by
        have h1 := hall e he hb
        have h0 := (mem_ready.1 hr).1
        rw [heq] at h1
        rcases Nat.lt_or_ge i listed.size with h' | h'
        · simp [h'] at h0 h1; rw [h0] at h1; cases h1
        · simp [Array.getElem?_eq_none h'] at h1
      have h2 := wpOp_putIf hoj (hfree j oj hoj hji hjun hnot) (fun cs b => hsel i oi cs b hi) (fun cs b => hsel j oj cs b hoj) hQ hy h1
      have hfree' : ∀ k ok, ops[k]? = some ok → k ≠ i → (listed.setIfInBounds j true).getD k true = false →
          (∀ e ∈ ok.after, Region.binds md e = true → e.on ≠ i) → oi.apart ops ok = true := fun k ok hk hki hun hno => by
        refine hfree k ok hk hki ?_ hno
        by_cases hjk : j = k
        · subst hjk; exact hjun
        · rw [getD_set_ne true hjk] at hun; exact hun
      refine wpOp_mono (fun a' w' h3 => ?_) h2
      have hSw : S w' := h3.2.1.resolve_left hjz
      refine ⟨.inr hSw, ih (listed.setIfInBounds j true) a' w' (closedK_step hcl hj) hfree' (ready_mono hr (Ne.symm hji)) h3.1 hSw ?_⟩
      rw [Array.setIfInBounds_comm _ _ hji]
      exact h3.2.2
theorem wpAnyK_take {i : Nat} {oi : Oper} {v : Value} {fuel : Nat} {listed : Array Bool} {a : Act} {w : World} (c : List Nat) (hi : ops[i]? = some oi)
    (hs : Region.noSelect ops = true) (hf : Region.free md ops listed i = true) (hr : (Region.ready md ops listed).contains i = true) (hcl : closedKB md ops listed = true) (hch : chainK md ops (z :: (c ++ [i])) = true)
    (hQ : ∀ c a w, Q (.panic c) (a.put oi.dst v) w → Q (.panic c) a w) (hy : YieldsIf P ops S oi v a) (hS : S w)
    (h : wpAnyK P md ops Q S z fuel (listed.setIfInBounds i true) (a.put oi.dst v) w) : wpAnyK P md ops Q S z (fuel + 1) listed a w :=
  wpAnyK_first hi (Region.noSelect_spec hs) hQ c hch fuel listed a w (closedKB_spec hcl) (Region.free_spec hi hf) (by simpa using hr) hy hS h
theorem wpAnyK_done {listed : Array Bool} {a : Act} {w : World} (hr : Region.ready md ops listed = []) (h : Q .normal a w) : ∀ fuel, wpAnyK P md ops Q S z fuel listed a w
  | 0 => ⟨hr, h⟩
  | _ + 1 => ⟨fun _ => h, by rw [hr]; simp⟩
def AllReadyK (P : Program) (md : Region.Mode) (ops : Array Oper) (Q : Exit → Act → World → Prop) (S : World → Prop) (z fuel : Nat) (listed : Array Bool) (a : Act) (w : World) (rs : List Nat) : Prop :=
  ∀ i ∈ rs, wpOp P ops Q i (fun a' w' => (i = z ∨ S w') ∧ wpAnyK P md ops Q S z fuel (listed.setIfInBounds i true) a' w') a w
theorem AllReadyK.nil {fuel : Nat} {listed : Array Bool} {a : Act} {w : World} : AllReadyK P md ops Q S z fuel listed a w [] := fun _ h => by cases h
theorem AllReadyK.cons {fuel : Nat} {listed : Array Bool} {a : Act} {w : World} {i : Nat} {o : Oper} {rs : List Nat} (ho : ops[i]? = some o)
    (h : ∀ K' : Act → World → Prop, Shut (∀ a w, (i = z ∨ S w) → (S w ∨ i = z → wpAnyK P md ops Q S z fuel (listed.setIfInBounds i true) a w) → K' a w) → if Region.wanted o (yielded ops a.tmps) = true then Oper.wp P o a w K' Q else K' (a.put o.dst undef) w)
    (hs : AllReadyK P md ops Q S z fuel listed a w rs) : AllReadyK P md ops Q S z fuel listed a w (i :: rs) := fun j hj => by
  rcases List.mem_cons.1 hj with rfl | hj
  · exact wpOp_step ho (fun K' hK => h K' (fun a w hS hW => hK a w ⟨hS, hW hS.symm⟩))
  · exact hs j hj
theorem wpAnyK_ready {rs : List Nat} {fuel : Nat} {listed : Array Bool} {a : Act} {w : World} (hr : Region.ready md ops listed = rs) (hne : rs ≠ [])
    (h : AllReadyK P md ops Q S z fuel listed a w rs) : wpAnyK P md ops Q S z (fuel + 1) listed a w := ⟨fun h0 => absurd (hr ▸ h0) hne, hr ▸ h⟩
theorem wp_region_K {id : Nat} {a : Act} {w : World} (z : Nat) (S : World → Prop) (hm : P.follows .mixedOrders = true) (hS : S w.drew)
    (h : S w.drew → wpAnyK P .any ops Q S z ops.size (Array.replicate ops.size false) a w.drew) : (Code.region id ops true).wp P Q a w :=
  wp_region_any hm (wpAny_of_K _ _ _ _ (h hS))
end
end Go.Proofs.YtfmnbehopdmahaaGreat
