/-
  LearnerGrows: what a round of its range leaves.
-/
import Derived.Test.YtgghfmdciohinaaLrR
import Derived.Test.YtgghfmdciohinaaLrO
import Derived.Test.YtgghfmdciohinaaLrG
namespace Go.Proofs.Ytgghfmdciohinaa
open Go.RowKit Go.Shelf Go.Maps

section
variable {w X U U2 : World} {rb hb nb cap L l : Nat} {Ds : List Nat} {H : List EnM} {eo : Option Addr} {g : Lr}
theorem turns_set (V : World) (b : Nat) (u : Value) : Turns (fun i => i = b) V (V.setCell ⟨b, 0, none⟩ u) := (Turns.refl (fun i => i = b) V).setCell (p := ⟨b, 0, none⟩) (.inl rfl) _
theorem boxed_turned {V V' : World} {F : Nat → Prop} {b : Nat} {t : TypeId} {v : Value} (h : Boxed V b t v) (ht : Turns F V V') (hn : ¬ F b) : Boxed V' b t v := (ht.block _ h.lt hn).trans h
/-- n's box is set. -/
theorem GrB.setN (h : GrB w U rb hb Ds H eo cap) {v : Value} (hn : Boxed U nb 3 v) (hoff : ∀ x ∈ H, ∀ b off, x.ao = some ⟨b, off, none⟩ → x.e.cut ≠ [] → b ≠ nb) (hle : w.heap.size ≤ nb) (u : Value) : GrB w (U.setCell ⟨nb, 0, none⟩ u) rb hb Ds H eo cap := by
  have ht := turns_set U nb u
  refine ⟨h.bel.setCell (p := ⟨nb, 0, none⟩) hle _, boxed_turned h.res ht (fun e => ?_), boxed_turned h.hbx ht (fun e => ?_), ht.row h.row (fun gg hg e => ?_), fun x hx => enKeep_turned (h.ens x hx) (fun b off e hne => hoff x hx b off e hne) ht, h.mks.turned ht (fun i hi => ?_), h.rl, h.hl⟩
  · subst e
    exact absurd (blk_typeQ (boxed_blk hn) (boxed_blk h.res)) (by decide)
  · subst e
    exact absurd (blk_typeQ (boxed_blk hn) (boxed_blk h.hbx)) (by decide)
  · subst e
    exact (boxed_blk hn).not_row (by decide) h.row hg.symm
  · have h1 : U.heap[nb]? = some (.cells #[v] 3 (0, 0)) := hn
    rw [hi, h1]
    simp
/-- An entry more. -/
theorem GrB.push (h : GrB w U rb hb Ds H eo cap) {o : Obj} {W6 : World} {k : Nat} (hk : H.length = k) {y : EnM} {bo : Option Addr} {cp : Nat} (hown : W6.ownsRow w.heap.size 33 5 (.slice bo (k + 1) cp) (k + 1) (flatEn (H ++ [y]))) (hg : (U.alloc o).grownBy W6 (Value.slice eo k cap).ownBlock) (hy : EnKeep U y) :
    GrB w (W6.setCell ⟨hb, 0, none⟩ (.slice bo (k + 1) cp)) rb hb Ds (H ++ [y]) bo cp ∧ Turns (fun i => i = hb ∨ EnTyped U i) U (W6.setCell ⟨hb, 0, none⟩ (.slice bo (k + 1) cp)) ∧ Boxed W6 hb 40 (.slice eo k cap) := by
  subst hk
  have hba : Below U.heap.size U (U.alloc o) := (Below.refl _ _).alloc (Nat.le_refl _) _
  have h5 := h.below hba
  have hrow : ∀ i, (Value.slice eo H.length cap).ownBlock = some i → EnTyped U i ∧ w.heap.size ≤ i := fun i hi => by
    rcases h.row.2 with ⟨h0, _⟩ | ⟨g', c', cur, h0, hB, hg', _⟩
    · rw [h0] at hi
      simp [Value.ownBlock] at hi
    · rw [h0] at hi
      have : g' = i := by simpa [Value.ownBlock] using hi
      subst this
      exact ⟨⟨cur.toList, hg'⟩, hB⟩
  have hT6 : Turns (EnTyped U) U W6 := by
    have t1 : Turns (EnTyped U) U (U.alloc o) := Turns.of_below hba (Nat.le_refl _)
    exact t1.grown hg (fun i hi => .inl (hrow i hi).1)
  have hbox6 : ∀ {b : Nat} {t : TypeId} {v : Value}, Boxed U b t v → t ≠ 33 → Boxed W6 b t v := fun hb1 ht1 => boxed_turned hb1 hT6 (fun ⟨cs, hc⟩ => ht1 (blk_typeQ (boxed_blk hb1) hc))
  have hkeep6 : ∀ x : EnM, EnKeep U x → EnKeep W6 x := fun x hx => enKeep_turned hx (fun b off e hne ⟨cs, hc⟩ => by
    obtain ⟨cs', hb'⟩ := hx.num b off e hne
    exact absurd (blk_typeQ hb' hc) (by decide)) hT6
  have hmk6 : Marks w.heap.size Ds W6 := h.mks.turned hT6 (fun i ⟨cs, hc⟩ => by
    have h1 : U.heap[i]? = some (.cells cs.toArray 33 (0, 0)) := hc
    rw [h1]
    simp)
  have hH6 := hbox6 h.hbx (by decide)
  have ht := turns_set W6 hb (.slice bo (H.length + 1) cp)
  have hb6 : Below w.heap.size w W6 := h.bel.trans ((hba.mono h.bel.size).grown hg (by have := h.bel.size; have := hba.size; omega) (fun i hi => (hrow i hi).2))
  refine ⟨⟨hb6.setCell (p := ⟨hb, 0, none⟩) h.hl _, boxed_turned (hbox6 h.res (by decide)) ht (fun e => ?_), ?_, ?_, fun x hx => ?_, hmk6.turned ht (fun i hi => ?_), h.rl, h.hl⟩, ?_, hH6⟩
  · subst e
    exact absurd (blk_typeQ (boxed_blk h.res) (boxed_blk h.hbx)) (by decide)
  · have := hH6.set (.slice bo (H.length + 1) cp)
    simpa using this
  · have := ht.row hown (fun gg hgg e => by
      subst e
      exact (boxed_blk hH6).not_row (by decide) hown hgg.symm)
    simpa using this
  · refine enKeep_turned (hkeep6 x ?_) (fun b off e hne hc => ?_) ht
    · rcases List.mem_append.1 hx with hx | hx
      · exact h.ens x hx
      · rw [List.mem_singleton.1 hx]
        exact hy
    · have hx6 : EnKeep W6 x := hkeep6 x (by
        rcases List.mem_append.1 hx with hx | hx
        · exact h.ens x hx
        · rw [List.mem_singleton.1 hx]
          exact hy)
      obtain ⟨cs, hb'⟩ := hx6.num b off e hne
      subst hc
      exact absurd (blk_typeQ hb' (boxed_blk hH6)) (by decide)
  · have h1 : W6.heap[hb]? = some (.cells #[.slice eo H.length cap] 40 (0, 0)) := hH6
    rw [hi, h1]
    simp
  · exact (hT6.mono (fun i hi => .inr hi)).trans ht (fun i hi => .inl (.inl hi))
end
end Go.Proofs.Ytgghfmdciohinaa
/-
  pannierref18: the document's learner in memory ('RlAt'); Prefix, Get.
-/
namespace Go.Proofs.Ytgghfmdciohinaa
open Go.RowKit Go.Maps

def flatSt (xs : List StM) : List Value := xs.flatMap StM.cells
theorem flatSt_get : ∀ (xs : List StM) (j : Nat) (hj : j < xs.length) (c : Nat) (u : Value), xs[j].cells[c]? = some u → (flatSt xs)[j * 6 + c]? = some u
  | [], j, hj, _, _, _ => by cases hj
  | x :: r, 0, _, c, u, h => by
    simp only [List.getElem_cons_zero] at h
    have hc : c < 6 := (List.getElem?_eq_some_iff.1 h).1
    unfold flatSt
    rw [List.flatMap_cons, Nat.zero_mul, Nat.zero_add, List.getElem?_append_left (show c < 6 from hc)]
    exact h
  | x :: r, j + 1, hj, c, u, h => by
    simp only [List.getElem_cons_succ] at h
    have := flatSt_get r j (by simpa using hj) c u h
    unfold flatSt at this ⊢
    rw [List.flatMap_cons, List.getElem?_append_right (show x.cells.length ≤ _ by show 6 ≤ _; omega)]
    rw [show (j + 1) * 6 + c - x.cells.length = j * 6 + c by show _ - 6 = _; omega]
    exact this
/-- The document's learner: its block x, its row of slots behind B. -/
structure RlAt (w : World) (B x : Nat) (xs : List StM) (eo : Option Addr) (cap : Nat) : Prop where
  blk : Blk w x 27 [.slice eo xs.length cap]
  row : w.ownsRow B 35 6 (.slice eo xs.length cap) xs.length (flatSt xs)
  ok : AllSt w xs
  few : xs.length ≤ 65536
theorem RlAt.below {w w' : World} {B x : Nat} {xs : List StM} {eo : Option Addr} {cap : Nat} (h : RlAt w B x xs eo cap) (hb : Below w.heap.size w w') : RlAt w' B x xs eo cap :=
  ⟨h.blk.below hb h.blk.lt, (Turns.of_below (F := fun _ => False) hb (Nat.le_refl _)).row h.row (fun _ _ h => h), fun y hy => (h.ok y hy).below hb, h.few⟩
theorem RlAt.held {w : World} {B x : Nat} {xs : List StM} {eo : Option Addr} {cap : Nat} (h : RlAt w B x xs eo cap) : HeldSt w eo xs := by
  refine ⟨h.ok, ?_⟩
  rcases h.row.2 with ⟨_, h0⟩ | ⟨g, c, cur, he, _, hg, _⟩
  · exact .inl (List.length_eq_zero_iff.1 h0)
  · cases he
    refine .inr ⟨g, 0, rfl, (Array.getElem?_eq_some_iff.1 hg).1, fun j hj c u hu => ?_⟩
    have := h.row.cells (g := g) rfl _ _ (flatSt_get xs j hj c u hu)
    simpa [Addr.add_lit] using this
theorem measWD {n k : Nat} (h : k + 1 ≤ n) (hw : wrap64 ((k : Int) + 1) = (k : Int) + 1) : n - (intOf (.int .i64 (wrap64 ((k : Int) + 1)))).toNat < n - (intOf (.int .i64 (k : Int))).toNat := by
  rw [hw]
  simp [intOf]
  omega
theorem meas1D {n k : Nat} (h : k + 1 ≤ n) : n - (intOf (.int .i64 ((k : Int) + 1))).toNat < n - (intOf (.int .i64 (k : Int))).toNat := by
  simp [intOf]
  omega
/-- How many slots there are from 0 on without a gap, of slots that rise. -/
def preR : Nat → List StM → Nat
  | _, [] => 0
  | k, x :: r => if x.n = (k : Int) then preR (k + 1) r + 1 else 0
theorem preR_step {xs : List StM} {k : Nat} (hk : k < xs.length) : preR k (xs.drop k) = if (xs.getD k default).n = (k : Int) then preR (k + 1) (xs.drop (k + 1)) + 1 else 0 := by
  rw [List.drop_eq_getElem_cons hk, st_getD hk]
  rfl
set_option maxRecDepth 100000 in
theorem RlAt.prefix {w : World} {B x : Nat} {xs : List StM} {eo : Option Addr} {cap : Nat} (h : RlAt w B x xs eo cap) : Calls Try.prog 27 #[.pointer (some ⟨x, 0, none⟩)] w fun e w' => e = .returned (.int .i64 (preR 0 xs : Int)) ∧ w' = w := by
  have c0 := h.blk.cell (i := 0) rfl
  obtain ⟨n, HN⟩ : ∃ n, Hid (xs.length = n) := ⟨_, hid rfl⟩
  rw [HN.out] at c0
  have HH := hid h.held
  have HF : Hid (n ≤ 65536) := by rw [← HN.out]; exact h.few
  obtain ⟨P, HP⟩ : ∃ P, Hid (preR 0 xs = P) := ⟨_, hid rfl⟩
  rw [HP.out]
  clear h
  go_enter Try.func27, Try.ntmps27
  go_wp2
  go_loop [3] (fun i => ∃ k : Nat, k ≤ n ∧ i = .int .i64 k ∧ Hid (k + preR k (xs.drop k) = P)) (fun i => n - (intOf i).toNat)
  case atStart => exact ⟨0, Nat.zero_le _, rfl, by rw [List.drop_zero, Nat.zero_add]; exact HP.out⟩
  case round =>
    obtain ⟨k, hk, rfl, HR⟩ := hrel
    by_cases hlt : k < n
    · have hlt' : (k : Int) < (n : Int) := by omega
      have HKX : Hid (k < xs.length) := by rw [HN.out]; exact hlt
      have HKM : Hid (k + 1 ≤ n) := (by omega : k + 1 ≤ n)
      have HPS := hid (preR_step HKX.out)
      have hwk : wrap64 ((k : Int) + 1) = (k : Int) + 1 := wrapS (by omega) (by have := HF.out; omega)
      obtain ⟨b, off, hao, _, d0, _⟩ := HH.out.cellsD HKX.out
      obtain ⟨sl, HSL⟩ : ∃ z, Hid ((xs.getD k default).n = z) := ⟨_, hid rfl⟩
      rw [HSL.out] at d0 HPS
      subst hao
      by_cases he : sl = (k : Int)
      · have HE : Hid (k + 1 + preR (k + 1) (xs.drop (k + 1)) = P) := by
          have h1 := HR.out
          rw [HPS.out, if_pos he] at h1
          exact (by omega : k + 1 + preR (k + 1) (xs.drop (k + 1)) = P)
        subst he
        clear HPS HR
        go_wp2
        go_round
        case rel => exact ⟨k + 1, HKM.out, by go_num, HE.out⟩
        case measure => first | exact measWD HKM.out hwk | exact meas1D HKM.out
      · have HE : Hid (P = k) := by
          have h1 := HR.out
          rw [HPS.out, if_neg he] at h1
          exact (by omega : P = k)
        have he2 : (sl == (k : Int)) = false := beq_eq_false_iff_ne.2 he
        clear HPS HR
        go_wp2
        go_ret
        exact ⟨by rw [HE.out]; first | rfl | simp, rfl⟩
    · have hlt' : ¬ (k : Int) < (n : Int) := by omega
      have HE : Hid (P = k) := by
        have h1 := HR.out
        rw [List.drop_eq_nil_of_le (by have := HN.out; omega)] at h1
        exact h1.symm
      go_wp2
      go_ret
      exact ⟨by rw [HE.out]; first | rfl | simp, rfl⟩
end Go.Proofs.Ytgghfmdciohinaa
/-
  pannierref18.Get: a slot's entry.
-/
namespace Go.Proofs.Ytgghfmdciohinaa
open Go.RowKit Go.Maps

def noopM : EnM := ⟨noopEn, none, 0⟩
/-- The first slot of that number. -/
def findR (xs : List StM) (s : Int) : Option StM := xs.find? (fun x => decide (x.n = s))
def NoneTo (xs : List StM) (s : Int) (k : Nat) : Prop := ∀ j (h : j < xs.length), j < k → xs[j].n ≠ s
theorem findR_hit {xs : List StM} {s : Int} {k : Nat} (hk : k < xs.length) (h : NoneTo xs s k) (he : xs[k].n = s) : findR xs s = some xs[k] := by
  unfold findR
  rw [List.find?_eq_some_iff_getElem]
  exact ⟨decide_eq_true he, k, hk, rfl, fun j hj => by simpa using h j (by omega) hj⟩
theorem findR_miss {xs : List StM} {s : Int} (h : NoneTo xs s xs.length) : findR xs s = none := by
  unfold findR
  rw [List.find?_eq_none]
  intro x hx
  obtain ⟨j, hj, rfl⟩ := List.mem_iff_getElem.1 hx
  simpa using h j hj hj
def GetR (w : World) (o : Option StM) (e : Ending) (w' : World) : Prop := e = .returned (.tuple #[((o.map (·.en)).getD noopM).val, .bool o.isSome]) ∧ Below w.heap.size w w'
set_option maxRecDepth 100000 in
set_option maxHeartbeats 1000000 in
theorem RlAt.get {w : World} {B x : Nat} {xs : List StM} {eo : Option Addr} {cap : Nat} (h : RlAt w B x xs eo cap) (s : Int) : Calls Try.prog 23 #[.pointer (some ⟨x, 0, none⟩), .int .i64 s] w (GetR w (findR xs s)) := by
  obtain ⟨W, hW⟩ : ∃ W, W = w.alloc (.cells #[.bool false, .string ⟨#[]⟩, .string ⟨#[]⟩, .int .i64 0, .slice none 0 0] 33) := ⟨_, rfl⟩
  have HB : Hid (Below w.heap.size w W) := by rw [hW]; exact (Below.refl _ _).alloc (Nat.le_refl _) _
  have HR : Hid (Blk W w.heap.size 33 [.bool false, .string ⟨#[]⟩, .string ⟨#[]⟩, .int .i64 0, .slice none 0 0]) := by rw [hW]; exact Blk.new w _ _
  have h1 := h.below HB.out
  have c0 := h1.blk.cell (i := 0) rfl
  obtain ⟨n, HN⟩ : ∃ n, Hid (xs.length = n) := ⟨_, hid rfl⟩
  rw [HN.out] at c0
  have HH := hid h1.held
  have HF : Hid (n ≤ 65536) := by rw [← HN.out]; exact h.few
  obtain ⟨pb, HP⟩ : ∃ q, Hid (q = w.heap.size) := ⟨_, hid rfl⟩
  rw [← HP.out] at HR
  have HW := hid hW
  clear h h1 hW
  go_enter Try.func23, Try.ntmps23
  go_wp2
  rw [← HW.out, ← HP.out]
  go_loop [6] (fun i => ∃ k : Nat, k ≤ n ∧ i = .int .i64 k ∧ Hid (NoneTo xs s k)) (fun i => n - (intOf i).toNat)
  case atStart => exact ⟨0, Nat.zero_le _, rfl, fun j _ hj => (by omega)⟩
  case round =>
    obtain ⟨k, hk, rfl, HRR⟩ := hrel
    have q0 := HR.out.frozen 0
    have q1 := HR.out.frozen 1
    have q2 := HR.out.frozen 2
    have q3 := HR.out.frozen 3
    have q4 := HR.out.frozen 4
    have r0 := HR.out.cell (i := 0) rfl
    have r1 := HR.out.cell (i := 1) rfl
    have r2 := HR.out.cell (i := 2) rfl
    have r3 := HR.out.cell (i := 3) rfl
    have r4 := HR.out.cell (i := 4) rfl
    by_cases hlt : k < n
    · have hlt' : (k : Int) < (n : Int) := by omega
      have HKX : Hid (k < xs.length) := by rw [HN.out]; exact hlt
      have HKM : Hid (k + 1 ≤ n) := (by omega : k + 1 ≤ n)
      have hwk : wrap64 ((k : Int) + 1) = (k : Int) + 1 := wrapS (by omega) (by have := HF.out; omega)
      obtain ⟨b, off, hao, _, d0, d1, d2, d3, d4, d5⟩ := HH.out.cellsD HKX.out
      rw [st_getD HKX.out] at d0 d1 d2 d3 d4 d5
      obtain ⟨Y, HY⟩ : ∃ y, Hid (xs[k]'HKX.out = y) := ⟨_, hid rfl⟩
      have HHIT : Hid (Y.n = s → findR xs s = some Y) := fun he => by
        have := findR_hit HKX.out HRR.out (by rw [HY.out]; exact he)
        rw [HY.out] at this
        exact this
      rw [HY.out] at d0 d1 d2 d3 d4 d5
      have HGO : Hid (Y.n ≠ s → NoneTo xs s (k + 1)) := fun hne j hj hjk => by
        by_cases e : j = k
        · subst e
          rw [HY.out]
          exact hne
        · exact HRR.out j hj (by omega)
      subst hao
      obtain ⟨sl, ⟨⟨np, tk, ct, ep, dp⟩, yo, yc⟩⟩ := Y
      simp only at d0 d1 d2 d3 d4 d5
      obtain ⟨XN, HXN⟩ : ∃ z, Hid (dp.length = z) := ⟨_, hid rfl⟩
      rw [HXN.out] at d5
      by_cases he : sl = s
      · have HE := hid (HHIT.out he)
        subst he
        obtain ⟨W3, hW3⟩ : ∃ V, V = st5 W pb (.bool np) (.string tk) (.string ct) (.int .i64 ep) (.slice yo XN yc) := ⟨_, rfl⟩
        have hk9 : Blk W3 pb 33 [.bool np, .string tk, .string ct, .int .i64 ep, .slice yo XN yc] := by rw [hW3]; exact st5_blk HR.out _ _ _ _ _
        have HBF : Hid (Below w.heap.size w W3) := by rw [hW3]; exact HB.out.trans ((st5_turns W pb _ _ _ _ _).below (fun i hi => by rw [hi, HP.out]; exact Nat.le_refl _) HB.out.size)
        have k0 := hk9.cell (i := 0) rfl
        have k1 := hk9.cell (i := 1) rfl
        have k2 := hk9.cell (i := 2) rfl
        have k3 := hk9.cell (i := 3) rfl
        have k4 := hk9.cell (i := 4) rfl
        clear hk9 HHIT HGO HRR
        go_wp2
        unfold st5 at hW3
        rw [← hW3]
        (try simp only [Exit.inBlock, Exit.then])
        refine bodyPost_ret (v := .tuple #[.agg #[.bool np, .string tk, .string ct, .int .i64 ep, .slice yo XN yc], .bool true]) ?_ rfl ⟨?_, HBF.out⟩
        · rw [results_cell_tmp rfl]
          go_simp
        · rw [HE.out]
          simp only [Option.map_some, Option.getD_some, Option.isSome_some, EnM.val]
          rw [HXN.out]
      · have HE := hid (HGO.out he)
        have he2 : (sl == s) = false := beq_eq_false_iff_ne.2 he
        clear HHIT HGO HRR
        go_wp2
        go_round
        case rel => exact ⟨k + 1, HKM.out, by go_num, HE.out⟩
        case measure => first | exact measWD HKM.out hwk | exact meas1D HKM.out
    · have hlt' : ¬ (k : Int) < (n : Int) := by omega
      have HE : Hid (findR xs s = none) := findR_miss (fun j hj _ => HRR.out j hj (by have := HN.out; omega))
      obtain ⟨W3, hW3⟩ : ∃ V, V = st5 W pb (.bool true) (.string ⟨#[]⟩) (.string ⟨#[]⟩) (.int .i64 0) (.slice none 0 0) := ⟨_, rfl⟩
      have hk9 : Blk W3 pb 33 [.bool true, .string ⟨#[]⟩, .string ⟨#[]⟩, .int .i64 0, .slice none 0 0] := by rw [hW3]; exact st5_blk HR.out _ _ _ _ _
      have HBF : Hid (Below w.heap.size w W3) := by rw [hW3]; exact HB.out.trans ((st5_turns W pb _ _ _ _ _).below (fun i hi => by rw [hi, HP.out]; exact Nat.le_refl _) HB.out.size)
      have k0 := hk9.cell (i := 0) rfl
      have k1 := hk9.cell (i := 1) rfl
      have k2 := hk9.cell (i := 2) rfl
      have k3 := hk9.cell (i := 3) rfl
      have k4 := hk9.cell (i := 4) rfl
      clear hk9
      go_wp2
      unfold st5 at hW3
      rw [← hW3]
      (try simp only [Exit.inBlock, Exit.then])
      refine bodyPost_ret (v := .tuple #[.agg #[.bool true, .string ⟨#[]⟩, .string ⟨#[]⟩, .int .i64 0, .slice none 0 0], .bool false]) ?_ rfl ⟨?_, HBF.out⟩
      · rw [results_cell_tmp rfl]
        go_simp
      · rw [HE.out]
        rfl
end Go.Proofs.Ytgghfmdciohinaa
