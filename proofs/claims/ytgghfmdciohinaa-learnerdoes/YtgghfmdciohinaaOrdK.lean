/-
  Slots appended in a drawn region; the document's learner with what it tells; its Choose where it makes nothing.
-/
import Derived.Test.YtgghfmdciohinaaLdF
import Derived.Deep.RegionHeld3
import Derived.Deep.AppendLies
import Derived.Deep.RegionLaw
import Derived.Test.YtgghfmdciohinaaBase
namespace Go.Proofs.Ytgghfmdciohinaa
open Go.RowKit Go.Maps

theorem flatS6_len (xs : List StM) : (flatSt xs).length = xs.length * 6 := by
  induction xs with
  | nil => rfl
  | cons x r ih => unfold flatSt at ih ⊢; rw [List.flatMap_cons, List.length_append, ih, List.length_cons]; show 6 + _ = _; omega
/-- The cells of a row of slots. -/
def HeldS6 (w : World) (ao : Option Addr) (xs : List StM) : Prop :=
  xs = [] ∨ ∃ b off, ao = some ⟨b, off, none⟩ ∧ b < w.heap.size ∧ ∀ j (hj : j < xs.length) c u, xs[j].cells[c]? = some u → w.cell? ⟨b, off + j * 6 + c, none⟩ = some u
theorem HeldS6.below {w w' : World} {ao : Option Addr} {xs : List StM} (h : HeldS6 w ao xs) (hb : Below w.heap.size w w') : HeldS6 w' ao xs := by
  rcases h with h0 | ⟨b, off, h1, h2, h3⟩
  · exact .inl h0
  · exact .inr ⟨b, off, h1, Nat.lt_of_lt_of_le h2 hb.size, fun j hj c u hu => (hb.cell (p := ⟨b, off + j * 6 + c, none⟩) h2).trans (h3 j hj c u hu)⟩
theorem HeldSt.s6 {w : World} {ao : Option Addr} {xs : List StM} (h : HeldSt w ao xs) : HeldS6 w ao xs := h.2
theorem HeldS6.take {w : World} {ao : Option Addr} {xs : List StM} (h : HeldS6 w ao xs) (k : Nat) : HeldS6 w ao (xs.take k) := by
  rcases h with h0 | ⟨b, off, h1, h2, h3⟩
  · left; rw [h0]; simp
  · refine .inr ⟨b, off, h1, h2, fun j hj c u hu => ?_⟩
    rw [List.length_take] at hj
    exact h3 j (by omega) c u (by rw [List.getElem_take] at hu; exact hu)
theorem HeldS6.drop {w : World} {b off : Nat} {xs : List StM} (h : HeldS6 w (some ⟨b, off, none⟩) xs) (k : Nat) : HeldS6 w (some ⟨b, off + k * 6, none⟩) (xs.drop k) := by
  rcases h with h0 | ⟨b', off', h1, h2, h3⟩
  · left; rw [h0]; simp
  · cases h1
    refine .inr ⟨b, off + k * 6, rfl, h2, fun j hj c u hu => ?_⟩
    rw [List.length_drop] at hj
    have := h3 (k + j) (by omega) c u (by rw [List.getElem_drop] at hu; exact hu)
    rw [show off + (k + j) * 6 + c = off + k * 6 + j * 6 + c by rw [Nat.add_mul]; omega] at this
    exact this
theorem Try.infoS6 : (Try.prog.info? 35).map (fun i => (i.zero, i.size, i.bytes)) = some (some (.agg #[.int .i64 0, .bool false, .string ⟨#[]⟩, .string ⟨#[]⟩, .int .i64 0, .slice none 0 0]), 6, 80) := by kernel_rfl
theorem s6_one (x : StM) : ∀ u ∈ x.cells, u.oneCell' = true := by
  intro u hu
  simp [StM.cells] at hu
  rcases hu with rfl | rfl | rfl | rfl | rfl | rfl <;> rfl
theorem own_formS6 {w : World} {B e n : Nat} {v : Value} {xs : List Value} {k : Nat} (h : w.ownsRow B e k v n xs) :
    ∃ eo cap, v = .slice eo n cap ∧ n ≤ cap ∧ (0 < n → ∃ g, eo = some ⟨g, 0, none⟩ ∧ B ≤ g ∧ g < w.heap.size ∧ ∀ j u, xs[j]? = some u → w.cell? ⟨g, j, none⟩ = some u) := by
  rcases h.2 with ⟨rfl, rfl⟩ | ⟨g, cap, cur, rfl, hbg, hg, hnc, _⟩
  · exact ⟨none, 0, rfl, Nat.le_refl _, fun h0 => by omega⟩
  · refine ⟨some ⟨g, 0, none⟩, cap, rfl, hnc, fun _ => ⟨g, rfl, hbg, (Array.getElem?_eq_some_iff.1 hg).1, fun j u hu => ?_⟩⟩
    have := h.cells (g := g) rfl j u hu
    simpa [Addr.add_lit] using this
theorem heldS6_of_own {w : World} {B : Nat} {v : Value} {xs : List StM} {n : Nat} (hn : xs.length = n) (h : w.ownsRow B 35 6 v n (flatSt xs)) : ∃ ao cap, v = .slice ao n cap ∧ n ≤ cap ∧ HeldS6 w ao xs := by
  subst hn
  obtain ⟨eo, cap, rfl, hnc, hc⟩ := own_formS6 h
  refine ⟨eo, cap, rfl, hnc, ?_⟩
  by_cases h0 : xs = []
  · exact .inl h0
  · obtain ⟨g, rfl, _, hg, hcell⟩ := hc (List.length_pos_iff.2 h0)
    refine .inr ⟨g, 0, rfl, hg, fun j hj c u hu => ?_⟩
    rw [Nat.zero_add]
    exact hcell _ _ (flatSt_get xs j hj c u hu)
theorem HeldS6.news {w : World} {ad : Addr} {xs : List StM} (h : HeldS6 w (some ad) xs) : ∀ j u, (flatSt xs)[j]? = some u → w.cell? (ad.add j) = some u := by
  intro i u hu
  have hlt := (List.getElem?_eq_some_iff.1 hu).1
  rw [flatS6_len] at hlt
  rcases h with h0 | ⟨b, off, e, _, h3⟩
  · subst h0
    simp at hlt
  · cases e
    have hj : i / 6 < xs.length := by omega
    have hc : xs[i / 6].cells[i % 6]? = some u := by
      have hlen : i % 6 < xs[i / 6].cells.length := by show _ < 6; omega
      have h4 := flatSt_get xs (i / 6) hj (i % 6) _ (List.getElem?_eq_getElem hlen)
      rw [show i / 6 * 6 + i % 6 = i by omega] at h4
      rw [hu] at h4
      rw [List.getElem?_eq_getElem hlen, h4]
    have h5 := h3 (i / 6) hj (i % 6) u hc
    rw [Addr.add_lit]
    rw [show off + i / 6 * 6 + i % 6 = off + i by omega] at h5
    exact h5
theorem flatS6_one (xs : List StM) : ∀ u ∈ flatSt xs, u.oneCell' = true := by
  intro u hu
  obtain ⟨x, _, hx⟩ := List.mem_flatMap.1 hu
  exact s6_one x u hx
/-- append of orders to a row of the call's own, in a region that draws its order. -/
theorem step_append_s6 {ops : Array Oper} {o : Oper} {a : Act} {w : World} {K : Act → World → Prop} {Q : Exit → Act → World → Prop} {E : Prop} (hgd : o.guard = none) (s x : Operand)
    (ho : o.op = .call { callee := .builtin .append, args := #[s, x], argTypes := #[22, 22] })
    (base : Nat) (v : Value) (n : Nat) (ds : List StM) (hn : ds.length = n) (hs : a.eval s = v) (hown : w.ownsRow base 35 6 v n (flatSt ds))
    (ao : Option Addr) (m c : Nat) (xs : List StM) (hm : xs.length = m) (hx : a.eval x = .slice ao m c) (hh : HeldS6 w ao xs) (hsum : n + m ≤ 100000000) (hbase : base ≤ w.heap.size)
    (h : ∀ bo cp w', w'.ownsRow base 35 6 (.slice bo (n + m) cp) (n + m) (flatSt (ds ++ xs)) → Below base w w' → w.grownBy w' v.ownBlock → K (a.put o.dst (.slice bo (n + m) cp)) w') :
    if Region.wanted o (yielded ops a.tmps) = true then Oper.wp Try.prog o a w K Q else E := by
  have hw : Region.wanted o (yielded ops a.tmps) = true := by simp [Region.wanted, hgd]
  rw [if_pos hw]
  obtain ⟨iI, hj, hy0, hy1, hy2⟩ := info_parts Try.infoS6
  cases ao with
  | none =>
    have hx0 : xs = [] := by
      rcases hh with h0 | ⟨b, off, e, _⟩
      · exact h0
      · cases e
    subst hx0
    obtain rfl : 0 = m := hm
    have hr := run_append_noneI (P := Try.prog) w base 22 o.type 35 iI 6 Try.underlying22 hj v n c _ hown
    rw [List.append_nil] at h
    simp only [Nat.add_zero] at h
    obtain ⟨eo, cap, hv, _, _⟩ := heldS6_of_own hn hown
    unfold Oper.wp execOp
    simp only [ho, resolve, invoke, builtin, Sem.run_bind, Sem.run_pure, Result.andThen_ok, List.map_toArray, List.map_cons, List.map_nil, hs, hx, hr]
    have := h eo cap w (by rw [← hv]; exact hown) (Below.refl _ _) (World.grownBy.refl _ _)
    rw [← hv] at this
    exact this
  | some ad =>
    obtain ⟨v', w', hr, hown', hgrow, _, _⟩ := run_append_own_at (P := Try.prog) w base 22 o.type 35 iI _ 6 80 Try.underlying22 hj hy0 hy1 hy2 rfl (by decide) v n (flatSt ds) hown ad m c (flatSt xs) (by rw [flatS6_len, hm]) hh.news (flatS6_one xs) (by unfold maxLen; omega) (by omega) hbase
    unfold Oper.wp execOp
    simp only [ho, resolve, invoke, builtin, Sem.run_bind, Sem.run_pure, Result.andThen_ok, List.map_toArray, List.map_cons, List.map_nil, hs, hx, hr]
    rw [show flatSt ds ++ flatSt xs = flatSt (ds ++ xs) by simp [flatSt]] at hown'
    have hb : Below base w w' := (Below.refl _ _).grown hgrow hbase (fun k hk => (hown.lt k hk).1)
    obtain ⟨bo, cp, rfl, _, _⟩ := heldS6_of_own (by rw [List.length_append, hn, hm]) hown'
    exact h bo cp w' hown' hb hgrow
theorem step_copy_s6 {ops : Array Oper} {o : Oper} {a : Act} {w : World} {K : Act → World → Prop} {Q : Exit → Act → World → Prop} {E : Prop} (hgd : o.guard = none) (s x : Operand)
    (ho : o.op = .call { callee := .builtin .append, args := #[s, x], argTypes := #[22, 22] })
    (base : Nat) (g : Nat) (hs : a.eval s = .slice (some ⟨g, 0, none⟩) 0 0) (hown : w.ownsRow base 35 6 (.slice (some ⟨g, 0, none⟩) 0 0) 0 (flatSt []))
    (ao : Option Addr) (m c : Nat) (xs : List StM) (hm : xs.length = m) (hx : a.eval x = .slice ao m c) (hh : HeldS6 w ao xs) (hsum : m ≤ 100000000) (hbase : base ≤ w.heap.size)
    (h : ∀ bo cp w', w'.ownsRow base 35 6 (.slice bo m cp) m (flatSt xs) → Below base w w' → w.grownBy w' (some g) → K (a.put o.dst (.slice bo m cp)) w') :
    if Region.wanted o (yielded ops a.tmps) = true then Oper.wp Try.prog o a w K Q else E := by
  refine step_append_s6 hgd s x ho base _ 0 [] rfl hs hown ao m c xs hm hx hh (by omega) hbase ?_
  intro bo cp w' h1 h2 h3
  rw [Nat.zero_add] at h1 ⊢
  exact h bo cp w' h1 h2 h3
theorem ownS6_made (w : World) (B : Nat) (hB : B ≤ w.heap.size) : (w.alloc (.cells #[] 35)).ownsRow B 35 6 (.slice (some ⟨w.heap.size, 0, none⟩) 0 0) 0 (flatSt []) :=
  ⟨rfl, .inr ⟨w.heap.size, 0, #[], rfl, hB, World.alloc_heap_new w _, Nat.le_refl _, Nat.zero_le _, rfl, rfl⟩⟩
theorem ownS6_made2 (w : World) (o : Obj) (B : Nat) (hB : B ≤ w.heap.size) : ((w.alloc o).alloc (.cells #[] 35)).ownsRow B 35 6 (.slice (some ⟨w.heap.size + 1, 0, none⟩) 0 0) 0 (flatSt []) := by
  have := ownS6_made (w.alloc o) B (by simp; omega)
  rw [World.size_alloc] at this
  exact this
theorem held_newS6 (V : World) (x : StM) : HeldS6 (V.alloc (.cells x.cells.toArray 35)) (some ⟨V.heap.size, 0, none⟩) [x] := .inr ⟨V.heap.size, 0, rfl, by simp, fun j hj c u hu => by
  have hj0 : j = 0 := by simp at hj; exact hj
  subst hj0
  have h1 := (Blk.new V 35 x.cells).cell hu
  simpa using h1⟩
theorem held_grownS6 {w w' : World} {b g : Nat} {xs : List StM} (h : HeldS6 w (some ⟨b, 0, none⟩) xs) (hg : w.grownBy w' (some g)) (hne : b ≠ g) : HeldS6 w' (some ⟨b, 0, none⟩) xs := by
  rcases h with h0 | ⟨b', off, e, h2, h3⟩
  · exact .inl h0
  · cases e
    refine .inr ⟨b, 0, rfl, Nat.lt_of_lt_of_le h2 hg.size, fun j hj c u hu => ?_⟩
    have h4 := h3 j hj c u hu
    have h5 := hg.block b h2 (by simpa using hne)
    unfold World.cell? at h4 ⊢
    rw [h5]
    exact h4

theorem ScL.grown {W V U : World} (h : ScL W V) (hb : Below W.heap.size V U) : ScL W U := ⟨h.out.trans hb⟩
theorem ScL.size {W V : World} (h : ScL W V) : W.heap.size ≤ V.heap.size := h.out.size
/-- The document's learner, and what it tells: the cuts of its entries lie ahead of B. -/
structure RlIn (B : Nat) (w : World) (x : Nat) (g : Lr) (xs : List StM) (eo : Option Addr) (cap : Nat) : Prop where
  rl : RlAt w B x xs eo cap
  twin : Twin xs g
  low : ∀ y ∈ xs, ∀ b off, y.en.ao = some ⟨b, off, none⟩ → y.en.e.cut ≠ [] → b < B
  bx : B ≤ x
  gok : LrOk g
theorem enOk_turned {F : Nat → Prop} {w w' : World} {x : EnM} (h : EnOk w x) (ht : Turns F w w') (ho : ∀ b off, x.ao = some ⟨b, off, none⟩ → x.e.cut ≠ [] → ¬ F b) : EnOk w' x :=
  ⟨⟨h.cut.held.turned ht ho, h.cut.room, h.cut.few⟩, h.ie, h.ht, h.hc⟩
theorem RlIn.turned {B : Nat} {F : Nat → Prop} {w w' : World} {x : Nat} {g : Lr} {xs : List StM} {eo : Option Addr} {cap : Nat} (h : RlIn B w x g xs eo cap) (ht : Turns F w w') (hF : ∀ i, F i → B ≤ i) (hx : ¬ F x) (hr : ∀ k, (Value.slice eo xs.length cap).ownBlock = some k → ¬ F k) : RlIn B w' x g xs eo cap :=
  ⟨⟨ht.blk h.rl.blk hx, ht.row h.rl.row hr, fun y hy => ⟨enOk_turned (h.rl.ok y hy).en ht (fun b off e hne hf => by have := h.low y hy b off e hne; have := hF b hf; omega), (h.rl.ok y hy).is⟩, h.rl.few⟩, h.twin, h.low, h.bx, h.gok⟩
theorem RlIn.below {B : Nat} {w w' : World} {x : Nat} {g : Lr} {xs : List StM} {eo : Option Addr} {cap : Nat} (h : RlIn B w x g xs eo cap) (hb : Below w.heap.size w w') : RlIn B w' x g xs eo cap := ⟨h.rl.below hb, h.twin, h.low, h.bx, h.gok⟩
/-- What the document's Choose leaves. -/
def RChP (B : Nat) (w : World) (x : Nat) (g : Lr) (eo : Option Addr) (s : Int) (e : En) (E : Ending) (w' : World) : Prop := E = .returned (.int .i64 (chooseC g s e)) ∧ ∃ xs' eo' cap', RlIn B w' x (chooseL g s e) xs' eo' cap' ∧ Turns (fun i => i = x) w w' ∧ (eo' = eo ∨ ∃ a, eo' = some a ∧ w.heap.size ≤ a.block)
theorem rChP_no {B : Nat} {w w' : World} {x : Nat} {g : Lr} {xs : List StM} {eo : Option Addr} {cap : Nat} {s c : Int} {e : En} (h : RlIn B w x g xs eo cap) (hb : Below w.heap.size w w') (hc : chooseC g s e = c) (hne : c ≠ 0) : RChP B w x g eo s e (.returned (.int .i64 c)) w' := by
  refine ⟨by rw [hc], xs, eo, cap, ?_, Turns.of_below hb (Nat.le_refl _), .inl rfl⟩
  unfold chooseL
  rw [if_neg (by rw [hc]; exact hne)]
  exact h.below hb
set_option maxRecDepth 1000000 in
set_option maxHeartbeats 2000000 in
theorem RlIn.choose_arg {B : Nat} {w : World} {x : Nat} {g : Lr} {xs : List StM} {eo : Option Addr} {cap : Nat} (h : RlIn B w x g xs eo cap) (s : Int) (y : EnM) (hy : EnOk w y) (hr : ¬ (0 ≤ s ∧ s ≤ 2147483647 ∧ RightEn y.e = true)) : Calls Try.prog 8 #[.pointer (some ⟨x, 0, none⟩), .int .i64 s, y.val] w (RChP B w x g eo s y.e) := by
  have HC : Hid (chooseC g s y.e = 1) := by show _ = _; unfold chooseC; rw [if_neg hr]
  have H := hid h
  obtain ⟨W, hW⟩ : ∃ W, W = w.alloc (.cells y.cells.toArray 33) := ⟨_, rfl⟩
  have HB : Hid (Below w.heap.size w W) := by rw [hW]; exact (Below.refl _ _).alloc (Nat.le_refl _) _
  have HK : Hid (Blk W w.heap.size 33 y.cells) := by rw [hW]; exact Blk.new w _ _
  have HW := hid hW
  have HMAY := hid (rentry_anyQD W y (hy.below HB.out))
  obtain ⟨E, HE⟩ : ∃ E, Hid (y.e = E) := ⟨_, hid rfl⟩
  obtain ⟨XN, HXN⟩ : ∃ m, Hid (y.e.cut.length = m) := ⟨_, hid rfl⟩
  rw [HE.out] at HMAY hr HC ⊢
  obtain ⟨⟨np, tk, ct, ep, dp⟩, ao1, cap1⟩ := y
  simp only [EnM.val, EnM.cells] at HW HK HMAY HXN ⊢
  rw [HXN.out] at HW HK HMAY ⊢
  have c0 := HK.out.cell (i := 0) rfl
  have c1 := HK.out.cell (i := 1) rfl
  have c2 := HK.out.cell (i := 2) rfl
  have c3 := HK.out.cell (i := 3) rfl
  have c4 := HK.out.cell (i := 4) rfl
  obtain ⟨pb, hpb⟩ : ∃ q, q = w.heap.size := ⟨_, rfl⟩
  rw [← hpb] at c0 c1 c2 c3 c4
  have HPB := hid hpb
  clear hpb hW h hy
  by_cases h0 : s < 0
  · clear hr c0 c1 c2 c3 c4
    go_enter Try.func8, Try.ntmps8
    go_wp2
    rw [← HW.out]
    go_ret
    exact rChP_no H.out HB.out HC.out (by decide)
  by_cases h1 : 2147483647 < s
  · clear hr c0 c1 c2 c3 c4
    go_enter Try.func8, Try.ntmps8
    go_wp2
    rw [← HW.out]
    go_ret
    exact rChP_no H.out HB.out HC.out (by decide)
  have HRF : Hid (RightEn E = false) := by
    cases hre : RightEn E with
    | false => exact rfl
    | true => exact absurd ⟨by omega, by omega, hre⟩ hr
  rw [HRF.out] at HMAY
  clear hr
  go_enter Try.func8, Try.ntmps8
  go_wp2_with fail
  rw [← HW.out, ← HPB.out]
  refine HMAY.out.mono ?_
  rintro e w2 ⟨rfl, hb2⟩
  have HB2 := hid (bt' HB.out hb2)
  clear hb2 c0 c1 c2 c3 c4
  go_wp2
  go_ret
  exact rChP_no H.out HB2.out HC.out (by decide)
end Go.Proofs.Ytgghfmdciohinaa
/-
  A region whose last operation stores into what it reads: all that the store waits for may be taken first, though the store does not keep it. No function of the program is named here.
-/
namespace Go.Proofs.Ytgghfmdciohinaa

section
variable {P : Program} {ops : Array Oper} {Q : Exit → Act → World → Prop} {md : Region.Mode} {S : World → Prop} {z : Nat}

/-- Whatever order is picked: S holds behind every operation but number z. -/
def wpAnyK (P : Program) (md : Region.Mode) (ops : Array Oper) (Q : Exit → Act → World → Prop) (S : World → Prop) (z : Nat) : Nat → Array Bool → Act → World → Prop
  | 0, listed, a, w => Region.ready md ops listed = [] ∧ Q .normal a w
  | fuel + 1, listed, a, w =>
    (Region.ready md ops listed = [] → Q .normal a w) ∧
    ∀ i ∈ Region.ready md ops listed, wpOp P ops Q i (fun a' w' => (i = z ∨ S w') ∧ wpAnyK P md ops Q S z fuel (listed.setIfInBounds i true) a' w') a w
theorem wpAny_of_K : ∀ (fuel : Nat) (listed : Array Bool) (a : Act) (w : World), wpAnyK P md ops Q S z fuel listed a w → wpAny P md ops Q fuel listed a w
  | 0, _, _, _, h => h
  | fuel + 1, _, _, _, h => ⟨h.1, fun i hi => wpOp_mono (fun a' w' h' => wpAny_of_K fuel _ a' w' h'.2) (h.2 i hi)⟩
/-- What has come up: all that it waits for has come up, too. -/
def ClosedK (md : Region.Mode) (ops : Array Oper) (listed : Array Bool) : Prop := ∀ j o, ops[j]? = some o → listed.getD j true = true → ∀ e ∈ o.after, Region.binds md e = true → listed.getD e.on false = true
theorem closedK_step {listed : Array Bool} (h : ClosedK md ops listed) {j : Nat} (hj : j ∈ Region.ready md ops listed) : ClosedK md ops (listed.setIfInBounds j true) := by
  intro k o hk hl e he hb
  by_cases hjk : j = k
  · subst hjk
    obtain ⟨_, o', ho, hall⟩ := mem_ready.1 hj
    rw [hk] at ho
    cases ho
    exact getD_set_true (hall e he hb)
  · rw [getD_set_ne true hjk] at hl
    exact getD_set_true (h k o hk hl e he hb)
def closedKB (md : Region.Mode) (ops : Array Oper) (listed : Array Bool) : Bool := (List.range ops.size).all fun j => !listed.getD j true || match ops[j]? with
  | some o => o.after.all fun e => !Region.binds md e || listed.getD e.on false
  | none => true
theorem closedKB_spec {listed : Array Bool} (h : closedKB md ops listed = true) : ClosedK md ops listed := by
  intro j o hj hl e he hb
  unfold closedKB at h
  rw [List.all_eq_true] at h
  have h1 := h j (List.mem_range.2 (Array.getElem?_eq_some_iff.1 hj).1)
  rw [hl, hj] at h1
  simp only [Bool.not_true, Bool.false_or, Array.all_eq_true_iff_forall_mem, Bool.or_eq_true, Bool.not_eq_true'] at h1
  rcases h1 e he with h2 | h2
  · rw [hb] at h2; cases h2
  · exact h2
/-- Each waits for the next one. -/
def chainK (md : Region.Mode) (ops : Array Oper) : List Nat → Bool
  | x :: y :: r => (match ops[x]? with
    | some o => o.after.any fun e => Region.binds md e && e.on == y
    | none => false) && chainK md ops (y :: r)
  | _ => true
theorem chainK_one {listed : Array Bool} (hc : ClosedK md ops listed) (x i : Nat) (h : (match ops[x]? with
    | some o => o.after.any fun e => Region.binds md e && e.on == i
    | none => false) = true) (hi : listed.getD i true = false) : x ∉ Region.ready md ops listed ∧ listed.getD x true = false := by
  cases ho : ops[x]? with
  | none => rw [ho] at h; cases h
  | some o =>
    rw [ho] at h
    obtain ⟨e, he, hb⟩ := Array.any_eq_true'.1 h
    simp only [Bool.and_eq_true, beq_iff_eq] at hb
    have hne : ¬ listed.getD e.on false = true := fun hl => by
      rw [hb.2] at hl
      have : i < listed.size := by
        rcases Nat.lt_or_ge i listed.size with h' | h'
        · exact h'
        · simp [Array.getElem?_eq_none h'] at hl
      simp [this] at hi hl
      rw [hi] at hl
      cases hl
    refine ⟨fun hr => ?_, ?_⟩
    · obtain ⟨_, o', ho', hall⟩ := mem_ready.1 hr
      rw [ho] at ho'
      cases ho'
      exact hne (hall e he hb.1)
    · cases hl : listed.getD x true with
      | false => rfl
      | true => exact absurd (hc x o ho hl e he hb.1) hne
theorem chainK_unlisted {listed : Array Bool} (hc : ClosedK md ops listed) : ∀ (c : List Nat) (x i : Nat), chainK md ops (x :: (c ++ [i])) = true → listed.getD i true = false → x ∉ Region.ready md ops listed ∧ listed.getD x true = false
  | [], x, i, h, hi => by
    simp only [List.nil_append, chainK, Bool.and_true] at h
    exact chainK_one hc x i h hi
  | y :: c, x, i, h, hi => by
    have h' : (match ops[x]? with
      | some o => o.after.any fun e => Region.binds md e && e.on == y
      | none => false) = true ∧ chainK md ops (y :: (c ++ [i])) = true := by
      have : chainK md ops (x :: (y :: (c ++ [i]))) = true := h
      unfold chainK at this
      simpa only [Bool.and_eq_true] using this
    obtain ⟨h1, h2⟩ := h'
    exact chainK_one hc x y h1 (chainK_unlisted hc c y i h2 hi).2
theorem wpAnyK_first {i : Nat} {oi : Oper} {v : Value} (hi : ops[i]? = some oi) (hsel : ∀ (j : Nat) (o : Oper) cs b, ops[j]? = some o → o.op ≠ .select cs b)
    (hQ : ∀ c a w, Q (.panic c) (a.put oi.dst v) w → Q (.panic c) a w) (c : List Nat) (hch : chainK md ops (z :: (c ++ [i])) = true) :
    ∀ (fuel : Nat) (listed : Array Bool) (a : Act) (w : World), ClosedK md ops listed →
      (∀ j oj, ops[j]? = some oj → j ≠ i → listed.getD j true = false → (∀ e ∈ oj.after, Region.binds md e = true → e.on ≠ i) → oi.apart ops oj = true) →
      i ∈ Region.ready md ops listed → YieldsIf P ops S oi v a → S w →
      wpAnyK P md ops Q S z fuel (listed.setIfInBounds i true) (a.put oi.dst v) w → wpAnyK P md ops Q S z (fuel + 1) listed a w := by
  intro fuel
  induction fuel with
  | zero =>
    intro listed a w _ _ hr hy hS H
    refine ⟨fun h => (by rw [h] at hr; cases hr), fun j hj => ?_⟩
    by_cases hji : j = i
    · subst hji; exact hy.wpOp hi hS ⟨.inr hS, H⟩
    · have := ready_mono hj hji
      rw [H.1] at this
      cases this
  | succ fuel ih =>
    intro listed a w hcl hfree hr hy hS H
    refine ⟨fun h => (by rw [h] at hr; cases hr), fun j hj => ?_⟩
    by_cases hji : j = i
    · subst hji; exact hy.wpOp hi hS ⟨.inr hS, H⟩
    · have h1 := H.2 j (ready_mono hj hji)
      have hjz : j ≠ z := fun e => (chainK_unlisted hcl c z i hch (mem_ready.1 hr).1).1 (e ▸ hj)
      obtain ⟨hjun, oj, hoj, hall⟩ := mem_ready.1 hj
      have hnot : ∀ e ∈ oj.after, Region.binds md e = true → e.on ≠ i := fun e he hb heq => by
        have h1 := hall e he hb
        have h0 := (mem_ready.1 hr).1
        rw [heq] at h1
        rcases Nat.lt_or_ge i listed.size with h' | h'
        · simp [h'] at h0 h1; rw [h0] at h1; cases h1
        · simp [Array.getElem?_eq_none h'] at h1
      have h2 := wpOp_putIf hoj (hfree j oj hoj hji hjun hnot) (fun cs b => hsel i oi cs b hi) (fun cs b => hsel j oj cs b hoj) hQ hy h1
      have hfree' : ∀ k ok, ops[k]? = some ok → k ≠ i → (listed.setIfInBounds j true).getD k true = false →
          (∀ e ∈ ok.after, Region.binds md e = true → e.on ≠ i) → oi.apart ops ok = true := fun k ok hk hki hun hno => by
        refine hfree k ok hk hki ?_ hno
        by_cases hjk : j = k
        · subst hjk; exact hjun
        · rw [getD_set_ne true hjk] at hun; exact hun
      refine wpOp_mono (fun a' w' h3 => ?_) h2
      have hSw : S w' := h3.2.1.resolve_left hjz
      refine ⟨.inr hSw, ih (listed.setIfInBounds j true) a' w' (closedK_step hcl hj) hfree' (ready_mono hr (Ne.symm hji)) h3.1 hSw ?_⟩
      rw [Array.setIfInBounds_comm _ _ hji]
      exact h3.2.2
theorem wpAnyK_take {i : Nat} {oi : Oper} {v : Value} {fuel : Nat} {listed : Array Bool} {a : Act} {w : World} (c : List Nat) (hi : ops[i]? = some oi)
    (hs : Region.noSelect ops = true) (hf : Region.free md ops listed i = true) (hr : (Region.ready md ops listed).contains i = true) (hcl : closedKB md ops listed = true) (hch : chainK md ops (z :: (c ++ [i])) = true)
    (hQ : ∀ c a w, Q (.panic c) (a.put oi.dst v) w → Q (.panic c) a w) (hy : YieldsIf P ops S oi v a) (hS : S w)
    (h : wpAnyK P md ops Q S z fuel (listed.setIfInBounds i true) (a.put oi.dst v) w) : wpAnyK P md ops Q S z (fuel + 1) listed a w :=
  wpAnyK_first hi (Region.noSelect_spec hs) hQ c hch fuel listed a w (closedKB_spec hcl) (Region.free_spec hi hf) (by simpa using hr) hy hS h
theorem wpAnyK_done {listed : Array Bool} {a : Act} {w : World} (hr : Region.ready md ops listed = []) (h : Q .normal a w) : ∀ fuel, wpAnyK P md ops Q S z fuel listed a w
  | 0 => ⟨hr, h⟩
  | _ + 1 => ⟨fun _ => h, by rw [hr]; simp⟩
def AllReadyK (P : Program) (md : Region.Mode) (ops : Array Oper) (Q : Exit → Act → World → Prop) (S : World → Prop) (z fuel : Nat) (listed : Array Bool) (a : Act) (w : World) (rs : List Nat) : Prop :=
  ∀ i ∈ rs, wpOp P ops Q i (fun a' w' => (i = z ∨ S w') ∧ wpAnyK P md ops Q S z fuel (listed.setIfInBounds i true) a' w') a w
theorem AllReadyK.nil {fuel : Nat} {listed : Array Bool} {a : Act} {w : World} : AllReadyK P md ops Q S z fuel listed a w [] := fun _ h => by cases h
theorem AllReadyK.cons {fuel : Nat} {listed : Array Bool} {a : Act} {w : World} {i : Nat} {o : Oper} {rs : List Nat} (ho : ops[i]? = some o)
    (h : ∀ K' : Act → World → Prop, Shut (∀ a w, (i = z ∨ S w) → (S w ∨ i = z → wpAnyK P md ops Q S z fuel (listed.setIfInBounds i true) a w) → K' a w) → if Region.wanted o (yielded ops a.tmps) = true then Oper.wp P o a w K' Q else K' (a.put o.dst undef) w)
    (hs : AllReadyK P md ops Q S z fuel listed a w rs) : AllReadyK P md ops Q S z fuel listed a w (i :: rs) := fun j hj => by
  rcases List.mem_cons.1 hj with rfl | hj
  · exact wpOp_step ho (fun K' hK => h K' (fun a w hS hW => hK a w ⟨hS, hW hS.symm⟩))
  · exact hs j hj
theorem wpAnyK_ready {rs : List Nat} {fuel : Nat} {listed : Array Bool} {a : Act} {w : World} (hr : Region.ready md ops listed = rs) (hne : rs ≠ [])
    (h : AllReadyK P md ops Q S z fuel listed a w rs) : wpAnyK P md ops Q S z (fuel + 1) listed a w := ⟨fun h0 => absurd (hr ▸ h0) hne, hr ▸ h⟩
theorem wp_region_K {id : Nat} {a : Act} {w : World} (z : Nat) (S : World → Prop) (hm : P.follows .mixedOrders = true) (hS : S w.drew)
    (h : S w.drew → wpAnyK P .any ops Q S z ops.size (Array.replicate ops.size false) a w.drew) : (Code.region id ops true).wp P Q a w :=
  wp_region_any hm (wpAny_of_K _ _ _ _ (h hS))
end
end Go.Proofs.Ytgghfmdciohinaa
