/-
  The document's RightEvent and May of an event (pannierref01, pannierref10).
-/
import Derived.Test.YtjlompnjhmbhhaaGreatOlE
import Derived.Test.YtjlompnjhmbhhaaGreatSealI
import Derived.Test.YtjlompnjhmbhhaaGreatCartR
import Derived.Test.YtjlompnjhmbhhaaGreatTexts
import Derived.Deep.RegionHeld3
namespace Go.Proofs.YtjlompnjhmbhhaaGreat
open Go.RowKit Go.Maps

set_option maxRecDepth 100000 in
set_option maxHeartbeats 1000000 in
theorem reventL (w : World) (x : EvM) (hx : EvOk w x) : Calls Tryz.prog 29 #[x.val] w fun e w' => e = .returned (.bool (RightEv x.e)) ∧ Below w.heap.size w w' := by
  obtain ⟨⟨eo, es, dp, ct, ep, sk, qt, cl⟩, ao1, cap1⟩ := x
  obtain ⟨XN, HXN⟩ : ∃ m, Hid (dp.length = m) := ⟨_, hid rfl⟩
  show Calls Tryz.prog 29 #[.agg #[.int .i64 eo, .int .i64 es, .slice ao1 dp.length cap1, .string ct, .int .i64 ep, .string sk, .int .i64 qt, .bool cl]] w _
  rw [HXN.out]
  have HB : Hid (Below w.heap.size w (w.alloc (.cells #[.int .i64 eo, .int .i64 es, .slice ao1 XN cap1, .string ct, .int .i64 ep, .string sk, .int .i64 qt, .bool cl] 33))) := (Below.refl _ _).alloc (Nat.le_refl _) _
  have hk := Blk.new w 33 [.int .i64 eo, .int .i64 es, .slice ao1 XN cap1, .string ct, .int .i64 ep, .string sk, .int .i64 qt, .bool cl]
  have c0 := hk.cell (i := 0) rfl
  have c1 := hk.cell (i := 1) rfl
  have c2 := hk.cell (i := 2) rfl
  have c3 := hk.cell (i := 3) rfl
  have c4 := hk.cell (i := 4) rfl
  have c5 := hk.cell (i := 5) rfl
  have c6 := hk.cell (i := 6) rfl
  have c7 := hk.cell (i := 7) rfl
  have HT0 := hid (fun V => rto_any V eo 6)
  have HT1 := hid (fun V => rto_any V es 2147483647)
  have HT2 := hid (rvector_any (w.alloc (.cells #[.int .i64 eo, .int .i64 es, .slice ao1 XN cap1, .string ct, .int .i64 ep, .string sk, .int .i64 qt, .bool cl] 33)) ao1 cap1 dp XN HXN.out (hx.deps.below HB.out))
  have HT3 := hid (fun V => refName_any ct V hx.hc)
  have HT4 := hid (fun V => rto_any V ep 2147483647)
  have HT5 := hid (fun V => refName_any sk V hx.hs)
  have HT6 := hid (fun V => rto_any V qt 1000)
  have HR : Hid (RightEv ⟨eo, es, dp, ct, ep, sk, qt, cl⟩ = (decide (0 ≤ eo ∧ eo ≤ 6) && (decide (0 ≤ es ∧ es ≤ 2147483647) && (rightV dp && (nameS ct && (decide (0 ≤ ep ∧ ep ≤ 2147483647) && (nameS sk && (decide (0 ≤ qt ∧ qt ≤ 1000))))))))) := rfl
  rw [HR.out]
  obtain ⟨b0, HB0⟩ : ∃ b, Hid (decide (0 ≤ eo ∧ eo ≤ 6) = b) := ⟨_, hid rfl⟩
  rw [HB0.out] at HT0 ⊢
  obtain ⟨b1, HB1⟩ : ∃ b, Hid (decide (0 ≤ es ∧ es ≤ 2147483647) = b) := ⟨_, hid rfl⟩
  rw [HB1.out] at HT1 ⊢
  obtain ⟨b2, HB2⟩ : ∃ b, Hid (rightV dp = b) := ⟨_, hid rfl⟩
  rw [HB2.out] at HT2 ⊢
  obtain ⟨b3, HB3⟩ : ∃ b, Hid (nameS ct = b) := ⟨_, hid rfl⟩
  rw [HB3.out] at HT3 ⊢
  obtain ⟨b4, HB4⟩ : ∃ b, Hid (decide (0 ≤ ep ∧ ep ≤ 2147483647) = b) := ⟨_, hid rfl⟩
  rw [HB4.out] at HT4 ⊢
  obtain ⟨b5, HB5⟩ : ∃ b, Hid (nameS sk = b) := ⟨_, hid rfl⟩
  rw [HB5.out] at HT5 ⊢
  obtain ⟨b6, HB6⟩ : ∃ b, Hid (decide (0 ≤ qt ∧ qt ≤ 1000) = b) := ⟨_, hid rfl⟩
  rw [HB6.out] at HT6 ⊢
  clear hk hx HR HB0 HB1 HB2 HB3 HB4 HB5 HB6
  go_enter Tryz.func29, Tryz.ntmps29
  go_wp2_with fail
  refine (HT0.out _).mono ?_
  rintro e w' ⟨rfl, rfl⟩
  cases b0
  · go_wp2
    go_ret
    exact ⟨rfl, HB.out⟩
  go_wp2_with fail
  refine (HT1.out _).mono ?_
  rintro e w' ⟨rfl, rfl⟩
  cases b1
  · go_wp2
    go_ret
    exact ⟨rfl, HB.out⟩
  go_wp2_with fail
  refine (HT2.out).mono ?_
  rintro e w' ⟨rfl, rfl⟩
  cases b2
  · go_wp2
    go_ret
    exact ⟨rfl, HB.out⟩
  go_wp2_with fail
  refine (HT3.out _).mono ?_
  rintro e w' ⟨rfl, rfl⟩
  cases b3
  · go_wp2
    go_ret
    exact ⟨rfl, HB.out⟩
  go_wp2_with fail
  refine (HT4.out _).mono ?_
  rintro e w' ⟨rfl, rfl⟩
  cases b4
  · go_wp2
    go_ret
    exact ⟨rfl, HB.out⟩
  go_wp2_with fail
  refine (HT5.out _).mono ?_
  rintro e w' ⟨rfl, rfl⟩
  cases b5
  · go_wp2
    go_ret
    exact ⟨rfl, HB.out⟩
  go_wp2_with fail
  refine (HT6.out _).mono ?_
  rintro e w' ⟨rfl, rfl⟩
  go_wp2
  go_ret
  exact ⟨rfl, HB.out⟩

end Go.Proofs.YtjlompnjhmbhhaaGreat
/-
  A beginning of a slice of events; appending events outside drawn regions.
-/
namespace Go.Proofs.YtjlompnjhmbhhaaGreat
open Go.RowKit Go.Maps

theorem HeldE.take {w : World} {ao : Option Addr} {xs : List EvM} (h : HeldE w ao xs) (k : Nat) : HeldE w ao (xs.take k) := by
  refine ⟨fun x hx => h.1 x (List.mem_of_mem_take hx), ?_⟩
  rcases h.2 with rfl | ⟨b, off, h1, h2, h3⟩
  · left; simp
  · right
    refine ⟨b, off, h1, h2, fun j hj c u hu => ?_⟩
    have hj' : j < xs.length := by rw [List.length_take] at hj; omega
    rw [List.getElem_take] at hu
    exact h3 j hj' c u hu
theorem run_cutE (W : World) (a : Option Addr) (len cap n : Nat) (hh : n ≤ cap) : (Instr.slice 22 (.slice a len cap) none (some (.int .i64 (n : Int))) none).run Tryz.prog W = .ok (.slice a n cap) W := by
  have ht' : Tryz.prog.underlying 22 = some (.slice (Tryz.prog.elem 22)) := by simp [Program.elem, Tryz.underlying22]
  have he : Tryz.prog.elem 22 = 33 := by simp [Program.elem, Tryz.underlying22]
  have hz : (Go.sizeOf 33).run Tryz.prog W = .ok 8 W := by
    obtain ⟨i, hi, _, hs, _⟩ := info_parts Tryz.infoEv
    simp [Go.sizeOf, typeInfo, hi, hs]
  rw [run_slice_h W 22 _ _ _ ht' .i64 _ (by omega) (by omega), he, hz]
  have hadd : ∀ p : Addr, p.add 0 = p := by
    intro p
    obtain ⟨b, o, s⟩ := p
    cases s <;> simp [Addr.add]
  cases a <;> simp [Result.andThen, sliced, hadd]
/-- append of events to a row of the call's own. -/
theorem wpList_append_evs {ops : Array Oper} {rest : List Oper} {o : Oper} {a : Act} {w : World} {Q : Exit → Act → World → Prop} (hgd : o.guard = none) (s x : Operand)
    (ho : o.op = .call { callee := .builtin .append, args := #[s, x], argTypes := #[22, 22] })
    (base : Nat) (v : Value) (n : Nat) (ds : List EvM) (hn : ds.length = n) (hs : a.eval s = v) (hown : w.ownsRow base 33 8 v n (flatE ds))
    (ao : Option Addr) (m c : Nat) (xs : List EvM) (hm : xs.length = m) (hx : a.eval x = .slice ao m c) (hh : HeldE w ao xs) (hsum : n + m ≤ 100000000) (hbase : base ≤ w.heap.size)
    (hok : ∀ V, Below base w V → AllOk V (ds ++ xs))
    (h : ∀ bo cp w', w'.ownsRow base 33 8 (.slice bo (n + m) cp) (n + m) (flatE (ds ++ xs)) → HeldE w' bo (ds ++ xs) → Below base w w' → wpList Tryz.prog ops Q rest (a.put o.dst (.slice bo (n + m) cp)) w') :
    wpList Tryz.prog ops Q (o :: rest) a w := by
  refine wpList_plain hgd fun K hK => ?_
  have := step_append_evs (ops := #[]) (K := K) (Q := Q) (E := False) hgd s x ho base v n ds hn hs hown ao m c xs hm hx hh hsum hbase hok (fun bo cp w' h1 h2 h3 _ => hK _ _ (h bo cp w' h1 h2 h3))
  rw [if_pos (by simp [Region.wanted, hgd])] at this
  exact this
end Go.Proofs.YtjlompnjhmbhhaaGreat
/-
  What is known of the events that were put: the first one of each dot waits or is applied.
-/
namespace Go.Proofs.YtjlompnjhmbhhaaGreat
open Go.RowKit Go.Maps

theorem ofV_plainOf (A : List Int) (o : Int) : ofV (plainOf A) o = ofV A o := by
  by_cases h : o < 0
  · unfold ofV
    rw [if_pos (.inl h), if_pos (.inl h)]
  · obtain ⟨k, rfl⟩ := Int.eq_ofNat_of_zero_le (show 0 ≤ o by omega)
    rw [ofV_nat, ofV_nat, plain_getD]
theorem hasV_plainOf (A : List Int) (o s : Int) : HasV (plainOf A) o s ↔ HasV A o s := by
  unfold HasV
  rw [ofV_plainOf]
theorem belowV_plainOf (v A : List Int) : BelowV v (plainOf A) ↔ BelowV v A := by
  rw [belowV_iff, belowV_iff]
  exact ⟨fun h i => by have := h i; rw [plain_getD] at this; exact this, fun h i => by rw [plain_getD]; exact h i⟩
/-- The first event of a dot that may be. -/
def firstM (l : List Ev) (o s : Int) : Option Ev := l.find? fun e => decide ((e.o = o ∧ e.s = s) ∧ MayE e)
theorem firstM_snoc_some {l : List Ev} {x e : Ev} {o s : Int} (h : firstM l o s = some e) : firstM (l ++ [x]) o s = some e := by
  unfold firstM at *
  rw [List.find?_append, h]
  rfl
theorem firstM_none {l : List Ev} {o s : Int} (h : ∀ e ∈ l, ¬ ((e.o = o ∧ e.s = s) ∧ MayE e)) : firstM l o s = none := by
  unfold firstM
  rw [List.find?_eq_none]
  intro e he
  simpa using h e he
theorem firstM_snoc_new {l : List Ev} {x : Ev} (h : ∀ e ∈ l, ¬ ((e.o = x.o ∧ e.s = x.s) ∧ MayE e)) (hm : MayE x) : firstM (l ++ [x]) x.o x.s = some x := by
  have := firstM_none h
  unfold firstM at *
  rw [List.find?_append, this]
  simp [hm]
theorem firstM_at {l : List Ev} {o s : Int} {n : Nat} (hn : n < l.length) (h : ∀ m (hm : m < l.length), m < n → ¬ ((l[m].o = o ∧ l[m].s = s) ∧ MayE l[m])) (hx : (l[n].o = o ∧ l[n].s = s) ∧ MayE l[n]) : firstM l o s = some l[n] := by
  unfold firstM
  rw [List.find?_eq_some_iff_getElem]
  exact ⟨by simpa using hx, n, hn, rfl, fun j hj => by simp only [Bool.not_eq_true', decide_eq_false_iff_not]; exact h j (by omega) hj⟩
/-- Behind the events l. -/
structure KnownG (l : List Ev) (g : Lg) : Prop where
  first : ∀ o s y, g.W o s = some y → firstM l o s = some y.e
  known : ∀ e ∈ l, MayE e → HasV g.A e.o e.s ∨ (g.W e.o e.s).isSome = true
  few : g.ne + g.nw ≤ l.length
  stuck : StuckG g
theorem KnownG.start : KnownG [] emptyLg := ⟨fun o s y h => (by cases h), fun e he => (by cases he), Nat.le_refl _, .inr fun o s x h => by cases h⟩
theorem KnownG.same {l : List Ev} {g : Lg} {x : Ev} (h : KnownG l g) (hx : MayE x → HasV g.A x.o x.s ∨ (g.W x.o x.s).isSome = true) : KnownG (l ++ [x]) g := by
  refine ⟨fun o s y hy => firstM_snoc_some (h.first o s y hy), fun e he hm => ?_, by rw [List.length_append]; exact Nat.le_succ_of_le h.few, h.stuck⟩
  rcases List.mem_append.1 he with he | he
  · exact h.known e he hm
  · rw [List.mem_singleton.1 he] at hm ⊢
    exact hx hm
/-- One more was put. -/
theorem KnownG.put {w w' : World} {p me mw : Nat} {l : List Ev} {g : Lg} {x : Ev} {e : Ending} (h : KnownG l g) (hl : l.length < 4000) (hL : LogAt w p me mw g) (hp : PutP w p me mw g x e w') : ∃ v c g', e = .returned (.tuple #[v, .int .i64 c]) ∧ KnownG (l ++ [x]) g' ∧ AtG w p me mw g' w' := by
  have stay : ∀ {w'}, Below w.heap.size w w' → AtG w p me mw g w' := fun hb => ⟨hL.below hb, Turns.of_below hb (Nat.le_refl _)⟩
  cases hp with
  | wrong h1 h2 => exact ⟨_, _, g, rfl, h.same (fun hm => absurd hm h1), stay h2⟩
  | twice _ h1 h2 => exact ⟨_, _, g, rfl, h.same (fun _ => h1.symm), stay h2⟩
  | full _ _ _ h1 _ =>
    exfalso
    have := h.few
    rcases h1 with h1 | ⟨_, h1⟩ <;> omega
  | waits hm hw hh hn hr hnw hy hat =>
    rename_i y
    refine ⟨_, _, _, rfl, ⟨fun o s z hz => ?_, fun e he hme => ?_, ?_, ?_⟩, hat⟩
    · have hz' : updD g.W y.e.o y.e.s (some y) o s = some z := hz
      by_cases hc : o = y.e.o ∧ s = y.e.s
      · obtain ⟨rfl, rfl⟩ := hc
        rw [updD_same] at hz'
        cases hz'
        rw [hy]
        refine firstM_snoc_new (fun e he hc => ?_) hm
        rcases h.known e he hc.2 with h1 | h1
        · rw [hc.1.1, hc.1.2] at h1
          exact hh h1
        · rw [hc.1.1, hc.1.2, hw] at h1
          cases h1
      · rw [updD_other _ _ hc] at hz'
        exact firstM_snoc_some (h.first o s z hz')
    · show HasV g.A e.o e.s ∨ (updD g.W y.e.o y.e.s (some y) e.o e.s).isSome = true
      by_cases hc : e.o = y.e.o ∧ e.s = y.e.s
      · rw [hc.1, hc.2, updD_same]
        exact .inr rfl
      · rw [updD_other _ _ hc]
        rcases List.mem_append.1 he with he | he
        · exact h.known e he hme
        · rw [List.mem_singleton.1 he, hy] at hc
          exact absurd ⟨rfl, rfl⟩ hc
    · show g.ne + (g.nw + 1) ≤ _
      have := h.few
      rw [List.length_append]
      show _ ≤ l.length + 1
      omega
    · refine .inr fun o s z hz hrz => ?_
      have hz' : updD g.W y.e.o y.e.s (some y) o s = some z := hz
      by_cases hc : o = y.e.o ∧ s = y.e.s
      · obtain ⟨rfl, rfl⟩ := hc
        rw [updD_same] at hz'
        cases hz'
        rw [hy] at hrz
        exact hr hrz
      · rw [updD_other _ _ hc] at hz'
        rcases h.stuck with h1 | h1
        · exact absurd h1 (by omega)
        · exact h1 o s z hz' hrz
  | goes hm hw hh hn hr hrow hfirst hran hst hat =>
    rename_i v ys g'
    have hA : ∀ o s, HasV g.A o s ∨ InL (ys.map (·.e)) o s → HasV g'.A o s := fun o s hc => by
      rw [← hat.1.has]
      by_cases hi : InL (ys.map (·.e)) o s
      · obtain ⟨e, he, rfl, rfl⟩ := hi
        obtain ⟨z, hz, _⟩ := hran.E.2 e he
        rw [hz]
        rfl
      · rw [hran.E.1 o s hi, hL.has]
        exact hc.resolve_right hi
    refine ⟨_, _, g', rfl, ⟨fun o s z hz => ?_, fun e he hme => ?_, ?_, hst⟩, hat⟩
    · rw [hran.W] at hz
      split at hz
      · cases hz
      · exact firstM_snoc_some (h.first o s z hz)
    · rw [hran.W]
      by_cases hi : InL (ys.map (·.e)) e.o e.s
      · exact .inl (hA _ _ (.inr hi))
      · rw [if_neg hi]
        rcases List.mem_append.1 he with he | he
        · rcases h.known e he hme with h1 | h1
          · exact .inl (hA _ _ (.inl h1))
          · exact .inr h1
        · exfalso
          rw [List.mem_singleton.1 he] at hi
          obtain ⟨r, hr'⟩ := hfirst
          exact hi ⟨x, by rw [hr']; exact List.mem_cons_self .., rfl, rfl⟩
    · have h1 := hran.ne
      have h2 := hran.nw
      have h3 := h.few
      rw [List.length_append]
      show _ ≤ l.length + 1
      omega
end Go.Proofs.YtjlompnjhmbhhaaGreat
/-
  A region whose last operation stores into what it reads: all that the store waits for may be taken first, though the store does not keep it. No function of the program is named here.
-/
namespace Go.Proofs.YtjlompnjhmbhhaaGreat

section
variable {P : Program} {ops : Array Oper} {Q : Exit → Act → World → Prop} {md : Region.Mode} {S : World → Prop} {z : Nat}

/-- Whatever order is picked: S holds behind every operation but number z. -/
def wpAnyK (P : Program) (md : Region.Mode) (ops : Array Oper) (Q : Exit → Act → World → Prop) (S : World → Prop) (z : Nat) : Nat → Array Bool → Act → World → Prop
  | 0, listed, a, w => Region.ready md ops listed = [] ∧ Q .normal a w
  | fuel + 1, listed, a, w =>
    (Region.ready md ops listed = [] → Q .normal a w) ∧
    ∀ i ∈ Region.ready md ops listed, wpOp P ops Q i (fun a' w' => (i = z ∨ S w') ∧ wpAnyK P md ops Q S z fuel (listed.setIfInBounds i true) a' w') a w
theorem wpAny_of_K : ∀ (fuel : Nat) (listed : Array Bool) (a : Act) (w : World), wpAnyK P md ops Q S z fuel listed a w → wpAny P md ops Q fuel listed a w
  | 0, _, _, _, h => h
  | fuel + 1, _, _, _, h => ⟨h.1, fun i hi => wpOp_mono (fun a' w' h' => wpAny_of_K fuel _ a' w' h'.2) (h.2 i hi)⟩
/-- What has come up: all that it waits for has come up, too. -/
def ClosedK (md : Region.Mode) (ops : Array Oper) (listed : Array Bool) : Prop := ∀ j o, ops[j]? = some o → listed.getD j true = true → ∀ e ∈ o.after, Region.binds md e = true → listed.getD e.on false = true
theorem closedK_step {listed : Array Bool} (h : ClosedK md ops listed) {j : Nat} (hj : j ∈ Region.ready md ops listed) : ClosedK md ops (listed.setIfInBounds j true) := by
  intro k o hk hl e he hb
  by_cases hjk : j = k
  · subst hjk
    obtain ⟨_, o', ho, hall⟩ := mem_ready.1 hj
    rw [hk] at ho
    cases ho
    exact getD_set_true (hall e he hb)
  · rw [getD_set_ne true hjk] at hl
    exact getD_set_true (h k o hk hl e he hb)
def closedKB (md : Region.Mode) (ops : Array Oper) (listed : Array Bool) : Bool := (List.range ops.size).all fun j => !listed.getD j true || match ops[j]? with
  | some o => o.after.all fun e => !Region.binds md e || listed.getD e.on false
  | none => true
theorem closedKB_spec {listed : Array Bool} (h : closedKB md ops listed = true) : ClosedK md ops listed := by
  intro j o hj hl e he hb
  unfold closedKB at h
  rw [List.all_eq_true] at h
  have h1 := h j (List.mem_range.2 (Array.getElem?_eq_some_iff.1 hj).1)
  rw [hl, hj] at h1
  simp only [Bool.not_true, Bool.false_or, Array.all_eq_true_iff_forall_mem, Bool.or_eq_true, Bool.not_eq_true'] at h1
  rcases h1 e he with h2 | h2
  · rw [hb] at h2; cases h2
  · exact h2
/-- Each waits for the next one. -/
def chainK (md : Region.Mode) (ops : Array Oper) : List Nat → Bool
  | x :: y :: r => (match ops[x]? with
    | some o => o.after.any fun e => Region.binds md e && e.on == y
    | none => false) && chainK md ops (y :: r)
  | _ => true
theorem chainK_one {listed : Array Bool} (hc : ClosedK md ops listed) (x i : Nat) (h : (match ops[x]? with
    | some o => o.after.any fun e => Region.binds md e && e.on == i
    | none => false) = true) (hi : listed.getD i true = false) : x ∉ Region.ready md ops listed ∧ listed.getD x true = false := by
  cases ho : ops[x]? with
  | none => rw [ho] at h; cases h
  | some o =>
    rw [ho] at h
    obtain ⟨e, he, hb⟩ := Array.any_eq_true'.1 h
    simp only [Bool.and_eq_true, beq_iff_eq] at hb
    have hne : ¬ listed.getD e.on false = true := fun hl => by
      rw [hb.2] at hl
      have : i < listed.size := by
        rcases Nat.lt_or_ge i listed.size with h' | h'
        · exact h'
        · simp [Array.getElem?_eq_none h'] at hl
      simp [this] at hi hl
      rw [hi] at hl
      cases hl
    refine ⟨fun hr => ?_, ?_⟩
    · obtain ⟨_, o', ho', hall⟩ := mem_ready.1 hr
      rw [ho] at ho'
      cases ho'
      exact hne (hall e he hb.1)
    · cases hl : listed.getD x true with
      | false => rfl
      | true => exact absurd (hc x o ho hl e he hb.1) hne
theorem chainK_unlisted {listed : Array Bool} (hc : ClosedK md ops listed) : ∀ (c : List Nat) (x i : Nat), chainK md ops (x :: (c ++ [i])) = true → listed.getD i true = false → x ∉ Region.ready md ops listed ∧ listed.getD x true = false
  | [], x, i, h, hi => by
    simp only [List.nil_append, chainK, Bool.and_true] at h
    exact chainK_one hc x i h hi
  | y :: c, x, i, h, hi => by
    have h' : (match ops[x]? with
      | some o => o.after.any fun e => Region.binds md e && e.on == y
      | none => false) = true ∧ chainK md ops (y :: (c ++ [i])) = true := by
      have : chainK md ops (x :: (y :: (c ++ [i]))) = true := h
      unfold chainK at this
      simpa only [Bool.and_eq_true] using this
    obtain ⟨h1, h2⟩ := h'
    exact chainK_one hc x y h1 (chainK_unlisted hc c y i h2 hi).2
theorem wpAnyK_first {i : Nat} {oi : Oper} {v : Value} (hi : ops[i]? = some oi) (hsel : ∀ (j : Nat) (o : Oper) cs b, ops[j]? = some o → o.op ≠ .select cs b)
    (hQ : ∀ c a w, Q (.panic c) (a.put oi.dst v) w → Q (.panic c) a w) (c : List Nat) (hch : chainK md ops (z :: (c ++ [i])) = true) :
    ∀ (fuel : Nat) (listed : Array Bool) (a : Act) (w : World), ClosedK md ops listed →
      (∀ j oj, ops[j]? = some oj → j ≠ i → listed.getD j true = false → (∀ e ∈ oj.after, Region.binds md e = true → e.on ≠ i) → oi.apart ops oj = true) →
      i ∈ Region.ready md ops listed → YieldsIf P ops S oi v a → S w →
      wpAnyK P md ops Q S z fuel (listed.setIfInBounds i true) (a.put oi.dst v) w → wpAnyK P md ops Q S z (fuel + 1) listed a w := by
  intro fuel
  induction fuel with
  | zero =>
    intro listed a w _ _ hr hy hS H
    refine ⟨fun h => (by rw [h] at hr; cases hr), fun j hj => ?_⟩
    by_cases hji : j = i
    · subst hji; exact hy.wpOp hi hS ⟨.inr hS, H⟩
    · have := ready_mono hj hji
      rw [H.1] at this
      cases this
  | succ fuel ih =>
    intro listed a w hcl hfree hr hy hS H
    refine ⟨fun h => (by rw [h] at hr; cases hr), fun j hj => ?_⟩
    by_cases hji : j = i
    · subst hji; exact hy.wpOp hi hS ⟨.inr hS, H⟩
    · have h1 := H.2 j (ready_mono hj hji)
      have hjz : j ≠ z := fun e => (chainK_unlisted hcl c z i hch (mem_ready.1 hr).1).1 (e ▸ hj)
      obtain ⟨hjun, oj, hoj, hall⟩ := mem_ready.1 hj
      have hnot : ∀ e ∈ oj.after, Region.binds md e = true → e.on ≠ i := fun e he hb heq => by
        have h1 := hall e he hb
        have h0 := (mem_ready.1 hr).1
        rw [heq] at h1
        rcases Nat.lt_or_ge i listed.size with h' | h'
        · simp [h'] at h0 h1; rw [h0] at h1; cases h1
        · simp [Array.getElem?_eq_none h'] at h1
      have h2 := wpOp_putIf hoj (hfree j oj hoj hji hjun hnot) (fun cs b => hsel i oi cs b hi) (fun cs b => hsel j oj cs b hoj) hQ hy h1
      have hfree' : ∀ k ok, ops[k]? = some ok → k ≠ i → (listed.setIfInBounds j true).getD k true = false →
          (∀ e ∈ ok.after, Region.binds md e = true → e.on ≠ i) → oi.apart ops ok = true := fun k ok hk hki hun hno => by
        refine hfree k ok hk hki ?_ hno
        by_cases hjk : j = k
        · subst hjk; exact hjun
        · rw [getD_set_ne true hjk] at hun; exact hun
      refine wpOp_mono (fun a' w' h3 => ?_) h2
      have hSw : S w' := h3.2.1.resolve_left hjz
      refine ⟨.inr hSw, ih (listed.setIfInBounds j true) a' w' (closedK_step hcl hj) hfree' (ready_mono hr (Ne.symm hji)) h3.1 hSw ?_⟩
      rw [Array.setIfInBounds_comm _ _ hji]
      exact h3.2.2
theorem wpAnyK_take {i : Nat} {oi : Oper} {v : Value} {fuel : Nat} {listed : Array Bool} {a : Act} {w : World} (c : List Nat) (hi : ops[i]? = some oi)
    (hs : Region.noSelect ops = true) (hf : Region.free md ops listed i = true) (hr : (Region.ready md ops listed).contains i = true) (hcl : closedKB md ops listed = true) (hch : chainK md ops (z :: (c ++ [i])) = true)
    (hQ : ∀ c a w, Q (.panic c) (a.put oi.dst v) w → Q (.panic c) a w) (hy : YieldsIf P ops S oi v a) (hS : S w)
    (h : wpAnyK P md ops Q S z fuel (listed.setIfInBounds i true) (a.put oi.dst v) w) : wpAnyK P md ops Q S z (fuel + 1) listed a w :=
  wpAnyK_first hi (Region.noSelect_spec hs) hQ c hch fuel listed a w (closedKB_spec hcl) (Region.free_spec hi hf) (by simpa using hr) hy hS h
theorem wpAnyK_done {listed : Array Bool} {a : Act} {w : World} (hr : Region.ready md ops listed = []) (h : Q .normal a w) : ∀ fuel, wpAnyK P md ops Q S z fuel listed a w
  | 0 => ⟨hr, h⟩
  | _ + 1 => ⟨fun _ => h, by rw [hr]; simp⟩
def AllReadyK (P : Program) (md : Region.Mode) (ops : Array Oper) (Q : Exit → Act → World → Prop) (S : World → Prop) (z fuel : Nat) (listed : Array Bool) (a : Act) (w : World) (rs : List Nat) : Prop :=
  ∀ i ∈ rs, wpOp P ops Q i (fun a' w' => (i = z ∨ S w') ∧ wpAnyK P md ops Q S z fuel (listed.setIfInBounds i true) a' w') a w
theorem AllReadyK.nil {fuel : Nat} {listed : Array Bool} {a : Act} {w : World} : AllReadyK P md ops Q S z fuel listed a w [] := fun _ h => by cases h
theorem AllReadyK.cons {fuel : Nat} {listed : Array Bool} {a : Act} {w : World} {i : Nat} {o : Oper} {rs : List Nat} (ho : ops[i]? = some o)
    (h : ∀ K' : Act → World → Prop, Shut (∀ a w, (i = z ∨ S w) → (S w ∨ i = z → wpAnyK P md ops Q S z fuel (listed.setIfInBounds i true) a w) → K' a w) → if Region.wanted o (yielded ops a.tmps) = true then Oper.wp P o a w K' Q else K' (a.put o.dst undef) w)
    (hs : AllReadyK P md ops Q S z fuel listed a w rs) : AllReadyK P md ops Q S z fuel listed a w (i :: rs) := fun j hj => by
  rcases List.mem_cons.1 hj with rfl | hj
  · exact wpOp_step ho (fun K' hK => h K' (fun a w hS hW => hK a w ⟨hS, hW hS.symm⟩))
  · exact hs j hj
theorem wpAnyK_ready {rs : List Nat} {fuel : Nat} {listed : Array Bool} {a : Act} {w : World} (hr : Region.ready md ops listed = rs) (hne : rs ≠ [])
    (h : AllReadyK P md ops Q S z fuel listed a w rs) : wpAnyK P md ops Q S z (fuel + 1) listed a w := ⟨fun h0 => absurd (hr ▸ h0) hne, hr ▸ h⟩
theorem wp_region_K {id : Nat} {a : Act} {w : World} (z : Nat) (S : World → Prop) (hm : P.follows .mixedOrders = true) (hS : S w.drew)
    (h : S w.drew → wpAnyK P .any ops Q S z ops.size (Array.replicate ops.size false) a w.drew) : (Code.region id ops true).wp P Q a w :=
  wp_region_any hm (wpAny_of_K _ _ _ _ (h hS))
end
end Go.Proofs.YtjlompnjhmbhhaaGreat
