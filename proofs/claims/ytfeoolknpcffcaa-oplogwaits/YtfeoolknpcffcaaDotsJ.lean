/-
  Package dots: slices.SortFunc over dots.
-/
import Derived.Test.YtfeoolknpcffcaaDotsG
import Derived.Sort.MapsRangeIn
import Derived.RangeFuncSeq
namespace Go.Proofs
open Go.Shelf Go.RowKit Go.Lib Go.Sort
shelf_lay_g SlLaysF0.n6 Slsf 6 at Try 51 as Ytfeoolknpcffcaa.sortDots
end Go.Proofs
namespace Go.Proofs.Ytfeoolknpcffcaa
open Go.Shelf Go.RowKit Go.Lib Go.Sort

def dotCells (x : Int × Int) : List Value := [.int .i64 x.1, .int .i64 x.2]
theorem flatD_eq (ds : List (Int × Int)) : flatD ds = ds.flatMap dotCells := rfl
theorem cmpD_lt (x y : Int × Int) : cmpD x y < 0 ↔ (x.1 < y.1 ∨ x.1 = y.1 ∧ x.2 < y.2) := by
  unfold cmpD cmpI
  (repeat' split) <;> omega
theorem cmpD_swo : Sort.SWO (ltOf cmpD) where
  irrefl x := by
    have := cmpD_lt x x
    simp [ltOf]
    omega
  trans x y z h1 h2 := by
    simp [ltOf, cmpD_lt] at h1 h2 ⊢
    omega
  ntrans x y z h1 h2 := by
    have a := cmpD_lt x y
    have b := cmpD_lt y z
    have c := cmpD_lt x z
    simp [ltOf] at h1 h2 ⊢
    omega
theorem insert_nil (w : World) (c : Nat) : Calls Try.prog 73 #[.slice none 0 0, .int .i64 0, .int .i64 0, .func (.func c) #[] #[]] w fun e w' => e = .returned (.tuple #[]) ∧ w' = w := by
  go_enter Try.func73, Try.ntmps73
  go_wp2
  refine wp_loop_rounds 1 ?_
  rw [rounds_succ]
  go_wp2
  refine bodyPost_end (results_none rfl _ _ _) rfl ?_
  exact ⟨rfl, rfl⟩
set_option maxRecDepth 100000 in
theorem pdq_nil (w : World) (c : Nat) (l : Int) : Calls Try.prog 63 #[.slice none 0 0, .int .i64 0, .int .i64 0, .int .i64 l, .func (.func c) #[] #[]] w fun e w' => e = .returned (.tuple #[]) ∧ w' = w := by
  have H := hid (insert_nil w c)
  go_enter Try.func63, Try.ntmps63
  go_wp2
  refine wp_loop_rounds 1 ?_
  rw [rounds_succ]
  go_wp2_with fail
  refine H.out.mono ?_
  rintro e w' ⟨rfl, rfl⟩
  go_wp2
  refine bodyPost_ret (results_none rfl _ _ _) rfl ?_
  exact ⟨rfl, rfl⟩
theorem sortD_nil (w : World) (c : Nat) : Calls Try.prog 51 #[.slice none 0 0, .func (.func c) #[] #[]] w fun e w' => e = .returned (.tuple #[]) ∧ w' = w := by
  have H := hid (fun l => pdq_nil w c l)
  have HB := hid (Any.bits_Len (SlLaysF0.n15.bits { sortDots with }) 0 w (by omega) (by omega))
  go_enter Try.func51, Try.ntmps51
  go_wp2_with fail
  refine HB.out.mono ?_
  rintro e w' ⟨rfl, rfl⟩
  go_wp2_with fail
  refine (H.out _).mono ?_
  rintro e w' ⟨rfl, rfl⟩
  go_wp2
  refine bodyPost_end (results_none rfl _ _ _) rfl ?_
  exact ⟨rfl, rfl⟩
end Go.Proofs.Ytfeoolknpcffcaa
/-
  maps.Keys of a map with dots as keys: its iterator yields each key once, in some order; in a fence.
-/
namespace Go.Proofs.Ytfeoolknpcffcaa
open Go.RowKit Go.Shelf Go.Maps
attribute [local go_sem] Oper.semAt_some

/-- ss tells the keys of D, each once. -/
def KeysOf' (D : DataW Value) (ss : List (Int × Int)) : Prop := ss.Nodup ∧ ∀ o s, (o, s) ∈ ss ↔ I64 o ∧ I64 s ∧ (look D (dk o s)).isSome = true
/-- What has come, and what is left. -/
structure CollD (D : DataW Value) (left : Lit → Bool) (ss : List (Int × Int)) : Prop where
  nodup : ss.Nodup
  come : ∀ o s, (o, s) ∈ ss → I64 o ∧ I64 s ∧ Maps.has D (dk o s) = true ∧ left (dk o s) = false
  rest : ∀ o s, I64 o → I64 s → Maps.has D (dk o s) = true → left (dk o s) = false → (o, s) ∈ ss
theorem CollD.start (D : DataW Value) : CollD D (Maps.has D) [] := ⟨.nil, fun _ _ h => (by cases h), fun o s _ _ h1 h2 => (by rw [h1] at h2; cases h2)⟩
theorem same_dk {o s o' s' : Int} (ho : I64 o) (hs : I64 s) (ho' : I64 o') (hs' : I64 s') : (dk o s).sameKey (dk o' s') = decide (o = o' ∧ s = s') := by
  rw [Bool.eq_iff_iff, decide_eq_true_eq, WideAt.sameKey_iff (by trivial)]
  exact ⟨fun h => dk_inj ho hs ho' hs' h, fun ⟨a, b⟩ => by rw [a, b]⟩
theorem CollD.step {D : DataW Value} {left : Lit → Bool} {ss : List (Int × Int)} (h : CollD D left ss) {o s : Int} (ho : I64 o) (hs : I64 s) (hl : left (dk o s) = true) (hh : Maps.has D (dk o s) = true) : CollD D (fun z => left z && !z.sameKey (dk o s)) (ss ++ [(o, s)]) := by
  have hn : (o, s) ∉ ss := fun hm => by
    have := (h.come o s hm).2.2.2
    rw [hl] at this
    cases this
  refine ⟨?_, ?_, ?_⟩
  · rw [List.nodup_append]
    exact ⟨h.nodup, by simp, fun a ha b hb => by simp at hb; subst hb; rintro rfl; exact hn ha⟩
  · intro o' s' hm
    rcases List.mem_append.1 hm with hm | hm
    · obtain ⟨h1, h2, h3, h4⟩ := h.come o' s' hm
      exact ⟨h1, h2, h3, by simp [h4]⟩
    · simp at hm
      obtain ⟨rfl, rfl⟩ := hm
      exact ⟨ho, hs, hh, by simp [same_dk ho hs ho hs]⟩
  · intro o' s' ho' hs' h1 h2
    rw [same_dk ho' hs' ho hs] at h2
    by_cases e : o' = o ∧ s' = s
    · obtain ⟨rfl, rfl⟩ := e
      simp
    · simp [e] at h2
      exact List.mem_append.2 (.inl (h.rest o' s' ho' hs' h1 h2))
theorem CollD.done {D : DataW Value} {left : Lit → Bool} {ss : List (Int × Int)} (h : CollD D left ss) (hD : AllHeld D) (hl : ∀ kl, left kl = false) : KeysOf' D ss := by
  refine ⟨h.nodup, fun o s => ⟨fun hm => ?_, fun ⟨h1, h2, h3⟩ => ?_⟩⟩
  · obtain ⟨h1, h2, h3, _⟩ := h.come o s hm
    exact ⟨h1, h2, by rw [← has_look hD]; exact h3⟩
  · exact h.rest o s h1 h2 (by rw [has_look hD]; exact h3) (hl _)

end Go.Proofs.Ytfeoolknpcffcaa
/-
  Package dots: the keys of a map, collected; Extras.
-/
namespace Go.Proofs.Ytfeoolknpcffcaa
open Go.RowKit Go.Shelf Go.Maps
attribute [local go_sem] Oper.semAt_some

theorem keeps_row {W W' : World} {B e size n : Nat} {v : Value} {xs : List Value} (h : W.ownsRow B e size v n xs) (hg : W.grownBy W' v.ownBlock) : KeepsOthers W W' := by
  refine KeepsOthers.of_grownBy hg fun j o hj ho => ?_
  rcases h.2 with ⟨rfl, _⟩ | ⟨g, cap, cur, rfl, _, hb, _⟩
  · simp [Value.ownBlock] at hj
  · have : g = j := by simpa [Value.ownBlock] using hj
    subst this
    rw [hb] at ho
    cases ho
    rfl
/-- What lies between two rounds: the box at B0 holds the row of what has come. -/
def Coll (w : World) (B0 : Nat) (pre : List (Int × Int)) (W : World) : Prop := ∃ eo cap, Boxed W B0 45 (.slice eo pre.length cap) ∧ W.ownsRow B0 31 2 (.slice eo pre.length cap) pre.length (flatD pre) ∧ Below B0 w W
theorem coll_own (w : World) (B0 B : Nat) (hB0 : B0 ≤ B) (hw : B0 ≤ w.heap.size) : OwnFrom B (Coll w B0) := fun pre W W' row ⟨eo, cap, h1, h2, h3⟩ hg hr => by
  have hne : ∀ g, (∃ cs t, W.heap[g]? = some (.cells cs t (0, 0))) → some g ≠ row := fun g ⟨cs, t, hc⟩ e => by
    obtain ⟨_, o, ho, hoc⟩ := hr g e.symm
    rw [hc] at ho
    cases ho
    cases hoc
  refine ⟨eo, cap, h1.kept hg (hne B0 ⟨_, _, h1⟩), ?_, h3.grown hg (Nat.le_trans hw h3.size) (fun k e => Nat.le_trans hB0 (hr k e).1)⟩
  refine (Turns.of_grown (F := fun i => row = some i) hg (fun _ h => h)).row h2 (fun g hgb e => ?_)
  rcases h2.2 with ⟨h0, _⟩ | ⟨g', c', cur, h0, _, hb, _⟩
  · rw [h0] at hgb
    simp [Value.ownBlock] at hgb
  · rw [h0] at hgb
    have : g' = g := by simpa [Value.ownBlock] using hgb
    subst this
    exact hne g' ⟨_, _, hb⟩ e.symm
theorem wpListIn_append_dot {F : Fence} {n : Nat} {ops : Array Oper} {rest : List Oper} {o : Oper} {a : Act} {Q : Exit → Act → World → Prop} (W0 W : World) (x : Int × Int) (hW : W = W0.alloc (.cells #[.int .i64 x.1, .int .i64 x.2] 31)) (hgd : o.guard = none) (s xx : Operand)
    (ho : o.op = .call { callee := .builtin .append, args := #[s, xx], argTypes := #[45, 45] }) (B : Nat) (v : Value) (ds : List (Int × Int))
    (hs : a.eval s = v) (hx : a.eval xx = .slice (some ⟨W0.heap.size, 0, none⟩) 1 1) (hown : W0.ownsRow B 31 2 v ds.length (flatD ds)) (hB : B ≤ W0.heap.size) (hl : ds.length ≤ 1000000)
    (h : ∀ v' w', w'.ownsRow B 31 2 v' (ds ++ [x]).length (flatD (ds ++ [x])) → Below B W0 w' → W.grownBy w' v.ownBlock → wpListIn F n Try.prog ops Q rest (a.put o.dst v') w') :
    wpListIn F n Try.prog ops Q (o :: rest) a W := by
  subst hW
  obtain ⟨iI, hj, hy0, hy1, hy2⟩ := info_parts Try.infoDot
  have hn := Blk.new W0 31 [.int .i64 x.1, .int .i64 x.2]
  refine wpListIn_append_own _ hgd s xx 45 ho B 31 iI (.agg #[.int .i64 0, .int .i64 0]) 2 16 Try.underlying45 hj hy0 hy1 hy2 rfl (by decide) v ds.length (flatD ds) hs (hown.alloc _) ⟨W0.heap.size, 0, none⟩ 1 1 [.int .i64 x.1, .int .i64 x.2] hx rfl (fun j u hu => ?_) (fun u hu => by simp at hu; rcases hu with rfl | rfl <;> rfl) (by unfold maxLen; omega) (by omega) (by simp; omega) ?_
  · rw [Addr.add_lit, Nat.zero_add]
    exact hn.cell hu
  · intro v' w' hown' hgrow _
    refine h v' w' ?_ (((Below.refl _ _).alloc hB _).grown hgrow (by simp; omega) (fun k hk => (hown.lt k hk).1)) hgrow
    rw [flatD_snoc, List.length_append]
    exact hown'
/-- The keys of D, collected. -/
def AnsK (w : World) (D : DataW Value) (e : Ending) (w' : World) : Prop := ∃ v ss, e = .returned v ∧ KeysOf' D ss ∧ ss.length ≤ Maps.size D ∧ w'.ownsRow w.heap.size 31 2 v ss.length (flatD ss) ∧ Below w.heap.size w w'
/-- The keys of D in order. -/
def SortedK (D : DataW Value) (ss : List (Int × Int)) : Prop := KeysOf' D ss ∧ ss.Pairwise (fun x y => cmpD x y < 0)
theorem sorted_keys {D : DataW Value} {gs hs : List (Int × Int)} (h : KeysOf' D gs) (hp : hs.Perm gs) (hw : hs.Pairwise (fun x y => ¬ cmpD y x < 0)) : SortedK D hs := by
  have hn : hs.Nodup := hp.nodup_iff.2 h.1
  refine ⟨⟨hn, fun o s => by rw [hp.mem_iff]; exact h.2 o s⟩, ?_⟩
  refine (hw.and hn).imp ?_
  rintro ⟨a1, a2⟩ ⟨b1, b2⟩ ⟨h1, h2⟩
  rw [cmpD_lt] at h1 ⊢
  simp only [ne_eq, Prod.mk.injEq] at h2
  simp only at h1 ⊢
  omega
def AnsX (w : World) (D : DataW Value) (e : Ending) (w' : World) : Prop := ∃ v ss, e = .returned v ∧ SortedK D ss ∧ ss.length ≤ Maps.size D ∧ w'.ownsRow w.heap.size 31 2 v ss.length (flatD ss) ∧ Below w.heap.size w w'
end Go.Proofs.Ytfeoolknpcffcaa
