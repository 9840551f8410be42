/-
  Package dots: slices.SortFunc over dots.
-/
import Derived.Test.YtcammngbhnhjjaaDotsG
import Derived.Sort.MapsRangeIn
import Derived.RangeFuncSeq
import Derived.Test.YtcammngbhnhjjaaBase
namespace Go.Proofs
open Go.Shelf Go.RowKit Go.Lib Go.Sort
shelf_lay_g SlLaysF0.n6 Slsf 6 at Try 46 as Ytcammngbhnhjjaa.sortDots
end Go.Proofs
namespace Go.Proofs.Ytcammngbhnhjjaa
open Go.Shelf Go.RowKit Go.Lib Go.Sort

def dotCells (x : Int × Int) : List Value := [.int .i64 x.1, .int .i64 x.2]
theorem flatD_eq (ds : List (Int × Int)) : flatD ds = ds.flatMap dotCells := rfl
theorem cmpD_lt (x y : Int × Int) : cmpD x y < 0 ↔ (x.1 < y.1 ∨ x.1 = y.1 ∧ x.2 < y.2) := by
  unfold cmpD cmpI
  (repeat' split) <;> omega
theorem cmpD_swo : Sort.SWO (ltOf cmpD) where
  irrefl x := by
    have := cmpD_lt x x
    simp [ltOf]
    omega
  trans x y z h1 h2 := by
    simp [ltOf, cmpD_lt] at h1 h2 ⊢
    omega
  ntrans x y z h1 h2 := by
    have a := cmpD_lt x y
    have b := cmpD_lt y z
    have c := cmpD_lt x z
    simp [ltOf] at h1 h2 ⊢
    omega
theorem insert_nil (w : World) (c : Nat) : Calls Try.prog 67 #[.slice none 0 0, .int .i64 0, .int .i64 0, .func (.func c) #[] #[]] w fun e w' => e = .returned (.tuple #[]) ∧ w' = w := by
  go_enter Try.func67, Try.ntmps67
  go_wp2
  refine wp_loop_rounds 1 ?_
  rw [rounds_succ]
  go_wp2
  refine bodyPost_end (results_none rfl _ _ _) rfl ?_
  exact ⟨rfl, rfl⟩
set_option maxRecDepth 100000 in
theorem pdq_nil (w : World) (c : Nat) (l : Int) : Calls Try.prog 57 #[.slice none 0 0, .int .i64 0, .int .i64 0, .int .i64 l, .func (.func c) #[] #[]] w fun e w' => e = .returned (.tuple #[]) ∧ w' = w := by
  have H := hid (insert_nil w c)
  go_enter Try.func57, Try.ntmps57
  go_wp2
  refine wp_loop_rounds 1 ?_
  rw [rounds_succ]
  go_wp2_with fail
  refine H.out.mono ?_
  rintro e w' ⟨rfl, rfl⟩
  go_wp2
  refine bodyPost_ret (results_none rfl _ _ _) rfl ?_
  exact ⟨rfl, rfl⟩
theorem sortD_nil (w : World) (c : Nat) : Calls Try.prog 46 #[.slice none 0 0, .func (.func c) #[] #[]] w fun e w' => e = .returned (.tuple #[]) ∧ w' = w := by
  have H := hid (fun l => pdq_nil w c l)
  have HB := hid (Any.bits_Len (SlLaysF0.n15.bits { sortDots with }) 0 w (by omega) (by omega))
  go_enter Try.func46, Try.ntmps46
  go_wp2_with fail
  refine HB.out.mono ?_
  rintro e w' ⟨rfl, rfl⟩
  go_wp2_with fail
  refine (H.out _).mono ?_
  rintro e w' ⟨rfl, rfl⟩
  go_wp2
  refine bodyPost_end (results_none rfl _ _ _) rfl ?_
  exact ⟨rfl, rfl⟩
end Go.Proofs.Ytcammngbhnhjjaa
/-
  maps.Keys of a map with dots as keys: its iterator yields each key once, in some order; in a fence.
-/
namespace Go.Proofs.Ytcammngbhnhjjaa
open Go.RowKit Go.Shelf Go.Maps
attribute [local go_sem] Oper.semAt_some

/-- ss tells the keys of D, each once. -/
def KeysOf' (D : DataW Value) (ss : List (Int × Int)) : Prop := ss.Nodup ∧ ∀ o s, (o, s) ∈ ss ↔ I64 o ∧ I64 s ∧ (look D (dk o s)).isSome = true
/-- What has come, and what is left. -/
structure CollD (D : DataW Value) (left : Lit → Bool) (ss : List (Int × Int)) : Prop where
  nodup : ss.Nodup
  come : ∀ o s, (o, s) ∈ ss → I64 o ∧ I64 s ∧ Maps.has D (dk o s) = true ∧ left (dk o s) = false
  rest : ∀ o s, I64 o → I64 s → Maps.has D (dk o s) = true → left (dk o s) = false → (o, s) ∈ ss
theorem CollD.start (D : DataW Value) : CollD D (Maps.has D) [] := ⟨.nil, fun _ _ h => (by cases h), fun o s _ _ h1 h2 => (by rw [h1] at h2; cases h2)⟩
theorem same_dk {o s o' s' : Int} (ho : I64 o) (hs : I64 s) (ho' : I64 o') (hs' : I64 s') : (dk o s).sameKey (dk o' s') = decide (o = o' ∧ s = s') := by
  rw [Bool.eq_iff_iff, decide_eq_true_eq, WideAt.sameKey_iff (by trivial)]
  exact ⟨fun h => dk_inj ho hs ho' hs' h, fun ⟨a, b⟩ => by rw [a, b]⟩
theorem CollD.step {D : DataW Value} {left : Lit → Bool} {ss : List (Int × Int)} (h : CollD D left ss) {o s : Int} (ho : I64 o) (hs : I64 s) (hl : left (dk o s) = true) (hh : Maps.has D (dk o s) = true) : CollD D (fun z => left z && !z.sameKey (dk o s)) (ss ++ [(o, s)]) := by
  have hn : (o, s) ∉ ss := fun hm => by
    have := (h.come o s hm).2.2.2
    rw [hl] at this
    cases this
  refine ⟨?_, ?_, ?_⟩
  · rw [List.nodup_append]
    exact ⟨h.nodup, by simp, fun a ha b hb => by simp at hb; subst hb; rintro rfl; exact hn ha⟩
  · intro o' s' hm
    rcases List.mem_append.1 hm with hm | hm
    · obtain ⟨h1, h2, h3, h4⟩ := h.come o' s' hm
      exact ⟨h1, h2, h3, by simp [h4]⟩
    · simp at hm
      obtain ⟨rfl, rfl⟩ := hm
      exact ⟨ho, hs, hh, by simp [same_dk ho hs ho hs]⟩
  · intro o' s' ho' hs' h1 h2
    rw [same_dk ho' hs' ho hs] at h2
    by_cases e : o' = o ∧ s' = s
    · obtain ⟨rfl, rfl⟩ := e
      simp
    · simp [e] at h2
      exact List.mem_append.2 (.inl (h.rest o' s' ho' hs' h1 h2))
theorem CollD.done {D : DataW Value} {left : Lit → Bool} {ss : List (Int × Int)} (h : CollD D left ss) (hD : AllHeld D) (hl : ∀ kl, left kl = false) : KeysOf' D ss := by
  refine ⟨h.nodup, fun o s => ⟨fun hm => ?_, fun ⟨h1, h2, h3⟩ => ?_⟩⟩
  · obtain ⟨h1, h2, h3, _⟩ := h.come o s hm
    exact ⟨h1, h2, by rw [← has_look hD]; exact h3⟩
  · exact h.rest o s h1 h2 (by rw [has_look hD]; exact h3) (hl _)

end Go.Proofs.Ytcammngbhnhjjaa
/-
  Package dots: the keys of a map, collected; Extras.
-/
namespace Go.Proofs.Ytcammngbhnhjjaa
open Go.RowKit Go.Shelf Go.Maps
attribute [local go_sem] Oper.semAt_some

theorem keeps_row {W W' : World} {B e size n : Nat} {v : Value} {xs : List Value} (h : W.ownsRow B e size v n xs) (hg : W.grownBy W' v.ownBlock) : KeepsOthers W W' := by
  refine KeepsOthers.of_grownBy hg fun j o hj ho => ?_
  rcases h.2 with ⟨rfl, _⟩ | ⟨g, cap, cur, rfl, _, hb, _⟩
  · simp [Value.ownBlock] at hj
  · have : g = j := by simpa [Value.ownBlock] using hj
    subst this
    rw [hb] at ho
    cases ho
    rfl
/-- What lies between two rounds: the box at B0 holds the row of what has come. -/
def Coll (w : World) (B0 : Nat) (pre : List (Int × Int)) (W : World) : Prop := ∃ eo cap, Boxed W B0 45 (.slice eo pre.length cap) ∧ W.ownsRow B0 31 2 (.slice eo pre.length cap) pre.length (flatD pre) ∧ Below B0 w W
theorem coll_own (w : World) (B0 B : Nat) (hB0 : B0 ≤ B) (hw : B0 ≤ w.heap.size) : OwnFrom B (Coll w B0) := fun pre W W' row ⟨eo, cap, h1, h2, h3⟩ hg hr => by
  have hne : ∀ g, (∃ cs t, W.heap[g]? = some (.cells cs t (0, 0))) → some g ≠ row := fun g ⟨cs, t, hc⟩ e => by
    obtain ⟨_, o, ho, hoc⟩ := hr g e.symm
    rw [hc] at ho
    cases ho
    cases hoc
  refine ⟨eo, cap, h1.kept hg (hne B0 ⟨_, _, h1⟩), ?_, h3.grown hg (Nat.le_trans hw h3.size) (fun k e => Nat.le_trans hB0 (hr k e).1)⟩
  refine (Turns.of_grown (F := fun i => row = some i) hg (fun _ h => h)).row h2 (fun g hgb e => ?_)
  rcases h2.2 with ⟨h0, _⟩ | ⟨g', c', cur, h0, _, hb, _⟩
  · rw [h0] at hgb
    simp [Value.ownBlock] at hgb
  · rw [h0] at hgb
    have : g' = g := by simpa [Value.ownBlock] using hgb
    subst this
    exact hne g' ⟨_, _, hb⟩ e.symm
theorem wpListIn_append_dot {F : Fence} {n : Nat} {ops : Array Oper} {rest : List Oper} {o : Oper} {a : Act} {Q : Exit → Act → World → Prop} (W0 W : World) (x : Int × Int) (hW : W = W0.alloc (.cells #[.int .i64 x.1, .int .i64 x.2] 31)) (hgd : o.guard = none) (s xx : Operand)
    (ho : o.op = .call { callee := .builtin .append, args := #[s, xx], argTypes := #[45, 45] }) (B : Nat) (v : Value) (ds : List (Int × Int))
    (hs : a.eval s = v) (hx : a.eval xx = .slice (some ⟨W0.heap.size, 0, none⟩) 1 1) (hown : W0.ownsRow B 31 2 v ds.length (flatD ds)) (hB : B ≤ W0.heap.size) (hl : ds.length ≤ 1000000)
    (h : ∀ v' w', w'.ownsRow B 31 2 v' (ds ++ [x]).length (flatD (ds ++ [x])) → Below B W0 w' → W.grownBy w' v.ownBlock → wpListIn F n Try.prog ops Q rest (a.put o.dst v') w') :
    wpListIn F n Try.prog ops Q (o :: rest) a W := by
  subst hW
  obtain ⟨iI, hj, hy0, hy1, hy2⟩ := info_parts Try.infoDot
  have hn := Blk.new W0 31 [.int .i64 x.1, .int .i64 x.2]
  refine wpListIn_append_own _ hgd s xx 45 ho B 31 iI (.agg #[.int .i64 0, .int .i64 0]) 2 16 Try.underlying45 hj hy0 hy1 hy2 rfl (by decide) v ds.length (flatD ds) hs (hown.alloc _) ⟨W0.heap.size, 0, none⟩ 1 1 [.int .i64 x.1, .int .i64 x.2] hx rfl (fun j u hu => ?_) (fun u hu => by simp at hu; rcases hu with rfl | rfl <;> rfl) (by unfold maxLen; omega) (by omega) (by simp; omega) ?_
  · rw [Addr.add_lit, Nat.zero_add]
    exact hn.cell hu
  · intro v' w' hown' hgrow _
    refine h v' w' ?_ (((Below.refl _ _).alloc hB _).grown hgrow (by simp; omega) (fun k hk => (hown.lt k hk).1)) hgrow
    rw [flatD_snoc, List.length_append]
    exact hown'
/-- The keys of D, collected. -/
def AnsK (w : World) (D : DataW Value) (e : Ending) (w' : World) : Prop := ∃ v ss, e = .returned v ∧ KeysOf' D ss ∧ ss.length ≤ Maps.size D ∧ w'.ownsRow w.heap.size 31 2 v ss.length (flatD ss) ∧ Below w.heap.size w w'
/-- The keys of D in order. -/
def SortedK (D : DataW Value) (ss : List (Int × Int)) : Prop := KeysOf' D ss ∧ ss.Pairwise (fun x y => cmpD x y < 0)
theorem sorted_keys {D : DataW Value} {gs hs : List (Int × Int)} (h : KeysOf' D gs) (hp : hs.Perm gs) (hw : hs.Pairwise (fun x y => ¬ cmpD y x < 0)) : SortedK D hs := by
  have hn : hs.Nodup := hp.nodup_iff.2 h.1
  refine ⟨⟨hn, fun o s => by rw [hp.mem_iff]; exact h.2 o s⟩, ?_⟩
  refine (hw.and hn).imp ?_
  rintro ⟨a1, a2⟩ ⟨b1, b2⟩ ⟨h1, h2⟩
  rw [cmpD_lt] at h1 ⊢
  simp only [ne_eq, Prod.mk.injEq] at h2
  simp only at h1 ⊢
  omega
def AnsX (w : World) (D : DataW Value) (e : Ending) (w' : World) : Prop := ∃ v ss, e = .returned v ∧ SortedK D ss ∧ ss.length ≤ Maps.size D ∧ w'.ownsRow w.heap.size 31 2 v ss.length (flatD ss) ∧ Below w.heap.size w w'
end Go.Proofs.Ytcammngbhnhjjaa
/-
  The order of dots as oplog's compareDots tells it, and slices.SortFunc by it.
-/
namespace Go.Proofs.Ytcammngbhnhjjaa
open Go.RowKit Go.Maps

set_option maxRecDepth 100000 in
theorem cmpLog_any (W : World) (x y : Int × Int) : Calls Try.prog 34 #[.agg #[.int .i64 x.1, .int .i64 x.2], .agg #[.int .i64 y.1, .int .i64 y.2]] W fun e w' => e = .returned (.int .i64 (cmpD x y)) ∧ ∃ q os', w' = Sort.grow (W.drewN q) os' := by
  obtain ⟨x1, x2⟩ := x
  obtain ⟨y1, y2⟩ := y
  obtain ⟨c1, HC1⟩ : ∃ c, Hid (cmpI x1 y1 = c) := ⟨_, hid rfl⟩
  obtain ⟨c2, HC2⟩ : ∃ c, Hid (cmpI x2 y2 = c) := ⟨_, hid rfl⟩
  have HK1 : Hid (∀ V, Calls Try.prog 49 #[.int .i64 x1, .int .i64 y1] V fun e w' => e = .returned (.int .i64 c1) ∧ w' = V) := fun V => by rw [← HC1.out]; exact compare_int V x1 y1
  have HK2 : Hid (∀ V, Calls Try.prog 49 #[.int .i64 x2, .int .i64 y2] V fun e w' => e = .returned (.int .i64 c2) ∧ w' = V) := fun V => by rw [← HC2.out]; exact compare_int V x2 y2
  obtain ⟨r, HR⟩ : ∃ r, Hid ((if c1 ≠ 0 then c1 else c2) = r) := ⟨_, hid rfl⟩
  have HRD : Hid (cmpD (x1, x2) (y1, y2) = r) := by show _ = _; unfold cmpD; rw [HC1.out, HC2.out]; exact HR.out
  have HK3 : Hid (∀ V g, V.cell? ⟨g, 0, none⟩ = some (.int .i64 c1) → V.cell? ⟨g, 1, none⟩ = some (.int .i64 c2) → Calls Try.prog 48 #[.slice (some ⟨g, 0, none⟩) 2 2] V fun e w' => e = .returned (.int .i64 r) ∧ w' = V) := fun V g h0 h1 => by rw [← HR.out]; exact or_ints V g c1 c2 h0 h1
  rw [HRD.out]
  go_enter Try.func34, Try.ntmps34
  have hbA : Blk ((W.alloc (.cells #[.int .i64 x1, .int .i64 x2] 31)).alloc (.cells #[.int .i64 y1, .int .i64 y2] 31)) W.heap.size 31 [.int .i64 x1, .int .i64 x2] := (Blk.new W 31 [.int .i64 x1, .int .i64 x2]).alloc _
  have hbB : Blk ((W.alloc (.cells #[.int .i64 x1, .int .i64 x2] 31)).alloc (.cells #[.int .i64 y1, .int .i64 y2] 31)) (W.heap.size + 1) 31 [.int .i64 y1, .int .i64 y2] := by
    have := Blk.new (W.alloc (.cells #[.int .i64 x1, .int .i64 x2] 31)) 31 [.int .i64 y1, .int .i64 y2]
    rw [World.size_alloc] at this
    exact this
  have HG : Hid ((W.alloc (.cells #[.int .i64 x1, .int .i64 x2] 31)).alloc (.cells #[.int .i64 y1, .int .i64 y2] 31) = Sort.grow W #[.cells #[.int .i64 x1, .int .i64 x2] 31, .cells #[.int .i64 y1, .int .i64 y2] 31]) := by show _ = _; rw [Sort.alloc_eq_grow, Sort.alloc_eq_grow, Sort.grow_grow]; rfl
  go_wp2
  generalize (W.alloc (.cells #[.int .i64 x1, .int .i64 x2] 31)).alloc (.cells #[.int .i64 y1, .int .i64 y2] 31) = W2 at *
  obtain ⟨pa, hpa⟩ : ∃ p, p = W.heap.size := ⟨_, rfl⟩
  obtain ⟨pb, hpb⟩ : ∃ p, p = W.heap.size + 1 := ⟨_, rfl⟩
  rw [← hpb, ← hpa]
  rw [← hpa] at hbA
  rw [← hpb] at hbB
  have a0 := hbA.cell (i := 0) rfl
  have a1 := hbA.cell (i := 1) rfl
  have b0 := hbB.cell (i := 0) rfl
  have b1 := hbB.cell (i := 1) rfl
  have n1 := hbA.lt
  have n2 := hbB.lt
  clear hbA hbB hpa hpb
  go_region_held3 (fun V => V.cell? ⟨pa, 0, none⟩ = some (.int .i64 x1) ∧ V.cell? ⟨pa, 1, none⟩ = some (.int .i64 x2) ∧ V.cell? ⟨pb, 0, none⟩ = some (.int .i64 y1) ∧ V.cell? ⟨pb, 1, none⟩ = some (.int .i64 y2)) (go_keep) (first
    | (go_at_call 49; with_reducible refine (HK1.out _).mono ?_; rintro e w' ⟨rfl, rfl⟩)
    | (go_at_call 49; with_reducible refine (HK2.out _).mono ?_; rintro e w' ⟨rfl, rfl⟩)
    | (go_at_call 48; refine (HK3.out _ _ ?_ ?_).mono ?_; (first | exact new2a _ _ rfl _ _ _ | (simp; exact new2a _ _ (by simp) _ _ _)); (first | exact new2b _ _ rfl _ _ _ | (simp; exact new2b _ _ (by simp) _ _ _)); rintro e w' ⟨rfl, rfl⟩))
  all_goals
    go_wp2
    go_ret
    refine ⟨rfl, 1, #[.cells #[.int .i64 x1, .int .i64 x2] 31, .cells #[.int .i64 y1, .int .i64 y2] 31, .cells #[.int .i64 c1, .int .i64 c2] 3], ?_⟩
    rw [HG.out, Sort.alloc_eq_grow, Sort.grow_grow]
    rfl
end Go.Proofs.Ytcammngbhnhjjaa
namespace Go.Proofs.Ytcammngbhnhjjaa
open Go.Shelf Go.RowKit Go.Lib Go.Sort
theorem sortLog_some {w : World} {B g cap : Nat} {gs : List (Int × Int)} (hown : w.ownsRow B 31 2 (.slice (some ⟨g, 0, none⟩) gs.length cap) gs.length (flatD gs)) (hsz : gs.length ≤ 65536) :
    Calls Try.prog 46 #[.slice (some ⟨g, 0, none⟩) gs.length cap, .func (.func 34) #[] #[]] w fun e w' => e = .returned (.tuple #[]) ∧ ∃ hs, hs.Perm gs ∧ hs.Pairwise (fun x y => ¬ cmpD y x < 0) ∧ w'.ownsRow B 31 2 (.slice (some ⟨g, 0, none⟩) gs.length cap) gs.length (flatD hs) ∧ w.grownBy w' (some g) := by
  obtain ⟨hH, hblk⟩ := holdsK_of_row (enc := dotCells) (fun _ => rfl) (by decide) hown
  have eg : ∀ args w, (callFunc 34 args).run Try.prog w = .ok (.enter 34 args) w := enters_of Try.func34 (by kernel_rfl) rfl
  have hcon := AnyQ.slices_SortFunc sortDots 2 (fun w => by kernel_rfl) (fun w => by kernel_rfl) dotCells (fun _ => rfl) (fun x v hv => by simp [dotCells] at hv; rcases hv with rfl | rfl <;> rfl) cmpD cmpD_swo 34 #[] g 0 cap gs.toArray w eg (fun _ _ _ _ x y => cmpLog_any _ x y) hH hblk (by simp; omega)
  change Calls Try.prog 46 _ _ _ at hcon
  rw [List.size_toArray] at hcon
  refine hcon.mono ?_
  rintro e w' ⟨rfl, d', n, os, hp, hso, rfl⟩
  obtain ⟨h1, h2, h3⟩ := hp
  have hl : d'.toList.length = gs.length := by simpa using h1
  have hd : d' = d'.toList.toArray := by simp
  have hr := row_of_sort (enc := dotCells) (fun _ => rfl) (by decide) hown d'.toList hl n os
  rw [← hd] at hr
  refine ⟨rfl, d'.toList, ?_, ?_, hr.1, hr.2⟩
  · have hx : d'.extract 0 gs.length = d' := by
      have : gs.length = d'.size := by simpa using h1.symm
      rw [this]
      simp
    rw [hx] at h3
    simpa using h3
  · rw [List.pairwise_iff_getElem]
    intro i j hi hj hij
    have := hso i j (Nat.zero_le _) hij (by rw [← hl]; exact hj)
    rw [getElem!_pos d' j (by simpa using hj), getElem!_pos d' i (by simpa using hi)] at this
    simpa [ltOf] using this
end Go.Proofs.Ytcammngbhnhjjaa
/-
  Laws on append, cutting and opening for slices of bytes, over any program: what 'append(v, x...)' makes of an owned row v and a slice x that holds bytes; what 's[l:]', 's[l:h]' hold; how an argument of type []byte is read. No function of the program is named here.
-/
namespace Go.Proofs.Ytcammngbhnhjjaa
open Go.RowKit

theorem wpList_append_held {P : Program} (w : World) {ops : Array Oper} {rest : List Oper} {o : Oper} {a : Act} {Q : Exit → Act → World → Prop} (hgd : o.guard = none) (s x : Operand) (t : TypeId)
    (ho : o.op = .call { callee := .builtin .append, args := #[s, x], argTypes := #[t, t] })
    (base : Nat) (e : TypeId) (i : TypeInfo) (ht : P.underlying t = some (.slice e)) (hi : P.info? e = some i) (hz : i.zero = some (.int .u8 0)) (hsize : i.size = 1) (hby : i.bytes = 1)
    (v : Value) (n : Nat) (bs : List Int) (hs : a.eval s = v) (hown : w.ownsRow base e 1 v n (nums bs)) (hbs : AllB bs)
    (ao : Option Addr) (m c : Nat) (cs : List Int) (hx : a.eval x = .slice ao m c) (hh : Held w ao m c cs) (hsum : n + m ≤ 140737488355328) (hbase : base ≤ w.heap.size)
    (h : ∀ bo cp w', w'.ownsRow base e 1 (.slice bo (n + m) cp) (n + m) (nums (bs ++ cs)) → Held w' bo (n + m) cp (bs ++ cs) → Below base w w' → Grew w w' v (.slice bo (n + m) cp) → wpList P ops Q rest (a.put o.dst (.slice bo (n + m) cp)) w') :
    wpList P ops Q (o :: rest) a w := by
  cases ao with
  | none =>
    have hc := hh.nil rfl
    have hm : m = 0 := by have := hh.hcap; omega
    subst hm hc
    have hcs : cs = [] := List.eq_nil_of_length_eq_zero hh.hlen
    subst hcs
    obtain ⟨bo, cp, rfl, hhv⟩ := held_of_own hown hbs
    refine wpList_plain hgd fun K hK => ?_
    have hr := run_append_owned_none (P := P) w base t o.type e i 1 ht hi _ n _ hown
    unfold Oper.wp execOp
    simp only [ho, resolve, invoke, builtin, Sem.run_bind, Sem.run_pure, Result.andThen_ok, List.map_toArray, List.map_cons, List.map_nil, hs, hx, hr]
    refine hK _ _ ?_
    have := h bo cp w (by simpa using hown) (by simpa using hhv) (Below.refl _ _) (Grew.refl _ _)
    simpa using this
  | some ad =>
    refine wpList_append_own_at w hgd s x t ho base e i (.int .u8 0) 1 1 ht hi hz hsize hby rfl (by decide) v n (nums bs) hs hown ad m c (nums cs) hx (by rw [nums_len, hh.hlen]; omega) (hh.news ad rfl) (nums_one cs) (by unfold maxLen; omega) (by omega) hbase ?_
    intro v' w' hown' hgrow _ hat
    rw [← nums_append] at hown'
    obtain ⟨bo, cp, rfl, hhv⟩ := held_of_own hown' (hbs.append hh.byte)
    exact h bo cp w' hown' hhv ((Below.refl _ _).grown hgrow hbase (own_lt hown)) (Grew.of hgrow hat)

theorem held_row {w : World} {x : Addr} {len cap : Nat} {zs : List Int} (hl : len ≤ cap) (hm : cap ≤ maxLen) (hz : zs.length = cap) (hcell : ∀ i, i < zs.length → w.cell? (x.add i) = some (.int .u8 (zs.getD i 0))) (hwz : ∀ n ∈ zs, (Lit.int .u8 n).wf = true) : Held w (some x) len cap (zs.take len) := by
  have hb : AllB zs := by
    intro c hc
    have := hwz c hc
    simpa [Lit.wf, IntKind.min, IntKind.max, IntKind.signed, IntKind.bits] using this
  refine ⟨by simp; omega, hl, hm, fun h => (by cases h), hb.take len, fun ad ha j hj => ?_, fun ad ha hp => ?_⟩
  · obtain rfl := Option.some.inj ha
    rw [hcell j (by omega)]
    simp [List.getD, List.getElem?_take_of_lt hj]
  · obtain rfl := Option.some.inj ha
    have := World.block_lt_of_cell? w _ (hcell 0 (by omega))
    simpa [Addr.add] using this

theorem held_nil (w : World) : Held w none 0 0 [] := ⟨rfl, Nat.le_refl _, Nat.zero_le _, fun _ => rfl, fun c hc => (by cases hc), fun ad h => (by cases h), fun ad h => (by cases h)⟩

/-- What 's[l:h]' holds. -/
def cutAt (ao : Option Addr) (cap l : Nat) : Option Addr := if cap = l then ao else ao.map (·.add l)
theorem addr_add (p : Addr) (i j : Nat) : (p.add i).add j = p.add (i + j) := by
  obtain ⟨b, o, s⟩ := p
  simp only [Addr.add]
  split <;> split <;> simp_all [Nat.add_assoc]

theorem run_cut_l {P : Program} (W : World) (t e : TypeId) (ht : P.underlying t = some (.slice e)) (hz : ∀ w, (Go.sizeOf e).run P w = .ok 1 w) (ao : Option Addr) (len cap l : Nat) (L : Int) (hL : L = (l : Int)) (hl : l ≤ len) :
    (Instr.slice t (.slice ao len cap) (some (.int .i64 L)) none none).run P W = .ok (.slice (cutAt ao cap l) (len - l) (cap - l)) W := by
  subst hL
  have ht' : P.underlying t = some (.slice (P.elem t)) := by simp [Program.elem, ht]
  have he : P.elem t = e := by simp [Program.elem, ht]
  rw [run_slice_l W t _ _ _ ht' .i64 _ (by omega) (by omega), he, hz]
  simp [Result.andThen, sliced, cutAt]

theorem run_cut_lh {P : Program} (W : World) (t e : TypeId) (ht : P.underlying t = some (.slice e)) (hz : ∀ w, (Go.sizeOf e).run P w = .ok 1 w) (ao : Option Addr) (len cap l h : Nat) (L U : Int) (hL : L = (l : Int)) (hU : U = (h : Int)) (hl : l ≤ h) (hh : h ≤ cap) :
    (Instr.slice t (.slice ao len cap) (some (.int .i64 L)) (some (.int .i64 U)) none).run P W = .ok (.slice (cutAt ao cap l) (h - l) (cap - l)) W := by
  subst hL hU
  have ht' : P.underlying t = some (.slice (P.elem t)) := by simp [Program.elem, ht]
  have he : P.elem t = e := by simp [Program.elem, ht]
  rw [run_slice_lh W t _ _ _ ht' .i64 .i64 _ _ (by omega) (by omega) (by omega), he, hz]
  simp [Result.andThen, sliced, cutAt]

theorem Held.cut {w : World} {ao : Option Addr} {len cap : Nat} {bs : List Int} (h : Held w ao len cap bs) {l u : Nat} (hl : l ≤ u) (hu : u ≤ len) : Held w (cutAt ao cap l) (u - l) (cap - l) ((bs.take u).drop l) := by
  have hlen := h.hlen
  have hcap := h.hcap
  refine ⟨by simp; omega, by omega, Nat.le_trans (Nat.sub_le _ _) h.hmax, fun hn => ?_, (h.byte.take u).drop l, fun ad ha j hj => ?_, fun ad ha hp => ?_⟩
  · unfold cutAt at hn
    split at hn
    · omega
    · have := h.nil (by simpa using hn)
      omega
  · unfold cutAt at ha
    rw [if_neg (by omega)] at ha
    obtain ⟨a0, rfl, rfl⟩ := Option.map_eq_some_iff.1 ha
    rw [addr_add, h.cell a0 rfl (l + j) (by omega)]
    simp [List.getD, List.getElem?_drop, List.getElem?_take_of_lt (show l + j < u by omega)]
  · unfold cutAt at ha
    rw [if_neg (by omega)] at ha
    obtain ⟨a0, rfl, rfl⟩ := Option.map_eq_some_iff.1 ha
    have := h.old a0 rfl (by omega)
    unfold Addr.add
    split <;> exact this
theorem Held.cutl {w : World} {ao : Option Addr} {len cap : Nat} {bs : List Int} (h : Held w ao len cap bs) {l : Nat} (hl : l ≤ len) : Held w (cutAt ao cap l) (len - l) (cap - l) (bs.drop l) := by
  have := h.cut hl (Nat.le_refl _)
  rwa [List.take_of_length_le (by rw [h.hlen]; exact Nat.le_refl _)] at this
end Go.Proofs.Ytcammngbhnhjjaa
