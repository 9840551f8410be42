/-
  Package dots: closeGap.
-/
import Derived.Test.YtjlompnjhmbhhaaGreatDotsC
import Derived.Test.YtjlompnjhmbhhaaGreatStrClone2
import Derived.Shelf.SlSortCmp.WholeK
import Derived.Shelf.Lay
import Derived.Ground.SlsfProg
import Derived.Sort.MapsRangeIn
import Derived.RangeFuncSeq
import Derived.Test.YtjlompnjhmbhhaaGreatOlE
namespace Go.Proofs.YtjlompnjhmbhhaaGreat
open Go.RowKit Go.Maps

def mcount (w : World) (m : Nat) : Nat := match w.heap[m]? with
  | some (.map es _) => es.size
  | _ => 0
theorem mcount_eq {w : World} {m n : Nat} {D : DataW Value} (h : w.ownsMap Tryz.prog 25 valR m n D) : mcount w m = Maps.size D := by
  obtain ⟨es, clock, hb, F, _, rfl⟩ := h
  simp [mcount, hb, Maps.size, length_sorted]
theorem Tryz.infoS : (Tryz.prog.info? 9).map (fun i => (i.zero, i.size, i.bytes)) = some (some (.string ⟨#[]⟩), 1, 16) := by kernel_rfl
section
variable {w : World} {p m N k : Nat} {rs : Nat → Value} {R : Nat → List Value} {D : DataW Value} {S : Int → Int → Option Value}
end
end Go.Proofs.YtjlompnjhmbhhaaGreat
/-
  Package dots: Add.
-/
namespace Go.Proofs.YtjlompnjhmbhhaaGreat
open Go.RowKit Go.Maps

def updS (S : Int → Int → Option Value) (o s : Int) (x : Value) (o' s' : Int) : Option Value := if o' = o ∧ s' = s then some x else S o' s'
/-- What Add answers. -/
def addCode (S : Int → Int → Option Value) (N : Nat) (o s : Int) : Int := if MayD o s then (if (S o s).isSome then 5 else if 65536 ≤ N then 2 else 0) else 1
section
variable {w w3 : World} {p m N : Nat} {rs : Nat → Value} {R : Nat → List Value} {D : DataW Value} {S : Int → Int → Option Value}
end
end Go.Proofs.YtjlompnjhmbhhaaGreat
/-
  Package dots: Vector.
-/
namespace Go.Proofs.YtjlompnjhmbhhaaGreat
open Go.RowKit Go.Maps

def lensOf (R : Nat → List Value) : List Int := [((R 0).length : Int), ((R 1).length : Int), ((R 2).length : Int), ((R 3).length : Int), ((R 4).length : Int), ((R 5).length : Int), ((R 6).length : Int)]
section
variable {w : World} {p m N : Nat} {rs : Nat → Value} {R : Nat → List Value} {D : DataW Value} {S : Int → Int → Option Value}
end
end Go.Proofs.YtjlompnjhmbhhaaGreat
/-
  Package dots: the order of dots.
-/
namespace Go.Proofs.YtjlompnjhmbhhaaGreat
open Go.RowKit Go.Maps

def cmpI (x y : Int) : Int := if x < y then -1 else if y < x then 1 else 0
def cmpD (a b : Int × Int) : Int := if cmpI a.1 b.1 ≠ 0 then cmpI a.1 b.1 else cmpI a.2 b.2
theorem isNaN_int (w : World) (x : Int) : Calls Tryz.prog 85 #[.int .i64 x] w fun e w' => e = .returned (.bool false) ∧ w' = w := by
  go_enter Tryz.func85, Tryz.ntmps85
  go_wp2
  go_ret
  exact ⟨by simp, rfl⟩
theorem compare_int (w : World) (x y : Int) : Calls Tryz.prog 67 #[.int .i64 x, .int .i64 y] w fun e w' => e = .returned (.int .i64 (cmpI x y)) ∧ w' = w := by
  have HX := hid (isNaN_int w x)
  have HY := hid (isNaN_int w y)
  by_cases h1 : x < y
  · have HC : Hid (cmpI x y = -1) := by show _ = _; unfold cmpI; rw [if_pos h1]
    go_enter Tryz.func67, Tryz.ntmps67
    go_wp2_with fail
    refine HX.out.mono ?_
    rintro e w' ⟨rfl, rfl⟩
    go_wp2_with fail
    refine HY.out.mono ?_
    rintro e w' ⟨rfl, rfl⟩
    go_wp2
    go_ret
    exact ⟨by rw [HC.out]; rfl, rfl⟩
  · by_cases h2 : y < x
    · have HC : Hid (cmpI x y = 1) := by show _ = _; unfold cmpI; rw [if_neg h1, if_pos h2]
      go_enter Tryz.func67, Tryz.ntmps67
      go_wp2_with fail
      refine HX.out.mono ?_
      rintro e w' ⟨rfl, rfl⟩
      go_wp2_with fail
      refine HY.out.mono ?_
      rintro e w' ⟨rfl, rfl⟩
      go_wp2
      go_ret
      exact ⟨by rw [HC.out]; rfl, rfl⟩
    · have HC : Hid (cmpI x y = 0) := by show _ = _; unfold cmpI; rw [if_neg h1, if_neg h2]
      go_enter Tryz.func67, Tryz.ntmps67
      go_wp2_with fail
      refine HX.out.mono ?_
      rintro e w' ⟨rfl, rfl⟩
      go_wp2_with fail
      refine HY.out.mono ?_
      rintro e w' ⟨rfl, rfl⟩
      go_wp2
      go_ret
      exact ⟨by rw [HC.out]; rfl, rfl⟩
set_option maxRecDepth 100000 in
theorem or_ints (w : World) (g : Nat) (a b : Int) (h0 : w.cell? ⟨g, 0, none⟩ = some (.int .i64 a)) (h1 : w.cell? ⟨g, 1, none⟩ = some (.int .i64 b)) :
    Calls Tryz.prog 66 #[.slice (some ⟨g, 0, none⟩) 2 2] w fun e w' => e = .returned (.int .i64 (if a ≠ 0 then a else b)) ∧ w' = w := by
  by_cases ha : a = 0
  · subst ha
    by_cases hb : b = 0
    · subst hb
      go_enter Tryz.func66, Tryz.ntmps66
      go_wp2
      refine wp_loop_rounds 3 ?_
      rw [rounds_succ]
      go_wp2
      rw [rounds_succ]
      go_wp2
      rw [rounds_succ]
      go_wp2
      go_ret
      exact ⟨rfl, rfl⟩
    · have hb' : (b != 0) = true := by simpa using hb
      go_enter Tryz.func66, Tryz.ntmps66
      go_wp2
      refine wp_loop_rounds 3 ?_
      rw [rounds_succ]
      go_wp2
      rw [rounds_succ]
      go_wp2
      go_ret
      exact ⟨rfl, rfl⟩
  · have ha' : (a != 0) = true := by simpa using ha
    go_enter Tryz.func66, Tryz.ntmps66
    go_wp2
    refine wp_loop_rounds 3 ?_
    rw [rounds_succ]
    go_wp2
    go_ret
    exact ⟨rfl, rfl⟩
theorem new2a (V : World) (g : Nat) (hg : g = V.heap.size) (a b : Value) (t : TypeId) : (V.alloc (.cells #[a, b] t)).cell? ⟨g, 0, none⟩ = some a := by subst hg; exact (Blk.new V t [a, b]).cell rfl
theorem new2b (V : World) (g : Nat) (hg : g = V.heap.size) (a b : Value) (t : TypeId) : (V.alloc (.cells #[a, b] t)).cell? ⟨g, 1, none⟩ = some b := by subst hg; exact (Blk.new V t [a, b]).cell rfl
end Go.Proofs.YtjlompnjhmbhhaaGreat
/-
  Package dots: slices.SortFunc over dots.
-/
namespace Go.Proofs
open Go.Shelf Go.RowKit Go.Lib Go.Sort
shelf_lay_g SlLaysF0.n6 Slsf 6 at Tryz 64 as YtjlompnjhmbhhaaGreat.sortDots
end Go.Proofs
namespace Go.Proofs.YtjlompnjhmbhhaaGreat
open Go.Shelf Go.RowKit Go.Lib Go.Sort

def dotCells (x : Int × Int) : List Value := [.int .i64 x.1, .int .i64 x.2]
theorem flatD_eq (ds : List (Int × Int)) : flatD ds = ds.flatMap dotCells := rfl
theorem cmpD_lt (x y : Int × Int) : cmpD x y < 0 ↔ (x.1 < y.1 ∨ x.1 = y.1 ∧ x.2 < y.2) := by
  unfold cmpD cmpI
  (repeat' split) <;> omega
theorem cmpD_swo : Sort.SWO (ltOf cmpD) where
  irrefl x := by
    have := cmpD_lt x x
    simp [ltOf]
    omega
  trans x y z h1 h2 := by
    simp [ltOf, cmpD_lt] at h1 h2 ⊢
    omega
  ntrans x y z h1 h2 := by
    have a := cmpD_lt x y
    have b := cmpD_lt y z
    have c := cmpD_lt x z
    simp [ltOf] at h1 h2 ⊢
    omega
theorem insert_nil (w : World) (c : Nat) : Calls Tryz.prog 92 #[.slice none 0 0, .int .i64 0, .int .i64 0, .func (.func c) #[] #[]] w fun e w' => e = .returned (.tuple #[]) ∧ w' = w := by
  go_enter Tryz.func92, Tryz.ntmps92
  go_wp2
  refine wp_loop_rounds 1 ?_
  rw [rounds_succ]
  go_wp2
  refine bodyPost_end (results_none rfl _ _ _) rfl ?_
  exact ⟨rfl, rfl⟩
set_option maxRecDepth 100000 in
theorem pdq_nil (w : World) (c : Nat) (l : Int) : Calls Tryz.prog 83 #[.slice none 0 0, .int .i64 0, .int .i64 0, .int .i64 l, .func (.func c) #[] #[]] w fun e w' => e = .returned (.tuple #[]) ∧ w' = w := by
  have H := hid (insert_nil w c)
  go_enter Tryz.func83, Tryz.ntmps83
  go_wp2
  refine wp_loop_rounds 1 ?_
  rw [rounds_succ]
  go_wp2_with fail
  refine H.out.mono ?_
  rintro e w' ⟨rfl, rfl⟩
  go_wp2
  refine bodyPost_ret (results_none rfl _ _ _) rfl ?_
  exact ⟨rfl, rfl⟩
theorem sortD_nil (w : World) (c : Nat) : Calls Tryz.prog 64 #[.slice none 0 0, .func (.func c) #[] #[]] w fun e w' => e = .returned (.tuple #[]) ∧ w' = w := by
  have H := hid (fun l => pdq_nil w c l)
  have HB := hid (Any.bits_Len (SlLaysF0.n15.bits { sortDots with }) 0 w (by omega) (by omega))
  go_enter Tryz.func64, Tryz.ntmps64
  go_wp2_with fail
  refine HB.out.mono ?_
  rintro e w' ⟨rfl, rfl⟩
  go_wp2_with fail
  refine (H.out _).mono ?_
  rintro e w' ⟨rfl, rfl⟩
  go_wp2
  refine bodyPost_end (results_none rfl _ _ _) rfl ?_
  exact ⟨rfl, rfl⟩
end Go.Proofs.YtjlompnjhmbhhaaGreat
/-
  maps.Keys of a map with dots as keys: its iterator yields each key once, in some order; in a fence.
-/
namespace Go.Proofs.YtjlompnjhmbhhaaGreat
open Go.RowKit Go.Shelf Go.Maps
attribute [local go_sem] Oper.semAt_some

/-- ss tells the keys of D, each once. -/
def KeysOf' (D : DataW Value) (ss : List (Int × Int)) : Prop := ss.Nodup ∧ ∀ o s, (o, s) ∈ ss ↔ I64 o ∧ I64 s ∧ (look D (dk o s)).isSome = true
/-- What has come, and what is left. -/
structure CollD (D : DataW Value) (left : Lit → Bool) (ss : List (Int × Int)) : Prop where
  nodup : ss.Nodup
  come : ∀ o s, (o, s) ∈ ss → I64 o ∧ I64 s ∧ Maps.has D (dk o s) = true ∧ left (dk o s) = false
  rest : ∀ o s, I64 o → I64 s → Maps.has D (dk o s) = true → left (dk o s) = false → (o, s) ∈ ss
theorem CollD.start (D : DataW Value) : CollD D (Maps.has D) [] := ⟨.nil, fun _ _ h => (by cases h), fun o s _ _ h1 h2 => (by rw [h1] at h2; cases h2)⟩
theorem same_dk {o s o' s' : Int} (ho : I64 o) (hs : I64 s) (ho' : I64 o') (hs' : I64 s') : (dk o s).sameKey (dk o' s') = decide (o = o' ∧ s = s') := by
  rw [Bool.eq_iff_iff, decide_eq_true_eq, WideAt.sameKey_iff (by trivial)]
  exact ⟨fun h => dk_inj ho hs ho' hs' h, fun ⟨a, b⟩ => by rw [a, b]⟩
theorem CollD.step {D : DataW Value} {left : Lit → Bool} {ss : List (Int × Int)} (h : CollD D left ss) {o s : Int} (ho : I64 o) (hs : I64 s) (hl : left (dk o s) = true) (hh : Maps.has D (dk o s) = true) : CollD D (fun z => left z && !z.sameKey (dk o s)) (ss ++ [(o, s)]) := by
  have hn : (o, s) ∉ ss := fun hm => by
    have := (h.come o s hm).2.2.2
    rw [hl] at this
    cases this
  refine ⟨?_, ?_, ?_⟩
  · rw [List.nodup_append]
    exact ⟨h.nodup, by simp, fun a ha b hb => by simp at hb; subst hb; rintro rfl; exact hn ha⟩
  · intro o' s' hm
    rcases List.mem_append.1 hm with hm | hm
    · obtain ⟨h1, h2, h3, h4⟩ := h.come o' s' hm
      exact ⟨h1, h2, h3, by simp [h4]⟩
    · simp at hm
      obtain ⟨rfl, rfl⟩ := hm
      exact ⟨ho, hs, hh, by simp [same_dk ho hs ho hs]⟩
  · intro o' s' ho' hs' h1 h2
    rw [same_dk ho' hs' ho hs] at h2
    by_cases e : o' = o ∧ s' = s
    · obtain ⟨rfl, rfl⟩ := e
      simp
    · simp [e] at h2
      exact List.mem_append.2 (.inl (h.rest o' s' ho' hs' h1 h2))
theorem CollD.done {D : DataW Value} {left : Lit → Bool} {ss : List (Int × Int)} (h : CollD D left ss) (hD : AllHeld D) (hl : ∀ kl, left kl = false) : KeysOf' D ss := by
  refine ⟨h.nodup, fun o s => ⟨fun hm => ?_, fun ⟨h1, h2, h3⟩ => ?_⟩⟩
  · obtain ⟨h1, h2, h3, _⟩ := h.come o s hm
    exact ⟨h1, h2, by rw [← has_look hD]; exact h3⟩
  · exact h.rest o s h1 h2 (by rw [has_look hD]; exact h3) (hl _)

end Go.Proofs.YtjlompnjhmbhhaaGreat
/-
  Package dots: the keys of a map, collected; Extras.
-/
namespace Go.Proofs.YtjlompnjhmbhhaaGreat
open Go.RowKit Go.Shelf Go.Maps
attribute [local go_sem] Oper.semAt_some

theorem keeps_row {W W' : World} {B e size n : Nat} {v : Value} {xs : List Value} (h : W.ownsRow B e size v n xs) (hg : W.grownBy W' v.ownBlock) : KeepsOthers W W' := by
  refine KeepsOthers.of_grownBy hg fun j o hj ho => ?_
  rcases h.2 with ⟨rfl, _⟩ | ⟨g, cap, cur, rfl, _, hb, _⟩
  · simp [Value.ownBlock] at hj
  · have : g = j := by simpa [Value.ownBlock] using hj
    subst this
    rw [hb] at ho
    cases ho
    rfl
/-- What lies between two rounds: the box at B0 holds the row of what has come. -/
def Coll (w : World) (B0 : Nat) (pre : List (Int × Int)) (W : World) : Prop := ∃ eo cap, Boxed W B0 47 (.slice eo pre.length cap) ∧ W.ownsRow B0 25 2 (.slice eo pre.length cap) pre.length (flatD pre) ∧ Below B0 w W
theorem coll_own (w : World) (B0 B : Nat) (hB0 : B0 ≤ B) (hw : B0 ≤ w.heap.size) : OwnFrom B (Coll w B0) := fun pre W W' row ⟨eo, cap, h1, h2, h3⟩ hg hr => by
  have hne : ∀ g, (∃ cs t, W.heap[g]? = some (.cells cs t (0, 0))) → some g ≠ row := fun g ⟨cs, t, hc⟩ e => by
    obtain ⟨_, o, ho, hoc⟩ := hr g e.symm
    rw [hc] at ho
    cases ho
    cases hoc
  refine ⟨eo, cap, h1.kept hg (hne B0 ⟨_, _, h1⟩), ?_, h3.grown hg (Nat.le_trans hw h3.size) (fun k e => Nat.le_trans hB0 (hr k e).1)⟩
  refine (Turns.of_grown (F := fun i => row = some i) hg (fun _ h => h)).row h2 (fun g hgb e => ?_)
  rcases h2.2 with ⟨h0, _⟩ | ⟨g', c', cur, h0, _, hb, _⟩
  · rw [h0] at hgb
    simp [Value.ownBlock] at hgb
  · rw [h0] at hgb
    have : g' = g := by simpa [Value.ownBlock] using hgb
    subst this
    exact hne g' ⟨_, _, hb⟩ e.symm
theorem wpListIn_append_dot {F : Fence} {n : Nat} {ops : Array Oper} {rest : List Oper} {o : Oper} {a : Act} {Q : Exit → Act → World → Prop} (W0 W : World) (x : Int × Int) (hW : W = W0.alloc (.cells #[.int .i64 x.1, .int .i64 x.2] 25)) (hgd : o.guard = none) (s xx : Operand)
    (ho : o.op = .call { callee := .builtin .append, args := #[s, xx], argTypes := #[47, 47] }) (B : Nat) (v : Value) (ds : List (Int × Int))
    (hs : a.eval s = v) (hx : a.eval xx = .slice (some ⟨W0.heap.size, 0, none⟩) 1 1) (hown : W0.ownsRow B 25 2 v ds.length (flatD ds)) (hB : B ≤ W0.heap.size) (hl : ds.length ≤ 1000000)
    (h : ∀ v' w', w'.ownsRow B 25 2 v' (ds ++ [x]).length (flatD (ds ++ [x])) → Below B W0 w' → W.grownBy w' v.ownBlock → wpListIn F n Tryz.prog ops Q rest (a.put o.dst v') w') :
    wpListIn F n Tryz.prog ops Q (o :: rest) a W := by
  subst hW
  obtain ⟨iI, hj, hy0, hy1, hy2⟩ := info_parts Tryz.infoDot
  have hn := Blk.new W0 25 [.int .i64 x.1, .int .i64 x.2]
  refine wpListIn_append_own _ hgd s xx 47 ho B 25 iI (.agg #[.int .i64 0, .int .i64 0]) 2 16 Tryz.underlying47 hj hy0 hy1 hy2 rfl (by decide) v ds.length (flatD ds) hs (hown.alloc _) ⟨W0.heap.size, 0, none⟩ 1 1 [.int .i64 x.1, .int .i64 x.2] hx rfl (fun j u hu => ?_) (fun u hu => by simp at hu; rcases hu with rfl | rfl <;> rfl) (by unfold maxLen; omega) (by omega) (by simp; omega) ?_
  · rw [Addr.add_lit, Nat.zero_add]
    exact hn.cell hu
  · intro v' w' hown' hgrow _
    refine h v' w' ?_ (((Below.refl _ _).alloc hB _).grown hgrow (by simp; omega) (fun k hk => (hown.lt k hk).1)) hgrow
    rw [flatD_snoc, List.length_append]
    exact hown'
/-- The keys of D, collected. -/
def AnsK (w : World) (D : DataW Value) (e : Ending) (w' : World) : Prop := ∃ v ss, e = .returned v ∧ KeysOf' D ss ∧ ss.length ≤ Maps.size D ∧ w'.ownsRow w.heap.size 25 2 v ss.length (flatD ss) ∧ Below w.heap.size w w'
/-- The keys of D in order. -/
def SortedK (D : DataW Value) (ss : List (Int × Int)) : Prop := KeysOf' D ss ∧ ss.Pairwise (fun x y => cmpD x y < 0)
theorem sorted_keys {D : DataW Value} {gs hs : List (Int × Int)} (h : KeysOf' D gs) (hp : hs.Perm gs) (hw : hs.Pairwise (fun x y => ¬ cmpD y x < 0)) : SortedK D hs := by
  have hn : hs.Nodup := hp.nodup_iff.2 h.1
  refine ⟨⟨hn, fun o s => by rw [hp.mem_iff]; exact h.2 o s⟩, ?_⟩
  refine (hw.and hn).imp ?_
  rintro ⟨a1, a2⟩ ⟨b1, b2⟩ ⟨h1, h2⟩
  rw [cmpD_lt] at h1 ⊢
  simp only [ne_eq, Prod.mk.injEq] at h2
  simp only at h1 ⊢
  omega
def AnsX (w : World) (D : DataW Value) (e : Ending) (w' : World) : Prop := ∃ v ss, e = .returned v ∧ SortedK D ss ∧ ss.length ≤ Maps.size D ∧ w'.ownsRow w.heap.size 25 2 v ss.length (flatD ss) ∧ Below w.heap.size w w'
end Go.Proofs.YtjlompnjhmbhhaaGreat
/-
  The order of dots as oplog's compareDots tells it, and slices.SortFunc by it.
-/
namespace Go.Proofs.YtjlompnjhmbhhaaGreat
open Go.RowKit Go.Maps

set_option maxRecDepth 100000 in
theorem cmpLog_any (W : World) (x y : Int × Int) : Calls Tryz.prog 42 #[.agg #[.int .i64 x.1, .int .i64 x.2], .agg #[.int .i64 y.1, .int .i64 y.2]] W fun e w' => e = .returned (.int .i64 (cmpD x y)) ∧ ∃ q os', w' = Sort.grow (W.drewN q) os' := by
  obtain ⟨x1, x2⟩ := x
  obtain ⟨y1, y2⟩ := y
  obtain ⟨c1, HC1⟩ : ∃ c, Hid (cmpI x1 y1 = c) := ⟨_, hid rfl⟩
  obtain ⟨c2, HC2⟩ : ∃ c, Hid (cmpI x2 y2 = c) := ⟨_, hid rfl⟩
  have HK1 : Hid (∀ V, Calls Tryz.prog 67 #[.int .i64 x1, .int .i64 y1] V fun e w' => e = .returned (.int .i64 c1) ∧ w' = V) := fun V => by rw [← HC1.out]; exact compare_int V x1 y1
  have HK2 : Hid (∀ V, Calls Tryz.prog 67 #[.int .i64 x2, .int .i64 y2] V fun e w' => e = .returned (.int .i64 c2) ∧ w' = V) := fun V => by rw [← HC2.out]; exact compare_int V x2 y2
  obtain ⟨r, HR⟩ : ∃ r, Hid ((if c1 ≠ 0 then c1 else c2) = r) := ⟨_, hid rfl⟩
  have HRD : Hid (cmpD (x1, x2) (y1, y2) = r) := by show _ = _; unfold cmpD; rw [HC1.out, HC2.out]; exact HR.out
  have HK3 : Hid (∀ V g, V.cell? ⟨g, 0, none⟩ = some (.int .i64 c1) → V.cell? ⟨g, 1, none⟩ = some (.int .i64 c2) → Calls Tryz.prog 66 #[.slice (some ⟨g, 0, none⟩) 2 2] V fun e w' => e = .returned (.int .i64 r) ∧ w' = V) := fun V g h0 h1 => by rw [← HR.out]; exact or_ints V g c1 c2 h0 h1
  rw [HRD.out]
  go_enter Tryz.func42, Tryz.ntmps42
  have hbA : Blk ((W.alloc (.cells #[.int .i64 x1, .int .i64 x2] 25)).alloc (.cells #[.int .i64 y1, .int .i64 y2] 25)) W.heap.size 25 [.int .i64 x1, .int .i64 x2] := (Blk.new W 25 [.int .i64 x1, .int .i64 x2]).alloc _
  have hbB : Blk ((W.alloc (.cells #[.int .i64 x1, .int .i64 x2] 25)).alloc (.cells #[.int .i64 y1, .int .i64 y2] 25)) (W.heap.size + 1) 25 [.int .i64 y1, .int .i64 y2] := by
    have := Blk.new (W.alloc (.cells #[.int .i64 x1, .int .i64 x2] 25)) 25 [.int .i64 y1, .int .i64 y2]
    rw [World.size_alloc] at this
    exact this
  have HG : Hid ((W.alloc (.cells #[.int .i64 x1, .int .i64 x2] 25)).alloc (.cells #[.int .i64 y1, .int .i64 y2] 25) = Sort.grow W #[.cells #[.int .i64 x1, .int .i64 x2] 25, .cells #[.int .i64 y1, .int .i64 y2] 25]) := by show _ = _; rw [Sort.alloc_eq_grow, Sort.alloc_eq_grow, Sort.grow_grow]; rfl
  go_wp2
  generalize (W.alloc (.cells #[.int .i64 x1, .int .i64 x2] 25)).alloc (.cells #[.int .i64 y1, .int .i64 y2] 25) = W2 at *
  obtain ⟨pa, hpa⟩ : ∃ p, p = W.heap.size := ⟨_, rfl⟩
  obtain ⟨pb, hpb⟩ : ∃ p, p = W.heap.size + 1 := ⟨_, rfl⟩
  rw [← hpb, ← hpa]
  rw [← hpa] at hbA
  rw [← hpb] at hbB
  have a0 := hbA.cell (i := 0) rfl
  have a1 := hbA.cell (i := 1) rfl
  have b0 := hbB.cell (i := 0) rfl
  have b1 := hbB.cell (i := 1) rfl
  have n1 := hbA.lt
  have n2 := hbB.lt
  clear hbA hbB hpa hpb
  go_region_held3 (fun V => V.cell? ⟨pa, 0, none⟩ = some (.int .i64 x1) ∧ V.cell? ⟨pa, 1, none⟩ = some (.int .i64 x2) ∧ V.cell? ⟨pb, 0, none⟩ = some (.int .i64 y1) ∧ V.cell? ⟨pb, 1, none⟩ = some (.int .i64 y2)) (go_keep) (first
    | (go_at_call 67; with_reducible refine (HK1.out _).mono ?_; rintro e w' ⟨rfl, rfl⟩)
    | (go_at_call 67; with_reducible refine (HK2.out _).mono ?_; rintro e w' ⟨rfl, rfl⟩)
    | (go_at_call 66; refine (HK3.out _ _ ?_ ?_).mono ?_; (first | exact new2a _ _ rfl _ _ _ | (simp; exact new2a _ _ (by simp) _ _ _)); (first | exact new2b _ _ rfl _ _ _ | (simp; exact new2b _ _ (by simp) _ _ _)); rintro e w' ⟨rfl, rfl⟩))
  all_goals
    go_wp2
    go_ret
    refine ⟨rfl, 1, #[.cells #[.int .i64 x1, .int .i64 x2] 25, .cells #[.int .i64 y1, .int .i64 y2] 25, .cells #[.int .i64 c1, .int .i64 c2] 3], ?_⟩
    rw [HG.out, Sort.alloc_eq_grow, Sort.grow_grow]
    rfl
end Go.Proofs.YtjlompnjhmbhhaaGreat
namespace Go.Proofs.YtjlompnjhmbhhaaGreat
open Go.Shelf Go.RowKit Go.Lib Go.Sort
theorem sortLog_some {w : World} {B g cap : Nat} {gs : List (Int × Int)} (hown : w.ownsRow B 25 2 (.slice (some ⟨g, 0, none⟩) gs.length cap) gs.length (flatD gs)) (hsz : gs.length ≤ 65536) :
    Calls Tryz.prog 64 #[.slice (some ⟨g, 0, none⟩) gs.length cap, .func (.func 42) #[] #[]] w fun e w' => e = .returned (.tuple #[]) ∧ ∃ hs, hs.Perm gs ∧ hs.Pairwise (fun x y => ¬ cmpD y x < 0) ∧ w'.ownsRow B 25 2 (.slice (some ⟨g, 0, none⟩) gs.length cap) gs.length (flatD hs) ∧ w.grownBy w' (some g) := by
  obtain ⟨hH, hblk⟩ := holdsK_of_row (enc := dotCells) (fun _ => rfl) (by decide) hown
  have eg : ∀ args w, (callFunc 42 args).run Tryz.prog w = .ok (.enter 42 args) w := enters_of Tryz.func42 (by kernel_rfl) rfl
  have hcon := AnyQ.slices_SortFunc sortDots 2 (fun w => by kernel_rfl) (fun w => by kernel_rfl) dotCells (fun _ => rfl) (fun x v hv => by simp [dotCells] at hv; rcases hv with rfl | rfl <;> rfl) cmpD cmpD_swo 42 #[] g 0 cap gs.toArray w eg (fun _ _ _ _ x y => cmpLog_any _ x y) hH hblk (by simp; omega)
  change Calls Tryz.prog 64 _ _ _ at hcon
  rw [List.size_toArray] at hcon
  refine hcon.mono ?_
  rintro e w' ⟨rfl, d', n, os, hp, hso, rfl⟩
  obtain ⟨h1, h2, h3⟩ := hp
  have hl : d'.toList.length = gs.length := by simpa using h1
  have hd : d' = d'.toList.toArray := by simp
  have hr := row_of_sort (enc := dotCells) (fun _ => rfl) (by decide) hown d'.toList hl n os
  rw [← hd] at hr
  refine ⟨rfl, d'.toList, ?_, ?_, hr.1, hr.2⟩
  · have hx : d'.extract 0 gs.length = d' := by
      have : gs.length = d'.size := by simpa using h1.symm
      rw [this]
      simp
    rw [hx] at h3
    simpa using h3
  · rw [List.pairwise_iff_getElem]
    intro i j hi hj hij
    have := hso i j (Nat.zero_le _) hij (by rw [← hl]; exact hj)
    rw [getElem!_pos d' j (by simpa using hj), getElem!_pos d' i (by simpa using hi)] at this
    simpa [ltOf] using this
end Go.Proofs.YtjlompnjhmbhhaaGreat
/-
  The dots of the events that wait, in order: maps.Keys, slices.Collect, slices.SortedFunc.
-/
namespace Go.Proofs.YtjlompnjhmbhhaaGreat
open Go.RowKit Go.Shelf Go.Maps
attribute [local go_sem] Oper.semAt_some

set_option maxRecDepth 100000 in
set_option maxHeartbeats 1000000 in
theorem keysLog_seq (n : Nat) (hn : 1 ≤ n) (Bm b nn : Nat) (D0 : DataW Value) (V : World) (hm : V.cell? ⟨Bm, 0, none⟩ = some (.map (some b))) (hown : V.ownsMap Tryz.prog 25 valR b nn D0) :
    SeqStopsK Fence.wide n Tryz.prog 65 #[.pointer (some ⟨Bm, 0, none⟩)] (fun x : Int × Int => #[dotV x]) KeepsWalks (fun ss => KeysOf' D0 ss ∧ ss.length ≤ Maps.size D0) (fun _ => True) (Maps.size D0) V := by
  intro l J Jx W hW hJ hJx hY h0
  have hm' : W.cell? ⟨Bm, 0, none⟩ = some (.map (some b)) := (hW.cell (World.block_lt_of_cell? V _ hm)).trans hm
  have hown' : W.ownsMap Tryz.prog 25 valR b nn D0 := (Turns.of_below (F := fun _ => False) hW (Nat.le_refl _)).map hown (fun h => h)
  have HAH := hid (allHeld_of hown)
  have HJ := hid hJ
  have HY := hid hY
  clear hm hown hW hJ hJx hY
  change CallsIn Fence.wide n Tryz.prog 65 #[.func (.yield l) #[] #[], .pointer (some ⟨Bm, 0, none⟩)] W _
  refine callsIn_of_wp Tryz.func65 rfl trivial ?_ rfl
  simp only [Tryz.ntmps65, List.size_toArray, List.length_cons, List.length_nil, Nat.reduceAdd, Nat.reduceSub, Array.replicate_succ, Array.replicate_zero, List.push_toArray, List.append_toArray, List.nil_append, List.cons_append]
  gi_wp2_with (first
    | (gi_at_range; refine wpListIn_range_own _ rfl _ 41 rfl 25 33 Tryz.keyedDot Tryz.underlying41 _ b nn _ rfl hown' ?_; intro w0 hrg0 hg0 hs0)
    | gi_in)
  gi_loopw [3] (fun _ wr => Hid (∃ (left : Lit → Bool) (cnt : Nat) (ss : List (Int × Int)), wr.ranges Tryz.prog 25 valR b W.heap.size nn D0 left cnt ∧ CollD D0 left ss ∧ J ss wr ∧ ss.length + cnt ≤ Maps.size D0 ∧ W.heap.size ≤ wr.heap.size))
    (fun _ wr => wr.rangeLeft b W.heap.size)
  case atStart =>
    exact ⟨_, _, [], hrg0, CollD.start D0, HJ.out [] W w0 none h0 hg0 (fun r e => by cases e), by simp, hg0.size⟩
  case round =>
    obtain ⟨left, cnt, ss, hrg, hC, hJs, hcnt, hsz⟩ := hrel.out
    clear hrel
    gi_wp2_with (first
      | (gi_at_next; refine wpListIn_next_ranges _ rfl _ rfl 25 Tryz.keyedDot valR (fun x : Int × Int => dotV x) (fun v : Value => v) (fun key kl hk => by obtain ⟨o, s, hx, _⟩ := dk_inv hk; exact ⟨(o, s), hx⟩) (fun v y _ => ⟨v, rfl⟩) b W.heap.size nn _ _ _ rfl hrg ?_ ?_)
      | gi_in)
    · intro hc0 hl0
      gi_wp2
      refine bodyPost_end (results_none rfl _ _ _) rfl ?_
      exact ⟨⟨_, rfl⟩, .inl ⟨ss, ⟨hC.done HAH.out hl0, by omega⟩, hJs⟩⟩
    · intro o s v kl yd yp w2 cnt2 hkey hlk hv hat hrg2 hlt hg2 hs2 hen
      obtain ⟨o', s', he, rfl, ho, hs⟩ := dk_inv hkey
      have hee : o = o' ∧ s = s' := by simpa [dotV, dotVal] using he
      obtain ⟨rfl, rfl⟩ := hee
      have hyd : yd = .held v := by
        unfold valR at hv
        cases hv
        rfl
      subst hyd
      have HH : Hid (Maps.has D0 (dk o s) = true) := by
        show _ = _
        rw [has_look HAH.out, look_at hat]
        rfl
      have hJ2 : J ss w2 := HJ.out ss wr w2 (some W.heap.size) hJs hg2 (fun r e => by cases e; exact ⟨Nat.le_refl _, hrg.iter_walk⟩)
      have hJ3 : J ss (w2.alloc (.cells #[.int .i64 o, .int .i64 s] 25)) := HJ.out ss w2 _ none hJ2 (World.grownBy_alloc w2 _ none) (fun r e => by cases e)
      obtain ⟨fn, tmps, assign, body, hy, hR⟩ := HY.out ss (o, s) _ hJ3 (by omega)
      have HR := hid hR
      have HRG := hid (hrg2.alloc (.cells #[.int .i64 o, .int .i64 s] 25))
      have HC2 := hid (hC.step ho hs hlk HH.out)
      have HCN : Hid ((ss ++ [(o, s)]).length + cnt2 ≤ Maps.size D0) := (by simp; omega : (ss ++ [(o, s)]).length + cnt2 ≤ Maps.size D0)
      have HLT : Hid (∀ w9 : World, w9.ranges Tryz.prog 25 valR b W.heap.size nn D0 (fun z => left z && !z.sameKey (dk o s)) cnt2 → w9.rangeLeft b W.heap.size < wr.rangeLeft b W.heap.size) := fun w9 h9 => by rw [h9.left_eq, hrg.left_eq]; exact hlt
      have HSZ : Hid (W.heap.size ≤ w2.heap.size) := Nat.le_trans hsz hg2.size
      clear hR hs2 hJ2 hJ3 hrg2 hat hlk hkey hv hg2 hcnt hlt
      dsimp only [dotV] at hy hen ⊢
      gi_wp2
      refine HR.out.mono ?_
      rintro e W3 (⟨rfl, hJ4, hk4⟩ | ⟨rfl, hJx4⟩)
      · have HJ4 := hid hJ4
        have HRG4 := hid (HRG.out.of_walks hk4)
        have HS4 : Hid (W.heap.size ≤ W3.heap.size) := Nat.le_trans (Nat.le_trans HSZ.out (by simp)) hk4.size
        clear hJ4 hk4 HR hy
        gi_wp2
        go_roundw
        case rel => exact ⟨_, cnt2, ss ++ [(o, s)], HRG4.out, HC2.out, HJ4.out, HCN.out, HS4.out⟩
        case measure => exact HLT.out _ HRG4.out
      · have HJ4 := hid hJx4
        clear hJx4 HR hy
        gi_wp2
        refine bodyPost_ret (results_none rfl _ _ _) rfl ?_
        exact ⟨⟨_, rfl⟩, .inr ⟨_, trivial, HJ4.out⟩⟩
theorem keysLog_any (w : World) (mb : Option Nat) : Calls Tryz.prog 41 #[.map mb] w fun e w' => e = .returned (.func (.func 65) #[] #[.pointer (some ⟨w.heap.size, 0, none⟩)]) ∧ w' = w.alloc (.cells #[.map mb] 41) := by
  go_enter Tryz.func41, Tryz.ntmps41
  go_wp2
  go_ret
  exact ⟨rfl, rfl⟩
set_option maxRecDepth 100000 in
set_option maxHeartbeats 1000000 in
theorem appendSeqLog (w : World) (Bm b nn : Nat) (D0 : DataW Value) (hm : w.cell? ⟨Bm, 0, none⟩ = some (.map (some b))) (hown : w.ownsMap Tryz.prog 25 valR b nn D0) (hsz : Maps.size D0 ≤ 65536) :
    Calls Tryz.prog 82 #[.slice none 0 0, .func (.func 65) #[] #[.pointer (some ⟨Bm, 0, none⟩)]] w (AnsK w D0) := by
  refine (callsIn_wide (n := 5)).1 ?_
  obtain ⟨W0, hW0⟩ : ∃ W0, W0 = w.alloc (.cells #[.slice none 0 0] 47) := ⟨_, rfl⟩
  have HB0 : Hid (Below w.heap.size w W0) := by rw [hW0]; exact (Below.refl _ w).alloc (Nat.le_refl _) _
  have HBX : Hid (Boxed W0 w.heap.size 47 (.slice none 0 0)) := by rw [hW0]; exact Boxed.new w 47 _
  have HS0 : Hid (W0.heap.size = w.heap.size + 1) := by rw [hW0]; exact World.size_alloc w _
  have HSQ := hid (keysLog_seq 4 (by omega) Bm b nn D0 W0 ((HB0.out.cell (World.block_lt_of_cell? w _ hm)).trans hm) ((Turns.of_below (F := fun _ => False) HB0.out (Nat.le_refl _)).map hown (fun h => h)))
  clear hm hown
  refine callsIn_of_wp_marks Tryz.func82 rfl trivial ?_ rfl
  simp only [Tryz.ntmps82, List.size_toArray, List.length_cons, List.length_nil, Nat.reduceAdd, Nat.reduceSub, Array.replicate_succ, Array.replicate_zero, List.push_toArray, List.append_toArray, List.nil_append, List.cons_append]
  gi_wp2
  rw [← hW0]
  clear hW0
  have hseq := HSQ.out
  have hs0 := HS0.out
  apply wpIn_rangeFunc_boxA (encs := fun x : Int × Int => #[dotV x]) (Kp := KeepsWalks) rfl (by omega) (gf := 65) (lb := #[.pointer (some ⟨Bm, 0, none⟩)]) rfl trivial (enters_of Tryz.func65 (by kernel_rfl) rfl)
    hseq (fun a b => walksK_t a b) (fun W l o o' hl ho hc hw => walksK_b (w := W0) W l o o' hl ho hc hw) (Below.refl _ _) (fun _ => rfl) (Coll w w.heap.size) (coll_own w w.heap.size W0.heap.size (by omega) (Nat.le_refl _))
    ⟨none, 0, HBX.out, ⟨rfl, .inl ⟨rfl, rfl⟩⟩, HB0.out⟩ (Bx := fun x => [.int .i64 x.1, .int .i64 x.2]) (t := 25) (B := w.heap.size + 1)
  case hassign =>
    intro l pre x W K hIp hK
    dsimp only [dotV]
    have hsW : w.heap.size + 1 ≤ W.heap.size := by
      obtain ⟨_, _, hb, _, _⟩ := hIp
      exact hb.lt
    gi_wp2
    obtain ⟨g, hg⟩ : ∃ g, g = W.heap.size := ⟨_, rfl⟩
    have hbk : Blk (W.alloc (.cells #[.int .i64 x.1, .int .i64 x.2] 25)) g 25 [.int .i64 x.1, .int .i64 x.2] := by rw [hg]; exact Blk.new W 25 [.int .i64 x.1, .int .i64 x.2]
    rw [← hg]
    exact hK g (W.alloc (.cells #[.int .i64 x.1, .int .i64 x.2] 25)) ((KeepsOthers.alloc W _).from _) (KeepsOthers.alloc W _).walks ((coll_own w w.heap.size W0.heap.size (by omega) (Nat.le_refl _)).alloc _ hIp) hbk (by omega)
  case hbody =>
    rintro l pre ⟨x1, x2⟩ g W ⟨eo, cap, hbx, hrow, hbl⟩ hbk hgl hlt
    have hcb := hbx.cell
    have hfb := hbx.frozen
    have c0 := hbk.cell (i := 0) rfl
    have c1 := hbk.cell (i := 1) rfl
    have HROW := hid hrow
    have HBOX := hid hbx
    have HBL := hid hbl
    have hlt2 := hbx.lt
    have HPL : Hid (pre.length ≤ 1000000) := (by omega : pre.length ≤ 1000000)
    have HSW : Hid (w.heap.size ≤ W.heap.size) := hbl.size
    clear hrow hbx hbl hbk hlt
    gi_wp2_with (gi_at_builtin; refine wpListIn_append_dot W _ (x1, x2) rfl rfl _ _ rfl w.heap.size _ pre rfl rfl HROW.out HSW.out HPL.out ?_)
    intro v' w' hown' hb' hgrow
    have hk1 : KeepsOthers W w' := (KeepsOthers.alloc W _).trans (keeps_row (HROW.out.alloc _) hgrow)
    have hbx' : Boxed w' w.heap.size 47 (.slice eo pre.length cap) := (HBOX.out.alloc _).kept hgrow (fun e => by
      have := (show Blk W w.heap.size 47 [.slice eo pre.length cap] from HBOX.out).not_row (by decide) HROW.out
      exact this e)
    have hcb2 := hbx'.cell
    have hfb2 := hbx'.frozen
    have hl1 : (pre ++ [(x1, x2)]).length = pre.length + 1 := by simp
    obtain ⟨eo2, cap2, rfl⟩ := own_slice hown'
    have HL1 := hid hl1
    have HK1 := hid hk1
    have HBX' := hid hbx'
    have HOWN' := hid hown'
    have HBL' : Hid (Below w.heap.size w w') := HBL.out.trans hb'
    clear hk1 hbx' hown' hb' hgrow hl1
    gi_wp2
    refine ⟨(HK1.out.trans (KeepsOthers.setCell _ _ _)).from _, (HK1.out.trans (KeepsOthers.setCell _ _ _)).walks, eo2, cap2, by rw [HL1.out]; exact HBX'.out.set _, ?_, HBL'.out.setCell (p := ⟨w.heap.size, 0, none⟩) (Nat.le_refl _) _⟩
    rw [HL1.out]
    have hnr := (show Blk w' w.heap.size 47 [.slice eo pre.length cap] from HBX'.out).not_row (by decide) HOWN'.out
    exact ((Turns.refl (fun i => i = w.heap.size) w').setCell (p := ⟨w.heap.size, 0, none⟩) (.inl rfl) _).row HOWN'.out (fun g hg e => hnr (by rw [hg, e]))
  case hafter =>
    rintro D xs W hD ⟨hkeys, hlen⟩ ⟨eo, cap, hbx, hrow, hbl⟩ hDef
    have hcb := hbx.cell
    have HROW := hid hrow
    have HBL := hid hbl
    have HK := hid hkeys
    have HL := hid hlen
    have HDef := hid hDef
    clear hrow hbl hkeys hlen hDef
    gi_wp2
    refine ⟨by simp, .inl ⟨_, _, rfl, run_takeDeferred HDef.out, ?_⟩⟩
    refine ⟨_, results_tmp rfl _ _ _, _, xs, rfl, HK.out, HL.out, ?_, HBL.out.trans (belowK_b (w := w) (Nat.le_refl _) _ D _ _ (by omega) HDef.out rfl rfl)⟩
    refine (Turns.of_grown (F := fun i => i = D) (grownBy_putObj' W D (.deferred none)) (fun k e => by cases e; rfl)).row HROW.out (fun g hg e => ?_)
    subst e
    rcases HROW.out.2 with ⟨h0, _⟩ | ⟨g', c', cur, h0, _, hb, _⟩
    · rw [h0] at hg
      simp [Value.ownBlock] at hg
    · rw [h0] at hg
      have : g' = g := by simpa [Value.ownBlock] using hg
      subst this
      rw [HDef.out] at hb
      cases hb
theorem collectLog (w : World) (Bm b nn : Nat) (D0 : DataW Value) (hm : w.cell? ⟨Bm, 0, none⟩ = some (.map (some b))) (hown : w.ownsMap Tryz.prog 25 valR b nn D0) (hsz : Maps.size D0 ≤ 65536) :
    Calls Tryz.prog 63 #[.func (.func 65) #[] #[.pointer (some ⟨Bm, 0, none⟩)]] w (AnsK w D0) := by
  have H := hid (appendSeqLog w Bm b nn D0 hm hown hsz)
  clear hm hown hsz
  go_enter Tryz.func63, Tryz.ntmps63
  go_wp2_with fail
  refine H.out.mono ?_
  rintro e w' ⟨v, ss, rfl, h1, h2, h3, h4⟩
  have H1 := hid h1
  have H2 := hid h2
  have H3 := hid h3
  have H4 := hid h4
  clear h1 h2 h3 h4
  go_wp2
  go_ret
  exact ⟨v, ss, rfl, H1.out, H2.out, H3.out, H4.out⟩
theorem sortedLog (w : World) (Bm b nn : Nat) (D0 : DataW Value) (hm : w.cell? ⟨Bm, 0, none⟩ = some (.map (some b))) (hown : w.ownsMap Tryz.prog 25 valR b nn D0) (hsz : Maps.size D0 ≤ 65536) :
    Calls Tryz.prog 40 #[.func (.func 65) #[] #[.pointer (some ⟨Bm, 0, none⟩)], .func (.func 42) #[] #[]] w (AnsX w D0) := by
  have H := hid (collectLog w Bm b nn D0 hm hown hsz)
  clear hm hown
  go_enter Tryz.func40, Tryz.ntmps40
  go_wp2_with fail
  refine H.out.mono ?_
  rintro e w1 ⟨v, ss, rfl, h1, h2, h3, h4⟩
  have H1 := hid h1
  have H2 := hid h2
  have H3 := hid h3
  have H4 := hid h4
  rcases h3.2 with ⟨rfl, h0⟩ | ⟨g, cap, cur, rfl, hbg, _⟩
  · have hss : ss = [] := List.eq_nil_of_length_eq_zero h0
    subst hss
    clear h1 h2 h3 h4
    go_wp2_with fail
    refine (sortD_nil w1 42).mono ?_
    rintro e w2 ⟨rfl, rfl⟩
    go_wp2
    go_ret
    exact ⟨_, [], rfl, ⟨H1.out, .nil⟩, H2.out, H3.out, H4.out⟩
  · have HS := hid (sortLog_some h3 (by omega))
    have HBG := hid hbg
    clear h1 h2 h3 h4 hbg
    obtain ⟨L, HL⟩ : ∃ L, Hid (ss.length = L) := ⟨_, hid rfl⟩
    rw [HL.out] at HS ⊢
    go_wp2_with fail
    refine HS.out.mono ?_
    rintro e w2 ⟨rfl, hs, hp, hw, ho, hg⟩
    have HP := hid hp
    have HW := hid hw
    have HO := hid ho
    have HG := hid hg
    clear hp hw ho hg
    go_wp2
    go_ret
    have hl : hs.length = L := by rw [← HL.out]; exact HP.out.length_eq
    refine ⟨_, hs, rfl, sorted_keys H1.out HP.out (HW.out.imp (fun {a b} h => by omega)), by rw [HP.out.length_eq]; exact H2.out, by rw [hl]; exact HO.out, H4.out.grown HG.out H4.out.size (fun k e => by cases e; exact HBG.out)⟩
end Go.Proofs.YtjlompnjhmbhhaaGreat
