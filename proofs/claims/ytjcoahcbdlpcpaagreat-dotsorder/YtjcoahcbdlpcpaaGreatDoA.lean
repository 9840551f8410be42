/-
  DotsOrder: two sets side by side, one of ints, one of strings; what Add makes of them.
-/
import Derived.Test.YtjcoahcbdlpcpaaGreatDoM
import Derived.Test.YtjcoahcbdlpcpaaGreatPairOpen
namespace Go.Proofs.YtjcoahcbdlpcpaaGreat
open Go.RowKit Go.Maps

theorem blk_type {w : World} {b : Nat} {t t' : TypeId} {cs cs' : List Value} (h : Blk w b t cs) (k : Blk w b t' cs') : t = t' := by
  unfold Blk at h k
  rw [h] at k
  cases k
  rfl
theorem rows_apartO {w : World} {B B' e e' sz sz' n n' : Nat} {u v : Value} {xs ys : List Value} (h : w.ownsRow B e sz u n xs) (h' : w.ownsRow B' e' sz' v n' ys) (hne : e ≠ e') {g : Nat} (h1 : u.ownBlock = some g) (h2 : v.ownBlock = some g) : False := by
  rcases h.2 with ⟨rfl, _⟩ | ⟨g1, cap, cur, rfl, _, hg, _⟩
  · simp [Value.ownBlock] at h1
  · rcases h'.2 with ⟨rfl, _⟩ | ⟨g', cap', cur', rfl, _, hg', _⟩
    · simp [Value.ownBlock] at h2
    · have e1 : g1 = g := by simpa [Value.ownBlock] using h1
      have e2 : g' = g := by simpa [Value.ownBlock] using h2
      subst e1
      subst e2
      rw [hg] at hg'
      cases hg'
      exact hne rfl
/-- A set of ints and a set of strings lie apart. -/
theorem apartO {w : World} {p m N p' m' M : Nat} {rs rs' : Nat → Value} {R R' : Nat → List Value} {D D' : DataW Value} {S T : Int → Int → Option Value} (h : In.DotsPre w p rs R m D S N) (k : DotsPre w p' rs' R' m' D' T M) (hm : m ≠ m') : ∀ i, FootD p m rs i → FootD p' m' rs' i → False := by
  rintro i (rfl | rfl | ⟨a, ha, h1⟩) (h2 | h2 | ⟨b, hb, h2⟩)
  · subst h2
    exact absurd (blk_type h.blk k.blk) (by decide)
  · exact h.blk.not_map k.map h2
  · exact h.blk.not_row (by decide) (k.run b hb) h2.symm
  · exact k.blk.not_map h.map h2.symm
  · exact hm h2
  · exact row_not_map (k.run b hb) h.map h2.symm
  · subst h2
    exact k.blk.not_row (by decide) (h.run a ha) h1.symm
  · subst h2
    exact row_not_map (h.run a ha) k.map h1.symm
  · exact rows_apartO (h.run a ha) (k.run b hb) (by decide) h1 h2
def dotAtO (l : List PairV) (j : Nat) : Option (Int × Int) := l[j]?.map (fun x => (x.o, x.s))
def PS (l : List PairV) (i : Nat) (o s : Int) : Prop := ∃ j, j < i ∧ dotAtO l j = some (o, s)
def PT (l : List PairV) (n k i : Nat) (o s : Int) : Prop := ∃ j, j < i ∧ dotAtO l (backO n k j) = some (o, s)
theorem PS.next {l : List PairV} {i : Nat} {o s : Int} (h : dotAtO l i = some (o, s)) (o' s' : Int) : PS l (i + 1) o' s' ↔ PS l i o' s' ∨ (o' = o ∧ s' = s) := by
  constructor
  · rintro ⟨j, h1, h2⟩
    by_cases e : j = i
    · subst e
      rw [h] at h2
      cases h2
      exact .inr ⟨rfl, rfl⟩
    · exact .inl ⟨j, by omega, h2⟩
  · rintro (⟨j, h1, h2⟩ | ⟨rfl, rfl⟩)
    · exact ⟨j, by omega, h2⟩
    · exact ⟨i, by omega, h⟩
theorem PT.next {l : List PairV} {n k i : Nat} {o s : Int} (h : dotAtO l (backO n k i) = some (o, s)) (o' s' : Int) : PT l n k (i + 1) o' s' ↔ PT l n k i o' s' ∨ (o' = o ∧ s' = s) := by
  constructor
  · rintro ⟨j, h1, h2⟩
    by_cases e : j = i
    · subst e
      rw [h] at h2
      cases h2
      exact .inr ⟨rfl, rfl⟩
    · exact .inl ⟨j, by omega, h2⟩
  · rintro (⟨j, h1, h2⟩ | ⟨rfl, rfl⟩)
    · exact ⟨j, by omega, h2⟩
    · exact ⟨i, by omega, h⟩
theorem PS.all {l : List PairV} {n k : Nat} (hk : k < n) (o s : Int) : PS l n o s ↔ PT l n k n o s := by
  constructor
  · rintro ⟨j, h1, h2⟩
    obtain ⟨i, h3, h4⟩ := backO_onto hk h1
    exact ⟨i, h3, by rw [h4]; exact h2⟩
  · rintro ⟨j, h1, h2⟩
    exact ⟨_, backO_lt h1, h2⟩
/-- A set of ints, all of it behind w. -/
def AtI (w wr : World) (p m : Nat) (S : Int → Int → Option Value) (N : Nat) : Prop := ∃ rs R D, In.DotsAt wr p rs R m D S N ∧ ∀ x, FootD p m rs x → w.heap.size ≤ x
def AtT (w wr : World) (p m : Nat) (S : Int → Int → Option Value) (N : Nat) : Prop := ∃ rs R D, DotsAt wr p rs R m D S N ∧ ∀ x, FootD p m rs x → w.heap.size ≤ x
/-- Both, behind i dots of the one and j of the other. -/
structure Both (w wr : World) (p m p' m' : Nat) (l : List PairV) (n k i j : Nat) : Prop where
  one : ∃ S N, N ≤ i ∧ HasD S (PS l i) ∧ AtI w wr p m S N
  two : ∃ T M, M ≤ j ∧ HasD T (PT l n k j) ∧ AtT w wr p' m' T M
  ne : m ≠ m'
  bel : Below w.heap.size w wr
section
variable {w wr w' : World} {p m p' m' n k i j : Nat} {l : List PairV}
theorem Both.below (h : Both w wr p m p' m' l n k i j) (hb : Below wr.heap.size wr w') : Both w w' p m p' m' l n k i j := by
  obtain ⟨⟨S, N, h1, h2, rs, R, D, h3, h4⟩, ⟨T, M, k1, k2, rs', R', D', k3, k4⟩, h5, h6⟩ := h
  exact ⟨⟨S, N, h1, h2, rs, R, D, h3.below hb, h4⟩, ⟨T, M, k1, k2, rs', R', D', k3.below hb, k4⟩, h5, bt h6 hb⟩
theorem Both.addI (h : Both w wr p m p' m' l n k i j) (hi : i < 60000) {o s : Int} (hd : dotAtO l i = some (o, s)) (v : Int) :
    Calls Tryz.prog 7 #[.pointer (some ⟨p, 0, none⟩), .agg #[.int .i64 o, .int .i64 s], .int .i64 v] wr fun e w' => (∃ c, e = .returned (.int .i64 c)) ∧ Both w w' p m p' m' l n k (i + 1) j := by
  obtain ⟨⟨S, N, h1, h2, rs, R, D, h3, h4⟩, ⟨T, M, k1, k2, rs', R', D', k3, k4⟩, h5, h6⟩ := h
  refine (In.add_any h3 o s v).mono ?_
  rintro e w' ⟨he, hr⟩
  refine ⟨⟨_, he⟩, ?_⟩
  rcases hr with ⟨hno, hd', hb⟩ | ⟨hz, rs2, R2, D2, hd', hT, hF⟩
  · exact ⟨⟨S, N, by omega, h2.keep hno (by omega) (PS.next hd), rs, R, D, hd', h4⟩, ⟨T, M, k1, k2, rs', R', D', k3.below hb, k4⟩, h5, bt h6 hb⟩
  · refine ⟨⟨_, N + 1, by omega, h2.put hz (PS.next hd), rs2, R2, D2, hd', fun x hx => ?_⟩, ⟨T, M, k1, k2, rs', R', D', k3.turned hT (fun x hx hf => apartO h3.pre k3.pre h5 x hf hx), k4⟩, h5, ?_⟩
    · rcases hF x hx with h | h
      · exact h4 x h
      · have := h6.size
        omega
    · exact h6.trans (hT.below h4 h6.size)
theorem Both.addT (h : Both w wr p m p' m' l n k i j) (hi : j < 60000) {o s : Int} (hd : dotAtO l (backO n k j) = some (o, s)) (t : ByteArray) :
    Calls Tryz.prog 8 #[.pointer (some ⟨p', 0, none⟩), .agg #[.int .i64 o, .int .i64 s], .string t] wr fun e w' => (∃ c, e = .returned (.int .i64 c)) ∧ Both w w' p m p' m' l n k i (j + 1) := by
  obtain ⟨⟨S, N, h1, h2, rs, R, D, h3, h4⟩, ⟨T, M, k1, k2, rs', R', D', k3, k4⟩, h5, h6⟩ := h
  refine (add_any k3 o s t).mono ?_
  rintro e w' ⟨he, hr⟩
  refine ⟨⟨_, he⟩, ?_⟩
  rcases hr with ⟨hno, hd', hb⟩ | ⟨hz, rs2, R2, D2, hd', hT, hF⟩
  · exact ⟨⟨S, N, h1, h2, rs, R, D, h3.below hb, h4⟩, ⟨T, M, by omega, k2.keep hno (by omega) (PT.next hd), rs', R', D', hd', k4⟩, h5, bt h6 hb⟩
  · refine ⟨⟨S, N, h1, h2, rs, R, D, h3.turned hT (fun x hx hf => apartO h3.pre k3.pre h5 x hx hf), h4⟩, ⟨_, M + 1, by omega, k2.put hz (PT.next hd), rs2, R2, D2, hd', fun x hx => ?_⟩, h5, ?_⟩
    · rcases hF x hx with h | h
      · exact k4 x h
      · have := h6.size
        omega
    · exact h6.trans (hT.below k4 h6.size)
end
theorem size_le_of {w : World} {m m' n n' : Nat} {D E : DataW Value} (h : w.ownsMap Tryz.prog 31 valR m n D) (k : w.ownsMap Tryz.prog 31 valR m' n' E) (hsub : ∀ o s, I64 o → I64 s → (look D (dk o s)).isSome = true → (look E (dk o s)).isSome = true) : Maps.size D ≤ Maps.size E := by
  have hh := allHeld_of h
  have kh := allHeld_of k
  have hkey : ∀ {m n : Nat} {D : DataW Value} {es : List (Lit × DataW Value)}, w.ownsMap Tryz.prog 31 valR m n D → D = .map es → ∀ p ∈ es, ∃ o s, I64 o ∧ I64 s ∧ p.1 = dk o s := by
    intro m n D es h e
    obtain ⟨es', clock, _, F, _, e2⟩ := h
    rw [e] at e2
    cases e2
    intro p hp'
    obtain ⟨x, hx, rfl⟩ := List.mem_map.1 (mem_sorted.1 hp')
    obtain ⟨y, hy⟩ := F.reads x hx
    rw [Go.WideElems.rg_of hy]
    obtain ⟨o, s, _, h1, h2, h3⟩ := dk_inv (Go.WideElems.rd_key hy)
    exact ⟨o, s, h2, h3, h1⟩
  obtain ⟨es, e, hp, _⟩ := h.entries Tryz.keyedDot
  obtain ⟨fs, f, _, _⟩ := k.entries Tryz.keyedDot
  have hd : (es.map (·.1)).Nodup := by
    rw [List.nodup_iff_pairwise_ne, List.pairwise_map]
    exact hp
  have hz : Maps.size D = (es.map (·.1)).length := by rw [e, Maps.size_eq, List.length_map]
  have hy : Maps.size E = (fs.map (·.1)).length := by rw [f, Maps.size_eq, List.length_map]
  rw [hz, hy]
  refine nodup_le hd (fun kl hkl => ?_)
  obtain ⟨p, hp', rfl⟩ := List.mem_map.1 hkl
  obtain ⟨o, s, h1, h2, h3⟩ := hkey h e p hp'
  have hhas : Maps.has D (dk o s) = true := by
    rw [e, Maps.has_eq, List.any_eq_true]
    exact ⟨p, hp', by rw [h3, same_dk h1 h2 h1 h2]; simp⟩
  rw [has_look hh] at hhas
  have h4 := hsub o s h1 h2 hhas
  rw [← has_look kh, f, Maps.has_eq, List.any_eq_true] at h4
  obtain ⟨q, hq, hqs⟩ := h4
  obtain ⟨o', s', g1, g2, g3⟩ := hkey k f q hq
  rw [g3, same_dk g1 g2 h1 h2] at hqs
  have : o' = o ∧ s' = s := by simpa using hqs
  obtain ⟨rfl, rfl⟩ := this
  exact List.mem_map.2 ⟨q, hq, by rw [g3, h3]⟩
/-- At the end: the same vector, the same extras, as many dots. -/
structure EndO (w wr : World) (p m p' m' n : Nat) (rs : Nat → Value) (R : Nat → List Value) (D : DataW Value) (S : Int → Int → Option Value) (N : Nat) (rs' : Nat → Value) (R' : Nat → List Value) (D' : DataW Value) (T : Int → Int → Option Value) : Prop where
  one : In.DotsAt wr p rs R m D S N
  two : DotsAt wr p' rs' R' m' D' T N
  vec : plainOf (lensOf R') = plainOf (lensOf R)
  ext : ∀ ss tt, SortedK D ss → SortedK D' tt → tt = ss
  len : ∀ ss, SortedK D ss → ss.length ≤ Maps.size D → sumR R + ss.length = N
  few : N ≤ n
  bel : Below w.heap.size w wr
theorem Both.ends {w wr : World} {p m p' m' n k : Nat} {l : List PairV} (h : Both w wr p m p' m' l n k n n) (hk : k < n ∨ n = 0) : ∃ rs R D S N rs' R' D' T, EndO w wr p m p' m' n rs R D S N rs' R' D' T := by
  obtain ⟨⟨S, N, h1, h2, rs, R, D, h3, h4⟩, ⟨T, M, k1, k2, rs', R', D', k3, k4⟩, h5, h6⟩ := h
  have hs : SameS S T := h2.same k2 (fun o s => by
    rcases hk with hk | hk
    · exact PS.all hk o s
    · subst hk
      constructor
      · rintro ⟨j, hj, _⟩
        omega
      · rintro ⟨j, hj, _⟩
        omega)
  have hS := In.DotsAt.runsOf h3
  have hT := DotsAt.runsOf k3
  have hD : KeysOn D S R := h3.pre.keys
  have hE : KeysOn D' T R' := k3.pre.keys
  have hR := hS.lens hT hs
  have hsz : Maps.size D = Maps.size D' := by
    refine Nat.le_antisymm (size_le_of h3.pre.map k3.pre.map fun o s ho hs' hh => ?_) (size_le_of k3.pre.map h3.pre.map fun o s ho hs' hh => ?_)
    · rw [hD o s ho hs'] at hh
      rw [hE o s ho hs']
      split at hh
      · next hc =>
        rw [if_pos ⟨hc.1, by have := hS.eq hT hs (o := o.toNat) (by have := hc.1; unfold MayD at this; omega); have := hc.2; omega⟩, ← hs]
        exact hh
      · cases hh
    · rw [hE o s ho hs'] at hh
      rw [hD o s ho hs']
      split at hh
      · next hc =>
        rw [if_pos ⟨hc.1, by have := hS.eq hT hs (o := o.toNat) (by have := hc.1; unfold MayD at this; omega); have := hc.2; omega⟩, hs]
        exact hh
      · cases hh
  have hN : M = N := by
    have e1 := h3.pre.cnt
    have e2 := k3.pre.cnt
    have e3 := hS.sum hT hs
    omega
  subst hN
  refine ⟨rs, R, D, S, M, rs', R', D', T, h3, k3, by rw [hR], fun ss tt a b => (extras_eq hS hT hs hD hE a b).symm, fun ss a b => ?_, h1, h6⟩
  have := keysK_len h3.pre.map a.1
  have := h3.pre.cnt
  omega
theorem EndO.below {w wr w' : World} {p m p' m' n N : Nat} {rs rs' : Nat → Value} {R R' : Nat → List Value} {D D' : DataW Value} {S T : Int → Int → Option Value} (h : EndO w wr p m p' m' n rs R D S N rs' R' D' T) (hb : Below wr.heap.size wr w') : EndO w w' p m p' m' n rs R D S N rs' R' D' T :=
  ⟨h.one.below hb, h.two.below hb, h.vec, h.ext, h.len, h.few, bt h.bel hb⟩
/-- At the beginning. -/
theorem Both.start {w w2 : World} {p m p' m' : Nat} (l : List PairV) (n k : Nat) (h : In.DotsAt w2 p (fun _ => .slice none 0 0) (fun _ => []) m (.map []) (fun _ _ => none) 0) (h' : DotsAt w2 p' (fun _ => .slice none 0 0) (fun _ => []) m' (.map []) (fun _ _ => none) 0) (hb : Below w.heap.size w w2) (hp : w.heap.size ≤ p) (hm : w.heap.size ≤ m) (hp' : w.heap.size ≤ p') (hm' : w.heap.size ≤ m') (hne : m ≠ m') : Both w w2 p m p' m' l n k 0 0 := by
  refine ⟨⟨_, 0, Nat.le_refl _, fun o s => ?_, _, _, _, h, ?_⟩, ⟨_, 0, Nat.le_refl _, fun o s => ?_, _, _, _, h', ?_⟩, hne, hb⟩
  · constructor
    · intro hh
      cases hh
    · rintro ⟨_, j, hj, _⟩
      omega
  · rintro x (rfl | rfl | ⟨a, _, ha⟩)
    · exact hp
    · exact hm
    · simp [Value.ownBlock] at ha
  · constructor
    · intro hh
      cases hh
    · rintro ⟨_, j, hj, _⟩
      omega
  · rintro x (rfl | rfl | ⟨a, _, ha⟩)
    · exact hp'
    · exact hm'
    · simp [Value.ownBlock] at ha
set_option maxRecDepth 100000 in
theorem sameDots_any (w : World) (ao bo : Option Addr) (ca cb B1 B2 : Nat) (ds : List (Int × Int)) (n : Nat) (hn : ds.length = n) (ha : w.ownsRow B1 31 2 (.slice ao n ca) ds.length (flatD ds)) (hb : w.ownsRow B2 31 2 (.slice bo n cb) ds.length (flatD ds)) (hl : n ≤ 100000) :
    Calls Tryz.prog 13 #[.slice ao n ca, .slice bo n cb] w fun e w' => e = .returned (.bool true) ∧ Below w.heap.size w w' := by
  have HA := hid ha
  have HB := hid hb
  have HN := hid hn
  have HL := hid hl
  clear ha hb hn
  go_enter Tryz.func13, Tryz.ntmps13
  go_wp2
  go_loopw [5] (fun s5 wr => ∃ k : Nat, k ≤ n ∧ s5 = .int .i64 k ∧ Hid (Below w.heap.size w wr)) (fun s5 _ => n - (intOf s5).toNat)
  case atStart => exact ⟨0, Nat.zero_le _, rfl, Below.refl _ _⟩
  case round =>
    obtain ⟨k, hk, rfl, HR⟩ := hrel
    by_cases hlt : k < n
    · have hlt' : (k : Int) < (n : Int) := by omega
      have HKM : Hid (k + 1 ≤ n) := (by omega : k + 1 ≤ n)
      have HKD : Hid (k < ds.length) := by rw [HN.out]; exact hlt
      obtain ⟨g, hg, _, hgl, hc⟩ := dots_cells HA.out (by have := HKD.out; omega)
      obtain ⟨g', hg', _, hgl', hc'⟩ := dots_cells HB.out (by have := HKD.out; omega)
      obtain ⟨x, HX⟩ : ∃ x, Hid ((ds.getD k (0, 0)).1 = x) := ⟨_, hid rfl⟩
      obtain ⟨y, HY⟩ : ∃ y, Hid ((ds.getD k (0, 0)).2 = y) := ⟨_, hid rfl⟩
      have c0 := (HR.out.cell (p := ⟨g, k * 2, none⟩) hgl).trans (hc k HKD.out).1
      have c1 := (HR.out.cell (p := ⟨g, k * 2 + 1, none⟩) hgl).trans (hc k HKD.out).2
      have d0 := (HR.out.cell (p := ⟨g', k * 2, none⟩) hgl').trans (hc' k HKD.out).1
      have d1 := (HR.out.cell (p := ⟨g', k * 2 + 1, none⟩) hgl').trans (hc' k HKD.out).2
      rw [HX.out] at c0 d0
      rw [HY.out] at c1 d1
      subst hg
      subst hg'
      clear hc hc' hgl hgl' HX HY hlt
      go_wp2
      go_quiet (fail)
      go_wp2
      go_roundw
      case rel => exact ⟨k + 1, HKM.out, by go_num, below_dn HR.out _⟩
      case measure => simp [intOf]; have := HKM.out; omega
    · have hlt' : ¬ (k : Int) < (n : Int) := by omega
      go_wp2
      go_ret
      exact ⟨rfl, HR.out⟩
end Go.Proofs.YtjcoahcbdlpcpaaGreat
