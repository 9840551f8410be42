/-
  Package dots: slices.SortFunc over items; the items of a set as lists.
-/
import Derived.Test.YtplecopphddjhaaDotsO
namespace Go.Proofs
open Go.Shelf Go.RowKit Go.Lib Go.Sort
shelf_lay_g SlLaysF0.n6 Slsf 6 at Try 59 as Ytplecopphddjhaa.sortItems
end Go.Proofs
namespace Go.Proofs.Ytplecopphddjhaa
open Go.Shelf Go.RowKit Go.Lib Go.Sort Go.Maps

def cmpT (x y : It) : Int := cmpD x.1 y.1
theorem cmpT_swo : Sort.SWO (ltOf cmpT) where
  irrefl x := cmpD_swo.irrefl x.1
  trans x y z h1 h2 := cmpD_swo.trans x.1 y.1 z.1 h1 h2
  ntrans x y z h1 h2 := cmpD_swo.ntrans x.1 y.1 z.1 h1 h2
theorem items2_any (W : World) (x y : It) : Calls Try.prog 60 #[.agg #[.int .i64 x.1.1, .int .i64 x.1.2, .string x.2], .agg #[.int .i64 y.1.1, .int .i64 y.1.2, .string y.2]] W fun e w' => e = .returned (.int .i64 (cmpT x y)) ∧ ∃ q os', w' = Sort.grow (W.drewN q) os' := by
  obtain ⟨⟨x1, x2⟩, xt⟩ := x
  obtain ⟨⟨y1, y2⟩, yt⟩ := y
  have HG : Hid ((W.alloc (.cells #[.int .i64 x1, .int .i64 x2, .string xt] 77)).alloc (.cells #[.int .i64 y1, .int .i64 y2, .string yt] 77) = Sort.grow W #[.cells #[.int .i64 x1, .int .i64 x2, .string xt] 77, .cells #[.int .i64 y1, .int .i64 y2, .string yt] 77]) := by show _ = _; rw [Sort.alloc_eq_grow, Sort.alloc_eq_grow, Sort.grow_grow]; rfl
  have HC := hid (fun V => compareDots_any V (x1, x2) (y1, y2))
  have HCT : Hid (cmpT ((x1, x2), xt) ((y1, y2), yt) = cmpD (x1, x2) (y1, y2)) := rfl
  rw [HCT.out]
  obtain ⟨r, HR⟩ : ∃ r, Hid (cmpD (x1, x2) (y1, y2) = r) := ⟨_, hid rfl⟩
  rw [HR.out] at HC ⊢
  go_enter Try.func60, Try.ntmps60
  go_wp2_with fail
  refine (HC.out _).mono ?_
  rintro e w' ⟨rfl, q, os', rfl⟩
  go_wp2
  go_ret
  refine ⟨rfl, q, #[.cells #[.int .i64 x1, .int .i64 x2, .string xt] 77, .cells #[.int .i64 y1, .int .i64 y2, .string yt] 77] ++ os', ?_⟩
  rw [HG.out]
  exact Sort.grow_grow (W.drewN q) _ _
theorem insertI_nil (w : World) (c : Nat) : Calls Try.prog 76 #[.slice none 0 0, .int .i64 0, .int .i64 0, .func (.func c) #[] #[]] w fun e w' => e = .returned (.tuple #[]) ∧ w' = w := by
  go_enter Try.func76, Try.ntmps76
  go_wp2
  refine wp_loop_rounds 1 ?_
  rw [rounds_succ]
  go_wp2
  refine bodyPost_end (results_none rfl _ _ _) rfl ?_
  exact ⟨rfl, rfl⟩
set_option maxRecDepth 100000 in
theorem pdqI_nil (w : World) (c : Nat) (l : Int) : Calls Try.prog 65 #[.slice none 0 0, .int .i64 0, .int .i64 0, .int .i64 l, .func (.func c) #[] #[]] w fun e w' => e = .returned (.tuple #[]) ∧ w' = w := by
  have H := hid (insertI_nil w c)
  go_enter Try.func65, Try.ntmps65
  go_wp2
  refine wp_loop_rounds 1 ?_
  rw [rounds_succ]
  go_wp2_with fail
  refine H.out.mono ?_
  rintro e w' ⟨rfl, rfl⟩
  go_wp2
  refine bodyPost_ret (results_none rfl _ _ _) rfl ?_
  exact ⟨rfl, rfl⟩
theorem sortI_nil (w : World) (c : Nat) : Calls Try.prog 59 #[.slice none 0 0, .func (.func c) #[] #[]] w fun e w' => e = .returned (.tuple #[]) ∧ w' = w := by
  have H := hid (fun l => pdqI_nil w c l)
  have HB := hid (Any.bits_Len (SlLaysF0.n15.bits { sortItems with }) 0 w (by omega) (by omega))
  go_enter Try.func59, Try.ntmps59
  go_wp2_with fail
  refine HB.out.mono ?_
  rintro e w' ⟨rfl, rfl⟩
  go_wp2_with fail
  refine (H.out _).mono ?_
  rintro e w' ⟨rfl, rfl⟩
  go_wp2
  refine bodyPost_end (results_none rfl _ _ _) rfl ?_
  exact ⟨rfl, rfl⟩
theorem sortI_some {w : World} {B g cap : Nat} {gs : List It} (hown : w.ownsRow B 77 3 (.slice (some ⟨g, 0, none⟩) gs.length cap) gs.length (flatI gs)) (hsz : gs.length ≤ 65536) :
    Calls Try.prog 59 #[.slice (some ⟨g, 0, none⟩) gs.length cap, .func (.func 60) #[] #[]] w fun e w' => e = .returned (.tuple #[]) ∧ ∃ hs, hs.Perm gs ∧ hs.Pairwise (fun x y => ¬ cmpT y x < 0) ∧ w'.ownsRow B 77 3 (.slice (some ⟨g, 0, none⟩) gs.length cap) gs.length (flatI hs) ∧ w.grownBy w' (some g) := by
  obtain ⟨hH, hblk⟩ := holdsK_of_row (enc := itCells) (fun _ => rfl) (by decide) hown
  have eg : ∀ args w, (callFunc 60 args).run Try.prog w = .ok (.enter 60 args) w := enters_of Try.func60 (by kernel_rfl) rfl
  have hcon := AnyQ.slices_SortFunc sortItems 3 (fun w => by kernel_rfl) (fun w => by kernel_rfl) itCells (fun _ => rfl) (fun x v hv => by simp [itCells] at hv; rcases hv with rfl | rfl | rfl <;> rfl) cmpT cmpT_swo 60 #[] g 0 cap gs.toArray w eg (fun _ _ _ _ x y => items2_any _ x y) hH hblk (by simp; omega)
  change Calls Try.prog 59 _ _ _ at hcon
  rw [List.size_toArray] at hcon
  refine hcon.mono ?_
  rintro e w' ⟨rfl, d', n, os, hp, hso, rfl⟩
  obtain ⟨h1, h2, h3⟩ := hp
  have hl : d'.toList.length = gs.length := by simpa using h1
  have hd : d' = d'.toList.toArray := by simp
  have hr := row_of_sort (enc := itCells) (fun _ => rfl) (by decide) hown d'.toList hl n os
  rw [← hd] at hr
  refine ⟨rfl, d'.toList, ?_, ?_, hr.1, hr.2⟩
  · have hx : d'.extract 0 gs.length = d' := by
      have : gs.length = d'.size := by simpa using h1.symm
      rw [this]
      simp
    rw [hx] at h3
    simpa using h3
  · rw [List.pairwise_iff_getElem]
    intro i j hi hj hij
    have := hso i j (Nat.zero_le _) hij (by rw [← hl]; exact hj)
    rw [getElem!_pos d' j (by simpa using hj), getElem!_pos d' i (by simpa using hi)] at this
    simpa [ltOf] using this

/-- What the items of a set are: S's dots for which f holds, in order. -/
def ItsOf (S : Int → Int → Option Value) (f : Int → Int → Bool) (its : List It) : Prop := its.Pairwise (fun x y => cmpD x.1 y.1 < 0) ∧ ∀ o s t, ((o, s), t) ∈ its ↔ S o s = some (.string t) ∧ f o s = true
def txt (v : Value) : ByteArray := match v with
  | .string t => t
  | _ => ByteArray.empty
theorem txt_of {v : Value} (h : IsE v) : v = .string (txt v) := by
  obtain ⟨t, rfl⟩ := h
  rfl
/-- The items of an origin's run. -/
def rowI (R : Nat → List Value) (o : Nat) : List It := (List.range (R o).length).map fun i : Nat => (((o : Int), (i : Int) + 1), txt ((R o).getD i zeroE))
def runsI (R : Nat → List Value) (k : Nat) : List It := (List.range k).flatMap (rowI R)
theorem rowI_len (R : Nat → List Value) (o : Nat) : (rowI R o).length = (R o).length := by simp [rowI]
theorem runsI_succ (R : Nat → List Value) (k : Nat) : runsI R (k + 1) = runsI R k ++ rowI R k := by
  unfold runsI
  rw [List.range_succ, List.flatMap_append]
  simp
theorem runsI_len (R : Nat → List Value) : (runsI R 7).length = sumR R := by
  simp only [runsI_succ, List.length_append, rowI_len]
  simp [runsI, sumR]
theorem runsI_le (R : Nat → List Value) {k : Nat} (hk : k ≤ 7) : (runsI R k).length ≤ sumR R := by
  match k, hk with
  | 0, _ => simp [runsI]
  | 1, _ | 2, _ | 3, _ | 4, _ | 5, _ | 6, _ | 7, _ =>
    simp only [runsI_succ, List.length_append, rowI_len]
    simp [runsI, sumR]
    try omega
theorem rowI_take (R : Nat → List Value) (o : Nat) {j : Nat} (hj : j < (R o).length) : (rowI R o).take (j + 1) = (rowI R o).take j ++ [(((o : Int), (j : Int) + 1), txt ((R o).getD j zeroE))] := by
  rw [List.take_succ_eq_append_getElem (by rw [rowI_len]; exact hj)]
  simp [rowI]
def fI (f : Int → Int → Bool) (x : It) : Bool := f x.1.1 x.1.2
theorem putI_filter (f : Int → Int → Bool) (l : List It) (x : It) : putI f (l.filter (fI f)) x = (l ++ [x]).filter (fI f) := by
  unfold putI
  rw [List.filter_append]
  cases h : f x.1.1 x.1.2 <;> simp [fI, h]
section
variable {w : World} {p m N : Nat} {rs : Nat → Value} {R : Nat → List Value} {D : DataW Value} {S : Int → Int → Option Value}
theorem mem_rowI {x : It} {o : Nat} : x ∈ rowI R o ↔ ∃ i : Nat, i < (R o).length ∧ x = (((o : Int), (i : Int) + 1), txt ((R o).getD i zeroE)) := by
  unfold rowI
  rw [List.mem_map]
  exact ⟨fun ⟨i, h1, h2⟩ => ⟨i, List.mem_range.1 h1, h2.symm⟩, fun ⟨i, h1, h2⟩ => ⟨i, List.mem_range.2 h1, h2.symm⟩⟩
/-- ss tells the extras with their values. -/
def KeysV (D : DataW Value) (ss : List It) : Prop := (ss.map (·.1)).Nodup ∧ ∀ o s t, ((o, s), t) ∈ ss ↔ I64 o ∧ I64 s ∧ look D (dk o s) = some (.string t)
theorem nodup_le {α : Type} {a : List α} : ∀ {b : List α}, a.Nodup → (∀ x ∈ a, x ∈ b) → a.length ≤ b.length := by
  classical
  induction a with
  | nil => intro b _ _; exact Nat.zero_le _
  | cons x r ih =>
    intro b hn hs
    obtain ⟨h1, h2⟩ := List.nodup_cons.1 hn
    have h3 := ih (b := b.erase x) h2 (fun y hy => (List.mem_erase_of_ne (fun e => h1 (by rw [← e]; exact hy))).2 (hs y (List.mem_cons_of_mem _ hy)))
    have h4 := List.length_erase_of_mem (hs x (List.mem_cons_self ..))
    have h5 : 0 < b.length := List.length_pos_of_mem (hs x (List.mem_cons_self ..))
    simp only [List.length_cons]
    omega
theorem keysV_len {w : World} {m n : Nat} {D : DataW Value} (h : w.ownsMap Try.prog 25 valR m n D) (hE : ∀ o s v, I64 o → I64 s → look D (dk o s) = some v → IsE v) {ss : List It} (hk : KeysV D ss) : Maps.size D ≤ ss.length := by
  have hh := allHeld_of h
  obtain ⟨es, e, hp, _⟩ := h.entries Try.keyedDot
  have hkey : ∀ p ∈ es, ∃ o s, I64 o ∧ I64 s ∧ p.1 = dk o s := by
    obtain ⟨es', clock, _, F, _, e2⟩ := h
    rw [e] at e2
    cases e2
    intro p hp'
    obtain ⟨x, hx, rfl⟩ := List.mem_map.1 (mem_sorted.1 hp')
    obtain ⟨y, hy⟩ := F.reads x hx
    rw [Go.WideElems.rg_of hy]
    obtain ⟨o, s, _, h1, h2, h3⟩ := dk_inv (Go.WideElems.rd_key hy)
    exact ⟨o, s, h2, h3, h1⟩
  have hd : (es.map (·.1)).Nodup := by
    rw [List.nodup_iff_pairwise_ne, List.pairwise_map]
    exact hp
  have hz : Maps.size D = (es.map (·.1)).length := by rw [e, Maps.size_eq, List.length_map]
  have hl : ss.length = (ss.map (fun x : It => dk x.1.1 x.1.2)).length := by simp
  rw [hz, hl]
  refine nodup_le hd (fun kl hkl => ?_)
  obtain ⟨p, hp', rfl⟩ := List.mem_map.1 hkl
  obtain ⟨o, s, h1, h2, h3⟩ := hkey p hp'
  have hhas : Maps.has D (dk o s) = true := by
    rw [e, Maps.has_eq, List.any_eq_true]
    exact ⟨p, hp', by rw [h3, same_dk h1 h2 h1 h2]; simp⟩
  rw [has_look hh] at hhas
  obtain ⟨v, hv⟩ := Option.isSome_iff_exists.1 hhas
  obtain ⟨t, rfl⟩ := hE o s v h1 h2 hv
  have hm := (hk.2 o s t).2 ⟨h1, h2, hv⟩
  exact List.mem_map.2 ⟨((o, s), t), hm, h3.symm⟩
theorem mem_all (h : DotsPre w p rs R m D S N) {ss : List It} (hk : KeysV D ss) (o s : Int) (t : ByteArray) : ((o, s), t) ∈ runsI R 7 ++ ss ↔ S o s = some (.string t) := by
  rw [List.mem_append]
  constructor
  · rintro (hm | hm)
    · obtain ⟨k, hk7, hx⟩ := List.mem_flatMap.1 hm
      have hk7 := List.mem_range.1 hk7
      obtain ⟨i, hi, he⟩ := mem_rowI.1 hx
      simp only [Prod.mk.injEq] at he
      obtain ⟨⟨rfl, rfl⟩, rfl⟩ := he
      rw [h.runs k hk7 i hi, List.getElem?_eq_getElem hi]
      have he : IsE (R k)[i] := h.one k hk7 _ (List.getElem_mem hi)
      have hg : (R k).getD i zeroE = (R k)[i] := by simp [List.getD, List.getElem?_eq_getElem hi]
      rw [hg, ← txt_of he]
    · obtain ⟨h1, h2, h3⟩ := (hk.2 o s t).1 hm
      rw [h.keys o s h1 h2] at h3
      split at h3
      · exact h3
      · cases h3
  · intro hS
    by_cases hm : MayD o s
    · obtain ⟨k, rfl⟩ := Int.eq_ofNat_of_zero_le hm.1.1
      have hk7 : k < 7 := by have := hm.1.2; omega
      have hat := h.at hm
      rw [hS] at hat
      split at hat
      · next hle =>
        left
        have h1 := hm.2.1
        have hi : (s - 1).toNat < (R k).length := by omega
        refine List.mem_flatMap.2 ⟨k, List.mem_range.2 hk7, mem_rowI.2 ⟨(s - 1).toNat, hi, ?_⟩⟩
        rw [List.getElem?_eq_getElem hi] at hat
        have hg : (R k).getD (s - 1).toNat zeroE = (R k)[(s - 1).toNat] := by rw [List.getD_eq_getElem?_getD, List.getElem?_eq_getElem hi]; rfl
        rw [hg, ← Option.some.inj hat]
        simp only [Prod.mk.injEq]
        exact ⟨⟨trivial, by omega⟩, rfl⟩
      · right
        exact (hk.2 _ _ t).2 ⟨hm.i64.1, hm.i64.2, hat.symm⟩
    · rw [h.out o s hm] at hS
      cases hS
theorem nodup_runsI (R : Nat → List Value) : ∀ k, ((runsI R k).map (·.1)).Nodup ∧ ∀ d ∈ (runsI R k).map (·.1), d.1 < (k : Int)
  | 0 => by simp [runsI]
  | k + 1 => by
    obtain ⟨h1, h2⟩ := nodup_runsI R k
    rw [runsI_succ, List.map_append]
    have hr : ∀ d ∈ (rowI R k).map (·.1), d.1 = (k : Int) := fun d hd => by
      obtain ⟨x, hx, rfl⟩ := List.mem_map.1 hd
      obtain ⟨i, _, rfl⟩ := mem_rowI.1 hx
      rfl
    refine ⟨List.nodup_append.2 ⟨h1, ?_, fun a ha b hb e => ?_⟩, fun d hd => ?_⟩
    · unfold rowI
      rw [List.map_map, List.nodup_iff_pairwise_ne, List.pairwise_map]
      refine (List.nodup_iff_pairwise_ne.1 List.nodup_range).imp ?_
      intro i j hij e
      simp only [Function.comp, Prod.mk.injEq] at e
      omega
    · subst e
      have := h2 a ha
      have := hr a hb
      omega
    · rcases List.mem_append.1 hd with hd | hd
      · have := h2 d hd
        omega
      · have := hr d hd
        omega
theorem nodup_all (h : DotsPre w p rs R m D S N) {ss : List It} (hk : KeysV D ss) : ((runsI R 7 ++ ss).map (·.1)).Nodup := by
  rw [List.map_append]
  refine List.nodup_append.2 ⟨(nodup_runsI R 7).1, hk.1, fun a ha b hb e => ?_⟩
  subst e
  obtain ⟨x, hx, rfl⟩ := List.mem_map.1 ha
  obtain ⟨k, hk7, hx⟩ := List.mem_flatMap.1 hx
  have hk7 := List.mem_range.1 hk7
  obtain ⟨i, hi, rfl⟩ := mem_rowI.1 hx
  obtain ⟨y, hy, he⟩ := List.mem_map.1 hb
  obtain ⟨⟨o, s⟩, t⟩ := y
  simp only [Prod.mk.injEq] at he
  obtain ⟨rfl, rfl⟩ := he
  obtain ⟨h1, h2, h3⟩ := (hk.2 _ _ t).1 hy
  rw [h.keys _ _ h1 h2] at h3
  split at h3
  · next hc =>
    have := hc.2
    rw [Int.toNat_natCast] at this
    omega
  · cases h3
theorem its_of (h : DotsPre w p rs R m D S N) {ss : List It} (hk : KeysV D ss) (f : Int → Int → Bool) {hs : List It} (hp : hs.Perm ((runsI R 7 ++ ss).filter (fI f))) (hw : hs.Pairwise (fun x y => ¬ cmpT y x < 0)) : ItsOf S f hs := by
  have hn : (hs.map (·.1)).Nodup := (hp.map _).nodup_iff.2 ((List.filter_sublist.map _).nodup (nodup_all h hk))
  refine ⟨?_, fun o s t => ?_⟩
  · rw [List.nodup_iff_pairwise_ne, List.pairwise_map] at hn
    refine (hw.and hn).imp ?_
    rintro ⟨⟨a1, a2⟩, at'⟩ ⟨⟨b1, b2⟩, bt'⟩ ⟨h1, h2⟩
    unfold cmpT at h1
    rw [cmpD_lt] at h1 ⊢
    simp only [ne_eq, Prod.mk.injEq] at h2
    simp only at h1 ⊢
    omega
  · rw [hp.mem_iff, List.mem_filter, mem_all h hk]
    rfl
end
end Go.Proofs.Ytplecopphddjhaa
