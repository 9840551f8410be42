/-
  pannierlaw11.CartApart answers true for any events of bulk at most 1048576.
-/
import Derived.Test.YtdfdgijaekhioaaCartR
namespace Go.Proofs.Ytdfdgijaekhioaa
open Go.RowKit Go.Maps

/-- One event more, that clears nothing and that nobody has seen. -/
theorem count_snoc {l : List Ev} {e : Ev} (hl : OneEach l) (hc : e.clears = false) (hs : ∀ f ∈ l, ¬ Goes e f) (hd : ∀ f ∈ l, ¬ (f.o = e.o ∧ f.s = e.s)) (c : ByteArray) :
    OneEach (l ++ [e]) ∧ (countOf c (l ++ [e])).Perm (countOf c l ++ (if e.cart = c then [e] else [])) := by
  have h1 : OneEach (l ++ [e]) := by
    intro x hx y hy a b
    rcases List.mem_append.1 hx with hx' | hx' <;> rcases List.mem_append.1 hy with hy' | hy'
    · exact hl x hx' y hy' a b
    · rw [List.mem_singleton.1 hy'] at a b
      exact absurd ⟨a, b⟩ (hd x hx')
    · rw [List.mem_singleton.1 hx'] at a b
      exact absurd ⟨a.symm, b.symm⟩ (hd y hy')
    · rw [List.mem_singleton.1 hx', List.mem_singleton.1 hy']
  have hne : e ∉ l := fun hm => hd e hm ⟨rfl, rfl⟩
  have hng : ∀ x, ¬ Goes x e := fun x hg => by
    have := hg.1
    rw [hc] at this
    cases this
  refine ⟨h1, perm_of_mem (count_nodup _ _) ?_ (fun x => ?_)⟩
  · refine List.nodup_append.2 ⟨count_nodup _ _, ?_, fun a ha b hb hab => ?_⟩
    · split <;> simp
    · subst hab
      split at hb
      · obtain rfl := List.mem_singleton.1 hb
        exact hne ((count_mem hl _).1 ha).1
      · cases hb
  · rw [count_mem h1, List.mem_append, List.mem_append, count_mem hl]
    constructor
    · rintro ⟨h2 | h2, h3, h4⟩
      · exact .inl ⟨h2, h3, fun f hf => h4 f (List.mem_append_left _ hf)⟩
      · right
        rw [List.mem_singleton.1 h2] at h3 ⊢
        rw [if_pos h3]
        exact List.mem_singleton.2 rfl
    · rintro (⟨h2, h3, h4⟩ | h2)
      · refine ⟨.inl h2, h3, fun f hf => ?_⟩
        rcases List.mem_append.1 hf with hf | hf
        · exact h4 f hf
        · rw [List.mem_singleton.1 hf]
          exact hng x
      · split at h2
        · next hcc =>
          rw [List.mem_singleton.1 h2]
          refine ⟨.inr (List.mem_singleton.2 rfl), hcc, fun f hf => ?_⟩
          rcases List.mem_append.1 hf with hf | hf
          · exact hs f hf
          · rw [List.mem_singleton.1 hf]
            exact hng e
        · cases h2
def ax (name sku : ByteArray) (qty : Int) : Ev := ⟨6, 1, [], name, 0, sku, qty, false⟩
theorem apart_q {l : List Ev} (hl : OneEach l) {name sku : ByteArray} {qty : Int} (h6 : ∀ f ∈ l, ¬ f.o = 6 ∧ ofV f.deps 6 ≤ 0) : linesQ name (l ++ [ax name sku qty]) sku = linesQ name l sku + qty := by
  obtain ⟨_, h2⟩ := count_snoc (e := ax name sku qty) hl rfl (fun f hf hg => by
    have h1 := hg.2.2.2.1
    have h3 : (1 : Int) ≤ 1 ∧ 1 ≤ ofV f.deps 6 := h1
    have h4 := (h6 f hf).2
    omega) (fun f hf h => (h6 f hf).1 h.1) name
  unfold linesQ
  rw [qtyOf_perm h2, qtyOf_append, if_pos (show (ax name sku qty).cart = name from rfl)]
  simp [qtyOf, ax]
set_option maxRecDepth 1000000 in
set_option maxHeartbeats 8000000 in
theorem cartApart_walk (ao : Option Addr) (cap : Nat) (xs : List EvM) (name sku : ByteArray) (qty : Int) (w : World) (h : HeldE w ao xs) (hl : xs.length ≤ 1048576) (hd : ∀ x ∈ xs, x.e.deps.length ≤ 1048576) (hs0 : name.size ≤ maxLen) (hs1 : sku.size ≤ maxLen) (_ : -9223372036854775808 ≤ qty ∧ qty ≤ 9223372036854775807) :
    Calls Try.prog 6 #[.slice ao xs.length cap, .string name, .string sku, .int .i64 qty] w fun e w' => e = .returned (.bool true) ∧ Below w.heap.size w w' := by
  obtain ⟨n, HN⟩ : ∃ n, Hid (xs.length = n) := ⟨_, hid rfl⟩
  rw [HN.out] at hl ⊢
  have H := hid h
  have HD := hid hd
  have HS0 := hid hs0
  have HS1 := hid hs1
  have HLV := hid (lives11_any w)
  clear h hd hs0 hs1
  go_enter Try.func6, Try.ntmps6
  go_wp2_with fail
  refine HLV.out.mono ?_
  rintro e w1 ⟨rfl, hb⟩
  have HB1 := hid hb
  have HRT := hid (right_any w1 ao cap xs n HN.out (H.out.below HB1.out) (by omega))
  clear hb HLV
  go_wp2_with fail
  refine HRT.out.mono ?_
  rintro e w2 ⟨⟨r, rfl, hr⟩, hb⟩
  have HB2 := hid (bt HB1.out hb)
  have HR := hid hr
  clear hb hr HRT
  cases r
  · go_wp2
    go_ret
    exact ⟨rfl, HB2.out⟩
  by_cases hq : qty < 1
  · go_wp2
    go_ret
    exact ⟨rfl, HB2.out⟩
  by_cases hq1 : 1000 < qty
  · go_wp2
    go_ret
    exact ⟨rfl, HB2.out⟩
  have HRL := hid (HR.out.1 rfl)
  clear HR
  go_wp2
  go_loop [9] (fun x => ∃ k : Nat, k ≤ n ∧ x = .int .i64 k ∧ Hid (∀ a (ha : a < xs.length), a < k → ¬ xs[a].e.o = 6 ∧ ofV xs[a].e.deps 6 ≤ 0)) (fun x => n - (intOf x).toNat)
  case atStart => exact ⟨0, Nat.zero_le _, rfl, fun a _ ha => absurd ha (Nat.not_lt_zero _)⟩
  case round =>
    obtain ⟨k, hk, rfl, HA⟩ := hrel
    by_cases hlt : k < n
    · have hlt' : (k : Int) < (n : Int) := by omega
      have hkx : Hid (k < xs.length) := (by rw [HN.out]; exact hlt : k < xs.length)
      obtain ⟨bb, off, hao, _, g0, _, g2, _⟩ := (H.out.below HB2.out).at hkx.out
      subst hao
      have HO := hid (of_any w2 (xs[k]'hkx.out).ao (xs[k]'hkx.out).cap (xs[k]'hkx.out).e.deps _ rfl 6 ((H.out.below HB2.out).1 _ (List.getElem_mem hkx.out)).deps.held)
      have HKM : Hid (k + 1 ≤ n) := (by omega : k + 1 ≤ n)
      obtain ⟨O, HOO⟩ : ∃ O, Hid ((xs[k]'hkx.out).e.o = O) := ⟨_, hid rfl⟩
      obtain ⟨Y, HY⟩ : ∃ Y, Hid (ofV (xs[k]'hkx.out).e.deps 6 = Y) := ⟨_, hid rfl⟩
      rw [HOO.out] at g0
      rw [HY.out] at HO
      by_cases h6 : O = 6
      · have h6' : (O == 6) = true := by simp [h6]
        subst h6
        go_wp2
        go_ret
        exact ⟨rfl, HB2.out⟩
      · have h6' : (O == 6) = false := by simp [h6]
        have H6 := hid h6
        clear h6
        go_wp2_with fail
        refine HO.out.mono ?_
        rintro e w3 ⟨rfl, rfl⟩
        by_cases hy : 0 < Y
        · go_wp2
          go_ret
          exact ⟨rfl, HB2.out⟩
        · go_wp2
          go_round
          case rel =>
            refine ⟨k + 1, HKM.out, by go_num, fun a ha hak => ?_⟩
            by_cases e : a = k
            · subst e
              rw [HOO.out, HY.out]
              exact ⟨H6.out, by omega⟩
            · exact HA.out a ha (by omega)
          case measure => simp [intOf]; have := HKM.out; omega
    · have hlt' : ¬ (k : Int) < (n : Int) := by omega
      have H6 : Hid (∀ f ∈ xs.map (·.e), ¬ f.o = 6 ∧ ofV f.deps 6 ≤ 0) := fun f hf => by
        obtain ⟨x, hx, rfl⟩ := List.mem_map.1 hf
        obtain ⟨a, ha, rfl⟩ := List.mem_iff_getElem.1 hx
        exact HA.out a ha (by have := HN.out; omega)
      obtain ⟨W, hW⟩ : ∃ W, W = w2.alloc (.cells #[.int .i64 6, .int .i64 1, .slice none 0 0, .string name, .int .i64 0, .string sku, .int .i64 qty, .bool false] 29) := ⟨_, rfl⟩
      have HBW : Hid (Below w2.heap.size w2 W) := by rw [hW]; exact (Below.refl _ _).alloc (Nat.le_refl _) _
      have HK : Hid (Blk W w2.heap.size 29 [.int .i64 6, .int .i64 1, .slice none 0 0, .string name, .int .i64 0, .string sku, .int .i64 qty, .bool false]) := by rw [hW]; exact Blk.new w2 _ _
      have HW := hid hW
      clear hW
      go_wp2
      rw [← HW.out]
      obtain ⟨pe, hpe⟩ : ∃ p, p = w2.heap.size := ⟨_, rfl⟩
      rw [← hpe] at HK ⊢
      clear hpe
      have HSA : Hid (∀ V, Sc W V → (Sc W V ∧ V.cell? ⟨pe, 0, none⟩ = some (.int .i64 6) ∧ V.cell? ⟨pe, 1, none⟩ = some (.int .i64 1) ∧ V.cell? ⟨pe, 2, none⟩ = some (.slice none 0 0) ∧ V.cell? ⟨pe, 3, none⟩ = some (.string name) ∧ V.cell? ⟨pe, 4, none⟩ = some (.int .i64 0) ∧ V.cell? ⟨pe, 5, none⟩ = some (.string sku) ∧ V.cell? ⟨pe, 6, none⟩ = some (.int .i64 qty) ∧ V.cell? ⟨pe, 7, none⟩ = some (.bool false))) := fun V hV => by
        have hk := HK.out.below hV.out HK.out.lt
        exact ⟨hV, hk.cell (i := 0) rfl, hk.cell (i := 1) rfl, hk.cell (i := 2) rfl, hk.cell (i := 3) rfl, hk.cell (i := 4) rfl, hk.cell (i := 5) rfl, hk.cell (i := 6) rfl, hk.cell (i := 7) rfl⟩
      have hsc0 := Sc.start W
      have c0 := HK.out.cell (i := 0) rfl
      have c1 := HK.out.cell (i := 1) rfl
      have c2 := HK.out.cell (i := 2) rfl
      have c3 := HK.out.cell (i := 3) rfl
      have c4 := HK.out.cell (i := 4) rfl
      have c5 := HK.out.cell (i := 5) rfl
      have c6 := HK.out.cell (i := 6) rfl
      have c7 := HK.out.cell (i := 7) rfl
      have HXS : Hid (∀ V, Sc W V → HeldE V ao xs) := fun V hV => (H.out.below HB2.out).below (bt HBW.out hV.out)
      obtain ⟨X, hX⟩ : ∃ X : EvM, X = ⟨ax name sku qty, none, 0⟩ := ⟨_, rfl⟩
      have HXC : Hid (X.cells = [.int .i64 6, .int .i64 1, .slice none 0 0, .string name, .int .i64 0, .string sku, .int .i64 qty, .bool false]) := by show _ = _; rw [hX]; rfl
      have HXO : Hid (∀ V, EvOk V X) := fun V => by rw [hX]; exact ⟨hv_none _ 0, by unfold I64; simp [ax], by unfold I64; simp [ax], by unfold I64; simp [ax], i64_small (x := qty) (by omega) (by omega), HS0.out, HS1.out⟩
      have HXE : Hid (X.e = ax name sku qty) := by show _ = _; rw [hX]
      have HXA : Hid (∀ V, AllOk V [X]) := fun V x hx => by rw [List.mem_singleton.1 hx]; exact HXO.out V
      have HOK1 : Hid (∀ V U, Sc W V → Below W.heap.size V U → AllOk U xs) := fun V U hV hU => (HXS.out U (hV.grown hU)).1
      have HOK2 : Hid (∀ V U, Sc W V → Below W.heap.size V U → AllOk U (xs ++ [X])) := fun V U hV hU x hx => by
        rcases List.mem_append.1 hx with hx | hx
        · exact (HXS.out U (hV.grown hU)).1 x hx
        · rw [List.mem_singleton.1 hx]
          exact HXO.out U
      have hnn : n + 1 ≤ 100000000 := by omega
      have hn0 : n ≤ 100000000 := by omega
      have HLN : Hid ((xs ++ [X]).length = n + 1) := by show _ = _; rw [List.length_append, HN.out]; rfl
      have HDX : Hid (∀ x ∈ xs ++ [X], x.e.deps.length ≤ 1048576) := fun x hx => by
        rcases List.mem_append.1 hx with hx | hx
        · exact HD.out x hx
        · rw [List.mem_singleton.1 hx, HXE.out]
          simp [ax]
      have HQX : Hid (∀ x ∈ xs ++ [X], 0 ≤ x.e.qty ∧ x.e.qty ≤ 1000) := fun x hx => by
        rcases List.mem_append.1 hx with hx | hx
        · exact HRL.out.1 _ (List.mem_map.2 ⟨x, hx, rfl⟩)
        · rw [List.mem_singleton.1 hx, HXE.out]
          exact ⟨by show 0 ≤ qty; omega, by show qty ≤ 1000; omega⟩
      have HQ0 : Hid (∀ x ∈ xs, 0 ≤ x.e.qty ∧ x.e.qty ≤ 1000) := fun x hx => HQX.out x (List.mem_append_left _ hx)
      obtain ⟨f1, hf1⟩ : ∃ f, linesQ name ((xs ++ [X]).map (·.e)) = f := ⟨_, rfl⟩
      obtain ⟨f2, hf2⟩ : ∃ f, linesQ name (xs.map (·.e)) = f := ⟨_, rfl⟩
      have HP1 : Hid (∀ s, 0 ≤ f1 s) := fun s => by rw [← hf1]; exact linesQ_nonneg (fun e he => by obtain ⟨x, hx, rfl⟩ := List.mem_map.1 he; exact (HQX.out x hx).1) s
      have HP2 : Hid (∀ s, 0 ≤ f2 s) := fun s => by rw [← hf2]; exact linesQ_nonneg (fun e he => by obtain ⟨x, hx, rfl⟩ := List.mem_map.1 he; exact (HQ0.out x hx).1) s
      have HEQ : Hid (f1 sku = f2 sku + qty) := by
        show _ = _
        rw [← hf1, ← hf2, List.map_append, List.map_cons, List.map_nil, HXE.out]
        exact apart_q HRL.out.2 H6.out
      have HBD : Hid (f2 sku ≤ 1048576000) := by
        show _ ≤ _
        rw [← hf2]
        have h1 := qtyOf_le (k := sku) (l := countOf name (xs.map (·.e))) (fun e he => by
          have h2 := firstsFrom_sub _ _ e he
          exact HRL.out.1 e (ofCart_mem.1 (standOf_mem.1 h2).1).1)
        have h3 : (countOf name (xs.map (·.e))).length ≤ n := by
          rw [← countM_e, List.length_map, ← HN.out]
          exact countM_len name xs
        unfold linesQ
        omega
      obtain ⟨Z, HZ⟩ : ∃ Z, Hid (f2 sku = Z) := ⟨_, hid rfl⟩
      rw [HZ.out] at HEQ HBD
      have hz0 : 0 ≤ Z := by have := HP2.out sku; rw [HZ.out] at this; exact this
      have hz1 : Z ≤ 1048576000 := HBD.out
      have HL1 : Hid (∀ V b c, Sc W V → HeldE V b (xs ++ [X]) → Calls Try.prog 12 #[.slice b (n + 1) c, .string name] V fun e w' => ∃ lo ln lc, e = .returned (.slice lo ln lc) ∧ LinesAt f1 w' lo ln ∧ Below V.heap.size V w' ∧ Sc W w') := fun V b c hV hh => lines_at hV b c (xs ++ [X]) (n + 1) HLN.out hh (by omega) HDX.out HQX.out name hf1
      have HL2 : Hid (∀ V, Sc W V → Calls Try.prog 12 #[.slice ao n cap, .string name] V fun e w' => ∃ lo ln lc, e = .returned (.slice lo ln lc) ∧ LinesAt f2 w' lo ln ∧ Below V.heap.size V w' ∧ Sc W w') := fun V hV => lines_at hV ao cap xs n HN.out (HXS.out V hV) (by omega) HD.out HQ0.out name hf2
      have HO1 : Hid (∀ V lo ln lc, LinesAt f1 V lo ln → Calls Try.prog 17 #[.slice lo ln lc, .string sku] V fun e w' => e = .returned (.int .i64 (Z + qty)) ∧ w' = V) := fun V lo ln lc hh => of11_at HP1.out lc hh sku HEQ.out
      have HO2 : Hid (∀ V lo ln lc, LinesAt f2 V lo ln → Calls Try.prog 17 #[.slice lo ln lc, .string sku] V fun e w' => e = .returned (.int .i64 Z) ∧ w' = V) := fun V lo ln lc hh => of11_at HP2.out lc hh sku HZ.out
      have HH1 : Hid (HeldE ((W.alloc (.cells #[.int .i64 6, .int .i64 1, .slice none 0 0, .string name, .int .i64 0, .string sku, .int .i64 qty, .bool false] 29)).alloc (.cells #[] 29)).drew (some ⟨W.heap.size, 0, none⟩) [X]) := by
        have := (held_new (V := W) (HXA.out W)).below ((Below.refl _ _).alloc (Nat.le_refl _) (.cells #[] 29))
        rw [show flatE [X] = [.int .i64 6, .int .i64 1, .slice none 0 0, .string name, .int .i64 0, .string sku, .int .i64 qty, .bool false] by rw [show flatE [X] = X.cells ++ [] from rfl, HXC.out]; rfl] at this
        exact this.below (below_dr (Below.refl _ _))
      have HH2 : Hid (HeldE ((W.alloc (.cells #[] 29)).alloc (.cells #[.int .i64 6, .int .i64 1, .slice none 0 0, .string name, .int .i64 0, .string sku, .int .i64 qty, .bool false] 29)).drew (some ⟨W.heap.size + 1, 0, none⟩) [X]) := by
        have := held_new2 (V := W) HXA.out (.cells #[] 29)
        rw [show flatE [X] = [.int .i64 6, .int .i64 1, .slice none 0 0, .string name, .int .i64 0, .string sku, .int .i64 qty, .bool false] by rw [show flatE [X] = X.cells ++ [] from rfl, HXC.out]; rfl] at this
        exact this.below (below_dr (Below.refl _ _))
      have HH3 : Hid (∀ V : World, HeldE (V.alloc (.cells #[.int .i64 6, .int .i64 1, .slice none 0 0, .string name, .int .i64 0, .string sku, .int .i64 qty, .bool false] 29)) (some ⟨V.heap.size, 0, none⟩) [X]) := fun V => by
        have := held_new (V := V) (HXA.out V)
        rw [show flatE [X] = [.int .i64 6, .int .i64 1, .slice none 0 0, .string name, .int .i64 0, .string sku, .int .i64 qty, .bool false] by rw [show flatE [X] = X.cells ++ [] from rfl, HXC.out]; rfl] at this
        exact this
      have hwr : IntKind.i64.wrap (Z + qty) = Z + qty := wrapI (by omega) (by omega)
      clear hX hf1 hf2
      go_region_held3 (fun V => Sc W V ∧ V.cell? ⟨pe, 0, none⟩ = some (.int .i64 6) ∧ V.cell? ⟨pe, 1, none⟩ = some (.int .i64 1) ∧ V.cell? ⟨pe, 2, none⟩ = some (.slice none 0 0) ∧ V.cell? ⟨pe, 3, none⟩ = some (.string name) ∧ V.cell? ⟨pe, 4, none⟩ = some (.int .i64 0) ∧ V.cell? ⟨pe, 5, none⟩ = some (.string sku) ∧ V.cell? ⟨pe, 6, none⟩ = some (.int .i64 qty) ∧ V.cell? ⟨pe, 7, none⟩ = some (.bool false)) (first | (refine ⟨?_, ?_, ?_, ?_, ?_, ?_, ?_, ?_, ?_⟩ <;> assumption) | (refine HSA.out _ ?_; (repeat (first | assumption | exact Sc.start _ | apply Sc.dr | apply Sc.alloc))))
        (first
          | (refine step_copy_evs rfl _ _ rfl W.heap.size _ rfl ?_ ao n cap xs HN.out rfl ?_ hn0 ?_ ?_ ?_
             · first | exact ownE_made W _ (Nat.le_refl _) | exact (ownE_made W _ (Nat.le_refl _)).alloc _ | exact ownE_made2 W _ _ (Nat.le_refl _)
             · refine HXS.out _ ?_; (repeat (first | assumption | exact Sc.start _ | apply Sc.dr | apply Sc.alloc))
             · refine Sc.size ?_; (repeat (first | assumption | exact Sc.start _ | apply Sc.dr | apply Sc.alloc))
             · refine fun U hU => HOK1.out _ U ?_ hU; (repeat (first | assumption | exact Sc.start _ | apply Sc.dr | apply Sc.alloc))
             intro bo cp w3 hown3 hheld3 hb3 hg3
             have hsc3 : Sc W w3 := Sc.grown (by (repeat (first | assumption | exact Sc.start _ | apply Sc.dr | apply Sc.alloc))) hb3
             first
               | have hX3 := held_grown HXO.out (show HeldE _ (some ⟨W.heap.size, 0, none⟩) [X] from HH1.out) hg3 (by simp)
               | have hX3 := held_grown HXO.out (show HeldE _ (some ⟨W.heap.size + 1, 0, none⟩) [X] from HH2.out) hg3 (by simp)
               | skip
             clear hb3 hg3)
          | (refine step_append_evs rfl _ _ rfl W.heap.size _ n xs HN.out rfl ?_ _ 1 1 [X] rfl rfl ?_ hnn ?_ ?_ ?_
             · first | exact hown3 | exact hown3.alloc _
             · first | exact hX3 | exact HH3.out _
             · refine Sc.size ?_; (repeat (first | assumption | exact Sc.start _ | apply Sc.dr | apply Sc.alloc))
             · refine fun U hU => HOK2.out _ U ?_ hU; (repeat (first | assumption | exact Sc.start _ | apply Sc.dr | apply Sc.alloc))
             intro b4 c4 w4 hown4 hheld4 hb4 hg4
             have hsc4 : Sc W w4 := Sc.grown (by (repeat (first | assumption | exact Sc.start _ | apply Sc.dr | apply Sc.alloc))) hb4
             clear hb4 hg4 hown4)
          | (go_at_call 12; with_reducible refine (HL1.out _ _ _ hsc4 hheld4).mono ?_; rintro e w5 ⟨l5, n5, d5, rfl, hat5, hbl5, hsc5⟩)
          | (go_at_call 12; with_reducible refine (HL2.out _ hsc5).mono ?_; rintro e w7 ⟨l7, n7, d7, rfl, hat7, hbl7, hsc7⟩)
          | (go_at_call 17; with_reducible refine (HO1.out _ _ _ _ hat5).mono ?_; rintro e w6 ⟨rfl, rfl⟩)
          | (go_at_call 17; with_reducible refine (HO2.out _ _ _ _ hat7).mono ?_; rintro e w8 ⟨rfl, rfl⟩))
      all_goals
        go_wp2
        go_ret
        exact ⟨by simp, bt HB2.out (bt HBW.out hsc7.out)⟩
end Go.Proofs.Ytdfdgijaekhioaa
