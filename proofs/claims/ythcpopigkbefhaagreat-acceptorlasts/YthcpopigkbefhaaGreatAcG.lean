/-
  Package acceptor: an acceptor in memory ('AcAt'); New, closed, Promised, promisedAbove, refusal.
-/
import Derived.Test.YthcpopigkbefhaaGreatScLa
import Derived.Test.YthcpopigkbefhaaGreatCodZ
import Derived.Laws.ResultCell
import Derived.Laws.EntriesVeiled
import Derived.Shelf.SlIterI.Sorted
import Derived.Shelf.SortM.Plain
import Derived.Shelf.SortM.SortNone
import Derived.Ground.GgzProg
import Derived.Ground.SlgmProg
namespace Go.Proofs.YthcpopigkbefhaaGreat
open Go.RowKit Go.Maps

def zeroVo : Value := .agg #[.int .i64 0, .int .i64 0, .int .i64 0, .bool false, .string ⟨#[]⟩, .string ⟨#[]⟩, .int .i64 0, .slice none 0 0]
theorem Tryz.zeroVoV (w : World) : (zeroValue 58).run Tryz.prog w = .ok zeroVo w := by kernel_rfl
theorem tidyA {w : World} {m n : Nat} {D : DataW Value} (h : w.ownsMap Tryz.prog 3 valR m n D) : Tidy D := by
  obtain ⟨es, e, hp, _⟩ := h.entries Tryz.keyedIntL
  exact ⟨es, e, hp⟩
/-- Votes in a map, each at its slot. -/
structure VoMap (w : World) (m : Nat) (S : Int → Option VoM) (n : Nat) (D : DataW Value) : Prop where
  map : w.ownsMap Tryz.prog 3 valR m n D
  key : ∀ s, I64 s → look D (.int .i64 s) = (S s).map VoM.val
  ok : ∀ s x, S s = some x → EnKeep w x.en ∧ x.slot = s
  cnt : Maps.size D = n
section
variable {w w' : World} {m n : Nat} {S : Int → Option VoM} {D : DataW Value}
theorem VoMap.turned {F : Nat → Prop} (h : VoMap w m S n D) (ht : Turns F w w') (hm : ¬ F m) (hF : NoNum w F) : VoMap w' m S n D :=
  ⟨ht.map h.map hm, h.key, fun s x hx => ⟨(h.ok s x hx).1.turned hF ht, (h.ok s x hx).2⟩, h.cnt⟩
theorem VoMap.below (h : VoMap w m S n D) (hb : Below w.heap.size w w') : VoMap w' m S n D := h.turned (F := fun _ => False) (Turns.of_below hb (Nat.le_refl _)) (fun h => h) (noNum_none w)
theorem VoMap.look (h : VoMap w m S n D) {s : Int} (hs : I64 s) : (Instr.lookup 46 (.map (some m)) (.int .i64 s) true).run Tryz.prog w = .ok (.tuple #[((S s).map VoM.val).getD zeroVo, .bool (S s).isSome]) w := by
  have := run_look_ok h.map Tryz.keyedIntL Tryz.underlying46 (Tryz.zeroVoV w) (Tryz.keyIntL hs)
  rw [h.key s hs] at this
  simpa using this
theorem VoMap.look1 (h : VoMap w m S n D) {s : Int} (hs : I64 s) : (Instr.lookup 46 (.map (some m)) (.int .i64 s) false).run Tryz.prog w = .ok (((S s).map VoM.val).getD zeroVo) w := by
  have := run_look h.map Tryz.keyedIntL Tryz.underlying46 (Tryz.zeroVoV w) (Tryz.keyIntL hs)
  rw [h.key s hs] at this
  exact this
def updV (S : Int → Option VoM) (s : Int) (x : VoM) : Int → Option VoM := fun t => if t = s then some x else S t
theorem VoMap.put (h : VoMap w m S n D) (hn : n < maxLen) {x : VoM} (hs : I64 x.slot) (hk : EnKeep w x.en) :
    ∃ w2, (Instr.mapUpdate 46 (.map (some m)) (.int .i64 x.slot) x.val).run Tryz.prog w = .ok () w2 ∧ (∃ D', VoMap w2 m (updV S x.slot x) (if (S x.slot).isSome then n else n + 1) D') ∧ Turns (fun i => i = m) w w2 := by
  obtain ⟨w2, hrun, hown, hturn⟩ := h.map.store Tryz.keyedIntL Tryz.underlying46 hn (Tryz.keyIntL hs) (show valR x.val = some (.held x.val, []) from rfl)
  have ht : Turns (fun i => i = m) w w2 := Turns.of_grown (F := fun i => i = m) hturn.grown (fun k hk => by cases hk; rfl)
  have hni := noNum_map h.map
  have hcnt : Maps.size (D.put (.int .i64 x.slot) (.held x.val)) = if (S x.slot).isSome then n else n + 1 := by
    have h1 := size_put (k := .int .i64 x.slot) (tidyA h.map) (.held x.val)
    rw [has_look (allHeld_of h.map), h.key _ hs, h.cnt] at h1
    rw [h1]
    simp
  have hown' : w2.ownsMap Tryz.prog 3 valR m (if (S x.slot).isSome then n else n + 1) (D.put (.int .i64 x.slot) (.held x.val)) := by
    obtain ⟨es, clock, h1, h2, hs', hD⟩ := hown
    refine ⟨es, clock, h1, h2, ?_, hD⟩
    rw [← hcnt, hD]
    have e1 : Maps.size (DataW.map ((es.toList.map (Go.WideElems.rg Tryz.prog 3 valR)).foldr DataW.insert [])) = es.size := by simp [Maps.size, length_sorted]
    rw [e1]
    exact Nat.le_refl _
  refine ⟨w2, hrun, ⟨_, hown', fun t hti => ?_, fun t y hy => ?_, hcnt⟩, ht⟩
  · unfold updV
    by_cases e : t = x.slot
    · subst e
      rw [look_put_same h.map.isMap (Tryz.keyedIntL.key (Tryz.keyIntL hti)), if_pos rfl]
      rfl
    · rw [look_put_other (keyIntL_ne e), if_neg e]
      exact h.key t hti
  · unfold updV at hy
    by_cases e : t = x.slot
    · rw [if_pos e] at hy
      cases hy
      exact ⟨hk.turned hni ht, e.symm⟩
    · rw [if_neg e] at hy
      exact ⟨(h.ok t y hy).1.turned hni ht, (h.ok t y hy).2⟩
end
def VoM.vt (x : VoM) : Vt := (x.bal, x.en.e)
/-- An acceptor in memory: its block p, its map m. -/
structure AcAt (w : World) (p m : Nat) (a : Ac) : Prop where
  ok : AcOk a
  blk : Blk w p 48 [.int .i64 a.node, .int .i64 a.pr.1, .int .i64 a.pr.2, .map (some m)]
  map : ∃ S D, VoMap w m S a.ks.length D ∧ ∀ s, (S s).map VoM.vt = a.f s
def FootA (p m : Nat) (i : Nat) : Prop := i = p ∨ i = m
section
variable {w w' : World} {p m : Nat} {a : Ac}
theorem AcAt.turned {F : Nat → Prop} (h : AcAt w p m a) (ht : Turns F w w') (hd : ∀ i, FootA p m i → ¬ F i) (hF : NoNum w F) : AcAt w' p m a := by
  obtain ⟨S, D, h1, h2⟩ := h.map
  exact ⟨h.ok, ht.blk h.blk (hd p (.inl rfl)), S, D, h1.turned ht (hd m (.inr rfl)) hF, h2⟩
theorem AcAt.below (h : AcAt w p m a) (hb : Below w.heap.size w w') : AcAt w' p m a := h.turned (F := fun _ => False) (Turns.of_below hb (Nat.le_refl _)) (fun _ _ h => h) (noNum_none w)
theorem AcAt.lt (h : AcAt w p m a) : ∀ i, FootA p m i → i < w.heap.size := by
  obtain ⟨S, D, h1, _⟩ := h.map
  rintro i (rfl | rfl)
  · exact h.blk.lt
  · exact h1.map.lt
theorem AcAt.noNum (h : AcAt w p m a) : NoNum w (FootA p m) := by
  obtain ⟨S, D, h1, _⟩ := h.map
  rintro i (rfl | rfl)
  · exact noNum_blk h.blk (by decide) _ rfl
  · exact noNum_map h1.map _ rfl
theorem AcAt.pne (h : AcAt w p m a) : p ≠ m := by
  obtain ⟨S, D, h1, _⟩ := h.map
  exact h.blk.not_map h1.map
theorem AcAt.cells (h : AcAt w p m a) : w.cell? ⟨p, 0, none⟩ = some (.int .i64 a.node) ∧ w.cell? ⟨p, 1, none⟩ = some (.int .i64 a.pr.1) ∧ w.cell? ⟨p, 2, none⟩ = some (.int .i64 a.pr.2) ∧ w.cell? ⟨p, 3, none⟩ = some (.map (some m)) := ⟨h.blk.cell (i := 0) rfl, h.blk.cell (i := 1) rfl, h.blk.cell (i := 2) rfl, h.blk.cell (i := 3) rfl⟩
end
theorem newA_bad (w : World) (n : Int) (h : n < 0 ∨ 7 ≤ n) : Calls Tryz.prog 4 #[.int .i64 n] w fun e w' => e = .returned (.tuple #[.pointer none, .int .i64 1]) ∧ w' = w := by
  by_cases h0 : n < 0
  · go_enter Tryz.func4, Tryz.ntmps4
    go_wp2
    go_ret2
    exact ⟨rfl, rfl⟩
  · have h1 : 7 ≤ n := by omega
    go_enter Tryz.func4, Tryz.ntmps4
    go_wp2
    go_ret2
    exact ⟨rfl, rfl⟩
/-- What New leaves. -/
def NewAP (w : World) (n : Int) (e : Ending) (w' : World) : Prop := ∃ p m, e = .returned (.tuple #[.pointer (some ⟨p, 0, none⟩), .int .i64 0]) ∧ AcAt w' p m (newAc n) ∧ Below w.heap.size w w' ∧ w.heap.size ≤ p ∧ w.heap.size ≤ m
theorem newA_good (w : World) (n : Int) (h0 : ¬ n < 0) (h1 : ¬ 7 ≤ n) : Calls Tryz.prog 4 #[.int .i64 n] w (NewAP w n) := by
  have hmm := @run_makeMap Tryz.prog
  obtain ⟨w1, hw1⟩ : ∃ W, W = w.alloc (.map #[] 0) := ⟨_, rfl⟩
  obtain ⟨w2, hw2⟩ : ∃ W, W = w1.alloc (.cells #[.int .i64 n, .int .i64 0, .int .i64 0, .map (some w.heap.size)] 48) := ⟨_, rfl⟩
  have HW : Hid (w2 = (w.alloc (.map #[] 0)).alloc (.cells #[.int .i64 n, .int .i64 0, .int .i64 0, .map (some w.heap.size)] 48)) := by rw [hw2, hw1]; exact rfl
  have hs1 : w1.heap.size = w.heap.size + 1 := by rw [hw1]; simp
  have hb : Below w.heap.size w w2 := by
    rw [hw2]
    have : Below w.heap.size w w1 := by rw [hw1]; exact (Below.refl _ _).alloc (Nat.le_refl _) _
    exact this.alloc this.size _
  have hk : Blk w2 (w.heap.size + 1) 48 [.int .i64 n, .int .i64 0, .int .i64 0, .map (some w.heap.size)] := by rw [hw2, ← hs1]; exact Blk.new w1 _ _
  have hm : w2.ownsMap Tryz.prog 3 valR w.heap.size 0 (.map []) := by
    have h1 : w1.ownsMap Tryz.prog 3 valR w.heap.size 0 (.map []) := by rw [hw1]; exact World.ownsMap_made w _ _ _
    rw [hw2]
    exact (Turns.refl (fun _ => False) w1).alloc _ |>.map h1 (fun h => h)
  have HAT : Hid (AcAt w2 (w.heap.size + 1) w.heap.size (newAc n)) := ⟨newAc_ok ⟨by omega, by omega⟩, hk, fun _ => none, .map [], ⟨hm, fun s _ => look_empty _, fun s x hx => (by cases hx), rfl⟩, fun s => rfl⟩
  have HB := hid hb
  clear hw1 hw2 hs1 hb hk hm
  go_enter Tryz.func4, Tryz.ntmps4
  go_wp2
  go_ret2
  rw [← HW.out]
  exact ⟨_, _, rfl, HAT.out, HB.out, by omega, Nat.le_refl _⟩
theorem eql_mapA (W : World) (b : Nat) : (binOp .eql 46 (.map (some b)) (.map none)).run Tryz.prog W = .ok (.bool false) W := by kernel_rfl
theorem closedA_nil (w : World) : Calls Tryz.prog 13 #[.pointer none] w fun e w' => e = .returned (.bool true) ∧ w' = w := by
  go_enter Tryz.func13, Tryz.ntmps13
  go_wp2
  go_ret
  exact ⟨rfl, rfl⟩
theorem AcAt.closed {w : World} {p m : Nat} {a : Ac} (h : AcAt w p m a) : Calls Tryz.prog 13 #[.pointer (some ⟨p, 0, none⟩)] w fun e w' => e = .returned (.bool false) ∧ w' = w := by
  obtain ⟨_, _, _, hc⟩ := h.cells
  clear h
  go_enter Tryz.func13, Tryz.ntmps13
  have he := fun W => eql_mapA W m
  go_wp2
  go_ret
  exact ⟨rfl, rfl⟩
/-- A ballot as a value. -/
def PromP (w : World) (b : Int × Int) (e : Ending) (w' : World) : Prop := e = .returned (.agg #[.int .i64 b.1, .int .i64 b.2]) ∧ Below w.heap.size w w'
set_option maxRecDepth 100000 in
theorem AcAt.promised {w : World} {p m : Nat} {a : Ac} (h : AcAt w p m a) : Calls Tryz.prog 8 #[.pointer (some ⟨p, 0, none⟩)] w (PromP w a.pr) := by
  obtain ⟨W, hW⟩ : ∃ W, W = w.alloc (.cells #[.int .i64 0, .int .i64 0] 29) := ⟨_, rfl⟩
  have HB : Hid (Below w.heap.size w W) := by rw [hW]; exact (Below.refl _ _).alloc (Nat.le_refl _) _
  have hr7 : Blk W w.heap.size 29 [.int .i64 0, .int .i64 0] := by rw [hW]; exact Blk.new w _ _
  have H := hid (h.below HB.out)
  have HCL := hid H.out.closed
  have HW := hid hW
  obtain ⟨_, c1, c2, _⟩ := H.out.cells
  obtain ⟨pb, hp⟩ : ∃ q, q = w.heap.size := ⟨_, rfl⟩
  have HP := hid hp
  rw [← hp] at hr7
  obtain ⟨r, n, hpr⟩ : ∃ r n, a.pr = (r, n) := ⟨_, _, rfl⟩
  rw [hpr] at c1 c2 ⊢
  have r0 := hr7.cell (i := 0) rfl
  have r1 := hr7.cell (i := 1) rfl
  have q0 := hr7.frozen 0
  have q1 := hr7.frozen 1
  obtain ⟨W3, hW3⟩ : ∃ V, V = (W.setCell ⟨pb, 0, none⟩ (.int .i64 r)).setCell ⟨pb, 1, none⟩ (.int .i64 n) := ⟨_, rfl⟩
  have hk9 : Blk W3 pb 29 [.int .i64 r, .int .i64 n] := by rw [hW3]; exact (hr7.set 0 _).set 1 _
  have HBF : Hid (Below w.heap.size w W3) := by
    rw [hW3]
    exact (HB.out.setCell (p := ⟨pb, 0, none⟩) (by rw [hp]; exact Nat.le_refl _) _).setCell (p := ⟨pb, 1, none⟩) (by rw [hp]; exact Nat.le_refl _) _
  have k0 := hk9.cell (i := 0) rfl
  have k1 := hk9.cell (i := 1) rfl
  clear hW hr7 hk9 hp h hpr
  go_enter Tryz.func8, Tryz.ntmps8
  go_wp2_with fail
  rw [← HW.out, ← HP.out]
  refine HCL.out.mono ?_
  rintro e w1 ⟨rfl, rfl⟩
  go_wp2
  rw [← hW3]
  (try simp only [Exit.inBlock, Exit.then])
  refine bodyPost_ret (v := .agg #[.int .i64 r, .int .i64 n]) ?_ rfl ⟨rfl, HBF.out⟩
  rw [results_cell1B rfl]
  go_simp
set_option maxRecDepth 100000 in
theorem AcAt.above {w : World} {p m : Nat} {a : Ac} (h : AcAt w p m a) (b : Int × Int) : Calls Tryz.prog 43 #[.pointer (some ⟨p, 0, none⟩), .agg #[.int .i64 b.1, .int .i64 b.2]] w fun e w' => e = .returned (.bool (decide (0 < cmpB a.pr b))) ∧ Below w.heap.size w w' := by
  obtain ⟨W, hW⟩ : ∃ W, W = w.alloc (.cells #[.int .i64 b.1, .int .i64 b.2] 29) := ⟨_, rfl⟩
  have HB : Hid (Below w.heap.size w W) := by rw [hW]; exact (Below.refl _ _).alloc (Nat.le_refl _) _
  have hr7 : Blk W w.heap.size 29 [.int .i64 b.1, .int .i64 b.2] := by rw [hW]; exact Blk.new w _ _
  have H := hid (h.below HB.out)
  have HW := hid hW
  obtain ⟨pb, hp⟩ : ∃ q, q = w.heap.size := ⟨_, rfl⟩
  have HP := hid hp
  rw [← hp] at hr7
  have HK := hid hr7
  have HPL := hid (H.out.lt p (.inl rfl))
  have HCM := hid (fun V => compareB V a.pr b)
  have HAT := hid H.out
  clear hW hr7 hp h
  obtain ⟨C, HC⟩ : ∃ C, Hid (cmpB a.pr b = C) := ⟨_, hid rfl⟩
  rw [HC.out] at HCM ⊢
  obtain ⟨r, n, hpr⟩ : ∃ r n, a.pr = (r, n) := ⟨_, _, rfl⟩
  obtain ⟨b1, b2⟩ := b
  rw [hpr] at HCM
  simp only [blt] at HCM
  have HSA : Hid (∀ V, Below W.heap.size W V → (Below W.heap.size W V ∧ V.cell? ⟨p, 1, none⟩ = some (.int .i64 r) ∧ V.cell? ⟨p, 2, none⟩ = some (.int .i64 n) ∧ V.cell? ⟨pb, 0, none⟩ = some (.int .i64 b1) ∧ V.cell? ⟨pb, 1, none⟩ = some (.int .i64 b2))) := fun V hV => by
    have h1 := (HAT.out.below hV).cells
    rw [hpr] at h1
    have h2 := HK.out.below hV HK.out.lt
    exact ⟨hV, h1.2.1, h1.2.2.1, h2.cell rfl, h2.cell rfl⟩
  have HS0 : Hid (Below W.heap.size W W) := Below.refl _ _
  have HCN : Hid (∀ V, Below W.heap.size W V → Calls Tryz.prog 87 #[.agg #[.int .i64 r, .int .i64 n], .agg #[.int .i64 b1, .int .i64 b2]] V fun e w' => e = .returned (.int .i64 C) ∧ Below W.heap.size W w') := fun V hV => (HCM.out V).mono (fun e w' (hh : _ ∧ _) => And.intro hh.1 (bt' hV hh.2))
  clear hpr
  go_enter Tryz.func43, Tryz.ntmps43
  go_wp2
  rw [← HW.out, ← HP.out]
  go_region_held3 (fun V => Below W.heap.size W V ∧ V.cell? ⟨p, 1, none⟩ = some (.int .i64 r) ∧ V.cell? ⟨p, 2, none⟩ = some (.int .i64 n) ∧ V.cell? ⟨pb, 0, none⟩ = some (.int .i64 b1) ∧ V.cell? ⟨pb, 1, none⟩ = some (.int .i64 b2))
    (first | (refine ⟨?_, ?_, ?_, ?_, ?_⟩ <;> assumption) | (refine HSA.out _ ?_; (repeat (first | assumption | exact HS0.out | apply Below.drew))))
    (first
      | (go_at_call 87; with_reducible refine (HCN.out _ (by (repeat (first | assumption | exact HS0.out | apply Below.drew)))).mono ?_; rintro e w5 ⟨rfl, hs5⟩))
  all_goals
    rename_i hHeld
    have HBF := hid (bt' HB.out hHeld.1)
    clear hHeld
    go_wp2
    go_ret
    exact ⟨rfl, HBF.out⟩
/-- An effect as a value. -/
abbrev effV (k : Int) (c : Bool) (r : ByteArray) (f : FuncId) (lb : Array Value) : Value := .agg #[.int .i64 k, .bool c, .string r, .func (.func f) #[] lb]
set_option maxRecDepth 100000 in
theorem refusalA (w : World) : Calls Tryz.prog 44 #[] w fun e w' => e = .returned (effV 5 false ⟨#[]⟩ 88 #[]) ∧ Below w.heap.size w w' := by
  go_enter Tryz.func44, Tryz.ntmps44
  go_wp2
  obtain ⟨W3, hW3⟩ : ∃ V, V = w.alloc (.cells #[.int .i64 5, .bool false, .string ⟨#[]⟩, .func (.func 88) #[] #[]] 50) := ⟨_, rfl⟩
  have hk : Blk W3 w.heap.size 50 [.int .i64 5, .bool false, .string ⟨#[]⟩, .func (.func 88) #[] #[]] := by rw [hW3]; exact Blk.new w _ _
  have HB : Hid (Below w.heap.size w W3) := by rw [hW3]; exact (Below.refl _ _).alloc (Nat.le_refl _) _
  have k0 := hk.cell (i := 0) rfl
  have k1 := hk.cell (i := 1) rfl
  have k2 := hk.cell (i := 2) rfl
  have k3 := hk.cell (i := 3) rfl
  rw [← hW3]
  refine bodyPost_ret (v := .agg #[.int .i64 5, .bool false, .string ⟨#[]⟩, .func (.func 88) #[] #[]]) ?_ rfl ⟨rfl, HB.out⟩
  rw [results_cell1B rfl]
  go_simp
theorem refusal1A (w : World) : Calls Tryz.prog 88 #[] w fun e w' => e = .returned (.tuple #[]) ∧ w' = w := by
  go_enter Tryz.func88, Tryz.ntmps88
  go_wp2
  (try simp only [Exit.inBlock, Exit.then])
  refine bodyPost_end (results_none rfl _ _ _) rfl ?_
  exact ⟨rfl, rfl⟩
end Go.Proofs.YthcpopigkbefhaaGreat
/-
  Package acceptor: the slots that have votes, sorted.
-/
namespace Go.Proofs
open Go.RowKit Go.Maps Go.Sort Go.Shelf
shelf_lay_g SlLaysZI.n7 Ggz 7 at Tryz 23 as YthcpopigkbefhaaGreat.keysV
shelf_lay_g SlLaysZI.n6 Ggz 6 at Tryz 22 as YthcpopigkbefhaaGreat.sortedV
shelf_lay_g SlLaysM.n5 Slgm 5 at Tryz 41 as YthcpopigkbefhaaGreat.sortV
end Go.Proofs
namespace Go.Proofs.YthcpopigkbefhaaGreat
open Go.RowKit Go.Maps Go.Sort Go.Shelf

theorem sortsV (m : Nat) : AnyZI.SortsIn Tryz.prog sortedV_ren Fence.wide m :=
  ⟨fun blk off cap ss W hH hblk hsz => callsIn_wide.2 (AnyM.slices_Sort_int sortV blk off cap ss W hH hblk hsz),
   fun p cap W => callsIn_wide.2 (AnyM.slices_Sort_int_none sortV p cap W)⟩
theorem keysA (mb : Nat) (W : World) : Calls Tryz.prog 23 #[.map (some mb)] W fun e w' => e = .returned (.func (.func 42) #[] #[.pointer (some ⟨W.heap.size, 0, none⟩)]) ∧ w' = W.alloc (.cells #[.map (some mb)] 46) :=
  (callsIn_wide (n := 5)).1 (AnyZI.keys_in keysV Fence.wide 5 trivial rfl (some mb) W)
theorem mem_intKeys {w : World} {b n : Nat} {D : DataW Value} (hown : w.ownsMap Tryz.prog 3 valR b n D) (x : Int) : x ∈ intKeys D ↔ Maps.has D (.int .i64 x) = true := by
  obtain ⟨es, rfl, hko⟩ := hown.keysOf
  rw [has_eq, List.any_eq_true]
  show x ∈ es.map (fun p => Go.intOf p.1) ↔ _
  rw [List.mem_map]
  constructor
  · rintro ⟨p, hp, rfl⟩
    obtain ⟨v, hv⟩ := hko p hp
    obtain ⟨y, _, hy, _⟩ := Maps.keyOf_i64 Tryz.underlying3 hv
    exact ⟨p, hp, by rw [hy]; simp [Lit.sameKey, Go.intOf]⟩
  · rintro ⟨p, hp, hs⟩
    obtain ⟨v, hv⟩ := hko p hp
    obtain ⟨y, _, hy, _⟩ := Maps.keyOf_i64 Tryz.underlying3 hv
    rw [hy] at hs
    exact ⟨p, hp, by rw [hy]; simpa [Lit.sameKey, Go.intOf] using hs⟩
theorem isSome_of {a : Ac} {S : Int → Option VoM} (h : ∀ s, (S s).map VoM.vt = a.f s) (s : Int) : (S s).isSome = (a.f s).isSome := by rw [← h s]; simp
theorem keys_perm {w : World} {p m : Nat} {a : Ac} (h : AcAt w p m a) {S : Int → Option VoM} {D : DataW Value} (hm : VoMap w m S a.ks.length D) (hS : ∀ s, (S s).map VoM.vt = a.f s) : a.ks.Perm (intKeys D) := by
  have hmem : ∀ x, x ∈ a.ks ↔ Maps.has D (.int .i64 x) = true := fun x => by
    constructor
    · intro hx
      have hi : I64 x := by have := h.ok.slot x hx; unfold I64; omega
      rw [has_look (allHeld_of hm.map), hm.key x hi]
      have := (h.ok.has x).1 hx
      rw [← isSome_of hS x] at this
      simpa using this
    · intro hx
      have hi : I64 x := by
        have := intKeys_wf hm.map Tryz.underlying3 x ((mem_intKeys hm.map x).2 hx)
        unfold I64
        simp [Lit.wf, IntKind.min, IntKind.max, IntKind.signed, IntKind.bits] at this
        omega
      rw [has_look (allHeld_of hm.map), hm.key x hi] at hx
      refine (h.ok.has x).2 ?_
      rw [← isSome_of hS x]
      simpa using hx
  obtain ⟨es, hD, hpw, _⟩ := hm.map.entries Tryz.keyedIntL
  obtain ⟨es', hD', hko⟩ := hm.map.keysOf
  obtain rfl : es = es' := by rw [hD] at hD'; simpa using hD'
  have hnd : a.ks.Nodup := (h.ok.rise).imp (fun hlt e => by omega)
  rw [hD] at hmem ⊢
  exact perm_intKeys hpw (fun q hq => by obtain ⟨v, hv⟩ := hko q hq; obtain ⟨x, _, hx, _⟩ := Maps.keyOf_i64 Tryz.underlying3 hv; exact ⟨x, hx⟩) hnd hmem
theorem sorted_ks {ks ss : List Int} (hr : Rises ks) (h : ss.Perm ks) : (ss.mergeSort fun x y => decide (x ≤ y)) = ks := by
  have h1 := mergeSort_of_perm_i h
  show ss.mergeSort leI = ks
  rw [h1]
  exact List.mergeSort_of_pairwise (hr.imp (fun hlt => by simp; omega))
set_option maxHeartbeats 1000000 in
theorem AcAt.sortedKeys {W : World} {p m : Nat} {a : Ac} (h : AcAt W p m a) : Calls Tryz.prog 22 #[.func (.func 42) #[] #[.pointer (some ⟨W.heap.size, 0, none⟩)]] (W.alloc (.cells #[.map (some m)] 46)) fun e w' => ∃ v, e = .returned v ∧ w'.ownsRow W.heap.size 3 1 v a.ks.length (ints a.ks) ∧ Below W.heap.size W w' := by
  obtain ⟨S, D, hm, hS⟩ := h.map
  have hperm := keys_perm h hm hS
  have hfew := h.ok.few
  have hsz := hm.cnt
  have hbl := hm.map.lt
  have hseq : SeqGives Fence.wide 2 Tryz.prog 42 #[.pointer (some ⟨W.heap.size, 0, none⟩)] encZ (fun ss => ss.Perm (intKeys D)) (Maps.size D) (W.alloc (.cells #[.map (some m)] 46)) :=
    AnyZI.keys_gives (ρ := keysV_ren) { keysV with } Fence.wide _ trivial rfl (by omega) W.heap.size m _ D _ (by simp) (by simp) ((Turns.refl (fun _ => False) W).alloc _ |>.map hm.map (fun h => h))
  have cS := AnyZI.sorted_in sortedV Fence.wide 5 trivial trivial trivial trivial rfl (by omega) (sortsV _) (enters_of Tryz.func41 (by kernel_rfl) rfl) 42 #[.pointer (some ⟨W.heap.size, 0, none⟩)] trivial (enters_of Tryz.func42 (by kernel_rfl) rfl) _ _ (by unfold maxLen; omega) (by omega) _ hseq
  change CallsIn _ _ Tryz.prog 22 _ _ _ at cS
  refine ((callsIn_wide (n := 5)).1 cS).mono ?_
  rintro e w' ⟨v, ss, rfl, hp, hrow, _, hb⟩
  have hss := sorted_ks h.ok.rise (hp.trans hperm.symm)
  rw [hss] at hrow
  have hl : ss.length = a.ks.length := (hp.trans hperm.symm).length_eq
  rw [hl] at hrow
  have hbW : Below W.heap.size W (W.alloc (.cells #[.map (some m)] 46)) := (Below.refl _ _).alloc (Nat.le_refl _) _
  exact ⟨v, rfl, own_monoC hrow hbW.size, bt' hbW hb⟩
end Go.Proofs.YthcpopigkbefhaaGreat
