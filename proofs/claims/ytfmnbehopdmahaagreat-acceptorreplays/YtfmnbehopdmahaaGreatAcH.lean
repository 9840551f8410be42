/-
  Package acceptor: an acceptor in memory ('AcAt'); New, closed, Promised, promisedAbove, refusal.
-/
import Derived.Test.YtfmnbehopdmahaaGreatScLa
import Derived.Test.YtfmnbehopdmahaaGreatCodZ
import Derived.Laws.ResultCell
import Derived.Laws.EntriesVeiled
import Derived.Shelf.SlIterI.Sorted
import Derived.Shelf.SortM.Plain
import Derived.Shelf.SortM.SortNone
import Derived.Ground.GgzProg
import Derived.Ground.SlgmProg
namespace Go.Proofs.YtfmnbehopdmahaaGreat
open Go.RowKit Go.Maps

def zeroVo : Value := .agg #[.int .i64 0, .int .i64 0, .int .i64 0, .bool false, .string ⟨#[]⟩, .string ⟨#[]⟩, .int .i64 0, .slice none 0 0]
theorem Tryz.zeroVoV (w : World) : (zeroValue 73).run Tryz.prog w = .ok zeroVo w := by kernel_rfl
theorem tidyA {w : World} {m n : Nat} {D : DataW Value} (h : w.ownsMap Tryz.prog 3 valR m n D) : Tidy D := by
  obtain ⟨es, e, hp, _⟩ := h.entries Tryz.keyedIntL
  exact ⟨es, e, hp⟩
/-- Votes in a map, each at its slot. -/
structure VoMap (w : World) (m : Nat) (S : Int → Option VoM) (n : Nat) (D : DataW Value) : Prop where
  map : w.ownsMap Tryz.prog 3 valR m n D
  key : ∀ s, I64 s → look D (.int .i64 s) = (S s).map VoM.val
  ok : ∀ s x, S s = some x → EnKeep w x.en ∧ x.slot = s
  cnt : Maps.size D = n
section
variable {w w' : World} {m n : Nat} {S : Int → Option VoM} {D : DataW Value}
theorem VoMap.turned {F : Nat → Prop} (h : VoMap w m S n D) (ht : Turns F w w') (hm : ¬ F m) (hF : NoNum w F) : VoMap w' m S n D :=
  ⟨ht.map h.map hm, h.key, fun s x hx => ⟨(h.ok s x hx).1.turned hF ht, (h.ok s x hx).2⟩, h.cnt⟩
theorem VoMap.below (h : VoMap w m S n D) (hb : Below w.heap.size w w') : VoMap w' m S n D := h.turned (F := fun _ => False) (Turns.of_below hb (Nat.le_refl _)) (fun h => h) (noNum_none w)
theorem VoMap.look (h : VoMap w m S n D) {s : Int} (hs : I64 s) : (Instr.lookup 57 (.map (some m)) (.int .i64 s) true).run Tryz.prog w = .ok (.tuple #[((S s).map VoM.val).getD zeroVo, .bool (S s).isSome]) w := by
  have := run_look_ok h.map Tryz.keyedIntL Tryz.underlying57 (Tryz.zeroVoV w) (Tryz.keyIntL hs)
  rw [h.key s hs] at this
  simpa using this
theorem VoMap.look1 (h : VoMap w m S n D) {s : Int} (hs : I64 s) : (Instr.lookup 57 (.map (some m)) (.int .i64 s) false).run Tryz.prog w = .ok (((S s).map VoM.val).getD zeroVo) w := by
  have := run_look h.map Tryz.keyedIntL Tryz.underlying57 (Tryz.zeroVoV w) (Tryz.keyIntL hs)
  rw [h.key s hs] at this
  exact this
def updV (S : Int → Option VoM) (s : Int) (x : VoM) : Int → Option VoM := fun t => if t = s then some x else S t
theorem VoMap.put (h : VoMap w m S n D) (hn : n < maxLen) {x : VoM} (hs : I64 x.slot) (hk : EnKeep w x.en) :
    ∃ w2, (Instr.mapUpdate 57 (.map (some m)) (.int .i64 x.slot) x.val).run Tryz.prog w = .ok () w2 ∧ (∃ D', VoMap w2 m (updV S x.slot x) (if (S x.slot).isSome then n else n + 1) D') ∧ Turns (fun i => i = m) w w2 := by
  obtain ⟨w2, hrun, hown, hturn⟩ := h.map.store Tryz.keyedIntL Tryz.underlying57 hn (Tryz.keyIntL hs) (show valR x.val = some (.held x.val, []) from rfl)
  have ht : Turns (fun i => i = m) w w2 := Turns.of_grown (F := fun i => i = m) hturn.grown (fun k hk => by cases hk; rfl)
  have hni := noNum_map h.map
  have hcnt : Maps.size (D.put (.int .i64 x.slot) (.held x.val)) = if (S x.slot).isSome then n else n + 1 := by
    have h1 := size_put (k := .int .i64 x.slot) (tidyA h.map) (.held x.val)
    rw [has_look (allHeld_of h.map), h.key _ hs, h.cnt] at h1
    rw [h1]
    simp
  have hown' : w2.ownsMap Tryz.prog 3 valR m (if (S x.slot).isSome then n else n + 1) (D.put (.int .i64 x.slot) (.held x.val)) := by
    obtain ⟨es, clock, h1, h2, hs', hD⟩ := hown
    refine ⟨es, clock, h1, h2, ?_, hD⟩
    rw [← hcnt, hD]
    have e1 : Maps.size (DataW.map ((es.toList.map (Go.WideElems.rg Tryz.prog 3 valR)).foldr DataW.insert [])) = es.size := by simp [Maps.size, length_sorted]
    rw [e1]
    exact Nat.le_refl _
  refine ⟨w2, hrun, ⟨_, hown', fun t hti => ?_, fun t y hy => ?_, hcnt⟩, ht⟩
  · unfold updV
    by_cases e : t = x.slot
    · subst e
      rw [look_put_same h.map.isMap (Tryz.keyedIntL.key (Tryz.keyIntL hti)), if_pos rfl]
      rfl
    · rw [look_put_other (keyIntL_ne e), if_neg e]
      exact h.key t hti
  · unfold updV at hy
    by_cases e : t = x.slot
    · rw [if_pos e] at hy
      cases hy
      exact ⟨hk.turned hni ht, e.symm⟩
    · rw [if_neg e] at hy
      exact ⟨(h.ok t y hy).1.turned hni ht, (h.ok t y hy).2⟩
end
def VoM.vt (x : VoM) : Vt := (x.bal, x.en.e)
/-- An acceptor in memory: its block p, its map m. -/
structure AcAt (w : World) (p m : Nat) (a : Ac) : Prop where
  ok : AcOk a
  blk : Blk w p 59 [.int .i64 a.node, .int .i64 a.pr.1, .int .i64 a.pr.2, .map (some m)]
  map : ∃ S D, VoMap w m S a.ks.length D ∧ ∀ s, (S s).map VoM.vt = a.f s
def FootA (p m : Nat) (i : Nat) : Prop := i = p ∨ i = m
section
variable {w w' : World} {p m : Nat} {a : Ac}
theorem AcAt.turned {F : Nat → Prop} (h : AcAt w p m a) (ht : Turns F w w') (hd : ∀ i, FootA p m i → ¬ F i) (hF : NoNum w F) : AcAt w' p m a := by
  obtain ⟨S, D, h1, h2⟩ := h.map
  exact ⟨h.ok, ht.blk h.blk (hd p (.inl rfl)), S, D, h1.turned ht (hd m (.inr rfl)) hF, h2⟩
theorem AcAt.below (h : AcAt w p m a) (hb : Below w.heap.size w w') : AcAt w' p m a := h.turned (F := fun _ => False) (Turns.of_below hb (Nat.le_refl _)) (fun _ _ h => h) (noNum_none w)
theorem AcAt.lt (h : AcAt w p m a) : ∀ i, FootA p m i → i < w.heap.size := by
  obtain ⟨S, D, h1, _⟩ := h.map
  rintro i (rfl | rfl)
  · exact h.blk.lt
  · exact h1.map.lt
theorem AcAt.noNum (h : AcAt w p m a) : NoNum w (FootA p m) := by
  obtain ⟨S, D, h1, _⟩ := h.map
  rintro i (rfl | rfl)
  · exact noNum_blk h.blk (by decide) _ rfl
  · exact noNum_map h1.map _ rfl
theorem AcAt.pne (h : AcAt w p m a) : p ≠ m := by
  obtain ⟨S, D, h1, _⟩ := h.map
  exact h.blk.not_map h1.map
theorem AcAt.cells (h : AcAt w p m a) : w.cell? ⟨p, 0, none⟩ = some (.int .i64 a.node) ∧ w.cell? ⟨p, 1, none⟩ = some (.int .i64 a.pr.1) ∧ w.cell? ⟨p, 2, none⟩ = some (.int .i64 a.pr.2) ∧ w.cell? ⟨p, 3, none⟩ = some (.map (some m)) := ⟨h.blk.cell (i := 0) rfl, h.blk.cell (i := 1) rfl, h.blk.cell (i := 2) rfl, h.blk.cell (i := 3) rfl⟩
end
theorem newA_bad (w : World) (n : Int) (h : n < 0 ∨ 7 ≤ n) : Calls Tryz.prog 5 #[.int .i64 n] w fun e w' => e = .returned (.tuple #[.pointer none, .int .i64 1]) ∧ w' = w := by
  by_cases h0 : n < 0
  · go_enter Tryz.func5, Tryz.ntmps5
    go_wp2
    go_ret2
    exact ⟨rfl, rfl⟩
  · have h1 : 7 ≤ n := by omega
    go_enter Tryz.func5, Tryz.ntmps5
    go_wp2
    go_ret2
    exact ⟨rfl, rfl⟩
/-- What New leaves. -/
def NewAP (w : World) (n : Int) (e : Ending) (w' : World) : Prop := ∃ p m, e = .returned (.tuple #[.pointer (some ⟨p, 0, none⟩), .int .i64 0]) ∧ AcAt w' p m (newAc n) ∧ Below w.heap.size w w' ∧ w.heap.size ≤ p ∧ w.heap.size ≤ m
theorem newA_good (w : World) (n : Int) (h0 : ¬ n < 0) (h1 : ¬ 7 ≤ n) : Calls Tryz.prog 5 #[.int .i64 n] w (NewAP w n) := by
  have hmm := @run_makeMap Tryz.prog
  obtain ⟨w1, hw1⟩ : ∃ W, W = w.alloc (.map #[] 0) := ⟨_, rfl⟩
  obtain ⟨w2, hw2⟩ : ∃ W, W = w1.alloc (.cells #[.int .i64 n, .int .i64 0, .int .i64 0, .map (some w.heap.size)] 59) := ⟨_, rfl⟩
  have HW : Hid (w2 = (w.alloc (.map #[] 0)).alloc (.cells #[.int .i64 n, .int .i64 0, .int .i64 0, .map (some w.heap.size)] 59)) := by rw [hw2, hw1]; exact rfl
  have hs1 : w1.heap.size = w.heap.size + 1 := by rw [hw1]; simp
  have hb : Below w.heap.size w w2 := by
    rw [hw2]
    have : Below w.heap.size w w1 := by rw [hw1]; exact (Below.refl _ _).alloc (Nat.le_refl _) _
    exact this.alloc this.size _
  have hk : Blk w2 (w.heap.size + 1) 59 [.int .i64 n, .int .i64 0, .int .i64 0, .map (some w.heap.size)] := by rw [hw2, ← hs1]; exact Blk.new w1 _ _
  have hm : w2.ownsMap Tryz.prog 3 valR w.heap.size 0 (.map []) := by
    have h1 : w1.ownsMap Tryz.prog 3 valR w.heap.size 0 (.map []) := by rw [hw1]; exact World.ownsMap_made w _ _ _
    rw [hw2]
    exact (Turns.refl (fun _ => False) w1).alloc _ |>.map h1 (fun h => h)
  have HAT : Hid (AcAt w2 (w.heap.size + 1) w.heap.size (newAc n)) := ⟨newAc_ok ⟨by omega, by omega⟩, hk, fun _ => none, .map [], ⟨hm, fun s _ => look_empty _, fun s x hx => (by cases hx), rfl⟩, fun s => rfl⟩
  have HB := hid hb
  clear hw1 hw2 hs1 hb hk hm
  go_enter Tryz.func5, Tryz.ntmps5
  go_wp2
  go_ret2
  rw [← HW.out]
  exact ⟨_, _, rfl, HAT.out, HB.out, by omega, Nat.le_refl _⟩
theorem eql_mapA (W : World) (b : Nat) : (binOp .eql 57 (.map (some b)) (.map none)).run Tryz.prog W = .ok (.bool false) W := by kernel_rfl
theorem closedA_nil (w : World) : Calls Tryz.prog 29 #[.pointer none] w fun e w' => e = .returned (.bool true) ∧ w' = w := by
  go_enter Tryz.func29, Tryz.ntmps29
  go_wp2
  go_ret
  exact ⟨rfl, rfl⟩
theorem AcAt.closed {w : World} {p m : Nat} {a : Ac} (h : AcAt w p m a) : Calls Tryz.prog 29 #[.pointer (some ⟨p, 0, none⟩)] w fun e w' => e = .returned (.bool false) ∧ w' = w := by
  obtain ⟨_, _, _, hc⟩ := h.cells
  clear h
  go_enter Tryz.func29, Tryz.ntmps29
  have he := fun W => eql_mapA W m
  go_wp2
  go_ret
  exact ⟨rfl, rfl⟩
/-- A ballot as a value. -/
def PromP (w : World) (b : Int × Int) (e : Ending) (w' : World) : Prop := e = .returned (.agg #[.int .i64 b.1, .int .i64 b.2]) ∧ Below w.heap.size w w'
set_option maxRecDepth 100000 in
theorem AcAt.promised {w : World} {p m : Nat} {a : Ac} (h : AcAt w p m a) : Calls Tryz.prog 33 #[.pointer (some ⟨p, 0, none⟩)] w (PromP w a.pr) := by
  obtain ⟨W, hW⟩ : ∃ W, W = w.alloc (.cells #[.int .i64 0, .int .i64 0] 35) := ⟨_, rfl⟩
  have HB : Hid (Below w.heap.size w W) := by rw [hW]; exact (Below.refl _ _).alloc (Nat.le_refl _) _
  have hr7 : Blk W w.heap.size 35 [.int .i64 0, .int .i64 0] := by rw [hW]; exact Blk.new w _ _
  have H := hid (h.below HB.out)
  have HCL := hid H.out.closed
  have HW := hid hW
  obtain ⟨_, c1, c2, _⟩ := H.out.cells
  obtain ⟨pb, hp⟩ : ∃ q, q = w.heap.size := ⟨_, rfl⟩
  have HP := hid hp
  rw [← hp] at hr7
  obtain ⟨r, n, hpr⟩ : ∃ r n, a.pr = (r, n) := ⟨_, _, rfl⟩
  rw [hpr] at c1 c2 ⊢
  have r0 := hr7.cell (i := 0) rfl
  have r1 := hr7.cell (i := 1) rfl
  have q0 := hr7.frozen 0
  have q1 := hr7.frozen 1
  obtain ⟨W3, hW3⟩ : ∃ V, V = (W.setCell ⟨pb, 0, none⟩ (.int .i64 r)).setCell ⟨pb, 1, none⟩ (.int .i64 n) := ⟨_, rfl⟩
  have hk9 : Blk W3 pb 35 [.int .i64 r, .int .i64 n] := by rw [hW3]; exact (hr7.set 0 _).set 1 _
  have HBF : Hid (Below w.heap.size w W3) := by
    rw [hW3]
    exact (HB.out.setCell (p := ⟨pb, 0, none⟩) (by rw [hp]; exact Nat.le_refl _) _).setCell (p := ⟨pb, 1, none⟩) (by rw [hp]; exact Nat.le_refl _) _
  have k0 := hk9.cell (i := 0) rfl
  have k1 := hk9.cell (i := 1) rfl
  clear hW hr7 hk9 hp h hpr
  go_enter Tryz.func33, Tryz.ntmps33
  go_wp2_with fail
  rw [← HW.out, ← HP.out]
  refine HCL.out.mono ?_
  rintro e w1 ⟨rfl, rfl⟩
  go_wp2
  rw [← hW3]
  (try simp only [Exit.inBlock, Exit.then])
  refine bodyPost_ret (v := .agg #[.int .i64 r, .int .i64 n]) ?_ rfl ⟨rfl, HBF.out⟩
  rw [results_cell1B rfl]
  go_simp
set_option maxRecDepth 100000 in
theorem AcAt.above {w : World} {p m : Nat} {a : Ac} (h : AcAt w p m a) (b : Int × Int) : Calls Tryz.prog 87 #[.pointer (some ⟨p, 0, none⟩), .agg #[.int .i64 b.1, .int .i64 b.2]] w fun e w' => e = .returned (.bool (decide (0 < cmpB a.pr b))) ∧ Below w.heap.size w w' := by
  obtain ⟨W, hW⟩ : ∃ W, W = w.alloc (.cells #[.int .i64 b.1, .int .i64 b.2] 35) := ⟨_, rfl⟩
  have HB : Hid (Below w.heap.size w W) := by rw [hW]; exact (Below.refl _ _).alloc (Nat.le_refl _) _
  have hr7 : Blk W w.heap.size 35 [.int .i64 b.1, .int .i64 b.2] := by rw [hW]; exact Blk.new w _ _
  have H := hid (h.below HB.out)
  have HW := hid hW
  obtain ⟨pb, hp⟩ : ∃ q, q = w.heap.size := ⟨_, rfl⟩
  have HP := hid hp
  rw [← hp] at hr7
  have HK := hid hr7
  have HPL := hid (H.out.lt p (.inl rfl))
  have HCM := hid (fun V => compareB V a.pr b)
  have HAT := hid H.out
  clear hW hr7 hp h
  obtain ⟨C, HC⟩ : ∃ C, Hid (cmpB a.pr b = C) := ⟨_, hid rfl⟩
  rw [HC.out] at HCM ⊢
  obtain ⟨r, n, hpr⟩ : ∃ r n, a.pr = (r, n) := ⟨_, _, rfl⟩
  obtain ⟨b1, b2⟩ := b
  rw [hpr] at HCM
  simp only [blt] at HCM
  have HSA : Hid (∀ V, Below W.heap.size W V → (Below W.heap.size W V ∧ V.cell? ⟨p, 1, none⟩ = some (.int .i64 r) ∧ V.cell? ⟨p, 2, none⟩ = some (.int .i64 n) ∧ V.cell? ⟨pb, 0, none⟩ = some (.int .i64 b1) ∧ V.cell? ⟨pb, 1, none⟩ = some (.int .i64 b2))) := fun V hV => by
    have h1 := (HAT.out.below hV).cells
    rw [hpr] at h1
    have h2 := HK.out.below hV HK.out.lt
    exact ⟨hV, h1.2.1, h1.2.2.1, h2.cell rfl, h2.cell rfl⟩
  have HS0 : Hid (Below W.heap.size W W) := Below.refl _ _
  have HCN : Hid (∀ V, Below W.heap.size W V → Calls Tryz.prog 138 #[.agg #[.int .i64 r, .int .i64 n], .agg #[.int .i64 b1, .int .i64 b2]] V fun e w' => e = .returned (.int .i64 C) ∧ Below W.heap.size W w') := fun V hV => (HCM.out V).mono (fun e w' (hh : _ ∧ _) => And.intro hh.1 (bt' hV hh.2))
  clear hpr
  go_enter Tryz.func87, Tryz.ntmps87
  go_wp2
  rw [← HW.out, ← HP.out]
  go_region_held3 (fun V => Below W.heap.size W V ∧ V.cell? ⟨p, 1, none⟩ = some (.int .i64 r) ∧ V.cell? ⟨p, 2, none⟩ = some (.int .i64 n) ∧ V.cell? ⟨pb, 0, none⟩ = some (.int .i64 b1) ∧ V.cell? ⟨pb, 1, none⟩ = some (.int .i64 b2))
    (first | (refine ⟨?_, ?_, ?_, ?_, ?_⟩ <;> assumption) | (refine HSA.out _ ?_; (repeat (first | assumption | exact HS0.out | apply Below.drew))))
    (first
      | (go_at_call 138; with_reducible refine (HCN.out _ (by (repeat (first | assumption | exact HS0.out | apply Below.drew)))).mono ?_; rintro e w5 ⟨rfl, hs5⟩))
  all_goals
    rename_i hHeld
    have HBF := hid (bt' HB.out hHeld.1)
    clear hHeld
    go_wp2
    go_ret
    exact ⟨rfl, HBF.out⟩
/-- An effect as a value. -/
abbrev effV (k : Int) (c : Bool) (r : ByteArray) (f : FuncId) (lb : Array Value) : Value := .agg #[.int .i64 k, .bool c, .string r, .func (.func f) #[] lb]
set_option maxRecDepth 100000 in
theorem refusalA (w : World) : Calls Tryz.prog 88 #[] w fun e w' => e = .returned (effV 5 false ⟨#[]⟩ 139 #[]) ∧ Below w.heap.size w w' := by
  go_enter Tryz.func88, Tryz.ntmps88
  go_wp2
  obtain ⟨W3, hW3⟩ : ∃ V, V = w.alloc (.cells #[.int .i64 5, .bool false, .string ⟨#[]⟩, .func (.func 139) #[] #[]] 62) := ⟨_, rfl⟩
  have hk : Blk W3 w.heap.size 62 [.int .i64 5, .bool false, .string ⟨#[]⟩, .func (.func 139) #[] #[]] := by rw [hW3]; exact Blk.new w _ _
  have HB : Hid (Below w.heap.size w W3) := by rw [hW3]; exact (Below.refl _ _).alloc (Nat.le_refl _) _
  have k0 := hk.cell (i := 0) rfl
  have k1 := hk.cell (i := 1) rfl
  have k2 := hk.cell (i := 2) rfl
  have k3 := hk.cell (i := 3) rfl
  rw [← hW3]
  refine bodyPost_ret (v := .agg #[.int .i64 5, .bool false, .string ⟨#[]⟩, .func (.func 139) #[] #[]]) ?_ rfl ⟨rfl, HB.out⟩
  rw [results_cell1B rfl]
  go_simp
theorem refusal1A (w : World) : Calls Tryz.prog 139 #[] w fun e w' => e = .returned (.tuple #[]) ∧ w' = w := by
  go_enter Tryz.func139, Tryz.ntmps139
  go_wp2
  (try simp only [Exit.inBlock, Exit.then])
  refine bodyPost_end (results_none rfl _ _ _) rfl ?_
  exact ⟨rfl, rfl⟩
end Go.Proofs.YtfmnbehopdmahaaGreat
/-
  Package acceptor: the slots that have votes, sorted.
-/
namespace Go.Proofs
open Go.RowKit Go.Maps Go.Sort Go.Shelf
shelf_lay_g SlLaysZI.n7 Ggz 7 at Tryz 55 as YtfmnbehopdmahaaGreat.keysV
shelf_lay_g SlLaysZI.n6 Ggz 6 at Tryz 54 as YtfmnbehopdmahaaGreat.sortedV
shelf_lay_g SlLaysM.n5 Slgm 5 at Tryz 85 as YtfmnbehopdmahaaGreat.sortV
end Go.Proofs
namespace Go.Proofs.YtfmnbehopdmahaaGreat
open Go.RowKit Go.Maps Go.Sort Go.Shelf

theorem sortsV (m : Nat) : AnyZI.SortsIn Tryz.prog sortedV_ren Fence.wide m :=
  ⟨fun blk off cap ss W hH hblk hsz => callsIn_wide.2 (AnyM.slices_Sort_int sortV blk off cap ss W hH hblk hsz),
   fun p cap W => callsIn_wide.2 (AnyM.slices_Sort_int_none sortV p cap W)⟩
theorem keysA (mb : Nat) (W : World) : Calls Tryz.prog 55 #[.map (some mb)] W fun e w' => e = .returned (.func (.func 86) #[] #[.pointer (some ⟨W.heap.size, 0, none⟩)]) ∧ w' = W.alloc (.cells #[.map (some mb)] 57) :=
  (callsIn_wide (n := 5)).1 (AnyZI.keys_in keysV Fence.wide 5 trivial rfl (some mb) W)
theorem mem_intKeys {w : World} {b n : Nat} {D : DataW Value} (hown : w.ownsMap Tryz.prog 3 valR b n D) (x : Int) : x ∈ intKeys D ↔ Maps.has D (.int .i64 x) = true := by
  obtain ⟨es, rfl, hko⟩ := hown.keysOf
  rw [has_eq, List.any_eq_true]
  show x ∈ es.map (fun p => Go.intOf p.1) ↔ _
  rw [List.mem_map]
  constructor
  · rintro ⟨p, hp, rfl⟩
    obtain ⟨v, hv⟩ := hko p hp
    obtain ⟨y, _, hy, _⟩ := Maps.keyOf_i64 Tryz.underlying3 hv
    exact ⟨p, hp, by rw [hy]; simp [Lit.sameKey, Go.intOf]⟩
  · rintro ⟨p, hp, hs⟩
    obtain ⟨v, hv⟩ := hko p hp
    obtain ⟨y, _, hy, _⟩ := Maps.keyOf_i64 Tryz.underlying3 hv
    rw [hy] at hs
    exact ⟨p, hp, by rw [hy]; simpa [Lit.sameKey, Go.intOf] using hs⟩
theorem isSome_of {a : Ac} {S : Int → Option VoM} (h : ∀ s, (S s).map VoM.vt = a.f s) (s : Int) : (S s).isSome = (a.f s).isSome := by rw [← h s]; simp
theorem keys_perm {w : World} {p m : Nat} {a : Ac} (h : AcAt w p m a) {S : Int → Option VoM} {D : DataW Value} (hm : VoMap w m S a.ks.length D) (hS : ∀ s, (S s).map VoM.vt = a.f s) : a.ks.Perm (intKeys D) := by
  have hmem : ∀ x, x ∈ a.ks ↔ Maps.has D (.int .i64 x) = true := fun x => by
    constructor
    · intro hx
      have hi : I64 x := by have := h.ok.slot x hx; unfold I64; omega
      rw [has_look (allHeld_of hm.map), hm.key x hi]
      have := (h.ok.has x).1 hx
      rw [← isSome_of hS x] at this
      simpa using this
    · intro hx
      have hi : I64 x := by
        have := intKeys_wf hm.map Tryz.underlying3 x ((mem_intKeys hm.map x).2 hx)
        unfold I64
        simp [Lit.wf, IntKind.min, IntKind.max, IntKind.signed, IntKind.bits] at this
        omega
      rw [has_look (allHeld_of hm.map), hm.key x hi] at hx
      refine (h.ok.has x).2 ?_
      rw [← isSome_of hS x]
      simpa using hx
  obtain ⟨es, hD, hpw, _⟩ := hm.map.entries Tryz.keyedIntL
  obtain ⟨es', hD', hko⟩ := hm.map.keysOf
  obtain rfl : es = es' := by rw [hD] at hD'; simpa using hD'
  have hnd : a.ks.Nodup := (h.ok.rise).imp (fun hlt e => by omega)
  rw [hD] at hmem ⊢
  exact perm_intKeys hpw (fun q hq => by obtain ⟨v, hv⟩ := hko q hq; obtain ⟨x, _, hx, _⟩ := Maps.keyOf_i64 Tryz.underlying3 hv; exact ⟨x, hx⟩) hnd hmem
theorem sorted_ks {ks ss : List Int} (hr : Rises ks) (h : ss.Perm ks) : (ss.mergeSort fun x y => decide (x ≤ y)) = ks := by
  have h1 := mergeSort_of_perm_i h
  show ss.mergeSort leI = ks
  rw [h1]
  exact List.mergeSort_of_pairwise (hr.imp (fun hlt => by simp; omega))
set_option maxHeartbeats 1000000 in
theorem AcAt.sortedKeys {W : World} {p m : Nat} {a : Ac} (h : AcAt W p m a) : Calls Tryz.prog 54 #[.func (.func 86) #[] #[.pointer (some ⟨W.heap.size, 0, none⟩)]] (W.alloc (.cells #[.map (some m)] 57)) fun e w' => ∃ v, e = .returned v ∧ w'.ownsRow W.heap.size 3 1 v a.ks.length (ints a.ks) ∧ Below W.heap.size W w' := by
  obtain ⟨S, D, hm, hS⟩ := h.map
  have hperm := keys_perm h hm hS
  have hfew := h.ok.few
  have hsz := hm.cnt
  have hbl := hm.map.lt
  have hseq : SeqGives Fence.wide 2 Tryz.prog 86 #[.pointer (some ⟨W.heap.size, 0, none⟩)] encZ (fun ss => ss.Perm (intKeys D)) (Maps.size D) (W.alloc (.cells #[.map (some m)] 57)) :=
    AnyZI.keys_gives (ρ := keysV_ren) { keysV with } Fence.wide _ trivial rfl (by omega) W.heap.size m _ D _ (by simp) (by simp) ((Turns.refl (fun _ => False) W).alloc _ |>.map hm.map (fun h => h))
  have cS := AnyZI.sorted_in sortedV Fence.wide 5 trivial trivial trivial trivial rfl (by omega) (sortsV _) (enters_of Tryz.func85 (by kernel_rfl) rfl) 86 #[.pointer (some ⟨W.heap.size, 0, none⟩)] trivial (enters_of Tryz.func86 (by kernel_rfl) rfl) _ _ (by unfold maxLen; omega) (by omega) _ hseq
  change CallsIn _ _ Tryz.prog 54 _ _ _ at cS
  refine ((callsIn_wide (n := 5)).1 cS).mono ?_
  rintro e w' ⟨v, ss, rfl, hp, hrow, _, hb⟩
  have hss := sorted_ks h.ok.rise (hp.trans hperm.symm)
  rw [hss] at hrow
  have hl : ss.length = a.ks.length := (hp.trans hperm.symm).length_eq
  rw [hl] at hrow
  have hbW : Below W.heap.size W (W.alloc (.cells #[.map (some m)] 57)) := (Below.refl _ _).alloc (Nat.le_refl _) _
  exact ⟨v, rfl, own_monoC hrow hbW.size, bt' hbW hb⟩
end Go.Proofs.YtfmnbehopdmahaaGreat
/-
  Package acceptor: votesFrom, Votes.
-/
namespace Go.Proofs.YtfmnbehopdmahaaGreat
open Go.RowKit Go.Maps

/-- Five cells of a block, from the fourth on, stored anew. -/
def st5v (w : World) (p : Nat) (v0 v1 v2 v3 v4 : Value) : World :=
  ((((w.setCell ⟨p, 3, none⟩ v0).setCell ⟨p, 4, none⟩ v1).setCell ⟨p, 5, none⟩ v2).setCell ⟨p, 6, none⟩ v3).setCell ⟨p, 7, none⟩ v4
theorem st5v_blk {w : World} {p : Nat} {t : TypeId} {a0 a1 a2 a3 a4 a5 a6 a7 : Value} (h : Blk w p t [a0, a1, a2, a3, a4, a5, a6, a7]) (v0 v1 v2 v3 v4 : Value) : Blk (st5v w p v0 v1 v2 v3 v4) p t [a0, a1, a2, v0, v1, v2, v3, v4] :=
  ((((h.set 3 v0).set 4 v1).set 5 v2).set 6 v3).set 7 v4
theorem turns_ownV {w V : World} {b i : Nat} {v : Value} (h : Turns (fun k => k = b) w V) : Turns (fun k => k = b) w (V.setCell ⟨b, i, none⟩ v) := h.setCell (p := ⟨b, i, none⟩) (.inl rfl) v
theorem st5v_turns (w : World) (p : Nat) (v0 v1 v2 v3 v4 : Value) : Turns (fun i => i = p) w (st5v w p v0 v1 v2 v3 v4) :=
  turns_ownV (turns_ownV (turns_ownV (turns_ownV (turns_ownV (Turns.refl _ _)))))
def dfVt : Vt := ((0, 0), noopEn)
/-- The votes among the first k slots, from a slot on. -/
def fromTo (a : Ac) (s : Int) (k : Nat) : List (Int × Vt) := ((a.ks.take k).filter (fun t => decide (s ≤ t))).map (fun t => (t, (a.f t).getD dfVt))
def VoM.sv (x : VoM) : Int × Vt := (x.slot, x.vt)
theorem fromTo_zero (a : Ac) (s : Int) : fromTo a s 0 = [] := rfl
theorem fromTo_no {a : Ac} {s : Int} {k : Nat} (hk : k < a.ks.length) (h : ¬ s ≤ a.ks.getD k 0) : fromTo a s (k + 1) = fromTo a s k := by
  have e : a.ks.getD k 0 = a.ks[k] := by simp [List.getD, List.getElem?_eq_getElem hk]
  rw [e] at h
  unfold fromTo
  rw [List.take_succ_eq_append_getElem hk, List.filter_append]
  simp [h]
theorem fromTo_yes {a : Ac} {s : Int} {k : Nat} (hk : k < a.ks.length) (h : s ≤ a.ks.getD k 0) : fromTo a s (k + 1) = fromTo a s k ++ [(a.ks.getD k 0, (a.f (a.ks.getD k 0)).getD dfVt)] := by
  have e : a.ks.getD k 0 = a.ks[k] := by simp [List.getD, List.getElem?_eq_getElem hk]
  rw [e] at h ⊢
  unfold fromTo
  rw [List.take_succ_eq_append_getElem hk, List.filter_append]
  simp [h]
theorem fromTo_len (a : Ac) (s : Int) (k : Nat) : (fromTo a s k).length ≤ a.ks.length := by
  unfold fromTo
  rw [List.length_map]
  exact Nat.le_trans (List.length_filter_le _ _) (by rw [List.length_take]; exact Nat.min_le_right _ _)
/-- A slice of votes whose cuts lie in blocks of numbers. -/
structure HeldVI (w : World) (ao : Option Addr) (ys : List VoM) : Prop where
  held : HeldVo w ao ys
  num : ∀ y ∈ ys, ∀ b off, y.en.ao = some ⟨b, off, none⟩ → ∃ cs, Blk w b 3 cs
theorem HeldVI.turned {F : Nat → Prop} {w w' : World} {ao : Option Addr} {ys : List VoM} (h : HeldVI w ao ys) (ht : Turns F w w') (hn : NoNum w F) (hb : ∀ b off, ao = some ⟨b, off, none⟩ → ¬ F b) : HeldVI w' ao ys := by
  have hoff : ∀ y ∈ ys, ∀ b off, y.en.ao = some ⟨b, off, none⟩ → ¬ F b := fun y hy b off e hf => by
    obtain ⟨cs, hc⟩ := h.num y hy b off e
    exact hn b hf cs hc
  refine ⟨⟨fun y hy => ?_, ?_⟩, fun y hy b off e => ?_⟩
  · have h1 := h.held.1 y hy
    exact ⟨⟨⟨h1.en.cut.held.turned ht (fun b off e _ => hoff y hy b off e), h1.en.cut.room, h1.en.cut.few⟩, h1.en.ie, h1.en.ht, h1.en.hc⟩, h1.is, h1.i1, h1.i2⟩
  · rcases h.held.2 with h0 | ⟨b, off, h1, h2, h3⟩
    · exact .inl h0
    · refine .inr ⟨b, off, h1, Nat.lt_of_lt_of_le h2 ht.size, fun j hj c u hu => ?_⟩
      have e : w'.cell? ⟨b, off + j * 8 + c, none⟩ = w.cell? ⟨b, off + j * 8 + c, none⟩ := by simp [World.cell?, ht.block b h2 (hb b off h1)]
      rw [e]
      exact h3 j hj c u hu
  · obtain ⟨cs, hc⟩ := h.num y hy b off e
    exact ⟨cs, ht.blk hc (hoff y hy b off e)⟩
theorem HeldVI.below {w w' : World} {ao : Option Addr} {ys : List VoM} (h : HeldVI w ao ys) (hb : Below w.heap.size w w') : HeldVI w' ao ys := h.turned (F := fun _ => False) (Turns.of_below hb (Nat.le_refl _)) (noNum_none w) (fun _ _ _ h => h)
/-- What votesFrom answers. -/
def FromP (w : World) (l : List (Int × Vt)) (e : Ending) (w' : World) : Prop := ∃ ao cap ys, e = .returned (.slice ao ys.length cap) ∧ ys.map VoM.sv = l ∧ HeldVI w' ao ys ∧ ys.length ≤ 4096 ∧ (∀ b off, ao = some ⟨b, off, none⟩ → w.heap.size ≤ b) ∧ Below w.heap.size w w'
/-- Between two rounds. -/
def Voting (w : World) (a : Ac) (s : Int) (kv : Value) (k : Nat) (v : Value) (wr : World) : Prop :=
  ∃ ys : List VoM, ys.map VoM.sv = fromTo a s k ∧ AllVo wr ys ∧ (∀ y ∈ ys, ∀ b off, y.en.ao = some ⟨b, off, none⟩ → ∃ cs, Blk wr b 3 cs) ∧ wr.ownsRow w.heap.size 73 8 v ys.length (flatVo ys) ∧ wr.ownsRow w.heap.size 3 1 kv a.ks.length (ints a.ks) ∧ Below w.heap.size w wr
theorem rightBal_i64 {b : Int × Int} (h : RightBal b = true) : I64 b.1 ∧ I64 b.2 := by
  unfold RightBal at h
  simp only [Bool.and_eq_true, decide_eq_true_eq] at h
  unfold I64
  omega
/-- append(out, v), the element's block in whatever spelling. -/
theorem wpList_append_voG {ops : Array Oper} {rest : List Oper} {o : Oper} {a : Act} {Q : Exit → Act → World → Prop} (W0 W : World) (x : VoM) (hW : W = W0.alloc (.cells x.cells.toArray 73)) (hgd : o.guard = none) (s xx : Operand)
    (ho : o.op = .call { callee := .builtin .append, args := #[s, xx], argTypes := #[40, 40] }) (B : Nat) (v : Value) (ds : List VoM) (n : Nat) (hn : ds.length = n) (g : Nat)
    (hs : a.eval s = v) (hx : a.eval xx = .slice (some ⟨g, 0, none⟩) 1 1) (hg : g = W0.heap.size) (hown : W0.ownsRow B 73 8 v n (flatVo ds)) (hB : B ≤ W0.heap.size) (hl : n < 1466015503701)
    (h : ∀ v' w', w'.ownsRow B 73 8 v' (n + 1) (flatVo (ds ++ [x])) → Below B W0 w' → W.grownBy w' v.ownBlock → wpList Tryz.prog ops Q rest (a.put o.dst v') w') :
    wpList Tryz.prog ops Q (o :: rest) a W := by
  subst hg
  exact wpList_append_vo W0 W x hW hgd s xx ho B v ds n hn hs hx hown hB hl h
theorem blk_neH {w : World} {b c : Nat} {t u : TypeId} {xs ys : List Value} (h : Blk w b t xs) (k : Blk w c u ys) (hne : t ≠ u) : b ≠ c := by
  rintro rfl
  have h1 : w.heap[b]? = some (.cells xs.toArray t) := h
  have h2 : w.heap[b]? = some (.cells ys.toArray u) := k
  rw [h1] at h2
  injection h2 with h2
  injection h2 with _ h2
  exact hne h2
set_option maxRecDepth 100000 in
set_option maxHeartbeats 2000000 in
theorem AcAt.votesFrom {w : World} {p m : Nat} {a : Ac} (h : AcAt w p m a) (s : Int) : Calls Tryz.prog 37 #[.pointer (some ⟨p, 0, none⟩), .int .i64 s] w (FromP w (fromTo a s a.ks.length)) := by
  have H := hid h
  have HKE := hid (keysA m w)
  have HSO := hid h.sortedKeys
  have c3 := h.cells.2.2.2
  obtain ⟨N, HN⟩ : ∃ N, Hid (a.ks.length = N) := ⟨_, hid rfl⟩
  have hN : N ≤ 4096 := by rw [← HN.out]; exact h.ok.few
  have HW1 : Hid (Below w.heap.size w (w.alloc (.cells #[.map (some m)] 57))) := (Below.refl _ _).alloc (Nat.le_refl _) _
  clear h
  go_enter Tryz.func37, Tryz.ntmps37
  go_wp2_with fail
  refine HKE.out.mono ?_
  rintro e w1 ⟨rfl, rfl⟩
  go_wp2_with fail
  refine HSO.out.mono ?_
  rintro e w2 ⟨kv, rfl, hrow, hb2⟩
  obtain ⟨ko, kc, hkv⟩ := own_sliceC hrow
  subst hkv
  rw [HN.out]
  have HV0 : Hid (Voting w a s (.slice ko a.ks.length kc) 0 (.slice none 0 0) w2) := ⟨[], rfl, fun y hy => (by cases hy), fun y hy => (by cases hy), World.ownsRow_nil _ _ _ _, hrow, hb2⟩
  rw [HN.out] at HV0
  clear hrow hb2 c3
  go_wp2
  go_loopw [5, 7, 8, 16] (fun v _ _ i wr => ∃ k : Nat, k ≤ N ∧ i = .int .i64 k ∧ Hid (Voting w a s (.slice ko N kc) k v wr)) (fun _ _ _ i _ => N - (intOf i).toNat)
  case atStart => exact ⟨0, Nat.zero_le _, rfl, HV0⟩
  case round =>
    obtain ⟨k, hk, rfl, HR⟩ := hrel
    obtain ⟨ys, hys, hall, hint, hrow, hkrow, hbr⟩ := HR.out
    have HYS := hid hys
    have HALL := hid hall
    have HINT := hid hint
    have HROW := hid hrow
    have HKR := hid hkrow
    have HBR := hid hbr
    have HYL : Hid (ys.length ≤ 4096) := by
      show _ ≤ _
      have h1 := congrArg List.length hys
      rw [List.length_map] at h1
      have := fromTo_len a s k
      rw [HN.out] at this
      omega
    clear hys hall hint hrow hkrow hbr HR
    by_cases hlt : k < N
    · have hlt' : (k : Int) < (N : Int) := by omega
      have HLT := hid hlt
      have hkx : Hid (k < a.ks.length) := (HN.out ▸ hlt : k < a.ks.length)
      obtain ⟨kg, kcap, krest, hkv, hkb, hkw⟩ := own_blk HKR.out (by rw [HN.out]; omega)
      rw [HN.out] at hkv
      cases hkv
      obtain ⟨at', HAT⟩ : ∃ t, Hid (a.ks.getD k 0 = t) := ⟨_, hid rfl⟩
      have e1 : wr.cell? ⟨kg, k, none⟩ = some (.int .i64 at') := by
        rw [← HAT.out]
        exact hkb.cell (by rw [List.getElem?_append_left (by rw [ints_len]; exact hkx.out)]; exact ints_get hkx.out)
      have HKB := hid hkb
      have hmem : at' ∈ a.ks := by rw [← HAT.out]; exact getD_mem hkx.out
      have HSLT := hid (H.out.ok.slot at' hmem)
      have hrng : -9223372036854775808 ≤ at' ∧ at' ≤ 9223372036854775807 := by have := HSLT.out; omega
      have HMEM := hid hmem
      clear hkb hkw hmem hk hlt
      by_cases hs : at' < s
      · have hs' : decide (at' < s) = true := decide_eq_true hs
        have HNX : Hid (fromTo a s (k + 1) = fromTo a s k) := fromTo_no hkx.out (by rw [HAT.out]; omega)
        clear hs
        go_wp2
        go_roundw
        case rel => exact ⟨k + 1, HLT.out, by go_num, ys, by rw [HNX.out]; exact HYS.out, HALL.out, HINT.out, HROW.out, HKR.out, HBR.out⟩
        case measure => have := HLT.out; simp [intOf]; omega
      · have hs' : decide (at' < s) = false := decide_eq_false hs
        have HNX0 : Hid (fromTo a s (k + 1) = fromTo a s k ++ [(at', (a.f at').getD dfVt)]) := by have := fromTo_yes hkx.out (s := s) (by rw [HAT.out]; omega); rw [HAT.out] at this; exact this
        have HAr := hid (H.out.below HBR.out)
        obtain ⟨S, D, hEM, hSf⟩ := HAr.out.map
        have hsome : (S at').isSome = true := by rw [isSome_of hSf]; exact (H.out.ok.has at').1 HMEM.out
        obtain ⟨y, hy⟩ := Option.isSome_iff_exists.1 hsome
        have hlk := hEM.look1 (s := at') (by unfold I64; omega)
        rw [hy] at hlk
        simp only [Option.map_some, Option.getD_some] at hlk
        have HKY := hid (hEM.ok at' y hy).1
        have HYS2 := hid (hEM.ok at' y hy).2
        have HFY : Hid (a.f at' = some y.vt) := by show _ = _; rw [← hSf at', hy]; rfl
        have HRV := hid (H.out.ok.right at' y.vt HFY.out)
        have c3 := HAr.out.cells.2.2.2
        clear hs hEM hSf hsome hy
        obtain ⟨sl, ⟨br, bn⟩, ⟨np, tk, ct, ep, dp⟩, ao1, cap1⟩ := y
        obtain rfl : sl = at' := HYS2.out
        obtain ⟨XN, HXN⟩ : ∃ m, Hid (dp.length = m) := ⟨_, hid rfl⟩
        simp only [VoM.val] at hlk
        rw [HXN.out] at hlk
        obtain ⟨W1, hW1⟩ : ∃ V, V = wr.alloc (.cells #[.int .i64 sl, .int .i64 br, .int .i64 bn, .bool np, .string tk, .string ct, .int .i64 ep, .slice ao1 XN cap1] 73) := ⟨_, rfl⟩
        have hb1 : Below wr.heap.size wr W1 := by rw [hW1]; exact (Below.refl _ _).alloc (Nat.le_refl _) _
        have HK1 : Hid (Blk W1 wr.heap.size 73 [.int .i64 sl, .int .i64 br, .int .i64 bn, .bool np, .string tk, .string ct, .int .i64 ep, .slice ao1 XN cap1]) := by rw [hW1]; exact Blk.new wr _ _
        have HTD := hid (toldAc W1 ⟨⟨np, tk, ct, ep, dp⟩, ao1, cap1⟩ (HKY.out.below hb1).ok)
        simp only [EnM.val] at HTD
        rw [HXN.out] at HTD
        have HB1 := hid hb1
        have HW1' := hid hW1
        clear hW1 hb1
        go_wp2_with fail
        rw [← HW1'.out]
        refine HTD.out.mono ?_
        rintro e w5 ⟨bo, cp, rfl, hyv, hyb, hb5⟩
        simp only [EnM.val]
        rw [HXN.out]
        have hk5 := HK1.out.below hb5 HK1.out.lt
        have HB15 := hid (bt' HB1.out hb5)
        obtain ⟨bx, hbx⟩ : ∃ q, q = wr.heap.size := ⟨_, rfl⟩
        rw [← hbx] at hk5 ⊢
        have t0 := hk5.cell (i := 0) rfl
        have t1 := hk5.cell (i := 1) rfl
        have t2 := hk5.cell (i := 2) rfl
        have t3 := hk5.cell (i := 3) rfl
        have t4 := hk5.cell (i := 4) rfl
        have t5 := hk5.cell (i := 5) rfl
        have t6 := hk5.cell (i := 6) rfl
        have t7 := hk5.cell (i := 7) rfl
        have f3 := hk5.frozen 3
        have f4 := hk5.frozen 4
        have f5 := hk5.frozen 5
        have f6 := hk5.frozen 6
        have f7 := hk5.frozen 7
        obtain ⟨W3, hW3⟩ : ∃ V, V = st5v w5 bx (.bool np) (.string tk) (.string ct) (.int .i64 ep) (.slice bo XN cp) := ⟨_, rfl⟩
        have hk3 : Blk W3 bx 73 [.int .i64 sl, .int .i64 br, .int .i64 bn, .bool np, .string tk, .string ct, .int .i64 ep, .slice bo XN cp] := by rw [hW3]; exact st5v_blk hk5 _ _ _ _ _
        have hT3 : Turns (fun i => i = bx) w5 W3 := by rw [hW3]; exact st5v_turns _ _ _ _ _ _ _
        have HT3 : Hid (Turns (fun _ => False) wr W3) := (Turns.of_below (F := fun _ => False) HB15.out (Nat.le_refl _)).trans hT3 (fun i hi => .inr (by rw [hi, hbx]; exact Nat.le_refl _))
        have HBW3 : Hid (Below wr.heap.size wr W3) := HT3.out.below (fun _ h => h.elim) (Nat.le_refl _)
        have HYV : Hid (EnKeep W3 ⟨⟨np, tk, ct, ep, dp⟩, bo, cp⟩) := (EnKeep.mk (x := ⟨⟨np, tk, ct, ep, dp⟩, bo, cp⟩) ⟨hyv, HKY.out.ok.ie, HKY.out.ok.ht, HKY.out.ok.hc⟩ (fun b off e _ => (hyb b off e).2)).turned (noNum_blk hk5 (by decide)) hT3
        have HYI : Hid (∀ b off, bo = some ⟨b, off, none⟩ → ∃ cs, Blk W3 b 3 cs) := fun b off e => by
          obtain ⟨_, cs, hc⟩ := hyb b off e
          exact ⟨cs, hT3.blk hc (blk_neH hc hk5 (by decide))⟩
        have k0 := hk3.cell (i := 0) rfl
        have k1 := hk3.cell (i := 1) rfl
        have k2 := hk3.cell (i := 2) rfl
        have k3 := hk3.cell (i := 3) rfl
        have k4 := hk3.cell (i := 4) rfl
        have k5 := hk3.cell (i := 5) rfl
        have k6 := hk3.cell (i := 6) rfl
        have k7 := hk3.cell (i := 7) rfl
        have HROW3 := hid (HT3.out.row HROW.out (fun _ _ h => h))
        have HKR3 := hid (HT3.out.row HKR.out (fun _ _ h => h))
        have HBF3 := hid (bt' HBR.out HBW3.out)
        have HK3 := hid hk3
        have HFEW : Hid (ys.length < 1466015503701) := by show _ < _; have := HYL.out; omega
        have HKB3 := hid (HKB.out.below HBW3.out HKB.out.lt)
        have HSZ : Hid (w5.heap.size = W3.heap.size) := by show _ = _; rw [hW3]; simp [st5v]
        unfold st5v at hW3
        have HW3 := hid hW3
        clear hW3
        clear hk5 hyv hyb hb5 hT3 hk3 hbx hlk c3
        go_wp2_with (at_builtin; refine wpList_append_voG W3 _ ⟨sl, (br, bn), ⟨⟨np, tk, ct, ep, dp⟩, bo, cp⟩⟩ (by simp only [VoM.cells]; rw [HXN.out, HW3.out]) rfl _ _ rfl w.heap.size _ ys ys.length rfl _ rfl rfl HSZ.out HROW3.out HBF3.out.size HFEW.out ?_; intro v' w7 hown hbel hgrow; have HO7 := hid hown; have HG7 := hid hgrow; have HB7 := hid (HBF3.out.trans hbel); clear hown hbel hgrow)
        have HNXT : Hid (Voting w a s (.slice (some ⟨kg, 0, none⟩) N kc) (k + 1) v' w7) := by
          have hg := HG7.out
          rw [← HW3.out] at hg
          have hT7 : Turns (fun i => u5.ownBlock = some i) W3 w7 := ((Turns.refl _ W3).alloc _).grown hg (fun k hk => .inl hk)
          have hoff : ∀ b cs, Blk W3 b 3 cs → ¬ u5.ownBlock = some b := fun b cs hb e => hb.not_row (by decide) HROW3.out e.symm
          have hin3 : ∀ y ∈ ys, ∀ b off, y.en.ao = some ⟨b, off, none⟩ → ∃ cs, Blk W3 b 3 cs := fun y hy b off e => by
            obtain ⟨cs, hc⟩ := HINT.out y hy b off e
            exact ⟨cs, hc.below HBW3.out hc.lt⟩
          refine ⟨ys ++ [⟨sl, (br, bn), ⟨⟨np, tk, ct, ep, dp⟩, bo, cp⟩⟩], ?_, ?_, ?_, ?_, ?_, HB7.out⟩
          · rw [List.map_append, HYS.out, HNX0.out, HFY.out]
            rfl
          · intro y hy
            rcases List.mem_append.1 hy with hy | hy
            · have h1 := (HALL.out y hy).below HBW3.out
              refine ⟨⟨⟨h1.en.cut.held.turned hT7 (fun b off e _ hF => ?_), h1.en.cut.room, h1.en.cut.few⟩, h1.en.ie, h1.en.ht, h1.en.hc⟩, h1.is, h1.i1, h1.i2⟩
              obtain ⟨cs, hc⟩ := hin3 y hy b off e
              exact hoff b cs hc hF
            · simp only [List.mem_singleton] at hy
              subst hy
              have h1 := HYV.out.ok
              refine ⟨⟨⟨h1.cut.held.turned hT7 (fun b off e _ hF => ?_), h1.cut.room, h1.cut.few⟩, h1.ie, h1.ht, h1.hc⟩, ?_, (rightBal_i64 HRV.out.2.1).1, (rightBal_i64 HRV.out.2.1).2⟩
              · obtain ⟨cs, hc⟩ := HYI.out b off e
                exact hoff b cs hc hF
              · show I64 sl
                have := HSLT.out
                unfold I64
                omega
          · intro y hy b off e
            rcases List.mem_append.1 hy with hy | hy
            · obtain ⟨cs, hc⟩ := hin3 y hy b off e
              exact ⟨cs, hT7.blk hc (hoff b cs hc)⟩
            · simp only [List.mem_singleton] at hy
              subst hy
              obtain ⟨cs, hc⟩ := HYI.out b off e
              exact ⟨cs, hT7.blk hc (hoff b cs hc)⟩
          · rw [List.length_append]
            exact HO7.out
          · refine hT7.row HKR3.out (fun g hg hF => ?_)
            have : g = kg := by simpa [Value.ownBlock] using hg.symm
            subst this
            exact hoff _ _ HKB3.out hF
        exact ⟨⟨k + 1, HLT.out, by go_num, HNXT⟩, by have := HLT.out; simp [intOf]; omega⟩
    · obtain rfl : k = N := by omega
      have hlt' : ¬ (k : Int) < (k : Int) := by omega
      obtain ⟨ao, cap, hv, hnc, hheld⟩ := heldVo_of_own rfl HROW.out HALL.out
      have hlt2 := HROW.out.lt
      subst hv
      have HFI : Hid (FromP w (fromTo a s a.ks.length) (.returned (.slice ao ys.length cap)) wr) := ⟨ao, cap, ys, rfl, by rw [HN.out]; exact HYS.out, ⟨hheld, HINT.out⟩, HYL.out, fun b off e => (hlt2 b (by rw [e]; rfl)).1, HBR.out⟩
      clear hheld hlt hlt2 hnc
      go_wp2
      go_ret
      exact HFI.out
theorem AcAt.votes {w : World} {p m : Nat} {a : Ac} (h : AcAt w p m a) : Calls Tryz.prog 18 #[.pointer (some ⟨p, 0, none⟩)] w (FromP w (fromTo a 0 a.ks.length)) := by
  have HCL := hid h.closed
  have HV := hid (h.votesFrom 0)
  clear h
  go_enter Tryz.func18, Tryz.ntmps18
  go_wp2_with fail
  refine HCL.out.mono ?_
  rintro e w1 ⟨rfl, rfl⟩
  go_wp2_with fail
  refine HV.out.mono ?_
  intro e w2 h2
  have h2' := h2
  obtain ⟨ao, cap, ys, rfl, _⟩ := h2'
  have H2 := hid h2
  clear h2
  go_wp2
  go_ret
  exact H2.out
end Go.Proofs.YtfmnbehopdmahaaGreat
