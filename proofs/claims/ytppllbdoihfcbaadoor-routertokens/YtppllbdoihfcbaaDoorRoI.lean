/-
  A row of strings that grows by one; two sessions and such a row side by side ('TT').
-/
import Derived.Test.YtppllbdoihfcbaaDoorRoH
import Derived.Test.YtppllbdoihfcbaaDoorRouterRoundW
namespace Go.Proofs.YtppllbdoihfcbaaDoor
open Go.RowKit Go.Maps

def textsR (ls : List ByteArray) : List Value := ls.map Value.string
theorem bytes_injR {a b : ByteArray} (h : a.toList = b.toList) : a = b := by
  rw [ByteArray.toList_eq, ByteArray.toList_eq] at h
  exact ByteArray.ext (Array.toList_inj.1 h)
theorem textsR_len (ls : List ByteArray) : (textsR ls).length = ls.length := by simp [textsR]
theorem textsR_get {ls : List ByteArray} {j : Nat} (h : j < ls.length) : (textsR ls)[j]? = some (.string ls[j]) := by simp [textsR, h]
theorem Tryd.infoStrR : (Tryd.prog.info? 9).map (fun i => (i.zero, i.size, i.bytes)) = some (some (.string ⟨#[]⟩), 1, 16) := by kernel_rfl
theorem one_strR (x : ByteArray) : ∀ u ∈ [Value.string x], u.oneCell' = true := by
  intro u hu
  rw [List.mem_singleton.1 hu]
  rfl
/-- append(out, s) of an owned row. -/
theorem wpList_append_strR {ops : Array Oper} {rest : List Oper} {o : Oper} {a : Act} {Q : Exit → Act → World → Prop} (W0 W : World) (c : ByteArray) (hW : W = W0.alloc (.cells #[.string c] 9)) (hgd : o.guard = none) (s x : Operand)
    (ho : o.op = .call { callee := .builtin .append, args := #[s, x], argTypes := #[37, 37] }) (B : Nat) (v : Value) (xs : List ByteArray)
    (hs : a.eval s = v) (hx : a.eval x = .slice (some ⟨W0.heap.size, 0, none⟩) 1 1) (hown : W0.ownsRow B 9 1 v xs.length (textsR xs)) (hB : B ≤ W0.heap.size) (hl : xs.length < 1000)
    (h : ∀ v' w', w'.ownsRow B 9 1 v' (xs ++ [c]).length (textsR (xs ++ [c])) → Turns (fun i => v.ownBlock = some i) W0 w' → wpList Tryd.prog ops Q rest (a.put o.dst v') w') :
    wpList Tryd.prog ops Q (o :: rest) a W := by
  subst hW
  obtain ⟨iI, hj, hy0, hy1, hy2⟩ := info_parts Tryd.infoStrR
  have hn := Blk.new W0 9 [.string c]
  refine wpList_append_own_at _ hgd s x 37 ho B 9 iI (.string ⟨#[]⟩) 1 16 Tryd.underlying37 hj hy0 hy1 hy2 rfl (by decide) v xs.length (textsR xs) hs (hown.alloc _) ⟨W0.heap.size, 0, none⟩ 1 1 [.string c] hx rfl (fun j u hu => ?_) (one_strR _) (by unfold maxLen; omega) (by omega) (by simp; omega) ?_
  · rw [Addr.add_lit, Nat.zero_add]
    exact hn.cell hu
  · intro v' w' hown' hgrow _ _
    exact h v' w' (by simpa [textsR] using hown') (((Turns.refl _ _).alloc _).grown hgrow (fun k e => .inl e))
/-- Two sessions and a row of tokens. -/
structure TT (w wr : World) (p q : Nat) (a b i j : Nat) (v : Value) (ls : List ByteArray) : Prop where
  s : SR w wr p (a : Int) 3 (i : Int) ((a : Int) % 3) 0
  t : SR w wr q (b : Int) 3 (j : Int) ((b : Int) % 3) 0
  ne : p ≠ q
  row : wr.ownsRow w.heap.size 9 1 v ls.length (textsR ls)
section
variable {w wr wr' : World} {p q a b i j : Nat} {v : Value} {ls : List ByteArray}
theorem TT.grow (h : TT w wr p q a b i j v ls) (hb : Below wr.heap.size wr wr') : TT w wr' p q a b i j v ls :=
  ⟨h.s.grow hb, h.t.grow hb, h.ne, (Turns.of_below (F := fun _ => False) hb (Nat.le_refl _)).row h.row (fun _ _ h => h)⟩
theorem SR.keep {c n k t r : Int} (H : SR w wr p c n k t r) {F : Nat → Prop} (ht : Turns F wr wr') (hF : ∀ i, F i → w.heap.size ≤ i) (hp : ¬ F p) : SR w wr' p c n k t r :=
  ⟨H.se.turned ht hp, H.tb.turned ht (fun g hg hf => by have h1 := H.old.old g hg; have h2 := hF g hf; omega), H.bel.trans (ht.below hF H.bel.size), H.hp, H.old⟩
theorem TT.tokenS (h : TT w wr p q a b i j v ls) (hi : i < 1000) : Calls Tryd.prog 16 #[.pointer (some ⟨p, 0, none⟩)] wr fun e w' => e = .returned (.string (tokR (a : Int) (i : Int))) ∧ TT w w' p q a b (i + 1) j v ls := by
  refine (h.s.token (by omega)).mono ?_
  rintro e w' ⟨rfl, h1, ht⟩
  refine ⟨rfl, by rw [show ((i + 1 : Nat) : Int) = (i : Int) + 1 by omega]; exact h1, h.t.keep ht (fun k hk => by rw [hk]; exact h.s.hp) (fun e => h.ne e.symm), h.ne, ht.row h.row (fun g hg e => ?_)⟩
  subst e
  exact h.s.se.blk.not_row (by decide) h.row hg.symm
theorem TT.tokenT (h : TT w wr p q a b i j v ls) (hj : j < 1000) : Calls Tryd.prog 16 #[.pointer (some ⟨q, 0, none⟩)] wr fun e w' => e = .returned (.string (tokR (b : Int) (j : Int))) ∧ TT w w' p q a b i (j + 1) v ls := by
  refine (h.t.token (by omega)).mono ?_
  rintro e w' ⟨rfl, h1, ht⟩
  refine ⟨rfl, h.s.keep ht (fun k hk => by rw [hk]; exact h.t.hp) h.ne, by rw [show ((j + 1 : Nat) : Int) = (j : Int) + 1 by omega]; exact h1, h.ne, ht.row h.row (fun g hg e => ?_)⟩
  subst e
  exact h.t.se.blk.not_row (by decide) h.row hg.symm
theorem TT.appended {v' : Value} {ls' : List ByteArray} (h : TT w wr p q a b i j v ls) (ht : Turns (fun k => v.ownBlock = some k) wr wr') (hr : wr'.ownsRow w.heap.size 9 1 v' ls'.length (textsR ls')) : TT w wr' p q a b i j v' ls' :=
  ⟨h.s.keep ht (fun k hk => own_lt h.row k hk) (fun e => h.s.se.blk.not_row (by decide) h.row e.symm), h.t.keep ht (fun k hk => own_lt h.row k hk) (fun e => h.t.se.blk.not_row (by decide) h.row e.symm), h.ne, hr⟩
end
end Go.Proofs.YtppllbdoihfcbaaDoor
