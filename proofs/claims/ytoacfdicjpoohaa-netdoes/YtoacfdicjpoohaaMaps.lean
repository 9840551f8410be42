/-
  Maps whose elements are whatever values: what lies at a key, behind a store and a delete; the operations' laws for a walk. No function of the program is named here.
-/
import Derived.Maps.OwnSet
import Derived.Maps.RangeWalk
namespace Go.Proofs.Ytoacfdicjpoohaa
open Go.RowKit Go.Maps
open Go.WideElems (rg rg_of rd_val)

/-- An element reads as itself. -/
def valR (v : Value) : Option (DataW Value × List MemPlace) := some (.held v, [])
/-- What lies at a key. -/
def look (D : DataW Value) (kl : Lit) : Option Value := match D.atKey kl .nil with
  | .held v => some v
  | _ => none
def AllHeld (D : DataW Value) : Prop := ∃ es, D = .map es ∧ ∀ p ∈ es, ∃ v, p.2 = .held v

theorem allHeld_of {w : World} {P : Program} {k : TypeId} {b n : Nat} {D : DataW Value} (h : w.ownsMap P k valR b n D) : AllHeld D := by
  obtain ⟨es, clock, _, F, _, rfl⟩ := h
  refine ⟨_, rfl, fun p hp => ?_⟩
  obtain ⟨x, hx, rfl⟩ := List.mem_map.1 (mem_sorted.1 hp)
  obtain ⟨y, hy⟩ := F.reads x hx
  obtain ⟨z, hz, hzd⟩ := rd_val hy
  rw [rg_of hy, hzd]
  unfold valR at hz
  cases hz
  exact ⟨_, rfl⟩

theorem find_held {es : List (Lit × DataW Value)} (h : ∀ p ∈ es, ∃ v, p.2 = .held v) (kl : Lit) : (es.find? (fun p => p.1.sameKey kl) = none) ∨ ∃ p v, es.find? (fun p => p.1.sameKey kl) = some p ∧ p.2 = .held v := by
  cases hf : es.find? (fun p => p.1.sameKey kl) with
  | none => exact .inl rfl
  | some p =>
    obtain ⟨v, hv⟩ := h p (List.mem_of_find?_eq_some hf)
    exact .inr ⟨p, v, rfl, hv⟩

theorem has_look {D : DataW Value} (h : AllHeld D) (kl : Lit) : Maps.has D kl = (look D kl).isSome := by
  obtain ⟨es, rfl, hh⟩ := h
  have e1 : Maps.has (.map es) kl = (es.find? (fun p => p.1.sameKey kl)).isSome := by
    rw [Maps.has_eq, Bool.eq_iff_iff, List.find?_isSome, List.any_eq_true]
  rw [e1]
  rcases find_held hh kl with hf | ⟨p, v, hf, hv⟩
  · simp [look, DataW.atKey, hf]
  · simp [look, DataW.atKey, hf, hv]

theorem at_look {D : DataW Value} (h : AllHeld D) (kl : Lit) (z : Value) : D.atKey kl (.held z) = .held ((look D kl).getD z) := by
  obtain ⟨es, rfl, hh⟩ := h
  rcases find_held hh kl with hf | ⟨p, v, hf, hv⟩
  · simp [look, DataW.atKey, hf]
  · simp [look, DataW.atKey, hf, hv]

theorem look_at {D : DataW Value} {kl : Lit} {v : Value} (h : ∀ zd, D.atKey kl zd = .held v) : look D kl = some v := by simp [look, h]
theorem look_put_same {D : DataW Value} (hD : IsMap D) {kl : Lit} (hk : WideAt.IsKeyLit kl) (v : Value) : look (D.put kl (.held v)) kl = some v := by
  unfold look
  rw [atKey_put_same hD hk]
theorem look_put_other {D : DataW Value} {kl kl' : Lit} (h : kl' ≠ kl) (d : DataW Value) : look (D.put kl d) kl' = look D kl' := by
  unfold look
  rw [atKey_put_other h]
theorem look_del_same {D : DataW Value} {kl : Lit} : look (D.del kl) kl = none := by
  unfold look
  rw [atKey_del_same]
theorem look_del_other {D : DataW Value} {kl kl' : Lit} (h : kl' ≠ kl) : look (D.del kl) kl' = look D kl' := by
  unfold look
  rw [atKey_del_other h]
theorem look_empty (kl : Lit) : look (.map []) kl = none := rfl

section
variable {P : Program} {w : World} {k e t : TypeId} {b n : Nat} {D : DataW Value}

theorem run_look (h : w.ownsMap P k valR b n D) (K : Keyed P k) (ht : P.underlying t = some (.map k e)) {z : Value} (hz : (zeroValue e).run P w = .ok z w) {key : Value} {kl : Lit} (hkey : keyOf P k key = some kl) :
    (Instr.lookup t (.map (some b)) key false).run P w = .ok ((look D kl).getD z) w := by
  obtain ⟨v, ps, hrun, hv⟩ := h.lookup K ht hz (zd := .held z) (zp := []) rfl hkey
  rw [at_look (allHeld_of h)] at hv
  unfold valR at hv
  simp at hv
  rw [hrun, hv.1]

theorem run_look_ok (h : w.ownsMap P k valR b n D) (K : Keyed P k) (ht : P.underlying t = some (.map k e)) {z : Value} (hz : (zeroValue e).run P w = .ok z w) {key : Value} {kl : Lit} (hkey : keyOf P k key = some kl) :
    (Instr.lookup t (.map (some b)) key true).run P w = .ok (.tuple #[(look D kl).getD z, .bool (look D kl).isSome]) w := by
  obtain ⟨v, ps, hrun, hv⟩ := h.look_ok K ht hz (zd := .held z) (zp := []) rfl hkey
  rw [at_look (allHeld_of h)] at hv
  unfold valR at hv
  simp at hv
  rw [hrun, hv.1, has_look (allHeld_of h)]
end

section
variable {P : Program} (w : World) {ops : Array Oper} {rest : List Oper} {o : Oper} {a : Act} {Q : Exit → Act → World → Prop}

/-- 'm[k]'. -/
theorem wpList_look (hg : o.guard = none) (m x : Operand) (t : TypeId) (hop : o.op = Op.lookup t m x false) (k e : TypeId) (K : Keyed P k) (ht : P.underlying t = some (.map k e)) (z : Value) (hz : (zeroValue e).run P w = .ok z w) (b n : Nat) (D : DataW Value)
    (hm : a.eval m = .map (some b)) (hown : w.ownsMap P k valR b n D) (key : Value) (kl : Lit) (hx : a.eval x = key) (hkey : keyOf P k key = some kl) (v : Value) (hv : (look D kl).getD z = v)
    (hK : wpList P ops Q rest (a.put o.dst v) w) : wpList P ops Q (o :: rest) a w := by
  refine wpList_plain hg fun K' hK' => ?_
  have hrun := run_look hown K ht hz hkey
  rw [hv] at hrun
  unfold Oper.wp
  simp [execOp, hop, hm, hx, hrun, Result.andThen]
  exact hK' _ _ hK

/-- 'v, ok := m[k]'. -/
theorem wpList_look_ok (hg : o.guard = none) (m x : Operand) (t : TypeId) (hop : o.op = Op.lookup t m x true) (k e : TypeId) (K : Keyed P k) (ht : P.underlying t = some (.map k e)) (z : Value) (hz : (zeroValue e).run P w = .ok z w) (b n : Nat) (D : DataW Value)
    (hm : a.eval m = .map (some b)) (hown : w.ownsMap P k valR b n D) (key : Value) (kl : Lit) (hx : a.eval x = key) (hkey : keyOf P k key = some kl) (v : Value) (ok : Bool) (hv : (look D kl).getD z = v) (hok : (look D kl).isSome = ok)
    (hK : wpList P ops Q rest (a.put o.dst (.tuple #[v, .bool ok])) w) : wpList P ops Q (o :: rest) a w := by
  refine wpList_plain hg fun K' hK' => ?_
  have hrun := run_look_ok hown K ht hz hkey
  rw [hv, hok] at hrun
  unfold Oper.wp
  simp [execOp, hop, hm, hx, hrun, Result.andThen]
  exact hK' _ _ hK
end
end Go.Proofs.Ytoacfdicjpoohaa
