/-
  Package cart: two.with.
-/
import Derived.Test.YtjlompnjhmbhhaaGreatSealI
import Derived.Deep.RegionHeld3
namespace Go.Proofs.YtjlompnjhmbhhaaGreat
open Go.RowKit Go.Maps

theorem below_dr {K : Nat} {a b : World} (h : Below K a b) : Below K a b.drew := ⟨h.os, h.tape, h.output, h.size, h.block⟩
/-- Two events in memory. -/
structure TwM where
  first : EvM
  second : EvM
def zeroTM : TwM := ⟨zeroEM, zeroEM⟩
def TwM.tw (t : TwM) : Tw := ⟨t.first.e, t.second.e⟩
def TwM.cells (t : TwM) : List Value := t.first.cells ++ t.second.cells
abbrev TwM.val (t : TwM) : Value := .agg #[.int .i64 t.first.e.o, .int .i64 t.first.e.s, .slice t.first.ao t.first.e.deps.length t.first.cap, .string t.first.e.cart, .int .i64 t.first.e.epoch, .string t.first.e.sku, .int .i64 t.first.e.qty, .bool t.first.e.clears, .int .i64 t.second.e.o, .int .i64 t.second.e.s, .slice t.second.ao t.second.e.deps.length t.second.cap, .string t.second.e.cart, .int .i64 t.second.e.epoch, .string t.second.e.sku, .int .i64 t.second.e.qty, .bool t.second.e.clears]
def TwOk (w : World) (t : TwM) : Prop := EvOk w t.first ∧ EvOk w t.second
theorem TwOk.below {w w' : World} {t : TwM} (h : TwOk w t) (hb : Below w.heap.size w w') : TwOk w' t := ⟨h.1.below hb, h.2.below hb⟩
theorem TwOk.zero (w : World) : TwOk w zeroTM := ⟨EvOk.zero w, EvOk.zero w⟩
def twWithM (t : TwM) (f : EvM) (o : Int) : TwM :=
  if f.e.o = o ∧ f.e = t.first.e then t else if ofV t.first.e.deps o < ofV f.e.deps o then ⟨f, t.first⟩ else if ofV t.second.e.deps o < ofV f.e.deps o then ⟨t.first, f⟩ else t
theorem twWithM_tw (t : TwM) (f : EvM) (o : Int) : (twWithM t f o).tw = twWith t.tw f.e o := by
  unfold twWithM twWith TwM.tw
  simp only
  split
  · rfl
  · split
    · rfl
    · split <;> rfl
theorem twWithM_ok {w : World} {t : TwM} {f : EvM} (ht : TwOk w t) (hf : EvOk w f) (o : Int) : TwOk w (twWithM t f o) := by
  unfold twWithM
  split
  · exact ht
  · split
    · exact ⟨hf, ht.1⟩
    · split
      · exact ⟨ht.1, hf⟩
      · exact ht

end Go.Proofs.YtjlompnjhmbhhaaGreat
