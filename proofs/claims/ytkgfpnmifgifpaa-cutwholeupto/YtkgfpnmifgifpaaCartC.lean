/-
  Package cart: two.with.
-/
import Derived.Test.YtkgfpnmifgifpaaCartBa
import Derived.Test.YtkgfpnmifgifpaaCartBb
import Derived.Test.YtkgfpnmifgifpaaCartBc
import Derived.Test.YtkgfpnmifgifpaaCartBd
namespace Go.Proofs.Ytkgfpnmifgifpaa
open Go.RowKit Go.Maps

theorem with_two (w : World) (t : TwM) (f : EvM) (o : Int) (ht : TwOk w t) (hf : EvOk w f) :
    Calls Try.prog 63 #[t.val, f.val, .int .i64 o] w fun e w' => e = .returned (twWithM t f o).val ∧ Below w.heap.size w w' := by
  unfold twWithM
  by_cases ho : f.e.o = o
  · by_cases hs : f.e = t.first.e
    · rw [if_pos ⟨ho, hs⟩]
      exact with_Ya w t f o ht hf ho hs
    · rw [if_neg (fun h => hs h.2)]
      split
      · next h1 => exact with_Yf w t f o ht hf ho hs h1
      · next h1 =>
        split
        · next h2 => exact with_Yq w t f o ht hf ho hs h1 h2
        · next h2 => exact with_Ys w t f o ht hf ho hs h1 h2
  · rw [if_neg (fun h => ho h.1)]
    split
    · next h1 => exact with_Nf w t f o ht hf ho h1
    · next h1 =>
      split
      · next h2 => exact with_Nq w t f o ht hf ho h1 h2
      · next h2 => exact with_Ns w t f o ht hf ho h1 h2
end Go.Proofs.Ytkgfpnmifgifpaa
