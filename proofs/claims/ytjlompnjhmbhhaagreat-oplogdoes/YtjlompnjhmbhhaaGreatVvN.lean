/-
  The document's Between.
-/
import Derived.Test.YtjlompnjhmbhhaaGreatVvM
namespace Go.Proofs.YtjlompnjhmbhhaaGreat
open Go.RowKit Go.Maps

theorem own_slice {w : World} {B e n sz : Nat} {v : Value} {xs : List Value} (h : w.ownsRow B e sz v n xs) : ∃ eo cap, v = .slice eo n cap := by
  rcases h.2 with ⟨rfl, rfl⟩ | ⟨g, cap, cur, rfl, _⟩
  · exact ⟨none, 0, rfl⟩
  · exact ⟨_, cap, rfl⟩
theorem wrap_nx {H Y nv : Int} {j : Nat} (h : nv < Y) (hn : nv = H + (j : Int)) (h0 : 0 ≤ H) (hY : Y ≤ 9223372036854775807) : wrap64 (nv + 1) = nv + 1 := wrapS (by omega) (by omega)
theorem nx_val {H nv : Int} {j : Nat} (h : nv = H + (j : Int)) : nv + 1 = H + ((j + 1 : Nat) : Int) := by omega
theorem nx_meas {Y nv : Int} (h1 : nv < Y) (h : wrap64 (nv + 1) = nv + 1) : (Y - intOf (.int .i64 (wrap64 (nv + 1)))).toNat < (Y - intOf (.int .i64 nv)).toNat := by
  rw [h]
  simp only [intOf]
  omega
def AnsD (w : World) (ds : List (Int × Int)) (e : Ending) (w' : World) : Prop := ∃ v, e = .returned v ∧ w'.ownsRow w.heap.size 25 2 v ds.length (flatD ds) ∧ Below w.heap.size w w'
theorem part_more {ds P : List (Int × Int)} {x : Int × Int} {M : Nat} (h : ds = P.take M) (hl : ds.length < M) : ds ++ [x] = (P ++ [x]).take M := by
  have hP : P.length < M := by
    rw [h, List.length_take] at hl
    omega
  rw [List.take_of_length_le (by omega)] at h
  rw [h, List.take_of_length_le (by simp; omega)]
theorem more_lt {Y H : Int} (hH : 0 ≤ H) (j : Nat) (h : H + (j : Int) < Y) : j < (max Y 0 - H).toNat := by omega
theorem more_nlt {Y H : Int} (hH : 0 ≤ H) (j : Nat) (h : ¬ H + (j : Int) < Y) : (max Y 0 - H).toNat ≤ j := by omega

end Go.Proofs.YtjlompnjhmbhhaaGreat
