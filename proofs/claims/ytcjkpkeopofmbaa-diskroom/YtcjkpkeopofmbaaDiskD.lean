/-
  Package disk: change, giveName, changeFile over whatever closure; Sync.
-/
import Derived.Test.YtcjkpkeopofmbaaDiskC
namespace Go.Proofs.Ytcjkpkeopofmbaa
open Go.RowKit Go.Maps

/-- The closures that change, giveName and changeFile are handed. -/
def Doer (F : Nat) : Prop := F = 41 ∨ F = 62 ∨ F = 79

theorem change_nil (w : World) (F : Nat) (lb : Array Value) : Calls Try.prog 77 #[.pointer none, .func (.func F) #[] lb] w fun e w' => e = .returned (.int .i64 6) ∧ w' = w := by
  go_enter Try.func77, Try.ntmps77
  go_wp2_with fail
  refine (dclosed_nil _).mono ?_
  rintro e w' ⟨rfl, rfl⟩
  go_wp2
  go_ret
  exact ⟨rfl, rfl⟩

section
variable {w : World} {p bm : Nat} {size calls : Int} {fs : List Fl} {D : DataW Value}
theorem change_off (h : DiskAt w p bm size calls fs D) (hc : calls = 0) (F : Nat) (lb : Array Value) : Calls Try.prog 77 #[.pointer (some ⟨p, 0, none⟩), .func (.func F) #[] lb] w fun e w' => e = .returned (.int .i64 31) ∧ w' = w := by
  subst hc
  have HCL := hid h.closed
  have HO := hid (off_any h)
  clear h
  go_enter Try.func77, Try.ntmps77
  go_wp2_with fail
  refine HCL.out.mono ?_
  rintro e w' ⟨rfl, rfl⟩
  go_wp2_with fail
  refine HO.out.mono ?_
  rintro e w' ⟨rfl, rfl⟩
  go_wp2
  go_ret
  exact ⟨rfl, rfl⟩

/-- What a call that is OK leaves of the count. -/
def counted (calls : Int) : Int := if 0 < calls then calls - 1 else calls

set_option maxHeartbeats 1000000 in
/-- A change that is carried out: by what the closure leaves. -/
theorem change_do (h : DiskAt w p bm size calls fs D) (hc : calls ≠ 0) {F : Nat} (hF : Doer F) (lb : Array Value) (R : Int → World → Prop)
    (hdo : Calls Try.prog F lb w fun e w' => ∃ er, e = .returned (.int .i64 er) ∧ R er w' ∧ w'.cell? ⟨p, 2, none⟩ = some (.int .i64 calls) ∧ w'.frozen? ⟨p, 2, none⟩ = false) :
    Calls Try.prog 77 #[.pointer (some ⟨p, 0, none⟩), .func (.func F) #[] lb] w fun e w' => ∃ er w1, e = .returned (.int .i64 er) ∧ R er w1 ∧ w' = if er = 0 ∧ 0 < calls then w1.setCell ⟨p, 2, none⟩ (.int .i64 (calls - 1)) else w1 := by
  have HCL := hid h.closed
  have ho := off_any h
  rw [show (calls == 0) = false from beq_eq_false_iff_ne.2 hc] at ho
  have HO := hid ho
  have hcb := h.calls
  have hc0 := hcb.1
  have hc1 := hcb.2
  have HDO := hid hdo
  clear h ho hdo hcb hc
  rcases hF with rfl | rfl | rfl
  all_goals
    go_enter Try.func77, Try.ntmps77
    go_wp2_with fail
    refine HCL.out.mono ?_
    rintro e w' ⟨rfl, h'⟩
    subst h'
    go_wp2_with fail
    refine HO.out.mono ?_
    rintro e w' ⟨rfl, h'⟩
    subst h'
    go_wp2_with fail
    refine HDO.out.mono ?_
    rintro e w1 ⟨er, rfl, hR, hcell, hfz⟩
    have HR := hid hR
    clear hR
    by_cases he : er = 0
    · subst he
      by_cases hp : 0 < calls
      · go_wp2
        go_ret
        exact ⟨0, w1, rfl, HR.out, by rw [if_pos ⟨rfl, hp⟩]⟩
      · go_wp2
        go_ret
        exact ⟨0, w1, rfl, HR.out, by rw [if_neg (fun h => absurd h.2 (by omega))]⟩
    · have he' : (er == 0) = false := beq_eq_false_iff_ne.2 he
      have HE := hid he
      clear he
      go_wp2
      go_ret
      exact ⟨er, w1, rfl, HR.out, by rw [if_neg (fun h => HE.out h.1)]⟩
end
end Go.Proofs.Ytcjkpkeopofmbaa
