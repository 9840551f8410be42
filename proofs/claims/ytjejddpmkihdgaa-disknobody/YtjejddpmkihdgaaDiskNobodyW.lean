/-
  pannierlaw03.DiskNobody answers true at every input.
-/
import Derived.Test.YtjejddpmkihdgaaDiskO
import Derived.Test.YtjejddpmkihdgaaOpOpen3
namespace Go.Proofs.Ytjejddpmkihdgaa
open Go.RowKit Go.Maps

theorem nobody_step {B : Nat} {w w1 w2 : World} {t : TypeId} {cs : List Value} (h : Blk w1 B t cs) (hb : Below w.heap.size w w1) (h2 : Below w1.heap.size w1 w2) : Blk w2 B t cs ∧ Below w.heap.size w w2 := ⟨h.below h2 h.lt, hb.trans (h2.mono hb.size)⟩

set_option maxRecDepth 100000 in
set_option maxHeartbeats 2000000 in
theorem diskNobody_walk (o : OpV) (w : World) : Calls Try.prog 5 #[.agg #[.int .i64 o.kind, .string o.name, .string o.to, .slice o.ba o.bl o.bc, .int .i64 o.n, .slice o.ka o.kl o.kc]] w fun e w' => e = .returned (.bool true) ∧ Below w.heap.size w w' := by
  go_enter Try.func5, Try.ntmps5
  go_wp2_with fail
  refine (read_nil _ _).mono ?_
  rintro e w0 ⟨rfl, h'⟩
  have HO0 : Hid (Blk w0 w.heap.size 34 o.cells ∧ Below w.heap.size w w0) := by subst h'; exact ⟨Blk.new w 34 o.cells, boxed_below w _⟩
  clear h'
  have c1 : w0.cell? ⟨w.heap.size, 1, none⟩ = some (.string o.name) := HO0.out.1.cell (i := 1) rfl
  have c4 : w0.cell? ⟨w.heap.size, 4, none⟩ = some (.int .i64 o.n) := HO0.out.1.cell (i := 4) rfl
  go_wp2_with fail
  refine (stop_nil _ _).mono ?_
  rintro e w' ⟨rfl, h'⟩
  subst h'
  go_wp2_with fail
  refine (dlives_any _).mono ?_
  rintro e w1 ⟨rfl, hb1⟩
  have HO1 := hid (nobody_step HO0.out.1 HO0.out.2 hb1)
  clear hb1 c1 c4 HO0
  have c1 : w1.cell? ⟨w.heap.size, 1, none⟩ = some (.string o.name) := HO1.out.1.cell (i := 1) rfl
  have c2 : w1.cell? ⟨w.heap.size, 2, none⟩ = some (.string o.to) := HO1.out.1.cell (i := 2) rfl
  have c3 : w1.cell? ⟨w.heap.size, 3, none⟩ = some (.slice o.ba o.bl o.bc) := HO1.out.1.cell (i := 3) rfl
  have c4 : w1.cell? ⟨w.heap.size, 4, none⟩ = some (.int .i64 o.n) := HO1.out.1.cell (i := 4) rfl
  have c5 : w1.cell? ⟨w.heap.size, 5, none⟩ = some (.slice o.ka o.kl o.kc) := HO1.out.1.cell (i := 5) rfl
  go_wp2_with fail
  refine (append_nil _ _ _ _ _).mono ?_
  rintro e w2 ⟨rfl, hb⟩
  have HO2 := hid (nobody_step HO1.out.1 HO1.out.2 hb)
  clear hb c1 c2 c3 c4 c5 HO1
  have c1 : w2.cell? ⟨w.heap.size, 1, none⟩ = some (.string o.name) := HO2.out.1.cell (i := 1) rfl
  have c2 : w2.cell? ⟨w.heap.size, 2, none⟩ = some (.string o.to) := HO2.out.1.cell (i := 2) rfl
  have c3 : w2.cell? ⟨w.heap.size, 3, none⟩ = some (.slice o.ba o.bl o.bc) := HO2.out.1.cell (i := 3) rfl
  have c4 : w2.cell? ⟨w.heap.size, 4, none⟩ = some (.int .i64 o.n) := HO2.out.1.cell (i := 4) rfl
  have c5 : w2.cell? ⟨w.heap.size, 5, none⟩ = some (.slice o.ka o.kl o.kc) := HO2.out.1.cell (i := 5) rfl
  go_wp2_with fail
  refine (sync_nil _ _).mono ?_
  rintro e w3 ⟨rfl, hb⟩
  have HO3 := hid (nobody_step HO2.out.1 HO2.out.2 hb)
  clear hb c1 c2 c3 c4 c5 HO2
  have c1 : w3.cell? ⟨w.heap.size, 1, none⟩ = some (.string o.name) := HO3.out.1.cell (i := 1) rfl
  have c2 : w3.cell? ⟨w.heap.size, 2, none⟩ = some (.string o.to) := HO3.out.1.cell (i := 2) rfl
  have c3 : w3.cell? ⟨w.heap.size, 3, none⟩ = some (.slice o.ba o.bl o.bc) := HO3.out.1.cell (i := 3) rfl
  have c4 : w3.cell? ⟨w.heap.size, 4, none⟩ = some (.int .i64 o.n) := HO3.out.1.cell (i := 4) rfl
  have c5 : w3.cell? ⟨w.heap.size, 5, none⟩ = some (.slice o.ka o.kl o.kc) := HO3.out.1.cell (i := 5) rfl
  go_wp2_with fail
  refine (cut_nil _ _ _).mono ?_
  rintro e w4 ⟨rfl, hb⟩
  have HO4 := hid (nobody_step HO3.out.1 HO3.out.2 hb)
  clear hb c1 c2 c3 c4 c5 HO3
  have c1 : w4.cell? ⟨w.heap.size, 1, none⟩ = some (.string o.name) := HO4.out.1.cell (i := 1) rfl
  have c2 : w4.cell? ⟨w.heap.size, 2, none⟩ = some (.string o.to) := HO4.out.1.cell (i := 2) rfl
  have c3 : w4.cell? ⟨w.heap.size, 3, none⟩ = some (.slice o.ba o.bl o.bc) := HO4.out.1.cell (i := 3) rfl
  have c4 : w4.cell? ⟨w.heap.size, 4, none⟩ = some (.int .i64 o.n) := HO4.out.1.cell (i := 4) rfl
  have c5 : w4.cell? ⟨w.heap.size, 5, none⟩ = some (.slice o.ka o.kl o.kc) := HO4.out.1.cell (i := 5) rfl
  go_wp2_with fail
  refine (rename_nil _ _ _).mono ?_
  rintro e w5 ⟨rfl, hb⟩
  have HO5 := hid (nobody_step HO4.out.1 HO4.out.2 hb)
  clear hb c1 c2 c3 c4 c5 HO4
  have c1 : w5.cell? ⟨w.heap.size, 1, none⟩ = some (.string o.name) := HO5.out.1.cell (i := 1) rfl
  have c2 : w5.cell? ⟨w.heap.size, 2, none⟩ = some (.string o.to) := HO5.out.1.cell (i := 2) rfl
  have c3 : w5.cell? ⟨w.heap.size, 3, none⟩ = some (.slice o.ba o.bl o.bc) := HO5.out.1.cell (i := 3) rfl
  have c4 : w5.cell? ⟨w.heap.size, 4, none⟩ = some (.int .i64 o.n) := HO5.out.1.cell (i := 4) rfl
  have c5 : w5.cell? ⟨w.heap.size, 5, none⟩ = some (.slice o.ka o.kl o.kc) := HO5.out.1.cell (i := 5) rfl
  go_wp2_with fail
  refine (remove_nil _ _).mono ?_
  rintro e w6 ⟨rfl, hb⟩
  have HO6 := hid (nobody_step HO5.out.1 HO5.out.2 hb)
  clear hb c1 c2 c3 c4 c5 HO5
  have c1 : w6.cell? ⟨w.heap.size, 1, none⟩ = some (.string o.name) := HO6.out.1.cell (i := 1) rfl
  have c2 : w6.cell? ⟨w.heap.size, 2, none⟩ = some (.string o.to) := HO6.out.1.cell (i := 2) rfl
  have c3 : w6.cell? ⟨w.heap.size, 3, none⟩ = some (.slice o.ba o.bl o.bc) := HO6.out.1.cell (i := 3) rfl
  have c4 : w6.cell? ⟨w.heap.size, 4, none⟩ = some (.int .i64 o.n) := HO6.out.1.cell (i := 4) rfl
  have c5 : w6.cell? ⟨w.heap.size, 5, none⟩ = some (.slice o.ka o.kl o.kc) := HO6.out.1.cell (i := 5) rfl
  go_wp2_with fail
  refine (files_nil _).mono ?_
  rintro e w' ⟨rfl, h'⟩
  subst h'
  go_wp2_with fail
  refine (off_nil _).mono ?_
  rintro e w' ⟨rfl, h'⟩
  subst h'
  go_wp2_with fail
  refine (left_nil _).mono ?_
  rintro e w' ⟨rfl, h'⟩
  subst h'
  go_wp2_with fail
  refine (crash_nil _ _).mono ?_
  rintro e w' ⟨rfl, h'⟩
  subst h'
  go_wp2_with fail
  refine (fork_nil _).mono ?_
  rintro e w' ⟨rfl, h'⟩
  subst h'
  go_wp2
  go_ret
  exact ⟨rfl, HO6.out.2⟩
theorem diskNobody_row (o : OpV) (w : World) (_ : o.Ok) : Calls Try.prog 5 #[.agg o.cells.toArray] w fun e w' => e = .returned (.bool true) ∧ Below w.heap.size w w' := diskNobody_walk o w
end Go.Proofs.Ytjejddpmkihdgaa
