/-
  Package disk: giveName, changeFile; Sync and Cut.
-/
import Derived.Test.YtjfohnkfcfifeaaDiskD
import Derived.Deep.RegionHeld3
namespace Go.Proofs.Ytjfohnkfcfifeaa
open Go.RowKit Go.Maps

theorem giveName_nil (w : World) (s : ByteArray) (F : Nat) (lb : Array Value) : Calls Try.prog 20 #[.pointer none, .string s, .func (.func F) #[] lb] w fun e w' => e = .returned (.int .i64 6) ∧ w' = w := by
  go_enter Try.func20, Try.ntmps20
  go_wp2_with fail
  refine (dclosed_nil _).mono ?_
  rintro e w' ⟨rfl, rfl⟩
  go_wp2
  go_ret
  exact ⟨rfl, rfl⟩

section
variable {w : World} {p bm : Nat} {size calls : Int} {fs : List Fl} {D : DataW Value}

theorem giveName_bad (h : DiskAt w p bm size calls fs D) (s : ByteArray) (hs : s.size ≤ maxLen) (hn : nameS s = false) (F : Nat) (lb : Array Value) : Calls Try.prog 20 #[.pointer (some ⟨p, 0, none⟩), .string s, .func (.func F) #[] lb] w fun e w' => e = .returned (.int .i64 30) ∧ w' = w := by
  have HCL := hid h.closed
  have hna := codecName_any s w hs
  rw [hn] at hna
  have HNA := hid hna
  clear h hna hn
  go_enter Try.func20, Try.ntmps20
  go_wp2_with fail
  refine HCL.out.mono ?_
  rintro e w' ⟨rfl, rfl⟩
  go_wp2_with fail
  refine HNA.out.mono ?_
  rintro e w' ⟨rfl, rfl⟩
  go_wp2
  go_ret
  exact ⟨rfl, rfl⟩
theorem giveName_do (h : DiskAt w p bm size calls fs D) (s : ByteArray) (hs : s.size ≤ maxLen) (hn : nameS s = true) (F : Nat) (lb : Array Value) (R : Int → World → Prop)
    (hch : Calls Try.prog 46 #[.pointer (some ⟨p, 0, none⟩), .func (.func F) #[] lb] w fun e w' => ∃ er, e = .returned (.int .i64 er) ∧ R er w') :
    Calls Try.prog 20 #[.pointer (some ⟨p, 0, none⟩), .string s, .func (.func F) #[] lb] w fun e w' => ∃ er, e = .returned (.int .i64 er) ∧ R er w' := by
  have HCL := hid h.closed
  have hna := codecName_any s w hs
  rw [hn] at hna
  have HNA := hid hna
  have HCH := hid hch
  clear h hna hn hch
  go_enter Try.func20, Try.ntmps20
  go_wp2_with fail
  refine HCL.out.mono ?_
  rintro e w' ⟨rfl, h'⟩
  subst h'
  go_wp2_with fail
  refine HNA.out.mono ?_
  rintro e w' ⟨rfl, h'⟩
  subst h'
  go_wp2_with fail
  refine HCH.out.mono ?_
  rintro e w1 ⟨er, rfl, hR⟩
  have HR := hid hR
  clear hR
  go_wp2
  go_ret
  exact ⟨er, rfl, HR.out⟩

/-- The closures that changeFile is handed. -/
def FDoer (F : Nat) (lb : Array Value) : Prop := (F = 44 ∧ lb = #[]) ∨ (F = 53 ∧ ∃ a, lb = #[.pointer (some ⟨a, 0, none⟩)]) ∨ (F = 24 ∧ ∃ a b, lb = #[.pointer (some ⟨a, 0, none⟩), .pointer (some ⟨b, 0, none⟩)])

theorem dlook (h : DiskAt w p bm size calls fs D) {s : ByteArray} (hs : s.size ≤ maxLen) : (Instr.lookup 49 (.map (some bm)) (.string s) false).run Try.prog w = .ok (((ffind fs s).map Fl.at).getD (.pointer none)) w := by
  have := run_look h.map Try.keyedStr Try.underlying49 (Try.zeroFl w) (Try.keyStr hs)
  rwa [h.look] at this

set_option maxRecDepth 100000 in
set_option maxHeartbeats 1000000 in
theorem changeFile1_none (h : DiskAt w p bm size calls fs D) (s : ByteArray) (hs : s.size ≤ maxLen) (hf : ffind fs s = none) (n : Nat) (g : Value) (hd : w.cell? ⟨n, 0, none⟩ = some (.pointer (some ⟨p, 0, none⟩))) (hn : w.cell? ⟨n + 1, 0, none⟩ = some (.string s)) :
    Calls Try.prog 48 #[.pointer (some ⟨n, 0, none⟩), .pointer (some ⟨n + 1, 0, none⟩), g] w fun e w' => e = .returned (.int .i64 4) ∧ ∃ q, w' = w.drewN q := by
  have hc1 := h.blk.cell (i := 1) rfl
  have hlk := dlook h.drew hs
  rw [hf] at hlk
  simp only [Option.map_none, Option.getD_none] at hlk
  clear h hf
  go_enter Try.func48, Try.ntmps48
  go_wp2
  go_region_held3 (fun V => V.cell? ⟨n, 0, none⟩ = some (.pointer (some ⟨p, 0, none⟩)) ∧ V.cell? ⟨n + 1, 0, none⟩ = some (.string s) ∧ V.cell? ⟨p, 1, none⟩ = some (.map (some bm)) ∧ (Instr.lookup 49 (.map (some bm)) (.string s) false).run Try.prog V = .ok (.pointer none) V) (first | go_keep | (refine ⟨?_, ?_, ?_, ?_⟩ <;> assumption)) (fail)
  go_wp2
  go_ret
  exact ⟨rfl, 1, rfl⟩

set_option maxRecDepth 100000 in
set_option maxHeartbeats 2000000 in
theorem changeFile1_do (h : DiskAt w p bm size calls fs D) (s : ByteArray) (hs : s.size ≤ maxLen) {f : Fl} (hf : ffind fs s = some f) (n : Nat) (F : Nat) (lb : Array Value) (hF : FDoer F lb) (hd : w.cell? ⟨n, 0, none⟩ = some (.pointer (some ⟨p, 0, none⟩))) (hn : w.cell? ⟨n + 1, 0, none⟩ = some (.string s))
    (hg : w.cell? ⟨n + 2, 0, none⟩ = some (.func (.func F) #[] lb)) (R : Int → World → Prop) (hdo : Calls Try.prog F (#[.pointer (some ⟨f.ptr, 0, none⟩)] ++ lb) w.drew fun e w' => ∃ er, e = .returned (.int .i64 er) ∧ R er w') :
    Calls Try.prog 48 #[.pointer (some ⟨n, 0, none⟩), .pointer (some ⟨n + 1, 0, none⟩), .pointer (some ⟨n + 2, 0, none⟩)] w fun e w' => ∃ er, e = .returned (.int .i64 er) ∧ R er w' := by
  have hc1 := h.blk.cell (i := 1) rfl
  have hlk := dlook h.drew hs
  rw [hf] at hlk
  simp only [Option.map_some, Option.getD_some, Fl.at] at hlk
  have hep := fun W => eql_ptr_nil W f.ptr
  clear h hf
  rcases hF with ⟨rfl, rfl⟩ | ⟨rfl, a, rfl⟩ | ⟨rfl, a, b, rfl⟩
  all_goals
    simp only [List.append_toArray, List.cons_append, List.nil_append] at hdo
    have HDO := hid hdo
    clear hdo
    go_enter Try.func48, Try.ntmps48
    go_wp2
    go_region_held3 (fun V => V.cell? ⟨n, 0, none⟩ = some (.pointer (some ⟨p, 0, none⟩)) ∧ V.cell? ⟨n + 1, 0, none⟩ = some (.string s) ∧ V.cell? ⟨p, 1, none⟩ = some (.map (some bm)) ∧ (Instr.lookup 49 (.map (some bm)) (.string s) false).run Try.prog V = .ok (.pointer (some ⟨f.ptr, 0, none⟩)) V) (first | go_keep | (refine ⟨?_, ?_, ?_, ?_⟩ <;> assumption)) (fail)
    go_wp2_with fail
    refine HDO.out.mono ?_
    rintro e w1 ⟨er, rfl, hR⟩
    have HR := hid hR
    clear hR
    go_wp2
    go_ret
    exact ⟨er, rfl, HR.out⟩

theorem changeFile_nil (w : World) (s : ByteArray) (F : Nat) (lb : Array Value) : Calls Try.prog 23 #[.pointer none, .string s, .func (.func F) #[] lb] w fun e w' => e = .returned (.int .i64 6) ∧ Below w.heap.size w w' := by
  go_enter Try.func23, Try.ntmps23
  go_wp2_with fail
  refine (change_nil _ _ _).mono ?_
  rintro e w' ⟨rfl, rfl⟩
  go_wp2
  go_ret
  exact ⟨rfl, ((((Below.refl _ w).alloc (Nat.le_refl _) _).alloc (by simp) _).alloc (by simp; omega) _)⟩

/-- What changeFile lays ahead of the change. -/
def boxes3 (w : World) (a b c : Value) (ta tb tc : TypeId) : World := ((w.alloc (.cells #[a] ta)).alloc (.cells #[b] tb)).alloc (.cells #[c] tc)
theorem boxes3_below (w : World) (a b c : Value) (ta tb tc : TypeId) : Below w.heap.size w (boxes3 w a b c ta tb tc) := ((((Below.refl _ w).alloc (Nat.le_refl _) _).alloc (by simp) _).alloc (by simp; omega) _)
theorem boxes3_cells (w : World) (a b c : Value) (ta tb tc : TypeId) : Blk (boxes3 w a b c ta tb tc) w.heap.size ta [a] ∧ Blk (boxes3 w a b c ta tb tc) (w.heap.size + 1) tb [b] ∧ Blk (boxes3 w a b c ta tb tc) (w.heap.size + 2) tc [c] := by
  refine ⟨((Blk.new w ta [a]).alloc _).alloc _, ?_, ?_⟩
  · have := Blk.new (w.alloc (.cells #[a] ta)) tb [b]
    rw [World.size_alloc] at this
    exact this.alloc _
  · have := Blk.new ((w.alloc (.cells #[a] ta)).alloc (.cells #[b] tb)) tc [c]
    rw [World.size_alloc, World.size_alloc] at this
    exact this

theorem changeFile_do (w : World) (p : Nat) (s : ByteArray) (F : Nat) (lb : Array Value) (R : Int → World → Prop)
    (hch : Calls Try.prog 46 #[.pointer (some ⟨p, 0, none⟩), .func (.func 48) #[] #[.pointer (some ⟨w.heap.size, 0, none⟩), .pointer (some ⟨w.heap.size + 1, 0, none⟩), .pointer (some ⟨w.heap.size + 2, 0, none⟩)]] (boxes3 w (.pointer (some ⟨p, 0, none⟩)) (.string s) (.func (.func F) #[] lb) 23 9 65) fun e w' => ∃ er, e = .returned (.int .i64 er) ∧ R er w') :
    Calls Try.prog 23 #[.pointer (some ⟨p, 0, none⟩), .string s, .func (.func F) #[] lb] w fun e w' => ∃ er, e = .returned (.int .i64 er) ∧ R er w' := by
  unfold boxes3 at hch
  have HCH := hid hch
  clear hch
  go_enter Try.func23, Try.ntmps23
  go_wp2_with fail
  refine HCH.out.mono ?_
  rintro e w1 ⟨er, rfl, hR⟩
  have HR := hid hR
  clear hR
  go_wp2
  go_ret
  exact ⟨er, rfl, HR.out⟩
end
end Go.Proofs.Ytjfohnkfcfifeaa
