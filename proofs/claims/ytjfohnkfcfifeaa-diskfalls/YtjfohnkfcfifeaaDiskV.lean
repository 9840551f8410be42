/-
  Package disk: a Crash that is refused; every call as one step of a disk with no Stop.
-/
import Derived.Test.YtjfohnkfcfifeaaDiskO
import Derived.Test.YtjfohnkfcfifeaaDiskP
import Derived.Test.YtjfohnkfcfifeaaDiskQ
import Derived.Test.YtjfohnkfcfifeaaDiskT
import Derived.Test.YtjfohnkfcfifeaaDiskU
namespace Go.Proofs.Ytjfohnkfcfifeaa
open Go.RowKit Go.Maps

section
variable {w : World} {p bm : Nat} {size calls : Int} {fs : List Fl} {D : DataW Value}
theorem crash_bad (h : DiskAt w p bm size calls fs D) (ao : Option Addr) (cap : Nat) (ts : List (ByteArray × Int)) (hT : HeldT w ao ts) (hbad : ¬ okFrom fs [] ts) :
    Calls Try.prog 14 #[.pointer (some ⟨p, 0, none⟩), .slice ao ts.length cap] w fun e w' => e = .returned (.int .i64 1) ∧ Now w w' p bm size calls fs fs := by
  have HCL := hid h.closed
  have HLA := hid (lasting_bad h ao cap ts hT hbad)
  have HH := hid h
  clear h hT hbad
  generalize ts.length = n at *
  go_enter Try.func14, Try.ntmps14
  go_wp2_with fail
  refine HCL.out.mono ?_
  rintro e w' ⟨rfl, rfl⟩
  go_wp2_with fail
  refine HLA.out.mono ?_
  rintro e w1 ⟨rfl, hb⟩
  have HB := hid hb
  clear hb
  go_wp2
  go_ret
  exact ⟨rfl, D, HH.out.below HB.out (Nat.le_refl _), Turns.of_below HB.out (Nat.le_refl _), fun i hi => .inl hi⟩
end

/-- One step: whatever it answers, the disk is one. -/
def Step (B : Nat) (w : World) (p bm : Nat) (size : Int) (e : Ending) (w' : World) : Prop := ∃ (er : Int) (fs : List Fl), e = .returned (.int .i64 er) ∧ DiskIn B w w' p bm size (-1) fs
section
variable {B : Nat} {w w1 : World} {p bm : Nat} {size : Int} {fs : List Fl}
theorem Step.now {w2 : World} {er : Int} {fs' : List Fl} (h : DiskIn B w w1 p bm size (-1) fs) (hn : Now w1 w2 p bm size (-1) fs fs') : Step B w p bm size (.returned (.int .i64 er)) w2 := ⟨er, fs', rfl, h.now hn⟩
theorem step_append (h : DiskIn B w w1 p bm size (-1) fs) (s : ByteArray) (hs : s.size ≤ maxLen) (ao : Option Addr) (len cap : Nat) (bs : List Int) (hB : Held w1 ao len cap bs) :
    Calls Try.prog 9 #[.pointer (some ⟨p, 0, none⟩), .string s, .slice ao len cap] w1 (Step B w p bm size) := by
  obtain ⟨D, hd, _⟩ := id h
  refine (append_any hd (by decide) s hs ao len cap bs hB).mono ?_
  rintro e w' ⟨er, rfl, h1 | h1 | h1⟩
  · exact Step.now h h1.2.2
  · exact Step.now h h1.2.2.2
  · rcases h1.2.2.2 with ⟨_, _, q, v', hn⟩ | ⟨f, v', _, hn⟩
    · exact Step.now h hn
    · exact Step.now h hn
theorem step_sync (h : DiskIn B w w1 p bm size (-1) fs) (s : ByteArray) (hs : s.size ≤ maxLen) :
    Calls Try.prog 15 #[.pointer (some ⟨p, 0, none⟩), .string s] w1 (Step B w p bm size) := by
  obtain ⟨D, hd, _⟩ := id h
  refine (sync_op hd (by decide) s hs).mono ?_
  rintro e w' ⟨er, rfl, ⟨_, _, hn⟩ | ⟨f, _, _, hn⟩⟩
  · exact Step.now h hn
  · exact Step.now h hn
theorem step_cut (h : DiskIn B w w1 p bm size (-1) fs) (s : ByteArray) (hs : s.size ≤ maxLen) (x : Int) :
    Calls Try.prog 27 #[.pointer (some ⟨p, 0, none⟩), .string s, .int .i64 x] w1 (Step B w p bm size) := by
  obtain ⟨D, hd, _⟩ := id h
  refine (cut_op hd (by decide) s hs x).mono ?_
  rintro e w' ⟨er, rfl, ⟨_, _, hn⟩ | ⟨f, _, _, _, hn⟩ | ⟨f, v, _, _, _, _, hn⟩⟩
  · exact Step.now h hn
  · exact Step.now h hn
  · exact Step.now h hn
theorem step_remove (h : DiskIn B w w1 p bm size (-1) fs) (s : ByteArray) (hs : s.size ≤ maxLen) :
    Calls Try.prog 10 #[.pointer (some ⟨p, 0, none⟩), .string s] w1 (Step B w p bm size) := by
  obtain ⟨D, hd, _⟩ := id h
  refine (remove_op hd (by decide) s hs).mono ?_
  rintro e w' ⟨er, rfl, ⟨_, _, hn⟩ | ⟨f, _, _, hn⟩⟩
  · exact Step.now h hn
  · exact Step.now h hn
theorem step_rename (h : DiskIn B w w1 p bm size (-1) fs) (s t : ByteArray) (hs : s.size ≤ maxLen) (ht : t.size ≤ maxLen) :
    Calls Try.prog 29 #[.pointer (some ⟨p, 0, none⟩), .string s, .string t] w1 (Step B w p bm size) := by
  obtain ⟨D, hd, _⟩ := id h
  refine (rename_op hd (by decide) s t hs ht).mono ?_
  rintro e w' ⟨er, rfl, ⟨_, _, hn⟩ | ⟨_, _, _, hn⟩ | ⟨f, _, _, _, hn⟩⟩
  · exact Step.now h hn
  · exact Step.now h hn
  · exact Step.now h hn
theorem step_crash (h : DiskIn B w w1 p bm size (-1) fs) (ao : Option Addr) (cap : Nat) (ts : List (ByteArray × Int)) (hT : HeldT w1 ao ts) :
    Calls Try.prog 14 #[.pointer (some ⟨p, 0, none⟩), .slice ao ts.length cap] w1 (Step B w p bm size) := by
  obtain ⟨D, hd, _⟩ := id h
  by_cases hok : okFrom fs [] ts
  · refine (crash_ok hd ao cap ts hT hok).mono ?_
    rintro e w' ⟨rfl, V, hn⟩
    exact Step.now h hn
  · refine (crash_bad hd ao cap ts hT hok).mono ?_
    rintro e w' ⟨rfl, hn⟩
    exact Step.now h hn
end
end Go.Proofs.Ytjfohnkfcfifeaa
