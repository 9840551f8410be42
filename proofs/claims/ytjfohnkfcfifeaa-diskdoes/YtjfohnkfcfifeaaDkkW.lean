/-
  pannierlaw03.DiskDoes answers true at every input.
-/
import Derived.Test.YtjfohnkfcfifeaaRzI
import Derived.Test.YtjfohnkfcfifeaaOpOpen5
import Derived.Deep.CutRange
import Derived.Deep.CutBlock
import Derived.Deep.LoopGhost
namespace Go.Proofs.Ytjfohnkfcfifeaa
open Go.RowKit Go.Maps

/-- A constant's one byte. -/
theorem conv_one (W : World) (x : Int) : (convert 31 31 (.slice (some ⟨W.heap.size, 0, none⟩) 1 1)).run Try.prog (W.alloc (.cells #[.int .u8 x] 5)) = .ok (.slice (some ⟨W.heap.size, 0, none⟩) 1 1) (oneB W x) := Lib.run_convert_bytes_const W 31 5 #[.int .u8 x] 1 1 Try.underlying31 Try.underlying5
theorem held_one (w : World) (x : Int) (h : AllB [x]) : Held (oneB w x) (some ⟨w.heap.size, 0, none⟩) 1 1 [x] := by
  refine ⟨rfl, Nat.le_refl _, by unfold maxLen; decide, fun e => (by cases e), h, fun ad ha j hj => ?_, fun ad ha _ => ?_⟩
  · cases ha
    rw [Addr.add_lit, Nat.zero_add]
    refine (World.cell?_alloc_mark w _ _ _ j).trans ?_
    match j, hj with
    | 0, _ => rfl
  · cases ha
    simp [oneB]
theorem one_below (w : World) (x : Int) : Below w.heap.size w (oneB w x) := boxed_below w (.cells #[.int .u8 x] 5 (1, 2))
theorem HeldO.atZ {w : World} {ao : Option Addr} {os : List OpV} (h : HeldO w ao os) {k : Nat} (hk : k < os.length) : ∃ b off, ao = some ⟨b, off, none⟩ ∧ b < w.heap.size := by
  rcases h.2 with h0 | ⟨b, off, h1, h2, _⟩
  · rw [h0] at hk; cases hk
  · exact ⟨b, off, h1, h2⟩
/-- What is there of one Op, also later. -/
structure OpThereZ (W : World) (b off : Nat) (o : OpV) : Prop where
  c0 : W.cell? ⟨b, off, none⟩ = some (.int .i64 o.kind)
  c1 : W.cell? ⟨b, off + 1, none⟩ = some (.string o.name)
  c2 : W.cell? ⟨b, off + 2, none⟩ = some (.string o.to)
  c3 : W.cell? ⟨b, off + 3, none⟩ = some (.slice o.ba o.bl o.bc)
  c4 : W.cell? ⟨b, off + 4, none⟩ = some (.int .i64 o.n)
  c5 : W.cell? ⟨b, off + 5, none⟩ = some (.slice o.ka o.kl o.kc)
theorem HeldO.getZ {w W : World} {b off : Nat} {os : List OpV} (h : HeldO w (some ⟨b, off, none⟩) os) (hb : Below w.heap.size w W) {k : Nat} (hk : k < os.length) : OpThereZ W b (off + k * 6) (os[k]'hk) := by
  rcases h.2 with h0 | ⟨b', off', h1, h2, h3⟩
  · rw [h0] at hk; cases hk
  · cases h1
    have cc : ∀ c u, (os[k]'hk).cells[c]? = some u → W.cell? ⟨b, off + k * 6 + c, none⟩ = some u := fun c u hu => (hb.cell (by simpa using h2)).trans (h3 k hk c u hu)
    exact ⟨cc 0 _ rfl, cc 1 _ rfl, cc 2 _ rfl, cc 3 _ rfl, cc 4 _ rfl, cc 5 _ rfl⟩
set_option maxRecDepth 100000 in
theorem does_bad (size : Int) (ao : Option Addr) (cap n : Nat) (w : World) (hbad : size < 0 ∨ 268435456 < size) :
    Calls Try.prog 3 #[.int .i64 size, .slice ao n cap] w fun e w' => e = .returned (.bool true) ∧ Below w.heap.size w w' := by
  have HNW := hid (dnew_bad w size hbad)
  have HRW := hid (rnew_bad w size hbad)
  clear hbad
  go_enter Try.func3, Try.ntmps3
  go_wp2_with fail
  refine HNW.out.mono ?_
  rintro e w' ⟨rfl, rfl⟩
  go_wp2_with fail
  refine HRW.out.mono ?_
  rintro e w'' ⟨rfl, rfl⟩
  go_wp2_with fail
  refine (dlives_any _).mono ?_
  rintro e w1 ⟨rfl, hb⟩
  have HB := hid hb
  clear hb
  go_wp2
  go_loopw [5, 9, 10] (fun d i _ wr => d = .pointer none ∧ i = .int .i64 0 ∧ Hid (Below w''.heap.size w'' wr)) (fun _ _ _ _ => 0)
  case atStart => exact ⟨rfl, rfl, HB.out⟩
  case round =>
    obtain ⟨rfl, rfl, HBW⟩ := hrel
    clear HB HNW HRW
    by_cases hn : 0 < n
    · have hlt' : (0 : Int) < (n : Int) := by omega
      go_wp2
      go_ret
      exact ⟨rfl, HBW.out⟩
    · have hlt' : ¬ (0 : Int) < (n : Int) := by omega
      go_wp2
      go_ret
      exact ⟨rfl, HBW.out⟩
set_option maxRecDepth 100000 in
set_option maxHeartbeats 4000000 in
theorem does_good (size : Int) (ao : Option Addr) (cap : Nat) (os : List OpV) (w : World) (h0 : ¬ size < 0) (h1 : ¬ 268435456 < size) (ho : HeldO w ao os) (hl : os.length ≤ 140737488355328) (hi : ∀ o ∈ os, o.kl ≤ 5864062014805) (hj : ∀ o ∈ os, o.bl ≤ 140737488355328) :
    Calls Try.prog 3 #[.int .i64 size, .slice ao os.length cap] w fun e w' => e = .returned (.bool true) ∧ Below w.heap.size w w' := by
  have HNW := hid (dnew_good w size h0 h1)
  have HO := hid ho
  have HI := hid hi
  have HJ := hid hj
  have HS0 : Hid (0 ≤ size ∧ size ≤ 268435456) := (by omega : 0 ≤ size ∧ size ≤ 268435456)
  have hrn := fun W => rnew_good W size h0 h1
  have HRN := hid hrn
  obtain ⟨n, hn⟩ : ∃ n, n = os.length := ⟨_, rfl⟩
  have HN := hid hn
  rw [← hn] at hl ⊢
  clear ho hi hn hj h0 h1 hrn
  go_enter Try.func3, Try.ntmps3
  go_wp2_with fail
  refine HNW.out.mono ?_
  rintro e w1 ⟨rfl, h'⟩
  have HD : Hid (DiskIn w.heap.size w w1 (w.heap.size + 1) w.heap.size size (-1) []) := by subst h'; exact DiskIn.new w size HS0.out.1 HS0.out.2
  clear h' HNW
  generalize w.heap.size + 1 = p at *
  obtain ⟨bm, hbm⟩ : ∃ bm, bm = w.heap.size := ⟨_, rfl⟩
  have HD1 : Hid (DiskIn w.heap.size w w1 p bm size (-1) []) := by rw [hbm]; exact HD.out
  clear HD hbm
  go_wp2_with fail
  refine (HRN.out _).mono ?_
  rintro e w2 ⟨rfl, hw2⟩
  have HD2 : Hid (DkS w w2 p bm w1.heap.size size) := by rw [hw2]; exact DkS.new w HD1.out HS0.out.1 HS0.out.2
  generalize w1.heap.size = x at *
  clear HD1 hw2
  go_wp2_with fail
  refine (dlives_any _).mono ?_
  rintro e w3 ⟨rfl, hb3⟩
  have HD3 := hid (HD2.out.below hb3)
  clear hb3 HD2
  go_wp2
  go_loopw [5, 9, 10] (fun d i _ wr => ∃ (k q bq : Nat), k ≤ n ∧ i = .int .i64 k ∧ d = .pointer (some ⟨q, 0, none⟩) ∧ Hid (DkS w wr q bq x size)) (fun _ i _ _ => n - (intOf i).toNat)
  case atStart => exact ⟨0, p, bm, Nat.zero_le _, rfl, rfl, HD3⟩
  case round =>
    obtain ⟨k, q, bq, hk, rfl, rfl, HDW⟩ := hrel
    clear HD3 HRN
    by_cases hlt : k < n
    · have hlt' : (k : Int) < (n : Int) := by omega
      have hk0 : (0 : Int) ≤ (k : Int) := by omega
      have HKM : Hid (k + 1 ≤ n) := hid hlt
      have hwk : wrap64 ((k : Int) + 1) = (k : Int) + 1 := wrapN (by omega) (by omega)
      have HWK := hid hwk
      have hkx : Hid (k < os.length) := (by have := HN.out; omega : k < os.length)
      obtain ⟨b, off, rfl, hbw⟩ := HO.out.atZ hkx.out
      obtain ⟨o, hoe⟩ : ∃ o, o = os[k]'hkx.out := ⟨_, rfl⟩
      have hop : OpThereZ wr b (off + k * 6) o := by
        rw [hoe]
        exact HO.out.getZ HDW.out.bel hkx.out
      have HOH : Hid (OpH w o) := by
        show OpH w o
        rw [hoe]
        exact HO.out.1 _ (List.getElem_mem hkx.out)
      have HOI : Hid (o.kl ≤ 5864062014805) := by
        show o.kl ≤ _
        rw [hoe]
        exact HI.out _ (List.getElem_mem hkx.out)
      have HOJ : Hid (o.bl ≤ 140737488355328) := by
        show o.bl ≤ _
        rw [hoe]
        exact HJ.out _ (List.getElem_mem hkx.out)
      have c0 := hop.c0
      have c1 := hop.c1
      have c2 := hop.c2
      have c3 := hop.c3
      have c4 := hop.c4
      have c5 := hop.c5
      clear hop hlt hoe
      by_cases k8 : o.kind = 8
      · have k8b : (o.kind == 8) = true := by simp [k8]
        have HFK := hid HDW.out.fork
        go_wp2_with fail
        refine HFK.out.mono ?_
        rintro e w5 ⟨q2, bq2, rfl, hf5⟩
        have HF5 := hid hf5
        have hcv := fun W x => conv_one W x
        clear hf5 HFK c1 c2 c3 c4 c5
        have HAP := hid ((HF5.out.below (one_below w5 120)).append ⟨#[111, 116, 104, 101, 114]⟩ (by unfold maxLen; decide) _ 1 1 _ (held_one w5 120 (fun c hc => by simp at hc; omega)))
        go_wp2_with fail
        refine HAP.out.mono ?_
        rintro e w6 ⟨er6, rfl, hf6⟩
        have HRM := hid (hf6.remove ⟨#[97]⟩ (by unfold maxLen; decide))
        clear hf6 HAP
        go_wp2_with fail
        refine HRM.out.mono ?_
        rintro e w7 ⟨er7, rfl, hf7⟩
        have HD7 := hid hf7.done
        clear hf7 HRM
        go_wp2
        go_roundw
        case rel => exact ⟨k + 1, q2, bq2, HKM.out, by go_num, rfl, HD7⟩
        case measure => first | exact measNW HKM.out HWK.out | exact measN1 HKM.out
      · have k8b : (o.kind == 8) = false := by simp [k8]
        have HDO := hid (doesS HDW.out o HOH.out HOJ.out HOI.out)
        go_wp2_with fail
        refine HDO.out.mono ?_
        rintro e w5 ⟨rfl, hd5⟩
        have HD5 := hid hd5
        clear hd5 HDO
        go_wp2
        go_roundw
        case rel => exact ⟨k + 1, q, bq, HKM.out, by go_num, rfl, HD5⟩
        case measure => first | exact measNW HKM.out HWK.out | exact measN1 HKM.out
    · have hlt' : ¬ (k : Int) < (n : Int) := by omega
      have HLK := hid HDW.out.looks
      clear hlt
      go_wp2_with fail
      refine HLK.out.mono ?_
      rintro e w5 ⟨rfl, hd5⟩
      have HEND := hid hd5.bel
      clear hd5 HLK
      go_wp2
      go_ret
      exact ⟨rfl, HEND.out⟩
theorem diskDoes_open (size : Int) (ao : Option Addr) (cap : Nat) (os : List OpV) (w : World) (_ : -9223372036854775808 ≤ size ∧ size ≤ 9223372036854775807) (ho : HeldO w ao os) (hl : os.length ≤ 140737488355328) (hi : ∀ o ∈ os, o.kl ≤ 5864062014805) (hj : ∀ o ∈ os, o.bl ≤ 140737488355328) :
    Calls Try.prog 3 #[.int .i64 size, .slice ao os.length cap] w fun e w' => e = .returned (.bool true) ∧ Below w.heap.size w w' := by
  by_cases hbad : size < 0 ∨ 268435456 < size
  · exact does_bad size ao cap os.length w hbad
  · exact does_good size ao cap os w (fun h => hbad (.inl h)) (fun h => hbad (.inr h)) ho hl hi hj
end Go.Proofs.Ytjfohnkfcfifeaa
