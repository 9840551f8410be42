/-
  Package lease: a lease in memory ('LsAt'): the small functions, New, Grant, Counts, Clear, Fork; ballot.Quorum.
-/
import Derived.Test.YtmceffndnofgfaaClkP
namespace Go.Proofs.Ytmceffndnofgfaa
open Go.RowKit Go.Maps

theorem mayCountLe (w : World) (n : Int) : Calls Try.prog 46 #[.int .i64 n] w fun e w' => e = .returned (.bool (decide (1 ≤ n ∧ n ≤ 7))) ∧ w' = w := by
  by_cases h0 : 1 ≤ n
  · by_cases h1 : n ≤ 7
    · go_enter Try.func46, Try.ntmps46
      go_wp2
      go_ret
      exact ⟨ret_bool (by simp [h0, h1]), rfl⟩
    · go_enter Try.func46, Try.ntmps46
      go_wp2
      go_ret
      exact ⟨ret_bool (by simp [h1]), rfl⟩
  · go_enter Try.func46, Try.ntmps46
    go_wp2
    go_ret
    exact ⟨ret_bool (by simp; omega), rfl⟩
/-- How many are a majority. -/
def quoLe (n : Int) : Int := if 1 ≤ n ∧ n ≤ 7 then n / 2 + 1 else 0
theorem half_Le {n : Int} (h : 1 ≤ n ∧ n ≤ 7) : wrap64 (wrap64 (n.tdiv 2) + 1) = n / 2 + 1 := by
  have a0 : n.tdiv 2 = n / 2 := Int.tdiv_eq_ediv_of_nonneg (by omega)
  rw [a0, wrapS (x := n / 2) (by omega) (by omega), wrapS (by omega) (by omega)]
theorem quorumLe (w : World) (n : Int) : Calls Try.prog 35 #[.int .i64 n] w fun e w' => e = .returned (.int .i64 (quoLe n)) ∧ w' = w := by
  have HM := hid (mayCountLe w n)
  unfold quoLe
  by_cases h : 1 ≤ n ∧ n ≤ 7
  · rw [if_pos h]
    rw [decide_eq_true h] at HM
    have HW := hid (half_Le h)
    clear h
    go_enter Try.func35, Try.ntmps35
    go_wp2_with fail
    refine HM.out.mono ?_
    rintro e w' ⟨rfl, rfl⟩
    go_wp2
    go_ret
    exact ⟨ret_int HW.out, rfl⟩
  · rw [if_neg h]
    rw [decide_eq_false h] at HM
    clear h
    go_enter Try.func35, Try.ntmps35
    go_wp2_with fail
    refine HM.out.mono ?_
    rintro e w' ⟨rfl, rfl⟩
    go_wp2
    go_ret
    exact ⟨rfl, rfl⟩
theorem rquorumLe (w : World) (n : Int) : Calls Try.prog 36 #[.int .i64 n] w fun e w' => e = .returned (.int .i64 (quoLe n)) ∧ w' = w := by
  unfold quoLe
  by_cases h0 : n < 1
  · rw [if_neg (by omega)]
    go_enter Try.func36, Try.ntmps36
    go_wp2
    go_ret
    exact ⟨rfl, rfl⟩
  · by_cases h1 : 7 < n
    · rw [if_neg (by omega)]
      go_enter Try.func36, Try.ntmps36
      go_wp2
      go_ret
      exact ⟨rfl, rfl⟩
    · rw [if_pos (by omega)]
      go_enter Try.func36, Try.ntmps36
      go_wp2
      go_ret
      exact ⟨rfl, rfl⟩

theorem mayLast_any (w : World) (n : Int) : Calls Try.prog 30 #[.int .i64 n] w fun e w' => e = .returned (.bool (decide (1 ≤ n ∧ n ≤ 1048576))) ∧ w' = w := by
  by_cases h0 : 1 ≤ n
  · by_cases h1 : n ≤ 1048576
    · go_enter Try.func30, Try.ntmps30
      go_wp2
      go_ret
      exact ⟨ret_bool (by simp [h0, h1]), rfl⟩
    · go_enter Try.func30, Try.ntmps30
      go_wp2
      go_ret
      exact ⟨ret_bool (by simp [h1]), rfl⟩
  · go_enter Try.func30, Try.ntmps30
    go_wp2
    go_ret
    exact ⟨ret_bool (by simp; omega), rfl⟩
theorem mayShowLe (w : World) (n : Int) : Calls Try.prog 34 #[.int .i64 n] w fun e w' => e = .returned (.bool (decide (0 ≤ n ∧ n ≤ 1152921504606846976))) ∧ w' = w := by
  by_cases h0 : 0 ≤ n
  · by_cases h1 : n ≤ 1152921504606846976
    · go_enter Try.func34, Try.ntmps34
      go_wp2
      go_ret
      exact ⟨ret_bool (by simp [h0, h1]), rfl⟩
    · go_enter Try.func34, Try.ntmps34
      go_wp2
      go_ret
      exact ⟨ret_bool (by simp [h1]), rfl⟩
  · go_enter Try.func34, Try.ntmps34
    go_wp2
    go_ret
    exact ⟨ret_bool (by simp; omega), rfl⟩

/-- A lease in memory: its block p, the block g of asks (-1: none). -/
structure LsAt (w : World) (p g cap : Nat) (asks : List Int) (trust : Int) : Prop where
  blk : Blk w p 76 [.slice (some ⟨g, 0, none⟩) asks.length cap, .int .i64 trust]
  row : ∃ rest, Blk w g 3 (ints asks ++ rest)
  ne : p ≠ g
  rng : ∀ x ∈ asks, -1 ≤ x ∧ x ≤ 1152921504606846976
  tru : 0 ≤ trust ∧ trust ≤ 1048576
  few : 1 ≤ asks.length ∧ asks.length ≤ 7
section
variable {w w' : World} {p g cap : Nat} {asks : List Int} {trust : Int}
theorem LsAt.turned {F : Nat → Prop} (h : LsAt w p g cap asks trust) (ht : Turns F w w') (hF : ∀ i, CFoot p g i → ¬ F i) : LsAt w' p g cap asks trust :=
  ⟨ht.blk h.blk (hF p (.inl rfl)), h.row.imp fun _ hr => ht.blk hr (hF g (.inr rfl)), h.ne, h.rng, h.tru, h.few⟩
theorem LsAt.below {B : Nat} (h : LsAt w p g cap asks trust) (hb : Below B w w') (hB : w.heap.size ≤ B) : LsAt w' p g cap asks trust :=
  h.turned (F := fun _ => False) (Turns.of_below hb hB) (fun _ _ h => h)
theorem LsAt.drewN (h : LsAt w p g cap asks trust) (q : Nat) : LsAt (w.drewN q) p g cap asks trust := ⟨h.blk, h.row, h.ne, h.rng, h.tru, h.few⟩
theorem LsAt.lt (h : LsAt w p g cap asks trust) : p < w.heap.size ∧ g < w.heap.size := ⟨h.blk.lt, h.row.elim fun _ hr => hr.lt⟩
theorem LsAt.askCell (h : LsAt w p g cap asks trust) {k : Nat} (hk : k < asks.length) : w.cell? ⟨g, k, none⟩ = some (.int .i64 (asks.getD k 0)) ∧ w.frozen? ⟨g, k, none⟩ = false := by
  obtain ⟨rest, hr⟩ := h.row
  refine ⟨hr.cell ?_, hr.frozen k⟩
  rw [List.getElem?_append_left (by rw [ints_len]; exact hk)]
  simp [ints, List.getD, List.getElem?_eq_getElem hk]
theorem LsAt.held (h : LsAt w p g cap asks trust) : HeldInt w (some ⟨g, 0, none⟩) asks := by
  refine ⟨fun x hx => by have := h.rng x hx; omega, .inr ⟨g, 0, rfl, h.lt.2, fun j hj => ?_⟩⟩
  rw [Nat.zero_add]
  exact (h.askCell hj).1
theorem LsAt.setAsk (h : LsAt w p g cap asks trust) {k : Nat} (hk : k < asks.length) {x : Int} (hx : -1 ≤ x ∧ x ≤ 1152921504606846976) : LsAt (w.setCell ⟨g, k, none⟩ (.int .i64 x)) p g cap (asks.set k x) trust := by
  obtain ⟨rest, hr⟩ := h.row
  refine ⟨?_, ⟨rest, ?_⟩, h.ne, fun y hy => ?_, h.tru, by simpa using h.few⟩
  · rw [List.length_set]
    exact h.blk.other h.ne _ _
  · have := hr.set k (.int .i64 x)
    rw [ints_set _ _ _ _ hk] at this
    exact this
  · rcases List.mem_or_eq_of_mem_set hy with h1 | h1
    · exact h.rng y h1
    · rw [h1]; exact hx
end

theorem closedLe_nil (w : World) : Calls Try.prog 33 #[.pointer none] w fun e w' => e = .returned (.bool true) ∧ w' = w := by
  go_enter Try.func33, Try.ntmps33
  go_wp2
  go_ret
  exact ⟨rfl, rfl⟩
theorem LsAt.closed {w : World} {p g cap : Nat} {asks : List Int} {trust : Int} (h : LsAt w p g cap asks trust) : Calls Try.prog 33 #[.pointer (some ⟨p, 0, none⟩)] w fun e w' => e = .returned (.bool false) ∧ w' = w := by
  have hc := h.blk.cell (i := 0) rfl
  have he := fun W => eql_ints W g asks.length cap
  clear h
  go_enter Try.func33, Try.ntmps33
  go_wp2
  go_ret
  exact ⟨rfl, rfl⟩

/-- What a grant makes of the asks. -/
def grantL (asks : List Int) (node asked : Int) : List Int := if (0 ≤ node ∧ node < asks.length) ∧ (0 ≤ asked ∧ asked ≤ 1152921504606846976) ∧ asks.getD node.toNat 0 < asked then asks.set node.toNat asked else asks
theorem grantL_len (asks : List Int) (node asked : Int) : (grantL asks node asked).length = asks.length := by unfold grantL; split <;> simp
theorem grantLe_nil (w : World) (n a : Int) : Calls Try.prog 12 #[.pointer none, .int .i64 n, .int .i64 a] w fun e w' => e = .returned (.tuple #[]) ∧ w' = w := by
  go_enter Try.func12, Try.ntmps12
  go_wp2_with fail
  refine (closedLe_nil _).mono ?_
  rintro e w' ⟨rfl, rfl⟩
  go_wp2
  (try simp only [Exit.inBlock, Exit.then])
  refine bodyPost_ret (results_none rfl _ _ _) rfl ?_
  exact ⟨rfl, rfl⟩
theorem grantLe_any {w : World} {p g cap : Nat} {asks : List Int} {trust : Int} (h : LsAt w p g cap asks trust) (node asked : Int) :
    Calls Try.prog 12 #[.pointer (some ⟨p, 0, none⟩), .int .i64 node, .int .i64 asked] w fun e w' => e = .returned (.tuple #[]) ∧ LsAt w' p g cap (grantL asks node asked) trust ∧ Turns (CFoot p g) w w' := by
  have c0 := h.blk.cell (i := 0) rfl
  have HC := hid h.closed
  have HS := hid (mayShowLe w asked)
  have H := hid h
  unfold grantL
  by_cases h0 : node < 0
  · rw [if_neg (by omega)]
    clear h
    go_enter Try.func12, Try.ntmps12
    go_wp2_with fail
    refine HC.out.mono ?_
    rintro e w' ⟨rfl, rfl⟩
    go_wp2
    (try simp only [Exit.inBlock, Exit.then])
    refine bodyPost_ret (results_none rfl _ _ _) rfl ?_
    exact ⟨rfl, H.out, Turns.refl _ _⟩
  obtain ⟨j, rfl⟩ : ∃ j : Nat, node = (j : Int) := ⟨node.toNat, by omega⟩
  rw [Int.toNat_natCast]
  by_cases h1 : j < asks.length
  · have h1' : ¬ (asks.length : Int) ≤ (j : Int) := by omega
    by_cases h2 : 0 ≤ asked ∧ asked ≤ 1152921504606846976
    · rw [decide_eq_true h2] at HS
      have hc := (h.askCell h1).1
      have hf := (h.askCell h1).2
      have HG : Hid (asks.getD j 0 < asked → LsAt (w.setCell ⟨g, j, none⟩ (.int .i64 asked)) p g cap (asks.set j asked) trust) := (fun _ => h.setAsk h1 ⟨by omega, h2.2⟩ : asks.getD j 0 < asked → LsAt (w.setCell ⟨g, j, none⟩ (.int .i64 asked)) p g cap (asks.set j asked) trust)
      have HJ := hid h1
      have hji : (j : Int) < (asks.length : Int) := by omega
      by_cases h3 : asks.getD j 0 < asked
      · rw [if_pos ⟨⟨by omega, by omega⟩, h2, h3⟩]
        have HG' := hid (HG.out h3)
        clear h h1 h2 HG
        obtain ⟨X, hX⟩ : ∃ X, X = asks.getD j 0 := ⟨_, rfl⟩
        rw [← hX] at hc h3
        have h3' : ¬ asked ≤ X := by omega
        clear hX h3
        generalize asks.length = n at *
        go_enter Try.func12, Try.ntmps12
        go_wp2_with fail
        refine HC.out.mono ?_
        rintro e w' ⟨rfl, rfl⟩
        go_wp2_with fail
        refine HS.out.mono ?_
        rintro e w' ⟨rfl, rfl⟩
        go_wp2
        go_end0
        exact ⟨rfl, HG'.out, (Turns.refl _ _).setCell (.inl (.inr rfl)) _⟩
      · rw [if_neg (fun hh => h3 hh.2.2)]
        clear h h1 h2 HG
        obtain ⟨X, hX⟩ : ∃ X, X = asks.getD j 0 := ⟨_, rfl⟩
        rw [← hX] at hc h3
        have h3' : asked ≤ X := by omega
        clear hX h3
        generalize asks.length = n at *
        go_enter Try.func12, Try.ntmps12
        go_wp2_with fail
        refine HC.out.mono ?_
        rintro e w' ⟨rfl, rfl⟩
        go_wp2_with fail
        refine HS.out.mono ?_
        rintro e w' ⟨rfl, rfl⟩
        go_wp2
        (try simp only [Exit.inBlock, Exit.then])
        refine bodyPost_ret (results_none rfl _ _ _) rfl ?_
        exact ⟨rfl, H.out, Turns.refl _ _⟩
    · rw [decide_eq_false h2] at HS
      rw [if_neg (fun hh => h2 hh.2.1)]
      clear h h2 h1
      generalize asks.length = n at *
      go_enter Try.func12, Try.ntmps12
      go_wp2_with fail
      refine HC.out.mono ?_
      rintro e w' ⟨rfl, rfl⟩
      go_wp2_with fail
      refine HS.out.mono ?_
      rintro e w' ⟨rfl, rfl⟩
      go_wp2
      (try simp only [Exit.inBlock, Exit.then])
      refine bodyPost_ret (results_none rfl _ _ _) rfl ?_
      exact ⟨rfl, H.out, Turns.refl _ _⟩
  · have h1' : (asks.length : Int) ≤ (j : Int) := by omega
    rw [if_neg (by omega)]
    clear h h1
    generalize asks.length = n at *
    go_enter Try.func12, Try.ntmps12
    go_wp2_with fail
    refine HC.out.mono ?_
    rintro e w' ⟨rfl, rfl⟩
    go_wp2
    (try simp only [Exit.inBlock, Exit.then])
    refine bodyPost_ret (results_none rfl _ _ _) rfl ?_
    exact ⟨rfl, H.out, Turns.refl _ _⟩
end Go.Proofs.Ytmceffndnofgfaa
