/-
  Package lease: Counts, Clear, New, Fork.
-/
import Derived.Test.YtmceffndnofgfaaLeA
namespace Go.Proofs.Ytmceffndnofgfaa
open Go.RowKit Go.Maps

/-- An ask that counts. -/
def Fresh (now trust x : Int) : Prop := x ≠ -1 ∧ x ≤ now ∧ now - x < trust
instance (now trust x : Int) : Decidable (Fresh now trust x) := by unfold Fresh; infer_instance
/-- How many asks count. -/
def cntLe (now trust : Int) (asks : List Int) : Nat := asks.countP (fun x => decide (Fresh now trust x))
theorem cntLe_snoc (now trust x : Int) (l : List Int) : cntLe now trust (l ++ [x]) = cntLe now trust l + (if Fresh now trust x then 1 else 0) := by
  simp [cntLe, List.countP_append, List.countP_cons]
theorem cntLe_take {now trust : Int} {l : List Int} {k : Nat} (h : k < l.length) : cntLe now trust (l.take (k + 1)) = cntLe now trust (l.take k) + (if Fresh now trust (l.getD k 0) then 1 else 0) := by
  rw [List.take_succ_eq_append_getElem h, cntLe_snoc]
  simp [List.getD, List.getElem?_eq_getElem h]
theorem cntLe_le (now trust : Int) (l : List Int) : cntLe now trust l ≤ l.length := List.countP_le_length
theorem fresh_wrap {now x : Int} (h0 : -1 ≤ x) (h1 : x ≤ now) (h2 : now ≤ 9223372036854775807) (hx : x ≠ -1) : wrap64 (now - x) = now - x := wrapS (by omega) (by omega)
theorem wrap_cnt {c : Nat} (h : c ≤ 7) : wrap64 ((c : Int) + 1) = ((c + 1 : Nat) : Int) := by
  rw [wrapS (by omega) (by omega)]
  simp

theorem countsLe_nil (w : World) (n : Int) : Calls Try.prog 14 #[.pointer none, .int .i64 n] w fun e w' => e = .returned (.bool false) ∧ w' = w := by
  go_enter Try.func14, Try.ntmps14
  go_wp2_with fail
  refine (closedLe_nil _).mono ?_
  rintro e w' ⟨rfl, rfl⟩
  go_wp2
  go_ret
  exact ⟨rfl, rfl⟩
set_option maxRecDepth 100000 in
theorem countsLe_any {w : World} {p g cap : Nat} {asks : List Int} {trust : Int} (h : LsAt w p g cap asks trust) (now : Int) (hnow : now ≤ 9223372036854775807) :
    Calls Try.prog 14 #[.pointer (some ⟨p, 0, none⟩), .int .i64 now] w fun e w' => e = .returned (.bool (decide (quoLe asks.length ≤ cntLe now trust asks))) ∧ w' = w := by
  have c0 := h.blk.cell (i := 0) rfl
  have c1 := h.blk.cell (i := 1) rfl
  have HC := hid h.closed
  have H := hid h
  have hn7 : asks.length ≤ 7 := h.few.2
  have HNOW := hid hnow
  clear h hnow
  obtain ⟨n, hn⟩ : ∃ n, n = asks.length := ⟨_, rfl⟩
  rw [← hn] at c0 hn7 ⊢
  have HN := hid hn
  have HQ := hid (quorumLe w (n : Int))
  obtain ⟨Q, hQ⟩ : ∃ Q, Q = quoLe (n : Int) := ⟨_, rfl⟩
  rw [← hQ] at HQ ⊢
  clear hn hQ
  go_enter Try.func14, Try.ntmps14
  go_wp2_with fail
  refine HC.out.mono ?_
  rintro e w' ⟨rfl, rfl⟩
  go_wp2
  go_loop [5, 7, 15] (fun c _ i => ∃ k m : Nat, k ≤ n ∧ m ≤ k ∧ i = .int .i64 k ∧ c = .int .i64 m ∧ Hid (m = cntLe now trust (asks.take k))) (fun _ _ i => n - (intOf i).toNat)
  case atStart => exact ⟨0, 0, by omega, by omega, rfl, rfl, rfl⟩
  case round =>
    obtain ⟨k, m, hk, hm, rfl, rfl, HM⟩ := hrel
    by_cases hlt : k < n
    · have hlt' : (k : Int) < (n : Int) := by omega
      have hkx : Hid (k < asks.length) := (by have := HN.out; omega : k < asks.length)
      have hcell := (H.out.askCell hkx.out).1
      have HX := hid (H.out.rng _ (getD_mem hkx.out))
      have HST := hid (cntLe_take (now := now) (trust := trust) hkx.out)
      generalize asks.getD k 0 = X at *
      have hwc : wrap64 ((m : Int) + 1) = ((m + 1 : Nat) : Int) := wrap_cnt (by omega)
      by_cases h1 : X = -1
      · have hb : (X != -1) = false := by simp [h1]
        rw [if_neg (fun hh => hh.1 h1)] at HST
        clear h1
        go_wp2
        go_round
        case rel => exact ⟨k + 1, m, by omega, by omega, by go_num, rfl, by have := HST.out; have := HM.out; show _ = _; omega⟩
        case measure => simp [intOf]; omega
      · have hb : (X != -1) = true := by simp [h1]
        by_cases h2 : X ≤ now
        · have hw : wrap64 (now - X) = now - X := fresh_wrap HX.out.1 h2 HNOW.out h1
          by_cases h3 : now - X < trust
          · rw [if_pos ⟨h1, h2, h3⟩] at HST
            clear h1
            go_wp2
            go_round
            case rel => exact ⟨k + 1, m + 1, by omega, by omega, by go_num, rfl, by have := HST.out; have := HM.out; show _ = _; omega⟩
            case measure => simp [intOf]; omega
          · rw [if_neg (fun hh => h3 hh.2.2)] at HST
            clear h1
            go_wp2
            go_round
            case rel => exact ⟨k + 1, m, by omega, by omega, by go_num, rfl, by have := HST.out; have := HM.out; show _ = _; omega⟩
            case measure => simp [intOf]; omega
        · rw [if_neg (fun hh => h2 hh.2.1)] at HST
          clear h1
          go_wp2
          go_round
          case rel => exact ⟨k + 1, m, by omega, by omega, by go_num, rfl, by have := HST.out; have := HM.out; show _ = _; omega⟩
          case measure => simp [intOf]; omega
    · have hlt' : ¬ (k : Int) < (n : Int) := by omega
      have HE : Hid (m = cntLe now trust asks) := by
        have h1 := HM.out
        have h2 := HN.out
        rw [List.take_of_length_le (by omega)] at h1
        exact h1
      go_wp2_with fail
      refine HQ.out.mono ?_
      rintro e w' ⟨rfl, rfl⟩
      go_wp2
      go_ret
      exact ⟨ret_bool (by rw [← HE.out]), rfl⟩

theorem clearLe_nil (w : World) : Calls Try.prog 16 #[.pointer none] w fun e w' => e = .returned (.tuple #[]) ∧ w' = w := by
  go_enter Try.func16, Try.ntmps16
  go_wp2_with fail
  refine (closedLe_nil _).mono ?_
  rintro e w' ⟨rfl, rfl⟩
  go_wp2
  (try simp only [Exit.inBlock, Exit.then])
  refine bodyPost_ret (results_none rfl _ _ _) rfl ?_
  exact ⟨rfl, rfl⟩
/-- The first k asks are gone. -/
def goneTo (asks : List Int) (k : Nat) : List Int := List.replicate k (-1) ++ asks.drop k
theorem goneTo_len {asks : List Int} {k : Nat} (h : k ≤ asks.length) : (goneTo asks k).length = asks.length := by simp [goneTo]; omega
theorem goneTo_set {asks : List Int} {k : Nat} (h : k < asks.length) : (goneTo asks k).set k (-1) = goneTo asks (k + 1) := by
  unfold goneTo
  have hd : asks.drop k = asks.getD k 0 :: asks.drop (k + 1) := by
    rw [List.drop_eq_getElem_cons h]
    simp [List.getD, List.getElem?_eq_getElem h]
  rw [List.set_append, if_neg (by simp), List.length_replicate, Nat.sub_self, hd, List.set_cons_zero, List.replicate_succ']
  simp
theorem goneTo_end (asks : List Int) : goneTo asks asks.length = List.replicate asks.length (-1) := by simp [goneTo]
set_option maxRecDepth 100000 in
theorem clearLe_any {w : World} {p g cap : Nat} {asks : List Int} {trust : Int} (h : LsAt w p g cap asks trust) :
    Calls Try.prog 16 #[.pointer (some ⟨p, 0, none⟩)] w fun e w' => e = .returned (.tuple #[]) ∧ LsAt w' p g cap (List.replicate asks.length (-1)) trust ∧ Turns (CFoot p g) w w' := by
  have c0 := h.blk.cell (i := 0) rfl
  have HC := hid h.closed
  have H := hid h
  have hn7 : asks.length ≤ 7 := h.few.2
  clear h
  obtain ⟨n, hn⟩ : ∃ n, n = asks.length := ⟨_, rfl⟩
  rw [← hn] at c0 hn7 ⊢
  have HN := hid hn
  clear hn
  go_enter Try.func16, Try.ntmps16
  go_wp2_with fail
  refine HC.out.mono ?_
  rintro e w' ⟨rfl, rfl⟩
  go_wp2
  go_loopw [2, 10] (fun _ i wr => ∃ k : Nat, k ≤ n ∧ i = .int .i64 k ∧ Hid (LsAt wr p g cap (goneTo asks k) trust ∧ Turns (CFoot p g) w' wr)) (fun _ i _ => n - (intOf i).toNat)
  case atStart => exact ⟨0, by omega, rfl, by simpa [goneTo] using H.out, Turns.refl _ _⟩
  case round =>
    obtain ⟨k, hk, rfl, HA⟩ := hrel
    by_cases hlt : k < n
    · have hlt' : (k : Int) < (n : Int) := by omega
      have hkx : Hid (k < asks.length) := (by have := HN.out; omega : k < asks.length)
      have hgl : Hid ((goneTo asks k).length = n) := by show _ = _; rw [goneTo_len (Nat.le_of_lt hkx.out), HN.out]
      have d0 := HA.out.1.blk.cell (i := 0) rfl
      rw [hgl.out] at d0
      have hc := HA.out.1.askCell (k := k) (by rw [hgl.out]; exact hlt)
      have hf := hc.2
      have hcc := hc.1
      clear hc
      have HS : Hid (LsAt (wr.setCell ⟨g, k, none⟩ (.int .i64 (-1))) p g cap (goneTo asks (k + 1)) trust) := by
        show LsAt _ _ _ _ _ _
        rw [← goneTo_set hkx.out]
        exact HA.out.1.setAsk (by rw [hgl.out]; exact hlt) ⟨by omega, by omega⟩
      go_wp2
      go_roundw
      case rel => exact ⟨k + 1, by omega, by go_num, HS.out, HA.out.2.setCell (.inl (.inr rfl)) _⟩
      case measure => simp [intOf]; omega
    · have hlt' : ¬ (k : Int) < (n : Int) := by omega
      have HE : Hid (LsAt wr p g cap (List.replicate n (-1)) trust) := by
        have h1 := HA.out.1
        have h2 := HN.out
        have : k = asks.length := by omega
        rw [this, goneTo_end, ← h2] at h1
        exact h1
      go_wp2
      go_end0
      exact ⟨rfl, HE.out, HA.out.2⟩

theorem newLe_bad (w : World) (n l r : Int) (h : ¬ ((1 ≤ n ∧ n ≤ 7) ∧ (1 ≤ l ∧ l ≤ 1048576) ∧ 0 ≤ r ∧ r ≤ 999)) : Calls Try.prog 7 #[.int .i64 n, .int .i64 l, .int .i64 r] w fun e w' => e = .returned (.tuple #[.pointer none, .int .i64 1]) ∧ w' = w := by
  have HL := hid (mayLast_any w l)
  by_cases h0 : n < 1
  · clear h
    go_enter Try.func7, Try.ntmps7
    go_wp2
    go_ret2
    exact ⟨rfl, rfl⟩
  by_cases h1 : 7 < n
  · clear h
    go_enter Try.func7, Try.ntmps7
    go_wp2
    go_ret2
    exact ⟨rfl, rfl⟩
  by_cases h2 : 1 ≤ l ∧ l ≤ 1048576
  · rw [decide_eq_true h2] at HL
    by_cases h3 : r < 0
    · clear h h2
      go_enter Try.func7, Try.ntmps7
      go_wp2_with fail
      refine HL.out.mono ?_
      rintro e w' ⟨rfl, rfl⟩
      go_wp2
      go_ret2
      exact ⟨rfl, rfl⟩
    · have h4 : 1000 ≤ r := by omega
      clear h h2
      go_enter Try.func7, Try.ntmps7
      go_wp2_with fail
      refine HL.out.mono ?_
      rintro e w' ⟨rfl, rfl⟩
      go_wp2
      go_ret2
      exact ⟨rfl, rfl⟩
  · rw [decide_eq_false h2] at HL
    clear h h2
    go_enter Try.func7, Try.ntmps7
    go_wp2_with fail
    refine HL.out.mono ?_
    rintro e w' ⟨rfl, rfl⟩
    go_wp2
    go_ret2
    exact ⟨rfl, rfl⟩
theorem trust_rng {l r : Int} (hl : 1 ≤ l ∧ l ≤ 1048576) (hr : 0 ≤ r ∧ r ≤ 999) : 0 ≤ trustOf l r ∧ trustOf l r ≤ 1048576 := by
  unfold trustOf
  rw [if_pos ⟨hl, hr⟩]
  have a0 : 0 ≤ l * (1000 - r) := Int.mul_nonneg (by omega) (by omega)
  refine ⟨Int.ediv_nonneg a0 (by omega), ?_⟩
  have h1 : l * (1000 - r) ≤ 1048576 * (1000 + r) := Int.mul_le_mul hl.2 (by omega) (by omega) (by omega)
  exact Int.ediv_le_of_le_mul (by omega) h1
theorem madeLe (n : Nat) : (madeCells #[Value.int .i64 0] n) = (ints (List.replicate n 0)).toArray := by
  apply Array.ext'
  rw [toList_madeCells_one]
  simp [ints]
theorem newLe_mid (w : World) (n : Nat) (T : Int) (hn : 1 ≤ n ∧ n ≤ 7) (hT : 0 ≤ T ∧ T ≤ 1048576) :
    LsAt ((w.alloc (.cells (ints (List.replicate n 0)).toArray 3)).alloc (.cells #[.slice (some ⟨w.heap.size, 0, none⟩) n n, .int .i64 T] 76)).drew (w.heap.size + 1) w.heap.size n (List.replicate n 0) T ∧ Below w.heap.size w ((w.alloc (.cells (ints (List.replicate n 0)).toArray 3)).alloc (.cells #[.slice (some ⟨w.heap.size, 0, none⟩) n n, .int .i64 T] 76)).drew := by
  refine ⟨⟨?_, ⟨[], ?_⟩, by omega, fun x hx => ?_, hT, by simpa using hn⟩, below_dn (((Below.refl _ _).alloc (Nat.le_refl _) _).alloc (by simp) _) 1⟩
  · have := Blk.new (w.alloc (.cells (ints (List.replicate n 0)).toArray 3)) 76 [.slice (some ⟨w.heap.size, 0, none⟩) n n, .int .i64 T]
    rw [World.size_alloc] at this
    simpa using this.drew
  · rw [List.append_nil]
    exact ((Blk.new w 3 (ints (List.replicate n 0))).alloc _).drew
  · have := List.eq_of_mem_replicate hx
    omega
/-- What New leaves. -/
def NewLe (w w' : World) (n : Nat) (l r : Int) (p : Nat) : Prop := ∃ g, w.heap.size ≤ p ∧ w.heap.size ≤ g ∧ LsAt w' p g n (List.replicate n (-1)) (trustOf l r) ∧ Below w.heap.size w w'
set_option maxRecDepth 100000 in
theorem newLe_good (w : World) (n : Nat) (l r : Int) (hn : 1 ≤ n ∧ n ≤ 7) (hl : 1 ≤ l ∧ l ≤ 1048576) (hr : 0 ≤ r ∧ r ≤ 999) :
    Calls Try.prog 7 #[.int .i64 (n : Int), .int .i64 l, .int .i64 r] w fun e w' => ∃ p, e = .returned (.tuple #[.pointer (some ⟨p, 0, none⟩), .int .i64 0]) ∧ NewLe w w' n l r p := by
  have HL := hid (mayLast_any w l)
  rw [decide_eq_true hl] at HL
  have hmk := run_make_row' (P := Try.prog) 63 3 (.int .i64 0) 8 Try.underlying63 Try.infoInt rfl .i64 .i64 n (by omega) (by omega)
  have HT := hid (fun W => trust_any W l r)
  have HR := hid (trust_rng hl hr)
  have h1 : ¬ (n : Int) < 1 := by omega
  have h2 : ¬ 7 < (n : Int) := by omega
  have h3 : ¬ r < 0 := by omega
  have h4 : ¬ 1000 ≤ r := by omega
  have HN := hid hn
  obtain ⟨T, hT⟩ : ∃ T, T = trustOf l r := ⟨_, rfl⟩
  unfold NewLe
  rw [← hT] at HR ⊢
  have HTE := hid hT
  have HT2 : Hid (∀ W, Calls Try.prog 31 #[.int .i64 l, .int .i64 r] W fun e w' => e = .returned (.int .i64 T) ∧ w' = W) := (fun W => by rw [HTE.out]; exact HT.out W)
  clear hn hl hr hT HT
  go_enter Try.func7, Try.ntmps7
  go_wp2_with fail
  refine HL.out.mono ?_
  rintro e w' ⟨rfl, rfl⟩
  go_wp2
  go_region_with (first | (go_at_call 31; refine (HT2.out _).mono ?_; rintro e w9 ⟨rfl, rfl⟩))
  all_goals
    rw [madeLe]
    have HZ := hid (newLe_mid w' n T HN.out HR.out)
    generalize World.drew _ = W at *
    go_wp2_with fail
    refine (clearLe_any HZ.out.1).mono ?_
    rintro e w3 ⟨rfl, h3, ht3⟩
    have HE : Hid (LsAt w3 (w'.heap.size + 1) w'.heap.size n (List.replicate n (-1)) T ∧ Below w'.heap.size w' w3) := ⟨by simpa using h3, HZ.out.2.trans (ht3.below (fun i hi => by rcases hi with h | h <;> omega) HZ.out.2.size)⟩
    clear h3 ht3
    go_wp2
    go_ret2
    exact ⟨_, rfl, _, by omega, Nat.le_refl _, HE.out.1, HE.out.2⟩

theorem forkLe_nil (w : World) : Calls Try.prog 23 #[.pointer none] w fun e w' => e = .returned (.pointer none) ∧ w' = w := by
  go_enter Try.func23, Try.ntmps23
  go_wp2_with fail
  refine (closedLe_nil _).mono ?_
  rintro e w' ⟨rfl, rfl⟩
  go_wp2
  go_ret
  exact ⟨rfl, rfl⟩
theorem forkLe_any {w : World} {p g cap : Nat} {asks : List Int} {trust : Int} (h : LsAt w p g cap asks trust) :
    Calls Try.prog 23 #[.pointer (some ⟨p, 0, none⟩)] w fun e w' => ∃ p' g' cap', e = .returned (.pointer (some ⟨p', 0, none⟩)) ∧ LsAt w' p' g' cap' asks trust ∧ (w.heap.size ≤ p' ∧ w.heap.size ≤ g') ∧ Below w.heap.size w w' := by
  have HC := hid h.closed
  have c0 := h.blk.cell (i := 0) rfl
  have c1 := h.blk.cell (i := 1) rfl
  have H := hid h
  have HCL : Hid (∀ q : Nat, Calls Try.prog 39 #[.slice (some ⟨g, 0, none⟩) asks.length cap] (w.drewN q) fun e w' => ∃ b cp rest, e = .returned (.slice (some ⟨b, 0, none⟩) asks.length cp) ∧ Blk w' b 3 (ints asks ++ rest) ∧ w.heap.size ≤ b ∧ Below w.heap.size w w') := by
    intro q
    refine (clone_any (w.drewN q) g cap asks ⟨h.held.1, h.held.2⟩ (by have := h.few; omega) h.few.2).mono ?_
    rintro e w' ⟨b, cp, rest, he, hb, hbb, hbel⟩
    exact ⟨b, cp, rest, he, hb, hbb, hbel.os, hbel.tape, hbel.output, hbel.size, hbel.block⟩
  have HN := hid h.few
  clear h
  obtain ⟨n, hn⟩ : ∃ n, n = asks.length := ⟨_, rfl⟩
  rw [← hn] at c0 HCL
  have HNE := hid hn
  clear hn
  go_enter Try.func23, Try.ntmps23
  go_wp2_with fail
  refine HC.out.mono ?_
  rintro e w' ⟨rfl, rfl⟩
  go_wp2
  go_region_held3 (fun V => V.cell? ⟨p, 0, none⟩ = some (.slice (some ⟨g, 0, none⟩) n cap) ∧ V.cell? ⟨p, 1, none⟩ = some (.int .i64 trust)) (first | (refine ⟨?_, ?_⟩ <;> assumption) | go_keep)
    (first | (go_at_call 39; refine (HCL.out _).mono ?_; rintro e w9 ⟨b, cp, rest, rfl, hblk, hbb, hbel⟩; have hp9 := H.out.below hbel (Nat.le_refl _); have d0 := hp9.blk.cell (i := 0) rfl; rw [← HNE.out] at d0; have d1 := hp9.blk.cell (i := 1) rfl; have hpl := hp9.lt.1; have HBK := hid hblk; have HBB := hid hbb; have HBE := hid hbel; clear hblk hbb hbel hp9))
  all_goals
    go_wp2
    go_ret
    have hsz := HBE.out.size
    refine ⟨_, b, cp, rfl, ⟨?_, ⟨rest, HBK.out.alloc _⟩, ?_, H.out.rng, H.out.tru, HN.out⟩, ⟨?_, ?_⟩, ?_⟩
    · rw [← HNE.out]
      exact Blk.new w9 76 [.slice (some ⟨b, 0, none⟩) n cp, .int .i64 trust]
    · have := HBK.out.lt
      omega
    · exact hsz
    · exact HBB.out
    · exact HBE.out.alloc hsz _
end Go.Proofs.Ytmceffndnofgfaa
