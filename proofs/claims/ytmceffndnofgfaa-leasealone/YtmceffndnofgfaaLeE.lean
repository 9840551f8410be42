/-
  The document's lease and hold (pannierref21) in memory: New, Grant, Counts, NewHold, Blocks, Give, Restart.
-/
import Derived.Test.YtmceffndnofgfaaLeD
namespace Go.Proofs.Ytmceffndnofgfaa
open Go.RowKit Go.Maps

/-- What the document's lease has of a node: whether it granted, and when it was asked for. -/
def isAt (asks : List Int) (k : Nat) : Bool := decide (asks.getD k (-1) ≠ -1)
def askAt (asks : List Int) (k : Nat) : Int := if asks.getD k (-1) = -1 then 0 else asks.getD k (-1)
abbrev rlCells (T : Int) (asks : List Int) : List Value :=
  [.int .i64 (asks.length : Int), .int .i64 T, .bool (isAt asks 0), .int .i64 (askAt asks 0), .bool (isAt asks 1), .int .i64 (askAt asks 1), .bool (isAt asks 2), .int .i64 (askAt asks 2), .bool (isAt asks 3), .int .i64 (askAt asks 3), .bool (isAt asks 4), .int .i64 (askAt asks 4), .bool (isAt asks 5), .int .i64 (askAt asks 5), .bool (isAt asks 6), .int .i64 (askAt asks 6)]
structure RlAt (w : World) (x : Nat) (asks : List Int) (T : Int) : Prop where
  blk : Blk w x 47 (rlCells T asks)
  rng : ∀ y ∈ asks, -1 ≤ y ∧ y ≤ 1152921504606846976
  few : 1 ≤ asks.length ∧ asks.length ≤ 7
section
variable {w w' : World} {x : Nat} {asks : List Int} {T : Int}
theorem RlAt.turned {F : Nat → Prop} (h : RlAt w x asks T) (ht : Turns F w w') (hF : ¬ F x) : RlAt w' x asks T := ⟨ht.blk h.blk hF, h.rng, h.few⟩
theorem RlAt.below {B : Nat} (h : RlAt w x asks T) (hb : Below B w w') (hB : w.heap.size ≤ B) : RlAt w' x asks T := h.turned (F := fun _ => False) (Turns.of_below hb hB) (fun h => h)
theorem RlAt.isCell (h : RlAt w x asks T) {k : Nat} (hk : k < 7) : w.cell? ⟨x, 2 + k * 2, none⟩ = some (.bool (isAt asks k)) := by
  refine h.blk.cell ?_
  match k, hk with
  | 0, _ | 1, _ | 2, _ | 3, _ | 4, _ | 5, _ | 6, _ => rfl
theorem RlAt.askCell (h : RlAt w x asks T) {k : Nat} (hk : k < 7) : w.cell? ⟨x, 2 + k * 2 + 1, none⟩ = some (.int .i64 (askAt asks k)) := by
  refine h.blk.cell ?_
  match k, hk with
  | 0, _ | 1, _ | 2, _ | 3, _ | 4, _ | 5, _ | 6, _ => rfl
theorem getD_setL {a d : Int} {j k : Nat} (hj : j < asks.length) : (asks.set j a).getD k d = if k = j then a else asks.getD k d := by
  by_cases h : k = j
  · subst h
    rw [if_pos rfl]
    simp [List.getD, hj]
  · rw [if_neg h]
    unfold List.getD
    rw [List.getElem?_set_ne (Ne.symm h)]
theorem isAt_set {a : Int} (ha : a ≠ -1) {j k : Nat} (hj : j < asks.length) : isAt (asks.set j a) k = if k = j then true else isAt asks k := by
  unfold isAt
  rw [getD_setL hj]
  by_cases h : k = j
  · rw [if_pos h, if_pos h]
    simp [ha]
  · rw [if_neg h, if_neg h]
theorem askAt_set {a : Int} (ha : a ≠ -1) {j k : Nat} (hj : j < asks.length) : askAt (asks.set j a) k = if k = j then a else askAt asks k := by
  unfold askAt
  rw [getD_setL hj]
  by_cases h : k = j
  · rw [if_pos h, if_pos h, if_neg ha]
  · rw [if_neg h, if_neg h]
theorem RlAt.setAsk (h : RlAt w x asks T) {j : Nat} (hj : j < asks.length) {a : Int} (ha : 0 ≤ a ∧ a ≤ 1152921504606846976) : RlAt ((w.setCell ⟨x, 2 + j * 2, none⟩ (.bool true)).setCell ⟨x, 2 + j * 2 + 1, none⟩ (.int .i64 a)) x (asks.set j a) T := by
  have hn : a ≠ -1 := by omega
  refine ⟨?_, fun y hy => ?_, by simpa using h.few⟩
  · have hb := (h.blk.set (2 + j * 2) (.bool true)).set (2 + j * 2 + 1) (.int .i64 a)
    have h7 : j < 7 := by have := h.few; omega
    have he : ((rlCells T asks).set (2 + j * 2) (.bool true)).set (2 + j * 2 + 1) (.int .i64 a) = rlCells T (asks.set j a) := by
      unfold rlCells
      simp only [isAt_set hn hj, askAt_set hn hj, List.length_set]
      match j, h7 with
      | 0, _ | 1, _ | 2, _ | 3, _ | 4, _ | 5, _ | 6, _ => rfl
    rw [he] at hb
    exact hb
  · rcases List.mem_or_eq_of_mem_set hy with h1 | h1
    · exact h.rng y h1
    · rw [h1]; omega
end
theorem askAt_get {asks : List Int} {k : Nat} (hk : k < asks.length) : asks.getD k (-1) = asks.getD k 0 := by simp [List.getD, List.getElem?_eq_getElem hk]

theorem rnewLe_bad (w : World) (n l r : Int) (h : ¬ ((1 ≤ n ∧ n ≤ 7) ∧ (1 ≤ l ∧ l ≤ 1048576) ∧ 0 ≤ r ∧ r ≤ 999)) : Calls Try.prog 8 #[.int .i64 n, .int .i64 l, .int .i64 r] w fun e w' => e = .returned (.tuple #[.pointer none, .int .i64 1]) ∧ w' = w := by
  by_cases h0 : n < 1
  · clear h
    go_enter Try.func8, Try.ntmps8
    go_wp2
    go_ret2
    exact ⟨rfl, rfl⟩
  by_cases h1 : 7 < n
  · clear h
    go_enter Try.func8, Try.ntmps8
    go_wp2
    go_ret2
    exact ⟨rfl, rfl⟩
  by_cases h2 : l < 1
  · clear h
    go_enter Try.func8, Try.ntmps8
    go_wp2
    go_ret2
    exact ⟨rfl, rfl⟩
  by_cases h3 : 1048576 < l
  · clear h
    go_enter Try.func8, Try.ntmps8
    go_wp2
    go_ret2
    exact ⟨rfl, rfl⟩
  by_cases h4 : r < 0
  · clear h
    go_enter Try.func8, Try.ntmps8
    go_wp2
    go_ret2
    exact ⟨rfl, rfl⟩
  · have h5 : 999 < r := by omega
    clear h
    go_enter Try.func8, Try.ntmps8
    go_wp2
    go_ret2
    exact ⟨rfl, rfl⟩
theorem isAt_none (n k : Nat) : isAt (List.replicate n (-1)) k = false := by
  unfold isAt
  by_cases h : k < n <;> simp [List.getD, h]
theorem askAt_none (n k : Nat) : askAt (List.replicate n (-1)) k = 0 := by
  unfold askAt
  by_cases h : k < n <;> simp [List.getD, h]
theorem rlCells_none (n : Nat) (T : Int) : rlCells T (List.replicate n (-1)) = [.int .i64 (n : Int), .int .i64 T, .bool false, .int .i64 0, .bool false, .int .i64 0, .bool false, .int .i64 0, .bool false, .int .i64 0, .bool false, .int .i64 0, .bool false, .int .i64 0, .bool false, .int .i64 0] := by
  simp only [rlCells, isAt_none, askAt_none, List.length_replicate]
theorem rnewLe_good (w : World) (n : Nat) (l r : Int) (hn : 1 ≤ n ∧ n ≤ 7) (hl : 1 ≤ l ∧ l ≤ 1048576) (hr : 0 ≤ r ∧ r ≤ 999) :
    Calls Try.prog 8 #[.int .i64 (n : Int), .int .i64 l, .int .i64 r] w fun e w' => e = .returned (.tuple #[.pointer (some ⟨w.heap.size, 0, none⟩), .int .i64 0]) ∧ RlAt w' w.heap.size (List.replicate n (-1)) (trustOf l r) ∧ Below w.heap.size w w' := by
  have HT := hid (refTrust_any w l r)
  have h1 : ¬ (n : Int) < 1 := by omega
  have h2 : ¬ 7 < (n : Int) := by omega
  have h3 : ¬ r < 0 := by omega
  have h4 : ¬ 999 < r := by omega
  have h5 : ¬ l < 1 := by omega
  have h6 : ¬ 1048576 < l := by omega
  have HN := hid hn
  generalize trustOf l r = T at *
  have HE : Hid (RlAt (w.alloc (.cells #[.int .i64 (n : Int), .int .i64 T, .bool false, .int .i64 0, .bool false, .int .i64 0, .bool false, .int .i64 0, .bool false, .int .i64 0, .bool false, .int .i64 0, .bool false, .int .i64 0, .bool false, .int .i64 0] 47)) w.heap.size (List.replicate n (-1)) T) := by
    refine ⟨?_, fun y hy => by have := List.eq_of_mem_replicate hy; omega, by simpa using hn⟩
    rw [rlCells_none]
    exact Blk.new w _ _
  clear hn hl hr
  go_enter Try.func8, Try.ntmps8
  go_wp2_with fail
  refine HT.out.mono ?_
  rintro e w' ⟨rfl, rfl⟩
  go_wp2
  go_ret2
  exact ⟨rfl, HE.out, (Below.refl _ _).alloc (Nat.le_refl _) _⟩

set_option maxRecDepth 100000 in
theorem rgrantLe_any {w : World} {x : Nat} {asks : List Int} {T : Int} (h : RlAt w x asks T) (node asked : Int) :
    Calls Try.prog 13 #[.pointer (some ⟨x, 0, none⟩), .int .i64 node, .int .i64 asked] w fun e w' => e = .returned (.tuple #[]) ∧ RlAt w' x (grantL asks node asked) T ∧ Turns (fun i => i = x) w w' := by
  have c0 := h.blk.cell (i := 0) rfl
  have H := hid h
  unfold grantL
  by_cases h0 : node < 0
  · rw [if_neg (by omega)]
    clear h
    go_enter Try.func13, Try.ntmps13
    go_wp2
    (try simp only [Exit.inBlock, Exit.then])
    refine bodyPost_ret (results_none rfl _ _ _) rfl ?_
    exact ⟨rfl, H.out, Turns.refl _ _⟩
  obtain ⟨j, rfl⟩ : ∃ j : Nat, node = (j : Int) := ⟨node.toNat, by omega⟩
  rw [Int.toNat_natCast]
  by_cases h1 : j < asks.length
  · have h1' : ¬ (asks.length : Int) ≤ (j : Int) := by omega
    by_cases h2 : asked < 0
    · rw [if_neg (by omega)]
      clear h h1
      generalize asks.length = n at *
      go_enter Try.func13, Try.ntmps13
      go_wp2
      (try simp only [Exit.inBlock, Exit.then])
      refine bodyPost_ret (results_none rfl _ _ _) rfl ?_
      exact ⟨rfl, H.out, Turns.refl _ _⟩
    by_cases h3 : 1152921504606846976 < asked
    · rw [if_neg (by omega)]
      clear h h1
      generalize asks.length = n at *
      go_enter Try.func13, Try.ntmps13
      go_wp2
      (try simp only [Exit.inBlock, Exit.then])
      refine bodyPost_ret (results_none rfl _ _ _) rfl ?_
      exact ⟨rfl, H.out, Turns.refl _ _⟩
    have h7 : j < 7 := by have := h.few; omega
    have h7' : (j : Int) < 7 := by omega
    have k0 := h.isCell h7
    have k1 := h.askCell h7
    have f0 := h.blk.frozen (2 + j * 2)
    have f1 := h.blk.frozen (2 + j * 2 + 1)
    have HS := hid (h.setAsk h1 (a := asked) (by omega))
    have HT : Hid (Turns (fun i => i = x) w ((w.setCell ⟨x, 2 + j * 2, none⟩ (.bool true)).setCell ⟨x, 2 + j * 2 + 1, none⟩ (.int .i64 asked))) := ((Turns.refl (fun i => i = x) w).setCell (p := ⟨x, 2 + j * 2, none⟩) (.inl rfl) _).setCell (p := ⟨x, 2 + j * 2 + 1, none⟩) (.inl rfl) _
    have HG := hid (askAt_get h1)
    by_cases h4 : asks.getD j 0 = -1
    · rw [if_pos ⟨by omega, by omega, by omega⟩]
      have hi : isAt asks j = false := by unfold isAt; rw [HG.out, h4]; rfl
      rw [hi] at k0
      obtain ⟨X, hX⟩ : ∃ X, X = askAt asks j := ⟨_, rfl⟩
      rw [← hX] at k1
      clear h h1 hi h4 hX
      generalize asks.length = n at *
      go_enter Try.func13, Try.ntmps13
      go_wp2
      go_end0
      exact ⟨rfl, HS.out, HT.out⟩
    · have hi : isAt asks j = true := by unfold isAt; rw [HG.out]; simpa using h4
      have ha : askAt asks j = asks.getD j 0 := by unfold askAt; rw [HG.out, if_neg h4]
      rw [hi] at k0
      rw [ha] at k1
      by_cases h5 : asks.getD j 0 < asked
      · rw [if_pos ⟨by omega, by omega, h5⟩]
        obtain ⟨X, hX⟩ : ∃ X, X = asks.getD j 0 := ⟨_, rfl⟩
        rw [← hX] at k1 h5
        clear h h1 hi h4 ha hX HG
        generalize asks.length = n at *
        go_enter Try.func13, Try.ntmps13
        go_wp2
        go_end0
        exact ⟨rfl, HS.out, HT.out⟩
      · rw [if_neg (fun hh => h5 hh.2.2)]
        obtain ⟨X, hX⟩ : ∃ X, X = asks.getD j 0 := ⟨_, rfl⟩
        rw [← hX] at k1 h5
        clear h h1 hi h4 ha hX HG
        generalize asks.length = n at *
        go_enter Try.func13, Try.ntmps13
        go_wp2
        go_end0
        exact ⟨rfl, H.out, Turns.refl _ _⟩
  · have h1' : (asks.length : Int) ≤ (j : Int) := by omega
    rw [if_neg (by omega)]
    clear h h1
    generalize asks.length = n at *
    go_enter Try.func13, Try.ntmps13
    go_wp2
    (try simp only [Exit.inBlock, Exit.then])
    refine bodyPost_ret (results_none rfl _ _ _) rfl ?_
    exact ⟨rfl, H.out, Turns.refl _ _⟩

set_option maxRecDepth 100000 in
theorem rcountsLe_any {w : World} {x : Nat} {asks : List Int} {T : Int} (h : RlAt w x asks T) (now : Int) (hnow : now ≤ 9223372036854775807) :
    Calls Try.prog 15 #[.pointer (some ⟨x, 0, none⟩), .int .i64 now] w fun e w' => e = .returned (.bool (decide (quoLe asks.length ≤ cntLe now T asks))) ∧ Below w.heap.size w w' := by
  have H := hid h
  have hn7 : asks.length ≤ 7 := h.few.2
  have HNOW := hid hnow
  clear h hnow
  obtain ⟨n, hn⟩ : ∃ n, n = asks.length := ⟨_, rfl⟩
  rw [← hn] at hn7 ⊢
  have HN := hid hn
  have HQ := hid (fun W => rquorumLe W (n : Int))
  obtain ⟨Q, hQ⟩ : ∃ Q, Q = quoLe (n : Int) := ⟨_, rfl⟩
  rw [← hQ] at HQ ⊢
  clear hn hQ
  go_enter Try.func15, Try.ntmps15
  go_wp2
  go_loopw [5, 6] (fun c i wr => ∃ k m : Nat, k ≤ n ∧ m ≤ k ∧ i = .int .i64 k ∧ c = .int .i64 m ∧ Hid (m = cntLe now T (asks.take k)) ∧ Hid (Below w.heap.size w wr)) (fun _ i _ => n - (intOf i).toNat)
  case atStart => exact ⟨0, 0, by omega, by omega, rfl, rfl, rfl, Below.refl _ _⟩
  case round =>
    obtain ⟨k, m, hk, hm, rfl, rfl, HM, HB⟩ := hrel
    have HR := hid (H.out.below HB.out (Nat.le_refl _))
    have c0 := HR.out.blk.cell (i := 0) rfl
    rw [← HN.out] at c0
    have c1 := HR.out.blk.cell (i := 1) rfl
    by_cases hlt : k < n
    · have hlt' : (k : Int) < (n : Int) := by omega
      have hkx : Hid (k < asks.length) := (by have := HN.out; omega : k < asks.length)
      have k0 := HR.out.isCell (k := k) (by omega)
      have k1 := HR.out.askCell (k := k) (by omega)
      have h7' : (k : Int) < 7 := by omega
      have HX := hid (H.out.rng _ (getD_mem hkx.out))
      have HST := hid (cntLe_take (now := now) (trust := T) hkx.out)
      have HG := hid (askAt_get hkx.out)
      have hwc : wrap64 ((m : Int) + 1) = ((m + 1 : Nat) : Int) := wrap_cnt (by omega)
      by_cases h1 : asks.getD k 0 = -1
      · have hi : isAt asks k = false := by unfold isAt; rw [HG.out, h1]; rfl
        rw [if_neg (fun hh => hh.1 h1)] at HST
        rw [hi] at k0
        clear h1 hi HG HX k1
        go_wp2
        go_quiet (fail)
        go_wp2
        go_roundw
        case rel => exact ⟨k + 1, m, by omega, by omega, by go_num, rfl, by have := HST.out; have := HM.out; show _ = _; omega, below_dn HB.out _⟩
        case measure => simp [intOf]; omega
      · have hi : isAt asks k = true := by unfold isAt; rw [HG.out]; simpa using h1
        have ha : askAt asks k = asks.getD k 0 := by unfold askAt; rw [HG.out, if_neg h1]
        rw [hi] at k0
        rw [ha] at k1
        generalize asks.getD k 0 = X at *
        clear hi ha HG
        by_cases h2 : X ≤ now
        · have hw : wrap64 (now - X) = now - X := fresh_wrap HX.out.1 h2 HNOW.out h1
          have hd2 : decide (X ≤ now) = true := by simp [h2]
          by_cases h3 : now - X < T
          · rw [if_pos ⟨h1, h2, h3⟩] at HST
            have hd3 : decide (now - X < T) = true := by simp [h3]
            clear h1 h2 h3
            go_wp2
            go_quiet (fail)
            go_wp2
            go_roundw
            case rel => exact ⟨k + 1, m + 1, by omega, by omega, by go_num, rfl, by have := HST.out; have := HM.out; show _ = _; omega, below_dn HB.out _⟩
            case measure => simp [intOf]; omega
          · rw [if_neg (fun hh => h3 hh.2.2)] at HST
            have hd3 : decide (now - X < T) = false := by simp; omega
            clear h1 h2 h3
            go_wp2
            go_quiet (fail)
            go_wp2
            go_roundw
            case rel => exact ⟨k + 1, m, by omega, by omega, by go_num, rfl, by have := HST.out; have := HM.out; show _ = _; omega, below_dn HB.out _⟩
            case measure => simp [intOf]; omega
        · rw [if_neg (fun hh => h2 hh.2.1)] at HST
          have hd2 : decide (X ≤ now) = false := by simp; omega
          clear h1 h2
          go_wp2
          go_quiet (fail)
          go_wp2
          go_roundw
          case rel => exact ⟨k + 1, m, by omega, by omega, by go_num, rfl, by have := HST.out; have := HM.out; show _ = _; omega, below_dn HB.out _⟩
          case measure => simp [intOf]; omega
    · have hlt' : ¬ (k : Int) < (n : Int) := by omega
      have HE : Hid (m = cntLe now T asks) := by
        have h1 := HM.out
        have h2 := HN.out
        rw [List.take_of_length_le (by omega)] at h1
        exact h1
      go_wp2_with fail
      refine (HQ.out _).mono ?_
      rintro e w' ⟨rfl, rfl⟩
      go_wp2
      go_ret
      exact ⟨ret_bool (by rw [← HE.out]), HB.out⟩
end Go.Proofs.Ytmceffndnofgfaa
