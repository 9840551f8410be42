/-
  The document's Tick; append of ints.
-/
import Derived.Test.YtpbhboecpgdgaaaClkN
import Derived.Deep.RegionLaw
import Derived.Deep.AppendLies
namespace Go.Proofs.Ytpbhboecpgdgaaa
open Go.RowKit Go.Maps

theorem own_form' {w : World} {B e n : Nat} {v : Value} {xs : List Value} (h : w.ownsRow B e 1 v n xs) :
    ∃ eo cap, v = .slice eo n cap ∧ n ≤ cap ∧ (0 < n → ∃ g, eo = some ⟨g, 0, none⟩ ∧ B ≤ g ∧ g < w.heap.size ∧ ∀ j u, xs[j]? = some u → w.cell? ⟨g, j, none⟩ = some u) := by
  rcases h.2 with ⟨rfl, rfl⟩ | ⟨g, cap, cur, rfl, hbg, hg, hnc, _⟩
  · exact ⟨none, 0, rfl, Nat.le_refl _, fun h0 => by omega⟩
  · refine ⟨some ⟨g, 0, none⟩, cap, rfl, hnc, fun _ => ⟨g, rfl, hbg, (Array.getElem?_eq_some_iff.1 hg).1, fun j u hu => ?_⟩⟩
    have := h.cells (g := g) rfl j u hu
    simpa [Addr.add_lit] using this

theorem own_blk {w : World} {B n : Nat} {v : Value} {xs : List Int} (h : w.ownsRow B 3 1 v n (ints xs)) (hn : 0 < n) : ∃ g cap rest, v = .slice (some ⟨g, 0, none⟩) n cap ∧ Blk w g 3 (ints xs ++ rest) ∧ B ≤ g := by
  rcases h.2 with ⟨_, h0⟩ | ⟨g, cap, cur, rfl, hbg, hg, hnc, hcm, hcs, htake⟩
  · omega
  · refine ⟨g, cap, cur.toList.drop (ints xs).length, rfl, ?_, hbg⟩
    have he : ints xs ++ cur.toList.drop (ints xs).length = cur.toList := by
      have h1 : cur.toList.take (n * 1) = ints xs := htake
      have h2 : (ints xs).length = n * 1 := h.1
      rw [h2, ← h1, List.take_append_drop]
    unfold Blk
    rw [he]
    exact hg
theorem ownI_made (w : World) (B : Nat) (hB : B ≤ w.heap.size) : (w.alloc (.cells #[] 3)).ownsRow B 3 1 (.slice (some ⟨w.heap.size, 0, none⟩) 0 0) 0 (ints []) :=
  ⟨rfl, .inr ⟨w.heap.size, 0, #[], rfl, hB, World.alloc_heap_new w _, Nat.le_refl _, Nat.zero_le _, rfl, rfl⟩⟩
theorem ints_one (xs : List Int) : ∀ u ∈ ints xs, u.oneCell' = true := by
  intro u hu
  obtain ⟨_, _, rfl⟩ := List.mem_map.1 hu
  rfl
theorem HeldInt.news {w : World} {b off : Nat} {xs : List Int} (h : HeldInt w (some ⟨b, off, none⟩) xs) : ∀ j u, (ints xs)[j]? = some u → w.cell? ((⟨b, off, none⟩ : Addr).add j) = some u := by
  intro j u hu
  have hj : j < xs.length := by
    have := (List.getElem?_eq_some_iff.1 hu).1
    simpa [ints] using this
  rcases h.2 with h0 | ⟨b', off', e, _, hc⟩
  · rw [h0] at hj; cases hj
  · cases e
    rw [Addr.add_lit, hc j hj]
    simp [ints, List.getElem?_eq_getElem hj] at hu
    subst hu
    simp [List.getD, List.getElem?_eq_getElem hj]
theorem Try.infoTk : (Try.prog.info? 33).map (fun i => (i.zero, i.size, i.bytes)) = some (some (.agg #[.int .i64 0, .slice none 0 0]), 2, 32) := by kernel_rfl

section
variable {w : World} {x nodes : Nat} {v : Value} {ts : List TickV}
theorem rtick_len (h : RfAt w x v nodes ts) (t : Int) (ao : Option Addr) (c : Nat) (on : List Int) (hb : ¬ (Right t ∧ on.length = nodes)) :
    Calls Try.prog 13 #[.pointer (some ⟨x, 0, none⟩), .int .i64 t, .slice ao on.length c] w fun e w' => e = .returned (.int .i64 1) ∧ w' = w := by
  have c0 := h.blk.cell (i := 0) rfl
  have HT := hid (right_any w t)
  clear h
  by_cases ht : Right t
  · rw [decide_eq_true ht] at HT
    have hne : ((on.length : Int) != (nodes : Int)) = true := by
      have : on.length ≠ nodes := fun e => hb ⟨ht, e⟩
      simp
      omega
    clear ht hb
    generalize on.length = n at *
    go_enter Try.func13, Try.ntmps13
    go_wp2_with fail
    refine HT.out.mono ?_
    rintro e w' ⟨rfl, rfl⟩
    go_wp2
    go_ret
    exact ⟨rfl, rfl⟩
  · rw [decide_eq_false ht] at HT
    clear ht hb
    generalize on.length = n at *
    go_enter Try.func13, Try.ntmps13
    go_wp2_with fail
    refine HT.out.mono ?_
    rintro e w' ⟨rfl, rfl⟩
    go_wp2
    go_ret
    exact ⟨rfl, rfl⟩

/-- There is room for a tick, as far as the first k clocks. -/
def RoomR (ts : List TickV) (t : Int) (on : List Int) (k : Nat) : Prop := S fT ts + t ≤ 1152921504606846976 ∧ ∀ j, j < k → S (fN j) ts + on.getD j 0 ≤ 1152921504606846976
instance (ts : List TickV) (t : Int) (on : List Int) (k : Nat) : Decidable (RoomR ts t on k) := by unfold RoomR; infer_instance
theorem RoomR.succ {ts : List TickV} {t : Int} {on : List Int} {k : Nat} : RoomR ts t on (k + 1) ↔ RoomR ts t on k ∧ S (fN k) ts + on.getD k 0 ≤ 1152921504606846976 := by
  unfold RoomR
  constructor
  · rintro ⟨h1, h2⟩
    exact ⟨⟨h1, fun j hj => h2 j (by omega)⟩, h2 k (by omega)⟩
  · rintro ⟨⟨h1, h2⟩, h3⟩
    refine ⟨h1, fun j hj => ?_⟩
    by_cases e : j = k
    · subst e; exact h3
    · exact h2 j (by omega)
theorem wrap_from {a : Int} (h : 0 ≤ a ∧ a ≤ 1152921504606846976) : wrap64 (1152921504606846976 - a) = 1152921504606846976 - a := wrapS (by omega) (by omega)

/-- Behind the copy of a tick's clocks. -/
theorem rt_copy {W W1 w2 : World} {k : Nat} (h : RfAt W x v nodes ts) (hT : Turns (fun _ => False) W W1) (hg : W1.grownBy w2 (some k)) (hk : W.heap.size ≤ k) : RfAt w2 x v nodes ts ∧ Turns (fun _ => False) W w2 := by
  have ht : Turns (fun _ => False) W w2 := hT.grown hg (fun i e => .inr (by cases e; exact hk))
  exact ⟨h.turned ht (fun h => h) (fun _ _ h => h) (fun _ _ _ _ h => h), ht⟩
theorem turns_from {F : Nat → Prop} {w wr W : World} (hq : ∃ q, wr = w.drewN q) (h : Turns F wr W) : Turns F w W := by
  obtain ⟨q, rfl⟩ := hq
  exact ⟨h.os, h.tape, h.output, h.size, h.block⟩
theorem rt_blk {w2 W3 w3 : World} (h : RfAt w2 x v nodes ts) (hT : Turns (fun _ => False) w2 W3) (hgrow : W3.grownBy w3 v.ownBlock) : Blk w3 x 51 [.int .i64 (nodes : Int), v] :=
  ((hT.mono (G := fun i => v.ownBlock = some i) (fun _ h => h.elim)).grown hgrow (fun _ h => .inl h)).blk h.blk (fun e => h.blk.not_row (by decide) h.row e.symm)
/-- Behind the whole Tick. -/
theorem rt_end {W w2 W3 w3 : World} {t : Int} {on : List Int} {g2 cap2 : Nat} {v' : Value} (h : RfAt w2 x v nodes ts) (h12 : Turns (fun _ => False) W w2) (ht : Right t) (hon : ∀ a ∈ on, Right a) (hn : on.length = nodes) (hroom : RoomR ts t on nodes)
    (hg2 : w2.ownsRow 0 3 1 (.slice (some ⟨g2, 0, none⟩) nodes cap2) nodes (ints on)) (hT : Turns (fun _ => False) w2 W3) (hgrow : W3.grownBy w3 v.ownBlock) (hown : w3.ownsRow 0 33 2 v' (ts.length + 1) (flatT ts ++ [.int .i64 t, .slice (some ⟨g2, 0, none⟩) nodes cap2])) :
    RfAt (w3.setCell ⟨x, 1, none⟩ v') x v' nodes (ts ++ [⟨t, some ⟨g2, 0, none⟩, cap2, on⟩]) ∧ Turns (fun i => i = x ∨ v.ownBlock = some i) W (w3.setCell ⟨x, 1, none⟩ v') := by
  have ht3 : Turns (fun i => v.ownBlock = some i) w2 w3 := (hT.mono (fun _ h => h.elim)).grown hgrow (fun _ h => .inl h)
  have hx2 := h.blk
  have hxv : v.ownBlock ≠ some x := fun e => h.blk.not_row (by decide) h.row e.symm
  have hx3 : Blk w3 x 51 [.int .i64 (nodes : Int), v] := ht3.blk hx2 hxv
  have hkeep : ∀ b cs, Blk w2 b 3 cs → Blk (w3.setCell ⟨x, 1, none⟩ v') b 3 cs := by
    intro b cs hb
    have hb3 : Blk w3 b 3 cs := ht3.blk hb (fun e => hb.not_row (by decide) h.row e.symm)
    refine hb3.other (fun e => ?_) _ _
    subst e
    have e1 : w3.heap[b]? = some (.cells cs.toArray 3 (0, 0)) := hb3
    have e2 : w3.heap[b]? = some (.cells _ 51 (0, 0)) := hx3
    rw [e1] at e2
    simp at e2
  obtain ⟨g2', cap2', rest, hv2, hb2, _⟩ := own_blk hg2 (by have := h.few; omega)
  have hf := h.few
  cases hv2
  refine ⟨⟨hx3.set 1 v', ?_, fun t' ht' => ?_, ?_, fun k hk => ?_, h.few⟩, ?_⟩
  · have hts : Turns (fun i => i = x) w3 (w3.setCell ⟨x, 1, none⟩ v') := (Turns.refl (fun i => i = x) w3).setCell (p := ⟨x, 1, none⟩) (.inl rfl) _
    have hr := hts.row hown (fun i hi e => by
      subst e
      exact hx3.not_row (by decide) hown hi.symm)
    rw [flatT_snoc, List.length_append]
    simpa [TickV.sl, hn] using hr
  · rcases List.mem_append.1 ht' with h1 | h1
    · exact (h.on t' h1).keep (fun b cs hb _ => hkeep b cs hb)
    · simp at h1
      subst h1
      exact ⟨hn, ht, hon, ⟨_, rest, rfl, hkeep _ _ hb2⟩⟩
  · rw [S_snoc]
    exact hroom.1
  · rw [S_snoc]
    exact hroom.2 k hk
  · have a1 : Turns (fun i => i = x ∨ v.ownBlock = some i) W w2 := h12.mono (fun _ h => h.elim)
    have a2 : Turns (fun i => i = x ∨ v.ownBlock = some i) W w3 := a1.trans ht3 (fun i hi => .inl (.inr hi))
    exact a2.setCell (.inl (.inl rfl)) _

/-- What a Tick that goes through leaves. -/
def RtOk (w w' : World) (x : Nat) (v : Value) (nodes : Nat) (ts : List TickV) (t : Int) (on : List Int) : Prop :=
  ∃ (v' : Value) (b cp : Nat), RfAt w' x v' nodes (ts ++ [⟨t, some ⟨b, 0, none⟩, cp, on⟩]) ∧ Turns (fun i => i = x ∨ v.ownBlock = some i) w w' ∧ (∀ i, v'.ownBlock = some i → v.ownBlock = some i ∨ w.heap.size ≤ i) ∧ w.heap.size ≤ b

set_option maxRecDepth 100000 in
set_option maxHeartbeats 2000000 in
theorem rtick_main (h : RfAt w x v nodes ts) (hl : ts.length ≤ 4398046511103) (t : Int) (ao : Option Addr) (c : Nat) (on : List Int) (ho : HeldInt w ao on) (ht : Right t) (hn : on.length = nodes) :
    Calls Try.prog 13 #[.pointer (some ⟨x, 0, none⟩), .int .i64 t, .slice ao on.length c] w fun e w' => ∃ z : Int, e = .returned (.int .i64 z) ∧
      ((z = 1 ∧ (¬ ∀ a ∈ on, Right a) ∧ w' = w) ∨ (z = 2 ∧ (∀ a ∈ on, Right a) ∧ ¬ RoomR ts t on nodes ∧ ∃ q, w' = w.drewN q) ∨
       (z = 0 ∧ (∀ a ∈ on, Right a) ∧ RoomR ts t on nodes ∧ RtOk w w' x v nodes ts t on)) := by
  have c0 := h.blk.cell (i := 0) rfl
  have HT := hid (right_any w t)
  rw [decide_eq_true ht] at HT
  have hne : ((nodes : Int) != (nodes : Int)) = false := by simp
  have H := hid h
  have HO := hid ho
  have HR := hid ht
  have HN := hid hn
  have HL := hid hl
  have hn7 : nodes ≤ 7 := h.few.2
  have hn1 : 1 ≤ nodes := h.few.1
  rw [hn]
  clear h ho ht hn hl
  obtain ⟨b, off, rfl, hc⟩ := HO.out.cellAt (k := 0) (by have := HN.out; omega)
  have HC := hid hc
  clear hc
  go_enter Try.func13, Try.ntmps13
  go_wp2_with fail
  refine HT.out.mono ?_
  rintro e w' ⟨rfl, rfl⟩
  go_wp2
  go_loop [7] (fun i => ∃ k : Nat, k ≤ nodes ∧ i = .int .i64 k ∧ Hid (∀ a ∈ on.take k, Right a)) (fun i => nodes - (intOf i).toNat)
  case atStart => exact ⟨0, by omega, rfl, fun x hx => (by simp at hx)⟩
  case round =>
    obtain ⟨k, hk, rfl, HA⟩ := hrel
    by_cases hlt : k < nodes
    · have hlt' : (k : Int) < (nodes : Int) := by omega
      have hkx : Hid (k < on.length) := (by have := HN.out; omega : k < on.length)
      have hcell := HC.out k hkx.out
      have HNX := hid (fun hh => take_succ_all (p := Right) hkx.out HA.out hh)
      have HBD : Hid (¬ Right (on.getD k 0) → ¬ ∀ a ∈ on, Right a) := (fun hh hka => hh (hka _ (getD_mem hkx.out)) : ¬ Right (on.getD k 0) → ¬ ∀ a ∈ on, Right a)
      generalize on.getD k 0 = X at *
      have HW := hid (right_any w' X)
      by_cases hr : Right X
      · rw [decide_eq_true hr] at HW
        have HRX := hid hr
        clear hr
        go_wp2_with fail
        refine HW.out.mono ?_
        rintro e w' ⟨rfl, rfl⟩
        go_wp2
        go_round
        case rel => exact ⟨k + 1, by omega, by go_num, HNX.out HRX.out⟩
        case measure => simp [intOf]; omega
      · rw [decide_eq_false hr] at HW
        have HRX := hid hr
        clear hr
        go_wp2_with fail
        refine HW.out.mono ?_
        rintro e w' ⟨rfl, rfl⟩
        go_wp2
        go_ret
        exact ⟨1, rfl, .inl ⟨rfl, HBD.out HRX.out, rfl⟩⟩
    · have hlt' : ¬ (k : Int) < (nodes : Int) := by omega
      have HAL : Hid (∀ a ∈ on, Right a) := by
        have h5 := HA.out
        rw [List.take_of_length_le (by have := HN.out; omega)] at h5
        exact h5
      clear HA
      have HTM := hid (rtime_any H.out (by have := HL.out; omega))
      have hwT : wrap64 (1152921504606846976 - S fT ts) = 1152921504606846976 - S fT ts := wrap_from ⟨S_nonneg H.out.posT, H.out.tim⟩
      go_wp2_with fail
      refine HTM.out.mono ?_
      rintro e w' ⟨rfl, rfl⟩
      go_wp2_with fail
      have HF0 : Hid (decide (1152921504606846976 - S fT ts < t) = true ↔ ¬ RoomR ts t on 0) := by
        show _ ↔ _
        rw [decide_eq_true_iff]
        unfold RoomR
        constructor
        · intro h1 h2
          have := h2.1
          omega
        · intro h1
          by_cases h2 : 1152921504606846976 - S fT ts < t
          · exact h2
          · exact absurd ⟨by omega, fun j hj => absurd hj (Nat.not_lt_zero _)⟩ h1
      clear hwT
      go_loopg [8, 9] nodes (fun gg s8 s9 wr => ∃ (k : Nat) (F : Bool), k ≤ nodes ∧ nodes - k ≤ gg ∧ s9 = .int .i64 k ∧ s8 = .bool F ∧ Hid (F = true ↔ ¬ RoomR ts t on k) ∧ Hid (∃ q, wr = w'.drewN q))
      case atStart => exact ⟨0, _, by omega, by omega, rfl, rfl, HF0, ⟨0, rfl⟩⟩
      case round =>
        obtain ⟨k2, F, hk2, hgg, rfl, rfl, HF, HQ⟩ := hrel
        have HQ2 : Hid (∀ nq, ∃ q, wr.drewN nq = w'.drewN q) := by
          obtain ⟨q, hq⟩ := HQ.out
          intro nq
          rw [hq]
          exact ⟨q + nq, drewN_add _ _ _⟩
        have HRF : Hid (∀ nq, RfAt (wr.drewN nq) x v nodes ts) := by
          intro nq
          obtain ⟨q, hq⟩ := HQ2.out nq
          rw [hq]
          exact H.out.drewN q
        have HOW : Hid (∀ nq, HeldInt (wr.drewN nq) (some ⟨b, off, none⟩) on) := by
          intro nq
          obtain ⟨q, hq⟩ := HQ2.out nq
          rw [hq]
          exact ⟨HO.out.1, HO.out.2⟩
        by_cases hlt2 : k2 < nodes
        · have hlt2' : (k2 : Int) < (nodes : Int) := by omega
          have hkx : Hid (k2 < on.length) := (by have := HN.out; omega : k2 < on.length)
          have HSU := hid (RoomR.succ (ts := ts) (t := t) (on := on) (k := k2))
          cases F with
          | true =>
            have HF1 : Hid (true = true ↔ ¬ RoomR ts t on (k2 + 1)) := by
              show _ ↔ _
              exact ⟨fun _ hh => HF.out.1 rfl (HSU.out.1 hh).1, fun _ => rfl⟩
            have HF2 : Hid (¬ RoomR ts t on (k2 + 1)) := HF1.out.1 rfl
            clear HF1
            go_upto_region 12 with fail
            go_quiet (fail)
            go_wp2_with fail
            go_roundg (nodes - (k2 + 1))
            case measure => omega
            case rel => exact ⟨k2 + 1, true, by omega, by omega, by go_num, rfl, ⟨fun _ => HF2.out, fun _ => rfl⟩, HQ2.out _⟩
          | false =>
            have hcell : wr.cell? ⟨b, off + k2, none⟩ = some (.int .i64 (on.getD k2 0)) := by
              obtain ⟨q, hq⟩ := HQ.out
              rw [hq]
              exact HC.out k2 hkx.out
            have HNW := hid (fun nq => rnow_any (HRF.out nq) (by have := HL.out; omega) (k2 : Int))
            have hif : (if 0 ≤ (k2 : Int) ∧ (k2 : Int) < (nodes : Int) then S (fN (k2 : Int).toNat) ts else 0) = S (fN k2) ts := by rw [if_pos (by omega), Int.toNat_natCast]
            rw [hif] at HNW
            clear hif
            have hwT2 : wrap64 (1152921504606846976 - S (fN k2) ts) = 1152921504606846976 - S (fN k2) ts := wrap_from ⟨S_nonneg (H.out.pos hlt2), H.out.now k2 hlt2⟩
            have HF1 : Hid (decide (1152921504606846976 - S (fN k2) ts < on.getD k2 0) = true ↔ ¬ RoomR ts t on (k2 + 1)) := by
              show _ ↔ _
              rw [decide_eq_true_iff, HSU.out]
              have h5 : RoomR ts t on k2 := by
                by_cases h6 : RoomR ts t on k2
                · exact h6
                · exact absurd (HF.out.2 h6) (by simp)
              constructor
              · rintro h1 ⟨_, h2⟩
                omega
              · intro h1
                by_cases h2 : 1152921504606846976 - S (fN k2) ts < on.getD k2 0
                · exact h2
                · exact absurd ⟨h5, by omega⟩ h1
            generalize on.getD k2 0 = X at *
            generalize S (fN k2) ts = Y at *
            go_upto_region 12 with fail
            go_quiet (first | (go_at_call 17; refine Calls.quiet_of_same (HNW.out _)))
            go_wp2_with fail
            go_roundg (nodes - (k2 + 1))
            case measure => omega
            case rel => exact ⟨k2 + 1, _, by omega, by omega, by go_num, rfl, HF1, HQ2.out _⟩
        · have hlt2' : ¬ (k2 : Int) < (nodes : Int) := by omega
          have hk2n : Hid (k2 = nodes) := (by omega : k2 = nodes)
          cases F with
          | true =>
            have HNR : Hid (¬ RoomR ts t on nodes) := hk2n.out ▸ HF.out.1 rfl
            go_wp2
            go_ret
            exact ⟨2, rfl, .inr (.inl ⟨rfl, HAL.out, HNR.out, HQ.out⟩)⟩
          | false =>
            have HRM : Hid (RoomR ts t on nodes) := by
              rw [← hk2n.out]
              by_cases h6 : RoomR ts t on k2
              · exact h6
              · exact absurd (HF.out.2 h6) (by simp)
            have HRW : Hid (RfAt wr x v nodes ts) := by
              obtain ⟨q, hq⟩ := HQ.out
              rw [hq]
              exact H.out.drewN q
            have hxc : wr.cell? ⟨x, 1, none⟩ = some v := (HRF.out 0).blk.cell (i := 1) rfl
            have hxl := (HRF.out 0).blk.lt
            have hxl' : x < wr.heap.size := hxl
            obtain ⟨iI, hj, hy0, hy1, hy2⟩ := info_parts Try.infoInt
            obtain ⟨iT, hk, hu0, hu1, hu2⟩ := info_parts Try.infoTk
            clear hxl
            go_upto_region 15 with fail
            have HNW0 : Hid (∀ j u, (ints on)[j]? = some u → (wr.alloc (.cells #[] 3)).cell? ((⟨b, off, none⟩ : Addr).add j) = some u) := ((HOW.out 0).below ((Below.refl _ _).alloc (Nat.le_refl _) _)).news
            have hlts : ts.length ≤ 4398046511103 := HL.out
            have hxa : (wr.alloc (.cells #[] 3)).cell? ⟨x, 1, none⟩ = some v := (HRW.out.blk.alloc _).cell (i := 1) rfl
            go_region_law ((first
              | (refine step_append_lies _ (by rfl) _ _ 31 (by rfl) 0 3 iI (.int .i64 0) 1 8 Try.underlying31 hj hy0 hy1 hy2 (by rfl) (by decide) (.slice (some ⟨wr.heap.size, 0, none⟩) 0 0) 0 [] (by rfl) (by exact ownI_made wr 0 (Nat.zero_le _)) ⟨b, off, none⟩ nodes c (ints on) (by rfl) (by rw [ints_len, HN.out]; omega) (by exact HNW0.out) (ints_one on) (by omega) (by unfold maxLen; omega) (by omega) (Nat.zero_le _) (wr.heap.size + 1) (by simp) ?_; intro g2 cap2 w2 hown2 hgrow2 hga2 _; have HGA2 : Hid (wr.heap.size ≤ g2 ∧ wr.heap.size ≤ w2.heap.size) := ⟨by rcases hga2 with h | h; (cases h; exact Nat.le_refl _); omega, by have := hgrow2.size; simp at this; omega⟩; clear hga2; have HOWN2 : Hid (w2.ownsRow 0 3 1 (.slice (some ⟨g2, 0, none⟩) nodes cap2) nodes (ints on)) := (by simpa using hown2 : w2.ownsRow 0 3 1 (.slice (some ⟨g2, 0, none⟩) nodes cap2) nodes (ints on)); have HR2 := hid (rt_copy HRW.out ((Turns.refl (fun _ => False) wr).alloc (.cells #[] 3)).drew hgrow2 (Nat.le_refl _)); have hx2 := HR2.out.1.blk.cell (i := 1) rfl; have hx2a := (HR2.out.1.blk.alloc (.cells #[.int .i64 t, .slice (some ⟨g2, 0, none⟩) nodes cap2] 33)).cell (i := 1) rfl; clear hown2 hgrow2)
              | (refine step_append_lies _ (by rfl) _ _ 22 (by rfl) 0 33 iT (.agg #[.int .i64 0, .slice none 0 0]) 2 32 Try.underlying22 hk hu0 hu1 hu2 (by rfl) (by decide) v ts.length (flatT ts) (by rfl) (by exact HR2.out.1.row.alloc _) ⟨w2.heap.size, 0, none⟩ 1 1 [.int .i64 t, .slice (some ⟨g2, 0, none⟩) nodes cap2] (by rfl) (by rfl) (by exact World.news_of_block (World.alloc_heap_new w2 (.cells #[.int .i64 t, .slice (some ⟨g2, 0, none⟩) nodes cap2] 33))) (by simp [Value.oneCell']) (by omega) (by unfold maxLen; omega) (by omega) (Nat.zero_le _) (w2.heap.size + 1) (by simp) ?_; intro g3 cap3 w3 hown3 hgrow3 hga3 _; have HGA3 := hid hga3; clear hga3; have HEND := hid (rt_end HR2.out.1 HR2.out.2 HR.out HAL.out HN.out HRM.out HOWN2.out ((Turns.refl (fun _ => False) w2).alloc (.cells #[.int .i64 t, .slice (some ⟨g2, 0, none⟩) nodes cap2] 33)) hgrow3 hown3); have hb3 := rt_blk HR2.out.1 ((Turns.refl (fun _ => False) w2).alloc (.cells #[.int .i64 t, .slice (some ⟨g2, 0, none⟩) nodes cap2] 33)) hgrow3; have y1 := hb3.cell (i := 1) rfl; have y2 := hb3.frozen 1; clear hb3 hown3 hgrow3)))
            all_goals
              go_wp2
              go_ret
              refine ⟨0, rfl, .inr (.inr ⟨rfl, HAL.out, HRM.out, ?_⟩)⟩
              have hsz : w'.heap.size = wr.heap.size := by
                obtain ⟨q, hq⟩ := HQ.out
                rw [hq]
                rfl
              refine ⟨_, _, _, HEND.out.1, turns_from HQ.out HEND.out.2, fun i hi => ?_, by rw [hsz]; exact HGA2.out.1⟩
              cases hi
              rcases HGA3.out with h | h
              · exact .inl h
              · right
                have h6 := HGA2.out.2
                show _ ≤ g3
                omega
end
end Go.Proofs.Ytpbhboecpgdgaaa
