/-
  The document's clocks (pannierref05) in memory: New, Now, Time, Keeps.
-/
import Derived.Test.YtpbhboecpgdgaaaClkI
import Derived.Test.YtpbhboecpgdgaaaApps
import Derived.Deep.CutRange
import Derived.Deep.LoopGhost
import Derived.Deep.QuietTactic
import Derived.BigQuiet
namespace Go.Proofs.Ytpbhboecpgdgaaa
open Go.RowKit Go.Maps

/-- A sum over ticks. -/
def S (f : TickV → Int) (ts : List TickV) : Int := (ts.map f).sum
theorem S_nil (f : TickV → Int) : S f [] = 0 := rfl
theorem S_snoc (f : TickV → Int) (ts : List TickV) (t : TickV) : S f (ts ++ [t]) = S f ts + f t := by simp [S]
theorem S_take (f : TickV → Int) {ts : List TickV} {j : Nat} (h : j < ts.length) : S f (ts.take (j + 1)) = S f (ts.take j) + f ts[j] := by
  rw [List.take_succ_eq_append_getElem h, S_snoc]
theorem S_nonneg {f : TickV → Int} : ∀ {ts : List TickV}, (∀ t ∈ ts, 0 ≤ f t) → 0 ≤ S f ts
  | [], _ => Int.le_refl _
  | t :: ts, h => by
    have h1 := h t (by simp)
    have h2 := S_nonneg (f := f) (ts := ts) (fun t' ht => h t' (by simp [ht]))
    simp [S] at *
    omega
theorem S_le {f : TickV → Int} {ts : List TickV} (h : ∀ t ∈ ts, 0 ≤ f t) (j : Nat) : 0 ≤ S f (ts.take j) ∧ S f (ts.take j) ≤ S f ts := by
  refine ⟨S_nonneg (fun t ht => h t (List.mem_of_mem_take ht)), ?_⟩
  have h1 : S f ts = S f (ts.take j) + S f (ts.drop j) := by
    unfold S
    rw [← List.sum_append, ← List.map_append, List.take_append_drop]
  have h2 := S_nonneg (f := f) (ts := ts.drop j) (fun t ht => h t (List.mem_of_mem_drop ht))
  omega
def fT (t : TickV) : Int := t.time
def fN (k : Nat) (t : TickV) : Int := t.on.getD k 0

def flatT (ts : List TickV) : List Value := ts.flatMap fun t => [.int .i64 t.time, t.sl]
theorem flatT_snoc (ts : List TickV) (t : TickV) : flatT (ts ++ [t]) = flatT ts ++ [.int .i64 t.time, t.sl] := by simp [flatT]
theorem flatT_len : ∀ ts : List TickV, (flatT ts).length = ts.length * 2
  | [] => rfl
  | t :: ts => by
    have := flatT_len ts
    simp [flatT] at *
    omega
theorem flatT_get : ∀ {ts : List TickV} {j : Nat} (h : j < ts.length), (flatT ts)[j * 2]? = some (.int .i64 ts[j].time) ∧ (flatT ts)[j * 2 + 1]? = some ts[j].sl
  | t :: ts, 0, _ => by simp [flatT]
  | t :: ts, j + 1, h => by
    have hj : j < ts.length := by simpa using h
    have := flatT_get hj
    have e1 : (j + 1) * 2 = j * 2 + 1 + 1 := by omega
    rw [e1]
    simpa [flatT] using this

/-- One tick in memory: its clocks lie in a block of their own. -/
structure TkOk (w : World) (nodes : Nat) (t : TickV) : Prop where
  len : t.on.length = nodes
  tim : Right t.time
  all : ∀ a ∈ t.on, Right a
  blk : ∃ b rest, t.ao = some ⟨b, 0, none⟩ ∧ Blk w b 3 (ints t.on ++ rest)
/-- The document's clocks in memory: the block x, the slice v of ticks. -/
structure RfAt (w : World) (x : Nat) (v : Value) (nodes : Nat) (ts : List TickV) : Prop where
  blk : Blk w x 51 [.int .i64 (nodes : Int), v]
  row : w.ownsRow 0 33 2 v ts.length (flatT ts)
  on : ∀ t ∈ ts, TkOk w nodes t
  tim : S fT ts ≤ 1152921504606846976
  now : ∀ k, k < nodes → S (fN k) ts ≤ 1152921504606846976
  few : 1 ≤ nodes ∧ nodes ≤ 7
theorem TkOk.held {w : World} {nodes : Nat} {t : TickV} (h : TkOk w nodes t) : HeldInt w t.ao t.on := by
  obtain ⟨b, rest, hb, hr⟩ := h.blk
  refine ⟨fun x hx => by have := h.all x hx; unfold Right at this; omega, .inr ⟨b, 0, hb, hr.lt, fun j hj => hr.cell ?_⟩⟩
  rw [Nat.zero_add, List.getElem?_append_left (by rw [ints_len]; exact hj)]
  simp [ints, List.getD, List.getElem?_eq_getElem hj]
theorem TkOk.keep {w w' : World} {nodes : Nat} {t : TickV} (h : TkOk w nodes t) (hk : ∀ b cs, Blk w b 3 cs → t.ao = some ⟨b, 0, none⟩ → Blk w' b 3 cs) : TkOk w' nodes t :=
  ⟨h.len, h.tim, h.all, by obtain ⟨b, rest, hb, hr⟩ := h.blk; exact ⟨b, rest, hb, hk _ _ hr hb⟩⟩
section
variable {w w' : World} {x nodes : Nat} {v : Value} {ts : List TickV}
theorem RfAt.pos {k : Nat} (h : RfAt w x v nodes ts) (hk : k < nodes) : ∀ t ∈ ts, 0 ≤ fN k t := by
  intro t ht
  have h1 := h.on t ht
  exact (h1.all _ (getD_mem (by rw [h1.len]; exact hk))).1
theorem RfAt.posT (h : RfAt w x v nodes ts) : ∀ t ∈ ts, 0 ≤ fT t := fun t ht => (h.on t ht).tim.1
theorem RfAt.turned {F : Nat → Prop} (h : RfAt w x v nodes ts) (ht : Turns F w w') (hx : ¬ F x) (hv : ∀ i, v.ownBlock = some i → ¬ F i) (hon : ∀ t ∈ ts, ∀ b, t.ao = some ⟨b, 0, none⟩ → ¬ F b) : RfAt w' x v nodes ts :=
  ⟨ht.blk h.blk hx, ht.row h.row hv, fun t htm => (h.on t htm).keep (fun b _ hb e => ht.blk hb (hon t htm b e)), h.tim, h.now, h.few⟩
theorem RfAt.below {B : Nat} (h : RfAt w x v nodes ts) (hb : Below B w w') (hB : w.heap.size ≤ B) : RfAt w' x v nodes ts :=
  h.turned (F := fun _ => False) (Turns.of_below hb hB) (fun h => h) (fun _ _ h => h) (fun _ _ _ _ h => h)
theorem RfAt.drewN (h : RfAt w x v nodes ts) (q : Nat) : RfAt (w.drewN q) x v nodes ts := ⟨h.blk, h.row, fun t ht => (h.on t ht).keep (fun _ _ hb _ => hb), h.tim, h.now, h.few⟩
theorem RfAt.form (h : RfAt w x v nodes ts) : ∃ eo cap, v = .slice eo ts.length cap ∧ (0 < ts.length → ∃ g, eo = some ⟨g, 0, none⟩ ∧ ∀ j (hj : j < ts.length), w.cell? ⟨g, j * 2, none⟩ = some (.int .i64 ts[j].time) ∧ w.cell? ⟨g, j * 2 + 1, none⟩ = some (.slice ts[j].ao ts[j].on.length ts[j].cap)) := by
  rcases h.row.2 with ⟨h1, h2⟩ | ⟨g, cap, cur, h1, _⟩
  · exact ⟨none, 0, by rw [h1, h2], fun h0 => by omega⟩
  · refine ⟨some ⟨g, 0, none⟩, cap, h1, fun _ => ⟨g, rfl, fun j hj => ?_⟩⟩
    obtain ⟨a, b⟩ := flatT_get hj
    have hob : v.ownBlock = some g := by rw [h1]; rfl
    have c1 := h.row.cells (g := g) hob _ _ a
    have c2 := h.row.cells (g := g) hob _ _ b
    exact ⟨by simpa [Addr.add_lit] using c1, by simpa [Addr.add_lit, TickV.sl] using c2⟩
end

theorem right_any (w : World) (x : Int) : Calls Try.prog 30 #[.int .i64 x] w fun e w' => e = .returned (.bool (decide (Right x))) ∧ w' = w := by
  by_cases h0 : 0 ≤ x
  · by_cases h1 : x ≤ 1048576
    · go_enter Try.func30, Try.ntmps30
      go_wp2
      go_ret
      exact ⟨ret_bool (by simp [Right, h0, h1]), rfl⟩
    · go_enter Try.func30, Try.ntmps30
      go_wp2
      go_ret
      exact ⟨ret_bool (decide_eq_false (fun h => by unfold Right at h; omega)).symm, rfl⟩
  · go_enter Try.func30, Try.ntmps30
    go_wp2
    go_ret
    exact ⟨ret_bool (decide_eq_false (fun h => by unfold Right at h; omega)).symm, rfl⟩
theorem rnew_bad (w : World) (x : Int) (h : x < 1 ∨ 7 < x) : Calls Try.prog 9 #[.int .i64 x] w fun e w' => e = .returned (.tuple #[.pointer none, .int .i64 1]) ∧ w' = w := by
  by_cases h0 : x < 1
  · go_enter Try.func9, Try.ntmps9
    go_wp2
    go_ret2
    exact ⟨rfl, rfl⟩
  · have h1 : 7 < x := by omega
    go_enter Try.func9, Try.ntmps9
    go_wp2
    go_ret2
    exact ⟨rfl, rfl⟩
theorem rnew_good (w : World) (n : Nat) (h : 1 ≤ n ∧ n ≤ 7) : Calls Try.prog 9 #[.int .i64 (n : Int)] w fun e w' => e = .returned (.tuple #[.pointer (some ⟨w.heap.size, 0, none⟩), .int .i64 0]) ∧ RfAt w' w.heap.size (.slice none 0 0) n [] ∧ Below w.heap.size w w' := by
  have h0 : ¬ (n : Int) < 1 := by omega
  have h1 : ¬ 7 < (n : Int) := by omega
  have HH := hid h
  clear h
  go_enter Try.func9, Try.ntmps9
  go_wp2
  go_ret2
  exact ⟨rfl, ⟨Blk.new w 51 [.int .i64 (n : Int), .slice none 0 0], World.ownsRow_nil _ _ _ _, fun t ht => (by cases ht), by decide, fun k _ => (by rw [S_nil]; decide), HH.out⟩, (Below.refl _ _).alloc (Nat.le_refl _) _⟩

section
variable {w : World} {x nodes : Nat} {v : Value} {ts : List TickV}
set_option maxRecDepth 100000 in
theorem rtime_any (h : RfAt w x v nodes ts) (hl : ts.length ≤ 4398046511104) : Calls Try.prog 19 #[.pointer (some ⟨x, 0, none⟩)] w fun e w' => e = .returned (.int .i64 (S fT ts)) ∧ w' = w := by
  obtain ⟨eo, cap, rfl, hcl⟩ := h.form
  have c1 := h.blk.cell (i := 1) rfl
  have H := hid h
  have HCL := hid hcl
  obtain ⟨n, hn⟩ : ∃ n, n = ts.length := ⟨_, rfl⟩
  rw [← hn] at c1 hl
  have HN := hid hn
  clear h hcl hn
  go_enter Try.func19, Try.ntmps19
  go_wp2
  go_loop [3, 4] (fun a i => ∃ j : Nat, j ≤ n ∧ i = .int .i64 j ∧ a = .int .i64 (S fT (ts.take j))) (fun _ i => n - (intOf i).toNat)
  case atStart => exact ⟨0, by omega, rfl, rfl⟩
  case round =>
    obtain ⟨j, hj, rfl, rfl⟩ := hrel
    by_cases hlt : j < n
    · have hlt' : (j : Int) < (n : Int) := by omega
      have hjt : Hid (j < ts.length) := (HN.out ▸ hlt : j < ts.length)
      obtain ⟨g, rfl, hcells⟩ := HCL.out (by have := hjt.out; omega)
      obtain ⟨d0, _⟩ := hcells j hjt.out
      clear hcells
      have HS := hid (S_take fT hjt.out)
      have HB := hid (S_le H.out.posT (j + 1))
      rw [HS.out] at HB
      have hw : wrap64 (S fT (ts.take j) + fT (ts[j]'hjt.out)) = S fT (ts.take j) + fT (ts[j]'hjt.out) := by
        have h1 := HB.out
        have h2 := H.out.tim
        exact wrapS (by omega) (by omega)
      rw [show (ts[j]'hjt.out).time = fT (ts[j]'hjt.out) from rfl] at d0
      generalize fT (ts[j]'hjt.out) = X at *
      generalize S fT (ts.take j) = Y at *
      go_wp2
      go_round
      case rel => exact ⟨j + 1, by omega, by go_num, by rw [HS.out, hw]⟩
      case measure => simp [intOf]; omega
    · have hlt' : ¬ (j : Int) < (n : Int) := by omega
      have hj' : Hid (j = ts.length) := (by have := HN.out; omega : j = ts.length)
      go_wp2
      go_ret
      refine ⟨ret_int ?_, rfl⟩
      rw [hj'.out, List.take_length]

set_option maxRecDepth 100000 in
theorem rnow_any (h : RfAt w x v nodes ts) (hl : ts.length ≤ 4398046511104) (κ : Int) : Calls Try.prog 17 #[.pointer (some ⟨x, 0, none⟩), .int .i64 κ] w fun e w' => e = .returned (.int .i64 (if 0 ≤ κ ∧ κ < nodes then S (fN κ.toNat) ts else 0)) ∧ w' = w := by
  obtain ⟨eo, cap, rfl, hcl⟩ := h.form
  have c0 := h.blk.cell (i := 0) rfl
  have c1 := h.blk.cell (i := 1) rfl
  by_cases hk0 : κ < 0
  · rw [if_neg (by omega)]
    clear h hcl
    generalize ts.length = n at *
    go_enter Try.func17, Try.ntmps17
    go_wp2
    go_ret
    exact ⟨rfl, rfl⟩
  by_cases hk1 : (nodes : Int) ≤ κ
  · rw [if_neg (by omega)]
    clear h hcl
    generalize ts.length = n at *
    go_enter Try.func17, Try.ntmps17
    go_wp2
    go_ret
    exact ⟨rfl, rfl⟩
  obtain ⟨k, rfl⟩ : ∃ k : Nat, κ = (k : Int) := ⟨κ.toNat, by omega⟩
  rw [if_pos (by omega), Int.toNat_natCast]
  have hkn : k < nodes := by omega
  have hki : (k : Int) < (nodes : Int) := by omega
  have H := hid h
  have HCL := hid hcl
  obtain ⟨n, hn⟩ : ∃ n, n = ts.length := ⟨_, rfl⟩
  rw [← hn] at c1 hl
  have HN := hid hn
  clear h hcl hn
  go_enter Try.func17, Try.ntmps17
  go_wp2
  go_loop [5, 6] (fun a i => ∃ j : Nat, j ≤ n ∧ i = .int .i64 j ∧ a = .int .i64 (S (fN k) (ts.take j))) (fun _ i => n - (intOf i).toNat)
  case atStart => exact ⟨0, by omega, rfl, rfl⟩
  case round =>
    obtain ⟨j, hj, rfl, rfl⟩ := hrel
    by_cases hlt : j < n
    · have hlt' : (j : Int) < (n : Int) := by omega
      have hjt : Hid (j < ts.length) := (HN.out ▸ hlt : j < ts.length)
      obtain ⟨g, rfl, hcells⟩ := HCL.out (by have := hjt.out; omega)
      obtain ⟨_, d1⟩ := hcells j hjt.out
      clear hcells
      have HOK := hid (H.out.on _ (List.getElem_mem hjt.out))
      obtain ⟨b, rest, hb, hr⟩ := HOK.out.blk
      have d2 : w.cell? ⟨b, k, none⟩ = some (.int .i64 (fN k (ts[j]'hjt.out))) := by
        refine hr.cell ?_
        have hk' : k < (ts[j]'hjt.out).on.length := by rw [HOK.out.len]; exact hkn
        rw [List.getElem?_append_left (by rw [ints_len]; exact hk')]
        simp [ints, fN, List.getD, List.getElem?_eq_getElem hk']
      rw [hb, HOK.out.len] at d1
      clear hr hb
      have HS := hid (S_take (fN k) hjt.out)
      have HB := hid (S_le (H.out.pos hkn) (j + 1))
      rw [HS.out] at HB
      have hw : wrap64 (S (fN k) (ts.take j) + fN k (ts[j]'hjt.out)) = S (fN k) (ts.take j) + fN k (ts[j]'hjt.out) := by
        have h1 := HB.out
        have h2 := H.out.now k hkn
        exact wrapS (by omega) (by omega)
      generalize fN k (ts[j]'hjt.out) = X at *
      generalize S (fN k) (ts.take j) = Y at *
      generalize (ts[j]'hjt.out).cap = cc at *
      go_wp2
      go_round
      case rel => exact ⟨j + 1, by omega, by go_num, by rw [HS.out, hw]⟩
      case measure => simp [intOf]; omega
    · have hlt' : ¬ (j : Int) < (n : Int) := by omega
      have hj' : Hid (j = ts.length) := (by have := HN.out; omega : j = ts.length)
      go_wp2
      go_ret
      refine ⟨ret_int ?_, rfl⟩
      rw [hj'.out, List.take_length]
end
end Go.Proofs.Ytpbhboecpgdgaaa
