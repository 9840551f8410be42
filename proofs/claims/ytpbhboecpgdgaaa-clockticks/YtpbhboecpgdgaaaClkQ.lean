/-
  The program's clocks beside the document's: one step of both.
-/
import Derived.Test.YtpbhboecpgdgaaaClkP
namespace Go.Proofs.Ytpbhboecpgdgaaa
open Go.RowKit Go.Maps

theorem blk_ne {w : World} {a b : Nat} {s t : TypeId} {cs ds : List Value} (ha : Blk w a s cs) (hb : Blk w b t ds) (hne : s ≠ t) : a ≠ b := by
  rintro rfl
  have e1 : w.heap[a]? = some (.cells cs.toArray s (0, 0)) := ha
  have e2 : w.heap[a]? = some (.cells ds.toArray t (0, 0)) := hb
  rw [e1] at e2
  simp at e2
  exact hne e2.2

/-- Both, the same; all that they may write lies behind w. -/
structure CS (w wr : World) (nodes p g cap x : Nat) (v : Value) (now : List Int) (time need : Int) (ts : List TickV) : Prop where
  clk : ClkAt wr p g cap now time need
  rf : RfAt wr x v nodes ts
  len : now.length = nodes
  now_eq : ∀ k, k < nodes → now.getD k 0 = S (fN k) ts
  time_eq : time = S fT ts
  need_eq : ∀ r, 0 ≤ r → (need ≤ r ↔ ∀ t ∈ ts, needOf t.time 0 t.on ≤ r)
  bel : Below w.heap.size w wr
  hp : w.heap.size ≤ p ∧ w.heap.size ≤ g ∧ w.heap.size ≤ x
  hv : ∀ i, v.ownBlock = some i → w.heap.size ≤ i
  apart : ∀ t ∈ ts, ∀ b, t.ao = some ⟨b, 0, none⟩ → b ≠ g
section
variable {w wr : World} {nodes p g cap x : Nat} {v : Value} {now : List Int} {time need : Int} {ts : List TickV}
theorem CS.drewN (h : CS w wr nodes p g cap x v now time need ts) (q : Nat) : CS w (wr.drewN q) nodes p g cap x v now time need ts :=
  ⟨h.clk.drewN q, h.rf.drewN q, h.len, h.now_eq, h.time_eq, h.need_eq, below_dn h.bel q, h.hp, h.hv, h.apart⟩
theorem CS.grow (h : CS w wr nodes p g cap x v now time need ts) {w' : World} (hb : Below wr.heap.size wr w') : CS w w' nodes p g cap x v now time need ts :=
  ⟨h.clk.below hb (Nat.le_refl _), h.rf.below hb (Nat.le_refl _), h.len, h.now_eq, h.time_eq, h.need_eq, h.bel.trans (hb.mono h.bel.size), h.hp, h.hv, h.apart⟩
/-- What the document's clocks are told by, is not written by the program's Tick. -/
theorem CS.rf_kept (h : CS w wr nodes p g cap x v now time need ts) {w' : World} (ht : Turns (CFoot p g) wr w') : RfAt w' x v nodes ts := by
  obtain ⟨rest, hg⟩ := h.clk.row
  refine h.rf.turned ht (fun hf => ?_) (fun i hi hf => ?_) (fun t htm b hb hf => ?_)
  · rcases hf with e | e
    · exact blk_ne h.rf.blk h.clk.blk (by decide) e
    · exact blk_ne h.rf.blk hg (by decide) e
  · rcases hf with e | e
    · subst e; exact h.clk.blk.not_row (by decide) h.rf.row hi.symm
    · subst e; exact hg.not_row (by decide) h.rf.row hi.symm
  · rcases hf with e | e
    · obtain ⟨b', rest', hb', hr⟩ := (h.rf.on t htm).blk
      rw [hb] at hb'
      cases hb'
      exact blk_ne hr h.clk.blk (by decide) e
    · exact h.apart t htm b hb e
theorem CS.foot_below (h : CS w wr nodes p g cap x v now time need ts) {w' : World} (ht : Turns (CFoot p g) wr w') : Below w.heap.size w w' :=
  h.bel.trans (ht.below (fun i hi => by rcases hi with e | e <;> (subst e; first | exact h.hp.1 | exact h.hp.2.1)) h.bel.size)

/-- What a Tick answers. -/
def tcode (now : List Int) (time t : Int) (on : List Int) : Int :=
  if (Right t ∧ ∀ a ∈ on, Right a) ∧ on.length = now.length then (if Room now time t on then 0 else 2) else 1
/-- Between the program's Tick and the document's. -/
def CMid (w w1 : World) (nodes p g cap x : Nat) (v : Value) (now : List Int) (time need : Int) (ts : List TickV) (t : Int) (on : List Int) : Prop :=
  ∃ wr, CS w wr nodes p g cap x v now time need ts ∧ Turns (CFoot p g) wr w1 ∧
    ((tcode now time t on ≠ 0 ∧ ClkAt w1 p g cap now time need) ∨ (tcode now time t on = 0 ∧ ClkAt w1 p g cap (List.zipWith (· + ·) now on) (time + t) (max need (needOf t 0 on))))
theorem CS.tick1 (h : CS w wr nodes p g cap x v now time need ts) (t : Int) (bo : Option Addr) (c : Nat) (on : List Int) (ho : HeldInt wr bo on) (hl : on.length ≤ 140737488355328) (hap : ∀ b off, bo = some ⟨b, off, none⟩ → on ≠ [] → ¬ CFoot p g b) :
    Calls Try.prog 12 #[.pointer (some ⟨p, 0, none⟩), .int .i64 t, .slice bo on.length c] wr fun e w' => e = .returned (.int .i64 (tcode now time t on)) ∧ CMid w w' nodes p g cap x v now time need ts t on ∧ Turns (CFoot p g) wr w' := by
  unfold tcode CMid
  by_cases hm : (Right t ∧ ∀ a ∈ on, Right a) ∧ on.length = now.length
  · by_cases hr : Room now time t on
    · refine (tick_good h.clk t bo c on ho hap hm.1 hm.2 hr).mono ?_
      rintro e w' ⟨rfl, h', ht⟩
      exact ⟨by rw [if_pos hm, if_pos hr], ⟨wr, h, ht, .inr ⟨by unfold tcode; rw [if_pos hm, if_pos hr], h'⟩⟩, ht⟩
    · refine (tick_full h.clk t bo c on ho hm.1 hm.2 hr).mono ?_
      rintro e w' ⟨rfl, rfl⟩
      exact ⟨by rw [if_pos hm, if_neg hr], ⟨w', h, Turns.refl _ _, .inl ⟨by unfold tcode; rw [if_pos hm, if_neg hr]; decide, h.clk⟩⟩, Turns.refl _ _⟩
  · refine (tick_bad h.clk t bo c on ho hl hm).mono ?_
    rintro e w' ⟨rfl, rfl⟩
    exact ⟨by rw [if_neg hm], ⟨w', h, Turns.refl _ _, .inl ⟨by unfold tcode; rw [if_neg hm]; decide, h.clk⟩⟩, Turns.refl _ _⟩
theorem room_same (h : CS w wr nodes p g cap x v now time need ts) {t : Int} {on : List Int} (hl : on.length = nodes) : Room now time t on ↔ RoomR ts t on nodes := by
  unfold Room RoomR
  rw [h.time_eq, hl]
  constructor
  · rintro ⟨h1, h2⟩
    exact ⟨h2, fun j hj => by have := h1 j hj; rwa [h.now_eq j hj] at this⟩
  · rintro ⟨h1, h2⟩
    exact ⟨fun j hj => by have := h2 j hj; rwa [← h.now_eq j hj] at this, h1⟩
/-- Behind both. -/
def CEnd (w w2 : World) (nodes p g cap x : Nat) (n : Nat) : Prop := ∃ v now time need ts, CS w w2 nodes p g cap x v now time need ts ∧ ts.length ≤ n
theorem CMid.below {w1 : World} {t : Int} {on : List Int} (h : CMid w w1 nodes p g cap x v now time need ts t on) : Below w.heap.size w w1 := by
  obtain ⟨wr, hc, ht, _⟩ := h
  exact hc.foot_below ht
theorem CMid.drewN {w1 : World} {t : Int} {on : List Int} (h : CMid w w1 nodes p g cap x v now time need ts t on) (q : Nat) : CMid w (w1.drewN q) nodes p g cap x v now time need ts t on := by
  obtain ⟨wr, hc, ht, hor⟩ := h
  refine ⟨wr, hc, ht.drewN q, ?_⟩
  rcases hor with ⟨a, b⟩ | ⟨a, b⟩
  · exact .inl ⟨a, b.drewN q⟩
  · exact .inr ⟨a, b.drewN q⟩
theorem CMid.tick2 {w1 : World} {t : Int} {on : List Int} (h : CMid w w1 nodes p g cap x v now time need ts t on) (hts : ts.length ≤ 4398046511103) (ao : Option Addr) (c : Nat) (ho : HeldInt w1 ao on) :
    Calls Try.prog 13 #[.pointer (some ⟨x, 0, none⟩), .int .i64 t, .slice ao on.length c] w1 fun e w' => e = .returned (.int .i64 (tcode now time t on)) ∧ CEnd w w' nodes p g cap x (ts.length + 1) ∧ Turns (fun i => i = x ∨ v.ownBlock = some i) w1 w' := by
  obtain ⟨wr, hc, ht, hor⟩ := h
  have hrf := hc.rf_kept ht
  have hbel := hc.foot_below ht
  have same : ∀ q, tcode now time t on ≠ 0 → CEnd w (w1.drewN q) nodes p g cap x (ts.length + 1) := by
    intro q hne
    rcases hor with ⟨_, hk⟩ | ⟨h0, _⟩
    · exact ⟨v, now, time, need, ts, ⟨hk.drewN q, hrf.drewN q, hc.len, hc.now_eq, hc.time_eq, hc.need_eq, below_dn hbel q, hc.hp, hc.hv, hc.apart⟩, by omega⟩
    · exact absurd h0 hne
  by_cases hm : Right t ∧ on.length = nodes
  · refine (rtick_main hrf hts t ao c on ho hm.1 hm.2).mono ?_
    rintro e w' ⟨z, rfl, hz⟩
    rcases hz with ⟨rfl, hna, rfl⟩ | ⟨rfl, hall, hnr, q, rfl⟩ | ⟨rfl, hall, hr, v', b, cp, hrf', ht', hv', hb'⟩
    · have hcode : tcode now time t on = 1 := by unfold tcode; rw [if_neg (fun hh => hna hh.1.2)]
      exact ⟨by rw [hcode], same 0 (by rw [hcode]; decide), Turns.refl _ _⟩
    · have hcode : tcode now time t on = 2 := by
        unfold tcode
        rw [if_pos ⟨⟨hm.1, hall⟩, by rw [hc.len]; exact hm.2⟩, if_neg (fun hh => hnr ((room_same hc hm.2).1 hh))]
      exact ⟨by rw [hcode], same q (by rw [hcode]; decide), (Turns.refl _ _).drewN q⟩
    · have hcode : tcode now time t on = 0 := by
        unfold tcode
        rw [if_pos ⟨⟨hm.1, hall⟩, by rw [hc.len]; exact hm.2⟩, if_pos ((room_same hc hm.2).2 hr)]
      rcases hor with ⟨hne, _⟩ | ⟨_, hk⟩
      · exact absurd hcode hne
      · obtain ⟨rest, hg⟩ := hk.row
        have hk' : ClkAt w' p g cap (List.zipWith (· + ·) now on) (time + t) (max need (needOf t 0 on)) := hk.turned ht' (fun i hi hf => by
          rcases hi with e | e <;> subst e
          · rcases hf with e | e
            · exact blk_ne hrf.blk hk.blk (by decide) e.symm
            · exact hk.blk.not_row (by decide) hrf.row e.symm
          · rcases hf with e | e
            · exact blk_ne hrf.blk hg (by decide) e.symm
            · exact hg.not_row (by decide) hrf.row e.symm)
        have hgl : g < w1.heap.size := hk.lt.2
        have hlen : (List.zipWith (· + ·) now on).length = nodes := by simp [hc.len, hm.2]
        refine ⟨by rw [hcode], ⟨v', _, _, _, _, ⟨hk', hrf', hlen, fun k hkk => ?_, ?_, fun r hr0 => ?_, hbel.trans (ht'.below (fun i hi => ?_) hbel.size), hc.hp, fun i hi => ?_, fun t' ht'' b' hb'' => ?_⟩, by simp⟩, ht'⟩
        · rw [S_snoc, ← hc.now_eq k hkk]
          have h1 : k < now.length := by rw [hc.len]; exact hkk
          have h2 : k < on.length := by rw [hm.2]; exact hkk
          have h3 : k < (List.zipWith (· + ·) now on).length := by rw [hlen]; exact hkk
          simp only [fN, List.getD, List.getElem?_eq_getElem h1, List.getElem?_eq_getElem h2, List.getElem?_eq_getElem h3, List.getElem_zipWith, Option.getD_some]
        · rw [S_snoc, hc.time_eq]
          rfl
        · have h1 := hc.need_eq r hr0
          constructor
          · intro h2 t' ht3
            rcases List.mem_append.1 ht3 with h3 | h3
            · exact h1.1 (by omega) t' h3
            · simp at h3
              subst h3
              show needOf t 0 on ≤ r
              omega
          · intro h2
            have a1 := h1.2 (fun t' ht3 => h2 t' (List.mem_append_left _ ht3))
            have a2 : needOf t 0 on ≤ r := h2 ⟨t, some ⟨b, 0, none⟩, cp, on⟩ (by simp)
            omega
        · rcases hi with e | e
          · subst e; exact hc.hp.2.2
          · exact hc.hv i e
        · rcases hv' i hi with e | e
          · exact hc.hv i e
          · exact Nat.le_trans hbel.size e
        · rcases List.mem_append.1 ht'' with h3 | h3
          · exact hc.apart t' h3 b' hb''
          · simp at h3
            subst h3
            cases hb''
            omega
  · refine (rtick_len hrf t ao c on hm).mono ?_
    rintro e w' ⟨rfl, rfl⟩
    have hcode : tcode now time t on = 1 := by
      unfold tcode
      rw [if_neg (fun hh => hm ⟨hh.1.1, by rw [← hc.len]; exact hh.2⟩)]
    exact ⟨by rw [hcode], same 0 (by rw [hcode]; decide), Turns.refl _ _⟩
theorem tick_turns {w : World} {p g cap : Nat} {now : List Int} {time need : Int} (h : ClkAt w p g cap now time need) (t : Int) (bo : Option Addr) (c : Nat) (on : List Int) (ho : HeldInt w bo on) (hl : on.length ≤ 140737488355328) (hap : ∀ b off, bo = some ⟨b, off, none⟩ → on ≠ [] → ¬ CFoot p g b) :
    Calls Try.prog 12 #[.pointer (some ⟨p, 0, none⟩), .int .i64 t, .slice bo on.length c] w fun e w' => ∃ z : Int, e = .returned (.int .i64 z) ∧ Turns (CFoot p g) w w' := by
  by_cases hm : (Right t ∧ ∀ a ∈ on, Right a) ∧ on.length = now.length
  · by_cases hr : Room now time t on
    · refine (tick_good h t bo c on ho hap hm.1 hm.2 hr).mono ?_
      rintro e w' ⟨rfl, _, ht⟩
      exact ⟨0, rfl, ht⟩
    · refine (tick_full h t bo c on ho hm.1 hm.2 hr).mono ?_
      rintro e w' ⟨rfl, rfl⟩
      exact ⟨2, rfl, Turns.refl _ _⟩
  · refine (tick_bad h t bo c on ho hl hm).mono ?_
    rintro e w' ⟨rfl, rfl⟩
    exact ⟨1, rfl, Turns.refl _ _⟩
/-- Behind a Fork, and a Tick of the elder ones. -/
theorem CS.forked (h : CS w wr nodes p g cap x v now time need ts) {w2 w3 : World} {p' g' cap' : Nat} (hk : ClkAt w2 p' g' cap' now time need) (hpg : wr.heap.size ≤ p' ∧ wr.heap.size ≤ g') (hb : Below wr.heap.size wr w2) (o : Obj) (ht : Turns (CFoot p g) (w2.alloc o) w3) :
    CS w w3 nodes p' g' cap' x v now time need ts := by
  have h2 := h.grow hb
  have h3 : CS w (w2.alloc o) nodes p g cap x v now time need ts := h2.grow ((Below.refl _ _).alloc (Nat.le_refl _) o)
  have hl := h.clk.lt
  refine ⟨(hk.below ((Below.refl _ w2).alloc (Nat.le_refl _) o) (Nat.le_refl _)).turned ht (fun i hi hf => by rcases hi with e | e <;> rcases hf with e' | e' <;> omega), h3.rf_kept ht, h.len, h.now_eq, h.time_eq, h.need_eq, h3.foot_below ht, ⟨by have := h.bel.size; omega, by have := h.bel.size; omega, h.hp.2.2⟩, h.hv, fun t htm b hb' e => ?_⟩
  obtain ⟨b', rest', hb2, hr⟩ := (h.rf.on t htm).blk
  rw [hb'] at hb2
  cases hb2
  have := hr.lt
  omega
theorem CS.start {w w1 w2 w3 : World} {n p g x : Nat} (hk : ClkAt w1 p g n (List.replicate n 0) 0 0) (hr : RfAt w2 x (.slice none 0 0) n []) (h1 : Below w.heap.size w w1) (h12 : Below w1.heap.size w1 w2) (h23 : Below w2.heap.size w2 w3) (hp : w.heap.size ≤ p ∧ w.heap.size ≤ g ∧ w.heap.size ≤ x) : CS w w3 n p g n x (.slice none 0 0) (List.replicate n 0) 0 0 [] := by
  have h2 : Below w.heap.size w w2 := h1.trans (h12.mono h1.size)
  refine ⟨(hk.below h12 (Nat.le_refl _)).below h23 (Nat.le_refl _), hr.below h23 (Nat.le_refl _), by simp, fun k hk => ?_, rfl, fun r hr0 => ⟨fun _ t ht => (by cases ht), fun _ => hr0⟩, h2.trans (h23.mono h2.size), hp, fun i hi => (by cases hi), fun t ht => (by cases ht)⟩
  simp [S, List.getD, hk]
theorem keeps_same (h : CS w wr nodes p g cap x v now time need ts) (r : Int) : decide ((0 ≤ r ∧ r ≤ 999) ∧ need ≤ r) = decide ((0 ≤ r ∧ r ≤ 999) ∧ ∀ t ∈ ts, KeepsAll t.time t.on r) := by
  rw [decide_eq_decide]
  constructor
  · rintro ⟨hr, hn⟩
    have h1 := (h.need_eq r hr.1).1 hn
    exact ⟨hr, fun t ht => ⟨(h.rf.on t ht).tim, (h.rf.on t ht).all, hr, h1 t ht⟩⟩
  · rintro ⟨hr, hall⟩
    exact ⟨hr, (h.need_eq r hr.1).2 (fun t ht => (hall t ht).2.2.2)⟩
theorem now_same (h : CS w wr nodes p g cap x v now time need ts) (κ : Int) : nowOf now κ = (if 0 ≤ κ ∧ κ < nodes then S (fN κ.toNat) ts else 0) := by
  unfold nowOf
  rw [h.len]
  split
  · next hk => exact h.now_eq _ (by omega)
  · rfl
end
end Go.Proofs.Ytpbhboecpgdgaaa
