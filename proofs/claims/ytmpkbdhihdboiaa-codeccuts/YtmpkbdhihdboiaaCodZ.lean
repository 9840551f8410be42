/-
  Package codec: a reader's names.
-/
import Derived.Test.YtmpkbdhihdboiaaCounts
import Derived.Test.YtmpkbdhihdboiaaNames
import Derived.Test.YtmpkbdhihdboiaaCodY
namespace Go.Proofs.Ytmpkbdhihdboiaa
open Go.RowKit Go.Maps

set_option maxRecDepth 1000000 in
set_option maxHeartbeats 4000000 in
theorem RdAt.takeS {w : World} {rb : Nat} {ao : Option Addr} {len cap : Nat} {bs : List Int} {st : Option (List Int)}  (h : RdAt w rb ao len cap bs st) (p : Rdr (ByteArray)) (hread : ∀ (at' : Nat) (co : Option Addr) (L C : Nat), Held w co L C (bs.drop at') → L = (bs.drop at').length → ∀ V, ScL w V → Calls Try.prog 90 #[.slice co L C] V (fun e w' => ∃ (y : ByteArray) (n : Nat) (E : Int), e = .returned (.tuple #[.string y, .int .i64 (n : Int), .int .i64 E]) ∧ Hid ((E = 0 ∧ n ≤ L ∧ p (bs.drop at') = some (y, (bs.drop at').drop n)) ∨ (E = 10 ∧ p (bs.drop at') = none)) ∧ Hid ((y : ByteArray).size ≤ 32) ∧ ScL w w')) : Calls Try.prog 89 #[.pointer (some ⟨rb, 0, none⟩), .func (.func 90) #[] #[]] w fun e w' => (∃ (y : ByteArray), e = .returned (.string y) ∧ Got st p y ∧ (y : ByteArray).size ≤ 32) ∧ RdAt w' rb ao len cap bs (nxt st p) ∧ Turns (fun i => i = rb) w w' := by
  obtain ⟨at', er, hk, hat, hst⟩ := h.blk
  have HH := hid h
  have HK := hid hk
  have c0 := hk.cell (i := 0) rfl
  have c1 := hk.cell (i := 1) rfl
  have c2 := hk.cell (i := 2) rfl
  have f1 := hk.frozen 1
  have f2 := hk.frozen 2
  rcases hst with ⟨rfl, rfl⟩ | ⟨rfl, rfl⟩
  · have hcut : ∀ W, (Instr.slice 37 (.slice ao len cap) (some (.int .i64 (at' : Int))) none none).run Try.prog W = .ok (.slice (cutAt ao cap at') (len - at') (cap - at')) W := fun W => run_cut_l W 37 5 Try.underlying37 size1R ao len cap at' _ rfl hat
    obtain ⟨co, hco⟩ : ∃ q, q = cutAt ao cap at' := ⟨_, rfl⟩
    obtain ⟨L, hL⟩ : ∃ q, q = len - at' := ⟨_, rfl⟩
    obtain ⟨C, hC⟩ : ∃ q, q = cap - at' := ⟨_, rfl⟩
    have hhc : Held w co L C (bs.drop at') := by rw [hco, hL, hC]; exact h.held.cutl hat
    rw [← hco, ← hL, ← hC] at hcut
    have HRD := hid (hread at' co L C hhc (by rw [hL, List.length_drop, h.held.hlen]))
    have HSA : Hid (∀ V, ScL w V → (ScL w V ∧ V.cell? ⟨rb, 0, none⟩ = some (.slice ao len cap) ∧ V.cell? ⟨rb, 1, none⟩ = some (.int .i64 (at' : Int)))) := fun V hV => ⟨hV, (hV.out.cell (p := ⟨rb, 0, none⟩) HK.out.lt).trans c0, (hV.out.cell (p := ⟨rb, 1, none⟩) HK.out.lt).trans c1⟩
    have HLE0 : Hid (at' + L = len) := hid (by omega)
    have HMX : Hid (len ≤ 9223372036854775807) := by have h1 := h.held.hcap; have h2 := h.held.hmax; unfold maxLen at h2; exact hid (by omega)
    clear hread hhc hco hL hC h hk
    go_enter Try.func89, Try.ntmps89
    go_wp2
    go_region_held3 (fun V => ScL w V ∧ V.cell? ⟨rb, 0, none⟩ = some (.slice ao len cap) ∧ V.cell? ⟨rb, 1, none⟩ = some (.int .i64 (at' : Int)))
      (first | (refine HSA.out _ ?_; (repeat (first | with_reducible assumption | with_reducible exact ScL.start _ | with_reducible apply ScL.dr)); done))
      ((go_at_call 90; with_reducible refine (HRD.out _ (by (repeat (first | assumption | exact ScL.start _ | apply ScL.dr)))).mono ?_; rintro e w5 ⟨y, n, E, rfl, HOR, HVL, hs5⟩))
    all_goals
      rcases HOR.out with ⟨rfl, hn, hp⟩ | ⟨rfl, hp⟩
      · have HLE : Hid (at' + n ≤ len) := by have h1 := HLE0.out; exact hid (by omega)
        clear HOR hn
        have hk5 := HK.out.below hs5.out HK.out.lt
        have d1 := hk5.cell (i := 1) rfl
        have g1 := hk5.frozen 1
        have hsum : IntKind.i64.wrap ((at' : Int) + (n : Int)) = (at' : Int) + (n : Int) := by rw [IntKind.wrap_i64]; have h1 := HLE.out; have h2 := HMX.out; omega
        obtain ⟨W3, hW3⟩ : ∃ V, V = w5.setCell ⟨rb, 1, none⟩ (.int .i64 ((at' : Int) + (n : Int))) := ⟨_, rfl⟩
        have hT : Turns (fun i => i = rb) w5 W3 := by rw [hW3]; exact (Turns.refl (fun i => i = rb) w5).setCell (p := ⟨rb, 1, none⟩) (.inl rfl) _
        have HF : Hid (RdAt W3 rb ao len cap bs (nxt (some (bs.drop at')) p)) := by
          refine ⟨(HH.out.held.below hs5.out (Nat.le_refl _)).turned hT (held_off (HH.out.held.below hs5.out (Nat.le_refl _)) hk5), at' + n, 0, by rw [hW3]; exact hk5.set 1 _, by have h1 := HLE.out; omega, .inl ⟨?_, rfl⟩⟩
          unfold nxt
          rw [Option.bind_some, hp, ← List.drop_drop]
          rfl
        have HT : Hid (Turns (fun i => i = rb) w W3) := (Turns.of_below (F := fun i => i = rb) hs5.out (Nat.le_refl _)).trans hT (fun i hi => .inl hi)
        have HVF : Hid ((y : ByteArray).size ≤ 32) := HVL
        have HP := hid hp
        clear hk5 hT hs5 hp
        go_wp2
        rw [← hW3]
        go_ret
        exact ⟨⟨y, rfl, (fun x r hx => by rw [Option.bind_some, HP.out] at hx; cases hx; rfl), HVF.out⟩, HF.out, HT.out⟩
      · clear HOR
        have hk5 := HK.out.below hs5.out HK.out.lt
        have d2 := hk5.cell (i := 2) rfl
        have g2 := hk5.frozen 2
        obtain ⟨W3, hW3⟩ : ∃ V, V = w5.setCell ⟨rb, 2, none⟩ (.int .i64 10) := ⟨_, rfl⟩
        have hT : Turns (fun i => i = rb) w5 W3 := by rw [hW3]; exact (Turns.refl (fun i => i = rb) w5).setCell (p := ⟨rb, 2, none⟩) (.inl rfl) _
        have HF : Hid (RdAt W3 rb ao len cap bs (nxt (some (bs.drop at')) p)) := by
          refine ⟨(HH.out.held.below hs5.out (Nat.le_refl _)).turned hT (held_off (HH.out.held.below hs5.out (Nat.le_refl _)) hk5), at', 10, by rw [hW3]; exact hk5.set 2 _, hat, .inr ⟨?_, rfl⟩⟩
          unfold nxt
          rw [Option.bind_some, hp]
          rfl
        have HT : Hid (Turns (fun i => i = rb) w W3) := (Turns.of_below (F := fun i => i = rb) hs5.out (Nat.le_refl _)).trans hT (fun i hi => .inl hi)
        have HVF : Hid ((⟨#[]⟩ : ByteArray).size ≤ 32) := (by show _ ≤ _; decide)
        have HP := hid hp
        clear hk5 hT hs5 hp
        go_wp2
        rw [← hW3]
        go_ret
        exact ⟨⟨⟨#[]⟩, rfl, (fun x r hx => by rw [Option.bind_some, HP.out] at hx; cases hx), HVF.out⟩, HF.out, HT.out⟩
  · clear hk h hread
    go_enter Try.func89, Try.ntmps89
    go_wp2
    go_ret
    exact ⟨⟨⟨#[]⟩, rfl, fun x r hx => (by cases hx), (by show _ ≤ _; decide)⟩, HH.out, Turns.refl _ _⟩
theorem rdText_size {b : List Int} (hb : AllB b) : (rdText b 32).1.size ≤ 32 := by
  rcases cnt_cases hb 32 with h0 | ⟨x, n, h0, hd, _, hx, hn, _⟩
  · unfold rdText
    rw [h0, if_neg (fun hh => absurd hh.1 (by decide))]
    decide
  · unfold rdText
    rw [h0]
    by_cases hc : n + x ≤ b.length
    · rw [if_pos ⟨rfl, hc⟩]
      show (strOfNums ((b.take (n + x)).drop n)).size ≤ 32
      rw [strOfNums_size, List.length_drop, List.length_take]
      omega
    · rw [if_neg (fun hh => hc hh.2)]
      decide
theorem rdText_p {b : List Int} (hb : AllB b) : (pText 32 b = none ∧ rdText b 32 = (⟨#[]⟩, 0, 10)) ∨ ∃ s n, rdText b 32 = (s, n, 0) ∧ n ≤ b.length ∧ pText 32 b = some (s, b.drop n) := by
  rcases cnt_cases hb 32 with h0 | ⟨x, n, h0, hd, _, hx, hn, _⟩
  · left
    refine ⟨?_, ?_⟩
    · unfold pText pNum
      unfold cntOf at h0
      by_cases hc : (dec 0 0 b).2.2 = 0 ∧ (dec 0 0 b).1 ≤ 32
      · rw [if_pos ⟨hc.1, by omega, by omega⟩] at h0
        rw [h0] at hc
        exact absurd hc.1 (by decide)
      · rw [if_neg hc]
        rfl
    · unfold rdText
      rw [h0]
      rfl
  · have hp : pNum 32 b = some ((x : Int), b.drop n) := by
      unfold pNum
      rw [hd]
      exact if_pos ⟨rfl, by show x ≤ 32; omega⟩
    by_cases hc : n + x ≤ b.length
    · right
      refine ⟨strOfNums ((b.take (n + x)).drop n), n + x, ?_, hc, ?_⟩
      · unfold rdText
        rw [h0]
        exact if_pos ⟨rfl, hc⟩
      · unfold pText
        rw [hp]
        show (if (x : Int).toNat ≤ (b.drop n).length then some (strOfNums ((b.drop n).take (x : Int).toNat), (b.drop n).drop (x : Int).toNat) else none) = _
        rw [Int.toNat_natCast, if_pos (by rw [List.length_drop]; omega), List.drop_drop, List.drop_take]
        have e : n + x - n = x := by omega
        rw [e]
    · left
      refine ⟨?_, ?_⟩
      · unfold pText
        rw [hp]
        show (if (x : Int).toNat ≤ (b.drop n).length then some (strOfNums ((b.drop n).take (x : Int).toNat), (b.drop n).drop (x : Int).toNat) else none) = _
        rw [Int.toNat_natCast, if_neg (by rw [List.length_drop]; omega)]
      · unfold rdText
        rw [h0]
        exact if_neg (fun hh => hc hh.2)
theorem name1_any (ao : Option Addr) (len cap : Nat) (bs : List Int) (w : World) (h : Held w ao len cap bs) : Calls Try.prog 90 #[.slice ao len cap] w fun e w' => e = .returned (.tuple #[.string (rdText bs 32).1, .int .i64 (rdText bs 32).2.1, .int .i64 (rdText bs 32).2.2]) ∧ w' = w := by
  have HR := hid (readText_any ao len cap bs 32 w h (by decide) (by decide))
  obtain ⟨s, n, E, hd⟩ : ∃ s n E, rdText bs 32 = (s, n, E) := ⟨_, _, _, rfl⟩
  rw [hd] at HR ⊢
  clear hd h
  go_enter Try.func90, Try.ntmps90
  go_wp2_with fail
  refine HR.out.mono ?_
  rintro e w1 ⟨rfl, rfl⟩
  go_wp2
  go_ret3
  exact ⟨rfl, rfl⟩
theorem RdAt.takeName {w : World} {rb : Nat} {ao : Option Addr} {len cap : Nat} {bs : List Int} {st : Option (List Int)} (h : RdAt w rb ao len cap bs st) : Calls Try.prog 89 #[.pointer (some ⟨rb, 0, none⟩), .func (.func 90) #[] #[]] w fun e w' => (∃ y : ByteArray, e = .returned (.string y) ∧ Got st (pText 32) y ∧ y.size ≤ 32) ∧ RdAt w' rb ao len cap bs (nxt st (pText 32)) ∧ Turns (fun i => i = rb) w w' := by
  refine h.takeS (pText 32) (fun at' co L C hc hL V hV => ?_)
  refine (name1_any co L C (bs.drop at') V (hc.below hV.out (Nat.le_refl _))).mono ?_
  rintro e w' ⟨rfl, rfl⟩
  have hsz := rdText_size hc.byte
  rcases rdText_p hc.byte with ⟨h1, h2⟩ | ⟨s, n, h1, h2, h3⟩
  · rw [h2] at hsz ⊢
    exact ⟨_, _, _, rfl, .inr ⟨rfl, h1⟩, hsz, hV⟩
  · rw [h1] at hsz ⊢
    exact ⟨_, _, _, rfl, .inl ⟨rfl, by rw [hL]; exact h2, h3⟩, hsz, hV⟩
theorem nxt_if {α : Type} {st : Option (List Int)} {p : Rdr α} {y : α} (c : α → Bool) (h : Got st p y) : (if c y = true then nxt st p else none) = nxt st (pIf c p) := by
  unfold nxt pIf
  cases st with
  | none => simp
  | some b =>
    simp only [Option.bind_some]
    cases hp : p b with
    | none => simp
    | some r =>
      obtain ⟨x, s⟩ := r
      have hy : y = x := h x s (by rw [Option.bind_some]; exact hp)
      subst hy
      by_cases hc : c y = true
      · simp [hc]
      · simp [hc]
theorem got_if {α : Type} {st : Option (List Int)} {p : Rdr α} {y : α} (c : α → Bool) (h : Got st p y) : Got st (pIf c p) y := by
  intro x r hx
  cases st with
  | none => cases hx
  | some b =>
    simp only [Option.bind_some, pIf] at hx
    cases hp : p b with
    | none => rw [hp] at hx; cases hx
    | some t =>
      obtain ⟨z, s⟩ := t
      rw [hp] at hx
      change (if c z = true then some (z, s) else none) = some (x, r) at hx
      split at hx
      · cases hx
        exact h _ _ (by rw [Option.bind_some]; exact hp)
      · cases hx
set_option maxRecDepth 1000000 in
theorem RdAt.name {w : World} {rb : Nat} {ao : Option Addr} {len cap : Nat} {bs : List Int} {st : Option (List Int)} (h : RdAt w rb ao len cap bs st) : Calls Try.prog 65 #[.pointer (some ⟨rb, 0, none⟩)] w fun e w' => (∃ y : ByteArray, e = .returned (.string y) ∧ Got st pName y ∧ y.size ≤ 32) ∧ RdAt w' rb ao len cap bs (nxt st pName) ∧ Turns (fun i => i = rb) w w' := by
  have HTK := hid h.takeName
  clear h
  go_enter Try.func65, Try.ntmps65
  go_wp2_with fail
  refine HTK.out.mono ?_
  rintro e w1 ⟨⟨y, rfl, hgot, hsz⟩, hrd, ht⟩
  have HG := hid hgot
  have HT := hid ht
  have HZ := hid hsz
  have HNM := hid (codecName_any y w1 (Nat.le_trans hsz (by decide)))
  have HDM := hid (hrd.demand (nameS y))
  rw [nxt_if nameS hgot] at HDM
  obtain ⟨b, HBB⟩ : ∃ b, Hid (nameS y = b) := ⟨_, hid rfl⟩
  rw [HBB.out] at HNM HDM
  clear hgot hrd ht hsz HTK
  go_wp2_with fail
  refine HNM.out.mono ?_
  rintro e w2 ⟨rfl, rfl⟩
  go_wp2_with fail
  refine HDM.out.mono ?_
  rintro e w3 ⟨rfl, hr3, ht3⟩
  have HR3 := hid hr3
  have HT3 := hid (turns_one HT.out ht3)
  clear hr3 ht3 HDM HNM
  go_wp2
  go_ret
  exact ⟨⟨y, rfl, got_if nameS HG.out, HZ.out⟩, HR3.out, HT3.out⟩
end Go.Proofs.Ytmpkbdhihdboiaa
/-
  Package codec: readBy over a part that reads a number; the parts of a vector.
-/
namespace Go.Proofs.Ytmpkbdhihdboiaa
open Go.RowKit Go.Maps

/-- What a part of a reader does, that answers a number. -/
def PartI (f : FuncId) (p : Rdr Int) : Prop := ∀ (w : World) (rb : Nat) (ao : Option Addr) (len cap : Nat) (bs : List Int) (st : Option (List Int)), RdAt w rb ao len cap bs st → Calls Try.prog f #[.pointer (some ⟨rb, 0, none⟩)] w fun e w' => (∃ y : Int, e = .returned (.int .i64 y) ∧ I64 y ∧ Got st p y) ∧ RdAt w' rb ao len cap bs (nxt st p) ∧ Turns (fun i => i = rb) w w'
/-- What a read answers. -/
def ReadI (w : World) (len : Nat) (bs : List Int) (p : Rdr Int) (e : Ending) (w' : World) : Prop := ∃ (y : Int) (n : Nat) (E : Int), e = .returned (.tuple #[.int .i64 y, .int .i64 (n : Int), .int .i64 E]) ∧ I64 y ∧ ((E = 0 ∧ n ≤ len ∧ p bs = some (y, bs.drop n)) ∨ (E = 10 ∧ p bs = none)) ∧ Below w.heap.size w w'
theorem vector1_part : PartI 84 (pNum 2147483647) := by
  intro w rb ao len cap bs st h
  have HN := hid (h.number 2147483647 (by decide))
  clear h
  go_enter Try.func84, Try.ntmps84
  go_wp2_with fail
  refine HN.out.mono ?_
  rintro e w1 ⟨⟨y, rfl, hi, hg⟩, hr, ht⟩
  have HA := hid (And.intro hi hg)
  have HR := hid hr
  have HT := hid ht
  clear hi hg hr ht HN
  go_wp2
  go_ret
  exact ⟨⟨y, rfl, HA.out.1, HA.out.2⟩, HR.out, HT.out⟩
set_option maxRecDepth 1000000 in
set_option maxHeartbeats 2000000 in
theorem readByI {p : Rdr Int} (hf : PartI 84 p) (ao : Option Addr) (len cap : Nat) (bs : List Int) (w : World) (h : Held w ao len cap bs) : Calls Try.prog 98 #[.slice ao len cap, .func (.func 84) #[] #[]] w (ReadI w len bs p) := by
  obtain ⟨W, hW⟩ : ∃ W, W = w.alloc (.cells #[.slice ao len cap, .int .i64 0, .int .i64 0] 107) := ⟨_, rfl⟩
  have HB : Hid (Below w.heap.size w W) := by rw [hW]; exact (Below.refl _ _).alloc (Nat.le_refl _) _
  obtain ⟨rb, hrb⟩ : ∃ q, q = w.heap.size := ⟨_, rfl⟩
  have hk : Blk W rb 107 [.slice ao len cap, .int .i64 0, .int .i64 0] := by rw [hrb, hW]; exact Blk.new w _ _
  have HRD : Hid (RdAt W rb ao len cap bs (some bs)) := ⟨h.below HB.out (Nat.le_refl _), 0, 0, hk, Nat.zero_le _, .inl ⟨rfl, rfl⟩⟩
  have HPT := hid (hf W rb ao len cap bs (some bs) HRD.out)
  have HW := hid hW
  have HRB := hid hrb
  have HLN : Hid (bs.length = len) := h.hlen
  clear hf h hk hW hrb
  go_enter Try.func98, Try.ntmps98
  go_wp2_with fail
  rw [← HW.out, ← HRB.out]
  refine HPT.out.mono ?_
  rintro e w1 ⟨⟨y, rfl, hi, hg⟩, hr, ht⟩
  have HI := hid hi
  have HG := hid hg
  have HB1 : Hid (Below w.heap.size w w1) := hid (HB.out.trans (ht.below (fun i hh => by rw [hh, HRB.out]; exact Nat.le_refl _) HB.out.size))
  obtain ⟨at', er, hk1, hat, hst⟩ := hr.blk
  have c1 := hk1.cell (i := 1) rfl
  have c2 := hk1.cell (i := 2) rfl
  have HAT := hid hat
  clear hi hg hr ht hk1 hat HPT
  rcases hst with ⟨h1, rfl⟩ | ⟨h1, rfl⟩
  · have HP : Hid (p bs = some (y, bs.drop at')) := by
      unfold nxt at h1
      rw [Option.bind_some] at h1
      cases hp : p bs with
      | none => rw [hp] at h1; cases h1
      | some t =>
        obtain ⟨x, r⟩ := t
        rw [hp] at h1
        cases h1
        have := HG.out x (bs.drop at') (by rw [Option.bind_some]; exact hp)
        rw [this]
        exact hid rfl
    clear h1
    go_wp2
    go_quiet (fail)
    go_wp2
    go_ret3
    exact ⟨y, at', 0, rfl, HI.out, .inl ⟨rfl, HAT.out, HP.out⟩, below_dn HB1.out _⟩
  · have HP : Hid (p bs = none) := by
      unfold nxt at h1
      rw [Option.bind_some] at h1
      cases hp : p bs with
      | none => exact hid rfl
      | some t => rw [hp] at h1; cases h1
    clear h1
    go_wp2
    go_quiet (fail)
    go_wp2
    go_ret3
    exact ⟨0, 0, 10, rfl, by unfold I64; decide, .inr ⟨rfl, HP.out⟩, below_dn HB1.out _⟩
set_option maxRecDepth 1000000 in
theorem listI11 {p : Rdr Int} (hf : PartI 84 p) (ao : Option Addr) (len cap : Nat) (bs : List Int) (w : World) (pb : Nat) (h : Held w ao len cap bs) (hk : Blk w pb 118 [.func (.func 84) #[] #[]]) : Calls Try.prog 97 #[.slice ao len cap, .pointer (some ⟨pb, 0, none⟩)] w (ReadI w len bs p) := by
  have HR := hid (readByI hf ao len cap bs w h)
  have c0 := hk.cell (i := 0) rfl
  clear hf h hk
  go_enter Try.func97, Try.ntmps97
  go_wp2_with fail
  refine HR.out.mono ?_
  rintro e w1 ⟨y, n, E, rfl, hi, hor, hb⟩
  have HA := hid (And.intro hi (And.intro hor hb))
  clear hi hor hb HR
  go_wp2
  go_ret3
  exact ⟨y, n, E, rfl, HA.out.1, HA.out.2.1, HA.out.2.2⟩
end Go.Proofs.Ytmpkbdhihdboiaa
/-
  Package codec: Msg.
-/
namespace Go.Proofs.Ytmpkbdhihdboiaa
open Go.RowKit Go.Maps
attribute [local go_sem] Oper.semAt_some

theorem own_sliceC {w : World} {B e n sz : Nat} {v : Value} {xs : List Value} (h : w.ownsRow B e sz v n xs) : ∃ eo cap, v = .slice eo n cap := by
  rcases h.2 with ⟨rfl, rfl⟩ | ⟨g, cap, cur, rfl, _⟩
  · exact ⟨_, _, rfl⟩
  · exact ⟨_, _, rfl⟩
theorem own_monoC {w : World} {base base' : Nat} {e : TypeId} {size : Nat} {v : Value} {n : Nat} {xs : List Value} (h : w.ownsRow base e size v n xs) (hb : base' ≤ base) : w.ownsRow base' e size v n xs := by
  refine ⟨h.1, ?_⟩
  rcases h.2 with h1 | ⟨g, cap, cur, h1, h2, h3⟩
  · exact .inl h1
  · exact .inr ⟨g, cap, cur, h1, Nat.le_trans hb h2, h3⟩
/-- What codec.Msg answers. -/
def MsgP (w : World) (x : MsM) (e : Ending) (w' : World) : Prop :=
  Below w.heap.size w w' ∧ (if RightMs x = true then (if (encMs x).length ≤ 65536 then ∃ v, e = .returned (.tuple #[v, .int .i64 0]) ∧ w'.ownsRow w.heap.size 5 1 v (encMs x).length (nums (encMs x)) else e = .returned (.tuple #[.slice none 0 0, .int .i64 3])) else e = .returned (.tuple #[.slice none 0 0, .int .i64 1]))
set_option maxRecDepth 100000 in
set_option maxHeartbeats 1000000 in
theorem writtenM_any (V : World) (x : MsM) (hx : MsOk V x) : Calls Try.prog 14 #[x.val, .func (.func 15) #[] #[], .func (.func 16) #[] #[]] V (MsgP V x) := by
  obtain ⟨W, hW⟩ : ∃ W, W = V.alloc (.cells x.cells.toArray 32) := ⟨_, rfl⟩
  have HB : Hid (Below V.heap.size V W) := by rw [hW]; exact (Below.refl _ _).alloc (Nat.le_refl _) _
  have HK : Hid (Blk W V.heap.size 32 x.cells) := by rw [hW]; exact Blk.new V _ _
  have HM := hid (mayMsg_C W x (hx.below HB.out))
  have HOX := hid hx
  have HW := hid hW
  clear hW hx
  by_cases hr : RightMs x = true
  · rw [hr] at HM
    obtain ⟨L, HL⟩ : ∃ m, Hid ((encMs x).length = m) := ⟨_, hid rfl⟩
    have HA : Hid (∀ U, Below V.heap.size V U → Calls Try.prog 16 #[.slice none 0 0, x.val] U fun e w' => ∃ v', e = .returned v' ∧ Hid (w'.ownsRow U.heap.size 5 1 v' L (nums (encMs x))) ∧ Below U.heap.size U w') := fun U hU => by
      refine (appendMsg_T (.slice none 0 0) 0 [] x U.heap.size U (rightMs_iff hr) (fun Z hZ => (HOX.out.below hU).below hZ) (World.ownsRow_nil _ _ _ _) (Nat.le_refl _) (by omega)).mono ?_
      rintro e w' ⟨v', rfl, k1, k2, _⟩
      rw [HL.out, Nat.zero_add, List.nil_append] at k1
      exact ⟨v', rfl, k1, k2⟩
    have HRR := hid hr
    clear hr
    obtain ⟨kd, fr, to, ⟨b1, b2⟩, sl, ⟨⟨np, tk, ct, ep, cut⟩, ao1, cap1⟩, vo, vc, vs, so, sc, seen, eo, ec, evs, ti⟩ := x
    simp only [MsM.val, MsM.cells] at HM HA HW HK ⊢
    by_cases hll : L ≤ 65536
    · have HLL : Hid (L ≤ 65536) := hll
      have hbig : ¬ (65536 : Int) < (L : Int) := by omega
      clear hll
      go_enter Try.func14, Try.ntmps14
      go_wp2_with fail
      rw [← HW.out]
      obtain ⟨p, hp⟩ : ∃ p, p = V.heap.size := ⟨_, rfl⟩
      rw [← hp] at HK ⊢
      clear hp
      refine HM.out.mono ?_
      rintro e w1 ⟨rfl, hb1⟩
      have HB1 := hid (bt' HB.out hb1)
      have hk := HK.out.below hb1 HK.out.lt
      have c0 := hk.cell (i := 0) rfl
      have c1 := hk.cell (i := 1) rfl
      have c2 := hk.cell (i := 2) rfl
      have c3 := hk.cell (i := 3) rfl
      have c4 := hk.cell (i := 4) rfl
      have c5 := hk.cell (i := 5) rfl
      have c6 := hk.cell (i := 6) rfl
      have c7 := hk.cell (i := 7) rfl
      have c8 := hk.cell (i := 8) rfl
      have c9 := hk.cell (i := 9) rfl
      have c10 := hk.cell (i := 10) rfl
      have c11 := hk.cell (i := 11) rfl
      have c12 := hk.cell (i := 12) rfl
      have c13 := hk.cell (i := 13) rfl
      have c14 := hk.cell (i := 14) rfl
      clear hb1 hk HM
      go_wp2_with fail
      refine (HA.out _ HB1.out).mono ?_
      rintro e w2 ⟨v2, rfl, hr2, hb2⟩
      obtain ⟨o, c, hv⟩ := own_sliceC hr2.out
      have HB2 := hid (bt' HB1.out hb2)
      have HR2 := hid (own_monoC hr2.out HB1.out.size)
      subst hv
      clear hr2 hb2
      go_wp2
      go_ret2
      refine ⟨HB2.out, ?_⟩
      rw [if_pos HRR.out, HL.out, if_pos HLL.out]
      exact ⟨_, rfl, HR2.out⟩
    · have HLL : Hid (¬ L ≤ 65536) := hll
      have hbig : (65536 : Int) < (L : Int) := by omega
      clear hll
      go_enter Try.func14, Try.ntmps14
      go_wp2_with fail
      rw [← HW.out]
      obtain ⟨p, hp⟩ : ∃ p, p = V.heap.size := ⟨_, rfl⟩
      rw [← hp] at HK ⊢
      clear hp
      refine HM.out.mono ?_
      rintro e w1 ⟨rfl, hb1⟩
      have HB1 := hid (bt' HB.out hb1)
      have hk := HK.out.below hb1 HK.out.lt
      have c0 := hk.cell (i := 0) rfl
      have c1 := hk.cell (i := 1) rfl
      have c2 := hk.cell (i := 2) rfl
      have c3 := hk.cell (i := 3) rfl
      have c4 := hk.cell (i := 4) rfl
      have c5 := hk.cell (i := 5) rfl
      have c6 := hk.cell (i := 6) rfl
      have c7 := hk.cell (i := 7) rfl
      have c8 := hk.cell (i := 8) rfl
      have c9 := hk.cell (i := 9) rfl
      have c10 := hk.cell (i := 10) rfl
      have c11 := hk.cell (i := 11) rfl
      have c12 := hk.cell (i := 12) rfl
      have c13 := hk.cell (i := 13) rfl
      have c14 := hk.cell (i := 14) rfl
      clear hb1 hk HM
      go_wp2_with fail
      refine (HA.out _ HB1.out).mono ?_
      rintro e w2 ⟨v2, rfl, hr2, hb2⟩
      obtain ⟨o, c, hv⟩ := own_sliceC hr2.out
      have HB2 := hid (bt' HB1.out hb2)
      have HR2 := hid (own_monoC hr2.out HB1.out.size)
      subst hv
      clear hr2 hb2
      go_wp2
      go_ret2
      refine ⟨HB2.out, ?_⟩
      rw [if_pos HRR.out, HL.out, if_neg HLL.out]
      rfl
  · rw [Bool.eq_false_iff.2 hr] at HM
    have HRR := hid hr
    clear hr
    obtain ⟨kd, fr, to, ⟨b1, b2⟩, sl, ⟨⟨np, tk, ct, ep, cut⟩, ao1, cap1⟩, vo, vc, vs, so, sc, seen, eo, ec, evs, ti⟩ := x
    simp only [MsM.val, MsM.cells] at HM HW HK ⊢
    go_enter Try.func14, Try.ntmps14
    go_wp2_with fail
    rw [← HW.out]
    obtain ⟨p, hp⟩ : ∃ p, p = V.heap.size := ⟨_, rfl⟩
    rw [← hp] at HK ⊢
    clear hp
    refine HM.out.mono ?_
    rintro e w1 ⟨rfl, hb1⟩
    have HB1 := hid (bt' HB.out hb1)
    clear hb1 HM
    go_wp2
    go_ret2
    refine ⟨HB1.out, ?_⟩
    rw [if_neg HRR.out]
    rfl
set_option maxRecDepth 100000 in
set_option maxHeartbeats 1000000 in
theorem msg_any (w : World) (x : MsM) (hx : MsOk w x) : Calls Try.prog 4 #[x.val] w (MsgP w x) := by
  have H := hid (fun o => writtenM_any (w.alloc o) x (hx.below ((Below.refl _ _).alloc (Nat.le_refl _) o)))
  have HMONO : Hid (∀ o e w', MsgP (w.alloc o) x e w' → (∃ v c, e = .returned (.tuple #[v, .int .i64 c])) ∧ MsgP w x e w') := fun o e w' h => by
    obtain ⟨h1, h2⟩ := h
    have hb : Below w.heap.size w (w.alloc o) := (Below.refl _ _).alloc (Nat.le_refl _) o
    by_cases hr : RightMs x = true
    · rw [if_pos hr] at h2
      by_cases hl : (encMs x).length ≤ 65536
      · rw [if_pos hl] at h2
        obtain ⟨v, rfl, h3⟩ := h2
        exact ⟨⟨_, _, rfl⟩, bt' hb h1, by rw [if_pos hr, if_pos hl]; exact ⟨v, rfl, own_monoC h3 hb.size⟩⟩
      · rw [if_neg hl] at h2
        subst h2
        exact ⟨⟨_, _, rfl⟩, bt' hb h1, by rw [if_pos hr, if_neg hl]⟩
    · rw [if_neg hr] at h2
      subst h2
      exact ⟨⟨_, _, rfl⟩, bt' hb h1, by rw [if_neg hr]⟩
  clear hx
  obtain ⟨kd, fr, to, ⟨b1, b2⟩, sl, ⟨⟨np, tk, ct, ep, cut⟩, ao1, cap1⟩, vo, vc, vs, so, sc, seen, eo, ec, evs, ti⟩ := x
  simp only [MsM.val] at H ⊢
  go_enter Try.func4, Try.ntmps4
  go_wp2_with fail
  refine (H.out _).mono ?_
  intro e w' h
  obtain ⟨⟨v, c, rfl⟩, h2⟩ := HMONO.out _ _ _ h
  have H2 := hid h2
  clear h h2 HMONO H
  go_wp2
  go_ret2
  exact H2.out
end Go.Proofs.Ytmpkbdhihdboiaa
