/-
  Package codec: a reader's names.
-/
import Derived.Test.YtmpkbdhihdboiaaGreatCounts
import Derived.Test.YtmpkbdhihdboiaaGreatNames
namespace Go.Proofs.YtmpkbdhihdboiaaGreat
open Go.RowKit Go.Maps

set_option maxRecDepth 1000000 in
set_option maxHeartbeats 4000000 in
theorem RdAt.takeS {w : World} {rb : Nat} {ao : Option Addr} {len cap : Nat} {bs : List Int} {st : Option (List Int)}  (h : RdAt w rb ao len cap bs st) (p : Rdr (ByteArray)) (hread : ∀ (at' : Nat) (co : Option Addr) (L C : Nat), Held w co L C (bs.drop at') → L = (bs.drop at').length → ∀ V, ScL w V → Calls Tryz.prog 106 #[.slice co L C] V (fun e w' => ∃ (y : ByteArray) (n : Nat) (E : Int), e = .returned (.tuple #[.string y, .int .i64 (n : Int), .int .i64 E]) ∧ Hid ((E = 0 ∧ n ≤ L ∧ p (bs.drop at') = some (y, (bs.drop at').drop n)) ∨ (E = 10 ∧ p (bs.drop at') = none)) ∧ Hid ((y : ByteArray).size ≤ 32) ∧ ScL w w')) : Calls Tryz.prog 105 #[.pointer (some ⟨rb, 0, none⟩), .func (.func 106) #[] #[]] w fun e w' => (∃ (y : ByteArray), e = .returned (.string y) ∧ Got st p y ∧ (y : ByteArray).size ≤ 32) ∧ RdAt w' rb ao len cap bs (nxt st p) ∧ Turns (fun i => i = rb) w w' := by
  obtain ⟨at', er, hk, hat, hst⟩ := h.blk
  have HH := hid h
  have HK := hid hk
  have c0 := hk.cell (i := 0) rfl
  have c1 := hk.cell (i := 1) rfl
  have c2 := hk.cell (i := 2) rfl
  have f1 := hk.frozen 1
  have f2 := hk.frozen 2
  rcases hst with ⟨rfl, rfl⟩ | ⟨rfl, rfl⟩
  · have hcut : ∀ W, (Instr.slice 33 (.slice ao len cap) (some (.int .i64 (at' : Int))) none none).run Tryz.prog W = .ok (.slice (cutAt ao cap at') (len - at') (cap - at')) W := fun W => run_cut_l W 33 5 Tryz.underlying33 size1R ao len cap at' _ rfl hat
    obtain ⟨co, hco⟩ : ∃ q, q = cutAt ao cap at' := ⟨_, rfl⟩
    obtain ⟨L, hL⟩ : ∃ q, q = len - at' := ⟨_, rfl⟩
    obtain ⟨C, hC⟩ : ∃ q, q = cap - at' := ⟨_, rfl⟩
    have hhc : Held w co L C (bs.drop at') := by rw [hco, hL, hC]; exact h.held.cutl hat
    rw [← hco, ← hL, ← hC] at hcut
    have HRD := hid (hread at' co L C hhc (by rw [hL, List.length_drop, h.held.hlen]))
    have HSA : Hid (∀ V, ScL w V → (ScL w V ∧ V.cell? ⟨rb, 0, none⟩ = some (.slice ao len cap) ∧ V.cell? ⟨rb, 1, none⟩ = some (.int .i64 (at' : Int)))) := fun V hV => ⟨hV, (hV.out.cell (p := ⟨rb, 0, none⟩) HK.out.lt).trans c0, (hV.out.cell (p := ⟨rb, 1, none⟩) HK.out.lt).trans c1⟩
    have HLE0 : Hid (at' + L = len) := hid (by omega)
    have HMX : Hid (len ≤ 9223372036854775807) := by have h1 := h.held.hcap; have h2 := h.held.hmax; unfold maxLen at h2; exact hid (by omega)
    clear hread hhc hco hL hC h hk
    go_enter Tryz.func105, Tryz.ntmps105
    go_wp2
    go_region_held3 (fun V => ScL w V ∧ V.cell? ⟨rb, 0, none⟩ = some (.slice ao len cap) ∧ V.cell? ⟨rb, 1, none⟩ = some (.int .i64 (at' : Int)))
      (first | (refine HSA.out _ ?_; (repeat (first | with_reducible assumption | with_reducible exact ScL.start _ | with_reducible apply ScL.dr)); done))
      ((go_at_call 106; with_reducible refine (HRD.out _ (by (repeat (first | assumption | exact ScL.start _ | apply ScL.dr)))).mono ?_; rintro e w5 ⟨y, n, E, rfl, HOR, HVL, hs5⟩))
    all_goals
      rcases HOR.out with ⟨rfl, hn, hp⟩ | ⟨rfl, hp⟩
      · have HLE : Hid (at' + n ≤ len) := by have h1 := HLE0.out; exact hid (by omega)
        clear HOR hn
        have hk5 := HK.out.below hs5.out HK.out.lt
        have d1 := hk5.cell (i := 1) rfl
        have g1 := hk5.frozen 1
        have hsum : IntKind.i64.wrap ((at' : Int) + (n : Int)) = (at' : Int) + (n : Int) := by rw [IntKind.wrap_i64]; have h1 := HLE.out; have h2 := HMX.out; omega
        obtain ⟨W3, hW3⟩ : ∃ V, V = w5.setCell ⟨rb, 1, none⟩ (.int .i64 ((at' : Int) + (n : Int))) := ⟨_, rfl⟩
        have hT : Turns (fun i => i = rb) w5 W3 := by rw [hW3]; exact (Turns.refl (fun i => i = rb) w5).setCell (p := ⟨rb, 1, none⟩) (.inl rfl) _
        have HF : Hid (RdAt W3 rb ao len cap bs (nxt (some (bs.drop at')) p)) := by
          refine ⟨(HH.out.held.below hs5.out (Nat.le_refl _)).turned hT (held_off (HH.out.held.below hs5.out (Nat.le_refl _)) hk5), at' + n, 0, by rw [hW3]; exact hk5.set 1 _, by have h1 := HLE.out; omega, .inl ⟨?_, rfl⟩⟩
          unfold nxt
          rw [Option.bind_some, hp, ← List.drop_drop]
          rfl
        have HT : Hid (Turns (fun i => i = rb) w W3) := (Turns.of_below (F := fun i => i = rb) hs5.out (Nat.le_refl _)).trans hT (fun i hi => .inl hi)
        have HVF : Hid ((y : ByteArray).size ≤ 32) := HVL
        have HP := hid hp
        clear hk5 hT hs5 hp
        go_wp2
        rw [← hW3]
        go_ret
        exact ⟨⟨y, rfl, (fun x r hx => by rw [Option.bind_some, HP.out] at hx; cases hx; rfl), HVF.out⟩, HF.out, HT.out⟩
      · clear HOR
        have hk5 := HK.out.below hs5.out HK.out.lt
        have d2 := hk5.cell (i := 2) rfl
        have g2 := hk5.frozen 2
        obtain ⟨W3, hW3⟩ : ∃ V, V = w5.setCell ⟨rb, 2, none⟩ (.int .i64 10) := ⟨_, rfl⟩
        have hT : Turns (fun i => i = rb) w5 W3 := by rw [hW3]; exact (Turns.refl (fun i => i = rb) w5).setCell (p := ⟨rb, 2, none⟩) (.inl rfl) _
        have HF : Hid (RdAt W3 rb ao len cap bs (nxt (some (bs.drop at')) p)) := by
          refine ⟨(HH.out.held.below hs5.out (Nat.le_refl _)).turned hT (held_off (HH.out.held.below hs5.out (Nat.le_refl _)) hk5), at', 10, by rw [hW3]; exact hk5.set 2 _, hat, .inr ⟨?_, rfl⟩⟩
          unfold nxt
          rw [Option.bind_some, hp]
          rfl
        have HT : Hid (Turns (fun i => i = rb) w W3) := (Turns.of_below (F := fun i => i = rb) hs5.out (Nat.le_refl _)).trans hT (fun i hi => .inl hi)
        have HVF : Hid ((⟨#[]⟩ : ByteArray).size ≤ 32) := (by show _ ≤ _; decide)
        have HP := hid hp
        clear hk5 hT hs5 hp
        go_wp2
        rw [← hW3]
        go_ret
        exact ⟨⟨⟨#[]⟩, rfl, (fun x r hx => by rw [Option.bind_some, HP.out] at hx; cases hx), HVF.out⟩, HF.out, HT.out⟩
  · clear hk h hread
    go_enter Tryz.func105, Tryz.ntmps105
    go_wp2
    go_ret
    exact ⟨⟨⟨#[]⟩, rfl, fun x r hx => (by cases hx), (by show _ ≤ _; decide)⟩, HH.out, Turns.refl _ _⟩
theorem rdText_size {b : List Int} (hb : AllB b) : (rdText b 32).1.size ≤ 32 := by
  rcases cnt_cases hb 32 with h0 | ⟨x, n, h0, hd, _, hx, hn, _⟩
  · unfold rdText
    rw [h0, if_neg (fun hh => absurd hh.1 (by decide))]
    decide
  · unfold rdText
    rw [h0]
    by_cases hc : n + x ≤ b.length
    · rw [if_pos ⟨rfl, hc⟩]
      show (strOfNums ((b.take (n + x)).drop n)).size ≤ 32
      rw [strOfNums_size, List.length_drop, List.length_take]
      omega
    · rw [if_neg (fun hh => hc hh.2)]
      decide
theorem rdText_p {b : List Int} (hb : AllB b) : (pText 32 b = none ∧ rdText b 32 = (⟨#[]⟩, 0, 10)) ∨ ∃ s n, rdText b 32 = (s, n, 0) ∧ n ≤ b.length ∧ pText 32 b = some (s, b.drop n) := by
  rcases cnt_cases hb 32 with h0 | ⟨x, n, h0, hd, _, hx, hn, _⟩
  · left
    refine ⟨?_, ?_⟩
    · unfold pText pNum
      unfold cntOf at h0
      by_cases hc : (dec 0 0 b).2.2 = 0 ∧ (dec 0 0 b).1 ≤ 32
      · rw [if_pos ⟨hc.1, by omega, by omega⟩] at h0
        rw [h0] at hc
        exact absurd hc.1 (by decide)
      · rw [if_neg hc]
        rfl
    · unfold rdText
      rw [h0]
      rfl
  · have hp : pNum 32 b = some ((x : Int), b.drop n) := by
      unfold pNum
      rw [hd]
      exact if_pos ⟨rfl, by show x ≤ 32; omega⟩
    by_cases hc : n + x ≤ b.length
    · right
      refine ⟨strOfNums ((b.take (n + x)).drop n), n + x, ?_, hc, ?_⟩
      · unfold rdText
        rw [h0]
        exact if_pos ⟨rfl, hc⟩
      · unfold pText
        rw [hp]
        show (if (x : Int).toNat ≤ (b.drop n).length then some (strOfNums ((b.drop n).take (x : Int).toNat), (b.drop n).drop (x : Int).toNat) else none) = _
        rw [Int.toNat_natCast, if_pos (by rw [List.length_drop]; omega), List.drop_drop, List.drop_take]
        have e : n + x - n = x := by omega
        rw [e]
    · left
      refine ⟨?_, ?_⟩
      · unfold pText
        rw [hp]
        show (if (x : Int).toNat ≤ (b.drop n).length then some (strOfNums ((b.drop n).take (x : Int).toNat), (b.drop n).drop (x : Int).toNat) else none) = _
        rw [Int.toNat_natCast, if_neg (by rw [List.length_drop]; omega)]
      · unfold rdText
        rw [h0]
        exact if_neg (fun hh => hc hh.2)
theorem name1_any (ao : Option Addr) (len cap : Nat) (bs : List Int) (w : World) (h : Held w ao len cap bs) : Calls Tryz.prog 106 #[.slice ao len cap] w fun e w' => e = .returned (.tuple #[.string (rdText bs 32).1, .int .i64 (rdText bs 32).2.1, .int .i64 (rdText bs 32).2.2]) ∧ w' = w := by
  have HR := hid (readText_any ao len cap bs 32 w h (by decide) (by decide))
  obtain ⟨s, n, E, hd⟩ : ∃ s n E, rdText bs 32 = (s, n, E) := ⟨_, _, _, rfl⟩
  rw [hd] at HR ⊢
  clear hd h
  go_enter Tryz.func106, Tryz.ntmps106
  go_wp2_with fail
  refine HR.out.mono ?_
  rintro e w1 ⟨rfl, rfl⟩
  go_wp2
  go_ret3
  exact ⟨rfl, rfl⟩
theorem RdAt.takeName {w : World} {rb : Nat} {ao : Option Addr} {len cap : Nat} {bs : List Int} {st : Option (List Int)} (h : RdAt w rb ao len cap bs st) : Calls Tryz.prog 105 #[.pointer (some ⟨rb, 0, none⟩), .func (.func 106) #[] #[]] w fun e w' => (∃ y : ByteArray, e = .returned (.string y) ∧ Got st (pText 32) y ∧ y.size ≤ 32) ∧ RdAt w' rb ao len cap bs (nxt st (pText 32)) ∧ Turns (fun i => i = rb) w w' := by
  refine h.takeS (pText 32) (fun at' co L C hc hL V hV => ?_)
  refine (name1_any co L C (bs.drop at') V (hc.below hV.out (Nat.le_refl _))).mono ?_
  rintro e w' ⟨rfl, rfl⟩
  have hsz := rdText_size hc.byte
  rcases rdText_p hc.byte with ⟨h1, h2⟩ | ⟨s, n, h1, h2, h3⟩
  · rw [h2] at hsz ⊢
    exact ⟨_, _, _, rfl, .inr ⟨rfl, h1⟩, hsz, hV⟩
  · rw [h1] at hsz ⊢
    exact ⟨_, _, _, rfl, .inl ⟨rfl, by rw [hL]; exact h2, h3⟩, hsz, hV⟩
theorem nxt_if {α : Type} {st : Option (List Int)} {p : Rdr α} {y : α} (c : α → Bool) (h : Got st p y) : (if c y = true then nxt st p else none) = nxt st (pIf c p) := by
  unfold nxt pIf
  cases st with
  | none => simp
  | some b =>
    simp only [Option.bind_some]
    cases hp : p b with
    | none => simp
    | some r =>
      obtain ⟨x, s⟩ := r
      have hy : y = x := h x s (by rw [Option.bind_some]; exact hp)
      subst hy
      by_cases hc : c y = true
      · simp [hc]
      · simp [hc]
theorem got_if {α : Type} {st : Option (List Int)} {p : Rdr α} {y : α} (c : α → Bool) (h : Got st p y) : Got st (pIf c p) y := by
  intro x r hx
  cases st with
  | none => cases hx
  | some b =>
    simp only [Option.bind_some, pIf] at hx
    cases hp : p b with
    | none => rw [hp] at hx; cases hx
    | some t =>
      obtain ⟨z, s⟩ := t
      rw [hp] at hx
      change (if c z = true then some (z, s) else none) = some (x, r) at hx
      split at hx
      · cases hx
        exact h _ _ (by rw [Option.bind_some]; exact hp)
      · cases hx
set_option maxRecDepth 1000000 in
theorem RdAt.name {w : World} {rb : Nat} {ao : Option Addr} {len cap : Nat} {bs : List Int} {st : Option (List Int)} (h : RdAt w rb ao len cap bs st) : Calls Tryz.prog 97 #[.pointer (some ⟨rb, 0, none⟩)] w fun e w' => (∃ y : ByteArray, e = .returned (.string y) ∧ Got st pName y ∧ y.size ≤ 32) ∧ RdAt w' rb ao len cap bs (nxt st pName) ∧ Turns (fun i => i = rb) w w' := by
  have HTK := hid h.takeName
  clear h
  go_enter Tryz.func97, Tryz.ntmps97
  go_wp2_with fail
  refine HTK.out.mono ?_
  rintro e w1 ⟨⟨y, rfl, hgot, hsz⟩, hrd, ht⟩
  have HG := hid hgot
  have HT := hid ht
  have HZ := hid hsz
  have HNM := hid (codecName_any y w1 (Nat.le_trans hsz (by decide)))
  have HDM := hid (hrd.demand (nameS y))
  rw [nxt_if nameS hgot] at HDM
  obtain ⟨b, HBB⟩ : ∃ b, Hid (nameS y = b) := ⟨_, hid rfl⟩
  rw [HBB.out] at HNM HDM
  clear hgot hrd ht hsz HTK
  go_wp2_with fail
  refine HNM.out.mono ?_
  rintro e w2 ⟨rfl, rfl⟩
  go_wp2_with fail
  refine HDM.out.mono ?_
  rintro e w3 ⟨rfl, hr3, ht3⟩
  have HR3 := hid hr3
  have HT3 := hid (turns_one HT.out ht3)
  clear hr3 ht3 HDM HNM
  go_wp2
  go_ret
  exact ⟨⟨y, rfl, got_if nameS HG.out, HZ.out⟩, HR3.out, HT3.out⟩
end Go.Proofs.YtmpkbdhihdboiaaGreat
/-
  Package codec: readBy over a part that reads a number; the parts of a vector.
-/
namespace Go.Proofs.YtmpkbdhihdboiaaGreat
open Go.RowKit Go.Maps

/-- What a part of a reader does, that answers a number. -/
def PartI (f : FuncId) (p : Rdr Int) : Prop := ∀ (w : World) (rb : Nat) (ao : Option Addr) (len cap : Nat) (bs : List Int) (st : Option (List Int)), RdAt w rb ao len cap bs st → Calls Tryz.prog f #[.pointer (some ⟨rb, 0, none⟩)] w fun e w' => (∃ y : Int, e = .returned (.int .i64 y) ∧ I64 y ∧ Got st p y) ∧ RdAt w' rb ao len cap bs (nxt st p) ∧ Turns (fun i => i = rb) w w'
/-- What a read answers. -/
def ReadI (w : World) (len : Nat) (bs : List Int) (p : Rdr Int) (e : Ending) (w' : World) : Prop := ∃ (y : Int) (n : Nat) (E : Int), e = .returned (.tuple #[.int .i64 y, .int .i64 (n : Int), .int .i64 E]) ∧ I64 y ∧ ((E = 0 ∧ n ≤ len ∧ p bs = some (y, bs.drop n)) ∨ (E = 10 ∧ p bs = none)) ∧ Below w.heap.size w w'
theorem vector1_part : PartI 91 (pNum 2147483647) := by
  intro w rb ao len cap bs st h
  have HN := hid (h.number 2147483647 (by decide))
  clear h
  go_enter Tryz.func91, Tryz.ntmps91
  go_wp2_with fail
  refine HN.out.mono ?_
  rintro e w1 ⟨⟨y, rfl, hi, hg⟩, hr, ht⟩
  have HA := hid (And.intro hi hg)
  have HR := hid hr
  have HT := hid ht
  clear hi hg hr ht HN
  go_wp2
  go_ret
  exact ⟨⟨y, rfl, HA.out.1, HA.out.2⟩, HR.out, HT.out⟩
set_option maxRecDepth 1000000 in
set_option maxHeartbeats 2000000 in
theorem readByI {p : Rdr Int} (hf : PartI 91 p) (ao : Option Addr) (len cap : Nat) (bs : List Int) (w : World) (h : Held w ao len cap bs) : Calls Tryz.prog 104 #[.slice ao len cap, .func (.func 91) #[] #[]] w (ReadI w len bs p) := by
  obtain ⟨W, hW⟩ : ∃ W, W = w.alloc (.cells #[.slice ao len cap, .int .i64 0, .int .i64 0] 111) := ⟨_, rfl⟩
  have HB : Hid (Below w.heap.size w W) := by rw [hW]; exact (Below.refl _ _).alloc (Nat.le_refl _) _
  obtain ⟨rb, hrb⟩ : ∃ q, q = w.heap.size := ⟨_, rfl⟩
  have hk : Blk W rb 111 [.slice ao len cap, .int .i64 0, .int .i64 0] := by rw [hrb, hW]; exact Blk.new w _ _
  have HRD : Hid (RdAt W rb ao len cap bs (some bs)) := ⟨h.below HB.out (Nat.le_refl _), 0, 0, hk, Nat.zero_le _, .inl ⟨rfl, rfl⟩⟩
  have HPT := hid (hf W rb ao len cap bs (some bs) HRD.out)
  have HW := hid hW
  have HRB := hid hrb
  have HLN : Hid (bs.length = len) := h.hlen
  clear hf h hk hW hrb
  go_enter Tryz.func104, Tryz.ntmps104
  go_wp2_with fail
  rw [← HW.out, ← HRB.out]
  refine HPT.out.mono ?_
  rintro e w1 ⟨⟨y, rfl, hi, hg⟩, hr, ht⟩
  have HI := hid hi
  have HG := hid hg
  have HB1 : Hid (Below w.heap.size w w1) := hid (HB.out.trans (ht.below (fun i hh => by rw [hh, HRB.out]; exact Nat.le_refl _) HB.out.size))
  obtain ⟨at', er, hk1, hat, hst⟩ := hr.blk
  have c1 := hk1.cell (i := 1) rfl
  have c2 := hk1.cell (i := 2) rfl
  have HAT := hid hat
  clear hi hg hr ht hk1 hat HPT
  rcases hst with ⟨h1, rfl⟩ | ⟨h1, rfl⟩
  · have HP : Hid (p bs = some (y, bs.drop at')) := by
      unfold nxt at h1
      rw [Option.bind_some] at h1
      cases hp : p bs with
      | none => rw [hp] at h1; cases h1
      | some t =>
        obtain ⟨x, r⟩ := t
        rw [hp] at h1
        cases h1
        have := HG.out x (bs.drop at') (by rw [Option.bind_some]; exact hp)
        rw [this]
        exact hid rfl
    clear h1
    go_wp2
    go_quiet (fail)
    go_wp2
    go_ret3
    exact ⟨y, at', 0, rfl, HI.out, .inl ⟨rfl, HAT.out, HP.out⟩, below_dn HB1.out _⟩
  · have HP : Hid (p bs = none) := by
      unfold nxt at h1
      rw [Option.bind_some] at h1
      cases hp : p bs with
      | none => exact hid rfl
      | some t => rw [hp] at h1; cases h1
    clear h1
    go_wp2
    go_quiet (fail)
    go_wp2
    go_ret3
    exact ⟨0, 0, 10, rfl, by unfold I64; decide, .inr ⟨rfl, HP.out⟩, below_dn HB1.out _⟩
set_option maxRecDepth 1000000 in
theorem listI11 {p : Rdr Int} (hf : PartI 91 p) (ao : Option Addr) (len cap : Nat) (bs : List Int) (w : World) (pb : Nat) (h : Held w ao len cap bs) (hk : Blk w pb 123 [.func (.func 91) #[] #[]]) : Calls Tryz.prog 103 #[.slice ao len cap, .pointer (some ⟨pb, 0, none⟩)] w (ReadI w len bs p) := by
  have HR := hid (readByI hf ao len cap bs w h)
  have c0 := hk.cell (i := 0) rfl
  clear hf h hk
  go_enter Tryz.func103, Tryz.ntmps103
  go_wp2_with fail
  refine HR.out.mono ?_
  rintro e w1 ⟨y, n, E, rfl, hi, hor, hb⟩
  have HA := hid (And.intro hi (And.intro hor hb))
  clear hi hor hb HR
  go_wp2
  go_ret3
  exact ⟨y, n, E, rfl, HA.out.1, HA.out.2.1, HA.out.2.2⟩
end Go.Proofs.YtmpkbdhihdboiaaGreat
