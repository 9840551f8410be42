/-
  Package codec: ReadList of numbers.
-/
import Derived.Test.YtfmnbehopdmahaaGreatRdD
import Derived.Test.YtfmnbehopdmahaaGreatTexts
import Derived.Test.YtfmnbehopdmahaaGreatCodZ
namespace Go.Proofs.YtfmnbehopdmahaaGreat
open Go.RowKit Go.Maps

theorem cnt_num {b : List Int} {most : Nat} (hb : AllB b) : (pNum most b = none ∧ cntOf b (most : Int) = (0, 0, 10)) ∨ ∃ x n, cntOf b (most : Int) = (x, n, 0) ∧ x ≤ most ∧ n ≤ b.length ∧ pNum most b = some ((x : Int), b.drop n) := by
  rcases cnt_cases hb (most : Int) with h0 | ⟨x, n, h0, hd, _, hx, hn, _⟩
  · left
    refine ⟨?_, h0⟩
    unfold pNum
    unfold cntOf at h0
    by_cases hc : (dec 0 0 b).2.2 = 0 ∧ (dec 0 0 b).1 ≤ most
    · rw [if_pos ⟨hc.1, by omega, by omega⟩] at h0
      rw [h0] at hc
      exact absurd hc.1 (by decide)
    · rw [if_neg hc]
  · right
    refine ⟨x, n, h0, by omega, hn, ?_⟩
    unfold pNum
    rw [hd]
    exact if_pos ⟨rfl, by show x ≤ most; omega⟩
theorem run_cut_lhmR {P : Program} (W : World) (t e : TypeId) (ht : P.underlying t = some (.slice e)) (hz : ∀ w, (Go.sizeOf e).run P w = .ok 1 w) (ao : Option Addr) (len cap l : Nat) (L : Int) (hL : L = (l : Int)) (hl : l ≤ len) (hc : len ≤ cap) :
    (Instr.slice t (.slice ao len cap) (some (.int .i64 L)) (some (.int .i64 (len : Int))) (some (.int .i64 (len : Int)))).run P W = .ok (.slice (cutAt ao len l) (len - l) (len - l)) W := by
  subst hL
  have ht' : P.underlying t = some (.slice (P.elem t)) := by simp [Program.elem, ht]
  have he : P.elem t = e := by simp [Program.elem, ht]
  rw [run_slice_lhm W t _ _ _ ht' .i64 .i64 .i64 _ _ _ (by omega) (by omega) (by omega) (by omega), he, hz]
  simp [Result.andThen, sliced, cutAt]
theorem heldCutR {w : World} {ao : Option Addr} {len cap : Nat} {bs : List Int} (h : Held w ao len cap bs) {l : Nat} (hl : l ≤ len) : Held w (cutAt ao len l) (len - l) (len - l) (bs.drop l) :=
  Held.cutl ⟨h.hlen, Nat.le_refl _, Nat.le_trans h.hcap h.hmax, fun e => by have h1 := h.nil e; have h2 := h.hcap; omega, h.byte, h.cell, h.old⟩ hl
theorem ownBlockR {w : World} {B e sz n : Nat} {v : Value} {xs : List Value} (h : w.ownsRow B e sz v n xs) {b off len cap : Nat} (hv : v = .slice (some ⟨b, off, none⟩) len cap) : B ≤ b := own_lt h b (by rw [hv]; rfl)
theorem hv_nilE (w : World) : HV w none 0 [] := ⟨⟨fun x h => (by cases h), .inl rfl⟩, Nat.le_refl _, Nat.zero_le _⟩
/-- A vector that a reader made: none, if it is empty, else it lies in a block of numbers. -/
structure HN (w : World) (ao : Option Addr) (cap : Nat) (xs : List Int) : Prop where
  hv : HV w ao cap xs
  emp : xs = [] → ao = none
  num : ∀ b off, ao = some ⟨b, off, none⟩ → ∃ cs, Blk w b 3 cs
theorem HN.ne {w : World} {ao : Option Addr} {cap : Nat} {xs : List Int} (h : HN w ao cap xs) {b off : Nat} (e : ao = some ⟨b, off, none⟩) : xs ≠ [] := fun h0 => by
  rw [h.emp h0] at e
  cases e
theorem hnK {F : Nat → Prop} {w w' : World} {ao : Option Addr} {cap : Nat} {xs : List Int} (ht : Turns F w w') (h : HN w ao cap xs) (ho : ∀ b off, ao = some ⟨b, off, none⟩ → xs ≠ [] → ¬ F b) : HN w' ao cap xs :=
  ⟨⟨h.hv.held.turned ht ho, h.hv.room, h.hv.few⟩, h.emp, fun b off e => by
    obtain ⟨cs, hc⟩ := h.num b off e
    exact ⟨cs, ht.blk hc (ho b off e (h.ne e))⟩⟩
theorem HN.below {w w' : World} {ao : Option Addr} {cap : Nat} {xs : List Int} (h : HN w ao cap xs) (hb : Below w.heap.size w w') : HN w' ao cap xs := hnK (F := fun _ => False) (Turns.of_below hb (Nat.le_refl _)) h (fun _ _ _ _ h => h)
theorem hn_nilE (w : World) : HN w none 0 [] := ⟨hv_nilE w, fun _ => rfl, fun b off e => (by cases e)⟩
theorem own_num {w : World} {B n : Nat} {v : Value} {xs : List Int} (h : w.ownsRow B 3 1 v n (ints xs)) {b off len cap : Nat} (e : v = .slice (some ⟨b, off, none⟩) len cap) : ∃ cs, Blk w b 3 cs := by
  rcases h.2 with ⟨h1, _⟩ | ⟨g, cap, cur, rfl, _, hg, _⟩
  · rw [h1] at e; cases e
  · cases e
    exact ⟨cur.toList, by unfold Blk; exact hg⟩
/-- What ReadList answers. -/
def ListI (w : World) (len : Nat) (bs : List Int) (most : Nat) (p : Rdr Int) (e : Ending) (w' : World) : Prop := ∃ (ao : Option Addr) (cap : Nat) (l : List Int) (n : Nat) (E : Int), e = .returned (.tuple #[.slice ao l.length cap, .int .i64 (n : Int), .int .i64 E]) ∧ HN w' ao cap l ∧ (∀ b off, ao = some ⟨b, off, none⟩ → l ≠ [] → w.heap.size ≤ b) ∧ ((E = 0 ∧ n ≤ len ∧ pList most p bs = some (l, bs.drop n)) ∨ (E = 10 ∧ pList most p bs = none)) ∧ Below w.heap.size w w'
theorem eql_read1 (W : World) (pb : Nat) : (binOp .eql 201 (.func (.func 159) #[] #[.pointer (some ⟨pb, 0, none⟩)]) .nilFunc).run Tryz.prog W = .ok (.bool false) W := by kernel_rfl
/-- Between two rounds. -/
structure ListG (w : World) (bs b0 : List Int) (c : Nat) (p : Rdr Int) (k at' : Nat) (v : Value) (wr : World) : Prop where
  ex : ∃ l : List Int, l.length = k ∧ (∀ x ∈ l, I64 x) ∧ wr.ownsRow w.heap.size 3 1 v l.length (ints l) ∧ (l = [] → v = .slice none 0 0) ∧ pRep p c b0 = (pRep p (c - k) (bs.drop at')).map (fun r => (l ++ r.1, r.2))
  bel : Below w.heap.size w wr
set_option maxRecDepth 1000000 in
set_option maxHeartbeats 4000000 in
theorem readListI {p : Rdr Int} (hf : PartI 125 p) (ao : Option Addr) (len cap : Nat) (bs : List Int) (w : World) (pb most : Nat) (hm : most ≤ 4096) (h : Held w ao len cap bs) (hk : Blk w pb 170 [.func (.func 125) #[] #[]]) : Calls Tryz.prog 158 #[.slice ao len cap, .int .i64 (most : Int), .func (.func 159) #[] #[.pointer (some ⟨pb, 0, none⟩)]] w (ListI w len bs most p) := by
  have hrc := readCount_any ao len cap bs (most : Int) w h (by omega) (by omega)
  have heq := eql_read1
  have HH := hid h
  have HK := hid hk
  have HFF := hid hf
  have HLN : Hid (bs.length = len) := h.hlen
  have HCP : Hid (len ≤ cap) := h.hcap
  have hmx : (len : Int) ≤ 9223372036854775807 := by have h1 := h.hcap; have h2 := h.hmax; unfold maxLen at h2; omega
  rcases cnt_num (most := most) h.byte with ⟨hp, hc⟩ | ⟨x, n, hc, hx, hn, hp⟩
  · rw [hc] at hrc
    have HRC := hid hrc
    have HP := hid hp
    clear hrc hc hp h hk hf
    go_enter Tryz.func158, Tryz.ntmps158
    go_wp2_with fail
    refine HRC.out.mono ?_
    rintro e w1 ⟨rfl, rfl⟩
    go_wp2
    go_ret3
    exact ⟨none, 0, [], 0, 10, rfl, hn_nilE _, fun b off e => (by cases e), .inr ⟨rfl, by unfold pList; rw [HP.out]; rfl⟩, Below.refl _ _⟩
  · rw [hc] at hrc
    have HRC := hid hrc
    have HPL : Hid (pList most p bs = pRep p x (bs.drop n)) := by show _ = _; unfold pList; rw [hp]; show pRep p (x : Int).toNat (bs.drop n) = _; rw [Int.toNat_natCast]
    have hxm : x ≤ 4096 := by omega
    have hnl : n ≤ len := by rw [← HLN.out]; exact hn
    have HNL := hid hnl
    clear hrc hc hp h hk hf hx hn
    go_enter Tryz.func158, Tryz.ntmps158
    go_wp2_with fail
    refine HRC.out.mono ?_
    rintro e w1 ⟨rfl, rfl⟩
    clear HRC
    go_wp2
    go_loopw [10, 12, 13, 14, 15, 33] (fun a v _ _ _ i wr => ∃ (k at' : Nat), k ≤ x ∧ at' ≤ len ∧ i = .int .i64 k ∧ a = .int .i64 at' ∧ Hid (ListG w1 bs (bs.drop n) x p k at' v wr)) (fun _ _ _ _ _ i _ => x - (intOf i).toNat)
    case atStart => exact ⟨0, n, Nat.zero_le _, HNL.out, rfl, rfl, ⟨⟨[], rfl, fun y hy => (by cases hy), World.ownsRow_nil _ _ _ _, fun _ => rfl, by simp⟩, Below.refl _ _⟩⟩
    case round =>
      obtain ⟨k, at', hkx, hat, rfl, rfl, HG⟩ := hrel
      obtain ⟨l, hll, hl64, hrow, hemp, hrep⟩ := HG.out.ex
      have HB := hid HG.out.bel
      have HL64 := hid hl64
      have HROW := hid hrow
      have HREP := hid hrep
      have HLL := hid hll
      obtain ⟨eo, ec, hv⟩ := own_sliceC hrow
      rw [hll] at hv
      subst hv
      have HEMP := hid hemp
      clear hrow hemp hrep hl64 HG
      by_cases hlt : k < x
      · have hlt' : (k : Int) < (x : Int) := by omega
        have HLT := hid hlt
        have hcut : ∀ W, (Instr.slice 66 (.slice ao len cap) (some (.int .i64 (at' : Int))) (some (.int .i64 (len : Int))) (some (.int .i64 (len : Int)))).run Tryz.prog W = .ok (.slice (cutAt ao len at') (len - at') (len - at')) W := fun W => run_cut_lhmR W 66 5 Tryz.underlying66 size1R ao len cap at' _ rfl hat HCP.out
        obtain ⟨co, hco⟩ : ∃ q, q = cutAt ao len at' := ⟨_, rfl⟩
        obtain ⟨L, hL⟩ : ∃ q, q = len - at' := ⟨_, rfl⟩
        have hhc : Held w1 co L L (bs.drop at') := by rw [hco, hL]; exact heldCutR HH.out hat
        rw [← hco, ← hL] at hcut
        have HLE : Hid (at' + L = len) := hid (by omega)
        have HRD := hid (listI11 HFF.out co L L (bs.drop at') wr pb (hhc.below HB.out (Nat.le_refl _)) (HK.out.below HB.out HK.out.lt))
        have HAT := hid hat
        clear hlt hkx hat hco hL hhc hll
        go_wp2_with fail
        refine HRD.out.mono ?_
        rintro e w3 ⟨y, m, E, rfl, hi, hor, hb3⟩
        have HI := hid hi
        have HB3 := hid (bt' HB.out hb3)
        have HROW3 : Hid (w3.ownsRow w1.heap.size 3 1 (.slice eo k ec) l.length (ints l)) := (Turns.of_below (F := fun _ => False) hb3 (Nat.le_refl _)).row HROW.out (fun _ _ h => h)
        clear hi hb3 HRD
        rcases hor with ⟨rfl, hm2, hp2⟩ | ⟨rfl, hp2⟩
        · have hm3 : ¬ ((m : Int) < 0) := by omega
          have hsub : IntKind.i64.wrap ((len : Int) - (at' : Int)) = (L : Int) := by rw [IntKind.wrap_i64]; have h1 := HLE.out; omega
          have hm4 : ¬ ((L : Int) < (m : Int)) := by omega
          have hsum : IntKind.i64.wrap ((at' : Int) + (m : Int)) = ((at' + m : Nat) : Int) := by rw [IntKind.wrap_i64]; have h1 := HLE.out; omega
          have HM2 : Hid (at' + m ≤ len) := by have h1 := HLE.out; exact hid (by omega)
          have HNEW : Hid (pRep p x (bs.drop n) = (pRep p (x - (k + 1)) (bs.drop (at' + m))).map (fun r => ((l ++ [y]) ++ r.1, r.2))) := by
            show _ = _
            rw [HREP.out]
            have hs : x - k = (x - (k + 1)) + 1 := by have := HLT.out; omega
            rw [hs]
            show ((p (bs.drop at')).bind fun r => (pRep p (x - (k + 1)) r.2).bind fun t => some (r.1 :: t.1, t.2)).map _ = _
            rw [hp2, Option.bind_some, List.drop_drop]
            cases pRep p (x - (k + 1)) (bs.drop (at' + m)) with
            | none => rfl
            | some t => simp
          have HFEW : Hid (l.length < 17592186044416) := by have h1 := HLL.out; have h2 := HLT.out; exact hid (by omega)
          clear hp2 hm2
          go_wp2_with (at_builtin; refine wpList_append_one w3 _ y rfl rfl _ _ rfl w1.heap.size _ l rfl rfl HROW3.out HB3.out.size HFEW.out ?_; intro v' w5 hown hb5; have HO5 := hid hown; have HB5 := hid (HB3.out.trans hb5); clear hown hb5)
          go_roundw
          case rel => exact ⟨k + 1, at' + m, HLT.out, HM2.out, by go_num, by rfl, ⟨⟨l ++ [y], by rw [List.length_append, HLL.out]; rfl, fun z hz => by rcases List.mem_append.1 hz with h1 | h1; exact HL64.out z h1; rw [List.mem_singleton.1 h1]; exact HI.out, HO5.out, (fun h0 => absurd h0 (List.append_ne_nil_of_right_ne_nil _ (by simp))), HNEW.out⟩, HB5.out⟩⟩
          case measure => have := HLT.out; simp [intOf]; omega
        · have HNO : Hid (pRep p x (bs.drop n) = none) := by
            show _ = _
            rw [HREP.out]
            have hs : x - k = (x - (k + 1)) + 1 := by have := HLT.out; omega
            rw [hs]
            show ((p (bs.drop at')).bind fun r => (pRep p (x - (k + 1)) r.2).bind fun t => some (r.1 :: t.1, t.2)).map _ = _
            rw [hp2]
            rfl
          clear hp2
          go_wp2
          go_ret3
          exact ⟨none, 0, [], 0, 10, rfl, hn_nilE _, fun b off e => (by cases e), .inr ⟨rfl, by rw [HPL.out]; exact HNO.out⟩, HB3.out⟩
      · have hlt' : ¬ (k : Int) < (x : Int) := by omega
        obtain rfl : k = x := by omega
        have HFIN : Hid (pRep p k (bs.drop n) = some (l, bs.drop at')) := by show _ = _; rw [HREP.out, Nat.sub_self]; simp [pRep]
        obtain ⟨ao2, cap2, hv2, hhv⟩ := hv_of_own HROW.out (fun z hz => HL64.out z hz) (by rw [hll]; omega)
        have HHV : Hid (HN _ ao2 cap2 l) := hid ⟨hhv, (fun h0 => by have e := HEMP.out h0; rw [hv2] at e; injection e), (fun b off e => own_num HROW.out (by rw [hv2, e]))⟩
        have HAT := hid hat
        have HRB : Hid (∀ b off, ao2 = some ⟨b, off, none⟩ → l ≠ [] → w1.heap.size ≤ b) := fun b off e _ => ownBlockR HROW.out (by rw [hv2, e])
        rw [HLL.out] at hv2
        cases hv2
        clear hlt hkx hat hhv
        go_wp2
        go_ret3
        exact ⟨eo, ec, l, at', 0, by rw [HLL.out]; rfl, HHV.out, HRB.out, .inl ⟨rfl, HAT.out, by rw [HPL.out]; exact HFIN.out⟩, HB.out⟩
end Go.Proofs.YtfmnbehopdmahaaGreat
/-
  Package codec: a reader's vectors.
-/
namespace Go.Proofs.YtfmnbehopdmahaaGreat
open Go.RowKit Go.Maps

set_option maxRecDepth 1000000 in
theorem listI1 {p : Rdr Int} (hf : PartI 125 p) (ao : Option Addr) (len cap : Nat) (bs : List Int) (w : World) (mb pb most : Nat) (hm : most ≤ 4096) (h : Held w ao len cap bs) (hkm : Blk w mb 3 [.int .i64 (most : Int)]) (hk : Blk w pb 170 [.func (.func 125) #[] #[]]) : Calls Tryz.prog 157 #[.slice ao len cap, .pointer (some ⟨mb, 0, none⟩), .pointer (some ⟨pb, 0, none⟩)] w (ListI w len bs most p) := by
  have HR := hid (readListI hf ao len cap bs w pb most hm h hk)
  have c0 := hkm.cell (i := 0) rfl
  clear hf h hk hkm
  go_enter Tryz.func157, Tryz.ntmps157
  go_wp2_with fail
  refine HR.out.mono ?_
  rintro e w1 ⟨ao2, cap2, l, n, E, rfl, hv, hab, hor, hb⟩
  have HA := hid (And.intro hv (And.intro hab (And.intro hor hb)))
  clear hv hab hor hb HR
  go_wp2
  go_ret3
  exact ⟨ao2, cap2, l, n, E, rfl, HA.out.1, HA.out.2.1, HA.out.2.2.1, HA.out.2.2.2⟩
set_option maxRecDepth 1000000 in
set_option maxHeartbeats 4000000 in
theorem RdAt.takeL {w : World} {rb : Nat} {ao : Option Addr} {len cap : Nat} {bs : List Int} {st : Option (List Int)} {mb pb : Nat} (h : RdAt w rb ao len cap bs st) (p : Rdr (List Int)) (hread : ∀ (at' : Nat) (co : Option Addr) (L C : Nat), Held w co L C (bs.drop at') → L = (bs.drop at').length → ∀ V, ScL w V → Calls Tryz.prog 157 #[.slice co L C, .pointer (some ⟨mb, 0, none⟩), .pointer (some ⟨pb, 0, none⟩)] V (fun e w' => ∃ (ao2 : Option Addr) (cap2 : Nat) (y : List Int) (n : Nat) (E : Int), e = .returned (.tuple #[.slice ao2 y.length cap2, .int .i64 (n : Int), .int .i64 E]) ∧ Hid ((E = 0 ∧ n ≤ L ∧ p (bs.drop at') = some (y, (bs.drop at').drop n)) ∨ (E = 10 ∧ p (bs.drop at') = none)) ∧ Hid (HN w' ao2 cap2 y ∧ ∀ b off, ao2 = some ⟨b, off, none⟩ → (y : List Int) ≠ [] → w.heap.size ≤ b) ∧ ScL w w')) : Calls Tryz.prog 156 #[.pointer (some ⟨rb, 0, none⟩), .func (.func 157) #[] #[.pointer (some ⟨mb, 0, none⟩), .pointer (some ⟨pb, 0, none⟩)]] w fun e w' => (∃ (ao2 : Option Addr) (cap2 : Nat) (y : List Int), e = .returned (.slice ao2 y.length cap2) ∧ Got st p y ∧ HN w' ao2 cap2 y ∧ ∀ b off, ao2 = some ⟨b, off, none⟩ → (y : List Int) ≠ [] → w.heap.size ≤ b) ∧ RdAt w' rb ao len cap bs (nxt st p) ∧ Turns (fun i => i = rb) w w' := by
  obtain ⟨at', er, hk, hat, hst⟩ := h.blk
  have HH := hid h
  have HK := hid hk
  have c0 := hk.cell (i := 0) rfl
  have c1 := hk.cell (i := 1) rfl
  have c2 := hk.cell (i := 2) rfl
  have f1 := hk.frozen 1
  have f2 := hk.frozen 2
  rcases hst with ⟨rfl, rfl⟩ | ⟨rfl, rfl⟩
  · have hcut : ∀ W, (Instr.slice 66 (.slice ao len cap) (some (.int .i64 (at' : Int))) none none).run Tryz.prog W = .ok (.slice (cutAt ao cap at') (len - at') (cap - at')) W := fun W => run_cut_l W 66 5 Tryz.underlying66 size1R ao len cap at' _ rfl hat
    obtain ⟨co, hco⟩ : ∃ q, q = cutAt ao cap at' := ⟨_, rfl⟩
    obtain ⟨L, hL⟩ : ∃ q, q = len - at' := ⟨_, rfl⟩
    obtain ⟨C, hC⟩ : ∃ q, q = cap - at' := ⟨_, rfl⟩
    have hhc : Held w co L C (bs.drop at') := by rw [hco, hL, hC]; exact h.held.cutl hat
    rw [← hco, ← hL, ← hC] at hcut
    have HRD := hid (hread at' co L C hhc (by rw [hL, List.length_drop, h.held.hlen]))
    have HSA : Hid (∀ V, ScL w V → (ScL w V ∧ V.cell? ⟨rb, 0, none⟩ = some (.slice ao len cap) ∧ V.cell? ⟨rb, 1, none⟩ = some (.int .i64 (at' : Int)))) := fun V hV => ⟨hV, (hV.out.cell (p := ⟨rb, 0, none⟩) HK.out.lt).trans c0, (hV.out.cell (p := ⟨rb, 1, none⟩) HK.out.lt).trans c1⟩
    have HLE0 : Hid (at' + L = len) := hid (by omega)
    have HMX : Hid (len ≤ 9223372036854775807) := by have h1 := h.held.hcap; have h2 := h.held.hmax; unfold maxLen at h2; exact hid (by omega)
    clear hread hhc hco hL hC h hk
    go_enter Tryz.func156, Tryz.ntmps156
    go_wp2
    go_region_held3 (fun V => ScL w V ∧ V.cell? ⟨rb, 0, none⟩ = some (.slice ao len cap) ∧ V.cell? ⟨rb, 1, none⟩ = some (.int .i64 (at' : Int)))
      (first | (refine HSA.out _ ?_; (repeat (first | with_reducible assumption | with_reducible exact ScL.start _ | with_reducible apply ScL.dr)); done))
      ((go_at_call 157; with_reducible refine (HRD.out _ (by (repeat (first | assumption | exact ScL.start _ | apply ScL.dr)))).mono ?_; rintro e w5 ⟨ao2, cap2, y, n, E, rfl, HOR, HVL, hs5⟩))
    all_goals
      rcases HOR.out with ⟨rfl, hn, hp⟩ | ⟨rfl, hp⟩
      · have HLE : Hid (at' + n ≤ len) := by have h1 := HLE0.out; exact hid (by omega)
        clear HOR hn
        have hk5 := HK.out.below hs5.out HK.out.lt
        have d1 := hk5.cell (i := 1) rfl
        have g1 := hk5.frozen 1
        have hsum : IntKind.i64.wrap ((at' : Int) + (n : Int)) = (at' : Int) + (n : Int) := by rw [IntKind.wrap_i64]; have h1 := HLE.out; have h2 := HMX.out; omega
        obtain ⟨W3, hW3⟩ : ∃ V, V = w5.setCell ⟨rb, 1, none⟩ (.int .i64 ((at' : Int) + (n : Int))) := ⟨_, rfl⟩
        have hT : Turns (fun i => i = rb) w5 W3 := by rw [hW3]; exact (Turns.refl (fun i => i = rb) w5).setCell (p := ⟨rb, 1, none⟩) (.inl rfl) _
        have HF : Hid (RdAt W3 rb ao len cap bs (nxt (some (bs.drop at')) p)) := by
          refine ⟨(HH.out.held.below hs5.out (Nat.le_refl _)).turned hT (held_off (HH.out.held.below hs5.out (Nat.le_refl _)) hk5), at' + n, 0, by rw [hW3]; exact hk5.set 1 _, by have h1 := HLE.out; omega, .inl ⟨?_, rfl⟩⟩
          unfold nxt
          rw [Option.bind_some, hp, ← List.drop_drop]
          rfl
        have HT : Hid (Turns (fun i => i = rb) w W3) := (Turns.of_below (F := fun i => i = rb) hs5.out (Nat.le_refl _)).trans hT (fun i hi => .inl hi)
        have HVF : Hid (HN W3 ao2 cap2 y ∧ ∀ b off, ao2 = some ⟨b, off, none⟩ → (y : List Int) ≠ [] → w.heap.size ≤ b) := ⟨hnK hT HVL.out.1 (fun b off e hne hb => by have h1 := HVL.out.2 b off e hne; have h2 := HK.out.lt; omega), HVL.out.2⟩
        have HP := hid hp
        clear hk5 hT hs5 hp
        go_wp2
        rw [← hW3]
        go_ret
        exact ⟨⟨ao2, cap2, y, rfl, (fun x r hx => by rw [Option.bind_some, HP.out] at hx; cases hx; rfl), HVF.out⟩, HF.out, HT.out⟩
      · clear HOR
        have hk5 := HK.out.below hs5.out HK.out.lt
        have d2 := hk5.cell (i := 2) rfl
        have g2 := hk5.frozen 2
        obtain ⟨W3, hW3⟩ : ∃ V, V = w5.setCell ⟨rb, 2, none⟩ (.int .i64 10) := ⟨_, rfl⟩
        have hT : Turns (fun i => i = rb) w5 W3 := by rw [hW3]; exact (Turns.refl (fun i => i = rb) w5).setCell (p := ⟨rb, 2, none⟩) (.inl rfl) _
        have HF : Hid (RdAt W3 rb ao len cap bs (nxt (some (bs.drop at')) p)) := by
          refine ⟨(HH.out.held.below hs5.out (Nat.le_refl _)).turned hT (held_off (HH.out.held.below hs5.out (Nat.le_refl _)) hk5), at', 10, by rw [hW3]; exact hk5.set 2 _, hat, .inr ⟨?_, rfl⟩⟩
          unfold nxt
          rw [Option.bind_some, hp]
          rfl
        have HT : Hid (Turns (fun i => i = rb) w W3) := (Turns.of_below (F := fun i => i = rb) hs5.out (Nat.le_refl _)).trans hT (fun i hi => .inl hi)
        have HVF : Hid (HN W3 (none : Option Addr) 0 [] ∧ ∀ b off, (none : Option Addr) = some ⟨b, off, none⟩ → ([] : List Int) ≠ [] → w.heap.size ≤ b) := (And.intro (hn_nilE _) (fun b off e => (by cases e)))
        have HP := hid hp
        clear hk5 hT hs5 hp
        go_wp2
        rw [← hW3]
        go_ret
        exact ⟨⟨(none : Option Addr), 0, [], rfl, (fun x r hx => by rw [Option.bind_some, HP.out] at hx; cases hx), HVF.out⟩, HF.out, HT.out⟩
  · clear hk h hread
    go_enter Tryz.func156, Tryz.ntmps156
    go_wp2
    go_ret
    exact ⟨⟨(none : Option Addr), 0, [], rfl, fun x r hx => (by cases hx), (And.intro (hn_nilE _) (fun b off e => (by cases e)))⟩, HH.out, Turns.refl _ _⟩
set_option maxRecDepth 1000000 in
set_option maxHeartbeats 1000000 in
/-- listOf of numbers. -/
theorem RdAt.listI {w : World} {rb : Nat} {ao : Option Addr} {len cap : Nat} {bs : List Int} {st : Option (List Int)} (h : RdAt w rb ao len cap bs st) {p : Rdr Int} (hf : PartI 125 p) (most : Nat) (hm : most ≤ 4096) : Calls Tryz.prog 124 #[.pointer (some ⟨rb, 0, none⟩), .int .i64 (most : Int), .func (.func 125) #[] #[]] w fun e w' => (∃ (ao2 : Option Addr) (cap2 : Nat) (y : List Int), e = .returned (.slice ao2 y.length cap2) ∧ Got st (pList most p) y ∧ HN w' ao2 cap2 y ∧ ∀ b off, ao2 = some ⟨b, off, none⟩ → y ≠ [] → w.heap.size ≤ b) ∧ RdAt w' rb ao len cap bs (nxt st (pList most p)) ∧ Turns (fun i => i = rb) w w' := by
  obtain ⟨W1, hW1⟩ : ∃ W, W = w.alloc (.cells #[.int .i64 (most : Int)] 3) := ⟨_, rfl⟩
  obtain ⟨W, hW⟩ : ∃ W, W = W1.alloc (.cells #[.func (.func 125) #[] #[]] 170) := ⟨_, rfl⟩
  have hs1 : W1.heap.size = w.heap.size + 1 := by rw [hW1]; simp
  have hb1 : Below w.heap.size w W1 := by rw [hW1]; exact (Below.refl _ _).alloc (Nat.le_refl _) _
  have hb : Below w.heap.size w W := by rw [hW]; exact hb1.alloc hb1.size _
  obtain ⟨mb, hmb⟩ : ∃ q, q = w.heap.size := ⟨_, rfl⟩
  obtain ⟨pb, hpb⟩ : ∃ q, q = w.heap.size + 1 := ⟨_, rfl⟩
  have HKM : Hid (Blk W mb 3 [.int .i64 (most : Int)]) := by rw [hmb, hW, hW1]; exact (Blk.new w _ _).alloc _
  have HKP : Hid (Blk W pb 170 [.func (.func 125) #[] #[]]) := by rw [hpb, hW, ← hs1]; exact Blk.new W1 _ _
  have HTK := hid ((h.below hb).takeL (mb := mb) (pb := pb) (pList most p) (fun at' co L C hc hL V hV => by
    refine (listI1 hf co L C (bs.drop at') V mb pb most hm (hc.below hV.out (Nat.le_refl _)) (HKM.out.below hV.out HKM.out.lt) (HKP.out.below hV.out HKP.out.lt)).mono ?_
    rintro e w' ⟨ao2, cap2, l, n, E, he, hv, hab, hor, hb'⟩
    exact ⟨ao2, cap2, l, n, E, he, hor, ⟨hv, fun b off e hne => Nat.le_trans hV.out.size (hab b off e hne)⟩, hV.go hb'⟩))
  have HW : Hid (W = (w.alloc (.cells #[.int .i64 (most : Int)] 3)).alloc (.cells #[.func (.func 125) #[] #[]] 170)) := by show _ = _; rw [hW, hW1]
  have HMB := hid hmb
  have HPB := hid hpb
  have HB := hid hb
  clear h hf hW hW1 hs1 hb1 hb hmb hpb
  go_enter Tryz.func124, Tryz.ntmps124
  go_wp2_with fail
  rw [← HW.out, ← HPB.out, ← HMB.out]
  refine HTK.out.mono ?_
  rintro e w1 ⟨⟨ao2, cap2, y, rfl, hg, hv, hab⟩, hr, ht⟩
  have HA := hid (And.intro hg (And.intro hv (fun b off e hne => Nat.le_trans HB.out.size (hab b off e hne))))
  have HR := hid hr
  have HT : Hid (Turns (fun i => i = rb) w w1) := (Turns.of_below (F := fun i => i = rb) HB.out (Nat.le_refl _)).trans ht (fun _ hi => .inl hi)
  clear hg hv hab hr ht HTK
  go_wp2
  go_ret
  exact ⟨⟨ao2, cap2, y, rfl, HA.out.1, HA.out.2.1, HA.out.2.2⟩, HR.out, HT.out⟩
set_option maxRecDepth 1000000 in
set_option maxHeartbeats 1000000 in
theorem RdAt.vector {w : World} {rb : Nat} {ao : Option Addr} {len cap : Nat} {bs : List Int} {st : Option (List Int)} (h : RdAt w rb ao len cap bs st) : Calls Tryz.prog 78 #[.pointer (some ⟨rb, 0, none⟩)] w fun e w' => (∃ (ao2 : Option Addr) (cap2 : Nat) (y : List Int), e = .returned (.slice ao2 y.length cap2) ∧ Got st pVec y ∧ HN w' ao2 cap2 y ∧ ∀ b off, ao2 = some ⟨b, off, none⟩ → y ≠ [] → w.heap.size ≤ b) ∧ RdAt w' rb ao len cap bs (nxt st pVec) ∧ Turns (fun i => i = rb) w w' := by
  have HL := hid (h.listI vector1_part 7 (by decide))
  have HLT : Hid (rb < w.heap.size) := by obtain ⟨_, _, hk, _⟩ := h.blk; exact hid hk.lt
  clear h
  go_enter Tryz.func78, Tryz.ntmps78
  go_wp2_with fail
  refine HL.out.mono ?_
  rintro e w1 ⟨⟨ao2, cap2, y, rfl, hg, hv, hab⟩, hr, ht⟩
  obtain ⟨N, HNL⟩ : ∃ n, Hid (y.length = n) := ⟨_, hid rfl⟩
  rw [HNL.out]
  have HPN := hid (codecPlain_okC w1 ao2 cap2 y N HNL.out hv.hv)
  have hdm := hr.demand (decide (y.length = 0) || decide (y.getD (y.length - 1) 0 ≠ 0))
  rw [nxt_if (fun v => decide (v.length = 0) || decide (v.getD (v.length - 1) 0 ≠ 0)) hg, HNL.out] at hdm
  have HDM := hid hdm
  obtain ⟨b, HBB⟩ : ∃ b, Hid ((decide (N = 0) || decide (y.getD (N - 1) 0 ≠ 0)) = b) := ⟨_, hid rfl⟩
  rw [HBB.out] at HPN HDM
  have HG := hid (got_if (fun v => decide (v.length = 0) || decide (v.getD (v.length - 1) 0 ≠ 0)) hg)
  have HVV := hid hv
  have HAB := hid hab
  have HT := hid ht
  clear hg hv hab hr ht hdm HL
  go_wp2_with fail
  refine HPN.out.mono ?_
  rintro e w2 ⟨rfl, rfl⟩
  go_wp2_with fail
  refine HDM.out.mono ?_
  rintro e w3 ⟨rfl, hr3, ht3⟩
  have HR3 := hid hr3
  have HV3 : Hid (HN w3 ao2 cap2 y) := hnK ht3 HVV.out (fun b off e hne hb => by have h1 := HAB.out b off e hne; have h2 := HLT.out; omega)
  have HT3 := hid (turns_one HT.out ht3)
  clear hr3 ht3 HDM HPN
  go_wp2
  go_ret
  exact ⟨⟨ao2, cap2, y, by rw [HNL.out]; rfl, HG.out, HV3.out, HAB.out⟩, HR3.out, HT3.out⟩
end Go.Proofs.YtfmnbehopdmahaaGreat
