/-
  The document's disk: Crash.
-/
import Derived.Test.YtjfohnkfcfifeaaRxH
namespace Go.Proofs.Ytjfohnkfcfifeaa
open Go.RowKit Go.Maps
set_option linter.unusedSimpArgs false
section
variable {w : World} {B x : Nat} {size : Int} {g : Xd} {cap : Nat}
theorem crashC_bad {ts : List (ByteArray × Int)} {i : Nat} (hi : i < ts.length) (h : ¬ okR g (ts.take i) ts[i]) : crashC g ts = 1 ∧ crashX g ts = g := by
  have hn : ¬ okRs g ts := fun hh => h (hh i hi)
  exact ⟨by unfold crashC; rw [if_neg hn], by unfold crashX; rw [if_neg hn]⟩
def ValR (g : Xd) (t : ByteArray × Int) : Prop := 0 ≤ t.2 ∧ ¬ rint g.L t.1 < 0 ∧ t.2 ≤ ((fileAt g t.1).bytes.size : Int) - (fileAt g t.1).sure
theorem below_toT {a b : World} (h : Below a.heap.size a b) : Turns (fun _ => False) a b := Turns.of_below h (Nat.le_refl _)
def Xd.mid (g : Xd) (ts : List (ByteArray × Int)) (k : Nat) : Xd := { g with L := (g.L.take k).map (fellR ts) ++ g.L.drop k }
theorem Xd.mid_zero (g : Xd) (ts : List (ByteArray × Int)) : g.mid ts 0 = g := by unfold Xd.mid; simp
theorem Xd.mid_len (g : Xd) (ts : List (ByteArray × Int)) (k : Nat) : (g.mid ts k).L.length = g.L.length := mapTo_len _ _ _
/-- Between two rounds of the second loop. -/
def CrAt (B : Nat) (w : World) (x : Nat) (size : Int) (b n cap : Nat) (g : Xd) (ts : List (ByteArray × Int)) (k : Nat) (V : World) : Prop := XdAt V B x size (g.mid ts k) (some ⟨b, 0, none⟩) cap ∧ Turns (FootZ x (some ⟨b, 0, none⟩) n cap) w V
theorem sum_step {ts : List (ByteArray × Int)} (hok : ∀ i (hi : i < ts.length), tfind (ts.take i) ts[i].1 = none) {j : Nat} (hj : j < ts.length) (s : ByteArray) : keepOf (ts.take (j + 1)) s = if ts[j].1 = s then keepOf (ts.take j) s + ts[j].2 else keepOf (ts.take j) s := by
  unfold keepOf
  have h1 := hok j hj
  rw [List.take_succ_eq_append_getElem hj, tfind_snoc _ _ h1]
  by_cases e : ts[j].1 = s
  · subst e
    rw [if_pos rfl, if_pos rfl, h1]
    simp
  · rw [if_neg (fun h => e h.symm), if_neg e]
theorem turns_cellX {F : Nat → Prop} {a b : World} (ht : Turns F a b) {p : Addr} (hl : p.block < a.heap.size) (hn : ¬ F p.block) : b.cell? p = a.cell? p := by
  have h := ht.block p.block hl hn
  unfold World.cell?
  rw [h]
theorem keep_bound {ts : List (ByteArray × Int)} (hok : okRs g ts) (hu : g.L.Pairwise (fun a b => a.name ≠ b.name)) {k : Nat} (hk : k < g.L.length) (hs : 0 ≤ g.L[k].sure ∧ g.L[k].sure ≤ g.L[k].bytes.size) : 0 ≤ g.L[k].sure + keepOf ts g.L[k].name ∧ g.L[k].sure + keepOf ts g.L[k].name ≤ g.L[k].bytes.size := by
  unfold keepOf
  cases hf : tfind ts g.L[k].name with
  | none => simp; exact hs
  | some v =>
    unfold tfind at hf
    simp only [Option.map_eq_some_iff] at hf
    obtain ⟨t, ht, rfl⟩ := hf
    have h1 := List.mem_of_find?_eq_some ht
    have h2 := List.find?_some ht
    simp only [decide_eq_true_eq] at h2
    obtain ⟨j, hj, rfl⟩ := List.getElem_of_mem h1
    have h3 := hok j hj
    obtain ⟨_, h4, h5, h6⟩ := h3
    have h7 : ridx g.L ts[j].1 = k := rnames_unique hu hk h2.symm
    have h8 : fileAt g ts[j].1 = g.L[k] := by rw [fileAt_eq (by rw [h7]; exact hk)]; simp only [h7]
    rw [h8] at h6
    simp only [Option.getD_some]
    omega
theorem one_bound {ts : List (ByteArray × Int)} (hok : okRs g ts) (hu : g.L.Pairwise (fun a b => a.name ≠ b.name)) {k : Nat} (hk : k < g.L.length) {j : Nat} (hj : j < ts.length) (he : ts[j].1 = g.L[k].name) : keepOf (ts.take j) g.L[k].name = 0 ∧ 0 ≤ ts[j].2 ∧ ts[j].2 ≤ (g.L[k].bytes.size : Int) - g.L[k].sure := by
  obtain ⟨h3, h4, h5, h6⟩ := hok j hj
  have h7 : ridx g.L ts[j].1 = k := rnames_unique hu hk he.symm
  have h8 : fileAt g ts[j].1 = g.L[k] := by rw [fileAt_eq (by rw [h7]; exact hk)]; simp only [h7]
  rw [h8] at h6
  refine ⟨?_, h4, h6⟩
  unfold keepOf
  rw [← he, h3]
  rfl
set_option maxRecDepth 1000000 in
set_option maxHeartbeats 4000000 in
theorem XdAt.crash {eo : Option Addr} (h : XdAt w B x size g eo cap) (hok : XdOk g) (hu : g.L.Pairwise (fun a b => a.name ≠ b.name)) (ao : Option Addr) (cp : Nat) (ts : List (ByteArray × Int)) (hT : HeldT w ao ts) (m : Nat) (hm : ts.length = m) (hsep : ∀ a, ao = some a → ts ≠ [] → ¬ FootZ x eo g.L.length cap a.block) : Calls Try.prog 35 #[.pointer (some ⟨x, 0, none⟩), .slice ao m cp] w fun e w' => e = .returned (.int .i64 (crashC g ts)) ∧ XdTo B w w' x size (FootZ x eo g.L.length cap) (crashX g ts) := by
  have H := hid h
  have HOKG := hid hok
  have HU := hid hu
  have HT := hid hT
  have HM := hid hm
  have HMF : Hid (m ≤ 140737488355328) := by rw [← HM.out]; exact hT.few
  have HSEP := hid hsep
  obtain ⟨n, HN⟩ : ∃ n, Hid (g.L.length = n) := ⟨_, hid rfl⟩
  have HF : Hid (n ≤ 64) := by rw [← HN.out]; exact h.few
  clear h hok hu hT hm hsep
  go_enter Try.func35, Try.ntmps35
  go_wp2
  go_loopw [5] (fun i wr => ∃ k : Nat, k ≤ m ∧ i = .int .i64 k ∧ Hid (∀ i (hi : i < ts.length), i < k → okR g (ts.take i) ts[i]) ∧ Hid (Below w.heap.size w wr)) (fun i _ => m - (intOf i).toNat)
  case atStart => exact ⟨0, Nat.zero_le _, rfl, fun i _ hi => (by omega), Below.refl _ _⟩
  case round =>
    obtain ⟨k, hk, rfl, HR, HB⟩ := hrel
    have HX := hid (H.out.below HB.out)
    by_cases hlt : k < m
    · have hlt' : (k : Int) < (m : Int) := by omega
      have hk0 : (0 : Int) ≤ (k : Int) := by omega
      have HKX : Hid (k < ts.length) := by rw [HM.out]; exact hlt
      have HKM : Hid (k + 1 ≤ m) := (by omega : k + 1 ≤ m)
      have hwk : wrap64 ((k : Int) + 1) = (k : Int) + 1 := wrapN (by omega) (by have := HMF.out; omega)
      obtain ⟨tb, toff, hao, htl, hcs⟩ : ∃ b off, ao = some ⟨b, off, none⟩ ∧ b < w.heap.size ∧ ∀ j (hj : j < ts.length), w.cell? ⟨b, off + j * 2, none⟩ = some (.string ts[j].1) ∧ w.cell? ⟨b, off + j * 2 + 1, none⟩ = some (.int .i64 ts[j].2) := by
        rcases HT.out.cell with h0 | hc
        · exfalso
          have := HKX.out
          rw [h0] at this
          cases this
        · exact hc
      subst hao
      have HCS := hid hcs
      have HTL := hid htl
      obtain ⟨⟨tn, tv⟩, HTQ⟩ : ∃ z, Hid (ts[k]'HKX.out = z) := ⟨_, hid rfl⟩
      have HBAD : Hid (¬ okR g (ts.take k) (tn, tv) → crashC g ts = 1 ∧ crashX g ts = g) := fun hh => crashC_bad HKX.out (by rw [HTQ.out]; exact hh)
      have c0 := (HB.out.cell (p := ⟨tb, toff + k * 2, none⟩) htl).trans (hcs k HKX.out).1
      have c1 := (HB.out.cell (p := ⟨tb, toff + k * 2 + 1, none⟩) htl).trans (hcs k HKX.out).2
      rw [HTQ.out] at c0 c1
      simp only at c0 c1
      have HC1 := hid c1
      have HFI := hid (HX.out.find tn)
      obtain ⟨fi, HFIE⟩ : ∃ fi, Hid (rint g.L tn = fi) := ⟨_, hid rfl⟩
      rw [HFIE.out] at HFI
      clear hcs htl hlt hk
      go_wp2_with fail
      clear c0 c1
      refine HFI.out.mono ?_
      rintro e w2 ⟨rfl, hb2⟩
      have HB2 := hid (btN HB.out hb2)
      have HX2 := hid (HX.out.below hb2)
      have d1 := (hb2.cell (p := ⟨tb, toff + k * 2 + 1, none⟩) (Nat.lt_of_lt_of_le HTL.out HB.out.size)).trans HC1.out
      clear hb2 HFI HC1
      by_cases hneg : fi < 0
      · have HC := hid (HBAD.out (fun hh => by have := hh.2.2.1; simp only at this; rw [HFIE.out] at this; exact this hneg))
        have hd0 : decide (fi < 0) = true := decide_eq_true hneg
        clear hneg
        go_wp2
        go_quiet (fail)
        go_wp2
        go_ret
        exact ⟨by rw [HC.out.1]; first | done | rfl, by rw [HC.out.2]; exact XdTo.same H.out (below_dnX HB2.out _)⟩
      have hd0 : decide (fi < 0) = false := decide_eq_false hneg
      have HNEG : Hid (¬ rint g.L tn < 0) := by rw [HFIE.out]; exact hneg
      by_cases htv : tv < 0
      · have HC := hid (HBAD.out (fun hh => by have := hh.2.1; simp only at this; omega))
        have hd1 : decide (tv < 0) = true := decide_eq_true htv
        clear hneg htv
        go_wp2
        go_quiet (fail)
        go_wp2
        go_ret
        exact ⟨by rw [HC.out.1]; first | done | rfl, by rw [HC.out.2]; exact XdTo.same H.out (below_dnX HB2.out _)⟩
      have hd1 : decide (tv < 0) = false := decide_eq_false htv
      obtain ⟨q, hq1, hq2, hq3⟩ := rint_at HNEG.out
      have hfq : fi = (q : Int) := by rw [← HFIE.out]; exact hq1
      subst hfq
      have HQ2 := hid hq2
      have hqn : (q : Int) < (n : Int) := by have := HN.out; omega
      have hq0 : (0 : Int) ≤ (q : Int) := by omega
      have x1 := HX2.out.blk.cell (i := 1) rfl
      rw [HN.out] at x1
      obtain ⟨fb, foff, hfo, _, a0, a1, a2⟩ := HX2.out.held.1.cellsD HQ2.out
      obtain ⟨⟨qn, qb, qs⟩, HQ⟩ : ∃ z, Hid (g.L[q]'HQ2.out = z) := ⟨_, hid rfl⟩
      rw [HQ.out] at a1 a2
      simp only at a1 a2
      subst hfo
      have HFA : Hid (fileAt g tn = ⟨qn, qb, qs⟩) := by
        show _ = _
        rw [fileAt_eq (by rw [hq3]; exact HQ2.out)]
        simp only [hq3]
        exact HQ.out
      have hqs := HOKG.out _ (List.getElem_mem HQ2.out)
      rw [HQ.out] at hqs
      simp only at hqs
      have hbs : (qb.size : Int) ≤ 268435456 := by
        have h1 := rtotal_set g.L q HQ2.out ⟨qn, ⟨#[]⟩, qs⟩
        rw [HQ.out] at h1
        have h7 : (⟨#[]⟩ : ByteArray).size = 0 := rfl
        simp only [h7] at h1
        have h2 := H.out.room
        have h3 := H.out.big
        omega
      have hws : IntKind.i64.wrap ((qb.size : Int) - qs) = (qb.size : Int) - qs := by rw [IntKind.wrap_i64]; omega
      have hws2 : wrap64 ((qb.size : Int) - qs) = (qb.size : Int) - qs := wrapN (by omega) (by omega)
      by_cases hgt : (qb.size : Int) - qs < tv
      · have HC := hid (HBAD.out (fun hh => by have := hh.2.2.2; simp only [HFA.out] at this; omega))
        have hd2 : decide ((qb.size : Int) - qs < tv) = true := decide_eq_true hgt
        clear a0 hneg htv hgt hq1 hq2 hq3 hqs hbs
        go_wp2
        go_quiet (fail)
        go_wp2
        go_ret
        exact ⟨by rw [HC.out.1]; first | done | rfl, by rw [HC.out.2]; exact XdTo.same H.out (below_dnX HB2.out _)⟩
      have hd2 : decide ((qb.size : Int) - qs < tv) = false := decide_eq_false hgt
      have HVAL : Hid (ValR g (tn, tv)) := ⟨by omega, HNEG.out, by rw [HFA.out]; show tv ≤ (qb.size : Int) - qs; omega⟩
      clear a0 hneg htv hgt hq1 hq2 hq3 hqs hbs
      go_wp2
      go_quiet (fail)
      have HB3 := hid (below_dnX HB2.out nq)
      obtain ⟨w3, hw3⟩ : ∃ V, V = w2.drewN nq := ⟨_, rfl⟩
      rw [← hw3] at HB3 ⊢
      clear hw3 d1 x1 a1 a2 hws hws2 hd0 hd1 hd2
      go_wp2
      go_loopw [7] (fun i wn => ∃ l : Nat, l ≤ k ∧ i = .int .i64 l ∧ Hid (∀ i (hi : i < ts.length), i < l → ts[i].1 ≠ tn) ∧ Hid (Below w.heap.size w wn)) (fun i _ => k - (intOf i).toNat)
      case atStart => exact ⟨0, Nat.zero_le _, rfl, fun i _ hi => (by omega), HB3.out⟩
      case round =>
        obtain ⟨l, hl, rfl, HRL, HBL⟩ := hrel
        by_cases hll : l < k
        · have hll' : (l : Int) < (k : Int) := by omega
          have hl0 : (0 : Int) ≤ (l : Int) := by omega
          have HLX : Hid (l < ts.length) := (by have := HKX.out; omega : l < ts.length)
          have hlm : (l : Int) < (m : Int) := by have := HM.out; have := HLX.out; omega
          have hkm : (k : Int) < (m : Int) := by have := HM.out; have := HKX.out; omega
          have HLM : Hid (l + 1 ≤ k) := (by omega : l + 1 ≤ k)
          have hwl : wrap64 ((l : Int) + 1) = (l : Int) + 1 := wrapN (by omega) (by have := HMF.out; omega)
          have e0 := (HBL.out.cell (p := ⟨tb, toff + l * 2, none⟩) HTL.out).trans (HCS.out l HLX.out).1
          have e1 := (HBL.out.cell (p := ⟨tb, toff + k * 2, none⟩) HTL.out).trans (HCS.out k HKX.out).1
          rw [HTQ.out] at e1
          obtain ⟨⟨un, uv⟩, HUQ⟩ : ∃ z, Hid (ts[l]'HLX.out = z) := ⟨_, hid rfl⟩
          rw [HUQ.out] at e0
          simp only at e0 e1
          by_cases he : un = tn
          · have HC := hid (HBAD.out (fun hh => by
              have h1 := tfind_not hh.1 l (by rw [List.length_take]; have := HKX.out; omega)
              rw [List.getElem_take, HUQ.out] at h1
              exact h1 he))
            subst he
            have hsb : (un.toList == un.toList) = true := by simp
            clear hl hll
            go_wp2
            go_quiet (fail)
            go_wp2
            go_ret
            exact ⟨by rw [HC.out.1]; first | done | rfl, by rw [HC.out.2]; exact XdTo.same H.out (below_dnX HBL.out _)⟩
          · have HNX : Hid (∀ i (hi : i < ts.length), i < l + 1 → ts[i].1 ≠ tn) := fun i hi hil => by
              by_cases e : i = l
              · subst e; rw [HUQ.out]; exact he
              · exact HRL.out i hi (by omega)
            have hsb : (un.toList == tn.toList) = false := beq_eq_false_iff_ne.2 (fun e => he (bytesX_inj e))
            clear hl hll he
            go_wp2
            go_quiet (fail)
            go_wp2
            go_roundw
            case rel => exact ⟨l + 1, HLM.out, by go_num, HNX.out, below_dnX HBL.out _⟩
            case measure => first | exact measNW HLM.out hwl | exact measN1 HLM.out
        · have hll' : ¬ (l : Int) < (k : Int) := by omega
          have HNX : Hid (∀ i (hi : i < ts.length), i < k + 1 → okR g (ts.take i) ts[i]) := fun i hi hik => by
            by_cases e : i = k
            · subst e
              rw [HTQ.out]
              refine ⟨tfind_none (fun j hj => ?_), HVAL.out⟩
              rw [List.length_take] at hj
              rw [List.getElem_take]
              exact HRL.out j (by omega) (by omega)
            · exact HR.out i hi (by omega)
          clear hl hll
          go_wp2
          go_roundw
          case rel => exact ⟨k + 1, HKM.out, by go_num, HNX.out, HBL.out⟩
          case measure => first | exact measNW HKM.out hwk | exact measN1 HKM.out
    · have hlt' : ¬ (k : Int) < (m : Int) := by omega
      have HOKS : Hid (okRs g ts) := fun i hi => HR.out i hi (by have := HM.out; omega)
      clear hlt hk
      have HX0 : Hid (XdAt wr B x size (g.mid ts 0) eo cap ∧ Turns (FootZ x eo n cap) w wr) := ⟨by rw [Xd.mid_zero]; exact HX.out, Turns.of_below HB.out (Nat.le_refl _)⟩
      have HCRC : Hid (crashC g ts = 0 ∧ crashX g ts = { g with L := g.L.map (fellR ts), stops := false }) := ⟨by unfold crashC; rw [if_pos HOKS.out], by unfold crashX; rw [if_pos HOKS.out]⟩
      clear HR
      go_wp2
      go_loopw [8] (fun i wr => ∃ k : Nat, k ≤ n ∧ i = .int .i64 k ∧ Hid (XdAt wr B x size (g.mid ts k) eo cap ∧ Turns (FootZ x eo n cap) w wr)) (fun i _ => n - (intOf i).toNat)
      case atStart => exact ⟨0, Nat.zero_le _, rfl, HX0.out⟩
      case round =>
        obtain ⟨k, hk, rfl, HS⟩ := hrel
        have HML : Hid ((g.mid ts k).L.length = n) := by show _ = _; rw [Xd.mid_len, HN.out]
        have HXK := hid HS.out.1
        have HTK := hid HS.out.2
        have x1 := HXK.out.blk.cell (i := 1) rfl
        rw [HML.out] at x1
        clear HS HX0
        by_cases hlt : k < n
        · have hlt' : (k : Int) < (n : Int) := by omega
          have hk0 : (0 : Int) ≤ (k : Int) := by omega
          have HKX : Hid (k < g.L.length) := by rw [HN.out]; exact hlt
          have HKM : Hid (k + 1 ≤ n) := (by omega : k + 1 ≤ n)
          have hwk : wrap64 ((k : Int) + 1) = (k : Int) + 1 := wrapN (by omega) (by have := HF.out; omega)
          obtain ⟨b, heo⟩ := HXK.out.zero (by rw [HML.out]; omega)
          subst heo
          have HKL : Hid (k < (g.mid ts k).L.length) := by rw [HML.out]; exact hlt
          obtain ⟨⟨qn, qb, qs⟩, HQ⟩ : ∃ z, Hid (g.L[k]'HKX.out = z) := ⟨_, hid rfl⟩
          have HQM : Hid ((g.mid ts k).L[k]'HKL.out = ⟨qn, qb, qs⟩) := by
            have h1 := mapTo_at (fellR ts) g.L k HKX.out
            rw [← HQ.out]
            have h2 : (g.mid ts k).L[k]? = some (g.L[k]'HKX.out) := h1
            rw [List.getElem?_eq_getElem HKL.out] at h2
            exact Option.some.inj h2
          obtain ⟨b', off, hao', hbl, a0, a1, a2⟩ := HXK.out.held.1.cellsD HKL.out
          cases hao'
          rw [HQM.out] at a0 a1 a2
          simp only [Nat.zero_add] at a0 a1 a2
          have HA0 := hid a0
          have HA1 := hid a1
          have HBL := hid hbl
          have hsu := HOKG.out _ (List.getElem_mem HKX.out)
          have hkb := keep_bound HOKS.out HU.out HKX.out hsu
          rw [HQ.out] at hsu hkb
          simp only at hsu hkb
          have HSU := hid hsu
          have HKB := hid hkb
          have HBS : Hid ((qb.size : Int) ≤ 268435456) := by
            have h1 := rtotal_set g.L k HKX.out ⟨qn, ⟨#[]⟩, qs⟩
            rw [HQ.out] at h1
            have h7 : (⟨#[]⟩ : ByteArray).size = 0 := rfl
            simp only [h7] at h1
            have h2 := H.out.room
            have h3 := H.out.big
            exact (by omega : (qb.size : Int) ≤ 268435456)
          have HTC : Hid (∀ V, Below wr.heap.size wr V → ∀ j (hj : j < ts.length), ∃ tb toff, ao = some ⟨tb, toff, none⟩ ∧ V.cell? ⟨tb, toff + j * 2, none⟩ = some (.string ts[j].1) ∧ V.cell? ⟨tb, toff + j * 2 + 1, none⟩ = some (.int .i64 ts[j].2)) := fun V hV j hj => by
            rcases HT.out.cell with h0 | ⟨tb, toff, h1, h2, h3⟩
            · exfalso
              rw [h0] at hj
              cases hj
            · have hn : ¬ FootZ x (some ⟨b, 0, none⟩) n cap tb := by
                have := HSEP.out _ h1 (fun e => by rw [e] at hj; cases hj)
                rw [HN.out] at this
                exact this
              have hlt2 : tb < wr.heap.size := Nat.lt_of_lt_of_le h2 HTK.out.size
              obtain ⟨e0, e1⟩ := h3 j hj
              exact ⟨tb, toff, h1, (hV.cell (p := ⟨tb, _, none⟩) hlt2).trans ((turns_cellX HTK.out (p := ⟨tb, _, none⟩) h2 hn).trans e0), (hV.cell (p := ⟨tb, _, none⟩) hlt2).trans ((turns_cellX HTK.out (p := ⟨tb, _, none⟩) h2 hn).trans e1)⟩
          clear hlt hk hsu hkb hbl
          go_wp2
          clear a0 a1 a2 x1
          go_loopw [9, 10] (fun s9 i wn => ∃ l : Nat, l ≤ m ∧ i = .int .i64 l ∧ s9 = .int .i64 (qs + keepOf (ts.take l) qn) ∧ Hid (Below wr.heap.size wr wn)) (fun _ i _ => m - (intOf i).toNat)
          case atStart => exact ⟨0, Nat.zero_le _, rfl, by rw [show keepOf (ts.take 0) qn = 0 from rfl, Int.add_zero], Below.refl _ _⟩
          case round =>
            obtain ⟨l, hl, rfl, rfl, HBN⟩ := hrel
            have HXN := hid (HXK.out.below HBN.out)
            have x1 := HXN.out.blk.cell (i := 1) rfl
            rw [HML.out] at x1
            have a0 := (HBN.out.cell (p := ⟨b, k * 3, none⟩) HBL.out).trans HA0.out
            by_cases hll : l < m
            · have hll' : (l : Int) < (m : Int) := by omega
              have hl0 : (0 : Int) ≤ (l : Int) := by omega
              have HLX : Hid (l < ts.length) := by rw [HM.out]; exact hll
              have HLM : Hid (l + 1 ≤ m) := (by omega : l + 1 ≤ m)
              have hwl : wrap64 ((l : Int) + 1) = (l : Int) + 1 := wrapN (by omega) (by have := HMF.out; omega)
              obtain ⟨tb, toff, hao, e0, e1⟩ := HTC.out _ HBN.out l HLX.out
              have HSS := hid (sum_step (ts := ts) (fun i hi => (HOKS.out i hi).1) HLX.out qn)
              have HOB := hid (fun he => one_bound HOKS.out HU.out HKX.out HLX.out he)
              obtain ⟨⟨un, uv⟩, HUQ⟩ : ∃ z, Hid (ts[l]'HLX.out = z) := ⟨_, hid rfl⟩
              rw [HUQ.out] at e0 e1 HSS HOB
              rw [HQ.out] at HOB
              simp only at e0 e1
              subst hao
              obtain ⟨Y, HY⟩ : ∃ Y, Hid (keepOf (ts.take l) qn = Y) := ⟨_, hid rfl⟩
              rw [HY.out] at HSS HOB ⊢
              have HE1 := hid e1
              by_cases he : un = qn
              · have HOB2 : Hid (Y = 0 ∧ 0 ≤ uv ∧ uv ≤ (qb.size : Int) - qs) := HOB.out he
                have HS2 : Hid (keepOf (ts.take (l + 1)) qn = Y + uv) := by show _ = _; rw [HSS.out, if_pos he]
                have hsb : (un.toList == qn.toList) = true := by rw [he]; simp
                have HW : Hid (wrap64 (qs + Y + uv) = qs + (Y + uv)) := by
                  show _ = _
                  have h1 := HOB2.out
                  have h2 := HSU.out
                  have h3 := HBS.out
                  rw [wrapN (by omega) (by omega)]
                  omega
                clear hl hll he HOB HSS HTC
                go_wp2
                go_quiet (fail)
                have HB9 := hid (below_dnX HBN.out nq)
                have d1 : (wr.drewN nq).cell? ⟨tb, toff + l * 2 + 1, none⟩ = some (.int .i64 uv) := HE1.out
                clear x1 a0 e0 e1
                have hw := HW.out
                go_wp2
                clear hw
                go_roundw
                case rel => exact ⟨l + 1, HLM.out, by go_num, by rw [HS2.out]; first | done | rw [HW.out] | rw [← HW.out], HB9.out⟩
                case measure => first | exact measNW HLM.out hwl | exact measN1 HLM.out
              · have HS2 : Hid (keepOf (ts.take (l + 1)) qn = Y) := by show _ = _; rw [HSS.out, if_neg he]
                have hsb : (un.toList == qn.toList) = false := beq_eq_false_iff_ne.2 (fun e => he (bytesX_inj e))
                clear hl hll he HOB HSS HTC
                go_wp2
                go_quiet (fail)
                have HB9 := hid (below_dnX HBN.out nq)
                clear x1 a0 e0 e1
                go_wp2
                go_roundw
                case rel => exact ⟨l + 1, HLM.out, by go_num, by rw [HS2.out]; first | done | rfl, HB9.out⟩
                case measure => first | exact measNW HLM.out hwl | exact measN1 HLM.out
            · have hll' : ¬ (l : Int) < (m : Int) := by omega
              have HEK : Hid (ts.take l = ts) := List.take_of_length_le (by have := HM.out; omega)
              rw [HEK.out]
              obtain ⟨e0, HE0⟩ : ∃ e0 : Nat, Hid (qs + keepOf ts qn = (e0 : Int)) := ⟨(qs + keepOf ts qn).toNat, by have := HKB.out; exact (by omega : qs + keepOf ts qn = ((qs + keepOf ts qn).toNat : Int))⟩
              have HE0B : Hid (e0 ≤ qb.size) := by have h1 := HKB.out; have h2 := HE0.out; exact (by omega : e0 ≤ qb.size)
              have HFELL : Hid (fellR ts (g.L[k]'HKX.out) = ⟨qn, qb.extract 0 e0, (e0 : Int)⟩) := by
                show _ = _
                rw [HQ.out]
                unfold fellR
                simp only [HE0.out, Int.toNat_natCast]
              rw [HE0.out]
              have hel : (e0 : Int) ≤ (qb.size : Int) := by have := HE0B.out; omega
              have he00 : (0 : Int) ≤ (e0 : Int) := by omega
              have a1 := (HBN.out.cell (p := ⟨b, k * 3 + 1, none⟩) HBL.out).trans HA1.out
              have f1 := row_frozenX HXN.out.row (k * 3 + 1)
              have HSZ : Hid ((qb.extract 0 e0).size = e0) := by show _ = _; rw [ByteArray.size_extract]; have := HE0B.out; omega
              obtain ⟨hs1, hs2⟩ := HXN.out.store (W := wr.setCell ⟨b, k * 3 + 1, none⟩ (.string (qb.extract 0 e0))) HKL.out 1 (by decide) (.string (qb.extract 0 e0)) ⟨qn, qb.extract 0 e0, qs⟩ (by rw [HQM.out]; rfl) (by
                have h1 := rtotal_set (g.mid ts k).L k HKL.out ⟨qn, qb.extract 0 e0, qs⟩
                rw [HQM.out] at h1
                simp only at h1
                have h2 := HXN.out.room
                have h3 := HSZ.out
                have h4 := HE0B.out
                omega) rfl
              obtain ⟨W3, hW3⟩ : ∃ V, V = (wr.setCell ⟨b, k * 3 + 1, none⟩ (.string (qb.extract 0 e0))).drew := ⟨_, rfl⟩
              have H3 : Hid (XdAt W3 B x size ((g.mid ts k).setL k ⟨qn, qb.extract 0 e0, qs⟩) (some ⟨b, 0, none⟩) cap) := by rw [hW3]; exact hs1.below (Below.refl _ _).drew
              have HT3 : Hid (Turns (fun i => i = b) wr W3) := by rw [hW3]; exact hs2.drew
              clear hs1 hs2 hl hll HTC
              go_wp2
              go_region
              rw [← hW3]
              clear hW3 x1 a0 a1 f1
              have HL3 : Hid (((g.mid ts k).setL k ⟨qn, qb.extract 0 e0, qs⟩).L.length = n) := by show _ = _; rw [← HML.out]; exact List.length_set
              have c3 := H3.out.blk.cell (i := 1) rfl
              rw [HL3.out] at c3
              have HK3L : Hid (k < ((g.mid ts k).setL k ⟨qn, qb.extract 0 e0, qs⟩).L.length) := by rw [HL3.out, ← HN.out]; exact HKX.out
              have HQ3 : Hid (((g.mid ts k).setL k ⟨qn, qb.extract 0 e0, qs⟩).L[k]'HK3L.out = ⟨qn, qb.extract 0 e0, qs⟩) := by show _ = _; unfold Xd.setL; simp
              obtain ⟨b', off, hao', _, _, _, d2⟩ := H3.out.held.1.cellsD HK3L.out
              cases hao'
              rw [HQ3.out] at d2
              simp only [Nat.zero_add] at d2
              have f2 := row_frozenX H3.out.row (k * 3 + 2)
              obtain ⟨hs1, hs2⟩ := H3.out.store (W := W3.setCell ⟨b, k * 3 + 2, none⟩ (.int .i64 (e0 : Int))) HK3L.out 2 (by decide) (.int .i64 (e0 : Int)) ⟨qn, qb.extract 0 e0, (e0 : Int)⟩ (by rw [HQ3.out]; rfl) (by
                have h1 := rtotal_set ((g.mid ts k).setL k ⟨qn, qb.extract 0 e0, qs⟩).L k HK3L.out ⟨qn, qb.extract 0 e0, (e0 : Int)⟩
                rw [HQ3.out] at h1
                simp only at h1
                have h2 := H3.out.room
                omega) rfl
              have HNX : Hid (XdAt (W3.setCell ⟨b, k * 3 + 2, none⟩ (.int .i64 (e0 : Int))) B x size (g.mid ts (k + 1)) (some ⟨b, 0, none⟩) cap ∧ Turns (FootZ x (some ⟨b, 0, none⟩) n cap) w (W3.setCell ⟨b, k * 3 + 2, none⟩ (.int .i64 (e0 : Int)))) := by
                refine ⟨?_, ?_⟩
                · have h1 := mapTo_step (fellR ts) g.L k HKX.out
                  rw [HFELL.out] at h1
                  have h2 : ((g.mid ts k).setL k ⟨qn, qb.extract 0 e0, qs⟩).setL k ⟨qn, qb.extract 0 e0, (e0 : Int)⟩ = g.mid ts (k + 1) := by
                    unfold Xd.setL Xd.mid
                    simp only [List.set_set]
                    rw [h1]
                  rw [← h2]
                  exact hs1
                · have h3 : Turns (fun i => i = b) wr (W3.setCell ⟨b, k * 3 + 2, none⟩ (.int .i64 (e0 : Int))) := HT3.out.trans hs2 (fun i hi => .inl hi)
                  have h4 : Turns (FootZ x (some ⟨b, 0, none⟩) n cap) w wr := HTK.out.trans (Turns.of_below (F := fun _ => False) HBN.out (Nat.le_refl _)) (fun _ h => h.elim)
                  exact h4.trans h3 (fun i hi => .inl (.inr (by rw [hi]; rfl)))
              clear hs1 hs2
              go_wp2
              go_roundw
              case rel => exact ⟨k + 1, HKM.out, by go_num, HNX.out⟩
              case measure => first | exact measNW HKM.out hwk | exact measN1 HKM.out
        · have hlt' : ¬ (k : Int) < (n : Int) := by omega
          have HKE : Hid (k = n) := (by omega : k = n)
          have x2 := HXK.out.blk.cell (i := 2) rfl
          have fx2 := HXK.out.blk.frozen 2
          have HEND : Hid (∀ W, W = wr.setCell ⟨x, 2, none⟩ (.bool false) → XdTo B w W x size (FootZ x eo g.L.length cap) (crashX g ts)) := fun W hW => by
            have hm : (g.L.take k).map (fellR ts) ++ g.L.drop k = g.L.map (fellR ts) := by
              rw [HKE.out, ← HN.out]
              simp
            have ht : Turns (fun i => i = x) wr W := by rw [hW]; exact (Turns.refl (fun i => i = x) _).setCell (p := ⟨x, 2, none⟩) (.inl rfl) _
            rw [HCRC.out.2]
            have hlen : (g.L.map (fellR ts)).length = g.L.length := List.length_map _
            have hxk := HXK.out
            unfold Xd.mid at hxk
            rw [hm] at hxk
            refine ⟨eo, cap, ⟨?_, ht.row hxk.row (fun b hbo e => by subst e; exact hxk.blk.not_row (by decide) hxk.row hbo.symm), hxk.few, hxk.room, hxk.big, ⟨hxk.cal.1, fun h => by cases h⟩⟩, ?_, fun i hi => .inl ?_⟩
            · rw [hW]
              exact hxk.blk.set 2 (.bool false)
            · have h4 := HTK.out
              rw [← HN.out] at h4
              exact h4.trans ht (fun i hi => .inl (.inl hi))
            · show FootZ x eo g.L.length cap i
              have h5 : FootZ x eo (g.L.map (fellR ts)).length cap i := hi
              rw [hlen] at h5
              exact h5
          clear hlt hk
          go_wp2
          go_ret
          exact ⟨by rw [HCRC.out.1]; first | done | rfl, HEND.out _ rfl⟩
end
end Go.Proofs.Ytjfohnkfcfifeaa
