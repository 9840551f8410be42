/-
  pannierlaw04.NetIds answers true at every input.
-/
import Derived.Test.YtjejddpmkihdgabNetSum
import Derived.Test.YtjejddpmkihdgabOpOpen
import Derived.Deep.QuietTactic
import Derived.BigQuiet
namespace Go.Proofs.Ytjejddpmkihdgab
open Go.RowKit Go.Maps

theorem row_dn {w : World} {B e size n : Nat} {v : Value} {xs : List Value} (h : w.ownsRow B e size v n xs) (q : Nat) : (w.drewN q).ownsRow B e size v n xs := h
theorem flat_at {ps : List Pk} {j : Nat} (hj : j < ps.length) : (flat ps)[j * 4]? = some (.int .i64 ps[j].id) := by
  induction ps generalizing j with
  | nil => simp at hj
  | cons q r ih =>
    cases j with
    | zero => rfl
    | succ m =>
      have e : (m + 1) * 4 = m * 4 + 4 := by omega
      rw [e]
      have := ih (j := m) (by simpa using hj)
      simpa [flat, Pk.cells] using this
theorem row_cell0 {W : World} {g n cap B : Nat} {ps : List Pk} (h : W.ownsRow B 29 4 (.slice (some ⟨g, 0, none⟩) n cap) n (flat ps)) {j : Nat} (hj : j < ps.length) : W.cell? ⟨g, j * 4, none⟩ = some (.int .i64 ps[j].id) := by
  have := h.cells (g := g) rfl (j * 4) _ (flat_at hj)
  rwa [Addr.add_lit, Nat.zero_add] at this

set_option maxRecDepth 100000 in
set_option maxHeartbeats 2000000 in
theorem netIds_walk (ao : Option Addr) (cap : Nat) (os : List OpV) (w : World) (h : HeldO w ao os) (hlen : os.length ≤ 140737488355328) :
    Calls Try.prog 4 #[.slice ao os.length cap] w fun e w' => e = .returned (.bool true) ∧ Below w.heap.size w w' := by
  have HH := hid h
  clear h
  obtain ⟨n, hn⟩ : ∃ n, n = os.length := ⟨_, rfl⟩
  have HN := hid hn
  rw [← hn] at hlen ⊢
  clear hn
  go_enter Try.func4, Try.ntmps4
  go_wp2_with fail
  refine (new_good w 3 (by decide) (by decide)).mono ?_
  rintro e w1 ⟨rfl, h'⟩
  have HN1 : Hid (NetIn w.heap.size w w1 (w.heap.size + 1) w.heap.size 3 0 []) := by subst h'; exact NetIn.new w 3
  clear h'
  generalize hp : w.heap.size + 1 = p at *
  clear hp
  go_wp2_with fail
  refine (lives_any _).mono ?_
  rintro e w2 ⟨rfl, hb⟩
  have HN2 := hid (HN1.out.later hb)
  clear hb HN1
  go_wp2
  go_loopw [5, 6] (fun a b wr => ∃ (i : Nat) (lst : Int) (ps : List Pk), i ≤ n ∧ b = .int .i64 i ∧ a = .int .i64 lst ∧ 0 ≤ lst ∧ lst ≤ i ∧ NetIn w.heap.size w wr p w.heap.size 3 lst ps) (fun _ b _ => n - (intOf b).toNat)
  case atStart => exact ⟨0, 0, [], by omega, rfl, rfl, by omega, by omega, HN2.out⟩
  case round =>
    obtain ⟨i, lst, ps, hi, rfl, rfl, hl0, hli, hnet⟩ := hrel
    have HNET := hid hnet
    clear hnet
    by_cases hlt : i < n
    · have hlt' : (i : Int) < (n : Int) := by omega
      obtain ⟨o, ho⟩ : ∃ o, o = os[i]'(by have := HN.out; omega) := ⟨_, rfl⟩
      have hok : o.Ok := by rw [ho]; exact HH.out.1 _ (List.getElem_mem _)
      obtain ⟨b, off, hao, hbw, hcs⟩ : ∃ b off, ao = some ⟨b, off, none⟩ ∧ b < w.heap.size ∧ ∀ c u, o.cells[c]? = some u → w.cell? ⟨b, off + i * 5 + c, none⟩ = some u := by
        rcases HH.out.2 with h0 | ⟨b, off, e, hb, hc⟩
        · have := HN.out
          rw [h0] at this
          simp at this
          omega
        · exact ⟨b, off, e, hb, fun c u hu => hc i (by have := HN.out; omega) c u (by rw [← ho]; exact hu)⟩
      subst hao
      have HOLD : Hid (∀ (V : World), Below w.heap.size w V → ∀ c u, o.cells[c]? = some u → V.cell? ⟨b, off + i * 5 + c, none⟩ = some u) := fun V hV c u hu => by
        rw [hV.cell (p := ⟨b, off + i * 5 + c, none⟩) hbw]
        exact hcs c u hu
      obtain ⟨k, f, t, x, s⟩ := o
      have HOK := hid hok
      have g0 : wr.cell? ⟨b, off + i * 5, none⟩ = some (.int .i64 k) := HOLD.out wr HNET.out.bel 0 _ rfl
      clear hcs ho hok
      by_cases k1 : k = 1
      · subst k1
        have HSEND : Hid (Calls Try.prog 5 #[.pointer (some ⟨p, 0, none⟩), .int .i64 f, .int .i64 t, .string s] wr.drew fun e w' => ∃ id er last' ps', e = .returned (.tuple #[.int .i64 id, .int .i64 er]) ∧ Given lst id er last' ∧ NetIn w.heap.size w w' p w.heap.size 3 last' ps' ∧
            w'.cell? ⟨b, off + i * 5 + 1, none⟩ = some (.int .i64 f) ∧ w'.cell? ⟨b, off + i * 5 + 2, none⟩ = some (.int .i64 t) ∧ w'.cell? ⟨b, off + i * 5 + 4, none⟩ = some (.string s)) := by
          refine (send_sum HNET.out.drew (by omega) f t s).mono ?_
          rintro e w' ⟨id, er, last', ps', rfl, hg, hn⟩
          exact ⟨id, er, last', ps', rfl, hg, hn, HOLD.out w' hn.bel 1 _ rfl, HOLD.out w' hn.bel 2 _ rfl, HOLD.out w' hn.bel 4 _ rfl⟩
        have g1 : wr.cell? ⟨b, off + i * 5 + 1, none⟩ = some (.int .i64 f) := HOLD.out wr HNET.out.bel 1 _ rfl
        have g2 : wr.cell? ⟨b, off + i * 5 + 2, none⟩ = some (.int .i64 t) := HOLD.out wr HNET.out.bel 2 _ rfl
        have g4 : wr.cell? ⟨b, off + i * 5 + 4, none⟩ = some (.string s) := HOLD.out wr HNET.out.bel 4 _ rfl
        have hi0 : (0 : Int) ≤ (i : Int) := by omega
        go_wp2
        go_region_held3 (fun V => V.cell? ⟨b, off + i * 5 + 1, none⟩ = some (.int .i64 f) ∧ V.cell? ⟨b, off + i * 5 + 2, none⟩ = some (.int .i64 t) ∧ V.cell? ⟨b, off + i * 5 + 4, none⟩ = some (.string s)) (go_keep)
          (first | (go_at_call 5; refine HSEND.out.mono ?_; rintro e w3 ⟨id, er, lst', ps', rfl, hgiv, hnet3, hs1, hs2, hs3⟩; have HGIV := hid hgiv; have HNET3 := hid hnet3; clear hgiv hnet3))
        rcases HGIV.out with ⟨he, hid1, hl1⟩ | ⟨he, hid1, hl1⟩
        · subst he hid1 hl1
          go_wp2
          go_roundw
          case rel => exact ⟨i + 1, lst + 1, ps', by omega, by go_num, rfl, by omega, by omega, HNET3.out⟩
          case measure => simp [intOf]; omega
        · subst hid1 hl1
          have her : (er == 0) = false := by simpa using he
          have her2 : (er != 0) = true := by simpa using he
          go_wp2
          go_roundw
          case rel => exact ⟨i + 1, lst', ps', by omega, by go_num, rfl, by omega, by omega, HNET3.out⟩
          case measure => simp [intOf]; omega
      · have hk1 : (k == 1) = false := by simpa using k1
        have hx0 := HOK.out.2.2.2.1.1
        have hx1 := HOK.out.2.2.2.1.2
        have g3 : wr.cell? ⟨b, off + i * 5 + 3, none⟩ = some (.int .i64 x) := HOLD.out wr HNET.out.bel 3 _ rfl
        by_cases k2 : k = 2
        · subst k2
          clear k1
          go_wp2_with fail
          refine (take_sum HNET.out (by omega) x hx0 hx1).mono ?_
          rintro e w3 ⟨qa, qb, qc, qs, er, ps', rfl, hnet3⟩
          have HNET3 := hid hnet3
          clear hnet3
          go_wp2
          go_roundw
          case rel => exact ⟨i + 1, lst, ps', by omega, by go_num, rfl, by omega, by omega, HNET3.out⟩
          case measure => simp [intOf]; omega
        · have hk2 : (k == 2) = false := by simpa using k2
          by_cases k3 : k = 3
          · subst k3
            clear k1 k2
            go_wp2_with fail
            refine (twice_sum HNET.out (by omega) x hx0 hx1).mono ?_
            rintro e w3 ⟨id, er, lst', ps', rfl, hgiv, hnet3⟩
            have HNET3 := hid hnet3
            clear hnet3
            rcases hgiv with ⟨he, hid1, hl1⟩ | ⟨he, hid1, hl1⟩
            · subst he hid1 hl1
              go_wp2
              go_roundw
              case rel => exact ⟨i + 1, lst + 1, ps', by omega, by go_num, rfl, by omega, by omega, HNET3.out⟩
              case measure => simp [intOf]; omega
            · subst hid1 hl1
              have her : (er == 0) = false := by simpa using he
              have her2 : (er != 0) = true := by simpa using he
              go_wp2
              go_roundw
              case rel => exact ⟨i + 1, lst', ps', by omega, by go_num, rfl, by omega, by omega, HNET3.out⟩
              case measure => simp [intOf]; omega
          · have hk3 : (k == 3) = false := by simpa using k3
            clear k1 k2 k3
            go_wp2
            go_roundw
            case rel => exact ⟨i + 1, lst, ps, by omega, by go_num, rfl, by omega, by omega, HNET.out⟩
            case measure => simp [intOf]; omega
    · go_wp2_with fail
      obtain ⟨v, D, hn, hF, hb, hB⟩ := HNET.out
      refine (all_any hn (by omega)).mono ?_
      rintro e w4 ⟨v', rfl, hown, hb4⟩
      have HO4 := hid hown
      have HB4 : Hid (Below w.heap.size w w4) := hb.trans (hb4.mono hB)
      have HRI := hid hn.rise
      have HIDS := hid hn.ids
      have hfew := hn.few
      obtain ⟨ao4, cap4, hv4⟩ := own_slice hown
      subst hv4
      clear hn hF hb hB hown hb4
      go_wp2
      go_loopw [10] (fun b wr => ∃ j : Nat, j ≤ ps.length ∧ b = .int .i64 j ∧ wr.ownsRow 0 29 4 (.slice ao4 ps.length cap4) ps.length (flat ps) ∧ Below w.heap.size w wr) (fun b _ => ps.length - (intOf b).toNat)
      case atStart => exact ⟨0, by omega, rfl, ownsRow_base HO4.out (Nat.zero_le _), HB4.out⟩
      case round =>
        obtain ⟨j, hj, rfl, hown, hbel⟩ := hrel
        have HO5 := hid hown
        have HB5 := hid hbel
        by_cases hjl : j < ps.length
        · obtain ⟨g4, hao⟩ : ∃ g4, ao4 = some ⟨g4, 0, none⟩ := by
            rcases hown.2 with ⟨_, h0⟩ | ⟨g, c, _, e, _⟩
            · omega
            · exact ⟨g, by cases e; rfl⟩
          subst hao
          have hjl' : (j : Int) < (ps.length : Int) := by omega
          have hj0' : (0 : Int) ≤ (j : Int) := by omega
          have hq1 := (HIDS.out ps[j] (List.getElem_mem hjl)).1
          have hq2 := (HIDS.out ps[j] (List.getElem_mem hjl)).2
          have hcell := row_cell0 hown hjl
          obtain ⟨q, hq⟩ : ∃ q, q = ps[j] := ⟨_, rfl⟩
          rw [← hq] at hq1 hq2 hcell
          have hd1 : decide (q.id < 1) = false := by simp; omega
          have hd2 : decide (lst < q.id) = false := by simp; omega
          clear hbel
          cases j with
          | zero =>
            clear hq hown
            go_wp2
            go_quiet (fail)
            go_wp2
            go_roundw
            case rel => exact ⟨1, by omega, by go_num, row_dn HO5.out _, below_dn HB5.out _⟩
            case measure => simp [intOf]; omega
          | succ m =>
            have hcell2 := row_cell0 hown (show m < ps.length by omega)
            have hris : ps[m].id < q.id := by rw [hq]; exact List.pairwise_iff_getElem.1 HRI.out m (m + 1) (by omega) hjl (by omega)
            obtain ⟨q', hq'⟩ : ∃ q', q' = ps[m] := ⟨_, rfl⟩
            rw [← hq'] at hris hcell2
            clear hq hq' hown
            have hd3 : decide (q.id ≤ q'.id) = false := by simp; omega
            go_wp2
            go_quiet (fail)
            go_wp2
            go_roundw
            case rel => exact ⟨m + 1 + 1, by omega, by go_num, row_dn HO5.out _, below_dn HB5.out _⟩
            case measure => simp [intOf]; omega
        · clear hown hbel
          go_wp2
          go_ret
          exact ⟨rfl, HB5.out⟩
end Go.Proofs.Ytjejddpmkihdgab
