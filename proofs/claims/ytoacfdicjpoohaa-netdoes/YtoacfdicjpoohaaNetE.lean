/-
  Package net: All answers the packets of the bag, in order; nothing that was there is written.
-/
import Derived.Test.YtoacfdicjpoohaaNetL
import Derived.RangeFuncBox
namespace Go.Proofs.Ytoacfdicjpoohaa
open Go.RowKit Go.Maps

def Pk.cells (q : Pk) : List Value := [.int .i64 q.id, .int .i64 q.frm, .int .i64 q.dst, .string q.body]
/-- The cells of packets, one behind the other. -/
def flat (ps : List Pk) : List Value := ps.flatMap Pk.cells
theorem flat_snoc (ps : List Pk) (q : Pk) : flat (ps ++ [q]) = flat ps ++ q.cells := by simp [flat]
theorem flat_len (ps : List Pk) : (flat ps).length = ps.length * 4 := by
  induction ps with
  | nil => rfl
  | cons q r ih => simp [flat, Pk.cells] at ih ⊢; omega
theorem take_snoc_pk {ps : List Pk} {j : Nat} (h : j < ps.length) : ps.take (j + 1) = ps.take j ++ [ps[j]] := List.take_succ_eq_append_getElem h
theorem pk_one (q : Pk) : ∀ u ∈ q.cells, u.oneCell' = true := by
  intro u hu
  simp [Pk.cells] at hu
  rcases hu with rfl | rfl | rfl | rfl <;> rfl

theorem Try.infoPk : (Try.prog.info? 36).map (fun i => (i.zero, i.size, i.bytes)) = some (some Pk.none, 4, 40) := by kernel_rfl

theorem allWant (w : World) (q : Pk) : Calls Try.prog 38 #[.agg #[.int .i64 q.id, .int .i64 q.frm, .int .i64 q.dst, .string q.body]] w fun e w' => e = .returned (.bool true) ∧ w' = w.alloc (.cells #[.int .i64 q.id, .int .i64 q.frm, .int .i64 q.dst, .string q.body] 36) := by
  go_enter Try.func38, Try.ntmps38
  go_wp2
  go_ret
  exact ⟨rfl, rfl⟩

theorem cells_new (w : World) (q : Pk) : ∀ j u, q.cells[j]? = some u → (w.alloc (.cells #[.int .i64 q.id, .int .i64 q.frm, .int .i64 q.dst, .string q.body] 36)).cell? ((⟨w.heap.size, 0, none⟩ : Addr).add j) = some u := by
  intro j u hu
  rw [Addr.add_lit, Nat.zero_add]
  exact (Blk.new w 36 q.cells).cell hu

theorem cells_new2 (w : World) (q : Pk) : ∀ j u, q.cells[j]? = some u → (((w.alloc (.cells #[.int .i64 q.id, .int .i64 q.frm, .int .i64 q.dst, .string q.body] 36)).alloc (.cells #[.int .i64 q.id, .int .i64 q.frm, .int .i64 q.dst, .string q.body] 36)).alloc (.cells #[.int .i64 q.id, .int .i64 q.frm, .int .i64 q.dst, .string q.body] 36)).cell? ((⟨w.heap.size + 1 + 1, 0, none⟩ : Addr).add j) = some u := by
  intro j u hu
  have := cells_new ((w.alloc (.cells #[.int .i64 q.id, .int .i64 q.frm, .int .i64 q.dst, .string q.body] 36)).alloc (.cells #[.int .i64 q.id, .int .i64 q.frm, .int .i64 q.dst, .string q.body] 36)) q j u hu
  rwa [World.size_alloc, World.size_alloc] at this
theorem own_lt2 {w : World} {B e size n : Nat} {v : Value} {xs : List Value} (h : w.ownsRow B e size v n xs) : ∀ k, v.ownBlock = some k → B ≤ k := fun k hk => (h.lt k hk).1

section
variable {w : World} {p bm : Nat} {v : Value} {nodes last : Int} {ps : List Pk} {D : DataW Value}

set_option maxRecDepth 100000 in
set_option maxHeartbeats 1000000 in
theorem allThose (h : NetAt w p bm v nodes last ps D) (hlast : last ≤ 4611686018427387904) :
    Calls Try.prog 32 #[.pointer (some ⟨p, 0, none⟩), .func (.func 38) #[] #[]] w fun e w' => ∃ v', e = .returned v' ∧ w'.ownsRow w.heap.size 36 4 v' ps.length (flat ps) ∧ Below w.heap.size w w' := by
  obtain ⟨i0, hi, hz0, hz1, hz2⟩ := info_parts Try.infoPk
  obtain ⟨ao, cap, hv⟩ := own_slice h.row
  subst hv
  have hfew := h.few
  have hc3 := h.blk.cell (i := 3) rfl
  have HH := hid h
  have HCL := hid h.closed
  have hpl := h.blk.lt
  have hrow := h.row
  have HROW := hid hrow
  clear h hrow
  go_enter Try.func32, Try.ntmps32
  go_wp2_with fail
  refine HCL.out.mono ?_
  rintro e w' ⟨rfl, h'⟩
  subst h'
  go_wp2
  go_loopw [5, 16] (fun a b wr => ∃ (j : Nat), j ≤ ps.length ∧ b = .int .i64 j ∧ wr.ownsRow w'.heap.size 36 4 a j (flat (ps.take j)) ∧ Below w'.heap.size w' wr) (fun _ b _ => ps.length - (intOf b).toNat)
  case atStart => exact ⟨0, by omega, rfl, World.ownsRow_nil _ _ _ _, Below.refl _ _⟩
  case round =>
    obtain ⟨j, hj, rfl, hown, hbel⟩ := hrel
    have HO := hid hown
    have HB := hid hbel
    obtain ⟨ao', cap', hv'⟩ := own_slice hown
    clear hown hbel
    subst hv'
    by_cases hlt : j < ps.length
    · obtain ⟨g, hao⟩ : ∃ g, ao = some ⟨g, 0, none⟩ := by
        rcases HROW.out.2 with ⟨e, h0⟩ | ⟨g, c, _, e, _⟩
        · omega
        · exact ⟨g, by cases e; rfl⟩
      subst hao
      have HN : Hid (NetAt wr p bm (.slice (some ⟨g, 0, none⟩) ps.length cap) nodes last ps D) := HH.out.below HB.out (Nat.le_refl _)
      have hlt' : (j : Int) < (ps.length : Int) := by omega
      obtain ⟨q, hq⟩ : ∃ q, q = ps[j] := ⟨_, rfl⟩
      have hqm : q ∈ ps := by rw [hq]; exact List.getElem_mem hlt
      have hcell : wr.cell? ⟨g, j, none⟩ = some (.int .i64 q.id) := by
        have hr := HN.out.row
        rw [map_ids] at hr
        have := intsAt_row hr j (by simpa using hlt)
        rw [getD_ids hlt, ← hq] at this
        exact this
      have hc2 := HN.out.blk.cell (i := 2) rfl
      have hq1 := (HN.out.ids q hqm).1
      have hq2 := (HN.out.ids q hqm).2
      have HKEY := hid (Try.keyInt (x := q.id) (by omega) (by omega))
      have HV : Hid ((look D (.int .i64 q.id)).getD Pk.none = .agg #[.int .i64 q.id, .int .i64 q.frm, .int .i64 q.dst, .string q.body]) := by
        show _ = _
        rw [HN.out.look, hq, found_at HN.out.rise hlt]
        rfl
      have HTK : Hid (flat (ps.take (j + 1)) = flat (ps.take j) ++ q.cells) := by
        show _ = _
        rw [take_snoc_pk hlt, flat_snoc, hq]
      have hsz := HB.out.size
      have hws : w'.heap.size ≤ wr.heap.size := hsz
      clear hq hqm
      go_wp2_with (first | (at_lookup; refine wpList_look _ rfl _ _ 45 rfl 3 36 Try.keyedInt Try.underlying45 Pk.none (Try.zeroPk _) bm _ D rfl HN.out.map _ (.int .i64 q.id) rfl HKEY.out _ HV.out ?_) | fail)
      refine (allWant _ q).mono ?_
      rintro e w2 ⟨rfl, h'⟩
      subst h'
      go_wp2_with (at_builtin; refine wpList_append_own_at _ rfl _ _ 49 rfl w'.heap.size 36 i0 Pk.none 4 40 Try.underlying49 hi hz0 hz1 hz2 rfl (by decide) (.slice ao' j cap') j (flat (ps.take j)) rfl (((HO.out.alloc _).alloc _).alloc _) ⟨wr.heap.size + 1 + 1, 0, none⟩ 1 1 q.cells rfl rfl (by exact cells_new2 wr q) (pk_one q) (by unfold maxLen; omega) (by omega) (by simp; omega) ?_; intro v' w3 hown3 hgrow3 _ hat3; obtain ⟨g3, cap3, hv3⟩ := ownsRow_succ hown3; subst hv3; have HO3 := hid hown3; have HG3 := hid hgrow3; clear hown3 hgrow3)
      go_roundw
      case rel => exact ⟨j + 1, by omega, by go_num, by rw [HTK.out]; exact HO3.out, (((HB.out.alloc hws _).alloc (by simp; omega) _).alloc (by simp; omega) _).grown HG3.out (by simp; omega) (own_lt2 HO.out)⟩
      case measure => simp [intOf]; omega
    · obtain rfl : j = ps.length := by omega
      rw [List.take_length] at HO
      go_wp2
      go_ret
      exact ⟨_, rfl, HO.out, HB.out⟩

theorem all_any (h : NetAt w p bm v nodes last ps D) (hlast : last ≤ 4611686018427387904) :
    Calls Try.prog 29 #[.pointer (some ⟨p, 0, none⟩)] w fun e w' => ∃ v', e = .returned v' ∧ w'.ownsRow w.heap.size 36 4 v' ps.length (flat ps) ∧ Below w.heap.size w w' := by
  go_enter Try.func29, Try.ntmps29
  go_wp2_with fail
  refine (allThose h hlast).mono ?_
  rintro e w' ⟨v', rfl, hown, hb⟩
  obtain ⟨ao, cap, hv⟩ := own_slice hown
  subst hv
  go_wp2
  go_ret
  exact ⟨_, rfl, hown, hb⟩
end
end Go.Proofs.Ytoacfdicjpoohaa
