/-
  Package acceptor: the slots that have votes, sorted.
-/
import Derived.Test.YtbofpapdbjecoaaGreatAcA
import Derived.Test.YtbofpapdbjecoaaGreatCodZ
import Derived.Shelf.SlIterI.Sorted
import Derived.Shelf.SortM.Plain
import Derived.Shelf.SortM.SortNone
import Derived.Ground.GgzProg
import Derived.Ground.SlgmProg
namespace Go.Proofs
open Go.RowKit Go.Maps Go.Sort Go.Shelf
shelf_lay_g SlLaysZI.n7 Ggz 7 at Tryz 57 as YtbofpapdbjecoaaGreat.keysV
shelf_lay_g SlLaysZI.n6 Ggz 6 at Tryz 56 as YtbofpapdbjecoaaGreat.sortedV
shelf_lay_g SlLaysM.n5 Slgm 5 at Tryz 87 as YtbofpapdbjecoaaGreat.sortV
end Go.Proofs
namespace Go.Proofs.YtbofpapdbjecoaaGreat
open Go.RowKit Go.Maps Go.Sort Go.Shelf

theorem sortsV (m : Nat) : AnyZI.SortsIn Tryz.prog sortedV_ren Fence.wide m :=
  ⟨fun blk off cap ss W hH hblk hsz => callsIn_wide.2 (AnyM.slices_Sort_int sortV blk off cap ss W hH hblk hsz),
   fun p cap W => callsIn_wide.2 (AnyM.slices_Sort_int_none sortV p cap W)⟩
theorem keysA (mb : Nat) (W : World) : Calls Tryz.prog 57 #[.map (some mb)] W fun e w' => e = .returned (.func (.func 88) #[] #[.pointer (some ⟨W.heap.size, 0, none⟩)]) ∧ w' = W.alloc (.cells #[.map (some mb)] 62) :=
  (callsIn_wide (n := 5)).1 (AnyZI.keys_in keysV Fence.wide 5 trivial rfl (some mb) W)
theorem mem_intKeys {w : World} {b n : Nat} {D : DataW Value} (hown : w.ownsMap Tryz.prog 3 valR b n D) (x : Int) : x ∈ intKeys D ↔ Maps.has D (.int .i64 x) = true := by
  obtain ⟨es, rfl, hko⟩ := hown.keysOf
  rw [has_eq, List.any_eq_true]
  show x ∈ es.map (fun p => Go.intOf p.1) ↔ _
  rw [List.mem_map]
  constructor
  · rintro ⟨p, hp, rfl⟩
    obtain ⟨v, hv⟩ := hko p hp
    obtain ⟨y, _, hy, _⟩ := Maps.keyOf_i64 Tryz.underlying3 hv
    exact ⟨p, hp, by rw [hy]; simp [Lit.sameKey, Go.intOf]⟩
  · rintro ⟨p, hp, hs⟩
    obtain ⟨v, hv⟩ := hko p hp
    obtain ⟨y, _, hy, _⟩ := Maps.keyOf_i64 Tryz.underlying3 hv
    rw [hy] at hs
    exact ⟨p, hp, by rw [hy]; simpa [Lit.sameKey, Go.intOf] using hs⟩
theorem isSome_of {a : Ac} {S : Int → Option VoM} (h : ∀ s, (S s).map VoM.vt = a.f s) (s : Int) : (S s).isSome = (a.f s).isSome := by rw [← h s]; simp
theorem keys_perm {w : World} {p m : Nat} {a : Ac} (h : AcAt w p m a) {S : Int → Option VoM} {D : DataW Value} (hm : VoMap w m S a.ks.length D) (hS : ∀ s, (S s).map VoM.vt = a.f s) : a.ks.Perm (intKeys D) := by
  have hmem : ∀ x, x ∈ a.ks ↔ Maps.has D (.int .i64 x) = true := fun x => by
    constructor
    · intro hx
      have hi : I64 x := by have := h.ok.slot x hx; unfold I64; omega
      rw [has_look (allHeld_of hm.map), hm.key x hi]
      have := (h.ok.has x).1 hx
      rw [← isSome_of hS x] at this
      simpa using this
    · intro hx
      have hi : I64 x := by
        have := intKeys_wf hm.map Tryz.underlying3 x ((mem_intKeys hm.map x).2 hx)
        unfold I64
        simp [Lit.wf, IntKind.min, IntKind.max, IntKind.signed, IntKind.bits] at this
        omega
      rw [has_look (allHeld_of hm.map), hm.key x hi] at hx
      refine (h.ok.has x).2 ?_
      rw [← isSome_of hS x]
      simpa using hx
  obtain ⟨es, hD, hpw, _⟩ := hm.map.entries Tryz.keyedIntL
  obtain ⟨es', hD', hko⟩ := hm.map.keysOf
  obtain rfl : es = es' := by rw [hD] at hD'; simpa using hD'
  have hnd : a.ks.Nodup := (h.ok.rise).imp (fun hlt e => by omega)
  rw [hD] at hmem ⊢
  exact perm_intKeys hpw (fun q hq => by obtain ⟨v, hv⟩ := hko q hq; obtain ⟨x, _, hx, _⟩ := Maps.keyOf_i64 Tryz.underlying3 hv; exact ⟨x, hx⟩) hnd hmem
theorem sorted_ks {ks ss : List Int} (hr : Rises ks) (h : ss.Perm ks) : (ss.mergeSort fun x y => decide (x ≤ y)) = ks := by
  have h1 := mergeSort_of_perm_i h
  show ss.mergeSort leI = ks
  rw [h1]
  exact List.mergeSort_of_pairwise (hr.imp (fun hlt => by simp; omega))
set_option maxHeartbeats 1000000 in
theorem AcAt.sortedKeys {W : World} {p m : Nat} {a : Ac} (h : AcAt W p m a) : Calls Tryz.prog 56 #[.func (.func 88) #[] #[.pointer (some ⟨W.heap.size, 0, none⟩)]] (W.alloc (.cells #[.map (some m)] 62)) fun e w' => ∃ v, e = .returned v ∧ w'.ownsRow W.heap.size 3 1 v a.ks.length (ints a.ks) ∧ Below W.heap.size W w' := by
  obtain ⟨S, D, hm, hS⟩ := h.map
  have hperm := keys_perm h hm hS
  have hfew := h.ok.few
  have hsz := hm.cnt
  have hbl := hm.map.lt
  have hseq : SeqGives Fence.wide 2 Tryz.prog 88 #[.pointer (some ⟨W.heap.size, 0, none⟩)] encZ (fun ss => ss.Perm (intKeys D)) (Maps.size D) (W.alloc (.cells #[.map (some m)] 62)) :=
    AnyZI.keys_gives (ρ := keysV_ren) { keysV with } Fence.wide _ trivial rfl (by omega) W.heap.size m _ D _ (by simp) (by simp) ((Turns.refl (fun _ => False) W).alloc _ |>.map hm.map (fun h => h))
  have cS := AnyZI.sorted_in sortedV Fence.wide 5 trivial trivial trivial trivial rfl (by omega) (sortsV _) (enters_of Tryz.func87 (by kernel_rfl) rfl) 88 #[.pointer (some ⟨W.heap.size, 0, none⟩)] trivial (enters_of Tryz.func88 (by kernel_rfl) rfl) _ _ (by unfold maxLen; omega) (by omega) _ hseq
  change CallsIn _ _ Tryz.prog 56 _ _ _ at cS
  refine ((callsIn_wide (n := 5)).1 cS).mono ?_
  rintro e w' ⟨v, ss, rfl, hp, hrow, _, hb⟩
  have hss := sorted_ks h.ok.rise (hp.trans hperm.symm)
  rw [hss] at hrow
  have hl : ss.length = a.ks.length := (hp.trans hperm.symm).length_eq
  rw [hl] at hrow
  have hbW : Below W.heap.size W (W.alloc (.cells #[.map (some m)] 62)) := (Below.refl _ _).alloc (Nat.le_refl _) _
  exact ⟨v, rfl, own_monoC hrow hbW.size, bt' hbW hb⟩
end Go.Proofs.YtbofpapdbjecoaaGreat
