/-
  What a round of a range over frame.All keeps ('Kq'), and the iterator's contract at it. No function of the statement is named here.
-/
import Derived.Test.YtmokelmeihmeiabDoorFScanK
import Derived.Test.YtmokelmeihmeiabDoorFAll
namespace Go.Proofs.YtmokelmeihmeiabDoor
open Go.RowKit Go.Shelf

/-- What lay below n0, and what lies from n1 to n2, stays. -/
def Kq (n0 n1 n2 : Nat) (A B : World) : Prop := Below n0 A B ∧ ∀ k, n1 ≤ k → k < n2 → B.heap[k]? = A.heap[k]?
theorem Kq.refl {n0 n1 n2 : Nat} (A : World) : Kq n0 n1 n2 A A := ⟨Below.refl _ _, fun _ _ _ => rfl⟩
theorem Kq.trans {n0 n1 n2 : Nat} {A B C : World} (h : Kq n0 n1 n2 A B) (k : Kq n0 n1 n2 B C) : Kq n0 n1 n2 A C := ⟨h.1.trans k.1, fun j h1 h2 => (k.2 j h1 h2).trans (h.2 j h1 h2)⟩
theorem Kq.dn {n0 n1 n2 : Nat} (A : World) (q : Nat) : Kq n0 n1 n2 A (A.drewN q) := ⟨below_dn (Below.refl _ _) q, fun _ _ _ => rfl⟩
theorem Kq.set {n0 n1 n2 g : Nat} (A : World) (hg : n0 ≤ g) (hg1 : g < n1) (u : Value) : Kq n0 n1 n2 A (A.setCell ⟨g, 0, none⟩ u) :=
  ⟨(Below.refl _ A).setCell (p := ⟨g, 0, none⟩) hg u, fun k h1 _ => Below.heap_setCell _ _ _ _ (by intro e; have : k = g := e; omega)⟩

theorem Held.blocks {w w' : World} {ao : Option Addr} {len cap : Nat} {bs : List Int} (h : Held w ao len cap bs) (hs : w.heap.size ≤ w'.heap.size) (hb : ∀ ad, ao = some ad → 0 < len → w'.heap[ad.block]? = w.heap[ad.block]?) : Held w' ao len cap bs := by
  refine ⟨h.hlen, h.hcap, h.hmax, h.nil, h.byte, fun ad ha j hj => ?_, fun ad ha hp => Nat.lt_of_lt_of_le (h.old ad ha hp) hs⟩
  have e : (ad.add j).block = ad.block := by unfold Addr.add; split <;> rfl
  rw [World.cell?_of_block (w := w) (by rw [e]; exact hb ad ha (by omega))]
  exact h.cell ad ha j hj

theorem scans_seq (n : Nat) (hn : 1 ≤ n) (n0 : Nat) (V0 V2 : World) (Bs : Nat) (co : Option Addr) (len cc : Nat) (bs : List Int) (hn0 : n0 ≤ V0.heap.size) (h02 : V0.heap.size ≤ V2.heap.size) (hBs : V0.heap.size ≤ Bs)
    (hbox : Boxed V2 Bs 22 (.slice co len cc)) (hheld : Held V2 co len cc bs) (hblk : ∀ a, co = some a → V0.heap.size ≤ a.block) (hpos : 0 < n0) (htab : Tab V2) (hl : len ≤ 1000000000) :
    SeqStopsK Fence.wide n Tryd.prog 24 #[.pointer (some ⟨Bs, 0, none⟩)] (fun x : Int × ByteArray => #[Value.int .i64 x.1, Value.string x.2]) (Kq n0 V0.heap.size V2.heap.size) (fun ys => ys = scanAll bs) (fun pre => pre <+: scanAll bs) (scanAll bs).length V2 := by
  refine frames_stopsK n hn Bs (Kq n0 V0.heap.size V2.heap.size) Kq.refl Kq.trans Kq.dn co len cc bs V2 ?_ ?_ (fun h => h.1.size) hheld.hlen (by omega)
  · intro W hW
    exact ⟨hW.mono (by omega), fun k _ h2 => hW.block k h2⟩
  · intro W hW
    refine ⟨(hW.2 Bs hBs hbox.lt).trans hbox, hheld.blocks hW.1.size (fun a ha hp => hW.2 a.block (hblk a ha) (hheld.old a ha hp)), htab.below hW.1 hpos⟩

theorem ownFrom_at {β : Type} {B k : Nat} {o : Obj} (hk : k < B) : OwnFrom B (fun (_ : β) W => W.heap[k]? = some o) := fun _ W W' row hs hg hr =>
  (hg.block k (Array.getElem?_eq_some_iff.1 hs).1 (fun e => by have := (hr k e.symm).1; omega)).trans hs
theorem ownFrom_or {β : Type} {B : Nat} {p : β → Prop} {I : β → World → Prop} (h : OwnFrom B I) (q : β → Prop) : OwnFrom B (fun s W => p s ∨ (q s ∧ I s W)) := fun s W W' row hs hg hr => by
  rcases hs with hs | ⟨hq, hs⟩
  · exact .inl hs
  · exact .inr ⟨hq, h s W W' row hs hg hr⟩
theorem endOf_snoc (pre : List (Int × ByteArray)) (x : Int × ByteArray) : endOf (pre ++ [x]) = wrap64 (wrap64 (x.1 + 8) + x.2.size) := by
  unfold endOf
  simp
end Go.Proofs.YtmokelmeihmeiabDoor
