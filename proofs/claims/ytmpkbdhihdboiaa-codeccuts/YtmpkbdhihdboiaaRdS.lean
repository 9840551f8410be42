/-
  Package codec: a reader's message, as one.
-/
import Derived.Test.YtmpkbdhihdboiaaRdR
namespace Go.Proofs.Ytmpkbdhihdboiaa
open Go.RowKit Go.Maps

/-- A message that a reader made behind a first world. -/
structure MsNew (w w' : World) (x : MsM) : Prop where
  ok : MsOk w' x
  cut : HN w' x.en.ao x.en.cap x.en.e.cut
  cutN : ∀ b off, x.en.ao = some ⟨b, off, none⟩ → x.en.e.cut ≠ [] → w.heap.size ≤ b
  vs : VosAt w 4096 w' x.vo x.vc x.vs
  seen : HN w' x.so x.sc x.seen
  seenN : ∀ b off, x.so = some ⟨b, off, none⟩ → x.seen ≠ [] → w.heap.size ≤ b
  evs : EvsAt w 4096 w' x.eo x.ec x.evs
theorem RdAt.msgR {w : World} {rb : Nat} {ao : Option Addr} {len cap : Nat} {bs : List Int} {st : Option (List Int)} (h : RdAt w rb ao len cap bs st) : Calls Try.prog 32 #[.pointer (some ⟨rb, 0, none⟩)] w fun e w' => (∃ x : MsM, e = .returned x.val ∧ Got st pMsg x.d ∧ MsNew w w' x) ∧ RdAt w' rb ao len cap bs (nxt st pMsg) ∧ Turns (fun i => i = rb) w w' := by
  refine h.partMsg.mono ?_
  rintro e w' ⟨⟨y0, y1, y2, y3, z3, y4, a5, c5, p5, t5, s5, q5, y5, a6, c6, y6, a7, c7, y7, a8, c8, y8, y9, he, g0, i0, g1, i1, g2, i2, g3, i3, g4, i4, g5, i5, v5, n5, g6, v6, g7, v7, n7, g8, v8, g9, i9⟩, hr, ht⟩
  refine ⟨⟨⟨y0, y1, y2, (y3, z3), y4, ⟨⟨p5, t5, s5, q5, y5⟩, a5, c5⟩, a6, c6, y6, a7, c7, y7, a8, c8, y8, y9⟩, he, ?_, ?_⟩, ?_, ht⟩
  · exact got_map _ (got_seq g0 (got_seq g1 (got_seq g2 (got_seq g3 (got_seq g4 (got_seq g5 (got_seq g6 (got_seq g7 (got_seq g8 g9)))))))))
  · exact ⟨⟨⟨v5.hv, i5.1, Nat.le_trans i5.2.1 (by decide), Nat.le_trans i5.2.2 (by decide)⟩, v6.held.held, Nat.le_trans v6.few (by decide), v7.hv, v8.held.held, Nat.le_trans v8.few (by decide), i0, i1, i2, i3.1, i3.2, i4, i9⟩, v5, n5, v6, v7, n7, v8⟩
  · unfold pMsg
    rw [nxt_map, ← nxt_seq, ← nxt_seq, ← nxt_seq, ← nxt_seq, ← nxt_seq, ← nxt_seq, ← nxt_seq, ← nxt_seq, ← nxt_seq]
    exact hr
end Go.Proofs.Ytmpkbdhihdboiaa
