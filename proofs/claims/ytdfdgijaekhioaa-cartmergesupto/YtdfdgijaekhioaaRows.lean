/-
  No cell of these rows narrows 'for every input' (looked for: loops, veiled, ifaces, maps, wideKeys, modest, calm, conditions, laid).
  DERIVED. THE GIVEN ROWS OF THIS SEAT. 6 by the template 'for every input the law returns true; each argument reads behind the call as it read before'; 0 by the template 'total and deterministic' (their statements: YtdfdgijaekhioaaTotals.lean).
  GIVEN WITH THE SEED: the statements are not yours to turn. If you find one false, say at which input.
  Laid BY PROGRAM, IN A SANDBOX (cutbox-rows.mjs): the forced cells as the released guide's own fill.sh prints them over the translation d3bf05f6bda8b27b… (all of the seat's roots in one cut). By AI agents, Wed Nov 11 2026. No macro, syntax, notation, axiom, sorry.
-/
import Derived.Test.YtdfdgijaekhioaaChecked
import GoSem.Claim
import GoSem.ClaimJoined
import GoSem.ClaimMapViews
import Derived.JoinedTies
import Derived.KernelRfl
namespace Go.Proofs.Ytdfdgijaekhioaa
/- THE CELL 'sum', in the pinned program and in every row, IS THE sha256 OF THE DUMP (.gsa) THAT YtdfdgijaekhioaaProg.lean LOADS. Nothing in Lean hashes anything: it is a label: what it is worth is what the hold of that sum in a sandbox is worth. -/
noncomputable def Try.pinned : Pinned := { name := "ytdfdgijaekhioaa", sum := "d3bf05f6bda8b27b734b7850895aa56f98c430bdf168762ecdaccca1e83acaa0", checked := Try.checked }
namespace Rows
def none {H : Type} : Left H := { results := [], args := [] }

/-- 'pannierlaw11.CartOrder': WHATEVER THE INPUT: true; the input reads as it did. -/
def cartOrderSpec : ChangeSpec := { name := "cartOrder", fn := fun _ => fun
  | [d1, d2, d3] => { results := [.lit (.bool true)], args := [d1, d2, d3] }
  | _ => none }
def cartOrderRow : OpenClaim := { program := "ytdfdgijaekhioaa", sum := "d3bf05f6bda8b27b734b7850895aa56f98c430bdf168762ecdaccca1e83acaa0", func := "pannier/pannierlaw11.CartOrder", spec := "cartOrder", unfollowed := true, recurses := true, plainKeys := false, apart := false }
def CartOrderSaid : Prop := cartOrderRow.holds Try.pinned (OpenSpec.ofChange cartOrderSpec)

/-- ITS FALSE NEIGHBOUR: 'it returns false'. Refute it at one input. -/
def cartOrderWrong : ChangeSpec := { name := "cartOrder", fn := fun _ => fun
  | [d1, d2, d3] => { results := [.lit (.bool false)], args := [d1, d2, d3] }
  | _ => none }
def CartOrderWrongFalsely : Prop := cartOrderRow.holds Try.pinned (OpenSpec.ofChange cartOrderWrong)

/-- 'pannierlaw11.CartMerges': WHATEVER THE INPUT: true; the input reads as it did. -/
def cartMergesSpec : ChangeSpec := { name := "cartMerges", fn := fun _ => fun
  | [d1, d2, d3, d4] => { results := [.lit (.bool true)], args := [d1, d2, d3, d4] }
  | _ => none }
def cartMergesRow : OpenClaim := { program := "ytdfdgijaekhioaa", sum := "d3bf05f6bda8b27b734b7850895aa56f98c430bdf168762ecdaccca1e83acaa0", func := "pannier/pannierlaw11.CartMerges", spec := "cartMerges", unfollowed := true, recurses := true, plainKeys := false, apart := false }
def CartMergesSaid : Prop := cartMergesRow.holds Try.pinned (OpenSpec.ofChange cartMergesSpec)

/-- ITS FALSE NEIGHBOUR: 'it returns false'. Refute it at one input. -/
def cartMergesWrong : ChangeSpec := { name := "cartMerges", fn := fun _ => fun
  | [d1, d2, d3, d4] => { results := [.lit (.bool false)], args := [d1, d2, d3, d4] }
  | _ => none }
def CartMergesWrongFalsely : Prop := cartMergesRow.holds Try.pinned (OpenSpec.ofChange cartMergesWrong)

/-- 'pannierlaw11.CartAdds': WHATEVER THE INPUT: true; the input reads as it did. -/
def cartAddsSpec : ChangeSpec := { name := "cartAdds", fn := fun _ => fun
  | [d1, d2, d3, d4] => { results := [.lit (.bool true)], args := [d1, d2, d3, d4] }
  | _ => none }
def cartAddsRow : OpenClaim := { program := "ytdfdgijaekhioaa", sum := "d3bf05f6bda8b27b734b7850895aa56f98c430bdf168762ecdaccca1e83acaa0", func := "pannier/pannierlaw11.CartAdds", spec := "cartAdds", unfollowed := true, recurses := true, plainKeys := false, apart := false }
def CartAddsSaid : Prop := cartAddsRow.holds Try.pinned (OpenSpec.ofChange cartAddsSpec)

/-- ITS FALSE NEIGHBOUR: 'it returns false'. Refute it at one input. -/
def cartAddsWrong : ChangeSpec := { name := "cartAdds", fn := fun _ => fun
  | [d1, d2, d3, d4] => { results := [.lit (.bool false)], args := [d1, d2, d3, d4] }
  | _ => none }
def CartAddsWrongFalsely : Prop := cartAddsRow.holds Try.pinned (OpenSpec.ofChange cartAddsWrong)

/-- 'pannierlaw11.CartApart': WHATEVER THE INPUT: true; the input reads as it did. -/
def cartApartSpec : ChangeSpec := { name := "cartApart", fn := fun _ => fun
  | [d1, d2, d3, d4] => { results := [.lit (.bool true)], args := [d1, d2, d3, d4] }
  | _ => none }
def cartApartRow : OpenClaim := { program := "ytdfdgijaekhioaa", sum := "d3bf05f6bda8b27b734b7850895aa56f98c430bdf168762ecdaccca1e83acaa0", func := "pannier/pannierlaw11.CartApart", spec := "cartApart", unfollowed := true, recurses := true, plainKeys := false, apart := false }
def CartApartSaid : Prop := cartApartRow.holds Try.pinned (OpenSpec.ofChange cartApartSpec)

/-- ITS FALSE NEIGHBOUR: 'it returns false'. Refute it at one input. -/
def cartApartWrong : ChangeSpec := { name := "cartApart", fn := fun _ => fun
  | [d1, d2, d3, d4] => { results := [.lit (.bool false)], args := [d1, d2, d3, d4] }
  | _ => none }
def CartApartWrongFalsely : Prop := cartApartRow.holds Try.pinned (OpenSpec.ofChange cartApartWrong)

/-- 'pannierlaw11.CartKnown': WHATEVER THE INPUT: true; the input reads as it did. -/
def cartKnownSpec : ChangeSpec := { name := "cartKnown", fn := fun _ => fun
  | [d1, d2, d3, d4, d5] => { results := [.lit (.bool true)], args := [d1, d2, d3, d4, d5] }
  | _ => none }
def cartKnownRow : OpenClaim := { program := "ytdfdgijaekhioaa", sum := "d3bf05f6bda8b27b734b7850895aa56f98c430bdf168762ecdaccca1e83acaa0", func := "pannier/pannierlaw11.CartKnown", spec := "cartKnown", unfollowed := true, recurses := true, plainKeys := false, apart := false }
def CartKnownSaid : Prop := cartKnownRow.holds Try.pinned (OpenSpec.ofChange cartKnownSpec)

/-- ITS FALSE NEIGHBOUR: 'it returns false'. Refute it at one input. -/
def cartKnownWrong : ChangeSpec := { name := "cartKnown", fn := fun _ => fun
  | [d1, d2, d3, d4, d5] => { results := [.lit (.bool false)], args := [d1, d2, d3, d4, d5] }
  | _ => none }
def CartKnownWrongFalsely : Prop := cartKnownRow.holds Try.pinned (OpenSpec.ofChange cartKnownWrong)

/-- 'pannierlaw11.CartPieces': WHATEVER THE INPUT: true; the input reads as it did. -/
def cartPiecesSpec : ChangeSpec := { name := "cartPieces", fn := fun _ => fun
  | [d1, d2, d3, d4] => { results := [.lit (.bool true)], args := [d1, d2, d3, d4] }
  | _ => none }
def cartPiecesRow : OpenClaim := { program := "ytdfdgijaekhioaa", sum := "d3bf05f6bda8b27b734b7850895aa56f98c430bdf168762ecdaccca1e83acaa0", func := "pannier/pannierlaw11.CartPieces", spec := "cartPieces", unfollowed := true, recurses := true, plainKeys := false, apart := false }
def CartPiecesSaid : Prop := cartPiecesRow.holds Try.pinned (OpenSpec.ofChange cartPiecesSpec)

/-- ITS FALSE NEIGHBOUR: 'it returns false'. Refute it at one input. -/
def cartPiecesWrong : ChangeSpec := { name := "cartPieces", fn := fun _ => fun
  | [d1, d2, d3, d4] => { results := [.lit (.bool false)], args := [d1, d2, d3, d4] }
  | _ => none }
def CartPiecesWrongFalsely : Prop := cartPiecesRow.holds Try.pinned (OpenSpec.ofChange cartPiecesWrong)

/- THE SECOND FORM. 'bulk': how many values and letters a reading holds, each counted each time it is reached (what is shared counts as often as it is met; a slice's spare places count too). A statement '..UptoSaid' is the law's where the arguments, and the package variables that the reading takes, are together of bulk at most 1048576: NARROWER than '..Said'. Prove '..Said' where nothing that the law and all that it calls make is longer than what came in: it says more and counts as full. Else prove '..UptoSaid'. A law counts once. -/
mutual
def uptoBulk {H : Type} : DataW H → Nat
  | .lit (.string bytes) => bytes.length + 1
  | .lit _ => 1
  | .nil => 1
  | .ptr d => uptoBulk d + 1
  | .slice elems spare => uptoBulkAll elems + uptoBulkAll spare + 1
  | .agg parts => uptoBulkAll parts + 1
  | .iface _ d => uptoBulk d + 1
  | .map entries => uptoBulkEntries entries + 1
  | .held _ => 1
def uptoBulkAll {H : Type} : List (DataW H) → Nat
  | [] => 0
  | d :: r => uptoBulk d + uptoBulkAll r
def uptoBulkEntries {H : Type} : List (Lit × DataW H) → Nat
  | [] => 0
  | x :: r => uptoBulkEntry x + uptoBulkEntries r
def uptoBulkEntry {H : Type} : Lit × DataW H → Nat
  | (.string bytes, d) => bytes.length + uptoBulk d + 1
  | (_, d) => uptoBulk d + 1
 end
def uptoSmall : (H : Type) → List (DataW H) → Bool := fun _ ds => decide (uptoBulkAll ds ≤ 1048576)
def OpenSpec.upto (s : _root_.Go.ChangeSpec) : _root_.Go.OpenSpec := { _root_.Go.OpenSpec.ofChange s with cond := some uptoSmall }

/-- 'pannierlaw11.CartOrder', WHERE WHAT IT READS IS OF BULK AT MOST 1048576: true; the input reads as it did. -/
def cartOrderUptoRow : OpenClaim := { program := "ytdfdgijaekhioaa", sum := "d3bf05f6bda8b27b734b7850895aa56f98c430bdf168762ecdaccca1e83acaa0", func := "pannier/pannierlaw11.CartOrder", spec := "cartOrder", unfollowed := true, recurses := true, plainKeys := false, apart := false, narrowed := true }
def CartOrderUptoSaid : Prop := cartOrderUptoRow.holds Try.pinned (OpenSpec.upto cartOrderSpec)

/-- 'pannierlaw11.CartMerges', WHERE WHAT IT READS IS OF BULK AT MOST 1048576: true; the input reads as it did. -/
def cartMergesUptoRow : OpenClaim := { program := "ytdfdgijaekhioaa", sum := "d3bf05f6bda8b27b734b7850895aa56f98c430bdf168762ecdaccca1e83acaa0", func := "pannier/pannierlaw11.CartMerges", spec := "cartMerges", unfollowed := true, recurses := true, plainKeys := false, apart := false, narrowed := true }
def CartMergesUptoSaid : Prop := cartMergesUptoRow.holds Try.pinned (OpenSpec.upto cartMergesSpec)

/-- 'pannierlaw11.CartAdds', WHERE WHAT IT READS IS OF BULK AT MOST 1048576: true; the input reads as it did. -/
def cartAddsUptoRow : OpenClaim := { program := "ytdfdgijaekhioaa", sum := "d3bf05f6bda8b27b734b7850895aa56f98c430bdf168762ecdaccca1e83acaa0", func := "pannier/pannierlaw11.CartAdds", spec := "cartAdds", unfollowed := true, recurses := true, plainKeys := false, apart := false, narrowed := true }
def CartAddsUptoSaid : Prop := cartAddsUptoRow.holds Try.pinned (OpenSpec.upto cartAddsSpec)

/-- 'pannierlaw11.CartApart', WHERE WHAT IT READS IS OF BULK AT MOST 1048576: true; the input reads as it did. -/
def cartApartUptoRow : OpenClaim := { program := "ytdfdgijaekhioaa", sum := "d3bf05f6bda8b27b734b7850895aa56f98c430bdf168762ecdaccca1e83acaa0", func := "pannier/pannierlaw11.CartApart", spec := "cartApart", unfollowed := true, recurses := true, plainKeys := false, apart := false, narrowed := true }
def CartApartUptoSaid : Prop := cartApartUptoRow.holds Try.pinned (OpenSpec.upto cartApartSpec)

/-- 'pannierlaw11.CartKnown', WHERE WHAT IT READS IS OF BULK AT MOST 1048576: true; the input reads as it did. -/
def cartKnownUptoRow : OpenClaim := { program := "ytdfdgijaekhioaa", sum := "d3bf05f6bda8b27b734b7850895aa56f98c430bdf168762ecdaccca1e83acaa0", func := "pannier/pannierlaw11.CartKnown", spec := "cartKnown", unfollowed := true, recurses := true, plainKeys := false, apart := false, narrowed := true }
def CartKnownUptoSaid : Prop := cartKnownUptoRow.holds Try.pinned (OpenSpec.upto cartKnownSpec)

/-- 'pannierlaw11.CartPieces', WHERE WHAT IT READS IS OF BULK AT MOST 1048576: true; the input reads as it did. -/
def cartPiecesUptoRow : OpenClaim := { program := "ytdfdgijaekhioaa", sum := "d3bf05f6bda8b27b734b7850895aa56f98c430bdf168762ecdaccca1e83acaa0", func := "pannier/pannierlaw11.CartPieces", spec := "cartPieces", unfollowed := true, recurses := true, plainKeys := false, apart := false, narrowed := true }
def CartPiecesUptoSaid : Prop := cartPiecesUptoRow.holds Try.pinned (OpenSpec.upto cartPiecesSpec)

end Rows
end Go.Proofs.Ytdfdgijaekhioaa
