/-
  No cell of these rows narrows 'for every input' (looked for: loops, veiled, ifaces, maps, wideKeys, modest, calm, conditions, laid).
  DERIVED. THE GIVEN ROWS OF THIS SEAT. 3 by the template 'for every input the law returns true; each argument reads behind the call as it read before'; 0 by the template 'total and deterministic' (their statements: YtcammngbhnhjjaaTotals.lean).
  GIVEN WITH THE SEED: the statements are not yours to turn. If you find one false, say at which input.
  Laid BY PROGRAM, IN A SANDBOX (cutbox-rows.mjs): the forced cells as the released guide's own fill.sh prints them over the translation d17f07f66b21caa1… (all of the seat's roots in one cut). By AI agents, Wed Nov 11 2026. No macro, syntax, notation, axiom, sorry.
-/
import Derived.Test.YtcammngbhnhjjaaChecked
import GoSem.Claim
import GoSem.ClaimJoined
import GoSem.ClaimMapViews
import Derived.JoinedTies
import Derived.KernelRfl
namespace Go.Proofs.Ytcammngbhnhjjaa
/- THE CELL 'sum', in the pinned program and in every row, IS THE sha256 OF THE DUMP (.gsa) THAT YtcammngbhnhjjaaProg.lean LOADS. Nothing in Lean hashes anything: it is a label: what it is worth is what the hold of that sum in a sandbox is worth. -/
noncomputable def Try.pinned : Pinned := { name := "ytcammngbhnhjjaa", sum := "d17f07f66b21caa1770593a2641f7474671a5e5ef759865e2ca8ec707ff75948", checked := Try.checked }
namespace Rows
def none {H : Type} : Left H := { results := [], args := [] }

/-- 'pannierlaw10.OplogClosed': WHATEVER THE INPUT: true; the input reads as it did. -/
def oplogClosedSpec : ChangeSpec := { name := "oplogClosed", fn := fun _ => fun
  | [d] => { results := [.lit (.bool true)], args := [d] }
  | _ => none }
def oplogClosedRow : OpenClaim := { program := "ytcammngbhnhjjaa", sum := "d17f07f66b21caa1770593a2641f7474671a5e5ef759865e2ca8ec707ff75948", func := "pannier/pannierlaw10.OplogClosed", spec := "oplogClosed", unfollowed := true, recurses := true, plainKeys := false, apart := false }
def OplogClosedSaid : Prop := oplogClosedRow.holds Try.pinned (OpenSpec.ofChange oplogClosedSpec)

/-- ITS FALSE NEIGHBOUR: 'it returns false'. Refute it at one input. -/
def oplogClosedWrong : ChangeSpec := { name := "oplogClosed", fn := fun _ => fun
  | [d] => { results := [.lit (.bool false)], args := [d] }
  | _ => none }
def OplogClosedWrongFalsely : Prop := oplogClosedRow.holds Try.pinned (OpenSpec.ofChange oplogClosedWrong)

/-- 'pannierlaw10.OplogOrder': WHATEVER THE INPUT: true; the input reads as it did. -/
def oplogOrderSpec : ChangeSpec := { name := "oplogOrder", fn := fun _ => fun
  | [d1, d2] => { results := [.lit (.bool true)], args := [d1, d2] }
  | _ => none }
def oplogOrderRow : OpenClaim := { program := "ytcammngbhnhjjaa", sum := "d17f07f66b21caa1770593a2641f7474671a5e5ef759865e2ca8ec707ff75948", func := "pannier/pannierlaw10.OplogOrder", spec := "oplogOrder", unfollowed := true, recurses := true, plainKeys := false, apart := false }
def OplogOrderSaid : Prop := oplogOrderRow.holds Try.pinned (OpenSpec.ofChange oplogOrderSpec)

/-- ITS FALSE NEIGHBOUR: 'it returns false'. Refute it at one input. -/
def oplogOrderWrong : ChangeSpec := { name := "oplogOrder", fn := fun _ => fun
  | [d1, d2] => { results := [.lit (.bool false)], args := [d1, d2] }
  | _ => none }
def OplogOrderWrongFalsely : Prop := oplogOrderRow.holds Try.pinned (OpenSpec.ofChange oplogOrderWrong)

/-- 'pannierlaw10.OplogCopies': WHATEVER THE INPUT: true; the input reads as it did. -/
def oplogCopiesSpec : ChangeSpec := { name := "oplogCopies", fn := fun _ => fun
  | [d1, d2] => { results := [.lit (.bool true)], args := [d1, d2] }
  | _ => none }
def oplogCopiesRow : OpenClaim := { program := "ytcammngbhnhjjaa", sum := "d17f07f66b21caa1770593a2641f7474671a5e5ef759865e2ca8ec707ff75948", func := "pannier/pannierlaw10.OplogCopies", spec := "oplogCopies", unfollowed := true, recurses := true, plainKeys := false, apart := false }
def OplogCopiesSaid : Prop := oplogCopiesRow.holds Try.pinned (OpenSpec.ofChange oplogCopiesSpec)

/-- ITS FALSE NEIGHBOUR: 'it returns false'. Refute it at one input. -/
def oplogCopiesWrong : ChangeSpec := { name := "oplogCopies", fn := fun _ => fun
  | [d1, d2] => { results := [.lit (.bool false)], args := [d1, d2] }
  | _ => none }
def OplogCopiesWrongFalsely : Prop := oplogCopiesRow.holds Try.pinned (OpenSpec.ofChange oplogCopiesWrong)

/- THE SECOND FORM. 'bulk': how many values and letters a reading holds, each counted each time it is reached (what is shared counts as often as it is met; a slice's spare places count too). A statement '..UptoSaid' is the law's where the arguments, and the package variables that the reading takes, are together of bulk at most 1048576: NARROWER than '..Said'. Prove '..Said' where nothing that the law and all that it calls make is longer than what came in: it says more and counts as full. Else prove '..UptoSaid'. A law counts once. -/
mutual
def uptoBulk {H : Type} : DataW H → Nat
  | .lit (.string bytes) => bytes.length + 1
  | .lit _ => 1
  | .nil => 1
  | .ptr d => uptoBulk d + 1
  | .slice elems spare => uptoBulkAll elems + uptoBulkAll spare + 1
  | .agg parts => uptoBulkAll parts + 1
  | .iface _ d => uptoBulk d + 1
  | .map entries => uptoBulkEntries entries + 1
  | .held _ => 1
def uptoBulkAll {H : Type} : List (DataW H) → Nat
  | [] => 0
  | d :: r => uptoBulk d + uptoBulkAll r
def uptoBulkEntries {H : Type} : List (Lit × DataW H) → Nat
  | [] => 0
  | x :: r => uptoBulkEntry x + uptoBulkEntries r
def uptoBulkEntry {H : Type} : Lit × DataW H → Nat
  | (.string bytes, d) => bytes.length + uptoBulk d + 1
  | (_, d) => uptoBulk d + 1
 end
def uptoSmall : (H : Type) → List (DataW H) → Bool := fun _ ds => decide (uptoBulkAll ds ≤ 1048576)
def OpenSpec.upto (s : _root_.Go.ChangeSpec) : _root_.Go.OpenSpec := { _root_.Go.OpenSpec.ofChange s with cond := some uptoSmall }

/-- 'pannierlaw10.OplogClosed', WHERE WHAT IT READS IS OF BULK AT MOST 1048576: true; the input reads as it did. -/
def oplogClosedUptoRow : OpenClaim := { program := "ytcammngbhnhjjaa", sum := "d17f07f66b21caa1770593a2641f7474671a5e5ef759865e2ca8ec707ff75948", func := "pannier/pannierlaw10.OplogClosed", spec := "oplogClosed", unfollowed := true, recurses := true, plainKeys := false, apart := false, narrowed := true }
def OplogClosedUptoSaid : Prop := oplogClosedUptoRow.holds Try.pinned (OpenSpec.upto oplogClosedSpec)

/-- 'pannierlaw10.OplogOrder', WHERE WHAT IT READS IS OF BULK AT MOST 1048576: true; the input reads as it did. -/
def oplogOrderUptoRow : OpenClaim := { program := "ytcammngbhnhjjaa", sum := "d17f07f66b21caa1770593a2641f7474671a5e5ef759865e2ca8ec707ff75948", func := "pannier/pannierlaw10.OplogOrder", spec := "oplogOrder", unfollowed := true, recurses := true, plainKeys := false, apart := false, narrowed := true }
def OplogOrderUptoSaid : Prop := oplogOrderUptoRow.holds Try.pinned (OpenSpec.upto oplogOrderSpec)

/-- 'pannierlaw10.OplogCopies', WHERE WHAT IT READS IS OF BULK AT MOST 1048576: true; the input reads as it did. -/
def oplogCopiesUptoRow : OpenClaim := { program := "ytcammngbhnhjjaa", sum := "d17f07f66b21caa1770593a2641f7474671a5e5ef759865e2ca8ec707ff75948", func := "pannier/pannierlaw10.OplogCopies", spec := "oplogCopies", unfollowed := true, recurses := true, plainKeys := false, apart := false, narrowed := true }
def OplogCopiesUptoSaid : Prop := oplogCopiesUptoRow.holds Try.pinned (OpenSpec.upto oplogCopiesSpec)

end Rows
end Go.Proofs.Ytcammngbhnhjjaa
