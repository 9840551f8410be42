/-
  No cell of these rows narrows 'for every input' (looked for: loops, veiled, ifaces, maps, wideKeys, modest, calm, conditions, laid).
  DERIVED. THE GIVEN ROWS OF THIS SEAT. 6 by the template 'for every input the law returns true; each argument reads behind the call as it read before'; 0 by the template 'total and deterministic' (their statements: YtdceenejijigdaaTotals.lean).
  GIVEN WITH THE SEED: the statements are not yours to turn. If you find one false, say at which input.
  Laid BY PROGRAM, IN A SANDBOX (cutbox-rows.mjs): the forced cells as the released guide's own fill.sh prints them over the translation ac0ec8bbc69af562… (all of the seat's roots in one cut). By AI agents, Wed Nov 11 2026. No macro, syntax, notation, axiom, sorry.
-/
import Derived.Test.YtdceenejijigdaaChecked
import GoSem.Claim
import GoSem.ClaimJoined
import GoSem.ClaimMapViews
import Derived.JoinedTies
import Derived.KernelRfl
namespace Go.Proofs.Ytdceenejijigdaa
/- THE CELL 'sum', in the pinned program and in every row, IS THE sha256 OF THE DUMP (.gsa) THAT YtdceenejijigdaaProg.lean LOADS. Nothing in Lean hashes anything: it is a label: what it is worth is what the hold of that sum in a sandbox is worth. -/
noncomputable def Try.pinned : Pinned := { name := "ytdceenejijigdaa", sum := "ac0ec8bbc69af5627edc7200ca9e050481bace21e7e5f0bb057f9881e608525d", checked := Try.checked }
namespace Rows
def none {H : Type} : Left H := { results := [], args := [] }

/-- 'pannierlaw15.BallotOrder': WHATEVER THE INPUT: true; the input reads as it did. -/
def ballotOrderSpec : ChangeSpec := { name := "ballotOrder", fn := fun _ => fun
  | [d1, d2, d3, d4] => { results := [.lit (.bool true)], args := [d1, d2, d3, d4] }
  | _ => none }
def ballotOrderRow : OpenClaim := { program := "ytdceenejijigdaa", sum := "ac0ec8bbc69af5627edc7200ca9e050481bace21e7e5f0bb057f9881e608525d", func := "pannier/pannierlaw15.BallotOrder", spec := "ballotOrder", apart := false }
def BallotOrderSaid : Prop := ballotOrderRow.holds Try.pinned (OpenSpec.ofChange ballotOrderSpec)

/-- ITS FALSE NEIGHBOUR: 'it returns false'. Refute it at one input. -/
def ballotOrderWrong : ChangeSpec := { name := "ballotOrder", fn := fun _ => fun
  | [d1, d2, d3, d4] => { results := [.lit (.bool false)], args := [d1, d2, d3, d4] }
  | _ => none }
def BallotOrderWrongFalsely : Prop := ballotOrderRow.holds Try.pinned (OpenSpec.ofChange ballotOrderWrong)

/-- 'pannierlaw15.BallotPicks': WHATEVER THE INPUT: true; the input reads as it did. -/
def ballotPicksSpec : ChangeSpec := { name := "ballotPicks", fn := fun _ => fun
  | [d1, d2] => { results := [.lit (.bool true)], args := [d1, d2] }
  | _ => none }
def ballotPicksRow : OpenClaim := { program := "ytdceenejijigdaa", sum := "ac0ec8bbc69af5627edc7200ca9e050481bace21e7e5f0bb057f9881e608525d", func := "pannier/pannierlaw15.BallotPicks", spec := "ballotPicks", recurses := true, apart := false }
def BallotPicksSaid : Prop := ballotPicksRow.holds Try.pinned (OpenSpec.ofChange ballotPicksSpec)

/-- ITS FALSE NEIGHBOUR: 'it returns false'. Refute it at one input. -/
def ballotPicksWrong : ChangeSpec := { name := "ballotPicks", fn := fun _ => fun
  | [d1, d2] => { results := [.lit (.bool false)], args := [d1, d2] }
  | _ => none }
def BallotPicksWrongFalsely : Prop := ballotPicksRow.holds Try.pinned (OpenSpec.ofChange ballotPicksWrong)

/-- 'pannierlaw15.BallotVotes': WHATEVER THE INPUT: true; the input reads as it did. -/
def ballotVotesSpec : ChangeSpec := { name := "ballotVotes", fn := fun _ => fun
  | [d1, d2, d3] => { results := [.lit (.bool true)], args := [d1, d2, d3] }
  | _ => none }
def ballotVotesRow : OpenClaim := { program := "ytdceenejijigdaa", sum := "ac0ec8bbc69af5627edc7200ca9e050481bace21e7e5f0bb057f9881e608525d", func := "pannier/pannierlaw15.BallotVotes", spec := "ballotVotes", apart := false }
def BallotVotesSaid : Prop := ballotVotesRow.holds Try.pinned (OpenSpec.ofChange ballotVotesSpec)

/-- ITS FALSE NEIGHBOUR: 'it returns false'. Refute it at one input. -/
def ballotVotesWrong : ChangeSpec := { name := "ballotVotes", fn := fun _ => fun
  | [d1, d2, d3] => { results := [.lit (.bool false)], args := [d1, d2, d3] }
  | _ => none }
def BallotVotesWrongFalsely : Prop := ballotVotesRow.holds Try.pinned (OpenSpec.ofChange ballotVotesWrong)

/-- 'pannierlaw15.BallotMeets': WHATEVER THE INPUT: true; the input reads as it did. -/
def ballotMeetsSpec : ChangeSpec := { name := "ballotMeets", fn := fun _ => fun
  | [d1, d2, d3] => { results := [.lit (.bool true)], args := [d1, d2, d3] }
  | _ => none }
def ballotMeetsRow : OpenClaim := { program := "ytdceenejijigdaa", sum := "ac0ec8bbc69af5627edc7200ca9e050481bace21e7e5f0bb057f9881e608525d", func := "pannier/pannierlaw15.BallotMeets", spec := "ballotMeets", apart := false }
def BallotMeetsSaid : Prop := ballotMeetsRow.holds Try.pinned (OpenSpec.ofChange ballotMeetsSpec)

/-- ITS FALSE NEIGHBOUR: 'it returns false'. Refute it at one input. -/
def ballotMeetsWrong : ChangeSpec := { name := "ballotMeets", fn := fun _ => fun
  | [d1, d2, d3] => { results := [.lit (.bool false)], args := [d1, d2, d3] }
  | _ => none }
def BallotMeetsWrongFalsely : Prop := ballotMeetsRow.holds Try.pinned (OpenSpec.ofChange ballotMeetsWrong)

/-- 'pannierlaw15.BallotNobody': WHATEVER THE INPUT: true; the input reads as it did. -/
def ballotNobodySpec : ChangeSpec := { name := "ballotNobody", fn := fun _ => fun
  | [d] => { results := [.lit (.bool true)], args := [d] }
  | _ => none }
def ballotNobodyRow : OpenClaim := { program := "ytdceenejijigdaa", sum := "ac0ec8bbc69af5627edc7200ca9e050481bace21e7e5f0bb057f9881e608525d", func := "pannier/pannierlaw15.BallotNobody", spec := "ballotNobody", apart := false }
def BallotNobodySaid : Prop := ballotNobodyRow.holds Try.pinned (OpenSpec.ofChange ballotNobodySpec)

/-- ITS FALSE NEIGHBOUR: 'it returns false'. Refute it at one input. -/
def ballotNobodyWrong : ChangeSpec := { name := "ballotNobody", fn := fun _ => fun
  | [d] => { results := [.lit (.bool false)], args := [d] }
  | _ => none }
def BallotNobodyWrongFalsely : Prop := ballotNobodyRow.holds Try.pinned (OpenSpec.ofChange ballotNobodyWrong)

/-- 'pannierlaw15.BallotChain': WHATEVER THE INPUT: true; the input reads as it did. -/
def ballotChainSpec : ChangeSpec := { name := "ballotChain", fn := fun _ => fun
  | [d1, d2] => { results := [.lit (.bool true)], args := [d1, d2] }
  | _ => none }
def ballotChainRow : OpenClaim := { program := "ytdceenejijigdaa", sum := "ac0ec8bbc69af5627edc7200ca9e050481bace21e7e5f0bb057f9881e608525d", func := "pannier/pannierlaw15.BallotChain", spec := "ballotChain", apart := false }
def BallotChainSaid : Prop := ballotChainRow.holds Try.pinned (OpenSpec.ofChange ballotChainSpec)

/-- ITS FALSE NEIGHBOUR: 'it returns false'. Refute it at one input. -/
def ballotChainWrong : ChangeSpec := { name := "ballotChain", fn := fun _ => fun
  | [d1, d2] => { results := [.lit (.bool false)], args := [d1, d2] }
  | _ => none }
def BallotChainWrongFalsely : Prop := ballotChainRow.holds Try.pinned (OpenSpec.ofChange ballotChainWrong)

/- THE SECOND FORM. 'bulk': how many values and letters a reading holds, each counted each time it is reached (what is shared counts as often as it is met; a slice's spare places count too). A statement '..UptoSaid' is the law's where the arguments, and the package variables that the reading takes, are together of bulk at most 1048576: NARROWER than '..Said'. Prove '..Said' where nothing that the law and all that it calls make is longer than what came in: it says more and counts as full. Else prove '..UptoSaid'. A law counts once. -/
mutual
def uptoBulk {H : Type} : DataW H → Nat
  | .lit (.string bytes) => bytes.length + 1
  | .lit _ => 1
  | .nil => 1
  | .ptr d => uptoBulk d + 1
  | .slice elems spare => uptoBulkAll elems + uptoBulkAll spare + 1
  | .agg parts => uptoBulkAll parts + 1
  | .iface _ d => uptoBulk d + 1
  | .map entries => uptoBulkEntries entries + 1
  | .held _ => 1
def uptoBulkAll {H : Type} : List (DataW H) → Nat
  | [] => 0
  | d :: r => uptoBulk d + uptoBulkAll r
def uptoBulkEntries {H : Type} : List (Lit × DataW H) → Nat
  | [] => 0
  | x :: r => uptoBulkEntry x + uptoBulkEntries r
def uptoBulkEntry {H : Type} : Lit × DataW H → Nat
  | (.string bytes, d) => bytes.length + uptoBulk d + 1
  | (_, d) => uptoBulk d + 1
 end
def uptoSmall : (H : Type) → List (DataW H) → Bool := fun _ ds => decide (uptoBulkAll ds ≤ 1048576)
def OpenSpec.upto (s : _root_.Go.ChangeSpec) : _root_.Go.OpenSpec := { _root_.Go.OpenSpec.ofChange s with cond := some uptoSmall }

/-- 'pannierlaw15.BallotOrder', WHERE WHAT IT READS IS OF BULK AT MOST 1048576: true; the input reads as it did. -/
def ballotOrderUptoRow : OpenClaim := { program := "ytdceenejijigdaa", sum := "ac0ec8bbc69af5627edc7200ca9e050481bace21e7e5f0bb057f9881e608525d", func := "pannier/pannierlaw15.BallotOrder", spec := "ballotOrder", apart := false, narrowed := true }
def BallotOrderUptoSaid : Prop := ballotOrderUptoRow.holds Try.pinned (OpenSpec.upto ballotOrderSpec)

/-- 'pannierlaw15.BallotPicks', WHERE WHAT IT READS IS OF BULK AT MOST 1048576: true; the input reads as it did. -/
def ballotPicksUptoRow : OpenClaim := { program := "ytdceenejijigdaa", sum := "ac0ec8bbc69af5627edc7200ca9e050481bace21e7e5f0bb057f9881e608525d", func := "pannier/pannierlaw15.BallotPicks", spec := "ballotPicks", recurses := true, apart := false, narrowed := true }
def BallotPicksUptoSaid : Prop := ballotPicksUptoRow.holds Try.pinned (OpenSpec.upto ballotPicksSpec)

/-- 'pannierlaw15.BallotVotes', WHERE WHAT IT READS IS OF BULK AT MOST 1048576: true; the input reads as it did. -/
def ballotVotesUptoRow : OpenClaim := { program := "ytdceenejijigdaa", sum := "ac0ec8bbc69af5627edc7200ca9e050481bace21e7e5f0bb057f9881e608525d", func := "pannier/pannierlaw15.BallotVotes", spec := "ballotVotes", apart := false, narrowed := true }
def BallotVotesUptoSaid : Prop := ballotVotesUptoRow.holds Try.pinned (OpenSpec.upto ballotVotesSpec)

/-- 'pannierlaw15.BallotMeets', WHERE WHAT IT READS IS OF BULK AT MOST 1048576: true; the input reads as it did. -/
def ballotMeetsUptoRow : OpenClaim := { program := "ytdceenejijigdaa", sum := "ac0ec8bbc69af5627edc7200ca9e050481bace21e7e5f0bb057f9881e608525d", func := "pannier/pannierlaw15.BallotMeets", spec := "ballotMeets", apart := false, narrowed := true }
def BallotMeetsUptoSaid : Prop := ballotMeetsUptoRow.holds Try.pinned (OpenSpec.upto ballotMeetsSpec)

/-- 'pannierlaw15.BallotNobody', WHERE WHAT IT READS IS OF BULK AT MOST 1048576: true; the input reads as it did. -/
def ballotNobodyUptoRow : OpenClaim := { program := "ytdceenejijigdaa", sum := "ac0ec8bbc69af5627edc7200ca9e050481bace21e7e5f0bb057f9881e608525d", func := "pannier/pannierlaw15.BallotNobody", spec := "ballotNobody", apart := false, narrowed := true }
def BallotNobodyUptoSaid : Prop := ballotNobodyUptoRow.holds Try.pinned (OpenSpec.upto ballotNobodySpec)

/-- 'pannierlaw15.BallotChain', WHERE WHAT IT READS IS OF BULK AT MOST 1048576: true; the input reads as it did. -/
def ballotChainUptoRow : OpenClaim := { program := "ytdceenejijigdaa", sum := "ac0ec8bbc69af5627edc7200ca9e050481bace21e7e5f0bb057f9881e608525d", func := "pannier/pannierlaw15.BallotChain", spec := "ballotChain", apart := false, narrowed := true }
def BallotChainUptoSaid : Prop := ballotChainUptoRow.holds Try.pinned (OpenSpec.upto ballotChainSpec)

end Rows
end Go.Proofs.Ytdceenejijigdaa
