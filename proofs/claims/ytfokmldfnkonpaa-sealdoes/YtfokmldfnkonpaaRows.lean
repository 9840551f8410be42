/-
  No cell of these rows narrows 'for every input' (looked for: loops, veiled, ifaces, maps, wideKeys, modest, calm, conditions, laid).
  DERIVED. THE GIVEN ROWS OF THIS SEAT. 5 by the template 'for every input the law returns true; each argument reads behind the call as it read before'; 0 by the template 'total and deterministic' (their statements: YtfokmldfnkonpaaTotals.lean).
  GIVEN WITH THE SEED: the statements are not yours to turn. If you find one false, say at which input.
  Laid BY PROGRAM, IN A SANDBOX (cutbox-rows.mjs): the forced cells as the released guide's own fill.sh prints them over the translation a27da8a38c1497e9… (all of the seat's roots in one cut). By AI agents, Wed Nov 11 2026. No macro, syntax, notation, axiom, sorry.
-/
import Derived.Test.YtfokmldfnkonpaaChecked
import GoSem.Claim
import GoSem.ClaimJoined
import GoSem.ClaimMapViews
import Derived.JoinedTies
import Derived.KernelRfl
namespace Go.Proofs.Ytfokmldfnkonpaa
/- THE CELL 'sum', in the pinned program and in every row, IS THE sha256 OF THE DUMP (.gsa) THAT YtfokmldfnkonpaaProg.lean LOADS. Nothing in Lean hashes anything: it is a label: what it is worth is what the hold of that sum in a sandbox is worth. -/
noncomputable def Try.pinned : Pinned := { name := "ytfokmldfnkonpaa", sum := "a27da8a38c1497e927b949b32f6afce82aeafe0e102e352458ffba5014c4d6a9", checked := Try.checked }
namespace Rows
def none {H : Type} : Left H := { results := [], args := [] }

/-- 'pannierlaw19.SealDoes': WHATEVER THE INPUT: true; the input reads as it did. -/
def sealDoesSpec : ChangeSpec := { name := "sealDoes", fn := fun _ => fun
  | [d1, d2, d3, d4] => { results := [.lit (.bool true)], args := [d1, d2, d3, d4] }
  | _ => none }
def sealDoesRow : OpenClaim := { program := "ytfokmldfnkonpaa", sum := "a27da8a38c1497e927b949b32f6afce82aeafe0e102e352458ffba5014c4d6a9", func := "pannier/pannierlaw19.SealDoes", spec := "sealDoes", inPlace := ["maps.clone"], unfollowed := true, recurses := true, apart := false }
def SealDoesSaid : Prop := sealDoesRow.holds Try.pinned (OpenSpec.ofChange sealDoesSpec)

/-- ITS FALSE NEIGHBOUR: 'it returns false'. Refute it at one input. -/
def sealDoesWrong : ChangeSpec := { name := "sealDoes", fn := fun _ => fun
  | [d1, d2, d3, d4] => { results := [.lit (.bool false)], args := [d1, d2, d3, d4] }
  | _ => none }
def SealDoesWrongFalsely : Prop := sealDoesRow.holds Try.pinned (OpenSpec.ofChange sealDoesWrong)

/-- 'pannierlaw19.SealFollows': WHATEVER THE INPUT: true; the input reads as it did. -/
def sealFollowsSpec : ChangeSpec := { name := "sealFollows", fn := fun _ => fun
  | [d] => { results := [.lit (.bool true)], args := [d] }
  | _ => none }
def sealFollowsRow : OpenClaim := { program := "ytfokmldfnkonpaa", sum := "a27da8a38c1497e927b949b32f6afce82aeafe0e102e352458ffba5014c4d6a9", func := "pannier/pannierlaw19.SealFollows", spec := "sealFollows", unfollowed := true, recurses := true, apart := false }
def SealFollowsSaid : Prop := sealFollowsRow.holds Try.pinned (OpenSpec.ofChange sealFollowsSpec)

/-- ITS FALSE NEIGHBOUR: 'it returns false'. Refute it at one input. -/
def sealFollowsWrong : ChangeSpec := { name := "sealFollows", fn := fun _ => fun
  | [d] => { results := [.lit (.bool false)], args := [d] }
  | _ => none }
def SealFollowsWrongFalsely : Prop := sealFollowsRow.holds Try.pinned (OpenSpec.ofChange sealFollowsWrong)

/-- 'pannierlaw19.SealAgain': WHATEVER THE INPUT: true; the input reads as it did. -/
def sealAgainSpec : ChangeSpec := { name := "sealAgain", fn := fun _ => fun
  | [d] => { results := [.lit (.bool true)], args := [d] }
  | _ => none }
def sealAgainRow : OpenClaim := { program := "ytfokmldfnkonpaa", sum := "a27da8a38c1497e927b949b32f6afce82aeafe0e102e352458ffba5014c4d6a9", func := "pannier/pannierlaw19.SealAgain", spec := "sealAgain", unfollowed := true, recurses := true, apart := false }
def SealAgainSaid : Prop := sealAgainRow.holds Try.pinned (OpenSpec.ofChange sealAgainSpec)

/-- ITS FALSE NEIGHBOUR: 'it returns false'. Refute it at one input. -/
def sealAgainWrong : ChangeSpec := { name := "sealAgain", fn := fun _ => fun
  | [d] => { results := [.lit (.bool false)], args := [d] }
  | _ => none }
def SealAgainWrongFalsely : Prop := sealAgainRow.holds Try.pinned (OpenSpec.ofChange sealAgainWrong)

/-- 'pannierlaw19.SealNobody': WHATEVER THE INPUT: true; the input reads as it did. -/
def sealNobodySpec : ChangeSpec := { name := "sealNobody", fn := fun _ => fun
  | [d1, d2] => { results := [.lit (.bool true)], args := [d1, d2] }
  | _ => none }
def sealNobodyRow : OpenClaim := { program := "ytfokmldfnkonpaa", sum := "a27da8a38c1497e927b949b32f6afce82aeafe0e102e352458ffba5014c4d6a9", func := "pannier/pannierlaw19.SealNobody", spec := "sealNobody", inPlace := ["maps.clone"], unfollowed := true, recurses := true, apart := false }
def SealNobodySaid : Prop := sealNobodyRow.holds Try.pinned (OpenSpec.ofChange sealNobodySpec)

/-- ITS FALSE NEIGHBOUR: 'it returns false'. Refute it at one input. -/
def sealNobodyWrong : ChangeSpec := { name := "sealNobody", fn := fun _ => fun
  | [d1, d2] => { results := [.lit (.bool false)], args := [d1, d2] }
  | _ => none }
def SealNobodyWrongFalsely : Prop := sealNobodyRow.holds Try.pinned (OpenSpec.ofChange sealNobodyWrong)

/-- 'pannierlaw19.SealCounts': WHATEVER THE INPUT: true; the input reads as it did. -/
def sealCountsSpec : ChangeSpec := { name := "sealCounts", fn := fun _ => fun
  | [d1, d2] => { results := [.lit (.bool true)], args := [d1, d2] }
  | _ => none }
def sealCountsRow : OpenClaim := { program := "ytfokmldfnkonpaa", sum := "a27da8a38c1497e927b949b32f6afce82aeafe0e102e352458ffba5014c4d6a9", func := "pannier/pannierlaw19.SealCounts", spec := "sealCounts", unfollowed := true, recurses := true, apart := false }
def SealCountsSaid : Prop := sealCountsRow.holds Try.pinned (OpenSpec.ofChange sealCountsSpec)

/-- ITS FALSE NEIGHBOUR: 'it returns false'. Refute it at one input. -/
def sealCountsWrong : ChangeSpec := { name := "sealCounts", fn := fun _ => fun
  | [d1, d2] => { results := [.lit (.bool false)], args := [d1, d2] }
  | _ => none }
def SealCountsWrongFalsely : Prop := sealCountsRow.holds Try.pinned (OpenSpec.ofChange sealCountsWrong)

/- THE SECOND FORM. 'bulk': how many values and letters a reading holds, each counted each time it is reached (what is shared counts as often as it is met; a slice's spare places count too). A statement '..UptoSaid' is the law's where the arguments, and the package variables that the reading takes, are together of bulk at most 1048576: NARROWER than '..Said'. Prove '..Said' where nothing that the law and all that it calls make is longer than what came in: it says more and counts as full. Else prove '..UptoSaid'. A law counts once. -/
mutual
def uptoBulk {H : Type} : DataW H → Nat
  | .lit (.string bytes) => bytes.length + 1
  | .lit _ => 1
  | .nil => 1
  | .ptr d => uptoBulk d + 1
  | .slice elems spare => uptoBulkAll elems + uptoBulkAll spare + 1
  | .agg parts => uptoBulkAll parts + 1
  | .iface _ d => uptoBulk d + 1
  | .map entries => uptoBulkEntries entries + 1
  | .held _ => 1
def uptoBulkAll {H : Type} : List (DataW H) → Nat
  | [] => 0
  | d :: r => uptoBulk d + uptoBulkAll r
def uptoBulkEntries {H : Type} : List (Lit × DataW H) → Nat
  | [] => 0
  | x :: r => uptoBulkEntry x + uptoBulkEntries r
def uptoBulkEntry {H : Type} : Lit × DataW H → Nat
  | (.string bytes, d) => bytes.length + uptoBulk d + 1
  | (_, d) => uptoBulk d + 1
 end
def uptoSmall : (H : Type) → List (DataW H) → Bool := fun _ ds => decide (uptoBulkAll ds ≤ 1048576)
def OpenSpec.upto (s : _root_.Go.ChangeSpec) : _root_.Go.OpenSpec := { _root_.Go.OpenSpec.ofChange s with cond := some uptoSmall }

/-- 'pannierlaw19.SealDoes', WHERE WHAT IT READS IS OF BULK AT MOST 1048576: true; the input reads as it did. -/
def sealDoesUptoRow : OpenClaim := { program := "ytfokmldfnkonpaa", sum := "a27da8a38c1497e927b949b32f6afce82aeafe0e102e352458ffba5014c4d6a9", func := "pannier/pannierlaw19.SealDoes", spec := "sealDoes", inPlace := ["maps.clone"], unfollowed := true, recurses := true, apart := false, narrowed := true }
def SealDoesUptoSaid : Prop := sealDoesUptoRow.holds Try.pinned (OpenSpec.upto sealDoesSpec)

/-- 'pannierlaw19.SealFollows', WHERE WHAT IT READS IS OF BULK AT MOST 1048576: true; the input reads as it did. -/
def sealFollowsUptoRow : OpenClaim := { program := "ytfokmldfnkonpaa", sum := "a27da8a38c1497e927b949b32f6afce82aeafe0e102e352458ffba5014c4d6a9", func := "pannier/pannierlaw19.SealFollows", spec := "sealFollows", unfollowed := true, recurses := true, apart := false, narrowed := true }
def SealFollowsUptoSaid : Prop := sealFollowsUptoRow.holds Try.pinned (OpenSpec.upto sealFollowsSpec)

/-- 'pannierlaw19.SealAgain', WHERE WHAT IT READS IS OF BULK AT MOST 1048576: true; the input reads as it did. -/
def sealAgainUptoRow : OpenClaim := { program := "ytfokmldfnkonpaa", sum := "a27da8a38c1497e927b949b32f6afce82aeafe0e102e352458ffba5014c4d6a9", func := "pannier/pannierlaw19.SealAgain", spec := "sealAgain", unfollowed := true, recurses := true, apart := false, narrowed := true }
def SealAgainUptoSaid : Prop := sealAgainUptoRow.holds Try.pinned (OpenSpec.upto sealAgainSpec)

/-- 'pannierlaw19.SealNobody', WHERE WHAT IT READS IS OF BULK AT MOST 1048576: true; the input reads as it did. -/
def sealNobodyUptoRow : OpenClaim := { program := "ytfokmldfnkonpaa", sum := "a27da8a38c1497e927b949b32f6afce82aeafe0e102e352458ffba5014c4d6a9", func := "pannier/pannierlaw19.SealNobody", spec := "sealNobody", inPlace := ["maps.clone"], unfollowed := true, recurses := true, apart := false, narrowed := true }
def SealNobodyUptoSaid : Prop := sealNobodyUptoRow.holds Try.pinned (OpenSpec.upto sealNobodySpec)

/-- 'pannierlaw19.SealCounts', WHERE WHAT IT READS IS OF BULK AT MOST 1048576: true; the input reads as it did. -/
def sealCountsUptoRow : OpenClaim := { program := "ytfokmldfnkonpaa", sum := "a27da8a38c1497e927b949b32f6afce82aeafe0e102e352458ffba5014c4d6a9", func := "pannier/pannierlaw19.SealCounts", spec := "sealCounts", unfollowed := true, recurses := true, apart := false, narrowed := true }
def SealCountsUptoSaid : Prop := sealCountsUptoRow.holds Try.pinned (OpenSpec.upto sealCountsSpec)

end Rows
end Go.Proofs.Ytfokmldfnkonpaa
