/-
  No cell of these rows narrows 'for every input' (looked for: loops, veiled, ifaces, maps, wideKeys, modest, calm, conditions, laid).
  DERIVED. THE GIVEN ROWS OF THIS SEAT. 5 by the template 'for every input the law returns true; each argument reads behind the call as it read before'; 0 by the template 'total and deterministic' (their statements: YtkjpaiaepodhbaaTotals.lean).
  GIVEN WITH THE SEED: the statements are not yours to turn. If you find one false, say at which input.
  Laid BY PROGRAM, IN A SANDBOX (cutbox-rows.mjs): the forced cells as the released guide's own fill.sh prints them over the translation eaefd19fe111f8ef… (all of the seat's roots in one cut). By AI agents, Wed Nov 11 2026. No macro, syntax, notation, axiom, sorry.
-/
import Derived.Test.YtkjpaiaepodhbaaChecked
import GoSem.Claim
import GoSem.ClaimJoined
import GoSem.ClaimMapViews
import Derived.JoinedTies
import Derived.KernelRfl
namespace Go.Proofs.Ytkjpaiaepodhbaa
/- THE CELL 'sum', in the pinned program and in every row, IS THE sha256 OF THE DUMP (.gsa) THAT YtkjpaiaepodhbaaProg.lean LOADS. Nothing in Lean hashes anything: it is a label: what it is worth is what the hold of that sum in a sandbox is worth. -/
noncomputable def Try.pinned : Pinned := { name := "ytkjpaiaepodhbaa", sum := "eaefd19fe111f8ef756f3fb2830ccf4af3e670498fe388b8aaaf8242127c4523", checked := Try.checked }
namespace Rows
def none {H : Type} : Left H := { results := [], args := [] }

/-- 'pannierlaw09.DotsDoes': WHATEVER THE INPUT: true; the input reads as it did. -/
def dotsDoesSpec : ChangeSpec := { name := "dotsDoes", fn := fun _ => fun
  | [d1, d2, d3] => { results := [.lit (.bool true)], args := [d1, d2, d3] }
  | _ => none }
def dotsDoesRow : OpenClaim := { program := "ytkjpaiaepodhbaa", sum := "eaefd19fe111f8ef756f3fb2830ccf4af3e670498fe388b8aaaf8242127c4523", func := "pannier/pannierlaw09.DotsDoes", spec := "dotsDoes", inPlace := ["maps.clone"], unfollowed := true, recurses := true, plainKeys := false, apart := false }
def DotsDoesSaid : Prop := dotsDoesRow.holds Try.pinned (OpenSpec.ofChange dotsDoesSpec)

/-- ITS FALSE NEIGHBOUR: 'it returns false'. Refute it at one input. -/
def dotsDoesWrong : ChangeSpec := { name := "dotsDoes", fn := fun _ => fun
  | [d1, d2, d3] => { results := [.lit (.bool false)], args := [d1, d2, d3] }
  | _ => none }
def DotsDoesWrongFalsely : Prop := dotsDoesRow.holds Try.pinned (OpenSpec.ofChange dotsDoesWrong)

/-- 'pannierlaw09.DotsFill': WHATEVER THE INPUT: true; the input reads as it did. -/
def dotsFillSpec : ChangeSpec := { name := "dotsFill", fn := fun _ => fun
  | [d1, d2] => { results := [.lit (.bool true)], args := [d1, d2] }
  | _ => none }
def dotsFillRow : OpenClaim := { program := "ytkjpaiaepodhbaa", sum := "eaefd19fe111f8ef756f3fb2830ccf4af3e670498fe388b8aaaf8242127c4523", func := "pannier/pannierlaw09.DotsFill", spec := "dotsFill", unfollowed := true, recurses := true, plainKeys := false, apart := false }
def DotsFillSaid : Prop := dotsFillRow.holds Try.pinned (OpenSpec.ofChange dotsFillSpec)

/-- ITS FALSE NEIGHBOUR: 'it returns false'. Refute it at one input. -/
def dotsFillWrong : ChangeSpec := { name := "dotsFill", fn := fun _ => fun
  | [d1, d2] => { results := [.lit (.bool false)], args := [d1, d2] }
  | _ => none }
def DotsFillWrongFalsely : Prop := dotsFillRow.holds Try.pinned (OpenSpec.ofChange dotsFillWrong)

/-- 'pannierlaw09.DotsNobody': WHATEVER THE INPUT: true; the input reads as it did. -/
def dotsNobodySpec : ChangeSpec := { name := "dotsNobody", fn := fun _ => fun
  | [d1, d2] => { results := [.lit (.bool true)], args := [d1, d2] }
  | _ => none }
def dotsNobodyRow : OpenClaim := { program := "ytkjpaiaepodhbaa", sum := "eaefd19fe111f8ef756f3fb2830ccf4af3e670498fe388b8aaaf8242127c4523", func := "pannier/pannierlaw09.DotsNobody", spec := "dotsNobody", inPlace := ["maps.clone"], unfollowed := true, recurses := true, plainKeys := false, apart := false }
def DotsNobodySaid : Prop := dotsNobodyRow.holds Try.pinned (OpenSpec.ofChange dotsNobodySpec)

/-- ITS FALSE NEIGHBOUR: 'it returns false'. Refute it at one input. -/
def dotsNobodyWrong : ChangeSpec := { name := "dotsNobody", fn := fun _ => fun
  | [d1, d2] => { results := [.lit (.bool false)], args := [d1, d2] }
  | _ => none }
def DotsNobodyWrongFalsely : Prop := dotsNobodyRow.holds Try.pinned (OpenSpec.ofChange dotsNobodyWrong)

/-- 'pannierlaw09.DotsSplit': WHATEVER THE INPUT: true; the input reads as it did. -/
def dotsSplitSpec : ChangeSpec := { name := "dotsSplit", fn := fun _ => fun
  | [d1, d2] => { results := [.lit (.bool true)], args := [d1, d2] }
  | _ => none }
def dotsSplitRow : OpenClaim := { program := "ytkjpaiaepodhbaa", sum := "eaefd19fe111f8ef756f3fb2830ccf4af3e670498fe388b8aaaf8242127c4523", func := "pannier/pannierlaw09.DotsSplit", spec := "dotsSplit", unfollowed := true, recurses := true, plainKeys := false, apart := false }
def DotsSplitSaid : Prop := dotsSplitRow.holds Try.pinned (OpenSpec.ofChange dotsSplitSpec)

/-- ITS FALSE NEIGHBOUR: 'it returns false'. Refute it at one input. -/
def dotsSplitWrong : ChangeSpec := { name := "dotsSplit", fn := fun _ => fun
  | [d1, d2] => { results := [.lit (.bool false)], args := [d1, d2] }
  | _ => none }
def DotsSplitWrongFalsely : Prop := dotsSplitRow.holds Try.pinned (OpenSpec.ofChange dotsSplitWrong)

/-- 'pannierlaw08.VvDots': WHATEVER THE INPUT: true; the input reads as it did. -/
def vvDotsSpec : ChangeSpec := { name := "vvDots", fn := fun _ => fun
  | [d1, d2, d3] => { results := [.lit (.bool true)], args := [d1, d2, d3] }
  | _ => none }
def vvDotsRow : OpenClaim := { program := "ytkjpaiaepodhbaa", sum := "eaefd19fe111f8ef756f3fb2830ccf4af3e670498fe388b8aaaf8242127c4523", func := "pannier/pannierlaw08.VvDots", spec := "vvDots", unfollowed := true, recurses := true, plainKeys := false, apart := false }
def VvDotsSaid : Prop := vvDotsRow.holds Try.pinned (OpenSpec.ofChange vvDotsSpec)

/-- ITS FALSE NEIGHBOUR: 'it returns false'. Refute it at one input. -/
def vvDotsWrong : ChangeSpec := { name := "vvDots", fn := fun _ => fun
  | [d1, d2, d3] => { results := [.lit (.bool false)], args := [d1, d2, d3] }
  | _ => none }
def VvDotsWrongFalsely : Prop := vvDotsRow.holds Try.pinned (OpenSpec.ofChange vvDotsWrong)

/- THE SECOND FORM. 'bulk': how many values and letters a reading holds, each counted each time it is reached (what is shared counts as often as it is met; a slice's spare places count too). A statement '..UptoSaid' is the law's where the arguments, and the package variables that the reading takes, are together of bulk at most 1048576: NARROWER than '..Said'. Prove '..Said' where nothing that the law and all that it calls make is longer than what came in: it says more and counts as full. Else prove '..UptoSaid'. A law counts once. -/
mutual
def uptoBulk {H : Type} : DataW H → Nat
  | .lit (.string bytes) => bytes.length + 1
  | .lit _ => 1
  | .nil => 1
  | .ptr d => uptoBulk d + 1
  | .slice elems spare => uptoBulkAll elems + uptoBulkAll spare + 1
  | .agg parts => uptoBulkAll parts + 1
  | .iface _ d => uptoBulk d + 1
  | .map entries => uptoBulkEntries entries + 1
  | .held _ => 1
def uptoBulkAll {H : Type} : List (DataW H) → Nat
  | [] => 0
  | d :: r => uptoBulk d + uptoBulkAll r
def uptoBulkEntries {H : Type} : List (Lit × DataW H) → Nat
  | [] => 0
  | x :: r => uptoBulkEntry x + uptoBulkEntries r
def uptoBulkEntry {H : Type} : Lit × DataW H → Nat
  | (.string bytes, d) => bytes.length + uptoBulk d + 1
  | (_, d) => uptoBulk d + 1
 end
def uptoSmall : (H : Type) → List (DataW H) → Bool := fun _ ds => decide (uptoBulkAll ds ≤ 1048576)
def OpenSpec.upto (s : _root_.Go.ChangeSpec) : _root_.Go.OpenSpec := { _root_.Go.OpenSpec.ofChange s with cond := some uptoSmall }

/-- 'pannierlaw09.DotsDoes', WHERE WHAT IT READS IS OF BULK AT MOST 1048576: true; the input reads as it did. -/
def dotsDoesUptoRow : OpenClaim := { program := "ytkjpaiaepodhbaa", sum := "eaefd19fe111f8ef756f3fb2830ccf4af3e670498fe388b8aaaf8242127c4523", func := "pannier/pannierlaw09.DotsDoes", spec := "dotsDoes", inPlace := ["maps.clone"], unfollowed := true, recurses := true, plainKeys := false, apart := false, narrowed := true }
def DotsDoesUptoSaid : Prop := dotsDoesUptoRow.holds Try.pinned (OpenSpec.upto dotsDoesSpec)

/-- 'pannierlaw09.DotsFill', WHERE WHAT IT READS IS OF BULK AT MOST 1048576: true; the input reads as it did. -/
def dotsFillUptoRow : OpenClaim := { program := "ytkjpaiaepodhbaa", sum := "eaefd19fe111f8ef756f3fb2830ccf4af3e670498fe388b8aaaf8242127c4523", func := "pannier/pannierlaw09.DotsFill", spec := "dotsFill", unfollowed := true, recurses := true, plainKeys := false, apart := false, narrowed := true }
def DotsFillUptoSaid : Prop := dotsFillUptoRow.holds Try.pinned (OpenSpec.upto dotsFillSpec)

/-- 'pannierlaw09.DotsNobody', WHERE WHAT IT READS IS OF BULK AT MOST 1048576: true; the input reads as it did. -/
def dotsNobodyUptoRow : OpenClaim := { program := "ytkjpaiaepodhbaa", sum := "eaefd19fe111f8ef756f3fb2830ccf4af3e670498fe388b8aaaf8242127c4523", func := "pannier/pannierlaw09.DotsNobody", spec := "dotsNobody", inPlace := ["maps.clone"], unfollowed := true, recurses := true, plainKeys := false, apart := false, narrowed := true }
def DotsNobodyUptoSaid : Prop := dotsNobodyUptoRow.holds Try.pinned (OpenSpec.upto dotsNobodySpec)

/-- 'pannierlaw09.DotsSplit', WHERE WHAT IT READS IS OF BULK AT MOST 1048576: true; the input reads as it did. -/
def dotsSplitUptoRow : OpenClaim := { program := "ytkjpaiaepodhbaa", sum := "eaefd19fe111f8ef756f3fb2830ccf4af3e670498fe388b8aaaf8242127c4523", func := "pannier/pannierlaw09.DotsSplit", spec := "dotsSplit", unfollowed := true, recurses := true, plainKeys := false, apart := false, narrowed := true }
def DotsSplitUptoSaid : Prop := dotsSplitUptoRow.holds Try.pinned (OpenSpec.upto dotsSplitSpec)

/-- 'pannierlaw08.VvDots', WHERE WHAT IT READS IS OF BULK AT MOST 1048576: true; the input reads as it did. -/
def vvDotsUptoRow : OpenClaim := { program := "ytkjpaiaepodhbaa", sum := "eaefd19fe111f8ef756f3fb2830ccf4af3e670498fe388b8aaaf8242127c4523", func := "pannier/pannierlaw08.VvDots", spec := "vvDots", unfollowed := true, recurses := true, plainKeys := false, apart := false, narrowed := true }
def VvDotsUptoSaid : Prop := vvDotsUptoRow.holds Try.pinned (OpenSpec.upto vvDotsSpec)

end Rows
end Go.Proofs.Ytkjpaiaepodhbaa
