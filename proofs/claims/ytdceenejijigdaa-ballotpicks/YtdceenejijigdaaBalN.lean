/-
  Seven truths, held against themselves with one of them turned true.
-/
import Derived.Test.YtdceenejijigdaaBalB
namespace Go.Proofs.Ytdceenejijigdaa
open Go.RowKit Go.Maps
theorem neqA0 (W : World) (b0 b1 b2 b3 b4 b5 b6 : Bool) : (binOp .neq 62 (.agg #[.bool true, .bool b1, .bool b2, .bool b3, .bool b4, .bool b5, .bool b6]) (.agg #[.bool b0, .bool b1, .bool b2, .bool b3, .bool b4, .bool b5, .bool b6])).run Try.prog W = .ok (.bool (!b0)) W := by
  cases b0 <;> cases b1 <;> cases b2 <;> cases b3 <;> cases b4 <;> cases b5 <;> cases b6 <;> kernel_rfl
theorem neqA1 (W : World) (b0 b1 b2 b3 b4 b5 b6 : Bool) : (binOp .neq 62 (.agg #[.bool b0, .bool true, .bool b2, .bool b3, .bool b4, .bool b5, .bool b6]) (.agg #[.bool b0, .bool b1, .bool b2, .bool b3, .bool b4, .bool b5, .bool b6])).run Try.prog W = .ok (.bool (!b1)) W := by
  cases b0 <;> cases b1 <;> cases b2 <;> cases b3 <;> cases b4 <;> cases b5 <;> cases b6 <;> kernel_rfl
theorem neqA2 (W : World) (b0 b1 b2 b3 b4 b5 b6 : Bool) : (binOp .neq 62 (.agg #[.bool b0, .bool b1, .bool true, .bool b3, .bool b4, .bool b5, .bool b6]) (.agg #[.bool b0, .bool b1, .bool b2, .bool b3, .bool b4, .bool b5, .bool b6])).run Try.prog W = .ok (.bool (!b2)) W := by
  cases b0 <;> cases b1 <;> cases b2 <;> cases b3 <;> cases b4 <;> cases b5 <;> cases b6 <;> kernel_rfl
theorem neqA3 (W : World) (b0 b1 b2 b3 b4 b5 b6 : Bool) : (binOp .neq 62 (.agg #[.bool b0, .bool b1, .bool b2, .bool true, .bool b4, .bool b5, .bool b6]) (.agg #[.bool b0, .bool b1, .bool b2, .bool b3, .bool b4, .bool b5, .bool b6])).run Try.prog W = .ok (.bool (!b3)) W := by
  cases b0 <;> cases b1 <;> cases b2 <;> cases b3 <;> cases b4 <;> cases b5 <;> cases b6 <;> kernel_rfl
theorem neqA4 (W : World) (b0 b1 b2 b3 b4 b5 b6 : Bool) : (binOp .neq 62 (.agg #[.bool b0, .bool b1, .bool b2, .bool b3, .bool true, .bool b5, .bool b6]) (.agg #[.bool b0, .bool b1, .bool b2, .bool b3, .bool b4, .bool b5, .bool b6])).run Try.prog W = .ok (.bool (!b4)) W := by
  cases b0 <;> cases b1 <;> cases b2 <;> cases b3 <;> cases b4 <;> cases b5 <;> cases b6 <;> kernel_rfl
theorem neqA5 (W : World) (b0 b1 b2 b3 b4 b5 b6 : Bool) : (binOp .neq 62 (.agg #[.bool b0, .bool b1, .bool b2, .bool b3, .bool b4, .bool true, .bool b6]) (.agg #[.bool b0, .bool b1, .bool b2, .bool b3, .bool b4, .bool b5, .bool b6])).run Try.prog W = .ok (.bool (!b5)) W := by
  cases b0 <;> cases b1 <;> cases b2 <;> cases b3 <;> cases b4 <;> cases b5 <;> cases b6 <;> kernel_rfl
theorem neqA6 (W : World) (b0 b1 b2 b3 b4 b5 b6 : Bool) : (binOp .neq 62 (.agg #[.bool b0, .bool b1, .bool b2, .bool b3, .bool b4, .bool b5, .bool true]) (.agg #[.bool b0, .bool b1, .bool b2, .bool b3, .bool b4, .bool b5, .bool b6])).run Try.prog W = .ok (.bool (!b6)) W := by
  cases b0 <;> cases b1 <;> cases b2 <;> cases b3 <;> cases b4 <;> cases b5 <;> cases b6 <;> kernel_rfl
end Go.Proofs.Ytdceenejijigdaa
