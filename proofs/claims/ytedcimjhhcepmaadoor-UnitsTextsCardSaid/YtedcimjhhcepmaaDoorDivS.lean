/- The contract of math/bits.Div64 where the upper word is 0. -/
import Derived.Test.YtedcimjhhcepmaaDoorWalkA
import Derived.Test.YtedcimjhhcepmaaDoorDivMath
import Derived.Test.YtedcimjhhcepmaaDoorShelf
set_option linter.unusedVariables false
set_option linter.unusedSimpArgs false
namespace Go.Proofs.YtedcimjhhcepmaaDoor
open Go.ChangeShapes Go.WideShapes Go.ChangeAt Go.RowKit Um

set_option maxHeartbeats 800000 in
theorem Div64_small (lo y : Nat) (w : World) (hlo : lo < 18446744073709551616) (hy : y < 18446744073709551616) (h : 0 < y) :
    Calls Tryd.prog 35 #[.int .u64 0, .int .u64 lo, .int .u64 y] w fun e w' => e = .returned (.tuple #[.int .u64 ((lo / y : Nat) : Int), .int .u64 ((lo % y : Nat) : Int)]) ∧ Q w w' := by
  have hy0 : ((y : Int) == 0) = false := by simp; omega
  go_enter Tryd.func35, Tryd.ntmps35
  go_wp2_with fail
  go_quiet (fail)
  go_wp2_with fail
  go_ret2
  exact ⟨ret_ii (wrapn rfl (Nat.lt_of_le_of_lt (Nat.div_le_self _ _) hlo)) rfl, by repeat (first | exact Q.refl _ | refine Q.drewN ?_ _ | refine Q.drew ?_ | refine Q.alloc ?_ _)⟩
end Go.Proofs.YtedcimjhhcepmaaDoor
