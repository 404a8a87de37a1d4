/- The contract of made. -/
import Derived.Test.YthpopopodjgdaaaDoorClockNew
import Derived.Test.YthpopopodjgdaaaDoorRefN
set_option linter.unusedVariables false
set_option linter.unusedSimpArgs false
namespace Go.Proofs.YthpopopodjgdaaaDoor
open Go.ChangeShapes Go.WideShapes Go.ChangeAt Go.RowKit Km

theorem made_yes (v : Value) (l : List P) (he : Hid (chk l = 0)) (hs : Hid (decide (l.length ≤ 40) = true)) (w : World) (hr : RdP w v l) (hl : l.length ≤ maxLen) : Calls Tryd.prog 17 #[v] w fun e w' => ∃ g, e = .returned (.tuple #[.pointer (some ⟨g, 0, none⟩), .bool true]) ∧ Cal w' g l ∧ Q w w' := by
  go_enter Tryd.func17, Tryd.ntmps17
  go_wp2_with fail
  refine (few_c _ l true _ hr hl hs).mono ?_; rintro E w1 ⟨rfl, rfl⟩
  go_wp2_with fail
  refine (New_c _ l he _ hr).mono ?_; rintro E w1 ⟨g, rfl, hc, hq1⟩
  have HC := Lib.hid hc
  have Q1 := Lib.hid hq1
  clear hc hq1
  go_wp2_with fail
  go_ret2
  exact ⟨g, rfl, HC.out, Q1.out⟩
theorem made_no (v : Value) (l : List P) (e : Nat) (he : Hid (chk l = e)) (h0 : e ≠ 0) (hs : Hid (decide (l.length ≤ 40) = true)) (w : World) (hr : RdP w v l) (hl : l.length ≤ maxLen) : Calls Tryd.prog 17 #[v] w fun r w' => r = .returned (.tuple #[.pointer none, .bool false]) ∧ Q w w' := by
  have t1 : ((e : Int) == 0) = false := by simp; exact h0
  go_enter Tryd.func17, Tryd.ntmps17
  go_wp2_with fail
  refine (few_c _ l true _ hr hl hs).mono ?_; rintro E w1 ⟨rfl, rfl⟩
  go_wp2_with fail
  refine (New_no _ l e he h0 _ hr hl).mono ?_; rintro E w1 ⟨rfl, hq1⟩
  go_wp2_with fail
  go_ret2
  exact ⟨rfl, hq1⟩
theorem made_big (v : Value) (l : List P) (hs : Hid (decide (l.length ≤ 40) = false)) (w : World) (hr : RdP w v l) (hl : l.length ≤ maxLen) : Calls Tryd.prog 17 #[v] w fun r w' => r = .returned (.tuple #[.pointer none, .bool false]) ∧ Q w w' := by
  go_enter Tryd.func17, Tryd.ntmps17
  go_wp2_with fail
  refine (few_c _ l false _ hr hl hs).mono ?_; rintro E w1 ⟨rfl, rfl⟩
  go_wp2_with fail
  go_ret2
  exact ⟨rfl, Q.refl _⟩
end Go.Proofs.YthpopopodjgdaaaDoor
