/- Contracts of units: clamp, the quotient, magnitude, signed. -/
import Derived.Test.YtedcimjhhcepmaaDoorMath
import Derived.Test.YtedcimjhhcepmaaDoorRows
import Derived.WalkSpells
import Derived.Lib.Hide
import Derived.Deep.QuietTactic
import Derived.BigQuiet
import Derived.Handy
import Derived.Laws.EntriesVeiled
set_option linter.unusedVariables false
set_option linter.unusedSimpArgs false
namespace Go.Proofs.YtedcimjhhcepmaaDoor
open Go.ChangeShapes Go.WideShapes Go.ChangeAt Go.RowKit Um

/-- what stood in memory stands as it was -/
def Q (w w' : World) : Prop := Below w.heap.size w w'
theorem Q.refl (w : World) : Q w w := Below.refl _ _
theorem Q.trans {a b c : World} (h : Q a b) (k : Q b c) : Q a c := Below.trans h (Below.mono k h.size)
theorem Q.drew {a b : World} (h : Q a b) : Q a b.drew := Below.drew h
theorem Q.drewN {a b : World} (h : Q a b) (n : Nat) : Q a (b.drewN n) := ⟨h.os, h.tape, h.output, h.size, h.block⟩
theorem Q.alloc {a b : World} (h : Q a b) (o : Obj) : Q a (b.alloc o) := Below.alloc h h.size o
theorem qadd {P : Program} {f : FuncId} {args : Array Value} {w : World} {a n : Nat} {v : Value} (h : ∀ W, Calls P f args W fun e w' => e = .returned v ∧ w' = W) :
    Calls P f args (w.drewN (a + n)) fun e w'' => e = .returned v ∧ ∃ m, w'' = w.drewN (a + m) := (h _).mono fun _ _ ⟨he, hm⟩ => ⟨he, n, hm⟩
theorem qone {P : Program} {f : FuncId} {args : Array Value} {w : World} {n : Nat} {v : Value} (h : ∀ W, Calls P f args W fun e w' => e = .returned v ∧ w' = W) :
    Calls P f args (w.drewN n) fun e w'' => e = .returned v ∧ ∃ m, w'' = w.drewN m := (h _).mono fun _ _ ⟨he, hm⟩ => ⟨he, n, hm⟩
theorem ret_bool {a b : Bool} (h : a = b) : Ending.returned (.bool a) = .returned (.bool b) := by rw [h]
theorem ret_int {k : IntKind} {a b : Int} (h : a = b) : Ending.returned (.int k a) = .returned (.int k b) := by rw [h]
theorem ret_ib {k : IntKind} {a a' : Int} {b b' : Bool} (h : a = a') (g : b = b') : Ending.returned (.tuple #[.int k a, .bool b]) = .returned (.tuple #[.int k a', .bool b']) := by rw [h, g]
theorem ret_ii {k l : IntKind} {a a' b b' : Int} (h : a = a') (g : b = b') : Ending.returned (.tuple #[.int k a, .int l b]) = .returned (.tuple #[.int k a', .int l b']) := by rw [h, g]

theorem Clamp_c (n l h : Int) (w : World) : Calls Tryd.prog 19 #[.int .i64 n, .int .i64 l, .int .i64 h] w fun e w' => e = .returned (.int .i64 (clamp n l h)) ∧ w = w' := by
  by_cases h1 : h < l
  · have e := Lib.hid (show clamp n l h = l by unfold clamp; rw [if_pos h1])
    go_enter Tryd.func19, Tryd.ntmps19
    go_wp2
    go_ret
    exact ⟨ret_int e.out.symm, rfl⟩
  · by_cases h2 : n < l
    · have e := Lib.hid (show clamp n l h = l by unfold clamp; rw [if_neg h1, if_pos h2])
      go_enter Tryd.func19, Tryd.ntmps19
      go_wp2
      go_ret
      exact ⟨ret_int e.out.symm, rfl⟩
    · by_cases h3 : h < n
      · have e := Lib.hid (show clamp n l h = h by unfold clamp; rw [if_neg h1, if_neg h2, if_pos h3])
        go_enter Tryd.func19, Tryd.ntmps19
        go_wp2
        go_ret
        exact ⟨ret_int e.out.symm, rfl⟩
      · have e := Lib.hid (show clamp n l h = n by unfold clamp; rw [if_neg h1, if_neg h2, if_neg h3])
        go_enter Tryd.func19, Tryd.ntmps19
        go_wp2
        go_ret
        exact ⟨ret_int e.out.symm, rfl⟩
theorem rClamp_c (n l h : Int) (w : World) : Calls Tryd.prog 20 #[.int .i64 n, .int .i64 l, .int .i64 h] w fun e w' => e = .returned (.int .i64 (clamp n l h)) ∧ w = w' := by
  by_cases h1 : h < l
  · have e := Lib.hid (show clamp n l h = l by unfold clamp; rw [if_pos h1])
    go_enter Tryd.func20, Tryd.ntmps20
    go_wp2
    go_ret
    exact ⟨ret_int e.out.symm, rfl⟩
  · by_cases h2 : n < l
    · have e := Lib.hid (show clamp n l h = l by unfold clamp; rw [if_neg h1, if_pos h2])
      go_enter Tryd.func20, Tryd.ntmps20
      go_wp2
      go_ret
      exact ⟨ret_int e.out.symm, rfl⟩
    · by_cases h3 : h < n
      · have e := Lib.hid (show clamp n l h = h by unfold clamp; rw [if_neg h1, if_neg h2, if_pos h3])
        go_enter Tryd.func20, Tryd.ntmps20
        go_wp2
        go_ret
        exact ⟨ret_int e.out.symm, rfl⟩
      · have e := Lib.hid (show clamp n l h = n by unfold clamp; rw [if_neg h1, if_neg h2, if_neg h3])
        go_enter Tryd.func20, Tryd.ntmps20
        go_wp2
        go_ret
        exact ⟨ret_int e.out.symm, rfl⟩
theorem never_c (r b : Int) (w : World) : Calls Tryd.prog 30 #[.int .i64 r, .int .i64 b] w fun e w' => e = .returned (.bool false) ∧ w = w' := by
  go_enter Tryd.func30, Tryd.ntmps30
  go_wp2
  go_ret
  exact ⟨rfl, rfl⟩
theorem half_c (r b : Int) (w : World) (hb : Fit b) (h0 : b ≠ 0) (h1 : 0 < b → 0 ≤ r ∧ r < b) (h2 : b < 0 → b < r ∧ r ≤ 0) :
    Calls Tryd.prog 32 #[.int .i64 r, .int .i64 b] w fun e w' => e = .returned (.bool (half r b)) ∧ w = w' := by
  obtain ⟨f1, f2⟩ := hb
  by_cases h : b < 0
  · have e := Lib.hid (show half r b = decide (r ≤ b - r) by unfold half; rw [if_pos h])
    obtain ⟨g1, g2⟩ := h2 h
    clear h1 h2
    go_enter Tryd.func32, Tryd.ntmps32
    go_wp2
    go_ret
    exact ⟨ret_bool e.out.symm, rfl⟩
  · have e := Lib.hid (show half r b = decide (b - r ≤ r) by unfold half; rw [if_neg h])
    obtain ⟨g1, g2⟩ := h1 (by omega)
    clear h1 h2 h0
    go_enter Tryd.func32, Tryd.ntmps32
    go_wp2
    go_ret
    exact ⟨ret_bool e.out.symm, rfl⟩
end Go.Proofs.YtedcimjhhcepmaaDoor
