/- The examples of the chapter hold: the contract of awake. -/
import Derived.Test.YtedcimjhhcepmaaDoorParse
import Derived.Test.YtedcimjhhcepmaaDoorDec
import Derived.Test.YtedcimjhhcepmaaDoorFloor
import Derived.Test.YtedcimjhhcepmaaDoorToward
import Derived.Test.YtedcimjhhcepmaaDoorRoot
import Derived.Test.YtedcimjhhcepmaaDoorMul
set_option linter.unusedVariables false
set_option linter.unusedSimpArgs false
namespace Go.Proofs.YtedcimjhhcepmaaDoor
open Go.ChangeShapes Go.WideShapes Go.ChangeAt Go.RowKit Um

theorem rootV_one {n : Int} {r k : Nat} (h : rootV n r) (g : rootV n k) : r = k := by
  rcases h with ⟨h0, h⟩ | ⟨h0, h⟩ <;> rcases g with ⟨g0, g⟩ | ⟨g0, g⟩
  · omega
  · omega
  · omega
  · obtain ⟨h1, h2⟩ := h
    obtain ⟨g1, g2⟩ := g
    rcases Nat.lt_trichotomy r k with l | l | l
    · have := Nat.mul_le_mul (show r + 1 ≤ k by omega) (show r + 1 ≤ k by omega); omega
    · exact l
    · have := Nat.mul_le_mul (show k + 1 ≤ r by omega) (show k + 1 ≤ r by omega); omega
theorem aw1 (w : World) : Calls Tryd.prog 12 #[.int .i64 (-7), .int .i64 2] w fun e w' => e = .returned (.tuple #[.int .i64 (-4), .bool true]) ∧ Q w w' :=
  (Floor_c (-7) 2 w ⟨by decide, by decide⟩ ⟨by decide, by decide⟩).mono fun _ _ ⟨a, b⟩ => ⟨by rw [a, show flo (-7) 2 = -4 from by decide +kernel, show dOk (-7) 2 = true from by decide +kernel], b⟩
theorem aw2 (w : World) : Calls Tryd.prog 13 #[.int .i64 (-5), .int .i64 2] w fun e w' => e = .returned (.tuple #[.int .i64 (-2), .bool true]) ∧ Q w w' :=
  (Nearest_c (-5) 2 w ⟨by decide, by decide⟩ ⟨by decide, by decide⟩).mono fun _ _ ⟨a, b⟩ => ⟨by rw [a, show nea (-5) 2 = -2 from by decide +kernel, show dOk (-5) 2 = true from by decide +kernel], b⟩
theorem aw3 (w : World) : Calls Tryd.prog 17 #[.int .i64 1000000000000000000, .int .i64 1000000000000000000, .int .i64 1000000000000000000] w fun e w' => e = .returned (.tuple #[.int .i64 1000000000000000000, .int .i64 0]) ∧ Q w w' :=
  (MulDiv_c 1000000000000000000 1000000000000000000 1000000000000000000 ⟨by decide, by decide⟩ ⟨by decide, by decide⟩ ⟨by decide, by decide⟩ w).mono fun _ _ ⟨a, b⟩ => ⟨by rw [a, show mdV 1000000000000000000 1000000000000000000 1000000000000000000 = 1000000000000000000 from by decide +kernel, show mdE 1000000000000000000 1000000000000000000 1000000000000000000 = 0 from by decide +kernel], b⟩
theorem aw4 (w : World) (h : Laid w) : Calls Tryd.prog 24 #[.string ⟨#[45, 48, 46, 48, 53]⟩, .int .i64 2] w fun e w' => e = .returned (.tuple #[.int .i64 (-5), .int .i64 0]) ∧ Q w w' :=
  (Parse_c ⟨#[45, 48, 46, 48, 53]⟩ 2 (by decide +kernel) w h).mono fun _ _ ⟨a, b⟩ => ⟨by rw [a, show pRes (lst ⟨#[45, 48, 46, 48, 53]⟩) (clamp 2 0 9).toNat = (-5, 0) from by decide +kernel], b⟩
theorem aw5 (w : World) : Calls Tryd.prog 19 #[.int .i64 7, .int .i64 1, .int .i64 5] w fun e w' => e = .returned (.int .i64 5) ∧ Q w w' :=
  (Clamp_c 7 1 5 w).mono fun _ _ ⟨a, b⟩ => ⟨by rw [a, show clamp 7 1 5 = 5 from by decide +kernel], b ▸ Q.refl _⟩
theorem aw6 (w : World) : Calls Tryd.prog 21 #[.int .i64 2000, .int .i64 2600, .int .i64 500] w fun e w' => e = .returned (.int .i64 2030) ∧ Q w w' :=
  (Toward_c 2000 2600 500 ⟨by decide, by decide⟩ ⟨by decide, by decide⟩ w).mono fun _ _ ⟨a, b⟩ => ⟨by rw [a, show tw 2000 2600 500 = 2030 from by decide +kernel], b⟩
theorem aw7 (w : World) : Calls Tryd.prog 21 #[.int .i64 (-9223372036854775808), .int .i64 9223372036854775807, .int .i64 5000] w fun e w' => e = .returned (.int .i64 (-1)) ∧ Q w w' :=
  (Toward_c (-9223372036854775808) 9223372036854775807 5000 ⟨by decide, by decide⟩ ⟨by decide, by decide⟩ w).mono fun _ _ ⟨a, b⟩ => ⟨by rw [a, show tw (-9223372036854775808) 9223372036854775807 5000 = -1 from by decide +kernel], b⟩
theorem aw8 (w : World) : Calls Tryd.prog 23 #[.int .i64 99] w fun e w' => e = .returned (.int .i64 9) ∧ Q w w' :=
  (Root_c 99 ⟨by decide, by decide⟩ w).mono fun _ _ ⟨r, a, b, c⟩ => ⟨by rw [a, rootV_one b (show rootV 99 9 from .inr ⟨by decide, by decide, by decide⟩)]; rfl, c ▸ Q.refl _⟩
theorem aw9 (w : World) (h : Laid w) : Calls Tryd.prog 26 #[.int .i64 1234, .int .i64 1] w fun e w' => e = .returned (.string ⟨#[49, 50, 51, 46, 52]⟩) ∧ Q w w' :=
  (Decimal_c 1234 1 ⟨by decide, by decide⟩ w h.tab).mono fun _ _ ⟨a, b⟩ => ⟨by rw [a, show decS 1234 1 = ⟨#[49, 50, 51, 46, 52]⟩ from by decide +kernel], b⟩

set_option maxRecDepth 100000 in
set_option maxHeartbeats 800000 in
theorem awake_c (w : World) (hL : Laid w) : Calls Tryd.prog 16 #[] w fun e w' => e = .returned (.bool true) ∧ Q w w' := by
  have HL := Lib.hid hL; clear hL
  go_enter Tryd.func16, Tryd.ntmps16
  go_wp2_with fail
  refine (aw1 _).mono ?_; rintro e w1 ⟨rfl, hq1⟩
  have q1 : Q w w1 := by exact hq1
  go_wp2_with fail
  refine (aw2 _).mono ?_; rintro e w2 ⟨rfl, hq2⟩
  go_wp2_with fail
  refine (aw3 _).mono ?_; rintro e w3 ⟨rfl, hq3⟩
  go_wp2_with fail
  refine (aw4 _ (((HL.out.stays q1).stays hq2).stays hq3)).mono ?_; rintro e w4 ⟨rfl, hq4⟩
  go_wp2_with fail
  refine (aw5 _).mono ?_; rintro e w5 ⟨rfl, hq5⟩
  go_wp2_with fail
  refine (aw6 _).mono ?_; rintro e w6 ⟨rfl, hq6⟩
  go_wp2_with fail
  refine (aw7 _).mono ?_; rintro e w7 ⟨rfl, hq7⟩
  go_wp2_with fail
  refine (aw8 _).mono ?_; rintro e w8 ⟨rfl, hq8⟩
  go_wp2_with fail
  refine (aw9 _ ((((((((HL.out.stays q1).stays hq2).stays hq3).stays hq4).stays hq5).stays hq6).stays hq7).stays hq8)).mono ?_; rintro e w9 ⟨rfl, hq9⟩
  go_wp2_with fail
  go_ret
  exact ⟨rfl, (((((((hq1.trans hq2).trans hq3).trans hq4).trans hq5).trans hq6).trans hq7).trans hq8).trans hq9⟩
end Go.Proofs.YtedcimjhhcepmaaDoor
