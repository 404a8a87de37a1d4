/- The examples of the chapter hold: the contract of awake. -/
import Derived.Test.YtdebkicmoocnmaaNext
set_option linter.unusedVariables false
set_option linter.unusedSimpArgs false
namespace Go.Proofs.Ytdebkicmoocnmaa
open Go.ChangeShapes Go.WideShapes Go.ChangeAt Go.RowKit Idm

theorem aw1 (w : World) : Calls Try.prog 16 #[.int .u8 66, .int .i64 42] w fun e w' => e = .returned (.tuple #[.string ⟨#[66, 48, 48, 48, 48, 52, 50, 85]⟩, .int .i64 0]) ∧ Q w w' :=
  (Code_c 66 42 w).mono fun _ _ ⟨a, b⟩ => ⟨by rw [a, show cS 66 42 = ⟨#[66, 48, 48, 48, 48, 52, 50, 85]⟩ from by decide +kernel, show cE 66 42 = 0 from by decide +kernel], b⟩
theorem aw2 (w : World) : Calls Try.prog 22 #[.string ⟨#[66, 48, 48, 48, 48, 52, 50, 85]⟩] w fun e w' => e = .returned (.tuple #[.string ⟨#[66, 48, 48, 48, 48, 52, 51, 69]⟩, .int .i64 0]) ∧ Q w w' :=
  (Next_c _ w (by decide +kernel)).mono fun _ _ ⟨a, b⟩ => ⟨by rw [a, show nxS ⟨#[66, 48, 48, 48, 48, 52, 50, 85]⟩ = ⟨#[66, 48, 48, 48, 48, 52, 51, 69]⟩ from by decide +kernel, show nxE ⟨#[66, 48, 48, 48, 48, 52, 50, 85]⟩ = 0 from by decide +kernel], b⟩
theorem aw3 (w : World) : Calls Try.prog 18 #[.string ⟨#[66, 48, 48, 48, 48, 52, 50, 85]⟩] w fun e w' => e = .returned (.tuple #[.int .u8 66, .int .i64 42, .int .i64 0]) ∧ Q w w' :=
  (Split_c _ w (by decide +kernel)).mono fun _ _ ⟨a, b⟩ => ⟨by rw [a, show spK ⟨#[66, 48, 48, 48, 48, 52, 50, 85]⟩ = 66 from by decide +kernel, show spN ⟨#[66, 48, 48, 48, 48, 52, 50, 85]⟩ = 42 from by decide +kernel, show spE ⟨#[66, 48, 48, 48, 48, 52, 50, 85]⟩ = 0 from by decide +kernel], b⟩
theorem aw4 (w : World) : Calls Try.prog 18 #[.string ⟨#[66, 48, 48, 48, 48, 52, 50, 86]⟩] w fun e w' => e = .returned (.tuple #[.int .u8 0, .int .i64 0, .int .i64 16]) ∧ Q w w' :=
  (Split_c _ w (by decide +kernel)).mono fun _ _ ⟨a, b⟩ => ⟨by rw [a, show spK ⟨#[66, 48, 48, 48, 48, 52, 50, 86]⟩ = 0 from by decide +kernel, show spN ⟨#[66, 48, 48, 48, 48, 52, 50, 86]⟩ = 0 from by decide +kernel, show spE ⟨#[66, 48, 48, 48, 48, 52, 50, 86]⟩ = 16 from by decide +kernel], b⟩
theorem aw5 (w : World) : Calls Try.prog 14 #[.string ⟨#[]⟩] w fun e w' => e = .returned (.int .u8 65) ∧ Q w w' :=
  (Letter_c _ w (by decide +kernel)).mono fun _ _ ⟨a, b⟩ => ⟨by rw [a]; rfl, b ▸ Q.refl _⟩
theorem aw6 (w : World) : Calls Try.prog 12 #[.string ⟨#[115, 112, 114, 117, 99, 101, 95, 50]⟩] w fun e w' => e = .returned (.bool true) ∧ Q w w' :=
  (IsName_c _ w (by decide +kernel)).mono fun _ _ ⟨a, b⟩ => ⟨by rw [a, show isN ⟨#[115, 112, 114, 117, 99, 101, 95, 50]⟩ = true from by decide +kernel], b ▸ Q.refl _⟩
theorem aw7 (w : World) : Calls Try.prog 12 #[.string ⟨#[50, 120]⟩] w fun e w' => e = .returned (.bool false) ∧ Q w w' :=
  (IsName_c _ w (by decide +kernel)).mono fun _ _ ⟨a, b⟩ => ⟨by rw [a, show isN ⟨#[50, 120]⟩ = false from by decide +kernel], b ▸ Q.refl _⟩
theorem aw8 (w : World) : Calls Try.prog 20 #[.string ⟨#[66, 48, 48, 48, 48, 52, 50, 85]⟩, .int .u8 66] w fun e w' => e = .returned (.bool true) ∧ Q w w' :=
  (Is_c _ 66 w (by decide +kernel)).mono fun _ _ ⟨a, b⟩ => ⟨by rw [a, show isB ⟨#[66, 48, 48, 48, 48, 52, 50, 85]⟩ 66 = true from by decide +kernel], b⟩

set_option maxRecDepth 100000 in
set_option maxHeartbeats 800000 in
theorem awake_c (w : World) : Calls Try.prog 11 #[] w fun e w' => e = .returned (.bool true) ∧ Q w w' := by
  go_enter Try.func11, Try.ntmps11
  go_wp2_with fail
  refine (aw1 _).mono ?_; rintro e w1 ⟨rfl, hq1⟩
  go_wp2_with fail
  refine (aw2 _).mono ?_; rintro e w2 ⟨rfl, hq2⟩
  go_wp2_with fail
  refine (aw3 _).mono ?_; rintro e w3 ⟨rfl, hq3⟩
  go_wp2_with fail
  refine (aw4 _).mono ?_; rintro e w4 ⟨rfl, hq4⟩
  go_wp2_with fail
  refine (aw5 _).mono ?_; rintro e w5 ⟨rfl, hq5⟩
  go_wp2_with fail
  refine (aw6 _).mono ?_; rintro e w6 ⟨rfl, hq6⟩
  go_wp2_with fail
  refine (aw7 _).mono ?_; rintro e w7 ⟨rfl, hq7⟩
  go_wp2_with fail
  refine (aw8 _).mono ?_; rintro e w8 ⟨rfl, hq8⟩
  go_wp2_with fail
  go_ret
  exact ⟨rfl, ((((((hq1.trans hq2).trans hq3).trans hq4).trans hq5).trans hq6).trans hq7).trans hq8⟩
end Go.Proofs.Ytdebkicmoocnmaa
