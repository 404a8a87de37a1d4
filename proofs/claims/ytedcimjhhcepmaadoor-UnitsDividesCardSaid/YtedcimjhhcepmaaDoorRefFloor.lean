/- The contracts of the reference's Floor and Nearest. -/
import Derived.Test.YtedcimjhhcepmaaDoorUnitsFloors
set_option linter.unusedVariables false
set_option linter.unusedSimpArgs false
namespace Go.Proofs.YtedcimjhhcepmaaDoor
open Go.ChangeShapes Go.WideShapes Go.ChangeAt Go.RowKit Um

set_option maxHeartbeats 800000 in
theorem rFloor_no (a b : Int) (w : World) (h : dOk a b = false) :
    Calls Tryd.prog 14 #[.int .i64 a, .int .i64 b] w fun e w' => e = .returned (.tuple #[.int .i64 0, .bool false]) ∧ Q w w' := by
  by_cases hb : b = 0
  · have hb1 : (b == 0) = true := by simpa using hb
    clear h hb
    go_enter Tryd.func14, Tryd.ntmps14
    go_wp2_with fail
    go_ret2
    exact ⟨rfl, by repeat (first | exact Q.refl _ | refine Q.drewN ?_ _ | refine Q.drew ?_ | refine Q.alloc ?_ _)⟩
  · have hb1 : (b == 0) = false := by simpa using hb
    have hm : a = -9223372036854775808 ∧ b = -1 := by
      refine Decidable.byContradiction fun g => ?_
      rw [d_yes hb g] at h; cases h
    have h1 : (a == -9223372036854775808) = true := by rw [beq_iff_eq]; exact hm.1
    have h2 : (b == -1) = true := by rw [beq_iff_eq]; exact hm.2
    clear h hb hm
    go_enter Tryd.func14, Tryd.ntmps14
    go_wp2_with fail
    go_ret2
    exact ⟨rfl, by repeat (first | exact Q.refl _ | refine Q.drewN ?_ _ | refine Q.drew ?_ | refine Q.alloc ?_ _)⟩

set_option maxHeartbeats 1600000 in
theorem rFloor_yes (a b : Int) (w : World) (fa : Fit a) (fb : Fit b) (hb : b ≠ 0) (hm : ¬ (a = -9223372036854775808 ∧ b = -1)) :
    Calls Tryd.prog 14 #[.int .i64 a, .int .i64 b] w fun e w' => e = .returned (.tuple #[.int .i64 (fq a b), .bool true]) ∧ Q w w' := by
  have hb1 : (b == 0) = false := by simpa using hb
  obtain ⟨x, hx⟩ : ∃ x, (a == -9223372036854775808) = x := ⟨_, rfl⟩
  obtain ⟨y, hy⟩ : ∃ y, (b == -1) = y := ⟨_, rfl⟩
  have hxy : (x && y) = false := by
    rw [← hx, ← hy, Bool.eq_false_iff]; intro h; rw [Bool.and_eq_true, beq_iff_eq, beq_iff_eq] at h; exact hm h
  have td := tdiv_bd fa hb hm
  have dF := div_facts a b hb
  obtain ⟨q, hq⟩ : ∃ q, a.tdiv b = q := ⟨_, rfl⟩
  obtain ⟨r, hr⟩ : ∃ r, a.tmod b = r := ⟨_, rfl⟩
  have ha := adj_val hr
  rw [hq, hr] at td
  obtain ⟨⟨q1, q2⟩, q3⟩ := td
  obtain ⟨b1, b2⟩ := fb
  clear fa hm
  have cases5 : (r = 0 ∧ adj a b = false) ∨ (r ≠ 0 ∧ 0 ≤ a ∧ 0 < b ∧ adj a b = false) ∨ (r ≠ 0 ∧ a < 0 ∧ b < 0 ∧ adj a b = false) ∨ (r ≠ 0 ∧ 0 ≤ a ∧ b < 0 ∧ adj a b = true) ∨ (r ≠ 0 ∧ a < 0 ∧ 0 < b ∧ adj a b = true) := by
    obtain ⟨_, _, d3, d4⟩ := dF
    rw [hr] at d3 d4
    rw [ha]
    rcases Int.lt_trichotomy r 0 with h | h | h
    · have : a < 0 := by omega
      rcases (show 0 < b ∨ b < 0 by omega) with g | g <;> simp [h, g] <;> omega
    · exact .inl ⟨h, by rw [h]; simp⟩
    · have : 0 ≤ a := by omega
      rcases (show 0 < b ∨ b < 0 by omega) with g | g <;> simp [h, g] <;> omega
  clear dF ha
  rcases cases5 with ⟨h0, hadj⟩ | ⟨h0, h1, h2, hadj⟩ | ⟨h0, h1, h2, hadj⟩ | ⟨h0, h1, h2, hadj⟩ | ⟨h0, h1, h2, hadj⟩
  · subst h0
    have U := Lib.hid (show fq a b = q by rw [(fq_no hadj).1, hq])
    clear hadj q3
    cases x <;> cases y <;> (try (simp at hxy; done))
    all_goals
      clear hxy
      go_enter Tryd.func14, Tryd.ntmps14
      go_wp2_with fail
      go_ret2
      exact ⟨ret_ib U.out.symm rfl, by repeat (first | exact Q.refl _ | refine Q.drewN ?_ _ | refine Q.drew ?_ | refine Q.alloc ?_ _)⟩
  all_goals
    have hr0 : (r != 0) = true := by simpa using h0
    obtain ⟨q4, q5⟩ := q3 h0
    clear q3 h0
  · have U := Lib.hid (show fq a b = q by rw [(fq_no hadj).1, hq])
    have hd1 : decide (a < 0) = false := by simp; omega
    have hd2 : decide (b < 0) = false := by simp; omega
    clear hadj
    cases x <;> cases y <;> (try (simp at hxy; done))
    all_goals
      clear hxy
      go_enter Tryd.func14, Tryd.ntmps14
      go_wp2_with fail
      go_ret2
      exact ⟨ret_ib U.out.symm rfl, by repeat (first | exact Q.refl _ | refine Q.drewN ?_ _ | refine Q.drew ?_ | refine Q.alloc ?_ _)⟩
  · have U := Lib.hid (show fq a b = q by rw [(fq_no hadj).1, hq])
    have hd1 : decide (a < 0) = true := by simp; omega
    have hd2 : decide (b < 0) = true := by simp; omega
    clear hadj
    cases x <;> cases y <;> (try (simp at hxy; done))
    all_goals
      clear hxy
      go_enter Tryd.func14, Tryd.ntmps14
      go_wp2_with fail
      go_ret2
      exact ⟨ret_ib U.out.symm rfl, by repeat (first | exact Q.refl _ | refine Q.drewN ?_ _ | refine Q.drew ?_ | refine Q.alloc ?_ _)⟩
  · have U := Lib.hid (show fq a b = q - 1 by rw [(fq_yes hadj).1, hq])
    have hd1 : decide (a < 0) = false := by simp; omega
    have hd2 : decide (b < 0) = true := by simp; omega
    clear hadj
    cases x <;> cases y <;> (try (simp at hxy; done))
    all_goals
      clear hxy
      go_enter Tryd.func14, Tryd.ntmps14
      go_wp2_with fail
      go_ret2
      exact ⟨ret_ib U.out.symm rfl, by repeat (first | exact Q.refl _ | refine Q.drewN ?_ _ | refine Q.drew ?_ | refine Q.alloc ?_ _)⟩
  · have U := Lib.hid (show fq a b = q - 1 by rw [(fq_yes hadj).1, hq])
    have hd1 : decide (a < 0) = true := by simp; omega
    have hd2 : decide (b < 0) = false := by simp; omega
    clear hadj
    cases x <;> cases y <;> (try (simp at hxy; done))
    all_goals
      clear hxy
      go_enter Tryd.func14, Tryd.ntmps14
      go_wp2_with fail
      go_ret2
      exact ⟨ret_ib U.out.symm rfl, by repeat (first | exact Q.refl _ | refine Q.drewN ?_ _ | refine Q.drew ?_ | refine Q.alloc ?_ _)⟩
theorem rFloor_is (a b q : Int) (x : Bool) (hh : Hid (flo a b = q ∧ dOk a b = x)) (w : World) (fa : Fit a) (fb : Fit b) :
    Calls Tryd.prog 14 #[.int .i64 a, .int .i64 b] w fun e w' => e = .returned (.tuple #[.int .i64 q, .bool x]) ∧ Q w w' := by
  obtain ⟨h1, h2⟩ := hh.out
  subst h1
  subst h2
  cases h : dOk a b with
  | false => exact (rFloor_no a b w h).mono fun _ _ ⟨x, y⟩ => ⟨by rw [x]; unfold flo; rw [h]; rfl, y⟩
  | true => exact (rFloor_yes a b w fa fb (d_inv h).1 (d_inv h).2).mono fun _ _ ⟨x, y⟩ => ⟨by rw [x]; unfold flo; rw [h]; rfl, y⟩

set_option maxHeartbeats 1600000 in
theorem rNearest_is (a b n : Int) (x : Bool) (hh : Hid (nea a b = n ∧ dOk a b = x)) (w : World) (fa : Fit a) (fb : Fit b) :
    Calls Tryd.prog 15 #[.int .i64 a, .int .i64 b] w fun e w' => e = .returned (.tuple #[.int .i64 n, .bool x]) ∧ Q w w' := by
  obtain ⟨h1, h2⟩ := hh.out
  subst h1
  subst h2
  clear hh
  cases h : dOk a b with
  | false =>
    have hF := Lib.hid (show flo a b = 0 ∧ dOk a b = false from ⟨by unfold flo; rw [h]; rfl, h⟩)
    have U := Lib.hid (show nea a b = 0 by unfold nea; rw [h]; rfl)
    have FA := Lib.hid fa
    have FB := Lib.hid fb
    clear fa fb h
    go_enter Tryd.func15, Tryd.ntmps15
    go_wp2_with fail
    refine (rFloor_is a b _ _ hF _ FA.out FB.out).mono ?_; rintro e w1 ⟨rfl, hq1⟩
    go_wp2_with fail
    go_ret2
    exact ⟨ret_ib U.out.symm rfl, hq1⟩
  | true =>
    obtain ⟨q, r, n, e1, e2, ⟨e3, q1, q2⟩, hc⟩ := fl_cases fa fb h
    have hF := Lib.hid (show flo a b = q ∧ dOk a b = true from ⟨e1, h⟩)
    have U := Lib.hid e2
    have FA := Lib.hid fa
    have FB := Lib.hid fb
    obtain ⟨b1, b2⟩ := fb
    clear fa h e1 e2
    rcases hc with ⟨c1, c2, c3, ⟨c4, c5⟩ | ⟨c4, c5, c6⟩⟩ | ⟨c1, c2, c3, ⟨c4, c5⟩ | ⟨c4, c5, c6⟩⟩
    all_goals
      subst c5
      have t1 := Lib.hid c1
      go_enter Tryd.func15, Tryd.ntmps15
      go_wp2_with fail
      refine (rFloor_is a b _ _ hF _ FA.out FB.out).mono ?_; rintro e w1 ⟨rfl, hq1⟩
      go_wp2_with fail
      go_ret2
      exact ⟨ret_ib U.out.symm rfl, hq1⟩
end Go.Proofs.YtedcimjhhcepmaaDoor
