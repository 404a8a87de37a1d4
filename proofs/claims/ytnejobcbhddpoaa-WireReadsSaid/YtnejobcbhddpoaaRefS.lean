/- The contracts of the reference's ReadText and ReadInts. -/
import Derived.Test.YtnejobcbhddpoaaRefR
set_option linter.unusedVariables false
set_option linter.unusedSimpArgs false
namespace Go.Proofs.Ytnejobcbhddpoaa
open Go.ChangeShapes Go.WideShapes Go.ChangeAt Go.RowKit Wm

theorem rReadText_stop (s : ByteArray) (p e : Nat) (most : Int) (w : World) (h0 : e ≠ 0) : Calls Try.prog 26 #[rv s p e, .int .i64 most] w fun E w' => E = .returned (.tuple #[rv s p e, .string ⟨#[]⟩]) ∧ Q w w' := by
  unfold rv
  have t0 : ((e : Int) != 0) = true := by simp; omega
  have t0' : ((e : Int) == 0) = false := by simp; omega
  clear h0
  go_enter Try.func26, Try.ntmps26
  go_wp2_with fail
  refine bodyPost_ret (v := .tuple #[.agg #[.string s, .int .i64 p, .int .i64 e], .string ⟨#[]⟩]) (by simp [results, Try.results26, go_sem]) rfl ⟨rfl, ?_⟩
  repeat (first | exact Q.refl _ | refine Q.alloc ?_ _ | refine Q.setA ?_ (by simp; try omega) _)
theorem rReadInts_stop (s : ByteArray) (p e : Nat) (most lo hi : Int) (w : World) (h0 : e ≠ 0) : Calls Try.prog 27 #[rv s p e, .int .i64 most, .int .i64 lo, .int .i64 hi] w fun E w' => E = .returned (.tuple #[rv s p e, .slice none 0 0]) ∧ Q w w' := by
  unfold rv
  have t0 : ((e : Int) != 0) = true := by simp; omega
  have t0' : ((e : Int) == 0) = false := by simp; omega
  clear h0
  go_enter Try.func27, Try.ntmps27
  go_wp2_with fail
  refine bodyPost_ret (v := .tuple #[.agg #[.string s, .int .i64 p, .int .i64 e], .slice none 0 0]) (by simp [results, Try.results27, go_sem]) rfl ⟨rfl, ?_⟩
  repeat (first | exact Q.refl _ | refine Q.alloc ?_ _ | refine Q.setA ?_ (by simp; try omega) _)
set_option maxRecDepth 100000 in
set_option maxHeartbeats 3200000 in
theorem rReadText_ok (s : ByteArray) (p : Nat) (most : Int) (t : ByteArray) (l e : Nat) (w : World) (hs : s.size ≤ 1000000) (hp : p ≤ s.size) (hm : Fit most) (h : Hid (NT s p most t l e)) : Calls Try.prog 26 #[rv s p 0, .int .i64 most] w fun E w' => E = .returned (.tuple #[rv s (p + l) e, .string t]) ∧ Q w w' := by
  obtain ⟨u, hu⟩ : ∃ u, vU s p = u := ⟨_, rfl⟩
  obtain ⟨k, hk⟩ : ∃ k, lU s p = k := ⟨_, rfl⟩
  obtain ⟨x, hx⟩ : ∃ x, eU s p = x := ⟨_, rfl⟩
  have HC := Lib.hid (fun w => number_at s p u k x hs hp (Lib.hid ⟨hu, hk, hx⟩) w)
  have hf := fun x w => fail_c s p 0 x w
  have hub : (u : Int) ≤ 18446744073709551615 := by have := vU_lt s p; omega
  have hkl := lU_le s p
  rw [hk] at hkl
  have HRV := Lib.hid (show ∀ q x : Nat, rv s q x = .agg #[.string s, .int .i64 q, .int .i64 x] from fun _ _ => rfl)
  unfold rv at hf ⊢
  have HF := Lib.hid hf
  have HB := Lib.hid (twoA w #[.string s, .int .i64 p, .int .i64 0] #[.string ⟨#[]⟩, .int .i64 0, .int .i64 0] 36 36)
  have HQ := Lib.hid (((Q.refl w).alloc (.cells #[.string s, .int .i64 p, .int .i64 0] 36)).alloc (.cells #[.string ⟨#[]⟩, .int .i64 0, .int .i64 0] 36))
  clear hf
  obtain ⟨m1, m2⟩ := hm
  by_cases h0 : x = 0
  · subst h0
    have hcase : ((most < 0 ∨ (¬ most < 0 ∧ most < (u : Int))) ∧ t = ByteArray.empty ∧ l = 0 ∧ e = 4) ∨ (¬ most < 0 ∧ ¬ most < (u : Int) ∧ ((s.size - (p + k) < u ∧ t = ByteArray.empty ∧ l = 0 ∧ e = 3) ∨ (u ≤ s.size - (p + k) ∧ t = s.extract (p + k) (p + k + u) ∧ l = k + u ∧ e = 0))) := by
      by_cases c1 : most < 0 ∨ most < (u : Int)
      · have ec : eC s p most = 4 := by unfold eC; rw [if_pos hx, hu, if_pos c1]
        obtain ⟨a, b, c⟩ := NT_bad h.out (by rw [ec]; decide)
        exact .inl ⟨by omega, a, b, by rw [c, ec]⟩
      · have ec : eC s p most = 0 := by unfold eC; rw [if_pos hx, hu, if_neg c1]
        refine .inr ⟨by omega, by omega, ?_⟩
        by_cases c2 : s.size - (p + k) < u
        · obtain ⟨a, b, c⟩ := NT_short h.out ec (by rw [hu, hk]; exact c2)
          exact .inl ⟨c2, a, b, c⟩
        · obtain ⟨a, b, c⟩ := NT_ok h.out ec (by rw [hu, hk]; exact c2)
          rw [hu, hk] at a b
          exact .inr ⟨by omega, a, b, c⟩
    clear h hu hk hx
    rcases hcase with ⟨c1, rfl, rfl, rfl⟩ | ⟨c1, c2, ⟨c3, rfl, rfl, rfl⟩ | ⟨c3, rfl, rfl, rfl⟩⟩
    · rcases c1 with c1 | ⟨c1, c2⟩
      all_goals
        first | (have c3 : 0 ≤ most := by omega) | skip
        go_enter Try.func26, Try.ntmps26
        go_wp2_with fail
        refine (HC.out _).mono ?_; rintro E w1 ⟨rfl, rfl⟩
        go_wp2_with fail
        refine (HF.out 4 _).mono ?_; rintro E w2 ⟨rfl, hq2⟩
        have hb2 := (hq2.block _ (lt_of_block HB.out.2)).trans HB.out.2
        obtain ⟨x0, x1, x2, xf⟩ := tri hb2
        have Q2 := Lib.hid (HQ.out.trans hq2)
        clear hb2 hq2
        go_wp2_with fail
        refine bodyPost_ret (v := .tuple #[.agg #[.string s, .int .i64 p, .int .i64 4], .string ⟨#[]⟩]) (by simp [results, Try.results26, go_sem, x0, x1, x2]) rfl ⟨rfl, ?_⟩
        repeat (first | with_reducible exact Q2.out | refine Q.setA ?_ (by omega) _)
    · have i1 : 0 ≤ most := by omega
      have i2 : (p : Int) + (k : Int) ≤ (s.size : Int) := by omega
      have i3 : (s.size : Int) - ((p : Int) + (k : Int)) < (u : Int) := by omega
      go_enter Try.func26, Try.ntmps26
      go_wp2_with fail
      refine (HC.out _).mono ?_; rintro E w1 ⟨rfl, rfl⟩
      go_wp2_with fail
      refine (HF.out 3 _).mono ?_; rintro E w2 ⟨rfl, hq2⟩
      have hb2 := (hq2.block _ (lt_of_block HB.out.2)).trans HB.out.2
      obtain ⟨x0, x1, x2, xf⟩ := tri hb2
      have Q2 := Lib.hid (HQ.out.trans hq2)
      clear hb2 hq2
      go_wp2_with fail
      refine bodyPost_ret (v := .tuple #[.agg #[.string s, .int .i64 p, .int .i64 3], .string ⟨#[]⟩]) (by simp [results, Try.results26, go_sem, x0, x1, x2]) rfl ⟨rfl, ?_⟩
      repeat (first | with_reducible exact Q2.out | refine Q.setA ?_ (by omega) _)
    · obtain ⟨q, hq⟩ : ∃ q, p + k = q := ⟨_, rfl⟩
      rw [hq] at HC c3 ⊢
      obtain ⟨r, hr⟩ : ∃ r, q + u = r := ⟨_, rfl⟩
      rw [hr]
      have i1 : 0 ≤ most := by omega
      have i2 : (q : Int) ≤ (s.size : Int) := by omega
      have i3 : ¬ (s.size : Int) - (q : Int) < (u : Int) := by omega
      have i4 : (u : Int) ≤ 1000000 := by omega
      have i5 : (q : Int) + (u : Int) = (r : Int) := by omega
      have i6 : (0 : Int) ≤ (q : Int) := by omega
      have i7 : (q : Int) ≤ (r : Int) := by omega
      have i8 : (r : Int) ≤ (s.size : Int) := by omega
      have HR := Lib.hid (show p + (k + u) = r by omega)
      clear hq hr hkl
      go_enter Try.func26, Try.ntmps26
      go_wp2_with fail
      refine (HC.out _).mono ?_; rintro E w1 ⟨rfl, rfl⟩
      go_wp2_with fail
      go_region
      go_wp2_with fail
      refine bodyPost_ret (v := .tuple #[.agg #[.string s, .int .i64 r, .int .i64 0], .string (s.extract q r)]) (by simp [results, Try.results26, go_sem]) rfl ⟨by rw [HR.out]; rfl, ?_⟩
      repeat (first | exact Q.refl _ | refine Q.drew ?_ | refine Q.alloc ?_ _ | refine Q.setA ?_ (by simp; try omega) _)
  · have t0 : ((x : Int) != 0) = true := by simp; omega
    have t0' : ((x : Int) == 0) = false := by simp; omega
    have ec : eC s p most = x := by unfold eC; rw [if_neg (by rw [hx]; exact h0)]; exact hx
    obtain ⟨rfl, rfl, r3⟩ := NT_bad h.out (by rw [ec]; exact h0)
    rw [ec] at r3
    subst r3
    clear h hu hk hx h0 ec
    go_enter Try.func26, Try.ntmps26
    go_wp2_with fail
    refine (HC.out _).mono ?_; rintro E w1 ⟨rfl, rfl⟩
    go_wp2_with fail
    refine (HF.out _ _).mono ?_; rintro E w2 ⟨rfl, hq2⟩
    have hb2 := (hq2.block _ (lt_of_block HB.out.2)).trans HB.out.2
    obtain ⟨x0, x1, x2, xf⟩ := tri hb2
    have Q2 := Lib.hid (HQ.out.trans hq2)
    clear hb2 hq2
    go_wp2_with fail
    refine bodyPost_ret (v := .tuple #[.agg #[.string s, .int .i64 p, .int .i64 e], .string ⟨#[]⟩]) (by simp [results, Try.results26, go_sem, x0, x1, x2]) rfl ⟨rfl, ?_⟩
    repeat (first | with_reducible exact Q2.out | refine Q.setA ?_ (by omega) _)
end Go.Proofs.Ytnejobcbhddpoaa
