/- The contracts of units.step, Toward and of the reference's part, Toward. -/
import Derived.Test.YtedcimjhhcepmaaDoorMul
set_option linter.unusedVariables false
set_option linter.unusedSimpArgs false
namespace Go.Proofs.YtedcimjhhcepmaaDoor
open Go.ChangeShapes Go.WideShapes Go.ChangeAt Go.RowKit Um

/-- the step: k ten-thousandths of a distance, at least 1 -/
def st (d k : Nat) : Nat := if d * k / 10000 = 0 then 1 else d * k / 10000
theorem st_bd {d k : Nat} (hd : 0 < d) (hk : 0 < k) (hk2 : k ≤ 10000) : 1 ≤ st d k ∧ st d k ≤ d := by
  have h : d * k / 10000 ≤ d := by
    have : d * k ≤ d * 10000 := Nat.mul_le_mul_left _ hk2
    omega
  unfold st; split <;> omega
set_option maxHeartbeats 800000 in
theorem step_c (d k : Nat) (hd : d < 18446744073709551616) (hk : k ≤ 10000) (w : World) :
    Calls Tryd.prog 39 #[.int .u64 (d : Int), .int .i64 (k : Int)] w fun e w' => e = .returned (.int .u64 (st d k : Int)) ∧ Q w w' := by
  obtain ⟨P, hP⟩ : ∃ P, d * k = P := ⟨_, rfl⟩
  obtain ⟨h, hh⟩ : ∃ h, P / 18446744073709551616 = h := ⟨_, rfl⟩
  obtain ⟨l, hl⟩ : ∃ l, P % 18446744073709551616 = l := ⟨_, rfl⟩
  obtain ⟨q, hq⟩ : ∃ q, P / 10000 = q := ⟨_, rfl⟩
  obtain ⟨r, hr⟩ : ∃ r, P % 10000 = r := ⟨_, rfl⟩
  have hPb : P ≤ d * 10000 := by rw [← hP]; exact Nat.mul_le_mul_left _ hk
  have HM := Lib.hid (show d * k / 18446744073709551616 = h ∧ d * k % 18446744073709551616 = l by rw [hP]; exact ⟨hh, hl⟩)
  have HD := Lib.hid (show h * 18446744073709551616 + l = P ∧ P / 10000 = q ∧ P % 10000 = r from ⟨by omega, hq, hr⟩)
  have FF := Lib.hid (show d < 18446744073709551616 ∧ l < 18446744073709551616 ∧ h < 10000 from ⟨hd, by omega, by omega⟩)
  have i1 : (k : Int) ≤ 10000 := by omega
  by_cases h0 : q = 0
  · have e := Lib.hid (show st d k = 1 by unfold st; rw [hP, hq, if_pos h0])
    have i2 : ((q : Int) == 0) = true := by rw [beq_iff_eq]; omega
    clear hd hk hP hh hl hq hr hPb h0
    go_enter Tryd.func39, Tryd.ntmps39
    go_wp2_with fail
    refine (Mul_is d k h l FF.out.1 (by omega) HM _).mono ?_; rintro e1 w' ⟨rfl, rfl⟩
    go_wp2_with fail
    refine (Div_is h l 10000 P q r FF.out.2.1 (by omega) FF.out.2.2 HD _).mono ?_; rintro e1 w2 ⟨rfl, hq2⟩
    go_wp2_with fail
    go_ret
    exact ⟨ret_int (by rw [e.out]; rfl), hq2⟩
  · have e := Lib.hid (show st d k = q by unfold st; rw [hP, hq, if_neg h0])
    have i2 : ((q : Int) == 0) = false := by rw [beq_eq_false_iff_ne]; omega
    clear hd hk hP hh hl hq hr hPb h0
    go_enter Tryd.func39, Tryd.ntmps39
    go_wp2_with fail
    refine (Mul_is d k h l FF.out.1 (by omega) HM _).mono ?_; rintro e1 w' ⟨rfl, rfl⟩
    go_wp2_with fail
    refine (Div_is h l 10000 P q r FF.out.2.1 (by omega) FF.out.2.2 HD _).mono ?_; rintro e1 w2 ⟨rfl, hq2⟩
    go_wp2_with fail
    go_ret
    exact ⟨ret_int (by rw [e.out]), hq2⟩

/-- what Toward answers -/
def tw (a b k : Int) : Int := if clamp k 0 10000 = 0 ∨ a = b then a else if b < a then a - (st (a - b).toNat (clamp k 0 10000).toNat : Nat) else a + (st (b - a).toNat (clamp k 0 10000).toNat : Nat)
theorem clamp_k (k : Int) : 0 ≤ clamp k 0 10000 ∧ clamp k 0 10000 ≤ 10000 := by unfold clamp; split <;> (try split) <;> (try split) <;> omega
theorem usub {a b : Int} {D : Nat} (h : a - b = (D : Int)) (hD : D < 18446744073709551616) : IntKind.u64.wrap (IntKind.u64.wrap a - IntKind.u64.wrap b) = (D : Int) := by
  simp only [IntKind.wrap_u64]; omega
theorem back_sub {a : Int} {S : Nat} (h : Fit (a - S)) (hS : S < 18446744073709551616) : wrap64 (IntKind.u64.wrap (IntKind.u64.wrap a - (S : Int))) = a - S := by
  obtain ⟨h1, h2⟩ := h
  simp only [IntKind.wrap_u64, wrap64]; omega
theorem back_add {a : Int} {S : Nat} (h : Fit (a + S)) (hS : S < 18446744073709551616) : wrap64 (IntKind.u64.wrap (IntKind.u64.wrap a + (S : Int))) = a + S := by
  obtain ⟨h1, h2⟩ := h
  simp only [IntKind.wrap_u64, wrap64]; omega
theorem step_is (d k s : Nat) (hs : Hid (st d k = s)) (hd : d < 18446744073709551616) (hk : k ≤ 10000) (w : World) :
    Calls Tryd.prog 39 #[.int .u64 (d : Int), .int .i64 (k : Int)] w fun e w' => e = .returned (.int .u64 (s : Int)) ∧ Q w w' :=
  (step_c d k hd hk w).mono fun _ _ ⟨a, b⟩ => ⟨by rw [a, hs.out], b⟩
theorem Clamp_is (k : Int) (K : Nat) (h : Hid (clamp k 0 10000 = (K : Int))) (w : World) : Calls Tryd.prog 19 #[.int .i64 k, .int .i64 0, .int .i64 10000] w fun e w' => e = .returned (.int .i64 (K : Int)) ∧ w = w' :=
  (Clamp_c k 0 10000 w).mono fun _ _ ⟨a, b⟩ => ⟨by rw [a, h.out], b⟩

set_option maxHeartbeats 800000 in
theorem Toward_c (a b k : Int) (fa : Fit a) (fb : Fit b) (w : World) :
    Calls Tryd.prog 21 #[.int .i64 a, .int .i64 b, .int .i64 k] w fun e w' => e = .returned (.int .i64 (tw a b k)) ∧ Q w w' := by
  have ck := clamp_k k
  obtain ⟨K, hK⟩ := Int.eq_ofNat_of_zero_le ck.1
  have HK := Lib.hid hK
  have hKb : K ≤ 10000 := by omega
  obtain ⟨a1, a2⟩ := fa
  obtain ⟨b1, b2⟩ := fb
  by_cases h0 : K = 0
  · have e := Lib.hid (show tw a b k = a by unfold tw; rw [if_pos (.inl (by omega))])
    subst h0
    clear hK ck
    go_enter Tryd.func21, Tryd.ntmps21
    go_wp2_with fail
    refine (Clamp_is k 0 HK _).mono ?_; rintro e1 w' ⟨rfl, rfl⟩
    go_wp2_with fail
    go_ret
    exact ⟨ret_int e.out.symm, Q.refl _⟩
  · have i0 : ((K : Int) == 0) = false := by rw [beq_eq_false_iff_ne]; omega
    by_cases hab : a = b
    · have e := Lib.hid (show tw a b k = a by unfold tw; rw [if_pos (.inr hab)])
      have i1 : (a == b) = true := by rw [beq_iff_eq]; exact hab
      clear hK ck hab h0
      go_enter Tryd.func21, Tryd.ntmps21
      go_wp2_with fail
      refine (Clamp_is k K HK _).mono ?_; rintro e1 w' ⟨rfl, rfl⟩
      go_wp2_with fail
      go_ret
      exact ⟨ret_int e.out.symm, Q.refl _⟩
    · have i1 : (a == b) = false := by rw [beq_eq_false_iff_ne]; exact hab
      by_cases hlt : b < a
      · obtain ⟨D, hD⟩ := Int.eq_ofNat_of_zero_le (show 0 ≤ a - b by omega)
        obtain ⟨S, hS⟩ : ∃ S, st D K = S := ⟨_, rfl⟩
        have sb := st_bd (d := D) (k := K) (by omega) (by omega) hKb
        rw [hS] at sb
        have e := Lib.hid (show tw a b k = a - (S : Int) by
          unfold tw; rw [if_neg (by rintro (h | h) <;> omega), if_pos hlt, hK, hD, Int.toNat_natCast, Int.toNat_natCast, hS])
        have HS := Lib.hid hS
        have HDl := Lib.hid hD
        have FF := Lib.hid (show D < 18446744073709551616 ∧ S < 18446744073709551616 ∧ Fit (a - (S : Int)) ∧ K ≤ 10000 from ⟨by omega, by omega, by unfold Fit; omega, hKb⟩)
        clear hK ck hab h0 hD hS sb a1 a2 b1 b2
        go_enter Tryd.func21, Tryd.ntmps21
        go_wp2_with fail
        refine (Clamp_is k K HK _).mono ?_; rintro e1 w' ⟨rfl, rfl⟩
        go_wp2_with fail
        rw [usub HDl.out FF.out.1]
        refine (step_is D K S HS FF.out.1 FF.out.2.2.2 _).mono ?_; rintro e1 w2 ⟨rfl, hq2⟩
        go_wp2_with fail
        go_ret
        exact ⟨ret_int (by rw [e.out]; exact back_sub FF.out.2.2.1 FF.out.2.1), hq2⟩
      · obtain ⟨D, hD⟩ := Int.eq_ofNat_of_zero_le (show 0 ≤ b - a by omega)
        obtain ⟨S, hS⟩ : ∃ S, st D K = S := ⟨_, rfl⟩
        have sb := st_bd (d := D) (k := K) (by omega) (by omega) hKb
        rw [hS] at sb
        have e := Lib.hid (show tw a b k = a + (S : Int) by
          unfold tw; rw [if_neg (by rintro (h | h) <;> omega), if_neg hlt, hK, hD, Int.toNat_natCast, Int.toNat_natCast, hS])
        have HS := Lib.hid hS
        have HDl := Lib.hid hD
        have FF := Lib.hid (show D < 18446744073709551616 ∧ S < 18446744073709551616 ∧ Fit (a + (S : Int)) ∧ K ≤ 10000 from ⟨by omega, by omega, by unfold Fit; omega, hKb⟩)
        clear hK ck hab h0 hD hS sb a1 a2 b1 b2
        go_enter Tryd.func21, Tryd.ntmps21
        go_wp2_with fail
        refine (Clamp_is k K HK _).mono ?_; rintro e1 w' ⟨rfl, rfl⟩
        go_wp2_with fail
        rw [usub HDl.out FF.out.1]
        refine (step_is D K S HS FF.out.1 FF.out.2.2.2 _).mono ?_; rintro e1 w2 ⟨rfl, hq2⟩
        go_wp2_with fail
        go_ret
        exact ⟨ret_int (by rw [e.out]; exact back_add FF.out.2.2.1 FF.out.2.1), hq2⟩
end Go.Proofs.YtedcimjhhcepmaaDoor
