/- The contract of the reference's scaled: the quotient and the remainder of a product, bit by bit. -/
import Derived.Test.YtedcimjhhcepmaaDoorLaid
set_option linter.unusedVariables false
set_option linter.unusedSimpArgs false
namespace Go.Proofs.YtedcimjhhcepmaaDoor
open Go.ChangeShapes Go.WideShapes Go.ChangeAt Go.RowKit Um

def Big (a b c : Nat) : Prop := 9223372036854775809 * c ≤ a * b
def Good (a b c q r : Nat) : Prop := a * b = q * c + r ∧ r < c ∧ q ≤ 9223372036854775808
def ScEnd (a b c : Nat) (w : World) (e : Ending) (w' : World) : Prop :=
  ∃ (q r : Nat) (ok : Bool), e = .returned (.tuple #[.int .u64 (q : Int), .int .u64 (r : Int), .bool ok]) ∧ w = w' ∧ ((ok = true ∧ Good a b c q r) ∨ (ok = false ∧ q = 0 ∧ r = 0 ∧ Big a b c))
def ScInv (a b c : Nat) (v6 v7 v8 : Value) : Prop :=
  ∃ q r j : Nat, v6 = .int .u64 (q : Int) ∧ v7 = .int .u64 (r : Int) ∧ v8 = .int .i64 ((j : Int) - 1) ∧ Hid (j ≤ 64 ∧ a * (b / 2 ^ j) = q * c + r ∧ r < c ∧ q ≤ 9223372036854775808)

/-- one bit more -/
structure Bit (a c M N t : Nat) : Prop where
  tw : N = 2 * M + t
  one : t < 2
theorem bit_of (a b c i : Nat) : Bit a c (b / 2 ^ (i + 1)) (b / 2 ^ i) (b / 2 ^ i % 2) :=
  ⟨by rw [Nat.pow_succ, ← Nat.div_div_eq_div_mul]; omega, by omega⟩
theorem two_prod {a M q r c : Nat} (h : a * M = q * c + r) : a * (2 * M) = 2 * q * c + 2 * r := by
  rw [Nat.mul_left_comm, h, Nat.mul_add, Nat.mul_assoc]
theorem big_of {a b c i : Nat} (h : 9223372036854775809 * c ≤ a * (b / 2 ^ i)) : Big a b c :=
  Nat.le_trans h (Nat.mul_le_mul_left _ (Nat.div_le_self _ _))
theorem big_lift {a M N t c X : Nat} (hb : Bit a c M N t) (hX : 9223372036854775809 ≤ X) (h : X * c ≤ a * (2 * M)) : 9223372036854775809 * c ≤ a * N := by
  have h1 : 9223372036854775809 * c ≤ X * c := Nat.mul_le_mul_right _ hX
  have h2 : a * (2 * M) ≤ a * N := Nat.mul_le_mul_left _ (by rw [hb.tw]; omega)
  omega
/-- the first half of a round: doubled -/
theorem half_one {a M q r c q1 r1 : Nat} (h : a * M = q * c + r) (hr : r < c) (hs : (c ≤ 2 * r ∧ q1 = 2 * q + 1 ∧ r1 + c = 2 * r) ∨ (2 * r < c ∧ q1 = 2 * q ∧ r1 = 2 * r)) :
    a * (2 * M) = q1 * c + r1 ∧ r1 < c := by
  rw [two_prod h]
  rcases hs with ⟨h1, rfl, h3⟩ | ⟨h1, rfl, rfl⟩
  · rw [Nat.add_mul]; omega
  · omega
/-- the second half: the factor once more -/
theorem half_two {a M N c q1 r1 A1 A2 q2 r2 : Nat} (hb : Bit a c M N 1) (h : a * (2 * M) = q1 * c + r1) (hr : r1 < c) (hA1 : a / c = A1) (hA2 : a % c = A2)
    (hs : (c ≤ r1 + A2 ∧ q2 = q1 + A1 + 1 ∧ r2 + c = r1 + A2) ∨ (r1 + A2 < c ∧ q2 = q1 + A1 ∧ r2 = r1 + A2)) : a * N = q2 * c + r2 ∧ r2 < c := by
  have e : a = A1 * c + A2 := by rw [← hA1, ← hA2]; have := Nat.div_add_mod a c; rw [Nat.mul_comm] at this; omega
  have l : A2 < c := by rw [← hA2]; exact Nat.mod_lt _ (by omega)
  have n : a * N = a * (2 * M) + a := by rw [hb.tw, Nat.mul_add]; omega
  have e2 : a * N = q1 * c + r1 + (A1 * c + A2) := by rw [n, h]; omega
  rw [e2]
  rcases hs with ⟨h1, rfl, h3⟩ | ⟨h1, rfl, rfl⟩
  · rw [Nat.add_mul, Nat.add_mul]; omega
  · rw [Nat.add_mul]; omega
theorem half_big {a M N c q1 r1 A1 : Nat} (hb : Bit a c M N 1) (h : a * (2 * M) = q1 * c + r1) (hA1 : a / c = A1) (hX : 9223372036854775809 ≤ q1 + A1) : 9223372036854775809 * c ≤ a * N := by
  have e : A1 * c ≤ a := by rw [← hA1]; exact Nat.div_mul_le_self _ _
  have n : a * N = a * (2 * M) + a := by rw [hb.tw, Nat.mul_add]; omega
  have h1 : 9223372036854775809 * c ≤ (q1 + A1) * c := Nat.mul_le_mul_right _ hX
  rw [Nat.add_mul] at h1
  omega

set_option maxRecDepth 100000 in
set_option maxHeartbeats 3200000 in
theorem scaled_c (a b c : Nat) (ha : a ≤ 9223372036854775808) (hb : b ≤ 9223372036854775808) (hc : 0 < c) (hc2 : c ≤ 9223372036854775807) (w : World) :
    Calls Tryd.prog 37 #[.int .u64 (a : Int), .int .u64 (b : Int), .int .u64 (c : Int)] w (ScEnd a b c w) := by
  have FF := Lib.hid (show a ≤ 9223372036854775808 ∧ b ≤ 9223372036854775808 ∧ 0 < c ∧ c ≤ 9223372036854775807 from ⟨ha, hb, hc, hc2⟩)
  have jc : (c : Int) ≤ 9223372036854775807 := by omega
  have jc0 : ((c : Int) == 0) = false := by rw [beq_eq_false_iff_ne]; omega
  have jn : ¬ c = 0 := by omega
  have HZ := Lib.hid (show b / 2 ^ 64 = 0 from Nat.div_eq_of_lt (by omega))
  clear ha hb hc hc2
  go_enter Tryd.func37, Tryd.ntmps37
  go_wp2_with fail
  go_loop [9, 10, 11] (fun v6 v7 v8 => ScInv a b c v6 v7 v8) (fun _ _ v8 => (intOf v8 + 1).toNat)
  case atStart => exact ⟨0, 0, 64, rfl, rfl, rfl, ⟨by omega, by rw [HZ.out]; simp, FF.out.2.2.1, by omega⟩⟩
  case round =>
    obtain ⟨q, r, j, rfl, rfl, rfl, HI⟩ := hrel
    rcases j with _ | i
    · have HG := Lib.hid (show Good a b c q r from by obtain ⟨_, h1, h2, h3⟩ := HI.out; exact ⟨by simpa using h1, h2, h3⟩)
      clear HI
      rw [show (((0 : Nat) : Int) - 1) = -1 from rfl]
      go_wp2_with fail
      go_ret3
      exact ⟨q, r, true, rfl, rfl, .inl ⟨rfl, HG.out⟩⟩
    · rw [show (((i + 1 : Nat) : Int) - 1) = (i : Int) by omega]
      have ji : (i : Int) ≤ 63 := by have := HI.out.1; omega
      by_cases hA : 4611686018427387904 < q
      · have HB := Lib.hid (show Big a b c from big_of (big_lift (bit_of a b c i) (X := 2 * q) (by omega) (by rw [two_prod HI.out.2.1]; omega)))
        have i1 : 4611686018427387904 < (q : Int) := by omega
        clear hA HI
        go_wp2_with fail
        go_ret3
        exact ⟨0, 0, false, rfl, rfl, .inr ⟨rfl, rfl, rfl, HB.out⟩⟩
      · have iA : ¬ 4611686018427387904 < (q : Int) := by omega
        obtain ⟨M, hM⟩ : ∃ M, b / 2 ^ (i + 1) = M := ⟨_, rfl⟩
        obtain ⟨N, hN⟩ : ∃ N, b / 2 ^ i = N := ⟨_, rfl⟩
        obtain ⟨t, ht⟩ : ∃ t, N % 2 = t := ⟨_, rfl⟩
        have hbit := bit_of a b c i
        rw [hM, hN, ht] at hbit
        have hI := HI.out
        rw [hM] at hI
        have iN : (b : Int) / 2 ^ i = (N : Int) := by rw [cast_shr, hN]
        have HN := Lib.hid hN
        obtain ⟨Q2, hQ⟩ : ∃ n, 2 * q = n := ⟨_, rfl⟩
        obtain ⟨R2, hR⟩ : ∃ n, 2 * r = n := ⟨_, rfl⟩
        have eQ : 2 * (q : Int) = (Q2 : Int) := by omega
        have eR : 2 * (r : Int) = (R2 : Int) := by omega
        have bQ : (Q2 : Int) ≤ 9223372036854775808 := by omega
        have bR : (R2 : Int) ≤ 18446744073709551614 := by have := hI.2.2.1; have := FF.out.2.2.2; omega
        obtain ⟨q1, r1, S1⟩ : ∃ q1 r1 : Nat, (c ≤ R2 ∧ q1 = Q2 + 1 ∧ r1 + c = R2) ∨ (R2 < c ∧ q1 = Q2 ∧ r1 = R2) := by
          by_cases g : c ≤ R2
          · exact ⟨Q2 + 1, R2 - c, .inl ⟨g, rfl, by omega⟩⟩
          · exact ⟨Q2, R2, .inr ⟨by omega, rfl, rfl⟩⟩
        have H1 := Lib.hid (half_one hI.2.1 hI.2.2.1 (by rw [hQ, hR]; exact S1))
        have HBIT := Lib.hid hbit
        have b1 : (q1 : Int) ≤ 9223372036854775809 := by omega
        have b2 : (r1 : Int) ≤ 9223372036854775806 := by have := H1.out.2; have := FF.out.2.2.2; omega
        have IT : (N : Int) % 2 = (t : Int) := by omega
        have TT := Lib.hid (show t = 0 ∨ t = 1 by omega)
        clear hM hN ht hbit hI HI hQ hR hA
        rcases S1 with ⟨s1, s2, s3⟩ | ⟨s1, s2, s3⟩
        · have iS : (c : Int) ≤ (R2 : Int) := by omega
          have e1 : (Q2 : Int) + 1 = (q1 : Int) := by omega
          have e2 : (R2 : Int) - (c : Int) = (r1 : Int) := by omega
          clear s1 s2 s3
          by_cases hC : (9223372036854775808 : Int) < (q1 : Int)
          · have HB := Lib.hid (show Big a b c by
              have h := big_lift HBIT.out (X := q1) (by omega) (by rw [H1.out.1]; omega)
              rw [← HN.out] at h
              exact big_of h)
            go_wp2_with fail
            go_ret3
            exact ⟨0, 0, false, rfl, rfl, .inr ⟨rfl, rfl, rfl, HB.out⟩⟩
          · rcases TT.out with ht | ht
            · have IT0 : (N : Int) % 2 = 0 := by omega
              have HX := Lib.hid (show i ≤ 64 ∧ a * (b / 2 ^ i) = q1 * c + r1 ∧ r1 < c ∧ q1 ≤ 9223372036854775808 by
                refine ⟨by omega, ?_, H1.out.2, by omega⟩
                rw [HN.out, HBIT.out.tw, ht, Nat.add_zero]; exact H1.out.1)
              clear IT ht
              go_wp2_with fail
              go_round
              case rel => exact ⟨q1, r1, i, by go_num, by go_num, by go_num, HX⟩
              case measure => simp [intOf]
            · have IT1 : (N : Int) % 2 = 1 := by omega
              subst ht
              clear IT
              obtain ⟨A1, hA1⟩ : ∃ n, a / c = n := ⟨_, rfl⟩
              obtain ⟨A2, hA2⟩ : ∃ n, a % c = n := ⟨_, rfl⟩
              have iA1 : (a : Int) / (c : Int) = (A1 : Int) := by rw [cast_div, hA1]
              have iA2 : (a : Int) % (c : Int) = (A2 : Int) := by rw [← hA2]; rfl
              have bA1 : (A1 : Int) ≤ 9223372036854775808 := by have h : a / c ≤ a := Nat.div_le_self _ _; have := FF.out.1; omega
              have bA2 : (A2 : Int) ≤ 9223372036854775806 := by have h : a % c < c := Nat.mod_lt _ FF.out.2.2.1; have := FF.out.2.2.2; omega
              have HA := Lib.hid (show a / c = A1 ∧ a % c = A2 from ⟨hA1, hA2⟩)
              clear hA1 hA2
              by_cases hD : 9223372036854775808 - (q1 : Int) < (A1 : Int)
              · have HB := Lib.hid (show Big a b c by
                  have h := half_big HBIT.out H1.out.1 HA.out.1 (by omega)
                  rw [← HN.out] at h
                  exact big_of h)
                go_wp2_with fail
                go_ret3
                exact ⟨0, 0, false, rfl, rfl, .inr ⟨rfl, rfl, rfl, HB.out⟩⟩
              · obtain ⟨Q3, hQ3⟩ : ∃ n, q1 + A1 = n := ⟨_, rfl⟩
                obtain ⟨R3, hR3⟩ : ∃ n, r1 + A2 = n := ⟨_, rfl⟩
                have eQ3 : (q1 : Int) + (A1 : Int) = (Q3 : Int) := by omega
                have eR3 : (r1 : Int) + (A2 : Int) = (R3 : Int) := by omega
                have bQ3 : (Q3 : Int) ≤ 9223372036854775808 := by omega
                have bR3 : (R3 : Int) ≤ 18446744073709551612 := by omega
                by_cases hS : (c : Int) ≤ (R3 : Int)
                · obtain ⟨q3, hq3⟩ : ∃ n, Q3 + 1 = n := ⟨_, rfl⟩
                  obtain ⟨r3, hr3⟩ : ∃ n, n + c = R3 := ⟨R3 - c, by omega⟩
                  have e5 : (Q3 : Int) + 1 = (q3 : Int) := by omega
                  have e6 : (R3 : Int) - (c : Int) = (r3 : Int) := by omega
                  have H2 := Lib.hid (half_two (q2 := q3) (r2 := r3) HBIT.out H1.out.1 H1.out.2 HA.out.1 HA.out.2 (.inl ⟨by omega, by omega, by omega⟩))
                  have b5 : (q3 : Int) ≤ 9223372036854775809 := by omega
                  clear hQ3 hR3 hq3 hr3
                  by_cases hE : (9223372036854775808 : Int) < (q3 : Int)
                  · have HB := Lib.hid (show Big a b c by
                      refine big_of (i := i) ?_
                      rw [HN.out, H2.out.1]
                      have : 9223372036854775809 * c ≤ q3 * c := Nat.mul_le_mul_right _ (by omega)
                      omega)
                    go_wp2_with fail
                    go_ret3
                    exact ⟨0, 0, false, rfl, rfl, .inr ⟨rfl, rfl, rfl, HB.out⟩⟩
                  · have HX := Lib.hid (show i ≤ 64 ∧ a * (b / 2 ^ i) = q3 * c + r3 ∧ r3 < c ∧ q3 ≤ 9223372036854775808 from ⟨by omega, by rw [HN.out]; exact H2.out.1, H2.out.2, by omega⟩)
                    go_wp2_with fail
                    go_round
                    case rel => exact ⟨q3, r3, i, by go_num, by go_num, by go_num, HX⟩
                    case measure => simp [intOf]
                · have H2 := Lib.hid (half_two (q2 := Q3) (r2 := R3) HBIT.out H1.out.1 H1.out.2 HA.out.1 HA.out.2 (.inr ⟨by omega, by omega, by omega⟩))
                  have hE : ¬ (9223372036854775808 : Int) < (Q3 : Int) := by omega
                  have HX := Lib.hid (show i ≤ 64 ∧ a * (b / 2 ^ i) = Q3 * c + R3 ∧ R3 < c ∧ Q3 ≤ 9223372036854775808 from ⟨by omega, by rw [HN.out]; exact H2.out.1, H2.out.2, by omega⟩)
                  clear hQ3 hR3
                  go_wp2_with fail
                  go_round
                  case rel => exact ⟨Q3, R3, i, by go_num, by go_num, by go_num, HX⟩
                  case measure => simp [intOf]
        · subst s2
          subst s3
          have iS : ¬ (c : Int) ≤ (r1 : Int) := by omega
          clear s1
          by_cases hC : (9223372036854775808 : Int) < (q1 : Int)
          · have HB := Lib.hid (show Big a b c by
              have h := big_lift HBIT.out (X := q1) (by omega) (by rw [H1.out.1]; omega)
              rw [← HN.out] at h
              exact big_of h)
            go_wp2_with fail
            go_ret3
            exact ⟨0, 0, false, rfl, rfl, .inr ⟨rfl, rfl, rfl, HB.out⟩⟩
          · rcases TT.out with ht | ht
            · have IT0 : (N : Int) % 2 = 0 := by omega
              have HX := Lib.hid (show i ≤ 64 ∧ a * (b / 2 ^ i) = q1 * c + r1 ∧ r1 < c ∧ q1 ≤ 9223372036854775808 by
                refine ⟨by omega, ?_, H1.out.2, by omega⟩
                rw [HN.out, HBIT.out.tw, ht, Nat.add_zero]; exact H1.out.1)
              clear IT ht
              go_wp2_with fail
              go_round
              case rel => exact ⟨q1, r1, i, by go_num, by go_num, by go_num, HX⟩
              case measure => simp [intOf]
            · have IT1 : (N : Int) % 2 = 1 := by omega
              subst ht
              clear IT
              obtain ⟨A1, hA1⟩ : ∃ n, a / c = n := ⟨_, rfl⟩
              obtain ⟨A2, hA2⟩ : ∃ n, a % c = n := ⟨_, rfl⟩
              have iA1 : (a : Int) / (c : Int) = (A1 : Int) := by rw [cast_div, hA1]
              have iA2 : (a : Int) % (c : Int) = (A2 : Int) := by rw [← hA2]; rfl
              have bA1 : (A1 : Int) ≤ 9223372036854775808 := by have h : a / c ≤ a := Nat.div_le_self _ _; have := FF.out.1; omega
              have bA2 : (A2 : Int) ≤ 9223372036854775806 := by have h : a % c < c := Nat.mod_lt _ FF.out.2.2.1; have := FF.out.2.2.2; omega
              have HA := Lib.hid (show a / c = A1 ∧ a % c = A2 from ⟨hA1, hA2⟩)
              clear hA1 hA2
              by_cases hD : 9223372036854775808 - (q1 : Int) < (A1 : Int)
              · have HB := Lib.hid (show Big a b c by
                  have h := half_big HBIT.out H1.out.1 HA.out.1 (by omega)
                  rw [← HN.out] at h
                  exact big_of h)
                go_wp2_with fail
                go_ret3
                exact ⟨0, 0, false, rfl, rfl, .inr ⟨rfl, rfl, rfl, HB.out⟩⟩
              · obtain ⟨Q3, hQ3⟩ : ∃ n, q1 + A1 = n := ⟨_, rfl⟩
                obtain ⟨R3, hR3⟩ : ∃ n, r1 + A2 = n := ⟨_, rfl⟩
                have eQ3 : (q1 : Int) + (A1 : Int) = (Q3 : Int) := by omega
                have eR3 : (r1 : Int) + (A2 : Int) = (R3 : Int) := by omega
                have bQ3 : (Q3 : Int) ≤ 9223372036854775808 := by omega
                have bR3 : (R3 : Int) ≤ 18446744073709551612 := by omega
                by_cases hS : (c : Int) ≤ (R3 : Int)
                · obtain ⟨q3, hq3⟩ : ∃ n, Q3 + 1 = n := ⟨_, rfl⟩
                  obtain ⟨r3, hr3⟩ : ∃ n, n + c = R3 := ⟨R3 - c, by omega⟩
                  have e5 : (Q3 : Int) + 1 = (q3 : Int) := by omega
                  have e6 : (R3 : Int) - (c : Int) = (r3 : Int) := by omega
                  have H2 := Lib.hid (half_two (q2 := q3) (r2 := r3) HBIT.out H1.out.1 H1.out.2 HA.out.1 HA.out.2 (.inl ⟨by omega, by omega, by omega⟩))
                  have b5 : (q3 : Int) ≤ 9223372036854775809 := by omega
                  clear hQ3 hR3 hq3 hr3
                  by_cases hE : (9223372036854775808 : Int) < (q3 : Int)
                  · have HB := Lib.hid (show Big a b c by
                      refine big_of (i := i) ?_
                      rw [HN.out, H2.out.1]
                      have : 9223372036854775809 * c ≤ q3 * c := Nat.mul_le_mul_right _ (by omega)
                      omega)
                    go_wp2_with fail
                    go_ret3
                    exact ⟨0, 0, false, rfl, rfl, .inr ⟨rfl, rfl, rfl, HB.out⟩⟩
                  · have HX := Lib.hid (show i ≤ 64 ∧ a * (b / 2 ^ i) = q3 * c + r3 ∧ r3 < c ∧ q3 ≤ 9223372036854775808 from ⟨by omega, by rw [HN.out]; exact H2.out.1, H2.out.2, by omega⟩)
                    go_wp2_with fail
                    go_round
                    case rel => exact ⟨q3, r3, i, by go_num, by go_num, by go_num, HX⟩
                    case measure => simp [intOf]
                · have H2 := Lib.hid (half_two (q2 := Q3) (r2 := R3) HBIT.out H1.out.1 H1.out.2 HA.out.1 HA.out.2 (.inr ⟨by omega, by omega, by omega⟩))
                  have hE : ¬ (9223372036854775808 : Int) < (Q3 : Int) := by omega
                  have HX := Lib.hid (show i ≤ 64 ∧ a * (b / 2 ^ i) = Q3 * c + R3 ∧ R3 < c ∧ Q3 ≤ 9223372036854775808 from ⟨by omega, by rw [HN.out]; exact H2.out.1, H2.out.2, by omega⟩)
                  clear hQ3 hR3
                  go_wp2_with fail
                  go_round
                  case rel => exact ⟨Q3, R3, i, by go_num, by go_num, by go_num, HX⟩
                  case measure => simp [intOf]
end Go.Proofs.YtedcimjhhcepmaaDoor
