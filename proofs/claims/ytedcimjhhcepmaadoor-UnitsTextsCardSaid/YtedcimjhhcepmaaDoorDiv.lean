/- The contract of math/bits.Div64 where the quotient fits: the library's own text, walked. -/
import Derived.Test.YtedcimjhhcepmaaDoorWalkA
import Derived.Test.YtedcimjhhcepmaaDoorDivMath
import Derived.Test.YtedcimjhhcepmaaDoorShelf
import Derived.Laws.Bits64b
import Derived.Laws.ShiftsVar
import Derived.Laws.ShiftsVarLaws
import Derived.Deep.DeepCutAuto
set_option linter.unusedVariables false
set_option linter.unusedSimpArgs false
namespace Go.Proofs.YtedcimjhhcepmaaDoor
open Go.ChangeShapes Go.WideShapes Go.ChangeAt Go.RowKit Um

/-- what a round of the digit's loop keeps -/
def Rel (y1 y0 U u1 : Nat) (v15 v16 : Value) : Prop := ∃ q r : Nat, v15 = .int .u64 (q : Int) ∧ v16 = .int .u64 (r : Int) ∧ Hid (r < 4294967296 ∧ Dig 4294967296 y1 y0 U u1 q r)
set_option maxRecDepth 100000 in
set_option maxHeartbeats 1600000 in
theorem Div64_big (hi lo y : Nat) (w : World) (hlo : lo < 18446744073709551616) (hy : y < 18446744073709551616) (h : hi < y) (hh : 0 < hi) :
    Calls Tryd.prog 35 #[.int .u64 hi, .int .u64 lo, .int .u64 y] w fun e w' => e = .returned (.tuple #[.int .u64 (((hi * 18446744073709551616 + lo) / y : Nat) : Int), .int .u64 (((hi * 18446744073709551616 + lo) % y : Nat) : Int)]) ∧ Q w w' := by
  have hy0 : ((y : Int) == 0) = false := by simp; omega
  have hh0 : ((hi : Int) == 0) = false := by simp; omega
  go_enter Tryd.func35, Tryd.ntmps35
  go_wp2_with fail
  refine (Tryd.bits_LeadingZeros64 y w (by omega) (by omega)).mono ?_
  rintro e w' ⟨rfl, rfl⟩
  obtain ⟨s, hs1, hs2, hY1, hY2⟩ := lead y (by omega) hy
  have up := upper hi lo y s h hlo (by omega)
  obtain ⟨Y, hY⟩ : ∃ Y, y * 2 ^ s = Y := ⟨_, rfl⟩
  rw [Int.toNat_natCast, hs1]
  have HS1 := Lib.hid hs1
  clear hs1
  go_upto_region 9 with (fail)
  rw [wrapn ((cast_shl y s).trans (congrArg Nat.cast hY)) (by omega)]
  have HY := Lib.hid hY
  have HU := Lib.hid up
  rw [hY] at hY1 hY2
  clear hY up
  go_upto_region 15 with (fail)
  obtain ⟨U, hU⟩ : ∃ U, hi * 2 ^ s + lo / 2 ^ (64 - s) = U := ⟨_, rfl⟩
  obtain ⟨L, hL⟩ : ∃ L, lo * 2 ^ s % 18446744073709551616 = L := ⟨_, rfl⟩
  have hUY : U < Y := by have := HU.out.1; rw [hU, HY.out] at this; exact this
  have hLb : L < 18446744073709551616 := by rw [← hL]; exact Nat.mod_lt _ (by omega)
  have hA : hi * 2 ^ s < 18446744073709551616 := Nat.lt_of_le_of_lt (Nat.le_add_right _ (lo / 2 ^ (64 - s))) (by rw [hU]; omega)
  have hB : lo / 2 ^ (64 - s) < 18446744073709551616 := Nat.lt_of_le_of_lt (Nat.div_le_self _ _) hlo
  rw [wrapn (cast_shl hi s) hA, cast_shr lo (64 - s), orn hA hB, or_add hi s _ HU.out.2.2, hU, wrapm (cast_shl lo s), hL, divn L, divn Y, maskn hLb, maskn hY2]
  obtain ⟨y1, hy1⟩ : ∃ y1, Y / 4294967296 = y1 := ⟨_, rfl⟩
  obtain ⟨y0, hy0'⟩ : ∃ y0, Y % 4294967296 = y0 := ⟨_, rfl⟩
  obtain ⟨u1, hu1⟩ : ∃ u1, L / 4294967296 = u1 := ⟨_, rfl⟩
  obtain ⟨u0, hu0⟩ : ∃ u0, L % 4294967296 = u0 := ⟨_, rfl⟩
  rw [hy1, hy0', hu1, hu0]
  have HYd := Lib.hid (show Y = y1 * 4294967296 + y0 by omega)
  have HLd := Lib.hid (show L = u1 * 4294967296 + u0 by omega)
  have HUd := Lib.hid hU
  have HLe := Lib.hid hL
  have b1 : 2147483648 ≤ y1 := by omega
  have b2 : y1 < 4294967296 := by omega
  have b3 : y0 < 4294967296 := by omega
  have b4 : u1 < 4294967296 := by omega
  have b5 : u0 < 4294967296 := by omega
  clear hU hL hy1 hy0' hu1 hu0
  have b6 : ((y1 : Int) == 0) = false := by simp; omega
  have b7 : ¬ (y1 : Int) = 0 := by omega
  clear hA hB
  go_upto_region 16 with (fail)
  obtain ⟨q, hq⟩ : ∃ q, U / y1 = q := ⟨_, rfl⟩
  obtain ⟨r, hr⟩ : ∃ r, U % y1 = r := ⟨_, rfl⟩
  have hqr : q * y1 + r = U := by have := Nat.div_add_mod U y1; rw [hq, hr, Nat.mul_comm] at this; exact this
  have hqb : q < 18446744073709551616 := by rw [← hq]; exact Nat.lt_of_le_of_lt (Nat.div_le_self _ _) (by omega)
  have hrb : r < 4294967296 := by rw [← hr]; exact Nat.lt_trans (Nat.mod_lt _ (by omega)) b2
  have D0 := Lib.hid (show Dig 4294967296 y1 y0 U u1 q r by
    rw [← hq, ← hr]; exact dig_start rfl b1 b3 (by have := HYd.out; omega) b4)
  rw [cast_div U y1, hq, wrapn rfl hqb]
  have HQR := Lib.hid hqr
  clear hqr hq hr
  obtain ⟨Q1, hQ1⟩ : ∃ Q1, (U * 4294967296 + u1) / (y1 * 4294967296 + y0) = Q1 := ⟨_, rfl⟩
  have HQ1 := Lib.hid hQ1
  have FB := Lib.hid (show 2147483648 ≤ y1 ∧ y1 < 4294967296 ∧ y0 < 4294967296 ∧ u1 < 4294967296 ∧ u0 < 4294967296 ∧ U < Y ∧ Y < 18446744073709551616 ∧ hi < y ∧ lo < 18446744073709551616 ∧ s < 63 from
    ⟨b1, b2, b3, b4, b5, hUY, hY2, h, hlo, hs2⟩)
  have D1 := Lib.hid (show r < 4294967296 ∧ Dig 4294967296 y1 y0 U u1 q r from ⟨hrb, D0.out⟩)
  clear hQ1
  go_upto_block 0 with (fail)
  rw [restn (by omega) HQR.out]
  clear hrb D0 hqb b1 b2 b3 b4 b5 hlo hy hY1 hY2 hLb hUY h hh hs2 hy0 hh0 b6
  go_cut [15] (fun s15 wx => s15 = .int .u64 (Q1 : Int) ∧ w' = wx)
  case first =>
    go_wp2_with fail
    go_loop [15, 16] (fun v15 v16 => Rel y1 y0 U u1 v15 v16) (fun _ v16 => mea (intOf v16))
    case atStart => exact ⟨q, r, rfl, rfl, D1⟩
    case round =>
      clear D1
      obtain ⟨q, r, rfl, rfl, HD⟩ := hrel
      have hY0 : 0 < y1 * 4294967296 + y0 := by have := FB.out.1; omega
      have top := HD.out.2.top
      have i9 : (r : Int) ≤ 4294967295 := by have := HD.out.1; omega
      have i8 : (y1 : Int) ≤ 4294967295 := by have := FB.out; omega
      have i7 : (q : Int) ≤ 4294967297 := by omega
      have i6 : (u1 : Int) ≤ 4294967295 := by have := FB.out; omega
      by_cases hb : 4294967296 ≤ q
      · have HDD := Lib.hid (dig_down rfl HD.out.2 hY0 (by have := HYd.out; have := FB.out; omega) (by have := FB.out; omega) (.inl hb))
        have i1 : (4294967296 : Int) ≤ (q : Int) := by omega
        by_cases hr2 : 4294967296 ≤ r + y1
        · have HE := Lib.hid (dig_end rfl HDD.out.2 hY0 (by have := FB.out; omega) (.inr ⟨hr2, by omega⟩))
          have i2 : (4294967296 : Int) ≤ (r : Int) + (y1 : Int) := by omega
          clear hb hr2 hY0 top
          go_wp2_with fail
          go_meet
          exact ⟨by rw [minus_one HDD.out.1 (HE.out.trans HQ1.out)], rfl⟩
        · have i2 : ¬ (4294967296 : Int) ≤ (r : Int) + (y1 : Int) := by omega
          have HN := Lib.hid (show r + y1 < 4294967296 ∧ Dig 4294967296 y1 y0 U u1 (q - 1) (r + y1) from ⟨by omega, HDD.out.2⟩)
          clear hb hr2 hY0 top
          go_wp2_with fail
          go_round
          case rel => exact ⟨q - 1, r + y1, by rw [minus_one HDD.out.1 rfl], by go_num, HN⟩
          case measure => simp [intOf]; exact mea_lt HN.out.1 (by have := FB.out; omega)
      · obtain ⟨p, hp⟩ : ∃ p, q * y0 = p := ⟨_, rfl⟩
        have hpi : (q : Int) * (y0 : Int) = (p : Int) := by rw [← hp]; simp
        have hpb : p ≤ 18446744065119617025 := by
          rw [← hp]; exact Nat.mul_le_mul (show q ≤ 4294967295 by omega) (show y0 ≤ 4294967295 by have := FB.out; omega)
        have i5 : (p : Int) ≤ 18446744065119617025 := by omega
        have HP := Lib.hid hp
        have i1 : ¬ (4294967296 : Int) ≤ (q : Int) := by omega
        by_cases hl : 4294967296 * r + u1 < p
        · have HDD := Lib.hid (dig_down rfl HD.out.2 hY0 (by have := HYd.out; have := FB.out; omega) (by have := FB.out; omega) (.inr (by rw [HP.out]; exact hl)))
          have i3 : 4294967296 * (r : Int) + (u1 : Int) < (p : Int) := by omega
          have i4 : 1 ≤ (q : Int) := by have := HDD.out.1; omega
          by_cases hr2 : 4294967296 ≤ r + y1
          · have HE := Lib.hid (dig_end rfl HDD.out.2 hY0 (by have := FB.out; omega) (.inr ⟨hr2, by omega⟩))
            have i2 : (4294967296 : Int) ≤ (r : Int) + (y1 : Int) := by omega
            clear hb hr2 hY0 top hp hpb hl
            go_wp2_with fail
            go_meet
            exact ⟨by rw [minus_one HDD.out.1 (HE.out.trans HQ1.out)], rfl⟩
          · have i2 : ¬ (4294967296 : Int) ≤ (r : Int) + (y1 : Int) := by omega
            have HN := Lib.hid (show r + y1 < 4294967296 ∧ Dig 4294967296 y1 y0 U u1 (q - 1) (r + y1) from ⟨by omega, HDD.out.2⟩)
            clear hb hr2 hY0 top hp hpb hl
            go_wp2_with fail
            go_round
            case rel => exact ⟨q - 1, r + y1, by rw [minus_one HDD.out.1 rfl], by go_num, HN⟩
            case measure => simp [intOf]; exact mea_lt HN.out.1 (by have := FB.out; omega)
        · have HE := Lib.hid (dig_end rfl HD.out.2 hY0 (by have := FB.out; omega) (.inl (by unfold Low; rw [HP.out]; omega)))
          have i3 : decide (4294967296 * (r : Int) + (u1 : Int) < (p : Int)) = false := decide_eq_false (by omega)
          clear hb hY0 top hp hpb hl
          go_wp2_with fail
          go_meet
          exact ⟨by rw [HE.out.trans HQ1.out], rfl⟩
  case rest =>
    obtain ⟨rfl, rfl⟩ := hcut
    clear HQR D1
    obtain ⟨R1, hR1⟩ : ∃ R1, (U * 4294967296 + u1) % (y1 * 4294967296 + y0) = R1 := ⟨_, rfl⟩
    have hN1 : U * 4294967296 + u1 = Q1 * Y + R1 := by
      have := Nat.div_add_mod (U * 4294967296 + u1) (y1 * 4294967296 + y0)
      rw [HQ1.out, hR1, ← HYd.out, Nat.mul_comm] at this; exact this.symm
    have hRY : R1 < Y := by rw [← hR1, ← HYd.out]; exact Nat.mod_lt _ (by have := FB.out; omega)
    have HR1 := Lib.hid hR1
    have HN1 := Lib.hid hN1
    have HRY := Lib.hid hRY
    clear hR1 hN1 hRY
    go_upto_region 22 with (fail)
    rw [rem_wrap HN1.out (by have := HRY.out; have := FB.out; omega)]
    go_upto_region 23 with (fail)
    obtain ⟨q2, hq2⟩ : ∃ q2, R1 / y1 = q2 := ⟨_, rfl⟩
    obtain ⟨r2, hr2⟩ : ∃ r2, R1 % y1 = r2 := ⟨_, rfl⟩
    have hqr2 : q2 * y1 + r2 = R1 := by have := Nat.div_add_mod R1 y1; rw [hq2, hr2, Nat.mul_comm] at this; exact this
    have hq2b : q2 < 18446744073709551616 := by rw [← hq2]; exact Nat.lt_of_le_of_lt (Nat.div_le_self _ _) (by have := HRY.out; have := FB.out; omega)
    have D2 := Lib.hid (show r2 < 4294967296 ∧ Dig 4294967296 y1 y0 R1 u0 q2 r2 by
      rw [← hq2, ← hr2]; exact ⟨Nat.lt_trans (Nat.mod_lt _ (by have := FB.out; omega)) FB.out.2.1, dig_start rfl FB.out.1 FB.out.2.2.1 (by have := HYd.out; have := HRY.out; omega) FB.out.2.2.2.2.1⟩)
    rw [cast_div R1 y1, hq2, wrapn rfl hq2b]
    have HQR2 := Lib.hid hqr2
    clear hqr2 hq2 hr2 hq2b
    obtain ⟨Q0, hQ0⟩ : ∃ Q0, (R1 * 4294967296 + u0) / (y1 * 4294967296 + y0) = Q0 := ⟨_, rfl⟩
    have HQ0 := Lib.hid hQ0
    clear hQ0
    go_upto_block 2 with (fail)
    rw [restn (by have := HRY.out; have := FB.out; omega) HQR2.out]
    go_cut [18, 16] (fun s18 s16 wx => s18 = .int .u64 (Q0 : Int) ∧ w' = wx)
    case first =>
      go_wp2_with fail
      go_loop [18, 16] (fun v15 v16 => Rel y1 y0 R1 u0 v15 v16) (fun _ v16 => mea (intOf v16))
      case atStart => exact ⟨q2, r2, rfl, rfl, D2⟩
      case round =>
        clear D2
        obtain ⟨q, r, rfl, rfl, HD⟩ := hrel
        have hY0 : 0 < y1 * 4294967296 + y0 := by have := FB.out.1; omega
        have top := HD.out.2.top
        have i9 : (r : Int) ≤ 4294967295 := by have := HD.out.1; omega
        have i8 : (y1 : Int) ≤ 4294967295 := by have := FB.out; omega
        have i7 : (q : Int) ≤ 4294967297 := by omega
        have i6 : (u0 : Int) ≤ 4294967295 := by have := FB.out; omega
        by_cases hb : 4294967296 ≤ q
        · have HDD := Lib.hid (dig_down rfl HD.out.2 hY0 (by have := HYd.out; have := FB.out; have := HRY.out; omega) (by have := FB.out; omega) (.inl hb))
          have i1 : (4294967296 : Int) ≤ (q : Int) := by omega
          by_cases hr2 : 4294967296 ≤ r + y1
          · have HE := Lib.hid (dig_end rfl HDD.out.2 hY0 (by have := FB.out; omega) (.inr ⟨hr2, by omega⟩))
            have i2 : (4294967296 : Int) ≤ (r : Int) + (y1 : Int) := by omega
            clear hb hr2 hY0 top
            go_wp2_with fail
            go_meet
            exact ⟨by rw [minus_one HDD.out.1 (HE.out.trans HQ0.out)], rfl⟩
          · have i2 : ¬ (4294967296 : Int) ≤ (r : Int) + (y1 : Int) := by omega
            have HN := Lib.hid (show r + y1 < 4294967296 ∧ Dig 4294967296 y1 y0 R1 u0 (q - 1) (r + y1) from ⟨by omega, HDD.out.2⟩)
            clear hb hr2 hY0 top
            go_wp2_with fail
            go_round
            case rel => exact ⟨q - 1, r + y1, by rw [minus_one HDD.out.1 rfl], by go_num, HN⟩
            case measure => simp [intOf]; exact mea_lt HN.out.1 (by have := FB.out; omega)
        · obtain ⟨p, hp⟩ : ∃ p, q * y0 = p := ⟨_, rfl⟩
          have hpi : (q : Int) * (y0 : Int) = (p : Int) := by rw [← hp]; simp
          have hpb : p ≤ 18446744065119617025 := by
            rw [← hp]; exact Nat.mul_le_mul (show q ≤ 4294967295 by omega) (show y0 ≤ 4294967295 by have := FB.out; omega)
          have i5 : (p : Int) ≤ 18446744065119617025 := by omega
          have HP := Lib.hid hp
          have i1 : ¬ (4294967296 : Int) ≤ (q : Int) := by omega
          by_cases hl : 4294967296 * r + u0 < p
          · have HDD := Lib.hid (dig_down rfl HD.out.2 hY0 (by have := HYd.out; have := FB.out; have := HRY.out; omega) (by have := FB.out; omega) (.inr (by rw [HP.out]; exact hl)))
            have i3 : 4294967296 * (r : Int) + (u0 : Int) < (p : Int) := by omega
            have i4 : 1 ≤ (q : Int) := by have := HDD.out.1; omega
            by_cases hr2 : 4294967296 ≤ r + y1
            · have HE := Lib.hid (dig_end rfl HDD.out.2 hY0 (by have := FB.out; omega) (.inr ⟨hr2, by omega⟩))
              have i2 : (4294967296 : Int) ≤ (r : Int) + (y1 : Int) := by omega
              clear hb hr2 hY0 top hp hpb hl
              go_wp2_with fail
              go_meet
              exact ⟨by rw [minus_one HDD.out.1 (HE.out.trans HQ0.out)], rfl⟩
            · have i2 : ¬ (4294967296 : Int) ≤ (r : Int) + (y1 : Int) := by omega
              have HN := Lib.hid (show r + y1 < 4294967296 ∧ Dig 4294967296 y1 y0 R1 u0 (q - 1) (r + y1) from ⟨by omega, HDD.out.2⟩)
              clear hb hr2 hY0 top hp hpb hl
              go_wp2_with fail
              go_round
              case rel => exact ⟨q - 1, r + y1, by rw [minus_one HDD.out.1 rfl], by go_num, HN⟩
              case measure => simp [intOf]; exact mea_lt HN.out.1 (by have := FB.out; omega)
          · have HE := Lib.hid (dig_end rfl HD.out.2 hY0 (by have := FB.out; omega) (.inl (by unfold Low; rw [HP.out]; omega)))
            have i3 : decide (4294967296 * (r : Int) + (u0 : Int) < (p : Int)) = false := decide_eq_false (by omega)
            clear hb hY0 top hp hpb hl
            go_wp2_with fail
            go_meet
            exact ⟨by rw [HE.out.trans HQ0.out], rfl⟩
    case rest =>
      obtain ⟨rfl, rfl⟩ := hcut
      clear HQR2 D2
      go_wp2_with fail
      obtain ⟨R2, hR2⟩ : ∃ R2, (R1 * 4294967296 + u0) % Y = R2 := ⟨_, rfl⟩
      have hY0 : 0 < Y := by have := HRY.out; omega
      have hN2 : R1 * 4294967296 + u0 = Q0 * Y + R2 := by
        have := Nat.div_add_mod (R1 * 4294967296 + u0) Y
        rw [hR2, Nat.mul_comm] at this
        rw [← HQ0.out, ← HYd.out]; exact this.symm
      have hRb : R2 < Y := by rw [← hR2]; exact Nat.mod_lt _ hY0
      have hX : (hi * 18446744073709551616 + lo) * 2 ^ s = (U * 4294967296 + u1) * 4294967296 + u0 := by
        have h1 := HU.out.2.1
        rw [HUd.out, HLe.out] at h1
        have h2 := HLd.out
        omega
      have T := two_steps (B := 4294967296) (Y := Y) (X := (hi * 18446744073709551616 + lo) * 2 ^ s) (u := U) (u1 := u1) (u0 := u0) (q1 := Q1) (q0 := Q0) (r1 := R1) hY0 hX
        (by rw [HYd.out]; exact HQ1.out.symm) (by rw [HYd.out]; exact HR1.out.symm) (by omega) (by have := FB.out; omega) (by rw [HYd.out]; exact HQ0.out.symm)
      have S := shifted (hi * 18446744073709551616 + lo) y s (by have := FB.out; omega)
      rw [HY.out, T.1, T.2, hR2] at S
      have hqb : (hi * 18446744073709551616 + lo) / y < 18446744073709551616 := by
        rw [Nat.div_lt_iff_lt_mul (by have := FB.out; omega)]
        have := FB.out
        have h3 : (hi + 1) * 18446744073709551616 ≤ y * 18446744073709551616 := Nat.mul_le_mul_right _ (by omega)
        rw [Nat.mul_comm 18446744073709551616 y]
        omega
      go_ret2
      exact ⟨ret_ii (quo_wrap S.1 hqb) (by rw [rem_wrap hN2 (by have := FB.out; omega), show min s 64 = s from by have := FB.out; omega, cast_shr R2 s, S.2]), by repeat (first | exact Q.refl _ | refine Q.drewN ?_ _ | refine Q.drew ?_ | refine Q.alloc ?_ _)⟩
end Go.Proofs.YtedcimjhhcepmaaDoor
