/- The contracts of the reference's part and Toward. -/
import Derived.Test.YtedcimjhhcepmaaDoorLaid
set_option linter.unusedVariables false
set_option linter.unusedSimpArgs false
namespace Go.Proofs.YtedcimjhhcepmaaDoor
open Go.ChangeShapes Go.WideShapes Go.ChangeAt Go.RowKit Um

def pt (u k : Nat) : Nat := if k = 0 ∨ u = 0 then 0 else st u k
theorem part_eq (u k A B : Nat) (hA : u / 10000 = A) (hB : u % 10000 = B) : A * k + B * k / 10000 = u * k / 10000 := by
  have h : u = 10000 * A + B := by omega
  have e : u * k = B * k + 10000 * (A * k) := by rw [h, Nat.add_mul, Nat.mul_assoc]; omega
  rw [e, Nat.add_mul_div_left _ _ (by omega)]; omega
theorem pt_le {u k : Nat} (hk : k ≤ 10000) : pt u k ≤ u := by
  unfold pt; by_cases h : k = 0 ∨ u = 0
  · rw [if_pos h]; omega
  · rw [if_neg h]; exact (st_bd (by omega) (by omega) hk).2
set_option maxHeartbeats 800000 in
theorem rpart_is (u k v : Nat) (hv : Hid (pt u k = v)) (hu : u < 18446744073709551616) (hk : k ≤ 10000) (w : World) :
    Calls Tryd.prog 40 #[.int .u64 (u : Int), .int .u64 (k : Int)] w fun e w' => e = .returned (.int .u64 (v : Int)) ∧ w = w' := by
  obtain ⟨A, hA⟩ : ∃ A, u / 10000 = A := ⟨_, rfl⟩
  obtain ⟨B, hB⟩ : ∃ A, u % 10000 = A := ⟨_, rfl⟩
  obtain ⟨d, hd⟩ : ∃ d, u * k / 10000 = d := ⟨_, rfl⟩
  obtain ⟨X, hX⟩ : ∃ X, A * k = X := ⟨_, rfl⟩
  obtain ⟨Y, hY⟩ : ∃ Y, B * k = Y := ⟨_, rfl⟩
  have pe := part_eq u k A B hA hB
  rw [hd, hX, hY] at pe
  have iA : (u : Int) / 10000 = A := by omega
  have iB : (u : Int) % 10000 = B := by omega
  have iX : (A : Int) * (k : Int) = X := by rw [← hX]; push_cast; rfl
  have iY : (B : Int) * (k : Int) = Y := by rw [← hY]; push_cast; rfl
  have bX : X ≤ 18446744073709550000 := by
    have : A * k ≤ 1844674407370955 * 10000 := Nat.mul_le_mul (by omega) hk
    omega
  have bY : Y ≤ 99990000 := by
    have : B * k ≤ 9999 * 10000 := Nat.mul_le_mul (by omega) hk
    omega
  have bd : d ≤ u := by
    have : u * k ≤ u * 10000 := Nat.mul_le_mul_left _ hk
    omega
  have jX : (X : Int) ≤ 18446744073709550000 := by omega
  have jY : (Y : Int) ≤ 99990000 := by omega
  have jd : (X : Int) + (Y : Int) / 10000 = d := by omega
  have wd : IntKind.u64.wrap (d : Int) = d := wrapn rfl (by omega)
  have wA : IntKind.u64.wrap (A : Int) = A := wrapn rfl (by omega)
  have wX : IntKind.u64.wrap (X : Int) = X := wrapn rfl (by omega)
  have HP := Lib.hid (show pt u k = (if k = 0 ∨ u = 0 then 0 else if d = 0 then 1 else d) by unfold pt st; rw [hd])
  have V := Lib.hid (show (v : Int) = (if k = 0 ∨ u = 0 then 0 else if d = 0 then 1 else d : Nat) by rw [← hv.out, HP.out])
  have Z := Lib.hid (show (k = 0 ∨ u = 0) → d = 0 by rintro (h | h) <;> (rw [← hd, h]; simp))
  have FF := Lib.hid (show u < 18446744073709551616 from hu)
  clear hv HP hA hB hX hY pe bX bY bd hd hu
  by_cases h1 : k = 0
  · have i1 : ¬ 0 < (k : Int) := by omega
    have e := Lib.hid (show (v : Int) = (d : Int) by rw [V.out, if_pos (.inl h1), Z.out (.inl h1)])
    clear V Z h1
    go_enter Tryd.func40, Tryd.ntmps40
    go_wp2_with fail
    go_ret
    exact ⟨ret_int e.out.symm, rfl⟩
  · have i1 : 0 < (k : Int) := by omega
    by_cases h2 : u = 0
    · have i2 : ¬ 0 < (u : Int) := by omega
      have e := Lib.hid (show (v : Int) = (d : Int) by rw [V.out, if_pos (.inr h2), Z.out (.inr h2)])
      clear V Z h1 h2
      go_enter Tryd.func40, Tryd.ntmps40
      go_wp2_with fail
      go_ret
      exact ⟨ret_int e.out.symm, rfl⟩
    · have i2 : 0 < (u : Int) := by omega
      by_cases h3 : d = 0
      · have i3 : ((d : Int) == 0) = true := by rw [beq_iff_eq]; omega
        have e := Lib.hid (show (v : Int) = 1 by rw [V.out, if_neg (by omega), if_pos h3]; rfl)
        clear V Z h1 h2 h3
        go_enter Tryd.func40, Tryd.ntmps40
        go_wp2_with fail
        go_ret
        exact ⟨ret_int e.out.symm, rfl⟩
      · have i3 : ((d : Int) == 0) = false := by rw [beq_eq_false_iff_ne]; omega
        have e := Lib.hid (show (v : Int) = (d : Int) by rw [V.out, if_neg (by omega), if_neg h3])
        clear V Z h1 h2 h3
        go_enter Tryd.func40, Tryd.ntmps40
        go_wp2_with fail
        go_ret
        exact ⟨ret_int e.out.symm, rfl⟩

theorem rClamp_is (k : Int) (K : Nat) (h : Hid (clamp k 0 10000 = (K : Int))) (w : World) : Calls Tryd.prog 20 #[.int .i64 k, .int .i64 0, .int .i64 10000] w fun e w' => e = .returned (.int .i64 (K : Int)) ∧ w = w' :=
  (rClamp_c k 0 10000 w).mono fun _ _ ⟨a, b⟩ => ⟨by rw [a, h.out], b⟩
theorem tw_pt (a b k : Int) (K : Nat) (hK : clamp k 0 10000 = K) : tw a b k = if b < a then a - (pt (a - b).toNat K : Nat) else a + (pt (b - a).toNat K : Nat) := by
  unfold tw pt
  rw [hK, Int.toNat_natCast]
  by_cases h0 : K = 0
  · subst h0; simp
  · by_cases hab : a = b
    · subst hab; simp
    · rw [if_neg (by omega)]
      by_cases h : b < a
      · rw [if_pos h, if_pos h, if_neg (by omega)]
      · rw [if_neg h, if_neg h, if_neg (by omega)]
set_option maxHeartbeats 800000 in
theorem rToward_is (a b k v : Int) (hv : Hid (tw a b k = v)) (w : World) (fa : Fit a) (fb : Fit b) :
    Calls Tryd.prog 22 #[.int .i64 a, .int .i64 b, .int .i64 k] w fun e w' => e = .returned (.int .i64 v) ∧ w = w' := by
  have ck := clamp_k k
  obtain ⟨K, hK⟩ := Int.eq_ofNat_of_zero_le ck.1
  have HK := Lib.hid hK
  have hKb : K ≤ 10000 := by omega
  have ht := tw_pt a b k K hK
  rw [hv.out] at ht
  clear hv
  obtain ⟨a1, a2⟩ := fa
  obtain ⟨b1, b2⟩ := fb
  by_cases hlt : b < a
  · obtain ⟨D, hD⟩ := Int.eq_ofNat_of_zero_le (show 0 ≤ a - b by omega)
    obtain ⟨S, hS⟩ : ∃ S, pt D K = S := ⟨_, rfl⟩
    have sb := pt_le (u := D) (k := K) hKb
    rw [hS] at sb
    rw [if_pos hlt, hD, Int.toNat_natCast, hS] at ht
    have e := Lib.hid ht
    have HS := Lib.hid hS
    have HDl := Lib.hid hD
    have FF := Lib.hid (show D < 18446744073709551616 ∧ S < 18446744073709551616 ∧ Fit (a - (S : Int)) ∧ K ≤ 10000 from ⟨by omega, by omega, by unfold Fit; omega, hKb⟩)
    have uK : IntKind.u64.wrap (K : Int) = K := wrapn rfl (by omega)
    clear hK ck hD hS sb a1 a2 b1 b2 ht
    go_enter Tryd.func22, Tryd.ntmps22
    go_wp2_with fail
    refine (rClamp_is k K HK _).mono ?_; rintro e1 w' ⟨rfl, rfl⟩
    go_wp2_with fail
    rw [usub HDl.out FF.out.1]
    refine (rpart_is D K S HS FF.out.1 FF.out.2.2.2 _).mono ?_; rintro e1 w2 ⟨rfl, rfl⟩
    go_wp2_with fail
    go_ret
    exact ⟨ret_int (by rw [e.out]; exact back_sub FF.out.2.2.1 FF.out.2.1), rfl⟩
  · obtain ⟨D, hD⟩ := Int.eq_ofNat_of_zero_le (show 0 ≤ b - a by omega)
    obtain ⟨S, hS⟩ : ∃ S, pt D K = S := ⟨_, rfl⟩
    have sb := pt_le (u := D) (k := K) hKb
    rw [hS] at sb
    rw [if_neg hlt, hD, Int.toNat_natCast, hS] at ht
    have e := Lib.hid ht
    have HS := Lib.hid hS
    have HDl := Lib.hid hD
    have FF := Lib.hid (show D < 18446744073709551616 ∧ S < 18446744073709551616 ∧ Fit (a + (S : Int)) ∧ K ≤ 10000 from ⟨by omega, by omega, by unfold Fit; omega, hKb⟩)
    have uK : IntKind.u64.wrap (K : Int) = K := wrapn rfl (by omega)
    clear hK ck hD hS sb a1 a2 b1 b2 ht
    go_enter Tryd.func22, Tryd.ntmps22
    go_wp2_with fail
    refine (rClamp_is k K HK _).mono ?_; rintro e1 w' ⟨rfl, rfl⟩
    go_wp2_with fail
    rw [usub HDl.out FF.out.1]
    refine (rpart_is D K S HS FF.out.1 FF.out.2.2.2 _).mono ?_; rintro e1 w2 ⟨rfl, rfl⟩
    go_wp2_with fail
    go_ret
    exact ⟨ret_int (by rw [e.out]; exact back_add FF.out.2.2.1 FF.out.2.1), rfl⟩
end Go.Proofs.YtedcimjhhcepmaaDoor
