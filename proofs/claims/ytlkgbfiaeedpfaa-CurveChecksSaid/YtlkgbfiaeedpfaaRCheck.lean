/- The contract of the reference's Check. -/
import Derived.Test.YtlkgbfiaeedpfaaCheck
set_option linter.unusedVariables false
set_option linter.unusedSimpArgs false
namespace Go.Proofs.Ytlkgbfiaeedpfaa
open Go.ChangeShapes Go.WideShapes Go.ChangeAt Go.RowKit Cm

set_option maxRecDepth 100000 in
set_option maxHeartbeats 1600000 in
theorem rCheck_c (v : Value) (l : List P) (e : Nat) (he : Hid (chk l = e)) (w : World) (hr : RdP w v l) (hl : l.length ≤ maxLen) : Calls Try.prog 14 #[v] w fun r w' => r = .returned (.int .i64 e) ∧ Q w w' := by
  have HR := Lib.hid hr
  obtain ⟨A, c, rfl, hc, _⟩ := hr
  obtain ⟨n, hn⟩ : ∃ n, l.length = n := ⟨_, rfl⟩
  have HN := Lib.hid hn
  rw [hn] at HR
  rw [hn]
  unfold maxLen at hl
  by_cases h0 : n = 0
  · have HE := Lib.hid (show ((3 : Nat) : Int) = (e : Int) by rw [← he.out]; unfold chk; rw [if_pos (by omega)])
    have h0' : (n : Int) = 0 := by omega
    clear hc hn hl
    go_enter Try.func14, Try.ntmps14
    go_wp2_with fail
    go_ret
    exact ⟨ret_int HE.out, Q.refl _⟩
  · by_cases h1 : 16 < n
    · have HE := Lib.hid (show ((4 : Nat) : Int) = (e : Int) by rw [← he.out]; unfold chk; rw [if_neg (by omega), if_pos (by omega)])
      have h0' : ((n : Int) == 0) = false := by simp; omega
      have h1' : (16 : Int) < (n : Int) := by omega
      clear hc hn hl
      go_enter Try.func14, Try.ntmps14
      go_wp2_with fail
      go_ret
      exact ⟨ret_int HE.out, Q.refl _⟩
    · have HC := Lib.hid (show firstE (errA l) l.length = e by rw [← he.out, chk_mid (by omega) (by omega)])
      have h0' : ((n : Int) == 0) = false := by simp; omega
      have h1' : ¬ (16 : Int) < (n : Int) := by omega
      have hn6 : n ≤ 16 := by omega
      clear hc hn hl h0 h1
      go_enter Try.func14, Try.ntmps14
      go_wp2_with fail
      go_loopw [3] (fun u3 wr => ∃ k : Nat, k ≤ n ∧ u3 = .int .i64 k ∧ Hid ((∀ i, i < k → errA l i = 0) ∧ Q w wr)) (fun u3 _ => n - (intOf u3).toNat)
      case atStart => exact ⟨0, Nat.zero_le _, rfl, fun i hi => by omega, Q.refl _⟩
      case round =>
        obtain ⟨k, hk, rfl, HI⟩ := hrel
        by_cases hlt : k < n
        · have hkl : k < l.length := by rw [HN.out]; exact hlt
          obtain ⟨b, off, rfl, hb, hc, c0, c1⟩ := HR.out.at HI.out.2 hkl
          obtain ⟨x, hx⟩ : ∃ x, X l k = x := ⟨_, rfl⟩
          obtain ⟨y, hy⟩ : ∃ y, Y l k = y := ⟨_, rfl⟩
          rw [hx] at c0
          rw [hy] at c1
          obtain ⟨bx, hbx⟩ : ∃ bx, inR x = bx := ⟨_, rfl⟩
          obtain ⟨bY, hbY⟩ : ∃ bY, inR y = bY := ⟨_, rfl⟩
          have HX := Lib.hid hbx
          have HY := Lib.hid hbY
          have HXE := Lib.hid hx
          have HYE := Lib.hid hy
          clear hx hy hbx hbY
          cases bx with
          | false =>
            have HE := Lib.hid (show ((9 : Nat) : Int) = (e : Int) by rw [← HC.out, firstE_hit HI.out.1 hkl (by rw [err_nine (by rw [HXE.out, HX.out]; simp)]; decide), err_nine (by rw [HXE.out, HX.out]; simp)])
            clear hkl
            go_wp2_with fail
            refine (rsmall_c x false HX _).mono ?_; rintro E w2 ⟨rfl, rfl⟩
            go_wp2_with fail
            go_ret
            exact ⟨ret_int HE.out, by repeat (first | exact HI.out.2 | refine Q.drewN ?_ _ | refine Q.drew ?_ )⟩
          | true =>
            cases bY with
            | false =>
              have HE := Lib.hid (show ((9 : Nat) : Int) = (e : Int) by rw [← HC.out, firstE_hit HI.out.1 hkl (by rw [err_nine (by rw [HYE.out, HY.out]; simp)]; decide), err_nine (by rw [HYE.out, HY.out]; simp)])
              clear hkl
              go_wp2_with fail
              refine (rsmall_c x true HX _).mono ?_; rintro E w2 ⟨rfl, rfl⟩
              go_wp2_with fail
              refine (rsmall_c y false HY _).mono ?_; rintro E w2 ⟨rfl, rfl⟩
              go_wp2_with fail
              go_ret
              exact ⟨ret_int HE.out, by repeat (first | exact HI.out.2 | refine Q.drewN ?_ _ | refine Q.drew ?_ )⟩
            | true =>
              have HB := Lib.hid (show inR (X l k) = true ∧ inR (Y l k) = true by rw [HXE.out, HYE.out]; exact ⟨HX.out, HY.out⟩)
              by_cases hk0 : k = 0
              · have HG := Lib.hid (zero_next HI.out.1 (err_zero HB.out fun h => absurd h (by omega)))
                have hz0 : decide ((0 : Int) < (k : Int)) = false := by simp; omega
                have hz1 : ¬ (0 : Int) < (k : Int) := by omega
                have hz2 : decide (0 < k) = false := by simp; omega
                have hkn : (k : Int) < (n : Int) := by omega
                clear hkl hk0
                go_wp2_with fail
                refine (rsmall_c x true HX _).mono ?_; rintro E w2 ⟨rfl, rfl⟩
                go_wp2_with fail
                refine (rsmall_c y true HY _).mono ?_; rintro E w2 ⟨rfl, rfl⟩
                go_wp2_with fail
                go_quiet (fail)
                go_wp2_with fail
                go_roundw
                case rel => exact ⟨k + 1, by omega, by go_num, HG.out, by repeat (first | exact HI.out.2 | refine Q.drewN ?_ _ | refine Q.drew ?_ )⟩
                case measure => simp [intOf] <;> omega
              · obtain ⟨j, hj⟩ : ∃ j, k = j + 1 := ⟨k - 1, by omega⟩
                subst hj
                have hjl : j < l.length := by omega
                obtain ⟨b2, off2, hv2, hb2, _, d0, _⟩ := HR.out.at HI.out.2 hjl
                obtain ⟨e1, e2⟩ : b = b2 ∧ off = off2 := by injection hv2 with e1; injection e1 with e1 e2; exact ⟨e1, e2⟩
                subst e1 e2
                obtain ⟨z, hz⟩ : ∃ z, X l j = z := ⟨_, rfl⟩
                rw [hz] at d0
                have HZ := Lib.hid hz
                have e3 : ((j + 1 : Nat) : Int) - 1 = (j : Int) := by omega
                have e4 : IntKind.i64.wrap (((j + 1 : Nat) : Int) - 1) = (j : Int) := by rw [e3]; exact IntWalk.i64_in _ (by omega)
                have e4b : IntKind.i64.wrap ((j : Int) + 1 - 1) = (j : Int) := by rw [show (j : Int) + 1 - 1 = j by omega]; exact IntWalk.i64_in _ (by omega)
                have e4c : IntKind.i64.wrap (j : Int) = (j : Int) := IntWalk.i64_in _ (by omega)
                have e5 : (0 : Int) < ((j + 1 : Nat) : Int) := by omega
                have e6 : (j : Int) < (n : Int) := by omega
                by_cases hle : x ≤ z
                · have HE := Lib.hid (show ((11 : Nat) : Int) = (e : Int) by
                    have h11 : errA l (j + 1) = 11 := err_eleven HB.out (by omega) (by rw [Nat.add_sub_cancel, HZ.out, HXE.out]; exact hle)
                    rw [← HC.out, firstE_hit HI.out.1 hkl (by rw [h11]; decide), h11])
                  clear hkl hjl hz
                  go_wp2_with fail
                  refine (rsmall_c x true HX _).mono ?_; rintro E w2 ⟨rfl, rfl⟩
                  go_wp2_with fail
                  refine (rsmall_c y true HY _).mono ?_; rintro E w2 ⟨rfl, rfl⟩
                  go_wp2_with fail
                  go_quiet (fail)
                  go_wp2_with fail
                  go_ret
                  exact ⟨ret_int HE.out, by repeat (first | exact HI.out.2 | refine Q.drewN ?_ _ | refine Q.drew ?_ )⟩
                · have hle' : decide (x ≤ z) = false := decide_eq_false hle
                  have HG := Lib.hid (zero_next HI.out.1 (err_zero HB.out fun h => by rw [Nat.add_sub_cancel, HZ.out, HXE.out]; omega))
                  clear hkl hjl hz
                  go_wp2_with fail
                  refine (rsmall_c x true HX _).mono ?_; rintro E w2 ⟨rfl, rfl⟩
                  go_wp2_with fail
                  refine (rsmall_c y true HY _).mono ?_; rintro E w2 ⟨rfl, rfl⟩
                  go_wp2_with fail
                  go_quiet (fail)
                  go_wp2_with fail
                  go_roundw
                  case rel => exact ⟨j + 1 + 1, by omega, by go_num, HG.out, by repeat (first | exact HI.out.2 | refine Q.drewN ?_ _ | refine Q.drew ?_ )⟩
                  case measure => simp [intOf] <;> omega
        · obtain rfl : k = n := by omega
          have HE := Lib.hid (show ((0 : Nat) : Int) = (e : Int) by rw [← HC.out, firstE_none (by rw [HN.out]; exact HI.out.1)])
          go_wp2_with fail
          go_ret
          exact ⟨ret_int HE.out, HI.out.2⟩
end Go.Proofs.Ytlkgbfiaeedpfaa
