/- The contracts of checkPlaces, of the reference's numbers, and of checkRow. -/
import Derived.Test.YtlkgbfiaeedpfaaMem
set_option linter.unusedVariables false
set_option linter.unusedSimpArgs false
namespace Go.Proofs.Ytlkgbfiaeedpfaa
open Go.ChangeShapes Go.WideShapes Go.ChangeAt Go.RowKit Cm

theorem zerosN {f : Nat → Nat} {k : Nat} (h : ∀ i, i < k → f i = 0) (h1 : f k = 0) : ∀ i, i < k + 1 → f i = 0 := fun i hi => by
  by_cases e : i = k
  · rw [e]; exact h1
  · exact h i (by omega)
set_option maxRecDepth 100000 in
set_option maxHeartbeats 1600000 in
theorem checkPlaces_c (v : Value) (l : List Int) (e : Nat) (he : Hid (numE l = e)) (w : World) (hr : RdI w v l) (hl : l.length ≤ 1000000) : Calls Try.prog 32 #[v] w fun r w' => r = .returned (.int .i64 e) ∧ Q w w' := by
  have HR := Lib.hid hr
  obtain ⟨A, c, rfl, hc, _⟩ := hr
  obtain ⟨n, hn⟩ : ∃ n, l.length = n := ⟨_, rfl⟩
  have HN := Lib.hid hn
  rw [hn] at HR
  rw [hn]
  have hn6 : n ≤ 1000000 := by omega
  have HC := Lib.hid (show firstE (errN l) l.length = e from he.out)
  clear hc hn hl
  go_enter Try.func32, Try.ntmps32
  go_wp2_with fail
  go_loopw [7] (fun u7 wr => ∃ k : Nat, k ≤ n ∧ u7 = .int .i64 k ∧ Hid ((∀ i, i < k → errN l i = 0) ∧ Q w wr)) (fun u7 _ => n - (intOf u7).toNat)
  case atStart => exact ⟨0, Nat.zero_le _, rfl, fun i hi => by omega, Q.refl _⟩
  case round =>
    obtain ⟨k, hk, rfl, HI⟩ := hrel
    by_cases hlt : k < n
    · have hkl : k < l.length := by rw [HN.out]; exact hlt
      obtain ⟨b, off, rfl, hb, hc, c0⟩ := HR.out.at HI.out.2 hkl
      obtain ⟨x, hx⟩ : ∃ x, N l k = x := ⟨_, rfl⟩
      rw [hx] at c0
      obtain ⟨bx, hbx⟩ : ∃ bx, inR x = bx := ⟨_, rfl⟩
      have HX := Lib.hid hbx
      have HXE := Lib.hid hx
      have hkn : (k : Int) < (n : Int) := by omega
      clear hx hbx
      cases bx with
      | false =>
        have HE := Lib.hid (show ((9 : Nat) : Int) = (e : Int) by rw [← HC.out, firstE_hit HI.out.1 hkl (by rw [errN_nine (by rw [HXE.out, HX.out])]; decide), errN_nine (by rw [HXE.out, HX.out])])
        clear hkl
        go_wp2_with fail
        refine (inRange_c x false HX _).mono ?_; rintro E w2 ⟨rfl, rfl⟩
        go_wp2_with fail
        go_ret
        exact ⟨ret_int HE.out, by repeat (first | exact HI.out.2 | refine Q.drewN ?_ _ | refine Q.drew ?_ | refine Q.alloc ?_ _)⟩
      | true =>
        have HB := Lib.hid (show inR (N l k) = true by rw [HXE.out]; exact HX.out)
        by_cases hk0 : k = 0
        · have HG := Lib.hid (zerosN HI.out.1 (errN_ok HB.out fun h => absurd h (by omega)))
          have hz0 : decide ((0 : Int) < (k : Int)) = false := by simp; omega
          have hz1 : ¬ (0 : Int) < (k : Int) := by omega
          have hz2 : decide (0 < k) = false := by simp; omega
          clear hkl hk0
          go_wp2_with fail
          refine (inRange_c x true HX _).mono ?_; rintro E w2 ⟨rfl, rfl⟩
          go_wp2_with fail
          go_roundw
          case rel => exact ⟨k + 1, by omega, by go_num, HG.out, by repeat (first | exact HI.out.2 | refine Q.drewN ?_ _ | refine Q.drew ?_ | refine Q.alloc ?_ _)⟩
          case measure => simp [intOf] <;> omega
        · obtain ⟨j, hj⟩ : ∃ j, k = j + 1 := ⟨k - 1, by omega⟩
          have hkj : k - 1 = j := by omega
          have hjl : j < l.length := by omega
          obtain ⟨b2, off2, hv2, hb2, _, d0⟩ := HR.out.at HI.out.2 hjl
          obtain ⟨e1, e2⟩ : b = b2 ∧ off = off2 := by injection hv2 with e1; injection e1 with e1 e2; exact ⟨e1, e2⟩
          subst e1 e2
          obtain ⟨z, hz⟩ : ∃ z, N l j = z := ⟨_, rfl⟩
          rw [hz] at d0
          have HZ := Lib.hid (show N l (k - 1) = z by rw [hkj]; exact hz)
          have e3 : (k : Int) - 1 = (j : Int) := by omega
          have e4 : IntKind.i64.wrap ((k : Int) - 1) = (j : Int) := by rw [e3]; exact IntWalk.i64_in _ (by omega)
          have e5 : decide ((0 : Int) < (k : Int)) = true := by simp; omega
          have e5b : (0 : Int) < (k : Int) := by omega
          have e5c : decide (0 < k) = true := by simp; omega
          have e6 : (j : Int) < (n : Int) := by omega
          have HK0 := Lib.hid (show 0 < k by omega)
          by_cases hle : x ≤ z
          · have HE := Lib.hid (show ((11 : Nat) : Int) = (e : Int) by
              have h11 : errN l k = 11 := errN_eleven HB.out HK0.out (by rw [HZ.out, HXE.out]; exact hle)
              rw [← HC.out, firstE_hit HI.out.1 hkl (by rw [h11]; decide), h11])
            clear hkl hjl hz hj hkj hk0 e3 hv2
            go_wp2_with fail
            refine (inRange_c x true HX _).mono ?_; rintro E w2 ⟨rfl, rfl⟩
            go_wp2_with fail
            go_ret
            exact ⟨ret_int HE.out, by repeat (first | exact HI.out.2 | refine Q.drewN ?_ _ | refine Q.drew ?_ | refine Q.alloc ?_ _)⟩
          · have hle' : decide (x ≤ z) = false := decide_eq_false hle
            have HG := Lib.hid (zerosN HI.out.1 (errN_ok HB.out fun h => by rw [HZ.out, HXE.out]; omega))
            clear hkl hjl hz hj hkj hk0 e3 hv2
            go_wp2_with fail
            refine (inRange_c x true HX _).mono ?_; rintro E w2 ⟨rfl, rfl⟩
            go_wp2_with fail
            go_roundw
            case rel => exact ⟨k + 1, by omega, by go_num, HG.out, by repeat (first | exact HI.out.2 | refine Q.drewN ?_ _ | refine Q.drew ?_ | refine Q.alloc ?_ _)⟩
            case measure => simp [intOf] <;> omega
    · obtain rfl : k = n := by omega
      have HE := Lib.hid (show ((0 : Nat) : Int) = (e : Int) by rw [← HC.out, firstE_none (by rw [HN.out]; exact HI.out.1)])
      go_wp2_with fail
      go_ret
      exact ⟨ret_int HE.out, HI.out.2⟩
set_option maxRecDepth 100000 in
set_option maxHeartbeats 1600000 in
theorem numbers_c (v : Value) (l : List Int) (e : Nat) (he : Hid (numE l = e)) (w : World) (hr : RdI w v l) (hl : l.length ≤ 1000000) : Calls Try.prog 34 #[v] w fun r w' => r = .returned (.int .i64 e) ∧ Q w w' := by
  have HR := Lib.hid hr
  obtain ⟨A, c, rfl, hc, _⟩ := hr
  obtain ⟨n, hn⟩ : ∃ n, l.length = n := ⟨_, rfl⟩
  have HN := Lib.hid hn
  rw [hn] at HR
  rw [hn]
  have hn6 : n ≤ 1000000 := by omega
  have HC := Lib.hid (show firstE (errN l) l.length = e from he.out)
  clear hc hn hl
  go_enter Try.func34, Try.ntmps34
  go_wp2_with fail
  go_loopw [3] (fun u3 wr => ∃ k : Nat, k ≤ n ∧ u3 = .int .i64 k ∧ Hid ((∀ i, i < k → errN l i = 0) ∧ Q w wr)) (fun u3 _ => n - (intOf u3).toNat)
  case atStart => exact ⟨0, Nat.zero_le _, rfl, fun i hi => by omega, Q.refl _⟩
  case round =>
    obtain ⟨k, hk, rfl, HI⟩ := hrel
    by_cases hlt : k < n
    · have hkl : k < l.length := by rw [HN.out]; exact hlt
      obtain ⟨b, off, rfl, hb, hc, c0⟩ := HR.out.at HI.out.2 hkl
      obtain ⟨x, hx⟩ : ∃ x, N l k = x := ⟨_, rfl⟩
      rw [hx] at c0
      obtain ⟨bx, hbx⟩ : ∃ bx, inR x = bx := ⟨_, rfl⟩
      have HX := Lib.hid hbx
      have HXE := Lib.hid hx
      have hkn : (k : Int) < (n : Int) := by omega
      clear hx hbx
      cases bx with
      | false =>
        have HE := Lib.hid (show ((9 : Nat) : Int) = (e : Int) by rw [← HC.out, firstE_hit HI.out.1 hkl (by rw [errN_nine (by rw [HXE.out, HX.out])]; decide), errN_nine (by rw [HXE.out, HX.out])])
        clear hkl
        go_wp2_with fail
        refine (rsmall_c x false HX _).mono ?_; rintro E w2 ⟨rfl, rfl⟩
        go_wp2_with fail
        go_ret
        exact ⟨ret_int HE.out, by repeat (first | exact HI.out.2 | refine Q.drewN ?_ _ | refine Q.drew ?_ | refine Q.alloc ?_ _)⟩
      | true =>
        have HB := Lib.hid (show inR (N l k) = true by rw [HXE.out]; exact HX.out)
        by_cases hk0 : k = 0
        · have HG := Lib.hid (zerosN HI.out.1 (errN_ok HB.out fun h => absurd h (by omega)))
          have hz0 : decide ((0 : Int) < (k : Int)) = false := by simp; omega
          have hz1 : ¬ (0 : Int) < (k : Int) := by omega
          have hz2 : decide (0 < k) = false := by simp; omega
          clear hkl hk0
          go_wp2_with fail
          refine (rsmall_c x true HX _).mono ?_; rintro E w2 ⟨rfl, rfl⟩
          go_wp2_with fail
          go_quiet (fail)
          go_wp2_with fail
          go_roundw
          case rel => exact ⟨k + 1, by omega, by go_num, HG.out, by repeat (first | exact HI.out.2 | refine Q.drewN ?_ _ | refine Q.drew ?_ | refine Q.alloc ?_ _)⟩
          case measure => simp [intOf] <;> omega
        · obtain ⟨j, hj⟩ : ∃ j, k = j + 1 := ⟨k - 1, by omega⟩
          have hkj : k - 1 = j := by omega
          have hjl : j < l.length := by omega
          obtain ⟨b2, off2, hv2, hb2, _, d0⟩ := HR.out.at HI.out.2 hjl
          obtain ⟨e1, e2⟩ : b = b2 ∧ off = off2 := by injection hv2 with e1; injection e1 with e1 e2; exact ⟨e1, e2⟩
          subst e1 e2
          obtain ⟨z, hz⟩ : ∃ z, N l j = z := ⟨_, rfl⟩
          rw [hz] at d0
          have HZ := Lib.hid (show N l (k - 1) = z by rw [hkj]; exact hz)
          have e3 : (k : Int) - 1 = (j : Int) := by omega
          have e4 : IntKind.i64.wrap ((k : Int) - 1) = (j : Int) := by rw [e3]; exact IntWalk.i64_in _ (by omega)
          have e5 : decide ((0 : Int) < (k : Int)) = true := by simp; omega
          have e5b : (0 : Int) < (k : Int) := by omega
          have e5c : decide (0 < k) = true := by simp; omega
          have e6 : (j : Int) < (n : Int) := by omega
          have HK0 := Lib.hid (show 0 < k by omega)
          by_cases hle : x ≤ z
          · have HE := Lib.hid (show ((11 : Nat) : Int) = (e : Int) by
              have h11 : errN l k = 11 := errN_eleven HB.out HK0.out (by rw [HZ.out, HXE.out]; exact hle)
              rw [← HC.out, firstE_hit HI.out.1 hkl (by rw [h11]; decide), h11])
            clear hkl hjl hz hj hkj hk0 e3 hv2
            go_wp2_with fail
            refine (rsmall_c x true HX _).mono ?_; rintro E w2 ⟨rfl, rfl⟩
            go_wp2_with fail
            go_quiet (fail)
            go_wp2_with fail
            go_ret
            exact ⟨ret_int HE.out, by repeat (first | exact HI.out.2 | refine Q.drewN ?_ _ | refine Q.drew ?_ | refine Q.alloc ?_ _)⟩
          · have hle' : decide (x ≤ z) = false := decide_eq_false hle
            have HG := Lib.hid (zerosN HI.out.1 (errN_ok HB.out fun h => by rw [HZ.out, HXE.out]; omega))
            clear hkl hjl hz hj hkj hk0 e3 hv2
            go_wp2_with fail
            refine (rsmall_c x true HX _).mono ?_; rintro E w2 ⟨rfl, rfl⟩
            go_wp2_with fail
            go_quiet (fail)
            go_wp2_with fail
            go_roundw
            case rel => exact ⟨k + 1, by omega, by go_num, HG.out, by repeat (first | exact HI.out.2 | refine Q.drewN ?_ _ | refine Q.drew ?_ | refine Q.alloc ?_ _)⟩
            case measure => simp [intOf] <;> omega
    · obtain rfl : k = n := by omega
      have HE := Lib.hid (show ((0 : Nat) : Int) = (e : Int) by rw [← HC.out, firstE_none (by rw [HN.out]; exact HI.out.1)])
      go_wp2_with fail
      go_ret
      exact ⟨ret_int HE.out, HI.out.2⟩
set_option maxRecDepth 100000 in
set_option maxHeartbeats 1600000 in
theorem checkRow_c (v : Value) (l : List Int) (m e : Nat) (he : Hid (rowE l m = e)) (w : World) (hr : RdI w v l) (hl : l.length ≤ 1000000) : Calls Try.prog 33 #[v, .int .i64 m] w fun r w' => r = .returned (.int .i64 e) ∧ Q w w' := by
  have HR := Lib.hid hr
  obtain ⟨A, c, rfl, hc, _⟩ := hr
  obtain ⟨n, hn⟩ : ∃ n, l.length = n := ⟨_, rfl⟩
  have HN := Lib.hid hn
  rw [hn] at HR
  rw [hn]
  have hn6 : n ≤ 1000000 := by omega
  by_cases hnm : n = m
  · subst hnm
    have HC := Lib.hid (show firstE (errV l) l.length = e by rw [← he.out]; unfold rowE; rw [if_pos hn])
    clear hc hn hl
    go_enter Try.func33, Try.ntmps33
    go_wp2_with fail
    go_loopw [13] (fun u13 wr => ∃ k : Nat, k ≤ n ∧ u13 = .int .i64 k ∧ Hid ((∀ i, i < k → errV l i = 0) ∧ Q w wr)) (fun u13 _ => n - (intOf u13).toNat)
    case atStart => exact ⟨0, Nat.zero_le _, rfl, fun i hi => by omega, Q.refl _⟩
    case round =>
      obtain ⟨k, hk, rfl, HI⟩ := hrel
      by_cases hlt : k < n
      · have hkl : k < l.length := by rw [HN.out]; exact hlt
        obtain ⟨b, off, rfl, hb, hc, c0⟩ := HR.out.at HI.out.2 hkl
        obtain ⟨x, hx⟩ : ∃ x, N l k = x := ⟨_, rfl⟩
        rw [hx] at c0
        obtain ⟨bx, hbx⟩ : ∃ bx, inR x = bx := ⟨_, rfl⟩
        have HX := Lib.hid hbx
        have HXE := Lib.hid hx
        have hkn : (k : Int) < (n : Int) := by omega
        clear hx hbx
        cases bx with
        | false =>
          have HE := Lib.hid (show ((9 : Nat) : Int) = (e : Int) by
            have h9 : errV l k = 9 := by unfold errV; rw [HXE.out, HX.out]; rfl
            rw [← HC.out, firstE_hit HI.out.1 hkl (by rw [h9]; decide), h9])
          clear hkl
          go_wp2_with fail
          refine (inRange_c x false HX _).mono ?_; rintro E w2 ⟨rfl, rfl⟩
          go_wp2_with fail
          go_ret
          exact ⟨ret_int HE.out, by repeat (first | exact HI.out.2 | refine Q.drewN ?_ _ | refine Q.drew ?_ | refine Q.alloc ?_ _)⟩
        | true =>
          have HG := Lib.hid (zerosN HI.out.1 (show errV l k = 0 by unfold errV; rw [HXE.out, HX.out]; rfl))
          clear hkl
          go_wp2_with fail
          refine (inRange_c x true HX _).mono ?_; rintro E w2 ⟨rfl, rfl⟩
          go_wp2_with fail
          go_roundw
          case rel => exact ⟨k + 1, by omega, by go_num, HG.out, by repeat (first | exact HI.out.2 | refine Q.drewN ?_ _ | refine Q.drew ?_ | refine Q.alloc ?_ _)⟩
          case measure => simp [intOf] <;> omega
      · obtain rfl : k = n := by omega
        have HE := Lib.hid (show ((0 : Nat) : Int) = (e : Int) by rw [← HC.out, firstE_none (by rw [HN.out]; exact HI.out.1)])
        go_wp2_with fail
        go_ret
        exact ⟨ret_int HE.out, HI.out.2⟩
  · have HE := Lib.hid (show ((19 : Nat) : Int) = (e : Int) by rw [← he.out]; unfold rowE; rw [if_neg (by omega)])
    have t0 : ((n : Int) != (m : Int)) = true := by simp; omega
    clear hc hn hl hnm
    go_enter Try.func33, Try.ntmps33
    go_wp2_with fail
    go_ret
    exact ⟨ret_int HE.out, Q.refl _⟩
end Go.Proofs.Ytlkgbfiaeedpfaa
