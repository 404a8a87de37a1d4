/- The contracts of both checks. -/
import Derived.Test.YthpopopodjgdaaaDoorMem
set_option linter.unusedVariables false
set_option linter.unusedSimpArgs false
namespace Go.Proofs.YthpopopodjgdaaaDoor
open Go.ChangeShapes Go.WideShapes Go.ChangeAt Go.RowKit Km

theorem zerosC {f : Nat → Nat} {k : Nat} (h : ∀ i, i < k → f i = 0) (h1 : f k = 0) : ∀ i, i < k + 1 → f i = 0 := fun i hi => by
  by_cases e : i = k
  · rw [e]; exact h1
  · exact h i (by omega)
set_option maxRecDepth 100000 in
set_option maxHeartbeats 1600000 in
theorem check_c (v : Value) (l : List P) (e : Nat) (he : Hid (chk l = e)) (w : World) (hr : RdP w v l) (hl : l.length ≤ maxLen) : Calls Tryd.prog 31 #[v] w fun r w' => r = .returned (.int .i64 e) ∧ Q w w' := by
  have HR := Lib.hid hr
  obtain ⟨A, c, rfl, hc, _⟩ := hr
  obtain ⟨n, hn⟩ : ∃ n, l.length = n := ⟨_, rfl⟩
  have HN := Lib.hid hn
  rw [hn] at HR
  rw [hn]
  unfold maxLen at hl
  by_cases h0 : n = 0
  · have HE := Lib.hid (show ((3 : Nat) : Int) = (e : Int) by rw [← he.out]; unfold chk; rw [if_pos (by omega)])
    have h0' : (n : Int) = 0 := by omega
    clear hc hn hl
    go_enter Tryd.func31, Tryd.ntmps31
    go_wp2_with fail
    go_ret
    exact ⟨ret_int HE.out, Q.refl _⟩
  · by_cases h1 : 21 < n
    · have HE := Lib.hid (show ((4 : Nat) : Int) = (e : Int) by rw [← he.out]; unfold chk; rw [if_neg (by omega), if_pos (by omega)])
      have h0' : ((n : Int) == 0) = false := by simp; omega
      have h1' : (21 : Int) < (n : Int) := by omega
      clear hc hn hl
      go_enter Tryd.func31, Tryd.ntmps31
      go_wp2_with fail
      go_ret
      exact ⟨ret_int HE.out, Q.refl _⟩
    · have HC := Lib.hid (show firstE (errC l) l.length = e by rw [← he.out, chk_mid (by omega) (by omega)])
      have h0' : ((n : Int) == 0) = false := by simp; omega
      have h1' : ¬ (21 : Int) < (n : Int) := by omega
      have hn6 : n ≤ 21 := by omega
      clear hc hn hl h0 h1
      go_enter Tryd.func31, Tryd.ntmps31
      go_wp2_with fail
      go_loopw [3, 14] (fun u3 u14 wr => ∃ (k : Nat) (p : Int), k ≤ n ∧ u3 = .int .i64 p ∧ u14 = .int .i64 k ∧ Hid ((∀ i, i < k → errC l i = 0) ∧ PU l k = p ∧ Q w wr)) (fun _ u14 _ => n - (intOf u14).toNat)
      case atStart => exact ⟨0, 0, Nat.zero_le _, rfl, rfl, fun i hi => by omega, rfl, Q.refl _⟩
      case round =>
        obtain ⟨k, p, hk, rfl, rfl, HI⟩ := hrel
        by_cases hlt : k < n
        · have hkl : k < l.length := by rw [HN.out]; exact hlt
          obtain ⟨b, off, rfl, hb, hc, c0, c1⟩ := HR.out.at HI.out.2.2 hkl
          obtain ⟨x, hx⟩ : ∃ x, F l k = x := ⟨_, rfl⟩
          obtain ⟨y, hy⟩ : ∃ y, U l k = y := ⟨_, rfl⟩
          rw [hx] at c0
          rw [hy] at c1
          have HXE := Lib.hid hx
          have HYE := Lib.hid hy
          have HKL := Lib.hid hkl
          have HPE := Lib.hid HI.out.2.1
          have hkn : (k : Int) < (n : Int) := by omega
          clear hx hy hkl
          by_cases hbad : x < 0 ∨ y ≤ x ∨ 10080 < y
          · have HE := Lib.hid (show ((9 : Nat) : Int) = (e : Int) by
              have h9 : errC l k = 9 := errC_nine (by rw [HXE.out, HYE.out]; exact hbad)
              rw [← HC.out, firstE_hit HI.out.1 HKL.out (by rw [h9]; decide), h9])
            have hb2 : (decide (x < 0) = true ∧ x < 0) ∨ (decide (x < 0) = false ∧ ¬ x < 0 ∧ decide (y ≤ x) = true ∧ y ≤ x) ∨ (decide (x < 0) = false ∧ ¬ x < 0 ∧ decide (y ≤ x) = false ∧ ¬ y ≤ x ∧ decide (10080 < y) = true ∧ 10080 < y) := by
              by_cases q1 : x < 0
              · exact .inl ⟨decide_eq_true q1, q1⟩
              · by_cases q2 : y ≤ x
                · exact .inr (.inl ⟨decide_eq_false q1, q1, decide_eq_true q2, q2⟩)
                · have q3 : 10080 < y := by omega
                  exact .inr (.inr ⟨decide_eq_false q1, q1, decide_eq_false q2, q2, decide_eq_true q3, q3⟩)
            clear hbad
            rcases hb2 with ⟨q1, q1'⟩ | ⟨q1, q1', q2, q2'⟩ | ⟨q1, q1', q2, q2', q3, q3'⟩
            all_goals go_wp2_with fail
            all_goals (try go_quiet (fail))
            all_goals go_wp2_with fail
            all_goals go_ret
            all_goals exact ⟨ret_int HE.out, by repeat (first | exact HI.out.2.2 | refine Q.drewN ?_ _ | refine Q.drew ?_ | refine Q.alloc ?_ _)⟩
          · have q1 : decide (x < 0) = false := decide_eq_false (by omega)
            have q2 : decide (y ≤ x) = false := decide_eq_false (by omega)
            have q3 : decide (10080 < y) = false := decide_eq_false (by omega)
            have q1' : ¬ x < 0 := by omega
            have q2' : ¬ y ≤ x := by omega
            have q3' : ¬ 10080 < y := by omega
            have HBD := Lib.hid (show ¬ (F l k < 0 ∨ U l k ≤ F l k ∨ 10080 < U l k) by rw [HXE.out, HYE.out]; exact hbad)
            by_cases hor : x < p
            · have HE := Lib.hid (show ((11 : Nat) : Int) = (e : Int) by
                have h11 : errC l k = 11 := errC_eleven HBD.out (by rw [HXE.out, HPE.out]; exact hor)
                rw [← HC.out, firstE_hit HI.out.1 HKL.out (by rw [h11]; decide), h11])
              have hor' : decide (x < p) = true := decide_eq_true hor
              clear hbad
              go_wp2_with fail
              (try go_quiet (fail))
              go_wp2_with fail
              go_ret
              exact ⟨ret_int HE.out, by repeat (first | exact HI.out.2.2 | refine Q.drewN ?_ _ | refine Q.drew ?_ | refine Q.alloc ?_ _)⟩
            · have hor' : decide (x < p) = false := decide_eq_false hor
              have HG := Lib.hid (zerosC HI.out.1 (errC_zero HBD.out (by rw [HXE.out, HPE.out]; exact hor)))
              have HPN := Lib.hid (show PU l (k + 1) = y by rw [PU_succ, HYE.out])
              clear hbad
              go_wp2_with fail
              (try go_quiet (fail))
              go_wp2_with fail
              go_roundw
              case rel => exact ⟨k + 1, y, by omega, rfl, by go_num, HG.out, HPN.out, by repeat (first | exact HI.out.2.2 | refine Q.drewN ?_ _ | refine Q.drew ?_ | refine Q.alloc ?_ _)⟩
              case measure => simp [intOf] <;> omega
        · obtain rfl : k = n := by omega
          have HE := Lib.hid (show ((0 : Nat) : Int) = (e : Int) by rw [← HC.out, firstE_none (by rw [HN.out]; exact HI.out.1)])
          go_wp2_with fail
          go_ret
          exact ⟨ret_int HE.out, HI.out.2.2⟩
set_option maxRecDepth 100000 in
set_option maxHeartbeats 1600000 in
theorem rCheck_c (v : Value) (l : List P) (e : Nat) (he : Hid (chk l = e)) (w : World) (hr : RdP w v l) (hl : l.length ≤ maxLen) : Calls Tryd.prog 16 #[v] w fun r w' => r = .returned (.int .i64 e) ∧ Q w w' := by
  have HR := Lib.hid hr
  obtain ⟨A, c, rfl, hc, _⟩ := hr
  obtain ⟨n, hn⟩ : ∃ n, l.length = n := ⟨_, rfl⟩
  have HN := Lib.hid hn
  rw [hn] at HR
  rw [hn]
  unfold maxLen at hl
  by_cases h0 : n = 0
  · have HE := Lib.hid (show ((3 : Nat) : Int) = (e : Int) by rw [← he.out]; unfold chk; rw [if_pos (by omega)])
    have h0' : (n : Int) = 0 := by omega
    clear hc hn hl
    go_enter Tryd.func16, Tryd.ntmps16
    go_wp2_with fail
    go_ret
    exact ⟨ret_int HE.out, Q.refl _⟩
  · by_cases h1 : 21 < n
    · have HE := Lib.hid (show ((4 : Nat) : Int) = (e : Int) by rw [← he.out]; unfold chk; rw [if_neg (by omega), if_pos (by omega)])
      have h0' : ((n : Int) == 0) = false := by simp; omega
      have h1' : (21 : Int) < (n : Int) := by omega
      clear hc hn hl
      go_enter Tryd.func16, Tryd.ntmps16
      go_wp2_with fail
      go_ret
      exact ⟨ret_int HE.out, Q.refl _⟩
    · have HC := Lib.hid (show firstE (errC l) l.length = e by rw [← he.out, chk_mid (by omega) (by omega)])
      have h0' : ((n : Int) == 0) = false := by simp; omega
      have h1' : ¬ (21 : Int) < (n : Int) := by omega
      have hn6 : n ≤ 21 := by omega
      clear hc hn hl h0 h1
      go_enter Tryd.func16, Tryd.ntmps16
      go_wp2_with fail
      go_loopw [3, 4] (fun u3 u4 wr => ∃ (k : Nat) (p : Int), k ≤ n ∧ u3 = .int .i64 p ∧ u4 = .int .i64 k ∧ Hid ((∀ i, i < k → errC l i = 0) ∧ PU l k = p ∧ Q w wr)) (fun _ u4 _ => n - (intOf u4).toNat)
      case atStart => exact ⟨0, 0, Nat.zero_le _, rfl, rfl, fun i hi => by omega, rfl, Q.refl _⟩
      case round =>
        obtain ⟨k, p, hk, rfl, rfl, HI⟩ := hrel
        by_cases hlt : k < n
        · have hkl : k < l.length := by rw [HN.out]; exact hlt
          obtain ⟨b, off, rfl, hb, hc, c0, c1⟩ := HR.out.at HI.out.2.2 hkl
          obtain ⟨x, hx⟩ : ∃ x, F l k = x := ⟨_, rfl⟩
          obtain ⟨y, hy⟩ : ∃ y, U l k = y := ⟨_, rfl⟩
          rw [hx] at c0
          rw [hy] at c1
          have HXE := Lib.hid hx
          have HYE := Lib.hid hy
          have HKL := Lib.hid hkl
          have HPE := Lib.hid HI.out.2.1
          have hkn : (k : Int) < (n : Int) := by omega
          clear hx hy hkl
          by_cases hbad : x < 0 ∨ y ≤ x ∨ 10080 < y
          · have HE := Lib.hid (show ((9 : Nat) : Int) = (e : Int) by
              have h9 : errC l k = 9 := errC_nine (by rw [HXE.out, HYE.out]; exact hbad)
              rw [← HC.out, firstE_hit HI.out.1 HKL.out (by rw [h9]; decide), h9])
            have hb2 : (decide (x < 0) = true ∧ x < 0) ∨ (decide (x < 0) = false ∧ ¬ x < 0 ∧ decide (y ≤ x) = true ∧ y ≤ x) ∨ (decide (x < 0) = false ∧ ¬ x < 0 ∧ decide (y ≤ x) = false ∧ ¬ y ≤ x ∧ decide (10080 < y) = true ∧ 10080 < y) := by
              by_cases q1 : x < 0
              · exact .inl ⟨decide_eq_true q1, q1⟩
              · by_cases q2 : y ≤ x
                · exact .inr (.inl ⟨decide_eq_false q1, q1, decide_eq_true q2, q2⟩)
                · have q3 : 10080 < y := by omega
                  exact .inr (.inr ⟨decide_eq_false q1, q1, decide_eq_false q2, q2, decide_eq_true q3, q3⟩)
            clear hbad
            rcases hb2 with ⟨q1, q1'⟩ | ⟨q1, q1', q2, q2'⟩ | ⟨q1, q1', q2, q2', q3, q3'⟩
            all_goals go_wp2_with fail
            all_goals (try go_quiet (fail))
            all_goals go_wp2_with fail
            all_goals go_ret
            all_goals exact ⟨ret_int HE.out, by repeat (first | exact HI.out.2.2 | refine Q.drewN ?_ _ | refine Q.drew ?_ | refine Q.alloc ?_ _)⟩
          · have q1 : decide (x < 0) = false := decide_eq_false (by omega)
            have q2 : decide (y ≤ x) = false := decide_eq_false (by omega)
            have q3 : decide (10080 < y) = false := decide_eq_false (by omega)
            have q1' : ¬ x < 0 := by omega
            have q2' : ¬ y ≤ x := by omega
            have q3' : ¬ 10080 < y := by omega
            have HBD := Lib.hid (show ¬ (F l k < 0 ∨ U l k ≤ F l k ∨ 10080 < U l k) by rw [HXE.out, HYE.out]; exact hbad)
            by_cases hor : x < p
            · have HE := Lib.hid (show ((11 : Nat) : Int) = (e : Int) by
                have h11 : errC l k = 11 := errC_eleven HBD.out (by rw [HXE.out, HPE.out]; exact hor)
                rw [← HC.out, firstE_hit HI.out.1 HKL.out (by rw [h11]; decide), h11])
              have hor' : decide (x < p) = true := decide_eq_true hor
              clear hbad
              go_wp2_with fail
              (try go_quiet (fail))
              go_wp2_with fail
              go_ret
              exact ⟨ret_int HE.out, by repeat (first | exact HI.out.2.2 | refine Q.drewN ?_ _ | refine Q.drew ?_ | refine Q.alloc ?_ _)⟩
            · have hor' : decide (x < p) = false := decide_eq_false hor
              have HG := Lib.hid (zerosC HI.out.1 (errC_zero HBD.out (by rw [HXE.out, HPE.out]; exact hor)))
              have HPN := Lib.hid (show PU l (k + 1) = y by rw [PU_succ, HYE.out])
              clear hbad
              go_wp2_with fail
              (try go_quiet (fail))
              go_wp2_with fail
              go_roundw
              case rel => exact ⟨k + 1, y, by omega, rfl, by go_num, HG.out, HPN.out, by repeat (first | exact HI.out.2.2 | refine Q.drewN ?_ _ | refine Q.drew ?_ | refine Q.alloc ?_ _)⟩
              case measure => simp [intOf] <;> omega
        · obtain rfl : k = n := by omega
          have HE := Lib.hid (show ((0 : Nat) : Int) = (e : Int) by rw [← HC.out, firstE_none (by rw [HN.out]; exact HI.out.1)])
          go_wp2_with fail
          go_ret
          exact ⟨ret_int HE.out, HI.out.2.2⟩
end Go.Proofs.YthpopopodjgdaaaDoor
