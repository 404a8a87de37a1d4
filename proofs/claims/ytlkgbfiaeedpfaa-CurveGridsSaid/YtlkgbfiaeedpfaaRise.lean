/- The contracts of both Risings, and of small. -/
import Derived.Test.YtlkgbfiaeedpfaaRCheck
set_option linter.unusedVariables false
set_option linter.unusedSimpArgs false
namespace Go.Proofs.Ytlkgbfiaeedpfaa
open Go.ChangeShapes Go.WideShapes Go.ChangeAt Go.RowKit Cm

theorem small_c (v : Value) (l : List P) (b : Bool) (w : World) (hr : RdP w v l) (hl : l.length ≤ maxLen) (h : Hid (decide (l.length ≤ 100) = b)) : Calls Try.prog 11 #[v] w fun e w' => e = .returned (.bool b) ∧ w = w' := by
  obtain ⟨A, c, rfl, _⟩ := hr
  unfold maxLen at hl
  go_enter Try.func11, Try.ntmps11
  go_wp2
  go_ret
  exact ⟨ret_bool (by rw [← h.out]; simp; omega), rfl⟩
theorem up_no {l : List P} {k : Nat} (h0 : 0 < k) (hk : k < l.length) (h : Y l k < Y l (k - 1)) : upL l = false := by
  rw [Bool.eq_false_iff]; intro g
  have := (upL_iff l).1 g k h0 hk
  omega
theorem up_yes {l : List P} (h : ∀ i, 0 < i → i < l.length → Y l (i - 1) ≤ Y l i) : upL l = true := (upL_iff l).2 h
set_option maxRecDepth 100000 in
set_option maxHeartbeats 1600000 in
theorem Rising_c (v : Value) (l : List P) (r : Bool) (h : Hid (riS l = r)) (w : World) (hr : RdP w v l) (hl : l.length ≤ maxLen) : Calls Try.prog 15 #[v] w fun e w' => e = .returned (.bool r) ∧ Q w w' := by
  have HR := Lib.hid hr
  have HL := Lib.hid hl
  obtain ⟨A, c, rfl, hc, _⟩ := hr
  obtain ⟨n, hn⟩ : ∃ n, l.length = n := ⟨_, rfl⟩
  have HN := Lib.hid hn
  rw [hn] at HR
  rw [hn]
  unfold maxLen at hl
  obtain ⟨e, he⟩ : ∃ e, chk l = e := ⟨_, rfl⟩
  have HC := Lib.hid he
  by_cases h0 : e = 0
  · have HU := Lib.hid (show upL l = r by rw [← h.out]; unfold riS; rw [he, h0]; simp)
    have hn0 : 1 ≤ n ∧ n ≤ 16 := by have g := chk_zero (he.trans h0); have g1 := g.one; have g2 := g.few; omega
    obtain ⟨hn1, hn16⟩ := hn0
    have h0' : ((e : Int) != 0) = false := by subst h0; rfl
    clear hc hn hl he h0
    go_enter Try.func15, Try.ntmps15
    go_wp2_with fail
    refine (Check_c _ l e HC _ HR.out HL.out).mono ?_; rintro E w1 ⟨rfl, hq1⟩
    have Q1 := Lib.hid hq1
    clear hq1
    go_wp2_with fail
    go_loopw [3] (fun u3 wr => ∃ k : Nat, 1 ≤ k ∧ k ≤ n ∧ u3 = .int .i64 k ∧ Hid ((∀ i, 0 < i → i < k → Y l (i - 1) ≤ Y l i) ∧ Q w wr)) (fun u3 _ => n - (intOf u3).toNat)
    case atStart => exact ⟨1, Nat.le_refl _, hn1, rfl, fun i _ hi => by omega, Q1.out⟩
    case round =>
      obtain ⟨k, hk1, hk, rfl, HI⟩ := hrel
      by_cases hlt : k < n
      · have hkl : k < l.length := by rw [HN.out]; exact hlt
        obtain ⟨b, off, rfl, hb, hc, _, c1⟩ := HR.out.at HI.out.2 hkl
        obtain ⟨j, hj⟩ : ∃ j, k = j + 1 := ⟨k - 1, by omega⟩
        subst hj
        have hjl : j < l.length := by omega
        obtain ⟨b2, off2, hv2, hb2, _, _, d1⟩ := HR.out.at HI.out.2 hjl
        obtain ⟨e1, e2⟩ : b = b2 ∧ off = off2 := by injection hv2 with e1; injection e1 with e1 e2; exact ⟨e1, e2⟩
        subst e1 e2
        obtain ⟨y, hy⟩ : ∃ y, Y l (j + 1) = y := ⟨_, rfl⟩
        obtain ⟨z, hz⟩ : ∃ z, Y l j = z := ⟨_, rfl⟩
        rw [hy] at c1
        rw [hz] at d1
        have HY := Lib.hid hy
        have HZ := Lib.hid hz
        have e3 : ((j + 1 : Nat) : Int) - 1 = (j : Int) := by omega
        have e4 : IntKind.i64.wrap (((j + 1 : Nat) : Int) - 1) = (j : Int) := by rw [e3]; exact IntWalk.i64_in _ (by omega)
        have e4b : IntKind.i64.wrap ((j : Int) + 1 - 1) = (j : Int) := by rw [show (j : Int) + 1 - 1 = j by omega]; exact IntWalk.i64_in _ (by omega)
        have e4c : IntKind.i64.wrap (j : Int) = (j : Int) := IntWalk.i64_in _ (by omega)
        have e6 : (j : Int) < (n : Int) := by omega
        clear hy hz hv2 hk1
        by_cases hle : y < z
        · have HE := Lib.hid (show false = r by rw [← HU.out]; exact (up_no (by omega) hkl (by rw [Nat.add_sub_cancel, HY.out, HZ.out]; exact hle)).symm)
          clear hkl hjl
          go_wp2_with fail
          go_quiet (fail)
          go_wp2_with fail
          go_ret
          exact ⟨ret_bool HE.out, by repeat (first | exact HI.out.2 | refine Q.drewN ?_ _ | refine Q.drew ?_ | refine Q.alloc ?_ _)⟩
        · have hle' : decide (y < z) = false := decide_eq_false hle
          have HG := Lib.hid (show ∀ i, 0 < i → i < j + 1 + 1 → Y l (i - 1) ≤ Y l i from fun i h0 hi => by
            by_cases e : i = j + 1
            · subst e; rw [Nat.add_sub_cancel, HY.out, HZ.out]; omega
            · exact HI.out.1 i h0 (by omega))
          clear hkl hjl
          go_wp2_with fail
          go_quiet (fail)
          go_wp2_with fail
          go_roundw
          case rel => exact ⟨j + 1 + 1, by omega, by omega, by go_num, HG.out, by repeat (first | exact HI.out.2 | refine Q.drewN ?_ _ | refine Q.drew ?_ | refine Q.alloc ?_ _)⟩
          case measure => simp [intOf] <;> omega
      · obtain rfl : k = n := by omega
        have HE := Lib.hid (show true = r by rw [← HU.out]; exact (up_yes (by rw [HN.out]; exact HI.out.1)).symm)
        go_wp2_with fail
        go_ret
        exact ⟨ret_bool HE.out, HI.out.2⟩
  · have HE := Lib.hid (show false = r by rw [← h.out]; unfold riS; rw [he, decide_eq_false h0]; simp)
    have h0' : ((e : Int) != 0) = true := by simp; omega
    clear hc hn hl he h0
    go_enter Try.func15, Try.ntmps15
    go_wp2_with fail
    refine (Check_c _ l e HC _ HR.out HL.out).mono ?_; rintro E w1 ⟨rfl, hq1⟩
    have Q1 := Lib.hid hq1
    clear hq1
    go_wp2_with fail
    go_ret
    exact ⟨ret_bool HE.out, Q1.out⟩
set_option maxRecDepth 100000 in
set_option maxHeartbeats 1600000 in
theorem rRising_c (v : Value) (l : List P) (r : Bool) (h : Hid (riS l = r)) (w : World) (hr : RdP w v l) (hl : l.length ≤ 100) : Calls Try.prog 16 #[v] w fun e w' => e = .returned (.bool r) ∧ Q w w' := by
  have HR := Lib.hid hr
  have HL := Lib.hid (show l.length ≤ maxLen by unfold maxLen; omega)
  obtain ⟨A, c, rfl, hc, _⟩ := hr
  obtain ⟨n, hn⟩ : ∃ n, l.length = n := ⟨_, rfl⟩
  have HN := Lib.hid hn
  rw [hn] at HR
  rw [hn]
  rw [hn] at hl
  obtain ⟨e, he⟩ : ∃ e, chk l = e := ⟨_, rfl⟩
  have HC := Lib.hid he
  clear hc hn he
  go_enter Try.func16, Try.ntmps16
  go_wp2_with fail
  go_loopw [3] (fun u3 wr => ∃ k : Nat, 1 ≤ k ∧ k ≤ 101 ∧ u3 = .int .i64 k ∧ Hid ((∀ i, 0 < i → i < k → i < n → Y l (i - 1) ≤ Y l i) ∧ Q w wr)) (fun u3 _ => n - (intOf u3).toNat)
  case atStart => exact ⟨1, Nat.le_refl _, by omega, rfl, fun i _ hi => by omega, Q.refl _⟩
  case round =>
    obtain ⟨k, hk1, hk, rfl, HI⟩ := hrel
    by_cases hlt : k < n
    · have hkl : k < l.length := by rw [HN.out]; exact hlt
      obtain ⟨b, off, rfl, hb, hc, _, c1⟩ := HR.out.at HI.out.2 hkl
      obtain ⟨j, hj⟩ : ∃ j, k = j + 1 := ⟨k - 1, by omega⟩
      subst hj
      have hjl : j < l.length := by omega
      obtain ⟨b2, off2, hv2, hb2, _, _, d1⟩ := HR.out.at HI.out.2 hjl
      obtain ⟨e1, e2⟩ : b = b2 ∧ off = off2 := by injection hv2 with e1; injection e1 with e1 e2; exact ⟨e1, e2⟩
      subst e1 e2
      obtain ⟨y, hy⟩ : ∃ y, Y l (j + 1) = y := ⟨_, rfl⟩
      obtain ⟨z, hz⟩ : ∃ z, Y l j = z := ⟨_, rfl⟩
      rw [hy] at c1
      rw [hz] at d1
      have HY := Lib.hid hy
      have HZ := Lib.hid hz
      have e3 : ((j + 1 : Nat) : Int) - 1 = (j : Int) := by omega
      have e4 : IntKind.i64.wrap (((j + 1 : Nat) : Int) - 1) = (j : Int) := by rw [e3]; exact IntWalk.i64_in _ (by omega)
      have e4b : IntKind.i64.wrap ((j : Int) + 1 - 1) = (j : Int) := by rw [show (j : Int) + 1 - 1 = j by omega]; exact IntWalk.i64_in _ (by omega)
      have e4c : IntKind.i64.wrap (j : Int) = (j : Int) := IntWalk.i64_in _ (by omega)
      have e6 : (j : Int) < (n : Int) := by omega
      clear hy hz hv2 hk1
      by_cases hle : y < z
      · have HE := Lib.hid (show false = r by rw [← h.out]; unfold riS; rw [up_no (l := l) (k := j + 1) (by omega) hkl (by rw [Nat.add_sub_cancel, HY.out, HZ.out]; exact hle), Bool.and_false])
        clear hkl hjl
        go_wp2_with fail
        go_quiet (fail)
        go_wp2_with fail
        go_ret
        exact ⟨ret_bool HE.out, by repeat (first | exact HI.out.2 | refine Q.drewN ?_ _ | refine Q.drew ?_ | refine Q.alloc ?_ _)⟩
      · have hle' : decide (y < z) = false := decide_eq_false hle
        have HG := Lib.hid (show ∀ i, 0 < i → i < j + 1 + 1 → i < n → Y l (i - 1) ≤ Y l i from fun i h0 hi hn => by
          by_cases e : i = j + 1
          · subst e; rw [Nat.add_sub_cancel, HY.out, HZ.out]; omega
          · exact HI.out.1 i h0 (by omega) hn)
        clear hkl hjl
        go_wp2_with fail
        go_quiet (fail)
        go_wp2_with fail
        go_roundw
        case rel => exact ⟨j + 1 + 1, by omega, by omega, by go_num, HG.out, by repeat (first | exact HI.out.2 | refine Q.drewN ?_ _ | refine Q.drew ?_ | refine Q.alloc ?_ _)⟩
        case measure => simp [intOf] <;> omega
    · have hlt' : ¬ (k : Int) < (n : Int) := by omega
      have HU := Lib.hid (show upL l = true from up_yes fun i h0 hi => HI.out.1 i h0 (by rw [HN.out] at hi; omega) (by rw [HN.out] at hi; exact hi))
      have HQ := Lib.hid HI.out.2
      by_cases h0 : e = 0
      · have HE := Lib.hid (show true = r by rw [← h.out]; unfold riS; rw [HU.out, HC.out, h0]; rfl)
        have h0' : ((e : Int) == 0) = true := by subst h0; rfl
        clear h0
        go_wp2_with fail
        refine (rCheck_c _ l e HC _ (HR.out.q HQ.out) HL.out).mono ?_; rintro E w1 ⟨rfl, hq1⟩
        have Q1 := Lib.hid hq1
        clear hq1
        go_wp2_with fail
        go_ret
        exact ⟨ret_bool HE.out, HQ.out.trans Q1.out⟩
      · have HE := Lib.hid (show false = r by rw [← h.out]; unfold riS; rw [HU.out, HC.out, decide_eq_false h0]; rfl)
        have h0' : ((e : Int) == 0) = false := by simp; omega
        clear h0
        go_wp2_with fail
        refine (rCheck_c _ l e HC _ (HR.out.q HQ.out) HL.out).mono ?_; rintro E w1 ⟨rfl, hq1⟩
        have Q1 := Lib.hid hq1
        clear hq1
        go_wp2_with fail
        go_ret
        exact ⟨ret_bool HE.out, HQ.out.trans Q1.out⟩
end Go.Proofs.Ytlkgbfiaeedpfaa
