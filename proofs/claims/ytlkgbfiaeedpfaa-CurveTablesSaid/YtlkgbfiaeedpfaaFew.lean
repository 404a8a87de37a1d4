/- The contract of few. -/
import Derived.Test.YtlkgbfiaeedpfaaArgs
set_option linter.unusedVariables false
set_option linter.unusedSimpArgs false
namespace Go.Proofs.Ytlkgbfiaeedpfaa
open Go.ChangeShapes Go.WideShapes Go.ChangeAt Go.RowKit Cm

/-- whatever few answers, 'true' says that the grid is small -/
def FewPost (xs ys : List Int) (vs : List (List Int)) (w : World) (e : Ending) (w' : World) : Prop := ∃ b, e = .returned (.bool b) ∧ (b = true → GrL xs ys vs) ∧ Q w w'
set_option maxRecDepth 100000 in
set_option maxHeartbeats 1600000 in
theorem few_c (v1 v2 v3 : Value) (xs ys : List Int) (vs : List (List Int)) (w : World) (h1 : RdI w v1 xs) (h2 : RdI w v2 ys) (h3 : RdV w v3 vs) (l1 : xs.length ≤ maxLen) (l2 : ys.length ≤ maxLen) (l3 : vs.length ≤ maxLen) (l4 : Hid (∀ i, (R vs i).length ≤ maxLen)) : Calls Try.prog 21 #[.agg #[v1, v2, v3]] w (FewPost xs ys vs w) := by
  have R3 := Lib.hid h3
  obtain ⟨A1, c1, rfl, hc1, _⟩ := h1
  obtain ⟨A2, c2, rfl, hc2, _⟩ := h2
  obtain ⟨A3, c3, rfl, hc3⟩ := h3.len
  obtain ⟨n, hn⟩ : ∃ n, xs.length = n := ⟨_, rfl⟩
  obtain ⟨m, hm⟩ : ∃ n, ys.length = n := ⟨_, rfl⟩
  obtain ⟨k, hk⟩ : ∃ n, vs.length = n := ⟨_, rfl⟩
  have HN := Lib.hid hn
  have HM := Lib.hid hm
  have HK := Lib.hid hk
  rw [hn] at hc1 l1
  rw [hm] at hc2 l2
  rw [hk] at R3 hc3 l3
  rw [hn, hm, hk]
  unfold maxLen at l1 l2 l3
  clear h3 hn hm hk
  have FIN := Lib.hid (show ∀ (w1 : World), Q (w.alloc (.cells #[.slice A1 n c1, .slice A2 m c2, .slice A3 k c3] 34)) w1 → Q w w1 from fun w1 h => Q.trans ((Q.refl w).alloc _) h)
  have B0 := Lib.hid (box3_new w (.slice A1 n c1) (.slice A2 m c2) (.slice A3 k c3) 34)
  by_cases g : n ≤ 40 ∧ m ≤ 40 ∧ k ≤ 40
  · obtain ⟨g1, g2, g3⟩ := g
    have f1 : ¬ (40 : Int) < (n : Int) := by omega
    have f2 : ¬ (40 : Int) < (m : Int) := by omega
    have f3 : ¬ (40 : Int) < (k : Int) := by omega
    have d1 : decide ((40 : Int) < (n : Int)) = false := decide_eq_false f1
    have d2 : decide ((40 : Int) < (m : Int)) = false := decide_eq_false f2
    have d3 : decide ((40 : Int) < (k : Int)) = false := decide_eq_false f3
    have HG := Lib.hid (show n ≤ 40 ∧ m ≤ 40 ∧ k ≤ 40 from ⟨g1, g2, g3⟩)
    clear l1 l2 l3 hc1 hc2
    go_enter Try.func21, Try.ntmps21
    go_wp2_with fail
    go_loopw [3] (fun u3 wr => ∃ j : Nat, j ≤ k ∧ u3 = .int .i64 j ∧ Hid ((∀ i, i < j → (R vs i).length ≤ 40) ∧ Q (w.alloc (.cells #[.slice A1 n c1, .slice A2 m c2, .slice A3 k c3] 34)) wr)) (fun u3 _ => k - (intOf u3).toNat)
    case atStart => exact ⟨0, Nat.zero_le _, rfl, fun i hi => by omega, Q.refl _⟩
    case round =>
      obtain ⟨j, hj, rfl, HI⟩ := hrel
      obtain ⟨b0, b1, b2, b3⟩ := B0.out.q HI.out.2
      by_cases hlt : j < k
      · have hkl : j < vs.length := by rw [HK.out]; exact hlt
        obtain ⟨b, off, A', c', rfl, hb, hcc, cj, hlc, _⟩ := R3.out.at (FIN.out _ HI.out.2) hkl
        obtain ⟨q, hq⟩ : ∃ q, (R vs j).length = q := ⟨_, rfl⟩
        rw [hq] at cj hlc
        have hq6 : q ≤ 9223372036854775807 := by have := l4.out j; unfold maxLen at this; omega
        have hjn : (j : Int) < (k : Int) := by omega
        have HQL := Lib.hid hq
        clear hkl hq
        by_cases h40 : (40 : Int) < (q : Int)
        · have h40' : decide ((40 : Int) < (q : Int)) = true := decide_eq_true h40
          go_wp2_with fail
          go_ret
          exact ⟨false, rfl, fun e => (by cases e), FIN.out _ (by repeat (first | exact HI.out.2 | refine Q.drewN ?_ _))⟩
        · have h40' : decide ((40 : Int) < (q : Int)) = false := decide_eq_false h40
          have HGN := Lib.hid (show ∀ i, i < j + 1 → (R vs i).length ≤ 40 from fun i hi => by
            by_cases e : i = j
            · rw [e, HQL.out]; omega
            · exact HI.out.1 i (by omega))
          go_wp2_with fail
          go_roundw
          case rel => exact ⟨j + 1, by omega, by go_num, HGN.out, by repeat (first | exact HI.out.2 | refine Q.drewN ?_ _)⟩
          case measure => simp [intOf] <;> omega
      · obtain rfl : j = k := by omega
        have HE := Lib.hid (show GrL xs ys vs from ⟨by rw [HN.out]; have := HG.out; omega, by rw [HM.out]; have := HG.out; omega, by rw [HK.out]; have := HG.out; omega, fun i => by
          by_cases e : i < j
          · have := HI.out.1 i e; omega
          · have : R vs i = [] := by unfold R; rw [List.getD_eq_getElem?_getD, List.getElem?_eq_none (by rw [HK.out]; omega)]; rfl
            rw [this]; exact Nat.zero_le _⟩)
        go_wp2_with fail
        go_ret
        exact ⟨true, rfl, fun _ => HE.out, FIN.out _ HI.out.2⟩
  · have f : (40 : Int) < (n : Int) ∨ ((¬ (40 : Int) < (n : Int)) ∧ (40 : Int) < (m : Int)) ∨ ((¬ (40 : Int) < (n : Int)) ∧ (¬ (40 : Int) < (m : Int)) ∧ (40 : Int) < (k : Int)) := by omega
    clear g hc1 hc2 l4
    rcases f with f1 | ⟨f1, f2⟩ | ⟨f1, f2, f3⟩
    · have d1 : decide ((40 : Int) < (n : Int)) = true := decide_eq_true f1
      go_enter Try.func21, Try.ntmps21
      go_wp2_with fail
      go_ret
      exact ⟨false, rfl, fun e => (by cases e), FIN.out _ (Q.refl _)⟩
    · have d1 : decide ((40 : Int) < (n : Int)) = false := decide_eq_false f1
      have d2 : decide ((40 : Int) < (m : Int)) = true := decide_eq_true f2
      go_enter Try.func21, Try.ntmps21
      go_wp2_with fail
      go_ret
      exact ⟨false, rfl, fun e => (by cases e), FIN.out _ (Q.refl _)⟩
    · have d1 : decide ((40 : Int) < (n : Int)) = false := decide_eq_false f1
      have d2 : decide ((40 : Int) < (m : Int)) = false := decide_eq_false f2
      have d3 : decide ((40 : Int) < (k : Int)) = true := decide_eq_true f3
      go_enter Try.func21, Try.ntmps21
      go_wp2_with fail
      go_ret
      exact ⟨false, rfl, fun e => (by cases e), FIN.out _ (Q.refl _)⟩
end Go.Proofs.Ytlkgbfiaeedpfaa
