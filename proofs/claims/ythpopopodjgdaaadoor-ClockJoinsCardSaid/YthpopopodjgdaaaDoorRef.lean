/- The contracts of the reference's Open, before, until, Work, Next and Add. -/
import Derived.Test.YthpopopodjgdaaaDoorRefM
import Derived.Test.YthpopopodjgdaaaDoorCheck
set_option linter.unusedVariables false
set_option linter.unusedSimpArgs false
namespace Go.Proofs.YthpopopodjgdaaaDoor
open Go.ChangeShapes Go.WideShapes Go.ChangeAt Go.RowKit Km

set_option maxRecDepth 100000 in
set_option maxHeartbeats 1600000 in
theorem rOpen_c (v : Value) (l : List P) (t : Int) (b : Bool) (w : World) (hr : RdP w v l) (ho : Hid (okL l)) (h : Hid (openS l t = b)) : Calls Tryd.prog 21 #[v, .int .i64 t] w fun e w' => e = .returned (.bool b) ∧ Q w w' := by
  have HR := Lib.hid hr
  obtain ⟨A, c, rfl, hc, _⟩ := hr
  obtain ⟨n, hn⟩ : ∃ n, l.length = n := ⟨_, rfl⟩
  have HN := Lib.hid hn
  rw [hn] at HR
  rw [hn]
  have hn1 : n ≤ 21 := by have := ho.out.few; omega
  obtain ⟨d, hd⟩ : ∃ d, isT t = d := ⟨_, rfl⟩
  have HD := Lib.hid hd
  clear hn hc
  cases d with
  | false =>
    have HE := Lib.hid (show false = b by rw [← h.out]; exact (openS_not ho.out fun e => by rw [hd] at e; cases e).symm)
    clear hd
    go_enter Tryd.func21, Tryd.ntmps21
    go_wp2_with fail
    refine (rIsTime_c t false HD _).mono ?_; rintro E w1 ⟨rfl, rfl⟩
    go_wp2_with fail
    go_ret
    exact ⟨ret_bool HE.out, Q.refl _⟩
  | true =>
    have tb := isT_yes hd
    obtain ⟨m, hm⟩ : ∃ m, t % 10080 = m := ⟨_, rfl⟩
    have hm1 : t.tmod 10080 = m := by rw [Int.tmod_eq_emod_of_nonneg tb.1, hm]
    have HM := Lib.hid hm
    clear hd hm tb
    go_enter Tryd.func21, Tryd.ntmps21
    go_wp2_with fail
    refine (rIsTime_c t true HD _).mono ?_; rintro E w1 ⟨rfl, rfl⟩
    go_wp2_with fail
    go_loopw [6] (fun u6 wr => ∃ k : Nat, k ≤ n ∧ u6 = .int .i64 k ∧ Hid ((∀ i, i < k → ¬ (F l i ≤ m ∧ m < U l i)) ∧ Q w wr)) (fun u6 _ => n - (intOf u6).toNat)
    case atStart => exact ⟨0, Nat.zero_le _, rfl, fun i hi => by omega, Q.refl _⟩
    case round =>
      obtain ⟨k, hk, rfl, HI⟩ := hrel
      by_cases hlt : k < n
      · have hkl : k < l.length := by rw [HN.out]; exact hlt
        obtain ⟨bb, off, rfl, hb, hcc, c0, c1⟩ := HR.out.at HI.out.2 hkl
        obtain ⟨x, hx⟩ : ∃ x, F l k = x := ⟨_, rfl⟩
        obtain ⟨y, hy⟩ : ∃ y, U l k = y := ⟨_, rfl⟩
        rw [hx] at c0
        rw [hy] at c1
        have HXY := Lib.hid (And.intro hx (And.intro hy hkl))
        have hkn : (k : Int) < (n : Int) := by omega
        clear hx hy hkl
        by_cases h1 : x ≤ m
        · have h1' : decide (x ≤ m) = true := decide_eq_true h1
          by_cases h2 : m < y
          · have h2' : decide (m < y) = true := decide_eq_true h2
            have HE := Lib.hid (show true = b by rw [← h.out]; exact (openS_of ho.out HD.out ⟨k, HXY.out.2.2, by rw [HXY.out.1, HM.out]; exact h1, by rw [HXY.out.2.1, HM.out]; exact h2⟩).symm)
            go_wp2_with fail
            (try go_quiet (fail))
            go_wp2_with fail
            go_ret
            exact ⟨ret_bool HE.out, by repeat (first | exact HI.out.2 | refine Q.drewN ?_ _)⟩
          · have h2' : decide (m < y) = false := decide_eq_false h2
            have HG := Lib.hid (show ∀ i, i < k + 1 → ¬ (F l i ≤ m ∧ m < U l i) from fun i hi => by
              by_cases e : i = k
              · subst e; rw [HXY.out.1, HXY.out.2.1]; omega
              · exact HI.out.1 i (by omega))
            go_wp2_with fail
            (try go_quiet (fail))
            go_wp2_with fail
            go_roundw
            case rel => exact ⟨k + 1, by omega, by go_num, HG.out, by repeat (first | exact HI.out.2 | refine Q.drewN ?_ _)⟩
            case measure => simp [intOf] <;> omega
        · have h1' : decide (x ≤ m) = false := decide_eq_false h1
          have HG := Lib.hid (show ∀ i, i < k + 1 → ¬ (F l i ≤ m ∧ m < U l i) from fun i hi => by
            by_cases e : i = k
            · subst e; rw [HXY.out.1, HXY.out.2.1]; omega
            · exact HI.out.1 i (by omega))
          go_wp2_with fail
          (try go_quiet (fail))
          go_wp2_with fail
          go_roundw
          case rel => exact ⟨k + 1, by omega, by go_num, HG.out, by repeat (first | exact HI.out.2 | refine Q.drewN ?_ _)⟩
          case measure => simp [intOf] <;> omega
      · obtain rfl : k = n := by omega
        have HE := Lib.hid (show false = b by
          rw [← h.out]
          refine (openS_not ho.out fun _ => ?_).symm
          rintro ⟨i, hi, h1, h2⟩
          rw [HM.out] at h1 h2
          exact HI.out.1 i (by rw [← HN.out]; exact hi) ⟨h1, h2⟩)
        go_wp2_with fail
        go_ret
        exact ⟨ret_bool HE.out, HI.out.2⟩
set_option maxRecDepth 100000 in
set_option maxHeartbeats 1600000 in
theorem rBefore_c (v : Value) (l : List P) (m r : Int) (w : World) (hr : RdP w v l) (ho : Hid (okL l)) (h0 : 0 ≤ m) (h1 : m ≤ 10080) (h : Hid (wk l m l.length = r)) : Calls Tryd.prog 48 #[v, .int .i64 m] w fun e w' => e = .returned (.int .i64 r) ∧ Q w w' := by
  have HR := Lib.hid hr
  obtain ⟨A, c, rfl, hc, _⟩ := hr
  obtain ⟨n, hn⟩ : ∃ n, l.length = n := ⟨_, rfl⟩
  have HN := Lib.hid hn
  rw [hn] at HR
  rw [hn]
  have hn1 : n ≤ 21 := by have := ho.out.few; omega
  clear hn hc
  go_enter Tryd.func48, Tryd.ntmps48
  go_wp2_with fail
  go_loopw [5, 6] (fun u5 u6 wr => ∃ (k : Nat) (a : Int), k ≤ n ∧ u5 = .int .i64 a ∧ u6 = .int .i64 k ∧ Hid (wk l m k = a ∧ Q w wr)) (fun _ u6 _ => n - (intOf u6).toNat)
  case atStart => exact ⟨0, 0, Nat.zero_le _, rfl, rfl, rfl, Q.refl _⟩
  case round =>
    obtain ⟨k, a, hk, rfl, rfl, HI⟩ := hrel
    by_cases hlt : k < n
    · have hkl : k < l.length := by rw [HN.out]; exact hlt
      obtain ⟨bb, off, rfl, hb, hcc, c0, c1⟩ := HR.out.at HI.out.2 hkl
      have ha := wk_part ho.out m k (by omega)
      have ha2 := wk_part ho.out m (k + 1) (by omega)
      have hs := SW_le ho.out k (by omega)
      have hs2 := SW_le ho.out (k + 1) (by omega)
      have hpu := ho.out.up k hkl
      have hfu := ho.out.fu k hkl
      have hf0 := ho.out.f0 k hkl
      have huw := ho.out.uw k hkl
      rw [PU_succ] at hs2
      have hnx := wk_term ho.out (m := m) hkl
      rw [HI.out.1] at ha hnx
      obtain ⟨x, hx⟩ : ∃ x, F l k = x := ⟨_, rfl⟩
      obtain ⟨y, hy⟩ : ∃ y, U l k = y := ⟨_, rfl⟩
      rw [hx] at c0 hfu hf0 hpu
      rw [hy] at c1 hfu huw hs2
      rw [hx, hy] at hnx
      obtain ⟨mn, hmn⟩ : ∃ z, min m y = z := ⟨_, rfl⟩
      obtain ⟨d, hd⟩ : ∃ z, mn - x = z := ⟨_, rfl⟩
      obtain ⟨mx, hmx⟩ : ∃ z, max 0 d = z := ⟨_, rfl⟩
      rw [hmn, hd, hmx] at hnx
      have rmn : ∀ ts ty W, (Builtin.min_ ts ty #[.int .i64 m, .int .i64 y]).run Tryd.prog W = .ok (.int .i64 mn) W := fun ts ty W => min_run ts ty m y mn W hmn
      have rmx : ∀ ts ty W, (Builtin.max_ ts ty #[.int .i64 0, .int .i64 d]).run Tryd.prog W = .ok (.int .i64 mx) W := fun ts ty W => max_run ts ty 0 d mx W hmx
      have r1 : wrap64 (mn - x) = d := by rw [hd]; exact IntWalk.wrap64_in _ (by omega)
      obtain ⟨s, hs1⟩ : ∃ s, a + mx = s := ⟨_, rfl⟩
      have r2 : wrap64 (a + mx) = s := by rw [hs1]; exact IntWalk.wrap64_in _ (by omega)
      have HX := Lib.hid (show wk l m (k + 1) = s by rw [hnx, hs1])
      have HQ := Lib.hid HI.out.2
      have hkn : (k : Int) < (n : Int) := by omega
      clear HI hkl ha ha2 hs hs2 hpu hfu hf0 huw hnx hx hy hmn hd hmx hs1
      go_wp2_with fail
      (try go_quiet (fail))
      go_wp2_with fail
      go_roundw
      case rel => exact ⟨k + 1, s, by omega, by first | rfl | rw [r2], by go_num, HX.out, by repeat (first | exact HQ.out | refine Q.drewN ?_ _)⟩
      case measure => simp [intOf] <;> omega
    · obtain rfl : k = n := by omega
      have HE := Lib.hid (show a = r by rw [← h.out, HN.out, HI.out.1])
      go_wp2_with fail
      go_ret
      exact ⟨ret_int HE.out, HI.out.2⟩
set_option maxRecDepth 100000 in
set_option maxHeartbeats 1600000 in
theorem rUntil_c (v : Value) (l : List P) (t r : Int) (w : World) (hr : RdP w v l) (ho : Hid (okL l)) (ht : Hid (isT t = true)) (h : Hid (WU l t = r)) : Calls Tryd.prog 37 #[v, .int .i64 t] w fun e w' => e = .returned (.int .i64 r) ∧ Q w w' := by
  have HR := Lib.hid hr
  obtain ⟨A, c, rfl, hc, _⟩ := hr
  have tb := isT_yes ht.out
  obtain ⟨q, hq⟩ : ∃ q, t / 10080 = q := ⟨_, rfl⟩
  obtain ⟨m, hm⟩ : ∃ m, t % 10080 = m := ⟨_, rfl⟩
  have hq1 : t.tdiv 10080 = q := by rw [Int.tdiv_eq_ediv_of_nonneg tb.1, hq]
  have hm1 : t.tmod 10080 = m := by rw [Int.tmod_eq_emod_of_nonneg tb.1, hm]
  obtain ⟨W, hW⟩ : ∃ W, SW l l.length = W := ⟨_, rfl⟩
  obtain ⟨k, hk⟩ : ∃ k, wk l m l.length = k := ⟨_, rfl⟩
  have HW := Lib.hid (show wk l 10080 l.length = W by rw [wk_week ho.out, hW])
  have HK := Lib.hid hk
  have hwb := W_bd ho.out
  rw [hW] at hwb
  have hkb := wk_bd ho.out (m := m) (by omega)
  rw [hk, hW] at hkb
  have hp : 0 ≤ q * W ∧ q * W ≤ 10000000 := by
    have h3 : q * W ≤ q * 10080 := Int.mul_le_mul_of_nonneg_left hwb.2 (by omega)
    have h4 : 0 ≤ q * W := Int.mul_nonneg (by omega) (by omega)
    omega
  obtain ⟨p, hpe⟩ : ∃ p, q * W = p := ⟨_, rfl⟩
  rw [hpe] at hp
  have HE := Lib.hid (show p + k = r by rw [← h.out]; unfold WU; rw [hq, hm, hW, hk, hpe])
  have r1 : wrap64 (q * W) = p := by rw [hpe]; exact IntWalk.wrap64_in _ (by omega)
  have r2 : wrap64 (p + k) = p + k := IntWalk.wrap64_in _ (by omega)
  have hw1 : wrap64 q = q := IntWalk.wrap64_in _ (by omega)
  have HMB := Lib.hid (show 0 ≤ m ∧ m ≤ 10080 by omega)
  clear tb hq hm hW hk hwb hkb hp hpe
  go_enter Tryd.func37, Tryd.ntmps37
  go_wp2_with fail
  refine (rBefore_c _ l 10080 W _ HR.out ho (by omega) (by omega) HW).mono ?_; rintro E w1 ⟨rfl, hq1'⟩
  have Q1 := Lib.hid hq1'
  clear hq1'
  go_wp2_with fail
  refine (rBefore_c _ l m k _ (RdG.q HR.out Q1.out) ho HMB.out.1 HMB.out.2 HK).mono ?_; rintro E w2 ⟨rfl, hq2⟩
  have Q2 := Lib.hid (Q1.out.trans hq2)
  clear hq2
  go_wp2_with fail
  go_ret
  exact ⟨ret_int (by first | exact HE.out | (rw [r2]; exact HE.out)), Q2.out⟩
set_option maxHeartbeats 1600000 in
theorem rWork_c (v : Value) (l : List P) (s t x : Int) (w : World) (hr : RdP w v l) (ho : Hid (okL l)) (h : Hid (workS l s t = x)) : Calls Tryd.prog 23 #[v, .int .i64 s, .int .i64 t] w fun r w' => r = .returned (.int .i64 x) ∧ Q w w' := by
  have HR := Lib.hid hr
  obtain ⟨A, c, rfl, hc, _⟩ := hr
  obtain ⟨b, hb⟩ : ∃ b, isT s = b := ⟨_, rfl⟩
  obtain ⟨d, hd⟩ : ∃ b, isT t = b := ⟨_, rfl⟩
  have HB := Lib.hid hb
  have HD := Lib.hid hd
  by_cases hgo : b = true ∧ d = true ∧ s ≤ t
  · obtain ⟨rfl, rfl, hst⟩ := hgo
    obtain ⟨k, hk⟩ : ∃ k, WU l t = k := ⟨_, rfl⟩
    obtain ⟨j, hj⟩ : ∃ k, WU l s = k := ⟨_, rfl⟩
    have HK := Lib.hid hk
    have HJ := Lib.hid hj
    have hkb := WU_small ho.out hd
    have hjb := WU_small ho.out hb
    rw [hk] at hkb
    rw [hj] at hjb
    have r1 : wrap64 (k - j) = k - j := IntWalk.wrap64_in _ (by omega)
    have HE := Lib.hid (show k - j = x by rw [← h.out]; unfold workS; rw [if_pos ⟨hb, hd, hst⟩, hk, hj])
    have n1 : ¬ t < s := by omega
    have n2 : decide (t < s) = false := decide_eq_false n1
    clear hb hd hk hj hkb hjb hst hc
    go_enter Tryd.func23, Tryd.ntmps23
    go_wp2_with fail
    refine (rIsTime_c s true HB _).mono ?_; rintro E w1 ⟨rfl, rfl⟩
    go_wp2_with fail
    refine (rIsTime_c t true HD _).mono ?_; rintro E w1 ⟨rfl, rfl⟩
    go_wp2_with fail
    refine (rUntil_c _ l t k _ HR.out ho HD HK).mono ?_; rintro E w1 ⟨rfl, hq1⟩
    have Q1 := Lib.hid hq1
    clear hq1
    go_wp2_with fail
    refine (rUntil_c _ l s j _ (RdG.q HR.out Q1.out) ho HB HJ).mono ?_; rintro E w2 ⟨rfl, hq2⟩
    have Q2 := Lib.hid (Q1.out.trans hq2)
    clear hq2
    go_wp2_with fail
    go_ret
    exact ⟨ret_int (by first | exact HE.out | (rw [r1]; exact HE.out)), Q2.out⟩
  · have HE := Lib.hid (show 0 = x by rw [← h.out]; unfold workS; rw [hb, hd, if_neg hgo])
    have hgo2 : b = false ∨ (b = true ∧ d = false) ∨ (b = true ∧ d = true ∧ t < s) := by
      cases b <;> cases d <;> simp at hgo ⊢ <;> omega
    clear hb hd hgo hc
    rcases hgo2 with rfl | ⟨rfl, rfl⟩ | ⟨rfl, rfl, hst⟩
    · go_enter Tryd.func23, Tryd.ntmps23
      go_wp2_with fail
      refine (rIsTime_c s false HB _).mono ?_; rintro E w1 ⟨rfl, rfl⟩
      go_wp2_with fail
      go_ret
      exact ⟨ret_int HE.out, Q.refl _⟩
    · go_enter Tryd.func23, Tryd.ntmps23
      go_wp2_with fail
      refine (rIsTime_c s true HB _).mono ?_; rintro E w1 ⟨rfl, rfl⟩
      go_wp2_with fail
      refine (rIsTime_c t false HD _).mono ?_; rintro E w1 ⟨rfl, rfl⟩
      go_wp2_with fail
      go_ret
      exact ⟨ret_int HE.out, Q.refl _⟩
    · have n2 : decide (t < s) = true := decide_eq_true hst
      go_enter Tryd.func23, Tryd.ntmps23
      go_wp2_with fail
      refine (rIsTime_c s true HB _).mono ?_; rintro E w1 ⟨rfl, rfl⟩
      go_wp2_with fail
      refine (rIsTime_c t true HD _).mono ?_; rintro E w1 ⟨rfl, rfl⟩
      go_wp2_with fail
      go_ret
      exact ⟨ret_int HE.out, Q.refl _⟩
end Go.Proofs.YthpopopodjgdaaaDoor
