/- The contracts of workUntil and minuteAfter. -/
import Derived.Test.YthpopopodjgdaaaDoorMem
set_option linter.unusedVariables false
set_option linter.unusedSimpArgs false
namespace Go.Proofs.YthpopopodjgdaaaDoor
open Go.ChangeShapes Go.WideShapes Go.ChangeAt Go.RowKit Km

theorem wk_part {l : List P} (h : okL l) (m : Int) : ∀ k, k ≤ l.length → 0 ≤ wk l m k ∧ wk l m k ≤ SW l k
  | 0, _ => ⟨Int.le_refl _, Int.le_refl _⟩
  | k + 1, hk => by
    have h1 := wk_part h m k (by omega)
    have h2 := h.fu k (by omega)
    show 0 ≤ wk l m k + (min (max m (F l k)) (U l k) - F l k) ∧ wk l m k + (min (max m (F l k)) (U l k) - F l k) ≤ SW l k + (U l k - F l k)
    omega
theorem acc_bd {l : List P} (h : okL l) {q m : Int} (hq : 0 ≤ q) (hq2 : q ≤ 10000) {k : Nat} (hk : k ≤ l.length) : 0 ≤ q * SW l k + wk l m k ∧ q * SW l k + wk l m k ≤ 200000000 := by
  have h1 := wk_part h m k hk
  have h2 := SW_pos h k hk
  have h3 : SW l k ≤ 10080 := by
    have a := SW_mono h (i := k) (l.length - k) (by omega)
    rw [show k + (l.length - k) = l.length by omega] at a
    have := (W_bd h).2; omega
  have h4 : q * SW l k ≤ q * 10080 := Int.mul_le_mul_of_nonneg_left h3 hq
  have h5 : 0 ≤ q * SW l k := Int.mul_nonneg hq (by omega)
  omega
set_option maxRecDepth 100000 in
set_option maxHeartbeats 1600000 in
theorem workUntil_c (g : Nat) (l : List P) (at_ r : Int) (w : World) (hc : Hid (Cal w g l)) (ho : Hid (okL l)) (h0 : 0 ≤ at_) (h1 : at_ ≤ 50000000) (h : Hid (WU l at_ = r)) : Calls Tryd.prog 35 #[.pointer (some ⟨g, 0, none⟩), .int .i64 at_] w fun e w' => e = .returned (.int .i64 r) ∧ Q w w' := by
  obtain ⟨n, hn⟩ : ∃ n, l.length = n := ⟨_, rfl⟩
  have HN := Lib.hid hn
  have cn := hc.out.n
  rw [hn] at cn
  have hn1 : n ≤ 21 := by have := ho.out.few; omega
  obtain ⟨q, hq⟩ : ∃ q, at_ / 10080 = q := ⟨_, rfl⟩
  obtain ⟨m, hm⟩ : ∃ m, at_ % 10080 = m := ⟨_, rfl⟩
  have hq1 : at_.tdiv 10080 = q := by rw [Int.tdiv_eq_ediv_of_nonneg h0, hq]
  have hm1 : at_.tmod 10080 = m := by rw [Int.tmod_eq_emod_of_nonneg h0, hm]
  have hqb : 0 ≤ q ∧ q ≤ 10000 := by omega
  have hmb : 0 ≤ m ∧ m < 10080 := by omega
  have HR := Lib.hid (show q * SW l n + wk l m n = r by rw [← h.out]; unfold WU; rw [hq, hm, hn])
  have hw1 : wrap64 q = q := IntWalk.wrap64_in _ (by omega)
  have hw2 : wrap64 m = m := IntWalk.wrap64_in _ (by omega)
  obtain ⟨hqb1, hqb2⟩ := hqb
  obtain ⟨hmb1, hmb2⟩ := hmb
  have i21 : (n : Int) ≤ 21 := by omega
  clear hn hq hm
  go_enter Tryd.func35, Tryd.ntmps35
  go_wp2_with fail
  go_quiet (fail)
  go_wp2_with fail
  go_loopw [6, 20] (fun u6 u20 wr => ∃ (k : Nat) (a : Int), k ≤ n ∧ u6 = .int .i64 a ∧ u20 = .int .i64 k ∧ Hid (q * SW l k + wk l m k = a ∧ Q w wr)) (fun _ u20 _ => n - (intOf u20).toNat)
  case atStart => exact ⟨0, 0, Nat.zero_le _, rfl, rfl, by show q * 0 + 0 = 0; omega, (Q.refl _).drewN _⟩
  case round =>
    obtain ⟨k, a, hk, rfl, rfl, HI⟩ := hrel
    by_cases hlt : k < n
    · have hkl : k < l.length := by rw [HN.out]; exact hlt
      have c0 := (HI.out.2.cell (p := ⟨g, k * 2, none⟩) hc.out.lt).trans (hc.out.f k hkl)
      have c1 := (HI.out.2.cell (p := ⟨g, k * 2 + 1, none⟩) hc.out.lt).trans (hc.out.u k hkl)
      have hfu := ho.out.fu k hkl
      have hf0 := ho.out.f0 k hkl
      have huw := ho.out.uw k hkl
      have ha := acc_bd ho.out (q := q) (m := m) hqb1 hqb2 (k := k) (by omega)
      have ha2 := acc_bd ho.out (q := q) (m := m) hqb1 hqb2 (k := k + 1) (by omega)
      rw [HI.out.1] at ha
      have hnx : q * SW l (k + 1) + wk l m (k + 1) = a + q * (U l k - F l k) + (min (max m (F l k)) (U l k) - F l k) := by
        rw [← HI.out.1]
        show q * (SW l k + (U l k - F l k)) + (wk l m k + _) = _
        rw [Int.mul_add]; omega
      rw [hnx] at ha2
      obtain ⟨f, hf⟩ : ∃ f, F l k = f := ⟨_, rfl⟩
      obtain ⟨u, hu⟩ : ∃ u, U l k = u := ⟨_, rfl⟩
      rw [hf] at c0 hfu hf0 hnx ha2
      rw [hu] at c1 hfu huw hnx ha2
      obtain ⟨d, hd⟩ : ∃ d, u - f = d := ⟨_, rfl⟩
      obtain ⟨p, hp⟩ : ∃ p, q * d = p := ⟨_, rfl⟩
      have hpb : 0 ≤ p ∧ p ≤ 200000000 := by
        have h3 : q * d ≤ q * 10080 := Int.mul_le_mul_of_nonneg_left (by omega) hqb1
        have h4 : 0 ≤ q * d := Int.mul_nonneg hqb1 (by omega)
        omega
      obtain ⟨mx, hmx⟩ : ∃ y, max m f = y := ⟨_, rfl⟩
      obtain ⟨mn, hmn⟩ : ∃ y, min mx u = y := ⟨_, rfl⟩
      rw [hmx, hmn, hd, hp] at hnx ha2
      have rmx : ∀ ts ty W, (Builtin.max_ ts ty #[.int .i64 m, .int .i64 f]).run Tryd.prog W = .ok (.int .i64 mx) W := fun ts ty W => max_run ts ty m f mx W hmx
      have rmn : ∀ ts ty W, (Builtin.min_ ts ty #[.int .i64 mx, .int .i64 u]).run Tryd.prog W = .ok (.int .i64 mn) W := fun ts ty W => min_run ts ty mx u mn W hmn
      have r1 : wrap64 (u - f) = d := by rw [hd]; exact IntWalk.wrap64_in _ (by omega)
      have r2 : wrap64 (q * d) = p := by rw [hp]; exact IntWalk.wrap64_in _ (by omega)
      obtain ⟨s1, hs1⟩ : ∃ s, a + p = s := ⟨_, rfl⟩
      have r3 : wrap64 (a + p) = s1 := by rw [hs1]; exact IntWalk.wrap64_in _ (by omega)
      obtain ⟨e1, he1⟩ : ∃ s, mn - f = s := ⟨_, rfl⟩
      have r4 : wrap64 (mn - f) = e1 := by rw [he1]; exact IntWalk.wrap64_in _ (by omega)
      obtain ⟨s2, hs2⟩ : ∃ s, s1 + e1 = s := ⟨_, rfl⟩
      have r5 : wrap64 (s1 + e1) = s2 := by rw [hs2]; exact IntWalk.wrap64_in _ (by omega)
      have HX := Lib.hid (show q * SW l (k + 1) + wk l m (k + 1) = s2 by rw [hnx, he1, hs1, hs2])
      have HQ := Lib.hid HI.out.2
      have hkn : (k : Int) < (n : Int) := by omega
      clear HI hkl hfu hf0 huw ha ha2 hnx hf hu hd hp hpb hmx hmn hs1 he1 hs2
      go_wp2_with fail
      go_roundw
      case rel => exact ⟨k + 1, s2, by omega, by rw [r5], by go_num, HX.out, HQ.out.alloc _⟩
      case measure => simp [intOf] <;> omega
    · obtain rfl : k = n := by omega
      have HE := Lib.hid (show a = r by rw [← HR.out, HI.out.1])
      go_wp2_with fail
      go_ret
      exact ⟨ret_int HE.out, HI.out.2⟩
theorem WU_week {l : List P} (h : okL l) : WU l 10080 = SW l l.length := by
  unfold WU
  rw [show (10080 : Int) / 10080 = 1 from rfl, show (10080 : Int) % 10080 = 0 from rfl, wk_zero h]; omega
set_option maxRecDepth 100000 in
set_option maxHeartbeats 1600000 in
theorem minuteAfter_c (g : Nat) (l : List P) (k r : Int) (w : World) (hc : Hid (Cal w g l)) (ho : Hid (okL l)) (h0 : 0 ≤ k) (h1 : k ≤ 40000000) (h : Hid (kth l k = r)) : Calls Tryd.prog 34 #[.pointer (some ⟨g, 0, none⟩), .int .i64 k] w fun e w' => e = .returned (.int .i64 r) ∧ Q w w' := by
  obtain ⟨n, hn⟩ : ∃ n, l.length = n := ⟨_, rfl⟩
  have HN := Lib.hid hn
  have hn1 : n ≤ 21 := by have := ho.out.few; omega
  obtain ⟨W, hW⟩ : ∃ W, SW l n = W := ⟨_, rfl⟩
  have hWb := W_bd ho.out
  rw [hn, hW] at hWb
  obtain ⟨hWb1, hWb2⟩ := hWb
  have HW := Lib.hid (show WU l 10080 = W by rw [WU_week ho.out, hn, hW])
  obtain ⟨q, hq⟩ : ∃ q, k / W = q := ⟨_, rfl⟩
  obtain ⟨m, hm⟩ : ∃ m, k % W = m := ⟨_, rfl⟩
  have hq1 : k.tdiv W = q := by rw [Int.tdiv_eq_ediv_of_nonneg h0, hq]
  have hm1 : k.tmod W = m := by rw [Int.tmod_eq_emod_of_nonneg h0, hm]
  have hqb : 0 ≤ q ∧ q ≤ 40000000 := by
    rw [← hq]; exact ⟨Int.ediv_nonneg h0 (by omega), by have := Int.ediv_le_self W h0; omega⟩
  have hmb : 0 ≤ m ∧ m ≤ 10080 := by
    rw [← hm]; have a := Int.emod_nonneg k (show W ≠ 0 by omega); have b := Int.emod_lt_of_pos k (show 0 < W by omega); omega
  have HR := Lib.hid (show q * 10080 + ms l m n = r by rw [← h.out]; unfold kth; rw [hn, hW, hq, hm])
  have HMB := Lib.hid hmb
  have hw1 : wrap64 q = q := IntWalk.wrap64_in _ (by omega)
  have hw0 : (W == 0) = false := by simp; omega
  have hw0b : ¬ W = 0 := by omega
  have i21 : (n : Int) ≤ 21 := by omega
  have r9 : wrap64 (q * 10080) = q * 10080 := IntWalk.wrap64_in _ (by omega)
  have HQB := Lib.hid hqb
  clear hn hq hm hW hWb1 hWb2 hqb hmb
  go_enter Tryd.func34, Tryd.ntmps34
  go_wp2_with fail
  refine (workUntil_c g l 10080 W _ hc ho (by omega) (by omega) HW).mono ?_; rintro E w1 ⟨rfl, hq1'⟩
  have HC1 := Lib.hid (hc.out.q hq1')
  have Q1 := Lib.hid hq1'
  have cn := HC1.out.n
  rw [HN.out] at cn
  clear hq1'
  go_wp2_with fail
  go_quiet (fail)
  go_wp2_with fail
  go_loopw [6, 7, 24] (fun u6 u7 u24 wr => ∃ (j : Nat) (a p : Int), j ≤ n ∧ u6 = .int .i64 a ∧ u7 = .int .i64 p ∧ u24 = .int .i64 j ∧ Hid (ms l m j = a ∧ PU l j = p ∧ Q w1 wr)) (fun _ _ u24 _ => n - (intOf u24).toNat)
  case atStart => exact ⟨0, m, 0, Nat.zero_le _, rfl, rfl, rfl, rfl, rfl, (Q.refl _).drewN _⟩
  case round =>
    obtain ⟨j, a, p, hj, rfl, rfl, rfl, HI⟩ := hrel
    by_cases hlt : j < n
    · have hkl : j < l.length := by rw [HN.out]; exact hlt
      have c0 := (HI.out.2.2.cell (p := ⟨g, j * 2, none⟩) HC1.out.lt).trans (HC1.out.f j hkl)
      have c1 := (HI.out.2.2.cell (p := ⟨g, j * 2 + 1, none⟩) HC1.out.lt).trans (HC1.out.u j hkl)
      have hfu := ho.out.fu j hkl
      have hf0 := ho.out.f0 j hkl
      have huw := ho.out.uw j hkl
      have hpf := ho.out.up j hkl
      have hab := ms_bd ho.out (k := m) HMB.out.1 HMB.out.2 (i := j) (by omega)
      have hp0 : 0 ≤ p := by
        rw [← HI.out.2.1]
        by_cases e : j = 0
        · subst e; exact Int.le_refl _
        · obtain ⟨d, rfl⟩ : ∃ d, j = d + 1 := ⟨j - 1, by omega⟩
          rw [PU_succ]; have := ho.out.f0 d (by omega); have := ho.out.fu d (by omega); omega
      have hnx := ms_next (l := l) (k := m) j
      rw [HI.out.1, HI.out.2.1] at hnx
      rw [HI.out.1] at hab
      rw [HI.out.2.1] at hpf
      obtain ⟨f, hf⟩ : ∃ f, F l j = f := ⟨_, rfl⟩
      obtain ⟨u, hu⟩ : ∃ u, U l j = u := ⟨_, rfl⟩
      rw [hf] at c0 hfu hf0 hnx hpf
      rw [hu] at c1 hfu huw
      have HPN := Lib.hid (show PU l (j + 1) = u by rw [PU_succ, hu])
      have HQ := Lib.hid HI.out.2.2
      have hjn : (j : Int) < (n : Int) := by omega
      by_cases hpa : p ≤ a
      · rw [if_pos hpa] at hnx
        have hpa' : decide (p ≤ a) = true := decide_eq_true hpa
        obtain ⟨d, hd⟩ : ∃ d, f - p = d := ⟨_, rfl⟩
        have r1 : wrap64 (f - p) = d := by rw [hd]; exact IntWalk.wrap64_in _ (by omega)
        obtain ⟨b, hb⟩ : ∃ d', a + d = d' := ⟨_, rfl⟩
        have r2 : wrap64 (a + d) = b := by rw [hb]; exact IntWalk.wrap64_in _ (by omega)
        rw [hd, hb] at hnx
        have HX := Lib.hid hnx
        clear HI hkl hfu hf0 huw hpf hab hp0 hnx hf hu hd hb
        go_wp2_with fail
        go_roundw
        case rel => exact ⟨j + 1, b, u, by omega, by rw [r2], rfl, by go_num, HX.out, HPN.out, HQ.out.alloc _⟩
        case measure => simp [intOf] <;> omega
      · rw [if_neg hpa] at hnx
        have hpa' : decide (p ≤ a) = false := decide_eq_false hpa
        have HX := Lib.hid hnx
        clear HI hkl hfu hf0 huw hpf hab hp0 hnx hf hu
        go_wp2_with fail
        go_roundw
        case rel => exact ⟨j + 1, a, u, by omega, rfl, rfl, by go_num, HX.out, HPN.out, HQ.out.alloc _⟩
        case measure => simp [intOf] <;> omega
    · obtain rfl : j = n := by omega
      have hab := ms_bd ho.out (k := m) HMB.out.1 HMB.out.2 (i := j) (by rw [HN.out]; exact Nat.le_refl _)
      rw [HI.out.1] at hab
      have HE := Lib.hid (show wrap64 (q * 10080 + a) = r by rw [← HR.out, HI.out.1]; exact IntWalk.wrap64_in _ (by have := HQB.out; omega))
      have HQ := Lib.hid (Q1.out.trans HI.out.2.2)
      clear HI hab
      go_wp2_with fail
      go_ret
      exact ⟨ret_int (by first | exact HE.out | (rw [r9]; exact HE.out)), HQ.out⟩
end Go.Proofs.YthpopopodjgdaaaDoor
