/- Contracts of the small functions of ident and of its reference: names, letters, numbers. -/
import Derived.Test.YtdebkicmoocnmaaMath
import Derived.Test.YtdebkicmoocnmaaRows
import Derived.WalkSpells
import Derived.Lib.Hide
set_option linter.unusedVariables false
set_option linter.unusedSimpArgs false
namespace Go.Proofs.Ytdebkicmoocnmaa
open Go.ChangeShapes Go.WideShapes Go.ChangeAt Go.RowKit Idm

theorem ret_bool {a b : Bool} (h : a = b) : Ending.returned (.bool a) = .returned (.bool b) := by rw [h]
theorem ret_int {k : IntKind} {a b : Int} (h : a = b) : Ending.returned (.int k a) = .returned (.int k b) := by rw [h]

theorem isSmall_c (c : Int) (w : World) : Calls Try.prog 24 #[.int .u8 c] w fun e w' => e = .returned (.bool (smB c)) ∧ w = w' := by
  go_enter Try.func24, Try.ntmps24
  go_wp2
  all_goals (go_ret; exact ⟨ret_bool (by unfold smB; simp; try omega), rfl⟩)
theorem isDigit_c (c : Int) (w : World) : Calls Try.prog 25 #[.int .u8 c] w fun e w' => e = .returned (.bool (dgB c)) ∧ w = w' := by
  go_enter Try.func25, Try.ntmps25
  go_wp2
  all_goals (go_ret; exact ⟨ret_bool (by unfold dgB; simp; try omega), rfl⟩)
theorem isCapital_c (c : Int) (w : World) : Calls Try.prog 27 #[.int .u8 c] w fun e w' => e = .returned (.bool (cpB c)) ∧ w = w' := by
  go_enter Try.func27, Try.ntmps27
  go_wp2
  all_goals (go_ret; exact ⟨ret_bool (by unfold cpB; simp; try omega), rfl⟩)
theorem rdigit_c (c : Int) (w : World) : Calls Try.prog 26 #[.int .u8 c] w fun e w' => e = .returned (.bool (dgB c)) ∧ w = w' := by
  go_enter Try.func26, Try.ntmps26
  go_wp2
  all_goals (go_ret; exact ⟨ret_bool (by unfold dgB; simp; try omega), rfl⟩)
theorem rcapital_c (c : Int) (w : World) : Calls Try.prog 28 #[.int .u8 c] w fun e w' => e = .returned (.bool (cpB c)) ∧ w = w' := by
  go_enter Try.func28, Try.ntmps28
  go_wp2
  all_goals (go_ret; exact ⟨ret_bool (by unfold cpB; simp; try omega), rfl⟩)

set_option maxHeartbeats 400000 in
theorem Letter_c (s : ByteArray) (w : World) (hs : s.size < 4001) : Calls Try.prog 14 #[.string s] w fun e w' => e = .returned (.int .u8 (65 + lm (bt s) s.size)) ∧ w = w' := by
  go_enter Try.func14, Try.ntmps14
  go_wp2
  go_loop [3, 7] (fun m i => ∃ k : Nat, k ≤ s.size ∧ i = .int .i64 k ∧ m = .int .i64 (lm (bt s) k)) (fun _ i => s.size - (intOf i).toNat)
  case atStart => exact ⟨0, Nat.zero_le _, rfl, rfl⟩
  case round =>
    obtain ⟨k, hk, rfl, rfl⟩ := hrel
    have hm := lm_bd (bt s) k
    by_cases hlt : k < s.size
    · go_wp2
      go_round
      case rel => exact ⟨k + 1, by omega, by go_num, by rw [lm_succ, bt_eq s k hlt, l_step _ k _ (by omega) hm (bt_bd s k)]⟩
      case measure => simp [intOf]; omega
    · obtain rfl : k = s.size := by omega
      go_wp2
      go_ret
      exact ⟨rfl, rfl⟩
set_option maxHeartbeats 400000 in
theorem rLetter_c (s : ByteArray) (w : World) (hs : s.size < 4001) : Calls Try.prog 15 #[.string s] w fun e w' => e = .returned (.int .u8 (65 + lm (bt s) s.size)) ∧ w = w' := by
  go_enter Try.func15, Try.ntmps15
  go_wp2
  go_loop [3, 4] (fun m i => ∃ k : Nat, k ≤ s.size ∧ i = .int .i64 k ∧ m = .int .i64 (lm (bt s) k)) (fun _ i => s.size - (intOf i).toNat)
  case atStart => exact ⟨0, Nat.zero_le _, rfl, rfl⟩
  case round =>
    obtain ⟨k, hk, rfl, rfl⟩ := hrel
    have hm := lm_bd (bt s) k
    by_cases hlt : k < s.size
    · go_wp2
      go_round
      case rel => exact ⟨k + 1, by omega, by go_num, by rw [lm_succ, bt_eq s k hlt, l_alt _ k _ (by omega) hm (bt_bd s k)]⟩
      case measure => simp [intOf]; omega
    · obtain rfl : k = s.size := by omega
      go_wp2
      go_ret
      exact ⟨rfl, rfl⟩
set_option maxHeartbeats 400000 in
theorem IsName_c (s : ByteArray) (w : World) (hs : s.size ≤ maxLen) : Calls Try.prog 12 #[.string s] w fun e w' => e = .returned (.bool (isN s)) ∧ w = w' := by
  unfold maxLen at hs
  by_cases h1 : 1 ≤ s.size ∧ s.size ≤ 16
  · obtain ⟨h11, h12⟩ := h1
    go_enter Try.func12, Try.ntmps12
    go_wp2_with fail
    refine (isSmall_c _ w).mono ?_
    rintro e w' ⟨rfl, rfl⟩
    rw [bt_eq s 0 (by omega)]
    cases hb : smB (bt s 0) with
    | false =>
      go_wp2_with fail
      go_ret
      exact ⟨ret_bool (isN_at (k := 0) (by omega) (by unfold nmB; rw [hb]; rfl)).symm, rfl⟩
    | true =>
      have HB := Lib.hid hb; clear hb
      go_wp2_with fail
      go_loop [20] (fun i => ∃ k : Nat, k ≤ s.size ∧ i = .int .i64 k ∧ Hid (okB s k = true)) (fun i => s.size - (intOf i).toNat)
      case atStart => exact ⟨0, Nat.zero_le _, rfl, rfl⟩
      case round =>
        obtain ⟨k, hk, rfl, HO⟩ := hrel
        by_cases hlt : k < s.size
        · go_wp2_with fail
          refine (isSmall_c _ w).mono ?_
          rintro e w' ⟨rfl, rfl⟩
          rw [bt_eq s k (by omega)]
          cases h1 : smB (bt s k) with
          | true =>
            have HN := Lib.hid (ok_step HO.out (nm_sm (k := k) h1)); clear h1
            go_wp2_with fail
            go_round
            case rel => exact ⟨k + 1, by omega, by go_num, HN⟩
            case measure => simp [intOf]; omega
          | false =>
            have HZ := Lib.hid (nz_of HB.out h1)
            have H1 := Lib.hid h1; clear h1
            go_wp2_with fail
            refine (isDigit_c _ w).mono ?_
            rintro e w' ⟨rfl, rfl⟩
            rw [bt_eq s k (by omega)]
            cases h2 : dgB (bt s k) with
            | true =>
              have HN := Lib.hid (ok_step HO.out (nm_dg HZ.out h2)); clear h2
              go_wp2_with fail
              go_round
              case rel => exact ⟨k + 1, by omega, by go_num, HN⟩
              case measure => simp [intOf]; omega
            | false =>
              have H2 := Lib.hid h2; clear h2
              have hbe := bt_eq s k hlt
              by_cases h3 : bt s k = 95
              · have HN := Lib.hid (ok_step HO.out (nm_us HZ.out h3))
                have h4 : ((s[k].toNat : Int) != 95) = false := by rw [hbe, h3]; rfl
                clear hbe h3
                go_wp2_with fail
                go_round
                case rel => exact ⟨k + 1, by omega, by go_num, HN⟩
                case measure => simp [intOf]; omega
              · have HN := Lib.hid (isN_at hlt (nm_no (k := k) H1.out H2.out h3))
                have h4 : ((s[k].toNat : Int) != 95) = true := by rw [hbe, bne_iff_ne]; exact h3
                clear hbe h3
                go_wp2_with fail
                go_ret
                exact ⟨ret_bool HN.out.symm, rfl⟩
        · obtain rfl : k = s.size := by omega
          go_wp2_with fail
          go_ret
          exact ⟨ret_bool (isN_all h11 h12 HO.out).symm, rfl⟩
  · have HL := Lib.hid (isN_len (s := s) (by omega))
    go_enter Try.func12, Try.ntmps12
    go_wp2_with fail
    all_goals (go_ret; exact ⟨ret_bool HL.out.symm, rfl⟩)
set_option maxHeartbeats 400000 in
theorem rIsName_c (s : ByteArray) (w : World) (hs : s.size ≤ maxLen) : Calls Try.prog 13 #[.string s] w fun e w' => e = .returned (.bool (isN s)) ∧ w = w' := by
  unfold maxLen at hs
  by_cases h1 : 1 ≤ s.size ∧ s.size ≤ 16
  · obtain ⟨h11, h12⟩ := h1
    go_enter Try.func13, Try.ntmps13
    go_wp2_with fail
    go_loop [3] (fun i => ∃ k : Nat, k ≤ s.size ∧ i = .int .i64 k ∧ Hid (okB s k = true)) (fun i => s.size - (intOf i).toNat)
    case atStart => exact ⟨0, Nat.zero_le _, rfl, rfl⟩
    case round =>
      obtain ⟨k, hk, rfl, HO⟩ := hrel
      by_cases hlt : k < s.size
      · have hbe := bt_eq s k hlt
        by_cases h2 : smB (bt s k) = true
        · have HN := Lib.hid (ok_step HO.out (nm_sm (k := k) h2))
          have h3 : 97 ≤ (s[k].toNat : Int) := by rw [hbe]; unfold smB at h2; simp at h2; omega
          have h4 : (s[k].toNat : Int) ≤ 122 := by rw [hbe]; unfold smB at h2; simp at h2; omega
          clear hbe h2
          go_wp2_with fail
          go_round
          case rel => exact ⟨k + 1, by omega, by go_num, HN⟩
          case measure => simp [intOf]; omega
        · have h2' : smB (bt s k) = false := by simpa using h2
          have h34 : ¬ 97 ≤ (s[k].toNat : Int) ∨ (97 ≤ (s[k].toNat : Int) ∧ ¬ (s[k].toNat : Int) ≤ 122) := by
            rw [hbe]; unfold smB at h2'; simp at h2'; omega
          have H2 := Lib.hid h2'; clear h2 h2'
          by_cases hk0 : k = 0
          · subst hk0
            have HN := Lib.hid (isN_at hlt (nm_zero H2.out))
            clear hbe
            rcases h34 with h3 | ⟨h3, h4⟩
            all_goals (go_wp2_with fail; go_ret; exact ⟨ret_bool HN.out.symm, rfl⟩)
          · have hk1 : ((k : Int) == 0) = false := by simp; omega
            by_cases h5 : bt s k = 95
            · have HN := Lib.hid (ok_step HO.out (nm_us hk0 h5))
              have h4 : ((s[k].toNat : Int) != 95) = false := by rw [hbe, h5]; rfl
              have h3 : ¬ 97 ≤ (s[k].toNat : Int) := by rw [hbe, h5]; omega
              clear hbe h5 h34
              go_wp2_with fail
              go_round
              case rel => exact ⟨k + 1, by omega, by go_num, HN⟩
              case measure => simp [intOf]; omega
            · have H5 := Lib.hid h5
              have h6 : ((s[k].toNat : Int) != 95) = true := by rw [hbe, bne_iff_ne]; exact h5
              clear hbe h5
              rcases h34 with h3 | ⟨h3, h4⟩
              all_goals
                go_wp2_with fail
                refine (rdigit_c _ w).mono ?_
                rintro e w' ⟨rfl, rfl⟩
                rw [bt_eq s k (by omega)]
                cases h7 : dgB (bt s k) with
                | true =>
                  have HN := Lib.hid (ok_step HO.out (nm_dg hk0 h7)); clear h7
                  go_wp2_with fail
                  go_round
                  case rel => exact ⟨k + 1, by omega, by go_num, HN⟩
                  case measure => simp [intOf]; omega
                | false =>
                  have HN := Lib.hid (isN_at hlt (nm_no (k := k) H2.out h7 H5.out)); clear h7
                  go_wp2_with fail
                  go_ret
                  exact ⟨ret_bool HN.out.symm, rfl⟩
      · obtain rfl : k = s.size := by omega
        go_wp2_with fail
        go_ret
        exact ⟨ret_bool (isN_all h11 h12 HO.out).symm, rfl⟩
  · have HL := Lib.hid (isN_len (s := s) (by omega))
    go_enter Try.func13, Try.ntmps13
    go_wp2_with fail
    all_goals (go_ret; exact ⟨ret_bool HL.out.symm, rfl⟩)
end Go.Proofs.Ytdebkicmoocnmaa
