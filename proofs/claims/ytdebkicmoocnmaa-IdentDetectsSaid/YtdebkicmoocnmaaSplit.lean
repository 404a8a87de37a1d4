/- The contract of ident.Split: the table of conditions, walked round by round. -/
import Derived.Test.YtdebkicmoocnmaaWalkB
import Derived.Laws.EntriesVeiled
set_option linter.unusedVariables false
set_option linter.unusedSimpArgs false
namespace Go.Proofs.Ytdebkicmoocnmaa
open Go.ChangeShapes Go.WideShapes Go.ChangeAt Go.RowKit Idm

theorem sym {P : Program} {f : FuncId} {args : Array Value} {w : World} {v : Value}
    (h : Calls P f args w fun e w' => e = .returned v ∧ w = w') : Calls P f args w fun e w' => e = .returned v ∧ w' = w :=
  h.mono fun _ _ ⟨a, b⟩ => ⟨a, b.symm⟩
theorem cap_is (s : ByteArray) (k : Nat) (b : Bool) (hk : k < s.size) (h : Hid (cpB (bt s k) = b)) (w : World) :
    Calls Try.prog 27 #[.int .u8 (s[k].toNat : Int)] w fun e w' => e = .returned (.bool b) ∧ w' = w :=
  sym ((isCapital_c _ w).mono fun _ _ ⟨a, c⟩ => ⟨by rw [a, bt_eq s k hk, h.out], c⟩)
theorem dig_is (s : ByteArray) (k : Nat) (b : Bool) (hk : k < s.size) (h : Hid (dgB (bt s k) = b)) (w : World) :
    Calls Try.prog 25 #[.int .u8 (s[k].toNat : Int)] w fun e w' => e = .returned (.bool b) ∧ w' = w :=
  sym ((isDigit_c _ w).mono fun _ _ ⟨a, c⟩ => ⟨by rw [a, bt_eq s k hk, h.out], c⟩)
theorem sum_is (s : ByteArray) (k : Nat) (b : Bool) (d : Int) (p : Addr) (hk : k < s.size) (h : Hid ((bt s k == d) = b)) (w : World) (hc : w.cell? p = some (.int .u8 d)) :
    Calls Try.prog 31 #[.int .u8 (s[k].toNat : Int), .pointer (some p)] w fun e w' => e = .returned (.bool b) ∧ w' = w :=
  sym ((fields1_c _ d p w hc).mono fun _ _ ⟨a, c⟩ => ⟨by rw [a, bt_eq s k hk, h.out], c⟩)
/-- the rows of the table of conditions -/
def tab (b : Nat) : Array Value :=
  #[.int .i64 1, .func (.func 27) #[] #[], .int .i64 10, .int .i64 6, .func (.func 25) #[] #[], .int .i64 5,
    .int .i64 1, .func (.func 31) #[] #[.pointer (some ⟨b, 0, none⟩)], .int .i64 16]
theorem fields_c (d : Int) (w : World) : Calls Try.prog 29 #[.int .u8 d] w fun e w' =>
    e = .returned (.slice (some ⟨w.heap.size + 1, 0, none⟩) 3 3) ∧ (w.alloc (.cells #[.int .u8 d] 5)).alloc (.cells (tab w.heap.size) 42) = w' := by
  go_enter Try.func29, Try.ntmps29
  go_wp2
  go_ret
  exact ⟨rfl, rfl⟩

/-- memory when the second row of the table is looked at -/
def W2 (s : ByteArray) (w : World) : World :=
  (((w.alloc (.cells #[.int .u8 (chk s)] 5)).alloc (.cells (tab w.heap.size) 42)).alloc (.cells #[.int .i64 1, .func (.func 27) #[] #[], .int .i64 10] 42)).alloc
    (.cells #[.int .i64 6, .func (.func 25) #[] #[], .int .i64 5] 42)

set_option maxRecDepth 100000 in
set_option maxHeartbeats 1600000 in
theorem Split_c (s : ByteArray) (w : World) (hs : s.size ≤ maxLen) : Calls Try.prog 18 #[.string s] w fun e w' => e = .returned (.tuple #[.int .u8 (spK s), .int .i64 (spN s), .int .i64 (spE s)]) ∧ Q w w' := by
  unfold maxLen at hs
  by_cases h8 : s.size = 8
  · have H8 := Lib.hid h8
    have h81 : s.size ≤ 8 := by omega
    have h82 : 8 ≤ s.size := by omega
    have h83 : ((s.size : Int) != 8) = false := by simp; omega
    have h10 : (7 : Int) < (s.size : Int) := by omega
    have h11 : 0 < s.size := by omega
    clear h8 hs
    go_enter Try.func18, Try.ntmps18
    go_wp2_with fail
    refine (Letter7_c s _ H8).mono ?_
    rintro e w1 ⟨rfl, rfl⟩
    go_wp2_with fail
    refine (fields_c _ _).mono ?_
    rintro e w2 ⟨rfl, rfl⟩
    unfold tab
    go_wp2_with fail
    refine wp_loop_rounds 4 ?_
    rw [rounds_succ]
    go_wp2_with fail
    refine wp_loop_rounds 2 ?_
    rw [rounds_succ]
    go_wp2_with fail
    cases hc : cpB (bt s 0) with
    | false =>
      have HE := Lib.hid (sp_no (spE_kind H8.out hc) (by omega))
      have HC := Lib.hid hc; clear hc
      go_quiet ((go_at_call 27; exact Calls.quiet_of_same (cap_is s 0 false h11 HC _)))
      go_wp2_with fail
      go_quiet (fail)
      go_wp2_with fail
      go_ret3
      exact ⟨ret3 HE.out.symm, by repeat (first | exact Q.refl _ | refine Q.drewN ?_ _ | refine Q.drew ?_ | refine Q.alloc ?_ _)⟩
    | true =>
      have HC := Lib.hid hc; clear hc
      go_quiet ((go_at_call 27; exact Calls.quiet_of_same (cap_is s 0 true h11 HC _)))
      go_wp2_with fail
      rw [rounds_succ]
      go_wp2_with fail
      rw [rounds_succ]
      go_wp2_with fail
      go_loopw [5, 22] (fun a i wr => ∃ k n : Nat, k ≤ 6 ∧ a = .int .i64 (k + 1) ∧ i = .int .i64 k ∧ Hid (dgN s k = true) ∧ wr = (W2 s w1).drewN n) (fun _ i _ => 6 - (intOf i).toNat)
      case atStart => exact ⟨0, nq, Nat.zero_le _, rfl, rfl, rfl, rfl⟩
      case round =>
        obtain ⟨k, n, hk, rfl, rfl, HO, rfl⟩ := hrel
        unfold W2 tab
        by_cases hlt : k < 6
        · have h12 : k + 1 < s.size := by omega
          have h13 : (k : Int) + 1 < (s.size : Int) := by omega
          have h14 : 0 ≤ (k : Int) + 1 := by omega
          cases hd : dgB (bt s (k + 1)) with
          | false =>
            have HE := Lib.hid (sp_no (spE_dig H8.out HC.out (dgN_no hlt hd)) (by omega))
            have HD := Lib.hid hd; clear hd
            go_wp2_with fail
            go_quiet ((go_at_call 25; exact qadd (dig_is s (k + 1) false h12 HD)))
            go_wp2_with fail
            go_quiet (fail)
            go_wp2_with fail
            go_ret3
            exact ⟨ret3 HE.out.symm, by repeat (first | exact Q.refl _ | refine Q.drewN ?_ _ | refine Q.drew ?_ | refine Q.alloc ?_ _)⟩
          | true =>
            have HD := Lib.hid hd
            have HN := Lib.hid (dgN_step HO.out hd); clear hd
            go_wp2_with fail
            go_quiet ((go_at_call 25; exact qadd (dig_is s (k + 1) true h12 HD)))
            go_wp2_with fail
            go_roundw
            case rel => exact ⟨k + 1, _, by omega, by go_num, by go_num, HN, rfl⟩
            case measure => simp [intOf]; omega
        · obtain rfl : k = 6 := by omega
          have h12 : 7 < s.size := by omega
          rw [show ((6 : Nat) : Int) + 1 = 7 from rfl]
          go_wp2_with fail
          rw [rounds_succ]
          go_wp2_with fail
          refine wp_loop_rounds 2 ?_
          rw [rounds_succ]
          go_wp2_with fail
          cases h7 : (bt s 7 == chk s) with
          | false =>
            have HE := Lib.hid (sp_no (spE_sum H8.out HC.out HO.out (by simpa using h7)) (by omega))
            have HS := Lib.hid h7; clear h7
            go_quiet ((go_at_call 31; refine Calls.quiet_of_same (sum_is s 7 false (chk s) ⟨w1.heap.size, 0, none⟩ h12 HS _ ?_); simp [go_sem, World.cell?_alloc_past]))
            go_wp2_with fail
            go_quiet (fail)
            go_wp2_with fail
            go_ret3
            exact ⟨ret3 HE.out.symm, by repeat (first | exact Q.refl _ | refine Q.drewN ?_ _ | refine Q.drew ?_ | refine Q.alloc ?_ _)⟩
          | true =>
            have HE := Lib.hid (sp_yes (spE_ok H8.out HC.out HO.out (by simpa using h7)))
            have HS := Lib.hid h7; clear h7
            go_quiet ((go_at_call 31; refine Calls.quiet_of_same (sum_is s 7 true (chk s) ⟨w1.heap.size, 0, none⟩ h12 HS _ ?_); simp [go_sem, World.cell?_alloc_past]))
            go_wp2_with fail
            rw [rounds_succ]
            go_wp2_with fail
            rw [rounds_succ]
            go_wp2_with fail
            go_quiet ((go_at_call 30; exact qadd (fun W => number7_c s W H8 HO)))
            go_wp2_with fail
            go_ret3
            exact ⟨ret3 (by rw [HE.out, bt_eq s 0 (by omega)]), by repeat (first | exact Q.refl _ | refine Q.drewN ?_ _ | refine Q.drew ?_ | refine Q.alloc ?_ _)⟩
  · have HE := Lib.hid (sp_no (spE_len h8) (by omega))
    have h9 : ((s.size : Int) != 8) = true := by rw [bne_iff_ne]; omega
    go_enter Try.func18, Try.ntmps18
    go_wp2_with fail
    go_ret3
    exact ⟨ret3 HE.out.symm, Q.refl _⟩
end Go.Proofs.Ytdebkicmoocnmaa
