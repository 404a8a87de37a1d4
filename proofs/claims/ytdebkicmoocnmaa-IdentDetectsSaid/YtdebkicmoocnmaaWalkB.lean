/- Contracts: number, the closure of fields, the two Splits. -/
import Derived.Test.YtdebkicmoocnmaaWalkA
import Derived.Deep.QuietTactic
import Derived.BigQuiet
import Derived.Handy
set_option linter.unusedVariables false
set_option linter.unusedSimpArgs false
namespace Go.Proofs.Ytdebkicmoocnmaa
open Go.ChangeShapes Go.WideShapes Go.ChangeAt Go.RowKit Idm

/-- what stood in memory stands as it was -/
def Q (w w' : World) : Prop := Below w.heap.size w w'
theorem Q.refl (w : World) : Q w w := Below.refl _ _
theorem Q.trans {a b c : World} (h : Q a b) (k : Q b c) : Q a c := Below.trans h (Below.mono k h.size)
theorem Q.drew {a b : World} (h : Q a b) : Q a b.drew := Below.drew h
theorem Q.drewN {a b : World} (h : Q a b) (n : Nat) : Q a (b.drewN n) := ⟨h.os, h.tape, h.output, h.size, h.block⟩
theorem Q.alloc {a b : World} (h : Q a b) (o : Obj) : Q a (b.alloc o) := Below.alloc h h.size o
theorem Q.of {a b : World} (h : Below a.heap.size a b) : Q a b := h
/-- a callee that leaves memory alone, met behind a region that has drawn already -/
theorem qadd {P : Program} {f : FuncId} {args : Array Value} {w : World} {a n : Nat} {v : Value} (h : ∀ W, Calls P f args W fun e w' => e = .returned v ∧ w' = W) :
    Calls P f args (w.drewN (a + n)) fun e w'' => e = .returned v ∧ ∃ m, w'' = w.drewN (a + m) := (h _).mono fun _ _ ⟨he, hm⟩ => ⟨he, n, hm⟩
theorem qone {P : Program} {f : FuncId} {args : Array Value} {w : World} {n : Nat} {v : Value} (h : ∀ W, Calls P f args W fun e w' => e = .returned v ∧ w' = W) :
    Calls P f args (w.drewN n) fun e w'' => e = .returned v ∧ ∃ m, w'' = w.drewN m := (h _).mono fun _ _ ⟨he, hm⟩ => ⟨he, n, hm⟩
theorem ret3 {k k' k'' : IntKind} {a b c a' b' c' : Int} (h : (a, b, c) = (a', b', c')) :
    Ending.returned (.tuple #[.int k a, .int k' b, .int k'' c]) = .returned (.tuple #[.int k a', .int k' b', .int k'' c']) := by
  injection h with h1 h2; injection h2 with h2 h3; rw [h1, h2, h3]

set_option maxHeartbeats 400000 in
theorem number_c (s : ByteArray) (w : World) (hs : s.size = 6) (hd : ∀ i, i < 6 → dgB (bt s i) = true) :
    Calls Try.prog 30 #[.string s] w fun e w' => e = .returned (.int .i64 (nu (bt s) 6)) ∧ w = w' := by
  have HS := Lib.hid hs
  have HD := Lib.hid hd
  have hs1 : s.size ≤ 6 := by omega
  have hs2 : 6 ≤ s.size := by omega
  clear hs hd
  go_enter Try.func30, Try.ntmps30
  go_wp2
  go_loop [3, 7] (fun m i => ∃ k : Nat, k ≤ 6 ∧ i = .int .i64 k ∧ m = .int .i64 (nu (bt s) k)) (fun _ i => 6 - (intOf i).toNat)
  case atStart => exact ⟨0, Nat.zero_le _, rfl, rfl⟩
  case round =>
    obtain ⟨k, hk, rfl, rfl⟩ := hrel
    have hm := nu_lt (f := bt s) hk (fun i hi => HD.out i (by omega))
    by_cases hlt : k < 6
    · have hks : k < s.size := by omega
      have hb := dg_bd (HD.out k hlt)
      rw [← bt_eq s k hks] at hb
      go_wp2
      go_round
      case rel => exact ⟨k + 1, by omega, by go_num, by rw [nu_succ, ← bt_eq s k hks]⟩
      case measure => simp [intOf]; omega
    · obtain rfl : k = 6 := by omega
      go_wp2
      go_ret
      exact ⟨rfl, rfl⟩

theorem fields1_c (c d : Int) (p : Addr) (w : World) (hc : w.cell? p = some (.int .u8 d)) :
    Calls Try.prog 31 #[.int .u8 c, .pointer (some p)] w fun e w' => e = .returned (.bool (c == d)) ∧ w = w' := by
  go_enter Try.func31, Try.ntmps31
  go_wp2
  go_ret
  exact ⟨rfl, rfl⟩

theorem rLetter7_c (s : ByteArray) (w : World) (h : Hid (s.size = 8)) : Calls Try.prog 15 #[.string (s.extract 0 7)] w fun e w' => e = .returned (.int .u8 (chk s)) ∧ w' = w :=
  (rLetter_c _ w (by have := size_ex s 0 7 (by have := h.out; omega); omega)).mono fun _ _ ⟨he, hw⟩ => ⟨by rw [he, chk_ex h.out], hw.symm⟩
theorem Letter7_c (s : ByteArray) (w : World) (h : Hid (s.size = 8)) : Calls Try.prog 14 #[.string (s.extract 0 7)] w fun e w' => e = .returned (.int .u8 (chk s)) ∧ w' = w :=
  (Letter_c _ w (by have := size_ex s 0 7 (by have := h.out; omega); omega)).mono fun _ _ ⟨he, hw⟩ => ⟨by rw [he, chk_ex h.out], hw.symm⟩
theorem number7_c (s : ByteArray) (w : World) (h : Hid (s.size = 8)) (hd : Hid (dgN s 6 = true)) : Calls Try.prog 30 #[.string (s.extract 1 7)] w fun e w' => e = .returned (.int .i64 (nums s)) ∧ w' = w :=
  (number_c _ w (size_ex s 1 7 (by have := h.out; omega)) (fun i hi => by
    have := h.out
    rw [bt_ex s 1 7 i (by omega) (by omega), Nat.add_comm]; exact dgN_at hd.out i hi)).mono fun _ _ ⟨he, hw⟩ => ⟨by rw [he, nums_ex h.out], hw.symm⟩

set_option maxHeartbeats 800000 in
theorem rSplit_c (s : ByteArray) (w : World) (hs : s.size ≤ maxLen) : Calls Try.prog 19 #[.string s] w fun e w' => e = .returned (.tuple #[.int .u8 (spK s), .int .i64 (spN s), .int .i64 (spE s)]) ∧ Q w w' := by
  unfold maxLen at hs
  by_cases h8 : s.size = 8
  · have H8 := Lib.hid h8
    have h81 : s.size ≤ 8 := by omega
    have h82 : 8 ≤ s.size := by omega
    have h83 : ((s.size : Int) != 8) = false := by simp; omega
    clear h8 hs
    go_enter Try.func19, Try.ntmps19
    go_wp2_with fail
    refine (rcapital_c _ w).mono ?_
    rintro e w' ⟨rfl, rfl⟩
    rw [bt_eq s 0 (by omega)]
    cases hc : cpB (bt s 0) with
    | false =>
      have HE := Lib.hid (sp_no (spE_kind H8.out hc) (by omega)); clear hc
      go_wp2_with fail
      go_ret3
      exact ⟨ret3 HE.out.symm, Q.refl _⟩
    | true =>
      have HC := Lib.hid hc; clear hc
      go_wp2_with fail
      go_loop [5, 6] (fun m i => ∃ k : Nat, k ≤ 6 ∧ i = .int .i64 (k + 1) ∧ m = .int .i64 (nu (fun i => bt s (i + 1)) k) ∧ Hid (dgN s k = true)) (fun _ i => 7 - (intOf i).toNat)
      case atStart => exact ⟨0, Nat.zero_le _, rfl, rfl, rfl⟩
      case round =>
        obtain ⟨k, hk, rfl, rfl, HO⟩ := hrel
        have hm := nu_lt (f := fun i => bt s (i + 1)) hk (fun i hi => dgN_at HO.out i hi)
        by_cases hlt : k < 6
        · go_wp2_with fail
          refine (rdigit_c _ w).mono ?_
          rintro e w' ⟨rfl, rfl⟩
          rw [bt_eq s (k + 1) (by omega)]
          cases hd : dgB (bt s (k + 1)) with
          | false =>
            have HE := Lib.hid (sp_no (spE_dig H8.out HC.out (dgN_no hlt hd)) (by omega)); clear hd
            go_wp2_with fail
            go_ret3
            exact ⟨ret3 HE.out.symm, Q.refl _⟩
          | true =>
            have HN := Lib.hid (dgN_step HO.out hd)
            have hb := dg_bd hd
            have hbe := bt_eq s (k + 1) (by omega)
            rw [← hbe] at hb
            have HBE := Lib.hid hbe; clear hbe hd
            go_wp2_with fail
            go_round
            case rel => exact ⟨k + 1, by omega, by go_num, by rw [nu_succ, ← HBE.out], HN⟩
            case measure => simp [intOf]; omega
        · obtain rfl : k = 6 := by omega
          by_cases h7 : bt s 7 = chk s
          · have HE := Lib.hid (sp_yes (spE_ok H8.out HC.out HO.out h7))
            have h9 : ((s[7].toNat : Int) != chk s) = false := by rw [bt_eq s 7 (by omega), h7]; simp
            clear h7
            have h10 : (7 : Int) < (s.size : Int) := by omega
            have h11 : (7 : Int) ≤ (s.size : Int) := by omega
            go_wp2_with fail
            go_quiet ((go_at_call 15; exact Calls.quiet_of_same (rLetter7_c s _ H8)))
            go_wp2_with fail
            go_ret3
            exact ⟨ret3 (by rw [HE.out, bt_eq s 0 (by omega)]; rfl), Q.drewN (Q.refl _) _⟩
          · have HE := Lib.hid (sp_no (spE_sum H8.out HC.out HO.out h7) (by omega))
            have h9 : ((s[7].toNat : Int) != chk s) = true := by rw [bt_eq s 7 (by omega), bne_iff_ne]; exact h7
            clear h7
            have h10 : (7 : Int) < (s.size : Int) := by omega
            have h11 : (7 : Int) ≤ (s.size : Int) := by omega
            go_wp2_with fail
            go_quiet ((go_at_call 15; exact Calls.quiet_of_same (rLetter7_c s _ H8)))
            go_wp2_with fail
            go_ret3
            exact ⟨ret3 HE.out.symm, Q.drewN (Q.refl _) _⟩
  · have HE := Lib.hid (sp_no (spE_len h8) (by omega))
    have h9 : ((s.size : Int) != 8) = true := by rw [bne_iff_ne]; omega
    go_enter Try.func19, Try.ntmps19
    go_wp2_with fail
    go_ret3
    exact ⟨ret3 HE.out.symm, Q.refl _⟩
end Go.Proofs.Ytdebkicmoocnmaa
