/- Contracts of Crc and Hash, and of their references. -/
import Derived.Test.YtiffnnjegfghoaaMath
import Derived.Test.YtiffnnjegfghoaaRows
import Derived.WalkSpells
import Derived.Lib.Hide
import Derived.IntWalk
import Derived.Outline
set_option linter.unusedVariables false
set_option linter.unusedSimpArgs false
namespace Go.Proofs.Ytiffnnjegfghoaa
open Go.ChangeShapes Go.WideShapes Go.ChangeAt Go.RowKit Cm

theorem wrap_u32 (n : Int) : IntKind.u32.wrap n = n % 4294967296 := by simp [IntKind.wrap, IntKind.bits, IntKind.signed]
theorem nat32 {a : Nat} (ha : a < 4294967296) : (BitVec.ofInt 32 (a : Int)).toNat = a := by
  rw [BitVec.ofInt_natCast, BitVec.toNat_ofNat]; exact Nat.mod_eq_of_lt (by omega)
theorem xor32 {a b : Nat} (ha : a < 4294967296) (hb : b < 4294967296) : bits .xor .u32 (a : Int) (b : Int) = ((a ^^^ b : Nat) : Int) := by
  have hx := xor_lt32 ha hb
  show IntKind.u32.wrap ((BitVec.ofInt 32 (a : Int) ^^^ BitVec.ofInt 32 (b : Int)).toNat : Int) = _
  rw [BitVec.toNat_xor, nat32 ha, nat32 hb, wrap_u32]
  omega
theorem and32 {a : Nat} (ha : a < 4294967296) : bits .and .u32 (a : Int) 1 = ((a % 2 : Nat) : Int) := by
  show IntKind.u32.wrap ((BitVec.ofInt 32 (a : Int) &&& BitVec.ofInt 32 ((1 : Nat) : Int)).toNat : Int) = _
  rw [BitVec.toNat_and, nat32 ha, nat32 (by omega), wrap_u32, Nat.and_one_is_mod]
  omega
theorem ret_bool {a b : Bool} (h : a = b) : Ending.returned (.bool a) = .returned (.bool b) := by rw [h]
theorem ret_u32 {a b : Int} (h : a = b) : Ending.returned (.int .u32 a) = .returned (.int .u32 b) := by rw [h]
theorem start32 (a : Nat) (c : UInt8) (b : Nat) (ha : a < 4294967296) (h : (c.toNat : Int) = (b : Int)) : bits .xor .u32 (a : Int) ((c.toNat : Int) % 4294967296) = ((a ^^^ b : Nat) : Int) := by
  have := c.toNat_lt
  rw [h, ← xor32 ha (by omega)]
  congr 1
  omega
theorem clk_odd {r : Nat} (h : r % 2 = 1) (hr : r < 4294967296) : bits .xor .u32 ((r : Int) / 2) 3988292384 = ((clk r : Nat) : Int) := by
  have e : (r : Int) / 2 = ((r / 2 : Nat) : Int) := by omega
  rw [e, show (3988292384 : Int) = ((3988292384 : Nat) : Int) from rfl, xor32 (by omega) (by omega)]
  unfold clk; rw [if_pos h]
theorem clk_even {r : Nat} (h : r % 2 = 0) : (r : Int) / 2 = ((clk r : Nat) : Int) := by
  unfold clk; rw [if_neg (by omega)]; omega
theorem end32 {r : Nat} (hr : r < 4294967296) : bits .xor .u32 IntKind.u32.max (r : Int) = ((4294967295 ^^^ r : Nat) : Int) := by
  rw [show IntKind.u32.max = ((4294967295 : Nat) : Int) by decide, xor32 (by omega) hr]

set_option maxHeartbeats 400000 in
theorem Crc_c (s : ByteArray) (w : World) (hs : s.size ≤ maxLen) : Calls Try.prog 12 #[.string s] w fun e w' => e = .returned (.int .u32 (crcS (bt s) s.size : Nat)) ∧ w = w' := by
  unfold maxLen at hs
  go_enter Try.func12, Try.ntmps12
  go_wp2
  go_loop [3, 8] (fun r i => ∃ k : Nat, k ≤ s.size ∧ i = .int .i64 k ∧ r = .int .u32 (reg (bt s) k : Nat)) (fun _ i => s.size - (intOf i).toNat)
  case atStart => exact ⟨0, Nat.zero_le _, rfl, rfl⟩
  case round =>
    obtain ⟨k, hk, rfl, rfl⟩ := hrel
    by_cases hlt : k < s.size
    · have H0 := Lib.hid (start32 _ s[k] (bt s k) (reg_lt (bt_bd s) k) (bt_eq s k hlt))
      have HX := Lib.hid (show reg (bt s) k ^^^ bt s k < 4294967296 from xor_lt32 (reg_lt (bt_bd s) k) (by have := bt_bd s k; omega))
      go_wp2
      go_loop [3, 17] (fun r j => ∃ m : Nat, m ≤ 8 ∧ j = .int .i64 m ∧ r = .int .u32 (clks m (reg (bt s) k ^^^ bt s k) : Nat)) (fun _ j => 8 - (intOf j).toNat)
      case atStart => exact ⟨0, by omega, rfl, by rw [H0.out]; rfl⟩
      case round =>
        obtain ⟨m, hm, rfl, rfl⟩ := hrel
        by_cases hm8 : m < 8
        · have hr := clks_lt HX.out m
          have HR := Lib.hid hr
          obtain ⟨r, hrr⟩ : ∃ r, clks m (reg (bt s) k ^^^ bt s k) = r := ⟨_, rfl⟩
          have HRR := Lib.hid hrr
          rw [hrr] at hr
          rw [hrr]
          clear hrr
          have ha := and32 hr
          rcases Nat.mod_two_eq_zero_or_one r with g | g
          · have he := Lib.hid (clk_even g)
            rw [g] at ha
            clear g
            go_wp2
            go_round
            case rel => exact ⟨m + 1, by omega, by go_num, by rw [he.out, clks_succ, HRR.out]⟩
            case measure => simp [intOf]; omega
          · have he := clk_odd g hr
            rw [g] at ha
            clear g
            go_wp2
            go_round
            case rel => exact ⟨m + 1, by omega, by go_num, by rw [clks_succ, HRR.out]⟩
            case measure => simp [intOf]; omega
        · obtain rfl : m = 8 := by omega
          go_wp2
          go_round
          case rel => exact ⟨k + 1, by omega, by go_num, by rw [reg_succ]⟩
          case measure => simp [intOf]; omega
    · obtain rfl : k = s.size := by omega
      have he := end32 (reg_lt (bt_bd s) s.size)
      go_wp2
      go_ret
      exact ⟨ret_u32 rfl, rfl⟩
set_option maxHeartbeats 400000 in
theorem rCrc_c (s : ByteArray) (w : World) (hs : s.size ≤ maxLen) : Calls Try.prog 13 #[.string s] w fun e w' => e = .returned (.int .u32 (crcS (bt s) s.size : Nat)) ∧ w = w' := by
  unfold maxLen at hs
  go_enter Try.func13, Try.ntmps13
  go_wp2
  go_loop [3, 4] (fun r i => ∃ k : Nat, k ≤ s.size ∧ i = .int .i64 k ∧ r = .int .u32 (reg (bt s) k : Nat)) (fun _ i => s.size - (intOf i).toNat)
  case atStart => exact ⟨0, Nat.zero_le _, rfl, rfl⟩
  case round =>
    obtain ⟨k, hk, rfl, rfl⟩ := hrel
    by_cases hlt : k < s.size
    · have H0 := Lib.hid (start32 _ s[k] (bt s k) (reg_lt (bt_bd s) k) (bt_eq s k hlt))
      have HX := Lib.hid (show reg (bt s) k ^^^ bt s k < 4294967296 from xor_lt32 (reg_lt (bt_bd s) k) (by have := bt_bd s k; omega))
      go_wp2
      go_loop [3, 5] (fun r j => ∃ m : Nat, m ≤ 8 ∧ j = .int .i64 m ∧ r = .int .u32 (clks m (reg (bt s) k ^^^ bt s k) : Nat)) (fun _ j => 8 - (intOf j).toNat)
      case atStart => exact ⟨0, by omega, rfl, by rw [H0.out]; rfl⟩
      case round =>
        obtain ⟨m, hm, rfl, rfl⟩ := hrel
        by_cases hm8 : m < 8
        · have hr := clks_lt HX.out m
          have HR := Lib.hid hr
          obtain ⟨r, hrr⟩ : ∃ r, clks m (reg (bt s) k ^^^ bt s k) = r := ⟨_, rfl⟩
          have HRR := Lib.hid hrr
          rw [hrr] at hr
          rw [hrr]
          clear hrr
          have ha := and32 hr
          rcases Nat.mod_two_eq_zero_or_one r with g | g
          · have he := Lib.hid (clk_even g)
            rw [g] at ha
            clear g
            go_wp2
            go_round
            case rel => exact ⟨m + 1, by omega, by go_num, by rw [he.out, clks_succ, HRR.out]⟩
            case measure => simp [intOf]; omega
          · have he := clk_odd g hr
            rw [g] at ha
            clear g
            go_wp2
            go_round
            case rel => exact ⟨m + 1, by omega, by go_num, by rw [clks_succ, HRR.out]⟩
            case measure => simp [intOf]; omega
        · obtain rfl : m = 8 := by omega
          go_wp2
          go_round
          case rel => exact ⟨k + 1, by omega, by go_num, by rw [reg_succ]⟩
          case measure => simp [intOf]; omega
    · obtain rfl : k = s.size := by omega
      have he := end32 (reg_lt (bt_bd s) s.size)
      go_wp2
      go_ret
      exact ⟨ret_u32 rfl, rfl⟩
theorem wrap_u64 (n : Int) : IntKind.u64.wrap n = n % 18446744073709551616 := by simp [IntKind.wrap, IntKind.bits, IntKind.signed]
theorem fnv_step (f : Nat → Nat) (k : Nat) (c : UInt8) (h : (c.toNat : Int) = (f k : Int)) : bits .xor .u64 (fnv f k : Int) ((c.toNat : Int) % 18446744073709551616) * 1099511628211 % 18446744073709551616 = (fnv f (k + 1) : Int) := by
  have h1 := c.toNat_lt
  have h2 := fnv_lt f k
  have e : (c.toNat : Int) % 18446744073709551616 = ((f k : Nat) : Int) := by omega
  rw [e, bits_xor_u64_nat _ _ h2 (by omega), fnv_succ]
  omega
set_option maxHeartbeats 400000 in
theorem Hash_c (s : ByteArray) (w : World) (hs : s.size ≤ maxLen) : Calls Try.prog 15 #[.string s] w fun e w' => e = .returned (.int .u64 (fnv (bt s) s.size : Nat)) ∧ w = w' := by
  unfold maxLen at hs
  go_enter Try.func15, Try.ntmps15
  go_wp2
  go_loop [3, 7] (fun r i => ∃ k : Nat, k ≤ s.size ∧ i = .int .i64 k ∧ r = .int .u64 (fnv (bt s) k : Nat)) (fun _ i => s.size - (intOf i).toNat)
  case atStart => exact ⟨0, Nat.zero_le _, rfl, rfl⟩
  case round =>
    obtain ⟨k, hk, rfl, rfl⟩ := hrel
    by_cases hlt : k < s.size
    · have H0 := Lib.hid (fnv_step (bt s) k s[k] (bt_eq s k hlt))
      go_wp2
      go_round
      case rel => exact ⟨k + 1, by omega, by go_num, by rw [wrap_u64, wrap_u64, H0.out]⟩
      case measure => simp [intOf]; omega
    · obtain rfl : k = s.size := by omega
      go_wp2
      go_ret
      exact ⟨rfl, rfl⟩
set_option maxHeartbeats 400000 in
theorem rHash_c (s : ByteArray) (w : World) (hs : s.size ≤ maxLen) : Calls Try.prog 16 #[.string s] w fun e w' => e = .returned (.int .u64 (fnv (bt s) s.size : Nat)) ∧ w = w' := by
  unfold maxLen at hs
  go_enter Try.func16, Try.ntmps16
  go_wp2
  go_loop [3, 4] (fun r i => ∃ k : Nat, k ≤ s.size ∧ i = .int .i64 k ∧ r = .int .u64 (fnv (bt s) k : Nat)) (fun _ i => s.size - (intOf i).toNat)
  case atStart => exact ⟨0, Nat.zero_le _, rfl, rfl⟩
  case round =>
    obtain ⟨k, hk, rfl, rfl⟩ := hrel
    by_cases hlt : k < s.size
    · have H0 := Lib.hid (fnv_step (bt s) k s[k] (bt_eq s k hlt))
      go_wp2
      go_round
      case rel => exact ⟨k + 1, by omega, by go_num, by rw [wrap_u64, wrap_u64, H0.out]⟩
      case measure => simp [intOf]; omega
    · obtain rfl : k = s.size := by omega
      go_wp2
      go_ret
      exact ⟨rfl, rfl⟩
end Go.Proofs.Ytiffnnjegfghoaa
