/- The contracts of cutUint and of the reference's number. -/
import Derived.Test.YtnejobcbhddpoaaUint
import Derived.RegionTactic
import Derived.ChangeAlike
set_option linter.unusedVariables false
set_option linter.unusedSimpArgs false
namespace Go.Proofs.Ytnejobcbhddpoaa
open Go.ChangeShapes Go.WideShapes Go.ChangeAt Go.RowKit Wm

def NOut (s : ByteArray) (v L e : Nat) : Prop := nE (bt s) s.size = e ∧ nV (bt s) s.size = v ∧ nL (bt s) s.size = L
theorem whole (s : ByteArray) : s.extract 0 s.size = s := by
  apply ByteArray.ext; simp
theorem ret_cut {a b e f : Int} {s t : ByteArray} (h1 : a = b) (h2 : s = t) (h3 : e = f) : Ending.returned (.tuple #[.int .u64 a, .string s, .int .i64 e]) = .returned (.tuple #[.int .u64 b, .string t, .int .i64 f]) := by rw [h1, h2, h3]
theorem bits_or_u64_nat (a b : Nat) (ha : a < 18446744073709551616) (hb : b < 18446744073709551616) :
    bits .or .u64 (a : Int) (b : Int) = ((a ||| b : Nat) : Int) := by
  have hx : a ||| b < 2 ^ 64 := Nat.or_lt_two_pow (by omega) (by omega)
  have h1 : (BitVec.ofInt 64 (a : Int)).toNat = a := by
    rw [BitVec.ofInt_natCast, BitVec.toNat_ofNat]; exact Nat.mod_eq_of_lt (by omega)
  have h2 : (BitVec.ofInt 64 (b : Int)).toNat = b := by
    rw [BitVec.ofInt_natCast, BitVec.toNat_ofNat]; exact Nat.mod_eq_of_lt (by omega)
  show IntKind.u64.wrap ((BitVec.ofInt 64 (a : Int) ||| BitVec.ofInt 64 (b : Int)).toNat : Int) = _
  rw [BitVec.toNat_or, h1, h2, wrap_u64]
  omega
theorem pow7 (k : Nat) : 2 ^ (7 * k) = 128 ^ k := by rw [Nat.pow_mul]
theorem or_step {f : Nat → Nat} {k c : Nat} (hk : k ≤ 9) (hc : f k = c) (h9 : k = 9 → c ≤ 1) : bits .or .u64 ((val f k : Nat) : Int) (IntKind.u64.wrap ((c : Int) % 128 * 2 ^ (7 * k))) = ((val f (k + 1) : Nat) : Int) := by
  have hv := val_lt f k
  have hp : (128 : Nat) ^ k ≤ 128 ^ 9 := Nat.pow_le_pow_right (by omega) hk
  rw [pow9] at hp
  have hb : c % 128 * 128 ^ k < 18446744073709551616 := by
    by_cases e : k = 9
    · subst e
      have := h9 rfl
      rw [pow9]
      have : c % 128 ≤ 1 := by omega
      omega
    · have h8 : (128 : Nat) ^ k ≤ 128 ^ 8 := Nat.pow_le_pow_right (by omega) (by omega)
      rw [show (128 : Nat) ^ 8 = 72057594037927936 by decide] at h8
      have h2 : c % 128 * 128 ^ k ≤ 127 * 72057594037927936 := Nat.mul_le_mul (by omega) h8
      omega
  have e1 : (c : Int) % 128 * 2 ^ (7 * k) = ((c % 128 * 128 ^ k : Nat) : Int) := by rw [← pow7]; simp
  rw [e1, wrap_u64, show ((c % 128 * 128 ^ k : Nat) : Int) % 18446744073709551616 = ((c % 128 * 128 ^ k : Nat) : Int) by omega, bits_or_u64_nat _ _ (by omega) hb]
  congr 1
  rw [val_succ, hc, Nat.or_comm]
  have h3 := Nat.two_pow_add_eq_or_of_lt (i := 7 * k) (b := val f k) (by rw [pow7]; exact hv) (c % 128)
  rw [pow7] at h3
  rw [Nat.mul_comm (c % 128), ← h3]; omega
theorem min_run (ts : Array TypeId) (t : TypeId) (a b m : Int) (w : World) (h : min a b = m) : (Builtin.min_ ts t #[.int .i64 a, .int .i64 b]).run Try.prog w = .ok (.int .i64 m) w := by
  subst h
  show ((Builtin.min2 (.int .i64 a) (.int .i64 b)) >>= fun x => pure x).run Try.prog w = _
  by_cases h : b < a
  · rw [Int.min_eq_right (by omega)]
    simp [Builtin.min2, h]
  · rw [Int.min_eq_left (by omega)]
    simp [Builtin.min2, h]
set_option maxRecDepth 100000 in
set_option maxHeartbeats 800000 in
theorem cutUint_c (s : ByteArray) (w : World) (hs : s.size ≤ maxLen) : Calls Try.prog 51 #[.string s] w fun e w' => e = .returned (.tuple #[.int .u64 (nV (bt s) s.size : Nat), .string (s.extract (nL (bt s) s.size) s.size), .int .i64 (nE (bt s) s.size : Nat)]) ∧ Q w w' := by
  unfold maxLen at hs
  obtain ⟨v, hv⟩ : ∃ v, nV (bt s) s.size = v := ⟨_, rfl⟩
  obtain ⟨L, hL⟩ : ∃ v, nL (bt s) s.size = v := ⟨_, rfl⟩
  obtain ⟨ee, hE⟩ : ∃ v, nE (bt s) s.size = v := ⟨_, rfl⟩
  rw [hv, hL, hE]
  have HO := Lib.hid (show NOut s v L ee from ⟨hE, hv, hL⟩)
  clear hv hL hE
  obtain ⟨m, hm⟩ : ∃ m, min s.size 10 = m := ⟨_, rfl⟩
  have hmn : ∀ w, (Builtin.min_ #[3, 3] 3 #[.int .i64 (s.size : Int), .int .i64 10]).run Try.prog w = .ok (.int .i64 (m : Int)) w := fun w => min_run _ _ _ _ _ _ (by omega)
  go_enter Try.func51, Try.ntmps51
  go_wp2_with fail
  go_loop [5, 11] (fun x i => ∃ k : Nat, (k ≤ m ∧ k ≤ 9) ∧ i = .int .i64 k ∧ x = .int .u64 (val (bt s) k : Nat) ∧ Hid (cont (bt s) k)) (fun _ i => m - (intOf i).toNat)
  case atStart => exact ⟨0, ⟨Nat.zero_le _, by omega⟩, rfl, rfl, cont_zero _⟩
  case round =>
    obtain ⟨k, ⟨hk, hk9⟩, rfl, rfl, HC⟩ := hrel
    by_cases hlt : k < m
    · have hks : k < s.size := by omega
      obtain ⟨c, hc⟩ : ∃ c, bt s k = c := ⟨_, rfl⟩
      have hcs : (s[k].toNat : Int) = (c : Int) := by rw [bt_eq s k hks, hc]
      have hcb : c ≤ 255 := by have := bt_bd s k; omega
      by_cases h1 : 128 ≤ c
      · by_cases h2 : k = 9
        · have g1 : ((k : Int) == 9) = true := by simp; omega
          have g2 : 1 < (c : Int) := by omega
          have HV := Lib.hid (show ((0 : Nat) : Int) = (v : Int) ∧ s.extract L s.size = s ∧ (5 : Int) = (ee : Int) by
            obtain ⟨o1, o2, o3⟩ := out_big (f := bt s) (m := s.size) (by rw [← h2]; exact HC.out) (by omega) (by rw [← h2, hc]; omega)
            obtain ⟨q1, q2, q3⟩ := HO.out
            rw [o1] at q1; rw [o2] at q2; rw [o3] at q3
            subst q1 q2 q3
            exact ⟨rfl, whole s, rfl⟩)
          clear HO hc h2
          go_wp2_with fail
          go_ret3
          exact ⟨ret_cut HV.out.1 HV.out.2.1.symm HV.out.2.2, Q.refl _⟩
        · have g1 : ((k : Int) == 9) = false := by simp; omega
          have g2 : 128 ≤ (c : Int) := by omega
          have HN := Lib.hid (or_step (f := bt s) (k := k) hk9 hc (fun e => absurd e h2))
          have HC2 := Lib.hid (cont_step HC.out (by rw [hc]; exact h1))
          clear HO hc
          go_wp2_with fail
          go_round
          case rel => exact ⟨k + 1, by omega, by go_num, by rw [HN.out], HC2.out⟩
          case measure => simp [intOf]; omega
      · have g3 : ¬ 128 ≤ (c : Int) := by omega
        by_cases h2 : k = 9 ∧ 1 < c
        · have g1 : ((k : Int) == 9) = true := by simp; omega
          have g2 : 1 < (c : Int) := by omega
          have HV := Lib.hid (show ((0 : Nat) : Int) = (v : Int) ∧ s.extract L s.size = s ∧ (5 : Int) = (ee : Int) by
            obtain ⟨o1, o2, o3⟩ := out_big (f := bt s) (m := s.size) (by rw [← h2.1]; exact HC.out) (by omega) (by rw [← h2.1, hc]; omega)
            obtain ⟨q1, q2, q3⟩ := HO.out
            rw [o1] at q1; rw [o2] at q2; rw [o3] at q3
            subst q1 q2 q3
            exact ⟨rfl, whole s, rfl⟩)
          clear HO hc h2
          go_wp2_with fail
          go_ret3
          exact ⟨ret_cut HV.out.1 HV.out.2.1.symm HV.out.2.2, Q.refl _⟩
        · have HN := Lib.hid (or_step (f := bt s) (k := k) hk9 hc (fun e => by omega))
          by_cases h4 : c = 0 ∧ 0 < k
          · have g1 : ((k : Int) == 9) = true ∧ ¬ 1 < (c : Int) ∨ ((k : Int) == 9) = false := by
              by_cases e : k = 9
              · exact .inl ⟨by simp; omega, by omega⟩
              · exact .inr (by simp; omega)
            have g4 : ((c : Int) == 0) = true := by simp; omega
            have g5 : 0 < (k : Int) := by omega
            have HV := Lib.hid (show ((0 : Nat) : Int) = (v : Int) ∧ s.extract L s.size = s ∧ (5 : Int) = (ee : Int) by
              obtain ⟨o1, o2, o3⟩ := out_zero (f := bt s) (m := s.size) (i := k) HC.out hk9 hks (by rw [hc]; exact h4.1) h4.2
              obtain ⟨q1, q2, q3⟩ := HO.out
              rw [o1] at q1; rw [o2] at q2; rw [o3] at q3
              subst q1 q2 q3
              exact ⟨rfl, whole s, rfl⟩)
            clear HO hc h2 h4
            rcases g1 with ⟨g1, g2⟩ | g1
            · go_wp2_with fail
              go_ret3
              exact ⟨ret_cut HV.out.1 HV.out.2.1.symm HV.out.2.2, Q.refl _⟩
            · go_wp2_with fail
              go_ret3
              exact ⟨ret_cut HV.out.1 HV.out.2.1.symm HV.out.2.2, Q.refl _⟩
          · have HV := Lib.hid (show ((val (bt s) (k + 1) : Nat) : Int) = (v : Int) ∧ s.extract L s.size = s.extract (k + 1) s.size ∧ (0 : Int) = (ee : Int) by
              obtain ⟨o1, o2, o3⟩ := out_ok (f := bt s) (m := s.size) (i := k) HC.out hk9 hks (by omega) (by rw [hc]; exact h2) (by rw [hc]; exact h4)
              obtain ⟨q1, q2, q3⟩ := HO.out
              rw [o1] at q1; rw [o2] at q2; rw [o3] at q3
              subst q1 q2 q3
              exact ⟨rfl, rfl, rfl⟩)
            have g1 : ((k : Int) == 9) = true ∧ ¬ 1 < (c : Int) ∨ ((k : Int) == 9) = false := by
              by_cases e : k = 9
              · exact .inl ⟨by simp; omega, by omega⟩
              · exact .inr (by simp; omega)
            have g4 : ((c : Int) == 0) = true ∧ ¬ 0 < (k : Int) ∨ ((c : Int) == 0) = false := by
              by_cases e : c = 0
              · exact .inl ⟨by simp; omega, by omega⟩
              · exact .inr (by simp; omega)
            have i1 : 0 ≤ (k : Int) + 1 := by omega
            have i2 : (k : Int) + 1 ≤ (s.size : Int) := by omega
            have i3 : ((k : Int) + 1).toNat = k + 1 := by omega
            have i4 : IntKind.i64.wrap ((k : Int) + 1) = (k : Int) + 1 := IntWalk.i64_in _ (by omega)
            clear HO hc h2 h4
            rcases g1 with ⟨g1, g2⟩ | g1
            · rcases g4 with ⟨g4, g5⟩ | g4
              · go_wp2_with fail
                go_quiet (fail)
                go_wp2_with fail
                go_ret3
                exact ⟨ret_cut (by rw [HN.out]; exact HV.out.1) HV.out.2.1.symm HV.out.2.2, (Q.refl _).drewN _⟩
              · go_wp2_with fail
                go_quiet (fail)
                go_wp2_with fail
                go_ret3
                exact ⟨ret_cut (by rw [HN.out]; exact HV.out.1) HV.out.2.1.symm HV.out.2.2, (Q.refl _).drewN _⟩
            · rcases g4 with ⟨g4, g5⟩ | g4
              · go_wp2_with fail
                go_quiet (fail)
                go_wp2_with fail
                go_ret3
                exact ⟨ret_cut (by rw [HN.out]; exact HV.out.1) HV.out.2.1.symm HV.out.2.2, (Q.refl _).drewN _⟩
              · go_wp2_with fail
                go_quiet (fail)
                go_wp2_with fail
                go_ret3
                exact ⟨ret_cut (by rw [HN.out]; exact HV.out.1) HV.out.2.1.symm HV.out.2.2, (Q.refl _).drewN _⟩
    · obtain rfl : k = m := by omega
      have HV := Lib.hid (show ((0 : Nat) : Int) = (v : Int) ∧ s.extract L s.size = s ∧ (3 : Int) = (ee : Int) by
        obtain ⟨o1, o2, o3⟩ := out_short (f := bt s) (m := s.size) (i := k) HC.out hk9 (by omega)
        obtain ⟨q1, q2, q3⟩ := HO.out
        rw [o1] at q1; rw [o2] at q2; rw [o3] at q3
        subst q1 q2 q3
        exact ⟨rfl, whole s, rfl⟩)
      clear HO
      go_wp2_with fail
      go_ret3
      exact ⟨ret_cut HV.out.1 HV.out.2.1.symm HV.out.2.2, Q.refl _⟩

/-- the bytes from a place on -/
def fr (s : ByteArray) (p : Nat) (i : Nat) : Nat := bt s (p + i)
def NAt (s : ByteArray) (p v L e : Nat) : Prop := nE (fr s p) (s.size - p) = e ∧ nV (fr s p) (s.size - p) = v ∧ nL (fr s p) (s.size - p) = L
theorem ret_num {a b c d e f : Int} (h1 : a = b) (h2 : c = d) (h3 : e = f) : Ending.returned (.tuple #[.int .u64 a, .int .i64 c, .int .i64 e]) = .returned (.tuple #[.int .u64 b, .int .i64 d, .int .i64 f]) := by rw [h1, h2, h3]
theorem num_add {f : Nat → Nat} {k c : Nat} (hk : k ≤ 9) (hc : f k = c) (h9 : k = 9 → c ≤ 1) : IntKind.u64.wrap (((val f k : Nat) : Int) + IntKind.u64.wrap ((c : Int) % 128 * ((128 ^ k : Nat) : Int))) = ((val f (k + 1) : Nat) : Int) := by
  have hv := val_lt f k
  have hp : (128 : Nat) ^ k ≤ 128 ^ 9 := Nat.pow_le_pow_right (by omega) hk
  rw [pow9] at hp
  have hb : c % 128 * 128 ^ k < 9223372036854775809 := by
    by_cases e : k = 9
    · subst e
      have := h9 rfl
      rw [pow9]
      have : c % 128 ≤ 1 := by omega
      omega
    · have h8 : (128 : Nat) ^ k ≤ 128 ^ 8 := Nat.pow_le_pow_right (by omega) (by omega)
      rw [show (128 : Nat) ^ 8 = 72057594037927936 by decide] at h8
      have h2 : c % 128 * 128 ^ k ≤ 127 * 72057594037927936 := Nat.mul_le_mul (by omega) h8
      omega
  have e1 : (c : Int) % 128 * ((128 ^ k : Nat) : Int) = ((c % 128 * 128 ^ k : Nat) : Int) := by simp
  rw [e1, wrap_u64, wrap_u64, val_succ, hc]
  omega
set_option maxRecDepth 100000 in
set_option maxHeartbeats 800000 in
theorem number_c (s : ByteArray) (p : Nat) (w : World) (hs : s.size ≤ 1000000) (hp : p ≤ s.size) : Calls Try.prog 46 #[.string s, .int .i64 p] w fun e w' => e = .returned (.tuple #[.int .u64 (nV (fr s p) (s.size - p) : Nat), .int .i64 (p + nL (fr s p) (s.size - p) : Nat), .int .i64 (nE (fr s p) (s.size - p) : Nat)]) ∧ w = w' := by
  obtain ⟨v, hv⟩ : ∃ v, nV (fr s p) (s.size - p) = v := ⟨_, rfl⟩
  obtain ⟨L, hL⟩ : ∃ v, nL (fr s p) (s.size - p) = v := ⟨_, rfl⟩
  obtain ⟨ee, hE⟩ : ∃ v, nE (fr s p) (s.size - p) = v := ⟨_, rfl⟩
  rw [hv, hL, hE]
  have HO := Lib.hid (show NAt s p v L ee from ⟨hE, hv, hL⟩)
  clear hv hL hE
  go_enter Try.func46, Try.ntmps46
  go_wp2_with fail
  go_loop [7, 8, 9] (fun x y i => ∃ k : Nat, (p + k ≤ s.size ∧ k ≤ 9) ∧ i = .int .i64 k ∧ x = .int .u64 (val (fr s p) k : Nat) ∧ y = .int .u64 (128 ^ k : Nat) ∧ Hid (cont (fr s p) k)) (fun _ _ i => 10 - (intOf i).toNat)
  case atStart => exact ⟨0, ⟨by omega, by omega⟩, rfl, rfl, rfl, cont_zero _⟩
  case round =>
    obtain ⟨k, ⟨hk, hk9⟩, rfl, rfl, rfl, HC⟩ := hrel
    obtain ⟨u, hu⟩ : ∃ u, 128 ^ k = u := ⟨_, rfl⟩
    by_cases hlt : p + k < s.size
    · have hkm : k < s.size - p := by omega
      obtain ⟨c, hc⟩ : ∃ c, fr s p k = c := ⟨_, rfl⟩
      have hcs : (s[p + k].toNat : Int) = (c : Int) := by rw [bt_eq s (p + k) hlt, ← hc]; rfl
      have hcb : c ≤ 255 := by have := bt_bd s (p + k); unfold fr at hc; omega
      by_cases h2 : k = 9 ∧ 1 < c
      · have g1 : ((k : Int) == 9) = true := by simp; omega
        have g2 : 1 < (c : Int) := by omega
        have HV := Lib.hid (show ((0 : Nat) : Int) = (v : Int) ∧ (p : Int) = ((p + L : Nat) : Int) ∧ (5 : Int) = (ee : Int) by
          obtain ⟨o1, o2, o3⟩ := out_big (f := fr s p) (m := s.size - p) (by rw [← h2.1]; exact HC.out) (by omega) (by rw [← h2.1, hc]; omega)
          obtain ⟨q1, q2, q3⟩ := HO.out
          rw [o1] at q1; rw [o2] at q2; rw [o3] at q3
          subst q1 q2 q3
          exact ⟨rfl, rfl, rfl⟩)
        clear HO hc h2 hu
        go_wp2_with fail
        go_ret3
        exact ⟨ret_num HV.out.1 HV.out.2.1 HV.out.2.2, rfl⟩
      · have HN := Lib.hid (num_add (f := fr s p) (k := k) hk9 hc (fun e => by omega))
        rw [hu] at HN
        have g1 : ((k : Int) == 9) = true ∧ ¬ 1 < (c : Int) ∨ ((k : Int) == 9) = false := by
          by_cases e : k = 9
          · exact .inl ⟨by simp; omega, by omega⟩
          · exact .inr (by simp; omega)
        by_cases h1 : 128 ≤ c
        · have g3 : ¬ (c : Int) < 128 := by omega
          have g1 : ((k : Int) == 9) = false := by simp; omega
          have HC2 := Lib.hid (cont_step HC.out (by rw [hc]; exact h1))
          have HU := Lib.hid (show IntKind.u64.wrap ((u : Int) * 128) = ((128 ^ (k + 1) : Nat) : Int) by
            have h8 : (128 : Nat) ^ k ≤ 128 ^ 8 := Nat.pow_le_pow_right (by omega) (by omega)
            rw [show (128 : Nat) ^ 8 = 72057594037927936 by decide] at h8
            rw [wrap_u64, Nat.pow_succ, hu]; omega)
          have hk8 : k ≤ 8 := by omega
          rw [hu]
          clear HO hc h2 hu
          go_wp2_with fail
          go_round
          case rel => exact ⟨k + 1, ⟨by omega, by omega⟩, by go_num, by rw [HN.out], by rw [HU.out], HC2.out⟩
          case measure => simp [intOf]; omega
        · have g3 : (c : Int) < 128 := by omega
          rw [hu]
          by_cases h4 : c = 0 ∧ 0 < k
          · have g4 : ((c : Int) == 0) = true := by simp; omega
            have g5 : 0 < (k : Int) := by omega
            have HV := Lib.hid (show ((0 : Nat) : Int) = (v : Int) ∧ (p : Int) = ((p + L : Nat) : Int) ∧ (5 : Int) = (ee : Int) by
              obtain ⟨o1, o2, o3⟩ := out_zero (f := fr s p) (m := s.size - p) (i := k) HC.out hk9 hkm (by rw [hc]; exact h4.1) h4.2
              obtain ⟨q1, q2, q3⟩ := HO.out
              rw [o1] at q1; rw [o2] at q2; rw [o3] at q3
              subst q1 q2 q3
              exact ⟨rfl, rfl, rfl⟩)
            clear HO hc h2 h4 hu
            rcases g1 with ⟨g1, g2⟩ | g1
            · go_wp2_with fail
              go_ret3
              exact ⟨ret_num HV.out.1 HV.out.2.1 HV.out.2.2, rfl⟩
            · go_wp2_with fail
              go_ret3
              exact ⟨ret_num HV.out.1 HV.out.2.1 HV.out.2.2, rfl⟩
          · have HV := Lib.hid (show ((val (fr s p) (k + 1) : Nat) : Int) = (v : Int) ∧ (p : Int) + (k : Int) + 1 = ((p + L : Nat) : Int) ∧ (0 : Int) = (ee : Int) by
              obtain ⟨o1, o2, o3⟩ := out_ok (f := fr s p) (m := s.size - p) (i := k) HC.out hk9 hkm (by omega) (by rw [hc]; exact h2) (by rw [hc]; exact h4)
              obtain ⟨q1, q2, q3⟩ := HO.out
              rw [o1] at q1; rw [o2] at q2; rw [o3] at q3
              subst q1 q2 q3
              exact ⟨rfl, by omega, rfl⟩)
            have g4 : ((c : Int) == 0) = true ∧ ¬ 0 < (k : Int) ∨ ((c : Int) == 0) = false := by
              by_cases e : c = 0
              · exact .inl ⟨by simp; omega, by omega⟩
              · exact .inr (by simp; omega)
            clear HO hc h2 h4 hu
            rcases g1 with ⟨g1, g2⟩ | g1
            · rcases g4 with ⟨g4, g5⟩ | g4
              · go_wp2_with fail
                go_ret3
                exact ⟨ret_num (by rw [HN.out]; exact HV.out.1) HV.out.2.1 HV.out.2.2, rfl⟩
              · go_wp2_with fail
                go_ret3
                exact ⟨ret_num (by rw [HN.out]; exact HV.out.1) HV.out.2.1 HV.out.2.2, rfl⟩
            · rcases g4 with ⟨g4, g5⟩ | g4
              · go_wp2_with fail
                go_ret3
                exact ⟨ret_num (by rw [HN.out]; exact HV.out.1) HV.out.2.1 HV.out.2.2, rfl⟩
              · go_wp2_with fail
                go_ret3
                exact ⟨ret_num (by rw [HN.out]; exact HV.out.1) HV.out.2.1 HV.out.2.2, rfl⟩
    · have hge : ¬ (p : Int) + (k : Int) < (s.size : Int) := by omega
      have HV := Lib.hid (show ((0 : Nat) : Int) = (v : Int) ∧ (p : Int) = ((p + L : Nat) : Int) ∧ (3 : Int) = (ee : Int) by
        obtain ⟨o1, o2, o3⟩ := out_short (f := fr s p) (m := s.size - p) (i := k) HC.out hk9 (by omega)
        obtain ⟨q1, q2, q3⟩ := HO.out
        rw [o1] at q1; rw [o2] at q2; rw [o3] at q3
        subst q1 q2 q3
        exact ⟨rfl, rfl, rfl⟩)
      clear HO hu
      go_wp2_with fail
      go_ret3
      exact ⟨ret_num HV.out.1 HV.out.2.1 HV.out.2.2, rfl⟩
end Go.Proofs.Ytnejobcbhddpoaa
