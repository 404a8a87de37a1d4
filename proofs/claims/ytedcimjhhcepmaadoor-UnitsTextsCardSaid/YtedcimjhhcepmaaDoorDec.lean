/- The contract of units.Decimal. -/
import Derived.Test.YtedcimjhhcepmaaDoorFmt
import Derived.Test.YtedcimjhhcepmaaDoorMul
import Derived.Deep.DeepCutAuto
set_option linter.unusedVariables false
set_option linter.unusedSimpArgs false
namespace Go.Proofs.YtedcimjhhcepmaaDoor
open Go.ChangeShapes Go.WideShapes Go.ChangeAt Go.RowKit Um

/-- the digits, with zeros ahead where they are too few -/
def pad (u K : Nat) : List UInt8 := List.replicate (K + 1 - Lib.nDigits u) 48 ++ Lib.decDigits u
/-- with a point ahead of the last K digits -/
def pnt (u K : Nat) : List UInt8 := if K = 0 then pad u K else (pad u K).take ((pad u K).length - K) ++ 46 :: (pad u K).drop ((pad u K).length - K)
def decL (neg : Bool) (u K : Nat) : List UInt8 := if neg then 45 :: pnt u K else pnt u K
theorem pad_len (u K : Nat) : (pad u K).length = (K + 1 - Lib.nDigits u) + Lib.nDigits u := by unfold pad; rw [List.length_append, List.length_replicate, Lib.decDigits_length]
theorem repL (c : Nat) : Lib.repeatL [48] c = List.replicate c 48 := by
  induction c with
  | zero => rfl
  | succ c ih => rw [List.replicate_succ, ← ih]; rfl
def bs (l : List UInt8) : ByteArray := ⟨l.toArray⟩
theorem bs_size (l : List UInt8) : (bs l).size = l.length := by simp [bs, ByteArray.size]
theorem bs_app (x y : List UInt8) : bs x ++ bs y = bs (x ++ y) := by apply ByteArray.ext; simp [bs, ByteArray.data_append]
theorem bs_take (l : List UInt8) (k : Nat) (h : k ≤ l.length) : (bs l).extract 0 k = bs (l.take k) := by
  apply ByteArray.ext; apply Array.toList_inj.1
  simp [bs, ByteArray.data_extract, List.extract]
theorem bs_drop (l : List UInt8) (k : Nat) (h : k ≤ l.length) : (bs l).extract k (bs l).size = bs (l.drop k) := by
  apply ByteArray.ext; apply Array.toList_inj.1
  rw [bs_size]
  simp [bs, ByteArray.data_extract, List.extract, List.take_of_length_le]
theorem nd_bd (u : Nat) (h : u < 18446744073709551616) : 1 ≤ Lib.nDigits u ∧ Lib.nDigits u ≤ 20 := by
  rcases Nat.eq_zero_or_pos u with rfl | h1
  · decide +kernel
  · have := Lib.numDigits_eq u h1 h
    have g := Lib.lt_pow_nDigits u
    refine ⟨?_, by split at this <;> omega⟩
    rcases Nat.eq_zero_or_pos (Lib.nDigits u) with h2 | h2
    · rw [h2] at g; omega
    · exact h2
theorem Fmt_is (u : Nat) (T : ByteArray) (hT : Hid (bs (Lib.decDigits u) = T)) (hu : u < 18446744073709551616) (w : World) (ht : Tab w) :
    Calls Tryd.prog 45 #[.int .u64 (u : Int), .int .i64 10] w fun e w' => e = .returned (.string T) ∧ Q w w' :=
  (FormatUint_c u hu w ht).mono fun _ _ ⟨a, b⟩ => ⟨by rw [a, ← hT.out]; rfl, b⟩
theorem Rep_is (c : Nat) (R : ByteArray) (hR : Hid (bs (List.replicate c 48) = R)) (hc : c ≤ 100) (w : World) :
    Calls Tryd.prog 46 #[.string ⟨#[48]⟩, .int .i64 (c : Int)] w fun e w' => e = .returned (.string R) ∧ Q w w' :=
  (Tryd.strings_Repeat ⟨#[48]⟩ c w (by omega) (by show 1 * c ≤ _; omega)).mono fun _ _ ⟨a, b⟩ => ⟨by rw [a, ← hR.out, ← repL]; rfl, b⟩
theorem Clamp9_is (k : Int) (K : Nat) (h : Hid (clamp k 0 9 = (K : Int))) (w : World) : Calls Tryd.prog 19 #[.int .i64 k, .int .i64 0, .int .i64 9] w fun e w' => e = .returned (.int .i64 (K : Int)) ∧ w = w' :=
  (Clamp_c k 0 9 w).mono fun _ _ ⟨a, b⟩ => ⟨by rw [a, h.out], b⟩
theorem ret_str {a b : ByteArray} (h : a = b) : Ending.returned (.string a) = .returned (.string b) := by rw [h]

set_option maxRecDepth 100000 in
set_option maxHeartbeats 1600000 in
theorem Decimal_k (n digits : Int) (K u : Nat) (fn : Fit n) (hK : Hid (clamp digits 0 9 = (K : Int))) (hu : Hid (n.natAbs = u)) (w : World) (ht : Tab w) :
    Calls Tryd.prog 26 #[.int .i64 n, .int .i64 digits] w fun e w' => e = .returned (.string (bs (decL (decide (n < 0)) u K))) ∧ Q w w' := by
  have FN := Lib.hid fn
  have HT := Lib.hid ht
  have hu64 : u < 18446744073709551616 := by have := hu.out; have := fn.1; have := fn.2; omega
  have HU := Lib.hid hu64
  have hKb : K ≤ 9 := by have := hK.out; unfold clamp at this; split at this <;> (try split at this) <;> (try split at this) <;> omega
  have nb := nd_bd u hu64
  obtain ⟨T, hT⟩ : ∃ T, bs (Lib.decDigits u) = T := ⟨_, rfl⟩
  have hTs : T.size = Lib.nDigits u := by rw [← hT, bs_size, Lib.decDigits_length]
  have HTT := Lib.hid hT
  have HTS := Lib.hid hTs
  have s1 : 1 ≤ T.size := by omega
  have s2 : T.size ≤ 20 := by omega
  obtain ⟨T1, hT1⟩ : ∃ T1, bs (pad u K) = T1 := ⟨_, rfl⟩
  have hT1s : T1.size = (K + 1 - Lib.nDigits u) + Lib.nDigits u := by rw [← hT1, bs_size, pad_len]
  have s3 : K + 1 ≤ T1.size := by omega
  have s4 : T1.size ≤ 20 := by omega
  have HT1 := Lib.hid hT1
  obtain ⟨T2, hT2⟩ : ∃ T2, bs (pnt u K) = T2 := ⟨_, rfl⟩
  have s5 : T2.size ≤ 30 := by
    rw [← hT2, bs_size]; unfold pnt; split
    · rw [pad_len]; omega
    · simp only [List.length_append, List.length_cons, List.length_take, List.length_drop, pad_len]; omega
  have HT2 := Lib.hid hT2
  clear fn ht hu64 nb hT hT1 hT2 hTs hT1s
  go_enter Tryd.func26, Tryd.ntmps26
  go_wp2_with fail
  refine (Clamp9_is digits K hK _).mono ?_; rintro e w' ⟨rfl, rfl⟩
  go_wp2_with fail
  refine (mag_c n u hu FN.out _).mono ?_; rintro e w' ⟨rfl, rfl⟩
  go_wp2_with fail
  refine (Fmt_is u T HTT HU.out _ HT.out).mono ?_; rintro e w1 ⟨rfl, hq1⟩
  go_upto_if 19 with (fail)
  go_cut [5, 6] (fun v5 v6 wx => v5 = .string T1 ∧ Q w wx)
  case first =>
    by_cases hl : T.size < K + 1
    · obtain ⟨c, hc⟩ : ∃ c : Nat, (K : Int) + 1 - (T.size : Int) = (c : Int) := ⟨K + 1 - T.size, by omega⟩
      obtain ⟨R, hR⟩ : ∃ R, bs (List.replicate c 48) = R := ⟨_, rfl⟩
      have hRs : R.size = c := by rw [← hR, bs_size, List.length_replicate]
      have HR := Lib.hid hR
      have hRT : R ++ T = T1 := by
        rw [← hR, ← HTT.out, ← HT1.out, bs_app]
        have := HTS.out
        unfold pad; rw [show c = K + 1 - Lib.nDigits u by omega]
      have HRT := Lib.hid hRT
      have i1 : (0 : Int) < (c : Int) := by omega
      have hd : (T.size : Int) < (K : Int) + 1 := by omega
      have hcb : c ≤ 100 := by omega
      have i2 : R.size ≤ 10 := by omega
      rw [hc]
      clear hR hRs hRT hl hc
      go_wp2_with fail
      refine (Rep_is c R HR hcb _).mono ?_; rintro e w2 ⟨rfl, hq2⟩
      go_wp2_with fail
      go_meet
      exact ⟨by rw [HRT.out], hq1.trans hq2⟩
    · have hTT : T = T1 := by
        rw [← HTT.out, ← HT1.out]
        have := HTS.out
        unfold pad; rw [show K + 1 - Lib.nDigits u = 0 by omega]; rfl
      have HE := Lib.hid hTT
      have hd : ¬ (T.size : Int) < (K : Int) + 1 := by omega
      clear hTT
      go_wp2_with fail
      go_meet
      exact ⟨by rw [HE.out], hq1⟩
  case rest =>
    obtain ⟨rfl, hq2⟩ := hcut
    go_upto_if 25 with (fail)
    go_cut [5, 7] (fun v5 v7 wx => v5 = .string T2 ∧ Q w wx)
    case first =>
      by_cases h0 : K = 0
      · have hTT : T1 = T2 := by
          rw [← HT1.out, ← HT2.out]; unfold pnt; rw [if_pos h0]
        have HE := Lib.hid hTT
        clear hTT
        subst h0
        go_wp2_with fail
        go_meet
        exact ⟨by rw [HE.out], hq2⟩
      · obtain ⟨p, hp⟩ : ∃ p : Nat, (T1.size : Int) - (K : Int) = (p : Int) := ⟨T1.size - K, by omega⟩
        have i1 : (0 : Int) < (K : Int) := by omega
        have i2 : (p : Int) ≤ (T1.size : Int) := by omega
        have i3 : p ≤ T1.size := by omega
        have HE := Lib.hid (show T1.extract 0 p ++ (⟨#[46]⟩ : ByteArray) ++ T1.extract p T1.size = T2 by
          have hl : T1.size = (pad u K).length := by rw [← HT1.out, bs_size]
          rw [← HT1.out] at hl ⊢
          rw [bs_size] at hl
          have hp2 : p = (pad u K).length - K := by rw [← HT1.out, bs_size] at hp; omega
          rw [bs_take _ _ (by omega), bs_drop _ _ (by omega), show (⟨#[46]⟩ : ByteArray) = bs [46] from rfl, bs_app, bs_app, ← HT2.out]
          unfold pnt; rw [if_neg h0, ← hp2]; simp)
        go_wp2_with fail
        go_quiet (fail)
        go_wp2_with fail
        go_meet
        exact ⟨by rw [HE.out], hq2.drewN _⟩
    case rest =>
      obtain ⟨rfl, hq3⟩ := hcut
      by_cases hn : n < 0
      · have HE := Lib.hid (show bs (decL (decide (n < 0)) u K) = (⟨#[45]⟩ : ByteArray) ++ T2 by
          rw [← HT2.out, decide_eq_true hn]; unfold decL; simp only [if_true]
          exact (bs_app [45] (pnt u K)).symm)
        go_wp2_with fail
        go_ret
        exact ⟨ret_str HE.out.symm, hq3⟩
      · have HE := Lib.hid (show bs (decL (decide (n < 0)) u K) = T2 by
          rw [← HT2.out, decide_eq_false hn]; rfl)
        go_wp2_with fail
        go_ret
        exact ⟨ret_str HE.out.symm, hq3⟩
/-- what Decimal answers -/
def decS (n digits : Int) : ByteArray := bs (decL (decide (n < 0)) n.natAbs (clamp digits 0 9).toNat)
theorem Decimal_c (n digits : Int) (fn : Fit n) (w : World) (ht : Tab w) :
    Calls Tryd.prog 26 #[.int .i64 n, .int .i64 digits] w fun e w' => e = .returned (.string (decS n digits)) ∧ Q w w' := by
  have h0 : 0 ≤ clamp digits 0 9 := by unfold clamp; split <;> (try split) <;> (try split) <;> omega
  obtain ⟨K, hK⟩ := Int.eq_ofNat_of_zero_le h0
  have := Decimal_k n digits K n.natAbs fn (Lib.hid hK) (Lib.hid rfl) w ht
  unfold decS; rw [hK, Int.toNat_natCast]; exact this
end Go.Proofs.YtedcimjhhcepmaaDoor
