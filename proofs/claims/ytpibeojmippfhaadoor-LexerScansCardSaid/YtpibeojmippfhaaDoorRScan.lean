/- The contracts of the reference's number, mark and Scan. -/
import Derived.Test.YtpibeojmippfhaaDoorScan
set_option linter.unusedVariables false
set_option linter.unusedSimpArgs false
namespace Go.Proofs.YtpibeojmippfhaaDoor
open Go.ChangeShapes Go.WideShapes Go.ChangeAt Go.RowKit Lm

set_option maxRecDepth 100000 in
set_option maxHeartbeats 1600000 in
theorem rnumber_c (t : ByteArray) (w : World) (hs : t.size ≤ 1000000) (h0 : 0 < t.size) (hd : ∀ j, j < t.size → 48 ≤ bt t j ∧ bt t j ≤ 57) : Calls Tryd.prog 26 #[.string t] w fun E w' => E = .returned (.tuple #[.int .i64 (numV t), .int .i64 (numE t)]) ∧ Q w w' := by
  have HD := Lib.hid hd
  have hb := bt_eq t 0 h0
  obtain ⟨z, hz⟩ : ∃ z : Int, (bt t 0 : Int) = z := ⟨_, rfl⟩
  rw [hz] at hb
  obtain ⟨V, hV⟩ : ∃ V, numV t = V := ⟨_, rfl⟩
  obtain ⟨X, hX⟩ : ∃ X, numE t = X := ⟨_, rfl⟩
  rw [hV, hX]
  clear hd
  by_cases h1 : 1 < t.size ∧ bt t 0 = 48
  · have e : numE t = 5 := by unfold numE; rw [if_pos h1]
    have HE := Lib.hid (show V = 0 ∧ X = 5 by
      rw [← hV, ← hX, e]; unfold numV; rw [if_neg (by rw [e]; decide)]; exact ⟨rfl, rfl⟩)
    have i1 : 1 < (t.size : Int) := by omega
    obtain rfl : z = 48 := by omega
    clear hV hX e
    go_enter Tryd.func26, Tryd.ntmps26
    go_wp2_with fail
    go_ret2
    exact ⟨by rw [HE.out.1, HE.out.2]; rfl, Q.refl _⟩
  · have HBAD := Lib.hid (show 1099511627776 < dv 0 t.data.toList → V = 0 ∧ X = 9 from fun h => by
      have e : numE t = 9 := by unfold numE; rw [if_neg h1, if_pos h]
      rw [← hV, ← hX, e]; unfold numV; rw [if_neg (by rw [e]; decide)]; exact ⟨rfl, rfl⟩)
    have HOK := Lib.hid (show ¬ 1099511627776 < dv 0 t.data.toList → V = dv 0 t.data.toList ∧ X = 0 from fun h => by
      have e : numE t = 0 := by unfold numE; rw [if_neg h1, if_neg h]
      rw [← hV, ← hX, e]; unfold numV; rw [if_pos e]; exact ⟨rfl, rfl⟩)
    have i1 : ¬ 1 < (t.size : Int) ∨ (1 < (t.size : Int) ∧ (z == 48) = false) := by
      by_cases g : 1 < t.size
      · right; refine ⟨by omega, ?_⟩; simp; omega
      · left; omega
    clear hV hX h1 hz
    rcases i1 with i1 | ⟨i1, i2⟩
    all_goals
      go_enter Tryd.func26, Tryd.ntmps26
      go_wp2_with fail
      go_loopw [4, 5] (fun v3 v4 wr => ∃ k : Nat, k ≤ t.size ∧ v3 = .int .i64 (pre t k) ∧ v4 = .int .i64 k ∧ Hid (pre t k ≤ 1099511627776) ∧ Hid (Q w wr)) (fun _ v4 _ => t.size - (intOf v4).toNat)
      case atStart => exact ⟨0, Nat.zero_le _, by rw [pre_zero]; rfl, rfl, by rw [pre_zero]; exact Nat.zero_le _, Q.refl _⟩
      case round =>
        obtain ⟨k, hk, rfl, rfl, HP, HI⟩ := hrel
        by_cases hlt : k < t.size
        · have hbk := bt_eq t k hlt
          obtain ⟨d1, d2⟩ := HD.out k hlt
          obtain ⟨d, hdd⟩ : ∃ d, bt t k = d + 48 := ⟨bt t k - 48, by omega⟩
          have HS := Lib.hid (show pre t (k + 1) = pre t k * 10 + d by rw [pre_succ t k hlt, hdd]; omega)
          have HLE := Lib.hid (pre_le t (k + 1))
          obtain ⟨P, hP⟩ : ∃ P, pre t k = P := ⟨_, rfl⟩
          rw [hP] at HS HP
          rw [hP]
          have j1 : (t[k].toNat : Int) - 48 = (d : Int) := by omega
          have j2 : (d : Int) ≤ 9 := by omega
          have j3 : (P : Int) ≤ 1099511627776 := by have := HP.out; omega
          have j4 : 48 ≤ (t[k].toNat : Int) := by omega
          have j5 : (t[k].toNat : Int) ≤ 57 := by omega
          obtain ⟨N, hN⟩ : ∃ N : Nat, P * 10 + d = N := ⟨_, rfl⟩
          have j6 : (P : Int) * 10 + (d : Int) = (N : Int) := by omega
          have HN := Lib.hid (show pre t (k + 1) = N by rw [HS.out, hN])
          have j7 : (N : Int) ≤ 10995116277769 := by omega
          by_cases hb2 : 1099511627776 < N
          · have j8 : 1099511627776 < (N : Int) := by omega
            have HE := Lib.hid (HBAD.out (by have := HLE.out; rw [HN.out] at this; omega))
            clear hbk d1 d2 hdd hP hN hb2
            go_wp2_with fail
            go_ret2
            exact ⟨by rw [HE.out.1, HE.out.2]; rfl, HI.out⟩
          · have j8 : ¬ 1099511627776 < (N : Int) := by omega
            have HB := Lib.hid (show pre t (k + 1) ≤ 1099511627776 by rw [HN.out]; omega)
            clear hbk d1 d2 hdd hP hN hb2
            go_wp2_with fail
            go_roundw
            case rel => exact ⟨k + 1, hlt, by rw [HN.out], by go_num, HB, HI⟩
            case measure => simp [intOf] <;> omega
        · obtain rfl : k = t.size := by omega
          have HE := Lib.hid (HOK.out (by rw [← pre_all]; have := HP.out; omega))
          have HA := Lib.hid (pre_all t)
          go_wp2_with fail
          go_ret2
          exact ⟨by rw [HE.out.1, HE.out.2, ← HA.out]; rfl, HI.out⟩
end Go.Proofs.YtpibeojmippfhaaDoor
