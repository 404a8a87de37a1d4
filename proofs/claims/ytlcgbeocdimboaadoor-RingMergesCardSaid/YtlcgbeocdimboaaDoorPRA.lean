/- The reference's Ranged, Cross, Area2 and Check. -/
import Derived.Test.YtlcgbeocdimboaaDoorPArea
set_option linter.unusedVariables false
set_option linter.unusedSimpArgs false
namespace Go.Proofs.YtlcgbeocdimboaaDoor
open Go.ChangeShapes Go.WideShapes Go.ChangeAt Go.RowKit Go.Shelf Pm

theorem inP_bad {x y : Int} (h : x < -600 ∨ 600 < x ∨ y < -600 ∨ 600 < y) : inP (x, y) = false := by
  unfold inP
  dsimp only
  rcases h with h | h | h | h
  · rw [inR_lo h]; rfl
  · rw [inR_hi h]; rfl
  · rw [inR_lo h, Bool.and_false]
  · rw [inR_hi h, Bool.and_false]
theorem inP_mk {x y : Int} (h1 : ¬ x < -600) (h2 : ¬ 600 < x) (h3 : ¬ y < -600) (h4 : ¬ 600 < y) : inP (x, y) = true := by
  unfold inP
  dsimp only
  rw [inR_mk (by omega) (by omega), inR_mk (by omega) (by omega)]; rfl
set_option maxRecDepth 100000 in
set_option maxHeartbeats 1600000 in
theorem rRanged_c (v : Value) (l : List P) (b : Bool) (h : Hid (rng l = b)) (w : World) (hr : RdP w v l) (hl : l.length ≤ maxLen) : Calls Tryd.prog 27 #[v] w fun e w' => e = .returned (.bool b) ∧ w = w' := by
  have HR := Lib.hid hr
  unfold maxLen at hl
  obtain ⟨A, c, rfl, hc, _⟩ := hr
  obtain ⟨n, hn⟩ : ∃ n, l.length = n := ⟨_, rfl⟩
  have HN := Lib.hid hn
  rw [hn] at HR hl
  rw [hn]
  have hl' : n ≤ 9223372036854775807 := by omega
  clear hc hn hl
  go_enter Tryd.func27, Tryd.ntmps27
  go_wp2_with fail
  go_loop [3] (fun u => ∃ k : Nat, k ≤ n ∧ u = .int .i64 k ∧ Hid (∀ i, i < k → inP (g l i) = true)) (fun u => n - (intOf u).toNat)
  case atStart => exact ⟨0, Nat.zero_le _, rfl, fun i hi => by omega⟩
  case round =>
    obtain ⟨k, hk, rfl, HI⟩ := hrel
    by_cases hlt : k < n
    · have hkl : k < l.length := by rw [HN.out]; exact hlt
      obtain ⟨bb, off, rfl, hb, hc, c0, c1⟩ := HR.out.at (Q.refl w) hkl
      obtain ⟨⟨x, y⟩, hx⟩ : ∃ q, g l k = q := ⟨_, rfl⟩
      rw [hx] at c0 c1
      have HX := Lib.hid hx
      have HKL := Lib.hid hkl
      dsimp only at c0 c1
      clear hx hkl
      by_cases h1 : x < -600
      · have HE := Lib.hid (show false = b by rw [← h.out]; exact (allN_no HKL.out (by rw [HX.out]; exact inP_bad (.inl h1))).symm)
        go_wp2_with fail
        go_ret
        exact ⟨ret_bool HE.out, rfl⟩
      · have h1' : decide (x < -600) = false := decide_eq_false h1
        by_cases h2 : 600 < x
        · have HE := Lib.hid (show false = b by rw [← h.out]; exact (allN_no HKL.out (by rw [HX.out]; exact inP_bad (.inr (.inl h2)))).symm)
          go_wp2_with fail
          go_ret
          exact ⟨ret_bool HE.out, rfl⟩
        · have h2' : decide (600 < x) = false := decide_eq_false h2
          by_cases h3 : y < -600
          · have HE := Lib.hid (show false = b by rw [← h.out]; exact (allN_no HKL.out (by rw [HX.out]; exact inP_bad (.inr (.inr (.inl h3))))).symm)
            go_wp2_with fail
            go_ret
            exact ⟨ret_bool HE.out, rfl⟩
          · have h3' : decide (y < -600) = false := decide_eq_false h3
            by_cases h4 : 600 < y
            · have HE := Lib.hid (show false = b by rw [← h.out]; exact (allN_no HKL.out (by rw [HX.out]; exact inP_bad (.inr (.inr (.inr h4))))).symm)
              go_wp2_with fail
              go_ret
              exact ⟨ret_bool HE.out, rfl⟩
            · have h4' : decide (600 < y) = false := decide_eq_false h4
              have HG := Lib.hid (rng_next HI.out (by rw [HX.out]; exact inP_mk h1 h2 h3 h4))
              go_wp2_with fail
              go_round
              case rel => exact ⟨k + 1, by omega, by go_num, HG.out⟩
              case measure => simp [intOf] <;> omega
    · obtain rfl : k = n := by omega
      have HE := Lib.hid (show true = b by rw [← h.out]; exact (allN_yes (by rw [HN.out]; exact HI.out)).symm)
      go_wp2_with fail
      go_ret
      exact ⟨ret_bool HE.out, rfl⟩
theorem mod_nx (l : List P) (k n : Nat) (h : l.length = n) (h0 : 0 < n) : ((k : Int) + 1).tmod (n : Int) = (nx l k : Nat) := by
  rw [Int.tmod_eq_emod_of_nonneg (by omega)]; unfold nx; rw [h]; simp
end Go.Proofs.YtlcgbeocdimboaaDoor
