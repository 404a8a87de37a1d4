/- The contracts of slices.Reverse at points, canBeNegated, Turn and Mirror. -/
import Derived.Test.YtlcgbeocdimboaaDoorPWr
set_option linter.unusedVariables false
set_option linter.unusedSimpArgs false
namespace Go.Proofs.YtlcgbeocdimboaaDoor
open Go.ChangeShapes Go.WideShapes Go.ChangeAt Go.RowKit Go.Shelf Pm

theorem neg_next {l : List P} {k : Nat} (h : ∀ i, i < k → negP (g l i) = true) (h1 : negP (g l k) = true) : ∀ i, i < k + 1 → negP (g l i) = true := fun i hi => by
  by_cases e : i = k
  · rw [e]; exact h1
  · exact h i (by omega)
set_option maxRecDepth 100000 in
set_option maxHeartbeats 1600000 in
theorem canNeg_c (v : Value) (l : List P) (b : Bool) (h : Hid (negL l = b)) (w : World) (hr : RdP w v l) (hl : l.length ≤ maxLen) : Calls Tryd.prog 43 #[v] w fun e w' => e = .returned (.bool b) ∧ Q w w' := by
  have HR := Lib.hid hr
  obtain ⟨A, c, rfl, hc, _⟩ := hr
  obtain ⟨n, hn⟩ : ∃ n, l.length = n := ⟨_, rfl⟩
  have HN := Lib.hid hn
  rw [hn] at HR
  rw [hn]
  have hl' : n ≤ 9223372036854775807 := by unfold maxLen at hl; omega
  clear hc hn hl
  go_enter Tryd.func43, Tryd.ntmps43
  go_wp2_with fail
  go_loopw [7] (fun u wr => ∃ k : Nat, k ≤ n ∧ u = .int .i64 k ∧ Hid ((∀ i, i < k → negP (g l i) = true) ∧ Q w wr)) (fun u _ => n - (intOf u).toNat)
  case atStart => exact ⟨0, Nat.zero_le _, rfl, fun i hi => by omega, Q.refl _⟩
  case round =>
    obtain ⟨k, hk, rfl, HI⟩ := hrel
    by_cases hlt : k < n
    · have hkl : k < l.length := by rw [HN.out]; exact hlt
      obtain ⟨bb, off, rfl, hb, hc, c0, c1⟩ := HR.out.at HI.out.2 hkl
      obtain ⟨⟨x, y⟩, hx⟩ : ∃ q, g l k = q := ⟨_, rfl⟩
      rw [hx] at c0 c1
      have HX := Lib.hid hx
      have HQ := Lib.hid (HI.out.2.alloc (.cells #[.int .i64 x, .int .i64 y] 38))
      clear hx
      by_cases h1 : x = -9223372036854775808
      · have h1' : (x == -9223372036854775808) = true := by simp [h1]
        have HE := Lib.hid (show false = b by rw [← h.out]; exact (allN_no hkl (by rw [HX.out]; simp [negP, least, h1])).symm)
        clear hkl h1
        go_wp2_with fail
        go_ret
        exact ⟨ret_bool HE.out, HQ.out⟩
      · have h1' : (x == -9223372036854775808) = false := by simp [h1]
        by_cases h2 : y = -9223372036854775808
        · have h2' : (y == -9223372036854775808) = true := by simp [h2]
          have HE := Lib.hid (show false = b by rw [← h.out]; exact (allN_no hkl (by rw [HX.out]; simp [negP, least, h2])).symm)
          clear hkl h1 h2
          go_wp2_with fail
          go_ret
          exact ⟨ret_bool HE.out, HQ.out⟩
        · have h2' : (y == -9223372036854775808) = false := by simp [h2]
          have HG := Lib.hid (neg_next HI.out.1 (by rw [HX.out]; simp [negP, least, h1, h2]))
          clear hkl h1 h2
          go_wp2_with fail
          go_roundw
          case rel => exact ⟨k + 1, by omega, by go_num, HG.out, HQ.out⟩
          case measure => simp [intOf] <;> omega
    · obtain rfl : k = n := by omega
      have HE := Lib.hid (show true = b by rw [← h.out]; exact (allN_yes (by rw [HN.out]; exact HI.out.1)).symm)
      go_wp2_with fail
      go_ret
      exact ⟨ret_bool HE.out, HI.out.2⟩

/-! Reverse -/
theorem cell_far {w : World} {b i j : Nat} {u v : Value} (h : i ≠ j) (hc : w.cell? ⟨b, j, none⟩ = some v) : (w.setCell ⟨b, i, none⟩ u).cell? ⟨b, j, none⟩ = some v := by
  rw [World.cell?_setCell_other]
  · exact hc
  · intro k; injection k with _ k; exact h k
/-- the list with the first k and the last k points exchanged -/
def rv (l : List P) (k : Nat) : List P := (l.reverse.take k) ++ ((l.drop k).take (l.length - 2 * k)) ++ l.reverse.drop (l.length - k)
def RevPost (b : Nat) (l : List P) (w : World) (e : Ending) (w' : World) : Prop := e = .returned (.tuple #[]) ∧ Wr w' b l.reverse ∧ w.grownBy w' (some b)
theorem rv_zero (l : List P) : rv l 0 = l := by simp [rv]
theorem rv_get (l : List P) {k : Nat} (hk : 2 * k ≤ l.length) (i : Nat) : (rv l k)[i]? = if i < k ∨ l.length - k ≤ i then l.reverse[i]? else l[i]? := by
  unfold rv
  by_cases h1 : i < k
  · rw [if_pos (.inl h1), List.append_assoc, List.getElem?_append_left (by simp; omega), List.getElem?_take, if_pos h1]
  · by_cases h2 : l.length - k ≤ i
    · rw [if_pos (.inr h2), List.getElem?_append_right (by simp; omega), List.getElem?_drop]
      congr 1; simp; omega
    · rw [if_neg (by omega), List.getElem?_append_left (by simp; omega), List.getElem?_append_right (by simp; omega), List.getElem?_take, if_pos (by simp; omega), List.getElem?_drop]
      congr 1; simp; omega
theorem rv_len (l : List P) {k : Nat} (hk : 2 * k ≤ l.length) : (rv l k).length = l.length := by unfold rv; simp; omega
theorem rv_next (l : List P) {k : Nat} (hk : 2 * k + 1 < l.length) : ((rv l k).set k (g l (l.length - 1 - k))).set (l.length - 1 - k) (g l k) = rv l (k + 1) := by
  apply List.ext_getElem?
  intro i
  rw [rv_get l (by omega)]
  rw [List.getElem?_set, List.getElem?_set, List.length_set, rv_len l (by omega)]
  by_cases h1 : l.length - 1 - k = i
  · rw [if_pos h1, if_pos (by omega), if_pos (by omega), List.getElem?_reverse (by omega), g_some (l := l) (show l.length - 1 - i < l.length by omega)]
    congr 2; omega
  · rw [if_neg h1]
    by_cases h2 : k = i
    · rw [if_pos h2, if_pos (by omega), if_pos (by omega), List.getElem?_reverse (by omega), g_some (l := l) (show l.length - 1 - i < l.length by omega)]
      congr 2; omega
    · rw [if_neg h2, rv_get l (by omega)]
      by_cases h3 : i < k ∨ l.length - k ≤ i
      · rw [if_pos h3, if_pos (by omega)]
      · by_cases h4 : i < k + 1 ∨ l.length - (k + 1) ≤ i
        · omega
        · rw [if_neg h3, if_neg h4]
theorem rv_done (l : List P) {k : Nat} (hk : 2 * k ≤ l.length) (h : l.length ≤ 2 * k + 1) : rv l k = l.reverse := by
  apply List.ext_getElem?
  intro i
  rw [rv_get l hk]
  by_cases h1 : i < k ∨ l.length - k ≤ i
  · rw [if_pos h1]
  · rw [if_neg h1]
    have e : i = k := by omega
    subst e
    rw [List.getElem?_reverse (by omega)]
    congr 1; omega
theorem rv_at (l : List P) {k i : Nat} (hk : 2 * k ≤ l.length) (h1 : k ≤ i) (h2 : i < l.length - k) : g (rv l k) i = g l i := by
  unfold g
  rw [List.getD_eq_getElem?_getD, List.getD_eq_getElem?_getD, rv_get l hk, if_neg (by omega)]
end Go.Proofs.YtlcgbeocdimboaaDoor
