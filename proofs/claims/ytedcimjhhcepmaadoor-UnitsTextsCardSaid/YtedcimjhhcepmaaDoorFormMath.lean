/- Plain facts: the form of a decimal number, place for place. -/
import Derived.Test.YtedcimjhhcepmaaDoorTextMath
set_option linter.unusedVariables false
set_option linter.unusedSimpArgs false
namespace Go.Proofs.YtedcimjhhcepmaaDoor
open Go.RowKit Um

/-- the digits of the first m places, the point's place N left out -/
def gt (t : List UInt8) (N : Nat) : Nat → List UInt8
  | 0 => []
  | m + 1 => if m = N then gt t N m else gt t N m ++ [t.getD m 0]
/-- the form, place for place -/
structure Form (t : List UInt8) (K N : Nat) : Prop where
  len : N + K + (if 0 < K then 1 else 0) = t.length
  one : 1 ≤ N
  zero : ¬ (t.getD 0 0 = 48 ∧ 1 < N)
  point : 0 < K → t.getD N 0 = 46
  digs : ∀ j, j < t.length → j ≠ N → isD (t.getD j 0) = true
theorem getD_lt {t : List UInt8} {j : Nat} (h : j < t.length) : t[j]? = some (t.getD j 0) := by
  rw [List.getD_eq_getElem?_getD, List.getElem?_eq_getElem h]; rfl
theorem digs_of {t : List UInt8} (h : ∀ j, j < t.length → isD (t.getD j 0) = true) : digs t = true := by
  unfold digs; rw [List.all_eq_true]
  intro x hx
  obtain ⟨j, hj⟩ := List.getElem?_of_mem hx
  have hl : j < t.length := by
    rcases Nat.lt_or_ge j t.length with k | k
    · exact k
    · rw [List.getElem?_eq_none k] at hj; cases hj
  have := getD_lt hl
  rw [hj] at this
  rw [Option.some.inj this]; exact h j hl
theorem digs_at {t : List UInt8} (h : digs t = true) {j : Nat} (hj : j < t.length) : isD (t.getD j 0) = true := by
  unfold digs at h; exact List.all_eq_true.1 h _ (List.mem_of_getElem? (getD_lt hj))
theorem gt_low (t : List UInt8) (N m : Nat) (h : m ≤ N) (hm : m ≤ t.length) : gt t N m = t.take m := by
  induction m with
  | zero => rfl
  | succ m ih =>
    unfold gt
    rw [if_neg (by omega), ih (by omega) (by omega), List.take_add_one, getD_lt (by omega)]; rfl
theorem gt_high (t : List UInt8) (N j : Nat) (hm : N + 1 + j ≤ t.length) : gt t N (N + 1 + j) = t.take N ++ (t.drop (N + 1)).take j := by
  induction j with
  | zero =>
    show gt t N (N + 1) = _
    unfold gt
    rw [if_pos rfl, gt_low t N N (Nat.le_refl _) (by omega)]; simp
  | succ j ih =>
    have e : N + 1 + (j + 1) = (N + 1 + j) + 1 := by omega
    rw [e]
    unfold gt
    rw [if_neg (by omega), ih (by omega), List.take_add_one, List.getElem?_drop, getD_lt (by omega)]
    simp
theorem form_split {t : List UInt8} {N : Nat} (h : N < t.length) (hp : t.getD N 0 = 46) : t = t.take N ++ 46 :: t.drop (N + 1) := by
  have h1 := List.drop_eq_getElem_cons h
  have h2 := getD_lt h
  rw [List.getElem?_eq_getElem h, hp] at h2
  rw [Option.some.inj h2] at h1
  rw [← h1, List.take_append_drop]
theorem form_ok {t : List UInt8} {K N : Nat} (h : Form t K N) : wpOk t K = true ∧ (parts t K).1 ++ (parts t K).2 = gt t N t.length := by
  have hl := h.len
  have h1 := h.one
  by_cases hK : K = 0
  · subst hK
    simp only [Nat.lt_irrefl, if_false] at hl
    have hd : digs t = true := digs_of fun j hj => h.digs j hj (by omega)
    have hp : parts t 0 = (t, []) := by unfold parts; rw [if_pos rfl]
    have hz := h.zero
    unfold wpOk
    rw [hp]
    refine ⟨?_, by rw [gt_low t N t.length (by omega) (Nat.le_refl _)]; simp⟩
    simp only [List.length_nil, decide_true, Bool.true_and, hd]
    rw [show digs [] = true from rfl, Bool.and_true, Bool.and_true, Bool.not_eq_true', decide_eq_false_iff_not]
    rintro (g | ⟨g1, g2⟩)
    · rw [g] at hl; simp at hl; omega
    · exact hz ⟨by rw [getD_lt (by omega)] at g1; exact Option.some.inj g1, by omega⟩
  · rw [if_pos (by omega)] at hl
    have hs := form_split (t := t) (N := N) (by omega) (h.point (by omega))
    have d1 : digs (t.take N) = true := digs_of fun j hj => by
      rw [List.length_take] at hj
      have := h.digs j (by omega) (by omega)
      rw [List.getD_eq_getElem?_getD] at this ⊢
      rw [List.getElem?_take, if_pos (by omega)]; exact this
    have d2 : digs (t.drop (N + 1)) = true := digs_of fun j hj => by
      rw [List.length_drop] at hj
      have := h.digs (N + 1 + j) (by omega) (by omega)
      rw [List.getD_eq_getElem?_getD] at this ⊢
      rw [List.getElem?_drop]; exact this
    have hp : parts t K = (t.take N, t.drop (N + 1)) := by
      unfold parts; rw [if_neg hK]; have := ct_app (y := t.drop (N + 1)) d1; rw [← hs] at this; exact this
    have hz := h.zero
    unfold wpOk
    rw [hp]
    refine ⟨?_, ?_⟩
    · simp only [d1, d2, Bool.and_true]
      rw [Bool.and_eq_true, decide_eq_true_eq, List.length_drop, Bool.not_eq_true', decide_eq_false_iff_not]
      refine ⟨by omega, ?_⟩
      rintro (g | ⟨g1, g2⟩)
      · have := congrArg List.length g; rw [List.length_take, List.length_nil] at this; omega
      · rw [List.length_take] at g2
        rw [List.getElem?_take, if_pos (by omega)] at g1
        exact hz ⟨by rw [getD_lt (by omega)] at g1; exact Option.some.inj g1, by omega⟩
    · obtain ⟨j, hj⟩ : ∃ j, t.length = N + 1 + j := ⟨t.length - (N + 1), by omega⟩
      have ht : (t.drop (N + 1)).take j = t.drop (N + 1) := List.take_of_length_le (by rw [List.length_drop]; omega)
      rw [hj, gt_high t N j (by omega), ht]
theorem form_inv {t : List UInt8} {K : Nat} (h : wpOk t K = true) : ∃ N, Form t K N := by
  have hw := h
  unfold wpOk at hw
  simp only [Bool.and_eq_true, Bool.not_eq_true', decide_eq_false_iff_not, decide_eq_true_eq, not_or, not_and] at hw
  obtain ⟨⟨⟨k1, k2, k3⟩, k4⟩, k5⟩ := hw
  by_cases hK : K = 0
  · subst hK
    have hp : parts t 0 = (t, []) := by unfold parts; rw [if_pos rfl]
    rw [hp] at k1 k2 k3 k4 k5
    have hl : 0 < t.length := List.length_pos_iff.2 k2
    exact ⟨t.length, by simp, hl, fun g => k3 (by rw [getD_lt hl, g.1]) g.2, fun g => by omega, fun j hj _ => digs_at k4 hj⟩
  · have k1' := k1
    unfold parts at k1' k2 k3 k4 k5
    rw [if_neg hK] at k1' k2 k3 k4 k5
    unfold ctI at k1' k2 k3 k4 k5
    split at k1'
    · rename_i hi
      obtain ⟨i, hi2⟩ := Int.eq_ofNat_of_zero_le hi
      rw [if_pos hi, hi2, Int.toNat_natCast] at k2 k3 k4 k5
      rw [hi2, Int.toNat_natCast] at k1'
      simp only at k1' k2 k3 k4 k5
      have hil : i < t.length := idx_lt hi2
      rw [List.length_drop] at k1'
      have ha := (Lib.indexByte_some hi2).1
      rw [getD_lt hil] at ha
      have i1 : 1 ≤ i := by
        rcases Nat.eq_zero_or_pos i with g | g
        · exact absurd (by rw [g, List.take_zero]) k2
        · exact g
      refine ⟨i, by rw [if_pos (by omega)]; omega, i1, fun g => ?_, fun _ => Option.some.inj ha, fun j hj hne => ?_⟩
      · exact k3 (by rw [List.getElem?_take, if_pos (by omega), getD_lt (by omega), g.1]) (by rw [List.length_take]; omega)
      · rcases Nat.lt_or_ge j i with g | g
        · have := digs_at k4 (j := j) (by rw [List.length_take]; omega)
          rw [List.getD_eq_getElem?_getD, List.getElem?_take, if_pos g] at this
          rw [List.getD_eq_getElem?_getD]; exact this
        · have := digs_at k5 (j := j - (i + 1)) (by rw [List.length_drop]; omega)
          rw [List.getD_eq_getElem?_getD, List.getElem?_drop, show i + 1 + (j - (i + 1)) = j by omega] at this
          rw [List.getD_eq_getElem?_getD]; exact this
    · exact absurd k1'.symm hK
theorem form_one {t : List UInt8} {K N M : Nat} (h : Form t K N) (hM : M + K + (if 0 < K then 1 else 0) = t.length) : N = M := by have := h.len; omega
theorem form_not {t : List UInt8} {K N : Nat} (hN : N + K + (if 0 < K then 1 else 0) = t.length) (h : ¬ Form t K N) : wpOk t K = false := by
  rw [Bool.eq_false_iff]; intro g
  obtain ⟨M, hM⟩ := form_inv g
  exact h (form_one hM hN ▸ hM)
theorem form_short {t : List UInt8} {K : Nat} (hN : t.length < 1 + K + (if 0 < K then 1 else 0)) : wpOk t K = false := by
  rw [Bool.eq_false_iff]; intro g
  obtain ⟨M, hM⟩ := form_inv g
  have := hM.len; have := hM.one; omega
theorem gt_len (t : List UInt8) (N m : Nat) : (gt t N m).length ≤ m := by
  induction m with
  | zero => exact Nat.le_refl _
  | succ m ih =>
    unfold gt; split
    · omega
    · rw [List.length_append, List.length_singleton]; omega
end Go.Proofs.YtedcimjhhcepmaaDoor
