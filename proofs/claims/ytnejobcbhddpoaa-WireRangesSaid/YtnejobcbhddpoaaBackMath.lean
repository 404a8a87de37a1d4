/- Plain facts: what was written is read back; what is cut is too short (over the specification's own functions). -/
import Derived.Test.YtnejobcbhddpoaaArg
set_option linter.unusedVariables false
set_option linter.unusedSimpArgs false
namespace Go.Proofs.Ytnejobcbhddpoaa
open Go.ChangeShapes Go.WideShapes Go.ChangeAt Go.RowKit Wm

theorem bs_extract (L : List UInt8) (a b : Nat) : (bs L).extract a b = bs ((L.drop a).take (b - a)) := by
  apply ByteArray.ext
  rw [ByteArray.data_extract]
  apply Array.ext'
  simp [bs, List.extract_eq_take_drop]
theorem bs_self (s : ByteArray) : bs s.data.toList = s := by apply ByteArray.ext; simp [bs]
theorem fr_pre (pre t : List UInt8) : fr (bs (pre ++ t)) pre.length = gl t := by
  funext i; show gl (pre ++ t) (pre.length + i) = _; exact gl_app2 _ _ _
theorem num_at (pre t : List UInt8) {n : Nat} (hn : n < 18446744073709551616) : eU (bs (pre ++ (uv n ++ t))) pre.length = 0 ∧ vU (bs (pre ++ (uv n ++ t))) pre.length = n ∧ lU (bs (pre ++ (uv n ++ t))) pre.length = (uv n).length := by
  unfold eU vU lU
  have e : (bs (pre ++ (uv n ++ t))).size - pre.length = (uv n ++ t).length := by rw [size_bs, List.length_append]; omega
  rw [fr_pre, e]
  exact n_back hn t
theorem int_at (pre t : List UInt8) {z lo hi : Int} (hz : Fit z) (h1 : lo ≤ z) (h2 : z ≤ hi) : NI (bs (pre ++ (uv (zz z) ++ t))) pre.length lo hi z (uv (zz z)).length 0 := by
  obtain ⟨a, b, c⟩ := num_at pre t (zz_lt hz.1 hz.2)
  have e1 : eI (bs (pre ++ (uv (zz z) ++ t))) pre.length lo hi = 0 := by unfold eI; rw [if_pos a, b, unzz_zz, if_neg (by omega)]
  refine ⟨?_, ?_, e1⟩
  · unfold vI; rw [if_pos e1, b, unzz_zz]
  · unfold lI; rw [if_pos e1, c]
theorem int_out (pre t : List UInt8) {z lo hi : Int} (hz : Fit z) (h : ¬ (lo ≤ z ∧ z ≤ hi)) : NI (bs (pre ++ (uv (zz z) ++ t))) pre.length lo hi 0 0 9 := by
  obtain ⟨a, b, c⟩ := num_at pre t (zz_lt hz.1 hz.2)
  have e1 : eI (bs (pre ++ (uv (zz z) ++ t))) pre.length lo hi = 9 := by unfold eI; rw [if_pos a, b, unzz_zz, if_pos (by omega)]
  refine ⟨?_, ?_, e1⟩
  · unfold vI; rw [e1]; rfl
  · unfold lI; rw [e1]; rfl
theorem count_at (pre t : List UInt8) {n : Nat} {most : Int} (hn : n < 18446744073709551616) (hm : (n : Int) ≤ most) : eC (bs (pre ++ (uv n ++ t))) pre.length most = 0 := by
  obtain ⟨a, b, c⟩ := num_at pre t hn
  unfold eC; rw [if_pos a, b, if_neg (by omega)]
theorem text_at (pre tl t : List UInt8) {most : Int} (hn : tl.length < 18446744073709551616) (hm : (tl.length : Int) ≤ most) : NT (bs (pre ++ (uv tl.length ++ (tl ++ t)))) pre.length most (bs tl) ((uv tl.length).length + tl.length) 0 := by
  obtain ⟨a, b, c⟩ := num_at pre (tl ++ t) hn
  have ec := count_at pre (tl ++ t) hn hm
  have e1 : eT (bs (pre ++ (uv tl.length ++ (tl ++ t)))) pre.length most = 0 := by
    unfold eT; rw [if_pos ec, b, c, size_bs, if_neg (by simp only [List.length_append]; omega)]
  refine ⟨?_, ?_, e1⟩
  · unfold tT
    rw [if_pos e1, b, c, bs_extract]
    congr 1
    rw [show pre.length + (uv tl.length).length + tl.length - (pre.length + (uv tl.length).length) = tl.length by omega, ← List.append_assoc, List.drop_left' (by rw [List.length_append]), List.take_left' rfl]
  · unfold lT; rw [if_pos e1, b, c]
theorem text_out (pre tl t : List UInt8) {most : Int} (hn : tl.length < 18446744073709551616) (hm : ¬ (tl.length : Int) ≤ most) : NT (bs (pre ++ (uv tl.length ++ (tl ++ t)))) pre.length most ByteArray.empty 0 4 := by
  obtain ⟨a, b, c⟩ := num_at pre (tl ++ t) hn
  have ec : eC (bs (pre ++ (uv tl.length ++ (tl ++ t)))) pre.length most = 4 := by unfold eC; rw [if_pos a, b, if_pos (by omega)]
  have e1 : eT (bs (pre ++ (uv tl.length ++ (tl ++ t)))) pre.length most = 4 := by unfold eT; rw [ec]; rfl
  refine ⟨?_, ?_, e1⟩
  · unfold tT; rw [e1]; rfl
  · unfold lT; rw [e1]; rfl
theorem ints_at (lo hi : Int) : ∀ (l : List Int) (pre t : List UInt8), FitI l → (∀ z ∈ l, lo ≤ z ∧ z ≤ hi) → intsF (bs (pre ++ (bodyI l ++ t))) lo hi l.length pre.length = (l, (bodyI l).length, 0) := by
  intro l
  induction l with
  | nil => intro pre t _ _; rfl
  | cons z l ih =>
    intro pre t hf hb
    have hz := hf z (by simp)
    have e0 : pre ++ (bodyI (z :: l) ++ t) = pre ++ (uv (zz z) ++ (bodyI l ++ t)) := by
      show pre ++ ((uv (zz z) ++ bodyI l) ++ t) = _; rw [List.append_assoc]
    obtain ⟨a, b, c⟩ := int_at pre (bodyI l ++ t) hz (hb z (by simp)).1 (hb z (by simp)).2
    have hi2 := ih (pre ++ uv (zz z)) t (fun y hy => hf y (List.mem_cons_of_mem _ hy)) (fun y hy => hb y (List.mem_cons_of_mem _ hy))
    rw [List.append_assoc, List.length_append] at hi2
    rw [e0, List.length_cons]
    show (if eI _ _ lo hi = 0 then _ else _) = _
    rw [if_pos c, b, a, hi2]
    simp only [if_true]
    rw [show (bodyI (z :: l)).length = (uv (zz z)).length + (bodyI l).length by show (uv (zz z) ++ bodyI l).length = _; rw [List.length_append]]
theorem list_at (pre t : List UInt8) {l : List Int} {most lo hi : Int} (hn : l.length < 18446744073709551616) (hm : (l.length : Int) ≤ most) (hf : FitI l) (hb : ∀ z ∈ l, lo ≤ z ∧ z ≤ hi) : outL (bs (pre ++ (insL l ++ t))) pre.length most lo hi = (l, (insL l).length, 0) := by
  have e0 : pre ++ (insL l ++ t) = pre ++ (uv l.length ++ (bodyI l ++ t)) := by unfold insL; rw [List.append_assoc]
  rw [e0]
  obtain ⟨a, b, c⟩ := num_at pre (bodyI l ++ t) hn
  have ec := count_at pre (bodyI l ++ t) hn hm
  unfold outL
  rw [if_pos ec, b, c]
  have h := ints_at lo hi l (pre ++ uv l.length) t hf hb
  rw [List.append_assoc, List.length_append] at h
  unfold finI
  rw [h]
  simp only [if_true, List.nil_append]
  rw [show pre.length + (uv l.length).length - pre.length + (bodyI l).length = (insL l).length by unfold insL; rw [List.length_append]; omega]
end Go.Proofs.Ytnejobcbhddpoaa
