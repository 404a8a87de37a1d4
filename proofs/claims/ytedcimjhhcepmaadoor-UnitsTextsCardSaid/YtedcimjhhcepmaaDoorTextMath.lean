/- Plain facts: what the reference's Decimal gathers, digit by digit, is what Decimal writes. -/
import Derived.Test.YtedcimjhhcepmaaDoorNumMath
set_option linter.unusedVariables false
set_option linter.unusedSimpArgs false
namespace Go.Proofs.YtedcimjhhcepmaaDoor
open Go.RowKit Um

def chr (d : Nat) : UInt8 := UInt8.ofNat (48 + d)
def dot (K m : Nat) : List UInt8 := if m = K ∧ 0 < K then [46] else []
/-- what is gathered after m digits, the last digit first -/
def bk (U K : Nat) : Nat → List UInt8
  | 0 => []
  | m + 1 => bk U K m ++ dot K m ++ [chr (U / 10 ^ m % 10)]
def Dg (U : Nat) : Nat → List UInt8
  | 0 => []
  | m + 1 => chr (U / 10 ^ m % 10) :: Dg U m
theorem Dg_len (U m : Nat) : (Dg U m).length = m := by
  induction m with
  | zero => rfl
  | succ m ih => unfold Dg; rw [List.length_cons, ih]
theorem Dg_digs (U m : Nat) : digs (Dg U m) = true := by
  induction m with
  | zero => rfl
  | succ m ih =>
    show (isD (chr (U / 10 ^ m % 10)) && digs (Dg U m)) = true
    rw [ih, Bool.and_true]
    exact isD_ofNat (by omega)
theorem vl_acc : ∀ (l : List UInt8) (acc : Nat), vl acc l = acc * 10 ^ l.length + vl 0 l := by
  intro l
  induction l with
  | nil => intro acc; simp [vl]
  | cons c r ih =>
    intro acc
    have e : ∀ a, vl a (c :: r) = vl (a * 10 + (c.toNat - 48)) r := fun a => rfl
    rw [e, e, ih, ih (0 * 10 + (c.toNat - 48)), List.length_cons, Nat.pow_succ, Nat.zero_mul, Nat.zero_add, Nat.add_mul, Nat.mul_assoc, Nat.mul_comm 10]
    omega
theorem Dg_vl (U m : Nat) : vl 0 (Dg U m) = U % 10 ^ m := by
  induction m with
  | zero => simp [Dg, vl, Nat.mod_one]
  | succ m ih =>
    have e : vl 0 (Dg U (m + 1)) = vl (0 * 10 + ((chr (U / 10 ^ m % 10)).toNat - 48)) (Dg U m) := rfl
    rw [e, vl_acc, ih, Dg_len]
    unfold chr
    rw [dig_chr (by omega), Nat.mod_pow_succ, Nat.mul_comm (10 ^ m)]
    have : 0 * 10 + (48 + U / 10 ^ m % 10 - 48) = U / 10 ^ m % 10 := by omega
    rw [this]; omega
theorem bk_low (U K m : Nat) (h : m ≤ K ∨ K = 0) : (bk U K m).reverse = Dg U m := by
  induction m with
  | zero => rfl
  | succ m ih =>
    have hd : dot K m = [] := by unfold dot; rw [if_neg (by omega)]
    unfold bk Dg
    rw [hd, List.append_nil, List.reverse_append, ih (by omega)]; rfl
theorem bk_high (U K : Nat) (hK : 0 < K) (j : Nat) : (bk U K (K + 1 + j)).reverse = (Dg U (K + 1 + j)).take (1 + j) ++ 46 :: (Dg U (K + 1 + j)).drop (1 + j) := by
  induction j with
  | zero =>
    have hd : dot K K = [46] := by unfold dot; rw [if_pos ⟨rfl, hK⟩]
    show (bk U K (K + 1)).reverse = (Dg U (K + 1)).take 1 ++ 46 :: (Dg U (K + 1)).drop 1
    unfold bk Dg
    rw [hd, List.reverse_append, List.reverse_append, bk_low U K K (.inl (Nat.le_refl _))]; rfl
  | succ j ih =>
    have hd : dot K (K + 1 + j) = [] := by unfold dot; rw [if_neg (by omega)]
    have e : K + 1 + (j + 1) = (K + 1 + j) + 1 := by omega
    rw [e]
    unfold bk Dg
    rw [hd, List.append_nil, List.reverse_append, ih, show 1 + (j + 1) = (1 + j) + 1 by omega]; rfl
/-- the end of the gathering -/
structure Done (U K R : Nat) : Prop where
  over : U / 10 ^ R = 0
  more : K < R
  least : R ≤ K + 1 ∨ 0 < U / 10 ^ (R - 1)
theorem Dg_pad {U K R : Nat} (h : Done U K R) : Dg U R = pad U K := by
  have hv : vl 0 (Dg U R) = U := by
    rw [Dg_vl]; refine Nat.mod_eq_of_lt ?_
    have := h.over
    rcases Nat.div_eq_zero_iff.1 this with g | g
    · have := Nat.one_le_pow R 10 (by omega); omega
    · exact g
  have := pad_of (l := Dg U R) (K := K) (Dg_digs _ _) (by rw [Dg_len]; exact h.more) (by
    rw [Dg_len]
    rcases h.least with g | g
    · left; have := h.more; omega
    · right
      obtain ⟨r, rfl⟩ : ∃ r, R = r + 1 := ⟨R - 1, by have := h.more; omega⟩
      unfold Dg
      have hlt : U / 10 ^ r < 10 := by
        have := h.over
        rw [Nat.pow_succ, ← Nat.div_div_eq_div_mul] at this
        omega
      rw [Nat.add_sub_cancel] at g
      intro e
      have e2 : chr (U / 10 ^ r % 10) = 48 := by simpa using e
      have e3 := congrArg UInt8.toNat e2
      unfold chr at e3
      rw [dig_chr (by omega)] at e3
      have : (48 : UInt8).toNat = 48 := rfl
      omega)
  rw [hv] at this; exact this
theorem bk_pnt {U K R : Nat} (h : Done U K R) : (bk U K R).reverse = pnt U K := by
  unfold pnt
  rw [← Dg_pad h]
  by_cases hK : K = 0
  · rw [if_pos hK]; exact bk_low U K R (.inr hK)
  · rw [if_neg hK, Dg_len]
    obtain ⟨j, rfl⟩ : ∃ j, R = K + 1 + j := ⟨R - (K + 1), by have := h.more; omega⟩
    rw [bk_high U K (by omega) j, show K + 1 + j - K = 1 + j by omega]
theorem bk_decL {U K R : Nat} (neg : Bool) (h : Done U K R) : (bk U K R ++ (if neg then [45] else [])).reverse = decL neg U K := by
  rw [List.reverse_append, bk_pnt h]; unfold decL
  cases neg <;> rfl
theorem bk_len (U K m : Nat) : (bk U K m).length ≤ 2 * m := by
  induction m with
  | zero => exact Nat.le_refl _
  | succ m ih =>
    unfold bk
    rw [List.length_append, List.length_append, List.length_singleton]
    have : (dot K m).length ≤ 1 := by unfold dot; split <;> simp
    omega
end Go.Proofs.YtedcimjhhcepmaaDoor
