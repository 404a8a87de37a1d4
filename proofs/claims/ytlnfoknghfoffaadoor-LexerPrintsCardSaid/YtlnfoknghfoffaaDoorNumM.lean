/- Plain facts about numbers in decimal digits (no program). -/
import Derived.Test.YtlnfoknghfoffaaDoorMath
import Derived.Lib.AtoiAll
set_option linter.unusedVariables false
set_option linter.unusedSimpArgs false
namespace Go.Proofs.YtlnfoknghfoffaaDoor
open Go.RowKit
namespace Lm

/-- what digits stand for, behind a number -/
def dv (a : Nat) (l : List UInt8) : Nat := l.foldl (fun x c => x * 10 + (c.toNat - 48)) a
theorem dv_cons (a : Nat) (c : UInt8) (l : List UInt8) : dv a (c :: l) = dv (a * 10 + (c.toNat - 48)) l := by simp only [dv, List.foldl_cons]
theorem dv_ge : ∀ (l : List UInt8) (a : Nat), a ≤ dv a l
  | [], a => Nat.le_refl _
  | c :: l, a => by rw [dv_cons]; have := dv_ge l (a * 10 + (c.toNat - 48)); omega
theorem dv_app (a : Nat) (l m : List UInt8) : dv a (l ++ m) = dv (dv a l) m := by unfold dv; rw [List.foldl_append]
def digs (l : List UInt8) : Prop := ∀ c ∈ l, 48 ≤ c.toNat ∧ c.toNat ≤ 57
theorem parse_dv : ∀ (l : List UInt8) (a : Nat), digs l → (∃ u, Lib.parseUint10 a l = .ok u ∧ u = dv a l) ∨ (Lib.parseUint10 a l = .range ∧ 18446744073709551616 ≤ dv a l)
  | [], a, _ => .inl ⟨a, rfl, rfl⟩
  | c :: l, a, h => by
    have hc := h c (by simp)
    have hl : digs l := fun x hx => h x (by simp [hx])
    have hg := dv_ge l (a * 10 + (c.toNat - 48))
    unfold Lib.parseUint10
    rw [if_pos hc, dv_cons]
    split
    · exact .inr ⟨rfl, by omega⟩
    · split
      · exact .inr ⟨rfl, by omega⟩
      · exact parse_dv l _ hl
theorem atoi_dv (l : List UInt8) (h : digs l) (h0 : l ≠ []) : (Lib.atoiAll l = .ok (dv 0 l : Nat)) ∨ (Lib.atoiAll l = .range ∧ 9223372036854775808 ≤ dv 0 l) := by
  match l, h0 with
  | c :: r, _ =>
    have hc := h c (by simp)
    unfold Lib.atoiAll
    simp only
    rw [if_neg (by omega)]
    unfold Lib.parseMag
    rw [if_neg (by simp)]
    rcases parse_dv (c :: r) 0 h with ⟨u, hu, he⟩ | ⟨hu, he⟩
    · rw [hu]
      simp only
      by_cases g : 9223372036854775808 ≤ u
      · rw [if_pos ⟨by omega, g⟩]; exact .inr ⟨rfl, by omega⟩
      · rw [if_neg (by omega), if_neg (by omega), if_neg (by omega), he]; exact .inl rfl
    · rw [hu]; exact .inr ⟨rfl, by omega⟩
/-- what number answers: a number and an error -/
def numE (t : ByteArray) : Nat := if 1 < t.size ∧ bt t 0 = 48 then 5 else if 1099511627776 < dv 0 t.data.toList then 9 else 0
def numV (t : ByteArray) : Nat := if numE t = 0 then dv 0 t.data.toList else 0
def pre (t : ByteArray) (k : Nat) : Nat := dv 0 (t.data.toList.take k)
theorem pre_zero (t : ByteArray) : pre t 0 = 0 := by simp [pre, dv]
theorem pre_all (t : ByteArray) : pre t t.size = dv 0 t.data.toList := by
  unfold pre; rw [List.take_of_length_le (by simp)]
theorem pre_succ (t : ByteArray) (k : Nat) (h : k < t.size) : pre t (k + 1) = pre t k * 10 + (bt t k - 48) := by
  have hl : k < t.data.toList.length := by simpa using h
  unfold pre
  rw [List.take_succ_eq_append_getElem hl, dv_app]
  unfold bt
  rw [List.getD_eq_getElem?_getD, List.getElem?_eq_getElem hl]
  rfl
theorem pre_le (t : ByteArray) (k : Nat) : pre t k ≤ dv 0 t.data.toList := by
  unfold pre
  have := dv_app 0 (t.data.toList.take k) (t.data.toList.drop k)
  rw [List.take_append_drop] at this
  rw [this]
  exact dv_ge _ _
theorem digs_of (t : ByteArray) (h : ∀ j, j < t.size → 48 ≤ bt t j ∧ bt t j ≤ 57) : digs t.data.toList := fun c hc => by
  obtain ⟨i, hi⟩ := List.getElem?_of_mem hc
  have hl : i < t.data.toList.length := by
    rcases Nat.lt_or_ge i t.data.toList.length with k | k
    · exact k
    · rw [List.getElem?_eq_none k] at hi; cases hi
  have := h i (by simpa using hl)
  unfold bt at this
  rw [List.getD_eq_getElem?_getD, hi] at this
  exact this
end Lm
end Go.Proofs.YtlnfoknghfoffaaDoor
