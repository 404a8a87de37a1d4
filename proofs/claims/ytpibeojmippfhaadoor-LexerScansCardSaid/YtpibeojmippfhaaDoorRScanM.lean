/- What first answers at a place of a text, in the reference's terms. -/
import Derived.Test.YtpibeojmippfhaaDoorRMark
set_option linter.unusedVariables false
set_option linter.unusedSimpArgs false
namespace Go.Proofs.YtpibeojmippfhaaDoor
open Go.ChangeShapes Go.WideShapes Go.ChangeAt Go.RowKit Lm
theorem fr_d {s : ByteArray} {p : Nat} (hp : p < s.size) (h : dg (bt s p) = true) : frT (rs s p) = nuT (s.extract p (ldS dg s p)) ∧ p + 1 ≤ ldS dg s p ∧ ldS dg s p ≤ s.size := by
  have hb : bt (rs s p) 0 = bt s p := bt_rs s p 0
  have h1 := ldS_bd (f := dg) (s := s) _ (p + 1) rfl hp
  have e1 : ldS dg s p = ldS dg s (p + 1) := ldS_go hp h
  have e2 := ldS_rs (f := dg) (s := s) p (by omega) _ 0 rfl
  rw [Nat.add_zero] at e2
  refine ⟨?_, by omega, by omega⟩
  unfold frT
  rw [hb, if_pos h]
  rw [show (rs s p).extract 0 (ldS dg (rs s p) 0) = s.extract p (ldS dg s p) by rw [rs_take s p _ (by omega), e2]]
theorem fr_n {s : ByteArray} {p : Nat} (hp : p < s.size) (h0 : dg (bt s p) = false) (h : lt (bt s p) = true) : frT (rs s p) = naT (s.extract p (ldS nm s p)) ∧ p + 1 ≤ ldS nm s p ∧ ldS nm s p ≤ s.size := by
  have hb : bt (rs s p) 0 = bt s p := bt_rs s p 0
  have hn : nm (bt s p) = true := by unfold nm; rw [h]; rfl
  have h1 := ldS_bd (f := nm) (s := s) _ (p + 1) rfl hp
  have e1 : ldS nm s p = ldS nm s (p + 1) := ldS_go hp hn
  have e2 := ldS_rs (f := nm) (s := s) p (by omega) _ 0 rfl
  rw [Nat.add_zero] at e2
  refine ⟨?_, by omega, by omega⟩
  unfold frT
  rw [hb, if_neg (by rw [h0]; decide), if_pos h]
  rw [show (rs s p).extract 0 (ldS nm (rs s p) 0) = s.extract p (ldS nm s p) by rw [rs_take s p _ (by omega), e2]]
theorem fr_m {s : ByteArray} {p : Nat} (h0 : dg (bt s p) = false) (h : lt (bt s p) = false) : frT (rs s p) = mkT (rs s p) := by
  have hb : bt (rs s p) 0 = bt s p := bt_rs s p 0
  unfold frT
  rw [hb, if_neg (by rw [h0]; decide), if_neg (by rw [h]; decide)]
end Go.Proofs.YtpibeojmippfhaaDoor
