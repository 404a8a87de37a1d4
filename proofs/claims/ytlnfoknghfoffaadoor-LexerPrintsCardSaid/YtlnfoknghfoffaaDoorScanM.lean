/- What Scan answers. -/
import Derived.Test.YtlnfoknghfoffaaDoorRow
set_option linter.unusedVariables false
set_option linter.unusedSimpArgs false
namespace Go.Proofs.YtlnfoknghfoffaaDoor
open Go.ChangeShapes Go.WideShapes Go.ChangeAt Go.RowKit Lm

theorem ext_size {u : ByteArray} {n : Nat} (h : n ≤ u.size) : (u.extract 0 n).size = n := by rw [ByteArray.size_extract]; omega
/-- a lexeme is a beginning of the text, and not empty -/
theorem frT_ok {u : ByteArray} {k : Nat} {t : ByteArray} {n e : Nat} (h0 : 0 < u.size) (h : frT u = (k, t, n, e)) (he : e = 0) : t = u.extract 0 t.size ∧ 1 ≤ t.size ∧ t.size ≤ u.size := by
  subst he
  have self : ∀ m, 1 ≤ m → m ≤ u.size → t = u.extract 0 m → t = u.extract 0 t.size ∧ 1 ≤ t.size ∧ t.size ≤ u.size := fun m h1 h2 ht => by
    have hs : t.size = m := by rw [ht]; exact ext_size h2
    rw [hs]; exact ⟨ht, h1, h2⟩
  unfold frT at h
  by_cases a : dg (bt u 0) = true
  · rw [if_pos a] at h
    obtain ⟨l1, l2, l3⟩ := lead_size h0 a
    unfold nuT at h
    by_cases b : numE (u.extract 0 (ldS dg u 0)) = 0
    · rw [if_pos b] at h
      simp only [Prod.mk.injEq] at h
      exact self _ (by omega) l3 h.2.1.symm
    · rw [if_neg b] at h
      simp only [Prod.mk.injEq] at h
      exact absurd h.2.2.2 b
  · rw [if_neg a] at h
    by_cases c : lt (bt u 0) = true
    · rw [if_pos c] at h
      obtain ⟨l1, l2, l3⟩ := lead_size (f := nm) h0 (by unfold nm; rw [c]; rfl)
      unfold naT at h
      by_cases b : 16 < (u.extract 0 (ldS nm u 0)).size
      · rw [if_pos b] at h
        simp only [Prod.mk.injEq] at h
        omega
      · rw [if_neg b] at h
        simp only [Prod.mk.injEq] at h
        exact self _ (by omega) l3 h.2.1.symm
    · rw [if_neg c] at h
      unfold mkT at h
      by_cases b : mkS u = 0
      · rw [if_pos b] at h
        simp only [Prod.mk.injEq] at h
        omega
      · rw [if_neg b] at h
        simp only [Prod.mk.injEq] at h
        refine self (mkS u) (by omega) ?_ h.2.1.symm
        unfold mkS
        split
        · rename_i g; exact g.1
        · split <;> omega
abbrev Sc := List LT × Nat × Nat
/-- the lexemes from a place on, or an error and its place -/
def scF (s : ByteArray) : Nat → Nat → Sc
  | 0, _ => ([⟨0, ⟨#[]⟩, 0, s.size⟩], 0, 0)
  | m + 1, p => if p < s.size then (if (frT (rs s p)).2.2.2 = 0 then (if (scF s m (skS s false (p + (frT (rs s p)).2.1.size))).2.1 = 0 then (⟨(frT (rs s p)).1, (frT (rs s p)).2.1, (frT (rs s p)).2.2.1, p⟩ :: (scF s m (skS s false (p + (frT (rs s p)).2.1.size))).1, 0, 0) else ([], (scF s m (skS s false (p + (frT (rs s p)).2.1.size))).2)) else ([], (frT (rs s p)).2.2.2, p)) else ([⟨0, ⟨#[]⟩, 0, s.size⟩], 0, 0)
def scS (s : ByteArray) (p : Nat) : Sc := scF s (s.size - p) p
theorem next_gt {s : ByteArray} {p : Nat} (hp : p < s.size) (he : (frT (rs s p)).2.2.2 = 0) : p + 1 ≤ skS s false (p + (frT (rs s p)).2.1.size) ∧ skS s false (p + (frT (rs s p)).2.1.size) ≤ s.size ∧ p + (frT (rs s p)).2.1.size ≤ s.size ∧ 1 ≤ (frT (rs s p)).2.1.size ∧ (frT (rs s p)).2.1 = s.extract p (p + (frT (rs s p)).2.1.size) := by
  have hr : (rs s p).size = s.size - p := rs_size s p
  obtain ⟨h1, h2, h3⟩ := frT_ok (u := rs s p) (k := (frT (rs s p)).1) (t := (frT (rs s p)).2.1) (n := (frT (rs s p)).2.2.1) (e := (frT (rs s p)).2.2.2) (by omega) rfl he
  have h4 := skS_ge (s := s) false (p := p + (frT (rs s p)).2.1.size) (by omega)
  have h5 := skS_le (s := s) false (p := p + (frT (rs s p)).2.1.size) (by omega)
  exact ⟨by omega, h5, by omega, h2, by rw [← rs_take s p _ (by omega)]; exact h1⟩
theorem scF_fuel (s : ByteArray) : ∀ (m p : Nat), s.size - p ≤ m → scF s m p = scS s p
  | 0, p, h => by unfold scS; rw [show s.size - p = 0 by omega]
  | m + 1, p, h => by
    by_cases hp : p < s.size
    · unfold scS
      rw [show s.size - p = (s.size - p - 1) + 1 by omega]
      by_cases he : (frT (rs s p)).2.2.2 = 0
      · obtain ⟨h1, h2, _⟩ := next_gt hp he
        have e1 := scF_fuel s m (skS s false (p + (frT (rs s p)).2.1.size)) (by omega)
        have e2 : scF s (s.size - p - 1) (skS s false (p + (frT (rs s p)).2.1.size)) = scS s (skS s false (p + (frT (rs s p)).2.1.size)) := by
          by_cases hm : s.size - p - 1 = m
          · rw [hm]; exact e1
          · exact scF_fuel s (s.size - p - 1) _ (by omega)
        show (if p < s.size then _ else _) = (if p < s.size then _ else _)
        rw [e1, e2]
      · show (if p < s.size then _ else _) = (if p < s.size then _ else _)
        rw [if_pos hp, if_pos hp, if_neg he, if_neg he]
    · unfold scS
      rw [show s.size - p = 0 by omega]
      show (if p < s.size then _ else _) = _
      rw [if_neg hp]
      rfl
termination_by m => m
theorem scS_end {s : ByteArray} {p : Nat} (h : ¬ p < s.size) : scS s p = ([⟨0, ⟨#[]⟩, 0, s.size⟩], 0, 0) := by
  unfold scS; rw [show s.size - p = 0 by omega]; rfl
theorem scS_bad {s : ByteArray} {p : Nat} (h : p < s.size) (he : (frT (rs s p)).2.2.2 ≠ 0) : scS s p = ([], (frT (rs s p)).2.2.2, p) := by
  unfold scS; rw [show s.size - p = (s.size - p - 1) + 1 by omega]
  show (if p < s.size then _ else _) = _
  rw [if_pos h, if_neg he]
/-- put behind what was found before -/
def finS (acc : List LT) (r : Sc) : Sc := if r.2.1 = 0 then (acc ++ r.1, 0, 0) else ([], r.2.1, r.2.2)
theorem scS_go {s : ByteArray} {p : Nat} {k : Nat} {t : ByteArray} {n e : Nat} (acc : List LT) (h : p < s.size) (hf : frT (rs s p) = (k, t, n, e)) (he : e = 0) : finS acc (scS s p) = finS (acc ++ [⟨k, t, n, p⟩]) (scS s (skS s false (p + t.size))) := by
  have he' : (frT (rs s p)).2.2.2 = 0 := by rw [hf]; exact he
  obtain ⟨h1, h2, _⟩ := next_gt h he'
  have e2 := scF_fuel s (s.size - p - 1) (skS s false (p + (frT (rs s p)).2.1.size)) (by omega)
  have e3 : scS s p = (if (scS s (skS s false (p + (frT (rs s p)).2.1.size))).2.1 = 0 then (⟨(frT (rs s p)).1, (frT (rs s p)).2.1, (frT (rs s p)).2.2.1, p⟩ :: (scS s (skS s false (p + (frT (rs s p)).2.1.size))).1, 0, 0) else ([], (scS s (skS s false (p + (frT (rs s p)).2.1.size))).2)) := by
    rw [← e2]
    show scF s (s.size - p) p = _
    rw [show s.size - p = (s.size - p - 1) + 1 by omega]
    show (if p < s.size then _ else _) = _
    rw [if_pos h, if_pos he']
    rfl
  rw [e3, hf]
  simp only
  unfold finS
  by_cases g : (scS s (skS s false (p + t.size))).2.1 = 0
  · rw [if_pos g, if_pos g]; simp
  · rw [if_neg g, if_neg g]
    simp only
    rw [if_neg g]
/-- what Scan answers -/
def scan (s : ByteArray) : Sc := if 8000 < s.size then ([], 4, 0) else finS [] (scS s (skS s false 0))
end Go.Proofs.YtlnfoknghfoffaaDoor
