/- Plain facts about Reach's x (no program). -/
import Derived.Test.YtlkgbfiaeedpfaaMath
set_option linter.unusedVariables false
set_option linter.unusedSimpArgs false
namespace Go.Proofs.Ytlkgbfiaeedpfaa
open Go.RowKit
namespace Cm
theorem at_ok {l : List P} (h : okC l) (x : Int) : atS l x = alS (X l) (Y l) l.length x := by unfold atS; rw [if_pos (chk_ok h)]
theorem ok_asc {l : List P} (h : okC l) : asc (X l) l.length := fun i h0 hi => h.up i h0 hi
theorem re_cases {l : List P} {y : Int} (h : okC l) : (reS l y = (0, false) ∧ ∀ i, i < l.length → Y l i < y) ∨ ∃ k, k < l.length ∧ y ≤ Y l k ∧ (∀ i, i < k → Y l i < y) ∧ reS l y = (if k = 0 then X l 0 else rx (X l (k - 1)) (Y l (k - 1)) (X l k) (Y l k) y, true) := by
  obtain ⟨_, h2, h3, h4⟩ := fst_spec (fun i => decide (y ≤ Y l i)) (Nat.zero_le l.length)
  have hb : ∀ i, i < fst (fun i => decide (y ≤ Y l i)) 0 l.length → Y l i < y := fun i hi => by
    have := of_decide_eq_false (h3 i (Nat.zero_le _) hi); omega
  by_cases e : fst (fun i => decide (y ≤ Y l i)) 0 l.length = l.length
  · rw [e] at hb
    exact .inl ⟨re_none hb, hb⟩
  · have hk : y ≤ Y l (fst (fun i => decide (y ≤ Y l i)) 0 l.length) := by
      rcases h4 with h4 | h4
      · exact absurd h4 e
      · exact of_decide_eq_true h4
    refine .inr ⟨fst (fun i => decide (y ≤ Y l i)) 0 l.length, by omega, hk, hb, ?_⟩
    by_cases e0 : fst (fun i => decide (y ≤ Y l i)) 0 l.length = 0
    · rw [if_pos e0]
      exact re_zero (chk_ok h) h.one (by rw [e0] at hk; exact hk)
    · rw [if_neg e0]
      exact re_hit (chk_ok h) (by omega) (by omega) hk hb
theorem at_lt {l : List P} {y x : Int} (h : okC l) (hy : ∀ i, i < l.length → Y l i < y) : atS l x < y := by
  rw [at_ok h]
  have := (al_bd (n := x) (lo := -1000000) (hi := y - 1) (ok_asc h) h.one fun i hi => ⟨(h.iny i hi).1, by have := hy i hi; omega⟩).2
  omega
structure FirstP (l : List P) (y fx : Int) (k : Nat) : Prop where
  lt : k < l.length
  hit : y ≤ Y l k
  low : ∀ i, i < k → Y l i < y
  ge : X l 0 ≤ fx
  le : fx ≤ X l (l.length - 1)
  val : y ≤ atS l fx
  bef : ∀ x, X l 0 ≤ x → x < fx → atS l x < y
theorem first_spec {l : List P} {y fx : Int} (h : okC l) (hr : reS l y = (fx, true)) : ∃ k, FirstP l y fx k := by
  rcases re_cases (y := y) h with ⟨g, _⟩ | ⟨k, hk, h1, h2, g⟩
  · rw [g] at hr; injection hr with e1 e2; cases e2
  · rw [g] at hr
    injection hr with hr
    have ha := ok_asc h
    refine ⟨k, ?_⟩
    by_cases e : k = 0
    · subst e
      rw [if_pos rfl] at hr
      subst hr
      exact ⟨hk, h1, h2, Int.le_refl _, asc_le ha (by omega) (by omega), by rw [at_ok h, al_at ha hk]; exact h1, fun x hx hx2 => by omega⟩
    · rw [if_neg e] at hr
      have hst := h.up k (by omega) hk
      have hay := h2 (k - 1) (by omega)
      have hb := rx_bd (y := y) hst hay h1
      have hge := fun n => ip_ge (n := n) (y := y) hst hay h1
      rw [hr] at hb hge
      have hseg : ∀ n, X l (k - 1) ≤ n → n ≤ X l k → atS l n = ip (X l (k - 1)) (Y l (k - 1)) (X l k) (Y l k) n := fun n h3 h4 => by
        rw [at_ok h]; exact al_seg ha (by omega) hk h3 h4
      refine ⟨hk, h1, h2, Int.le_trans (asc_le ha (j := k - 1) (by omega) (by omega)) (by omega), Int.le_trans hb.2 (asc_le ha (by omega) (by omega)), ?_, fun x hx hx2 => ?_⟩
      · rw [hseg fx (by omega) hb.2]; exact (hge fx).2 (Int.le_refl _)
      · by_cases hx3 : X l (k - 1) ≤ x
        · rw [hseg x hx3 (by omega)]
          have := hge x
          omega
        · rw [at_ok h]
          rcases al_where (p := X l) x h.one with g1 | ⟨j, j1, j2, j3, j4⟩ | g1
          · rw [al_lo g1]; exact h2 0 (by omega)
          · rw [al_hit j4 j1 j2 j3]
            have hjk : j < k := by
              rcases Nat.lt_or_ge j k with q | q
              · exact q
              · have := j4 (k - 1) (by omega); omega
            have q1 := ip_bd (a := Y l (j - 1)) (b := Y l j) (h.up j j1 j2) (Int.le_of_lt (j4 (j - 1) (by omega))) j3
            have q2 := h2 j hjk
            have q3 := h2 (j - 1) (by omega)
            omega
          · have := g1 (k - 1) (by omega); omega
end Cm
end Go.Proofs.Ytlkgbfiaeedpfaa
