/- Plain facts about what Next and Add return (no program). -/
import Derived.Test.YthpopopodjgdaaaDoorRefM
set_option linter.unusedVariables false
set_option linter.unusedSimpArgs false
namespace Go.Proofs.YthpopopodjgdaaaDoor
open Go.RowKit Km

theorem maxT : isT 10000000 = true := by decide
theorem next_cases {l : List P} (h : okL l) {t : Int} (ht : isT t = true) :
    (∃ x, nextS l t = (x, 0) ∧ t ≤ x ∧ openS l x = true ∧ workS l t x = 0) ∨ (nextS l t = (0, 15) ∧ workS l t 10000000 = 0 ∧ openS l 10000000 = false) := by
  have tb := isT_yes ht
  obtain ⟨k1, k2, k3⟩ := kth_spec h (WU_bd h tb.1).1
  have kg := kth_ge h tb.1 (Int.le_refl (WU l t))
  have hn : nextS l t = asT (kth l (WU l t)) := by unfold nextS; rw [if_pos ht]
  rcases Int.lt_or_le 10000000 (kth l (WU l t)) with g | g
  · refine .inr ⟨by rw [hn, asT_no (isT_big g)], ?_, ?_⟩
    · unfold workS
      rw [if_pos ⟨ht, maxT, tb.2⟩]
      have a := WU_mono h tb.1 tb.2
      have b := WU_mono h (a := 10000000) (b := kth l (WU l t)) (by omega) (by omega)
      omega
    · refine openS_not h fun _ ho => ?_
      have := WU_lt h (by omega) ho g
      have a := WU_mono h tb.1 tb.2
      omega
  · have hx := isT_mk k1 g
    refine .inl ⟨kth l (WU l t), by rw [hn, asT_yes hx], kg, openS_of h hx k2, ?_⟩
    unfold workS
    rw [if_pos ⟨ht, hx, kg⟩, k3]; omega
theorem add_cases {l : List P} (h : okL l) {t m : Int} (ht : isT t = true) (hm : isT m = true) :
    (m = 0 ∧ addS l t m = (t, 0) ∧ workS l t t = 0) ∨ (m ≠ 0 ∧ ∃ x, addS l t m = (x, 0) ∧ t < x ∧ isT x = true ∧ workS l t x = m ∧ openS l (x - 1) = true ∧ workS l t (x - 1) = m - 1) ∨ (addS l t m = (0, 15) ∧ workS l t 10000000 < m) := by
  have tb := isT_yes ht
  have mb := isT_yes hm
  by_cases e : m = 0
  · refine .inl ⟨e, ?_, ?_⟩
    · unfold addS; rw [if_pos ht, if_pos hm, if_pos e]
    · unfold workS; rw [if_pos ⟨ht, ht, Int.le_refl _⟩]; omega
  · obtain ⟨a1, a2, a3, a4⟩ := add_last h (t := t) (m := m) tb.1 (by omega)
    have hn : addS l t m = asT (kth l (WU l t + m - 1) + 1) := by unfold addS; rw [if_pos ht, if_pos hm, if_neg e]
    rcases Int.lt_or_le 10000000 (kth l (WU l t + m - 1) + 1) with g | g
    · refine .inr (.inr ⟨by rw [hn, asT_no (isT_big g)], ?_⟩)
      unfold workS
      rw [if_pos ⟨ht, maxT, tb.2⟩]
      have b := WU_mono h (a := 10000000) (b := kth l (WU l t + m - 1)) (by omega) (by omega)
      omega
    · have hx := isT_mk (n := kth l (WU l t + m - 1) + 1) (by omega) g
      have hx1 := isT_mk (n := kth l (WU l t + m - 1)) (by omega) (by omega)
      refine .inr (.inl ⟨e, kth l (WU l t + m - 1) + 1, by rw [hn, asT_yes hx], by omega, hx, ?_, ?_, ?_⟩)
      · unfold workS; rw [if_pos ⟨ht, hx, by omega⟩, a3]; omega
      · rw [Int.add_sub_cancel]; exact openS_of h hx1 a4
      · rw [Int.add_sub_cancel]; unfold workS; rw [if_pos ⟨ht, hx1, a1⟩, a2]; omega
theorem work_join {l : List P} (h : okL l) {a b c : Int} (ha : isT a = true) (hc : isT c = true) (h1 : a ≤ b) (h2 : b ≤ c) : workS l a b + workS l b c = workS l a c := by
  have ab := isT_yes ha
  have cb := isT_yes hc
  have hb := isT_mk (n := b) (by omega) (by omega)
  unfold workS
  rw [if_pos ⟨ha, hb, h1⟩, if_pos ⟨hb, hc, h2⟩, if_pos ⟨ha, hc, by omega⟩]
  omega
theorem WU_shift {l : List P} {t : Int} : WU l (t + 10080) = WU l t + SW l l.length := by
  unfold WU
  rw [show (t + 10080) / 10080 = t / 10080 + 1 by omega, show (t + 10080) % 10080 = t % 10080 by omega, Int.add_mul]
  omega
theorem week_work {l : List P} {t : Int} (ht : isT t = true) (h1 : t ≤ 9989920) : workS l t (t + 10080) = SW l l.length := by
  have tb := isT_yes ht
  unfold workS
  rw [if_pos ⟨ht, isT_mk (by omega) (by omega), by omega⟩, WU_shift]; omega
theorem week_open {l : List P} (h : okL l) {t : Int} (ht : isT t = true) (h1 : t ≤ 9989920) : openS l (t + 10080) = openS l t := by
  have tb := isT_yes ht
  have e : opn l (t + 10080) ↔ opn l t := by
    unfold opn
    rw [show (t + 10080) % 10080 = t % 10080 by omega]
  have ht2 := isT_mk (n := t + 10080) (by omega) (by omega)
  by_cases g : opn l t
  · rw [openS_of h ht g, openS_of h ht2 (e.2 g)]
  · rw [openS_not h fun _ => g, openS_not h fun _ q => g (e.1 q)]
end Go.Proofs.YthpopopodjgdaaaDoor
