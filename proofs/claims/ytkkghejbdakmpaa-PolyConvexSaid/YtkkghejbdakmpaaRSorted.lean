/- The contracts of the reference's Before and sorted. -/
import Derived.Test.YtkkghejbdakmpaaRA
import Derived.Test.YtkkghejbdakmpaaChain
import Derived.Test.YtkkghejbdakmpaaSame
import Derived.Test.YtkkghejbdakmpaaHullM
set_option linter.unusedVariables false
set_option linter.unusedSimpArgs false
namespace Go.Proofs.Ytkkghejbdakmpaa
open Go.ChangeShapes Go.WideShapes Go.ChangeAt Go.RowKit Go.Shelf Pm

set_option maxHeartbeats 1600000 in
theorem rBefore_c (a b : P) (r : Bool) (h : Hid (bef a b = r)) (w : World) : Calls Try.prog 34 #[pv a, pv b] w fun e w' => e = .returned (.bool r) ∧ Q w w' := by
  obtain ⟨ax, ay⟩ := a
  obtain ⟨bx, bY⟩ := b
  unfold pv
  dsimp only
  have hb : bef (ax, ay) (bx, bY) = (decide (ax < bx) || (decide (ax = bx) && decide (ay < bY))) := rfl
  by_cases h1 : ax < bx
  · have HE := Lib.hid (show true = r by rw [← h.out, hb]; simp [h1])
    have t1 : decide (ax < bx) = true := decide_eq_true h1
    clear hb h h1
    go_enter Try.func34, Try.ntmps34
    go_wp2_with fail
    go_ret
    exact ⟨ret_bool HE.out, ((Q.refl _).alloc _).alloc _⟩
  · have t1 : decide (ax < bx) = false := decide_eq_false h1
    by_cases h2 : ax = bx
    · subst h2
      have t2 : (ax == ax) = true := by simp
      by_cases h3 : ay < bY
      · have HE := Lib.hid (show true = r by rw [← h.out, hb]; simp [h3])
        have t3 : decide (ay < bY) = true := decide_eq_true h3
        clear hb h h1 h3
        go_enter Try.func34, Try.ntmps34
        go_wp2_with fail
        go_ret
        exact ⟨ret_bool HE.out, ((Q.refl _).alloc _).alloc _⟩
      · have HE := Lib.hid (show false = r by rw [← h.out, hb]; simp [h3])
        have t3 : decide (ay < bY) = false := decide_eq_false h3
        clear hb h h1 h3
        go_enter Try.func34, Try.ntmps34
        go_wp2_with fail
        go_ret
        exact ⟨ret_bool HE.out, ((Q.refl _).alloc _).alloc _⟩
    · have t2 : (ax == bx) = false := by simp [h2]
      have HE := Lib.hid (show false = r by rw [← h.out, hb]; simp [h1, h2])
      clear hb h h1 h2
      go_enter Try.func34, Try.ntmps34
      go_wp2_with fail
      go_ret
      exact ⟨ret_bool HE.out, ((Q.refl _).alloc _).alloc _⟩
/-! the insertion -/
theorem insD_at {q : P} : ∀ {D : List P} {j : Nat}, j ≤ D.length → (∀ i, i < j → bef (g D i) q = true) → (j < D.length → bef (g D j) q = false ∧ g D j ≠ q) → insD q D = D.take j ++ [q] ++ D.drop j
  | [], j, h, _, _ => by
    have : j = 0 := by simpa using h
    subst this; rfl
  | y :: D, 0, _, _, h2 => by
    obtain ⟨a, b⟩ := h2 (by simp)
    have a : bef y q = false := a
    have b : ¬ y = q := b
    unfold insD
    rw [if_neg (by rw [a]; decide), if_neg b]; rfl
  | y :: D, j + 1, h, h1, h2 => by
    have a : bef y q = true := h1 0 (by omega)
    unfold insD
    rw [if_pos a, insD_at (D := D) (j := j) (by simpa using h) (fun i hi => h1 (i + 1) (by omega)) (fun hj => h2 (by simpa using hj))]
    rfl
theorem insD_eq {q : P} : ∀ {D : List P} {j : Nat}, j < D.length → (∀ i, i < j → bef (g D i) q = true) → bef (g D j) q = false → g D j = q → insD q D = D
  | [], j, h, _, _, _ => by simp at h
  | y :: D, 0, _, _, a, b => by
    have a : bef y q = false := a
    have b : y = q := b
    unfold insD
    rw [if_neg (by rw [a]; decide), if_pos b]
  | y :: D, j + 1, h, h1, a, b => by
    have a0 : bef y q = true := h1 0 (by omega)
    unfold insD
    rw [if_pos a0, insD_eq (D := D) (j := j) (by simpa using h) (fun i hi => h1 (i + 1) (by omega)) a b]
theorem add_is (b o i : Nat) : ((⟨b, o, none⟩ : Addr).add i) = ⟨b, o + i, none⟩ := by simp [Addr.add]
theorem take_cells {B g2 d c : Nat} {D : List P} {W : World} (h : Own B (.slice (some ⟨g2, 0, none⟩) d c) D W) (hd : D.length = d) (j : Nat) : ∀ i u, (cellsL (D.take j))[i]? = some u → W.cell? ((⟨g2, 0, none⟩ : Addr).add i) = some u := fun i u hu => by
  subst hd
  have e : cellsL D = cellsL (D.take j) ++ cellsL (D.drop j) := by rw [← cellsL_app, List.take_append_drop]
  have hi : i < (cellsL (D.take j)).length := by
    rcases Nat.lt_or_ge i (cellsL (D.take j)).length with k | k
    · exact k
    · rw [List.getElem?_eq_none k] at hu; cases hu
  have h2 : (cellsL D)[i]? = some u := by rw [e, List.getElem?_append_left hi]; exact hu
  have hl : i < D.length * 2 := by rw [← cellsL_len, e, List.length_append]; omega
  rw [add_is, Nat.zero_add]
  exact (World.ownsRow.cellAt h i hl).trans h2
theorem drop_cells {B g2 d c : Nat} {D : List P} {W : World} (h : Own B (.slice (some ⟨g2, 0, none⟩) d c) D W) (hd : D.length = d) (j : Nat) : ∀ i u, (cellsL (D.drop j))[i]? = some u → W.cell? ((⟨g2, j * 2, none⟩ : Addr).add i) = some u := fun i u hu => by
  subst hd
  have hi : i < (cellsL (D.drop j)).length := by
    rcases Nat.lt_or_ge i (cellsL (D.drop j)).length with k | k
    · exact k
    · rw [List.getElem?_eq_none k] at hu; cases hu
  have hi2 := hi
  rw [cellsL_len, List.length_drop] at hi2
  have e : cellsL D = cellsL (D.take j) ++ cellsL (D.drop j) := by rw [← cellsL_app, List.take_append_drop]
  have lt : (cellsL (D.take j)).length = j * 2 := by rw [cellsL_len, List.length_take]; omega
  have h2 : (cellsL D)[j * 2 + i]? = some u := by rw [e, List.getElem?_append_right (by omega), lt, Nat.add_sub_cancel_left]; exact hu
  have hl : j * 2 + i < D.length * 2 := by omega
  rw [add_is]
  exact (World.ownsRow.cellAt h (j * 2 + i) hl).trans h2
theorem Own.le {B B' : Nat} {v : Value} {l : List P} {w : World} (h : Own B v l w) (hB : B' ≤ B) : Own B' v l w := by
  obtain ⟨h1, h2 | ⟨g, cap, cur, h2, hb, h3⟩⟩ := h
  · exact ⟨h1, .inl h2⟩
  · exact ⟨h1, .inr ⟨g, cap, cur, h2, Nat.le_trans hB hb, h3⟩⟩
theorem two_cells {wr W W2 : World} {g2 bb o1 o2 o3 o4 : Nat} {u0 u1 u4 u5 : Value} (h1 : g2 < wr.heap.size) (h2 : bb < wr.heap.size)
    (h : Hid (Q wr W) ∧ W.cell? ⟨g2, o1, none⟩ = some u0 ∧ W.cell? ⟨g2, o2, none⟩ = some u1 ∧ W.cell? ⟨bb, o3, none⟩ = some u4 ∧ W.cell? ⟨bb, o4, none⟩ = some u5) (hq : Q W W2) :
    Hid (Q wr W2) ∧ W2.cell? ⟨g2, o1, none⟩ = some u0 ∧ W2.cell? ⟨g2, o2, none⟩ = some u1 ∧ W2.cell? ⟨bb, o3, none⟩ = some u4 ∧ W2.cell? ⟨bb, o4, none⟩ = some u5 := by
  obtain ⟨h0, k0, k1, k4, k5⟩ := h
  have l1 := Nat.lt_of_lt_of_le h1 h0.out.size
  have l2 := Nat.lt_of_lt_of_le h2 h0.out.size
  exact ⟨Lib.hid (h0.out.trans hq), (hq.cell (p := ⟨g2, o1, none⟩) l1).trans k0, (hq.cell (p := ⟨g2, o2, none⟩) l1).trans k1, (hq.cell (p := ⟨bb, o3, none⟩) l2).trans k4, (hq.cell (p := ⟨bb, o4, none⟩) l2).trans k5⟩
end Go.Proofs.Ytkkghejbdakmpaa
