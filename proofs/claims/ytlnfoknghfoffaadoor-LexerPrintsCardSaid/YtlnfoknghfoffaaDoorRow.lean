/- Rows of lexemes: as arguments (Rd), of the call's own (Own), and the append of one. -/
import Derived.Test.YtlnfoknghfoffaaDoorFirst
set_option linter.unusedVariables false
set_option linter.unusedSimpArgs false
namespace Go.Proofs.YtlnfoknghfoffaaDoor
open Go.ChangeShapes Go.WideShapes Go.ChangeAt Go.RowKit Lm

/-- kind, text, number, offset -/
structure LT where
  k : Int
  t : ByteArray
  n : Int
  a : Int
def LT.c (x : LT) : List Value := [.int .i64 x.k, .string x.t, .int .i64 x.n, .int .i64 x.a]
def LT.vl (x : LT) : Value := .agg #[.int .i64 x.k, .string x.t, .int .i64 x.n, .int .i64 x.a]
def cellsL (l : List LT) : List Value := l.flatMap LT.c
/-- a slice that reads as a list of lexemes -/
def Rd (w : World) (v : Value) (l : List LT) : Prop := ∃ A c, v = .slice A l.length c ∧ l.length ≤ c ∧ (0 < l.length → ∃ b off, A = some ⟨b, off, none⟩ ∧ b < w.heap.size ∧ ∀ i x, l[i]? = some x → ∀ j u, x.c[j]? = some u → w.cell? ⟨b, off + i * 4 + j, none⟩ = some u)
theorem Rd.nil (w : World) : Rd w (.slice none 0 0) [] := ⟨none, 0, rfl, Nat.le_refl _, fun h => absurd h (by decide)⟩
theorem Rd.q {w w' : World} {v : Value} {l : List LT} (h : Rd w v l) (hq : Q w w') : Rd w' v l := by
  obtain ⟨A, c, h1, h2, h3⟩ := h
  refine ⟨A, c, h1, h2, fun h0 => ?_⟩
  obtain ⟨b, off, e, hb, hc⟩ := h3 h0
  exact ⟨b, off, e, Nat.lt_of_lt_of_le hb hq.size, fun i x hx j u hu => (hq.cell (p := ⟨b, off + i * 4 + j, none⟩) hb).trans (hc i x hx j u hu)⟩
/-- a row of lexemes of the call's own -/
def Own (B : Nat) (v : Value) (l : List LT) (w : World) : Prop := w.ownsRow B 32 4 v l.length (cellsL l)
theorem infoL : (Tryd.prog.info? 32).map (fun i => (i.zero, i.size, i.bytes)) = some (some (.agg #[.int .i64 0, .string ⟨#[]⟩, .int .i64 0, .int .i64 0]), 4, 40) := by kernel_rfl
theorem own_nil (B : Nat) (w : World) : Own B (.slice none 0 0) [] w := World.ownsRow_nil _ _ _ _
theorem cellsL_len : ∀ l : List LT, (cellsL l).length = l.length * 4
  | [] => rfl
  | t :: l => by show (t.c ++ cellsL l).length = _; rw [List.length_append, cellsL_len l, List.length_cons]; show 4 + _ = _; omega
theorem cellsL_app (a b : List LT) : cellsL (a ++ b) = cellsL a ++ cellsL b := by unfold cellsL; rw [List.flatMap_append]
theorem cellsL_at : ∀ (l : List LT) (i : Nat) (x : LT), l[i]? = some x → ∀ j u, x.c[j]? = some u → (cellsL l)[i * 4 + j]? = some u
  | [], i, s, h => by simp at h
  | t :: l, 0, s, h => fun j u hu => by
    simp at h; subst h
    have hj : j < t.c.length := by
      rcases Nat.lt_or_ge j t.c.length with k | k
      · exact k
      · rw [List.getElem?_eq_none k] at hu; cases hu
    show (t.c ++ cellsL l)[0 * 4 + j]? = _
    rw [show 0 * 4 + j = j by omega, List.getElem?_append_left hj]; exact hu
  | t :: l, i + 1, s, h => fun j u hu => by
    have := cellsL_at l i s (by simpa using h) j u hu
    show (t.c ++ cellsL l)[(i + 1) * 4 + j]? = _
    rw [List.getElem?_append_right (by show 4 ≤ _; omega), show (i + 1) * 4 + j - t.c.length = i * 4 + j by show (i + 1) * 4 + j - 4 = _; omega]
    exact this
theorem cellsL_one (x : LT) : ∀ u ∈ x.c, u.oneCell' = true := by
  intro u hu
  simp [LT.c] at hu
  rcases hu with rfl | rfl | rfl | rfl <;> rfl
theorem Own.form {B : Nat} {v : Value} {l : List LT} {w : World} (h : Own B v l w) (h0 : 0 < l.length) : ∃ g cap, v = .slice (some ⟨g, 0, none⟩) l.length cap ∧ l.length ≤ cap ∧ B ≤ g ∧ g < w.heap.size := by
  obtain ⟨_, ⟨_, h3⟩ | ⟨g, cap, cur, rfl, hb, hg, hn, _⟩⟩ := h
  · omega
  · refine ⟨g, cap, rfl, hn, hb, ?_⟩
    rcases Nat.lt_or_ge g w.heap.size with k | k
    · exact k
    · rw [Array.getElem?_eq_none k] at hg; cases hg
theorem Own.rd {B : Nat} {v : Value} {l : List LT} {w : World} (h : Own B v l w) : Rd w v l := by
  by_cases h0 : 0 < l.length
  · obtain ⟨g, cap, rfl, hn, hb, hg⟩ := h.form h0
    refine ⟨_, _, rfl, hn, fun _ => ⟨g, 0, rfl, hg, fun i s hs j u hu => ?_⟩⟩
    have hi : i < l.length := by
      rcases Nat.lt_or_ge i l.length with k | k
      · exact k
      · rw [List.getElem?_eq_none k] at hs; cases hs
    have hj : j < 4 := by
      rcases Nat.lt_or_ge j s.c.length with k | k
      · exact k
      · rw [List.getElem?_eq_none k] at hu; cases hu
    rw [Nat.zero_add]
    exact (h.cellAt (i * 4 + j) (by omega)).trans (cellsL_at l i s hs j u hu)
  · have hl : l = [] := List.eq_nil_of_length_eq_zero (by omega)
    subst hl
    obtain ⟨_, ⟨rfl, _⟩ | ⟨g, cap, cur, rfl, _, _, hn, _⟩⟩ := h
    · exact Rd.nil w
    · exact ⟨_, cap, rfl, hn, fun h => absurd h (by simp)⟩
theorem Own.alloc {B : Nat} {v : Value} {l : List LT} {w : World} (h : Own B v l w) (o : Obj) : Own B v l (w.alloc o) := World.ownsRow.alloc h o
theorem Own.drew {B : Nat} {v : Value} {l : List LT} {w : World} (h : Own B v l w) : Own B v l w.drew := h
def Room (n : Nat) : Prop := n + 1 ≤ maxLen ∧ (n + 1) * 40 ≤ 140737488355328
theorem room_of {n : Nat} (h : n ≤ 1000000) : Room n := by unfold Room maxLen; omega
theorem alloc_le {B : Nat} {w : World} (h : B ≤ w.heap.size) (o : Obj) : B ≤ (w.alloc o).heap.size := by simp; omega
theorem one_at (w : World) (x : LT) (t : TypeId) : ∀ j u, x.c[j]? = some u → (w.alloc (.cells #[.int .i64 x.k, .string x.t, .int .i64 x.n, .int .i64 x.a] t)).cell? ((⟨w.heap.size, 0, none⟩ : Addr).add j) = some u := by
  intro j u hj
  match j, hj with
  | 0, hj => simp [LT.c] at hj; subst hj; simp [Addr.add]
  | 1, hj => simp [LT.c] at hj; subst hj; simp [Addr.add]
  | 2, hj => simp [LT.c] at hj; subst hj; simp [Addr.add]
  | 3, hj => simp [LT.c] at hj; subst hj; simp [Addr.add]
  | j + 4, hj => simp [LT.c] at hj
theorem own_next {B : Nat} {w0 w w1 : World} {v v' : Value} {l : List LT} {x : LT} {o : Obj} (h : Own B v l w) (hb : Below B w0 w) (hB : B ≤ w.heap.size)
    (h' : w1.ownsRow B 32 4 v' (l.length + 1) (cellsL l ++ x.c)) (hg : (w.alloc o).grownBy w1 v.ownBlock) : Own B v' (l ++ [x]) w1 ∧ Below B w0 w1 :=
  ⟨by unfold Own; rw [List.length_append, cellsL_app]; simpa [cellsL] using h', (hb.alloc hB o).grown hg (by simp; omega) (fun j hj => (h.lt j hj).1)⟩
theorem grown_q {w w' : World} (h : Q w w') (r : Option Nat) : w.grownBy w' r := ⟨h.os, h.tape, h.output, h.size, fun k hk _ => h.block k hk⟩
theorem own_other {B : Nat} {w w' : World} {v : Value} {l : List LT} (h : Own B v l w) (hq : Q w w') : Own B v l w' := World.ownsRow.kept h (grown_q hq none) (by
  cases e : v.ownBlock with
  | none => exact .inl rfl
  | some k => exact .inr (by simp))
end Go.Proofs.YtlnfoknghfoffaaDoor
