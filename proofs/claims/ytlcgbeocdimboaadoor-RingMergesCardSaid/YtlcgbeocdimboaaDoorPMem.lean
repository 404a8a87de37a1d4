/- Slices of points in memory, rows of the call's own; the smallest contracts. -/
import Derived.Test.YtlcgbeocdimboaaDoorPMath
import Derived.Test.YtlcgbeocdimboaaDoorRows
import Derived.WalkSpells
import Derived.WalkLawsBesides
import Derived.Lib.Hide
import Derived.IntWalk
import Derived.Outline
import Derived.OwnWalk
import Derived.LoopTactic
import Derived.Laws.AppendOwn
import Derived.Laws.AppendOwnNone
import Derived.Laws.OwnMore
import Derived.Laws.NewBlocks
import Derived.Laws.EntriesVeiled
import Derived.Deep.QuietTactic
import Derived.BigQuiet
import Derived.Handy
import Derived.Deep.RegionWith
import Derived.Deep.DeepCutAuto
import Derived.StillTailTactics
import Derived.Lib.OthersKept
import Derived.BigRegion
import Derived.Deep.RegionHeld3
import Derived.Deep.DrawnRows
import Derived.Deep.RegionLaw
import Derived.Deep.AppendLies
import Derived.Lib.OwnBridge
import Derived.Lib.AppendIntMem
import Derived.Shelf.Spec.SlicesGrow
set_option linter.unusedVariables false
set_option linter.unusedSimpArgs false
namespace Go.Proofs.YtlcgbeocdimboaaDoor
open Go.ChangeShapes Go.WideShapes Go.ChangeAt Go.RowKit Pm

theorem ret_bool {a b : Bool} (h : a = b) : Ending.returned (.bool a) = .returned (.bool b) := by rw [h]
theorem ret_int {k : IntKind} {a b : Int} (h : a = b) : Ending.returned (.int k a) = .returned (.int k b) := by rw [h]
/-- what stood in memory stands as it was -/
def Q (w w' : World) : Prop := Below w.heap.size w w'
theorem Q.refl (w : World) : Q w w := Below.refl _ _
theorem Q.trans {a b c : World} (h : Q a b) (k : Q b c) : Q a c := Below.trans h (Below.mono k h.size)
theorem Q.drew {a b : World} (h : Q a b) : Q a b.drew := Below.drew h
theorem Q.drewN {a b : World} (h : Q a b) (n : Nat) : Q a (b.drewN n) := ⟨h.os, h.tape, h.output, h.size, h.block⟩
theorem Q.alloc {a b : World} (h : Q a b) (o : Obj) : Q a (b.alloc o) := Below.alloc h h.size o
theorem Q.of {a b : World} (h : Below a.heap.size a b) : Q a b := h
theorem Q.setA {a b : World} (h : Q a b) {g i : Nat} (hg : a.heap.size ≤ g) (u : Value) : Q a (b.setCell ⟨g, i, none⟩ u) := Below.setCell h hg u
/-- an int of 64 bits -/
def Fit (n : Int) : Prop := -9223372036854775808 ≤ n ∧ n ≤ 9223372036854775807
theorem fit_i64 {n : Int} (h : (Lit.int .i64 n).wf = true) : Fit n := by
  have h2 : (decide (IntKind.min .i64 ≤ n) && decide (n ≤ IntKind.max .i64)) = true := h
  rw [Bool.and_eq_true, decide_eq_true_eq, decide_eq_true_eq, show IntKind.min .i64 = -9223372036854775808 by decide, show IntKind.max .i64 = 9223372036854775807 by decide] at h2
  exact h2
theorem wrap_i64 (n : Int) (h : Fit n) : IntKind.i64.wrap n = n := IntWalk.i64_in _ (by obtain ⟨a, b⟩ := h; omega)
/-- a slice that reads as a list of elements of sz cells each, f says which -/
def RdG {α : Type} (sz : Nat) (f : α → List Value) (w : World) (v : Value) (l : List α) : Prop := ∃ A c, v = .slice A l.length c ∧ l.length ≤ c ∧ (0 < l.length → ∃ b off, A = some ⟨b, off, none⟩ ∧ b < w.heap.size ∧ ∀ i x, l[i]? = some x → ∀ j u, (f x)[j]? = some u → w.cell? ⟨b, off + i * sz + j, none⟩ = some u)
theorem RdG.nil {α : Type} (sz : Nat) (f : α → List Value) (w : World) : RdG sz f w (.slice none 0 0) [] := ⟨none, 0, rfl, Nat.le_refl _, fun h => absurd h (Nat.lt_irrefl 0)⟩
theorem RdG.q {α : Type} {sz : Nat} {f : α → List Value} {w w' : World} {v : Value} {l : List α} (h : RdG sz f w v l) (hq : Q w w') : RdG sz f w' v l := by
  obtain ⟨A, c, h1, h2, h3⟩ := h
  refine ⟨A, c, h1, h2, fun h0 => ?_⟩
  obtain ⟨b, off, e, hb, hc⟩ := h3 h0
  exact ⟨b, off, e, Nat.lt_of_lt_of_le hb hq.size, fun i x hx j u hu => (hq.cell (p := ⟨b, off + i * sz + j, none⟩) hb).trans (hc i x hx j u hu)⟩
def pc (p : P) : List Value := [.int .i64 p.1, .int .i64 p.2]
/-- a point by value -/
def pv (p : P) : Value := .agg #[.int .i64 p.1, .int .i64 p.2]
def RdP (w : World) (v : Value) (l : List P) : Prop := RdG 2 pc w v l
theorem RdP.at {w w' : World} {A : Option Addr} {n c : Nat} {l : List P} (h : RdP w (.slice A n c) l) (hq : Q w w') {i : Nat} (hi : i < l.length) : ∃ b off, A = some ⟨b, off, none⟩ ∧ b < w.heap.size ∧ n ≤ c ∧
    w'.cell? ⟨b, off + i * 2, none⟩ = some (.int .i64 (g l i).1) ∧ w'.cell? ⟨b, off + i * 2 + 1, none⟩ = some (.int .i64 (g l i).2) := by
  obtain ⟨A', c', h1, h2, h3⟩ := h
  injection h1 with e1 e2 e3
  subst e1 e2 e3
  obtain ⟨b, off, e, hb, hc⟩ := h3 (by omega)
  have k := fun j u (hu : (pc l[i])[j]? = some u) => (hq.cell (p := ⟨b, off + i * 2 + j, none⟩) hb).trans (hc i l[i] (List.getElem?_eq_getElem hi) j u hu)
  rw [g_at hi]
  exact ⟨b, off, e, hb, h2, k 0 _ rfl, k 1 _ rfl⟩
def cellsL (l : List P) : List Value := l.flatMap pc
/-- a row of points of the call's own -/
def Own (B : Nat) (v : Value) (l : List P) (w : World) : Prop := w.ownsRow B 38 2 v l.length (cellsL l)
theorem infoP : (Tryd.prog.info? 38).map (fun i => (i.zero, i.size, i.bytes)) = some (some (.agg #[.int .i64 0, .int .i64 0]), 2, 16) := by kernel_rfl
theorem own_nil (B : Nat) (w : World) : Own B (.slice none 0 0) [] w := World.ownsRow_nil _ _ _ _
theorem cellsL_at : ∀ (l : List P) (i : Nat) (s : P), l[i]? = some s → (cellsL l)[i * 2]? = some (.int .i64 s.1) ∧ (cellsL l)[i * 2 + 1]? = some (.int .i64 s.2)
  | [], i, s, h => by simp at h
  | t :: l, 0, s, h => by simp at h; subst h; exact ⟨rfl, rfl⟩
  | t :: l, i + 1, s, h => by
    have := cellsL_at l i s (by simpa using h)
    show (pc t ++ cellsL l)[(i + 1) * 2]? = _ ∧ (pc t ++ cellsL l)[(i + 1) * 2 + 1]? = _
    rw [List.getElem?_append_right (by show 2 ≤ _; omega), List.getElem?_append_right (by show 2 ≤ _; omega), show (i + 1) * 2 - (pc t).length = i * 2 by show (i + 1) * 2 - 2 = _; omega, show (i + 1) * 2 + 1 - (pc t).length = i * 2 + 1 by show (i + 1) * 2 + 1 - 2 = _; omega]
    exact this
theorem cellsL_len : ∀ l : List P, (cellsL l).length = l.length * 2
  | [] => rfl
  | t :: l => by show (pc t ++ cellsL l).length = _; rw [List.length_append, cellsL_len l, List.length_cons]; show 2 + _ = _; omega
theorem cellsL_app (a b : List P) : cellsL (a ++ b) = cellsL a ++ cellsL b := by unfold cellsL; rw [List.flatMap_append]
theorem Own.form {B : Nat} {v : Value} {l : List P} {w : World} (h : Own B v l w) (h0 : 0 < l.length) : ∃ g cap, v = .slice (some ⟨g, 0, none⟩) l.length cap ∧ l.length ≤ cap ∧ B ≤ g ∧ g < w.heap.size := by
  obtain ⟨_, ⟨_, h3⟩ | ⟨g, cap, cur, rfl, hb, hg, hn, _⟩⟩ := h
  · omega
  · refine ⟨g, cap, rfl, hn, hb, ?_⟩
    rcases Nat.lt_or_ge g w.heap.size with k | k
    · exact k
    · rw [Array.getElem?_eq_none k] at hg; cases hg
theorem Own.rd {B : Nat} {v : Value} {l : List P} {w : World} (h : Own B v l w) : RdP w v l := by
  by_cases h0 : 0 < l.length
  · obtain ⟨g, cap, rfl, hn, hb, hg⟩ := h.form h0
    refine ⟨_, _, rfl, hn, fun _ => ⟨g, 0, rfl, hg, fun i s hs j u hu => ?_⟩⟩
    have hi : i < l.length := by
      rcases Nat.lt_or_ge i l.length with k | k
      · exact k
      · rw [List.getElem?_eq_none k] at hs; cases hs
    obtain ⟨c1, c2⟩ := cellsL_at l i s hs
    rw [Nat.zero_add]
    match j, hu with
    | 0, hu => have e : Value.int .i64 s.1 = u := Option.some.inj hu; rw [← e]; exact (h.cellAt (i * 2) (by omega)).trans c1
    | 1, hu => have e : Value.int .i64 s.2 = u := Option.some.inj hu; rw [← e]; exact (h.cellAt (i * 2 + 1) (by omega)).trans c2
  · have hl : l = [] := List.eq_nil_of_length_eq_zero (by omega)
    subst hl
    obtain ⟨_, ⟨rfl, _⟩ | ⟨g, cap, cur, rfl, _, _, hn, _⟩⟩ := h
    · exact RdG.nil _ _ w
    · exact ⟨_, cap, rfl, hn, fun h => absurd h (by simp)⟩
theorem Own.alloc {B : Nat} {v : Value} {l : List P} {w : World} (h : Own B v l w) (o : Obj) : Own B v l (w.alloc o) := World.ownsRow.alloc h o
theorem Own.drewN {B : Nat} {v : Value} {l : List P} {w : World} (h : Own B v l w) (n : Nat) : Own B v l (w.drewN n) := h
theorem pair_at (w : World) (a b : Value) (t : TypeId) : ∀ j u, ([a, b] : List Value)[j]? = some u → (w.alloc (.cells #[a, b] t)).cell? ((⟨w.heap.size, 0, none⟩ : Addr).add j) = some u := by
  intro j u hj
  match j, hj with
  | 0, hj => simp at hj; subst hj; simp [Addr.add]
  | 1, hj => simp at hj; subst hj; simp [Addr.add]
theorem pair_cell (a b : Int) : ∀ u ∈ ([.int .i64 a, .int .i64 b] : List Value), u.oneCell' = true := by
  intro u hu; simp at hu; rcases hu with rfl | rfl <;> rfl
theorem alloc_le {B : Nat} {w : World} (h : B ≤ w.heap.size) (o : Obj) : B ≤ (w.alloc o).heap.size := by simp; omega
def Room (n : Nat) : Prop := n + 1 ≤ maxLen ∧ (n + 1) * 16 ≤ 140737488355328
theorem room_of {n : Nat} (h : n ≤ 1000000) : Room n := by unfold Room maxLen; omega
theorem own_next {B : Nat} {w0 w w1 : World} {v v' : Value} {l : List P} {s : P} {o : Obj} (h : Own B v l w) (hb : Below B w0 w) (hB : B ≤ w.heap.size)
    (h' : w1.ownsRow B 38 2 v' (l.length + 1) (cellsL l ++ [.int .i64 s.1, .int .i64 s.2])) (hg : (w.alloc o).grownBy w1 v.ownBlock) : Own B v' (l ++ [s]) w1 ∧ Below B w0 w1 :=
  ⟨by unfold Own; rw [List.length_append, cellsL_app]; exact h', (hb.alloc hB o).grown hg (by simp; omega) (fun j hj => (h.lt j hj).1)⟩
end Go.Proofs.YtlcgbeocdimboaaDoor
