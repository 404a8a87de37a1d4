/- Slices of points and of ints in memory; small contracts. -/
import Derived.Test.YtlkgbfiaeedpfaaGridM
import Derived.Test.YtlkgbfiaeedpfaaRows
import Derived.WalkSpells
import Derived.WalkLawsBesides
import Derived.Lib.Hide
import Derived.IntWalk
import Derived.Outline
import Derived.OwnWalk
import Derived.LoopTactic
import Derived.Laws.AppendOwn
import Derived.Laws.OwnMore
import Derived.Laws.NewBlocks
import Derived.Deep.QuietTactic
import Derived.BigQuiet
import Derived.Handy
import Derived.Deep.RegionWith
import Derived.Deep.DeepCutAuto
import Derived.StillTailTactics
import Derived.Lib.OthersKept
import Derived.BigRegion
import Derived.Deep.RegionHeld3
import Derived.Deep.DrawnRows
set_option linter.unusedVariables false
set_option linter.unusedSimpArgs false
namespace Go.Proofs.Ytlkgbfiaeedpfaa
open Go.ChangeShapes Go.WideShapes Go.ChangeAt Go.RowKit Cm

theorem ret_bool {a b : Bool} (h : a = b) : Ending.returned (.bool a) = .returned (.bool b) := by rw [h]
theorem ret_int {k : IntKind} {a b : Int} (h : a = b) : Ending.returned (.int k a) = .returned (.int k b) := by rw [h]
/-- what stood in memory stands as it was -/
def Q (w w' : World) : Prop := Below w.heap.size w w'
theorem Q.refl (w : World) : Q w w := Below.refl _ _
theorem Q.trans {a b c : World} (h : Q a b) (k : Q b c) : Q a c := Below.trans h (Below.mono k h.size)
theorem Q.drew {a b : World} (h : Q a b) : Q a b.drew := Below.drew h
theorem Q.drewN {a b : World} (h : Q a b) (n : Nat) : Q a (b.drewN n) := ⟨h.os, h.tape, h.output, h.size, h.block⟩
theorem Q.alloc {a b : World} (h : Q a b) (o : Obj) : Q a (b.alloc o) := Below.alloc h h.size o
theorem Q.of {a b : World} (h : Below a.heap.size a b) : Q a b := h
theorem Q.setA {a b : World} (h : Q a b) {g i : Nat} (hg : a.heap.size ≤ g) (u : Value) : Q a (b.setCell ⟨g, i, none⟩ u) := Below.setCell h hg u
/-- an int of 64 bits -/
def Fit (n : Int) : Prop := -9223372036854775808 ≤ n ∧ n ≤ 9223372036854775807
theorem fit_i64 {n : Int} (h : (Lit.int .i64 n).wf = true) : Fit n := by
  have h2 : (decide (IntKind.min .i64 ≤ n) && decide (n ≤ IntKind.max .i64)) = true := h
  rw [Bool.and_eq_true, decide_eq_true_eq, decide_eq_true_eq, show IntKind.min .i64 = -9223372036854775808 by decide, show IntKind.max .i64 = 9223372036854775807 by decide] at h2
  exact h2
theorem wrap_i64 (n : Int) (h : Fit n) : IntKind.i64.wrap n = n := IntWalk.i64_in _ (by obtain ⟨a, b⟩ := h; omega)
/-- a slice that reads as a list of elements of sz cells each, f says which -/
def RdG {α : Type} (sz : Nat) (f : α → List Value) (w : World) (v : Value) (l : List α) : Prop := ∃ A c, v = .slice A l.length c ∧ l.length ≤ c ∧ (0 < l.length → ∃ b off, A = some ⟨b, off, none⟩ ∧ b < w.heap.size ∧ ∀ i x, l[i]? = some x → ∀ j u, (f x)[j]? = some u → w.cell? ⟨b, off + i * sz + j, none⟩ = some u)
theorem RdG.nil {α : Type} (sz : Nat) (f : α → List Value) (w : World) : RdG sz f w (.slice none 0 0) [] := ⟨none, 0, rfl, Nat.le_refl _, fun h => absurd h (Nat.lt_irrefl 0)⟩
theorem RdG.q {α : Type} {sz : Nat} {f : α → List Value} {w w' : World} {v : Value} {l : List α} (h : RdG sz f w v l) (hq : Q w w') : RdG sz f w' v l := by
  obtain ⟨A, c, h1, h2, h3⟩ := h
  refine ⟨A, c, h1, h2, fun h0 => ?_⟩
  obtain ⟨b, off, e, hb, hc⟩ := h3 h0
  exact ⟨b, off, e, Nat.lt_of_lt_of_le hb hq.size, fun i x hx j u hu => (hq.cell (p := ⟨b, off + i * sz + j, none⟩) hb).trans (hc i x hx j u hu)⟩
def pc (p : P) : List Value := [.int .i64 p.1, .int .i64 p.2]
def RdP (w : World) (v : Value) (l : List P) : Prop := RdG 2 pc w v l

def nc (n : Int) : List Value := [.int .i64 n]
def RdI (w : World) (v : Value) (l : List Int) : Prop := RdG 1 nc w v l
/-- a point of a list, in a later world -/
theorem RdP.at {w w' : World} {A : Option Addr} {n c : Nat} {l : List P} (h : RdP w (.slice A n c) l) (hq : Q w w') {i : Nat} (hi : i < l.length) : ∃ b off, A = some ⟨b, off, none⟩ ∧ b < w.heap.size ∧ n ≤ c ∧
    w'.cell? ⟨b, off + i * 2, none⟩ = some (.int .i64 (X l i)) ∧ w'.cell? ⟨b, off + i * 2 + 1, none⟩ = some (.int .i64 (Y l i)) := by
  obtain ⟨A', c', h1, h2, h3⟩ := h
  injection h1 with e1 e2 e3
  subst e1 e2 e3
  obtain ⟨b, off, e, hb, hc⟩ := h3 (by omega)
  have g := fun j u (hu : (pc l[i])[j]? = some u) => (hq.cell (p := ⟨b, off + i * 2 + j, none⟩) hb).trans (hc i l[i] (List.getElem?_eq_getElem hi) j u hu)
  have e1 : X l i = l[i].1 := by unfold X; rw [List.getD_eq_getElem?_getD, List.getElem?_eq_getElem hi]; rfl
  have e2 : Y l i = l[i].2 := by unfold Y; rw [List.getD_eq_getElem?_getD, List.getElem?_eq_getElem hi]; rfl
  exact ⟨b, off, e, hb, h2, by rw [e1]; exact g 0 _ rfl, by rw [e2]; exact g 1 _ rfl⟩
theorem RdI.at {w w' : World} {A : Option Addr} {n c : Nat} {l : List Int} (h : RdI w (.slice A n c) l) (hq : Q w w') {i : Nat} (hi : i < l.length) : ∃ b off, A = some ⟨b, off, none⟩ ∧ b < w.heap.size ∧ n ≤ c ∧
    w'.cell? ⟨b, off + i, none⟩ = some (.int .i64 (N l i)) := by
  obtain ⟨A', c', h1, h2, h3⟩ := h
  injection h1 with e1 e2 e3
  subst e1 e2 e3
  obtain ⟨b, off, e, hb, hc⟩ := h3 (by omega)
  have g := fun j u (hu : (nc l[i])[j]? = some u) => (hq.cell (p := ⟨b, off + i * 1 + j, none⟩) hb).trans (hc i l[i] (List.getElem?_eq_getElem hi) j u hu)
  have e1 : N l i = l[i] := by unfold N; rw [List.getD_eq_getElem?_getD, List.getElem?_eq_getElem hi]; rfl
  have := g 0 _ rfl
  rw [Nat.mul_one] at this
  exact ⟨b, off, e, hb, h2, by rw [e1]; exact this⟩
theorem inRange_c (n : Int) (b : Bool) (h : Hid (inR n = b)) (w : World) : Calls Try.prog 26 #[.int .i64 n] w fun e w' => e = .returned (.bool b) ∧ w = w' := by
  go_enter Try.func26, Try.ntmps26
  go_wp2
  all_goals go_ret
  all_goals refine ⟨ret_bool ?_, rfl⟩
  all_goals rw [← h.out]; unfold inR
  all_goals first | (simp; omega) | (simp [*]; done) | trace_state
theorem rsmall_c (n : Int) (b : Bool) (h : Hid (inR n = b)) (w : World) : Calls Try.prog 27 #[.int .i64 n] w fun e w' => e = .returned (.bool b) ∧ w = w' := by
  go_enter Try.func27, Try.ntmps27
  go_wp2
  all_goals go_ret
  all_goals refine ⟨ret_bool ?_, rfl⟩
  all_goals rw [← h.out]; unfold inR
  all_goals first | (simp; omega) | (simp [*]; done) | trace_state
end Go.Proofs.Ytlkgbfiaeedpfaa
