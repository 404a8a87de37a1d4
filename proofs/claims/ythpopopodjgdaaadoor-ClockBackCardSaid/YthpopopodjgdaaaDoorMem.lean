/- Slices of shifts and a calendar in memory; small contracts. -/
import Derived.Test.YthpopopodjgdaaaDoorMath
import Derived.Test.YthpopopodjgdaaaDoorRows
import Derived.WalkSpells
import Derived.WalkLawsBesides
import Derived.Lib.Hide
import Derived.IntWalk
import Derived.Outline
import Derived.OwnWalk
import Derived.LoopTactic
import Derived.Laws.AppendOwn
import Derived.Laws.OwnMore
import Derived.Laws.NewBlocks
import Derived.Deep.QuietTactic
import Derived.BigQuiet
import Derived.Handy
import Derived.Deep.RegionWith
import Derived.Deep.DeepCutAuto
import Derived.StillTailTactics
import Derived.Lib.OthersKept
import Derived.BigRegion
import Derived.Deep.RegionHeld3
import Derived.Deep.DrawnRows
import Derived.Laws.CopyRow
set_option linter.unusedVariables false
set_option linter.unusedSimpArgs false
namespace Go.Proofs.YthpopopodjgdaaaDoor
open Go.ChangeShapes Go.WideShapes Go.ChangeAt Go.RowKit Km

theorem ret_bool {a b : Bool} (h : a = b) : Ending.returned (.bool a) = .returned (.bool b) := by rw [h]
theorem ret_int {k : IntKind} {a b : Int} (h : a = b) : Ending.returned (.int k a) = .returned (.int k b) := by rw [h]
/-- what stood in memory stands as it was -/
def Q (w w' : World) : Prop := Below w.heap.size w w'
theorem Q.refl (w : World) : Q w w := Below.refl _ _
theorem Q.trans {a b c : World} (h : Q a b) (k : Q b c) : Q a c := Below.trans h (Below.mono k h.size)
theorem Q.drew {a b : World} (h : Q a b) : Q a b.drew := Below.drew h
theorem Q.drewN {a b : World} (h : Q a b) (n : Nat) : Q a (b.drewN n) := ⟨h.os, h.tape, h.output, h.size, h.block⟩
theorem Q.alloc {a b : World} (h : Q a b) (o : Obj) : Q a (b.alloc o) := Below.alloc h h.size o
theorem Q.of {a b : World} (h : Below a.heap.size a b) : Q a b := h
theorem Q.setA {a b : World} (h : Q a b) {g i : Nat} (hg : a.heap.size ≤ g) (u : Value) : Q a (b.setCell ⟨g, i, none⟩ u) := Below.setCell h hg u
/-- an int of 64 bits -/
def Fit (n : Int) : Prop := -9223372036854775808 ≤ n ∧ n ≤ 9223372036854775807
theorem fit_i64 {n : Int} (h : (Lit.int .i64 n).wf = true) : Fit n := by
  have h2 : (decide (IntKind.min .i64 ≤ n) && decide (n ≤ IntKind.max .i64)) = true := h
  rw [Bool.and_eq_true, decide_eq_true_eq, decide_eq_true_eq, show IntKind.min .i64 = -9223372036854775808 by decide, show IntKind.max .i64 = 9223372036854775807 by decide] at h2
  exact h2
theorem wrap_i64 (n : Int) (h : Fit n) : IntKind.i64.wrap n = n := IntWalk.i64_in _ (by obtain ⟨a, b⟩ := h; omega)
/-- a slice that reads as a list of elements of sz cells each, f says which -/
def RdG {α : Type} (sz : Nat) (f : α → List Value) (w : World) (v : Value) (l : List α) : Prop := ∃ A c, v = .slice A l.length c ∧ l.length ≤ c ∧ (0 < l.length → ∃ b off, A = some ⟨b, off, none⟩ ∧ b < w.heap.size ∧ ∀ i x, l[i]? = some x → ∀ j u, (f x)[j]? = some u → w.cell? ⟨b, off + i * sz + j, none⟩ = some u)
theorem RdG.nil {α : Type} (sz : Nat) (f : α → List Value) (w : World) : RdG sz f w (.slice none 0 0) [] := ⟨none, 0, rfl, Nat.le_refl _, fun h => absurd h (Nat.lt_irrefl 0)⟩
theorem RdG.q {α : Type} {sz : Nat} {f : α → List Value} {w w' : World} {v : Value} {l : List α} (h : RdG sz f w v l) (hq : Q w w') : RdG sz f w' v l := by
  obtain ⟨A, c, h1, h2, h3⟩ := h
  refine ⟨A, c, h1, h2, fun h0 => ?_⟩
  obtain ⟨b, off, e, hb, hc⟩ := h3 h0
  exact ⟨b, off, e, Nat.lt_of_lt_of_le hb hq.size, fun i x hx j u hu => (hq.cell (p := ⟨b, off + i * sz + j, none⟩) hb).trans (hc i x hx j u hu)⟩
def pc (p : P) : List Value := [.int .i64 p.1, .int .i64 p.2]
def RdP (w : World) (v : Value) (l : List P) : Prop := RdG 2 pc w v l

/-- a point of a list, in a later world -/
theorem RdP.at {w w' : World} {A : Option Addr} {n c : Nat} {l : List P} (h : RdP w (.slice A n c) l) (hq : Q w w') {i : Nat} (hi : i < l.length) : ∃ b off, A = some ⟨b, off, none⟩ ∧ b < w.heap.size ∧ n ≤ c ∧
    w'.cell? ⟨b, off + i * 2, none⟩ = some (.int .i64 (F l i)) ∧ w'.cell? ⟨b, off + i * 2 + 1, none⟩ = some (.int .i64 (U l i)) := by
  obtain ⟨A', c', h1, h2, h3⟩ := h
  injection h1 with e1 e2 e3
  subst e1 e2 e3
  obtain ⟨b, off, e, hb, hc⟩ := h3 (by omega)
  have g := fun j u (hu : (pc l[i])[j]? = some u) => (hq.cell (p := ⟨b, off + i * 2 + j, none⟩) hb).trans (hc i l[i] (List.getElem?_eq_getElem hi) j u hu)
  have e1 : F l i = l[i].1 := by unfold F; rw [List.getD_eq_getElem?_getD, List.getElem?_eq_getElem hi]; rfl
  have e2 : U l i = l[i].2 := by unfold U; rw [List.getD_eq_getElem?_getD, List.getElem?_eq_getElem hi]; rfl
  exact ⟨b, off, e, hb, h2, by rw [e1]; exact g 0 _ rfl, by rw [e2]; exact g 1 _ rfl⟩
theorem RdP.zero (w : World) : RdP w (.slice none 0 0) [] := RdG.nil _ _ w
theorem old_cell {w : World} {b off : Nat} {u : Value} (o : Obj) (hb : b < w.heap.size) (h : w.cell? ⟨b, off, none⟩ = some u) : (w.alloc o).cell? ⟨b, off, none⟩ = some u :=
  (((Q.refl w).alloc o).cell (p := ⟨b, off, none⟩) hb).trans h
/-- a calendar in block g -/
structure Cal (w : World) (g : Nat) (l : List P) : Prop where
  lt : g < w.heap.size
  f : ∀ i, i < l.length → w.cell? ⟨g, i * 2, none⟩ = some (.int .i64 (F l i))
  u : ∀ i, i < l.length → w.cell? ⟨g, i * 2 + 1, none⟩ = some (.int .i64 (U l i))
  n : w.cell? ⟨g, 42, none⟩ = some (.int .i64 l.length)
theorem Cal.q {w w' : World} {g : Nat} {l : List P} (h : Cal w g l) (hq : Q w w') : Cal w' g l :=
  ⟨Nat.lt_of_lt_of_le h.lt hq.size, fun i hi => (hq.cell (p := ⟨g, i * 2, none⟩) h.lt).trans (h.f i hi), fun i hi => (hq.cell (p := ⟨g, i * 2 + 1, none⟩) h.lt).trans (h.u i hi), (hq.cell (p := ⟨g, 42, none⟩) h.lt).trans h.n⟩
theorem max_run (ts : Array TypeId) (t : TypeId) (a b m : Int) (w : World) (h : max a b = m) : (Builtin.max_ ts t #[.int .i64 a, .int .i64 b]).run Tryd.prog w = .ok (.int .i64 m) w := by
  subst h
  show ((Builtin.max2 (.int .i64 a) (.int .i64 b)) >>= fun x => pure x).run Tryd.prog w = _
  by_cases h : a < b
  · rw [Int.max_eq_right (by omega)]
    simp [Builtin.max2, h]
  · rw [Int.max_eq_left (by omega)]
    simp [Builtin.max2, h]
theorem min_run (ts : Array TypeId) (t : TypeId) (a b m : Int) (w : World) (h : min a b = m) : (Builtin.min_ ts t #[.int .i64 a, .int .i64 b]).run Tryd.prog w = .ok (.int .i64 m) w := by
  subst h
  show ((Builtin.min2 (.int .i64 a) (.int .i64 b)) >>= fun x => pure x).run Tryd.prog w = _
  by_cases h : b < a
  · rw [Int.min_eq_right (by omega)]
    simp [Builtin.min2, h]
  · rw [Int.min_eq_left (by omega)]
    simp [Builtin.min2, h]
def isT (n : Int) : Bool := decide (0 ≤ n) && decide (n ≤ 10000000)
theorem isT_yes {n : Int} (h : isT n = true) : 0 ≤ n ∧ n ≤ 10000000 := by
  unfold isT at h; rw [Bool.and_eq_true, decide_eq_true_eq, decide_eq_true_eq] at h; exact h
theorem isT_no {n : Int} (h : isT n = false) : n < 0 ∨ 10000000 < n := by
  unfold isT at h; rw [Bool.and_eq_false_iff, decide_eq_false_iff_not, decide_eq_false_iff_not] at h; omega
theorem isTime_c (n : Int) (b : Bool) (h : Hid (isT n = b)) (w : World) : Calls Tryd.prog 32 #[.int .i64 n] w fun e w' => e = .returned (.bool b) ∧ w = w' := by
  go_enter Tryd.func32, Tryd.ntmps32
  go_wp2
  all_goals go_ret
  all_goals refine ⟨ret_bool ?_, rfl⟩
  all_goals rw [← h.out]; unfold isT
  all_goals first | (simp; omega) | (simp [*]; done)
theorem rIsTime_c (n : Int) (b : Bool) (h : Hid (isT n = b)) (w : World) : Calls Tryd.prog 36 #[.int .i64 n] w fun e w' => e = .returned (.bool b) ∧ w = w' := by
  go_enter Tryd.func36, Tryd.ntmps36
  go_wp2
  all_goals go_ret
  all_goals refine ⟨ret_bool ?_, rfl⟩
  all_goals rw [← h.out]; unfold isT
  all_goals first | (simp; omega) | (simp [*]; done)
theorem lIsTime_c (n : Int) (b : Bool) (h : Hid (isT n = b)) (w : World) : Calls Tryd.prog 30 #[.int .i64 n] w fun e w' => e = .returned (.bool b) ∧ w = w' := by
  go_enter Tryd.func30, Tryd.ntmps30
  go_wp2
  all_goals go_ret
  all_goals refine ⟨ret_bool ?_, rfl⟩
  all_goals rw [← h.out]; unfold isT
  all_goals first | (simp; omega) | (simp [*]; done)
theorem ret_ie {a b c d : Int} {k k' : IntKind} (h : a = b) (g : c = d) : Ending.returned (.tuple #[.int k a, .int k' c]) = .returned (.tuple #[.int k b, .int k' d]) := by rw [h, g]
/-- a time as a result -/
def asT (n : Int) : Int × Nat := if isT n = true then (n, 0) else (0, 15)
theorem asTime_c (n x : Int) (e : Nat) (h : Hid (asT n = (x, e))) (w : World) : Calls Tryd.prog 33 #[.int .i64 n] w fun r w' => r = .returned (.tuple #[.int .i64 x, .int .i64 e]) ∧ w = w' := by
  obtain ⟨b, hb⟩ : ∃ b, isT n = b := ⟨_, rfl⟩
  have HB := Lib.hid hb
  have HE := Lib.hid (show (if b = true then (n, 0) else (0, 15)) = (x, e) by rw [← h.out, ← hb]; rfl)
  clear hb
  cases b with
  | true =>
    have h1 : n = x ∧ 0 = e := by have := HE.out; rw [if_pos rfl] at this; injection this with a b; exact ⟨a, b⟩
    obtain ⟨rfl, rfl⟩ := h1
    go_enter Tryd.func33, Tryd.ntmps33
    go_wp2_with fail
    refine (isTime_c n true HB _).mono ?_; rintro E w1 ⟨rfl, rfl⟩
    go_wp2_with fail
    go_ret2
    exact ⟨rfl, rfl⟩
  | false =>
    have h1 : 0 = x ∧ 15 = e := by have := HE.out; rw [if_neg (by decide)] at this; injection this with a b; exact ⟨a, b⟩
    obtain ⟨rfl, rfl⟩ := h1
    go_enter Tryd.func33, Tryd.ntmps33
    go_wp2_with fail
    refine (isTime_c n false HB _).mono ?_; rintro E w1 ⟨rfl, rfl⟩
    go_wp2_with fail
    go_ret2
    exact ⟨rfl, rfl⟩
end Go.Proofs.YthpopopodjgdaaaDoor
