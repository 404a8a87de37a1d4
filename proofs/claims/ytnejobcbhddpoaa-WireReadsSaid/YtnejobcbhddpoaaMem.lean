/- Words for memory: what stands as it was; rows of bytes of the call's own; small facts. -/
import Derived.Test.YtnejobcbhddpoaaMath
import Derived.Test.YtnejobcbhddpoaaRows
import Derived.WalkSpells
import Derived.WalkLawsBesides
import Derived.Lib.Hide
import Derived.IntWalk
import Derived.Outline
import Derived.OwnWalk
import Derived.LoopTactic
import Derived.Laws.AppendOwn
import Derived.Laws.OwnMore
import Derived.Laws.NewBlocks
import Derived.Laws.IdiomStrings
import Derived.Deep.QuietTactic
import Derived.BigQuiet
import Derived.Handy
import Derived.Deep.RegionWith
import Derived.Deep.DeepCutAuto
import Derived.StillTailTactics
set_option linter.unusedVariables false
set_option linter.unusedSimpArgs false
namespace Go.Proofs.Ytnejobcbhddpoaa
open Go.ChangeShapes Go.WideShapes Go.ChangeAt Go.RowKit Wm

theorem ret_bool {a b : Bool} (h : a = b) : Ending.returned (.bool a) = .returned (.bool b) := by rw [h]
theorem ret_int {k : IntKind} {a b : Int} (h : a = b) : Ending.returned (.int k a) = .returned (.int k b) := by rw [h]
theorem ret_str {a b : ByteArray} (h : a = b) : Ending.returned (.string a) = .returned (.string b) := by rw [h]
/-- what stood in memory stands as it was -/
def Q (w w' : World) : Prop := Below w.heap.size w w'
theorem Q.refl (w : World) : Q w w := Below.refl _ _
theorem Q.trans {a b c : World} (h : Q a b) (k : Q b c) : Q a c := Below.trans h (Below.mono k h.size)
theorem Q.drew {a b : World} (h : Q a b) : Q a b.drew := Below.drew h
theorem Q.drewN {a b : World} (h : Q a b) (n : Nat) : Q a (b.drewN n) := ⟨h.os, h.tape, h.output, h.size, h.block⟩
theorem Q.alloc {a b : World} (h : Q a b) (o : Obj) : Q a (b.alloc o) := Below.alloc h h.size o
theorem Q.of {a b : World} (h : Below a.heap.size a b) : Q a b := h

theorem Q.setA {a b : World} (h : Q a b) {g i : Nat} (hg : a.heap.size ≤ g) (u : Value) : Q a (b.setCell ⟨g, i, none⟩ u) := Below.setCell h hg u
/-- an int of 64 bits -/
def Fit (n : Int) : Prop := -9223372036854775808 ≤ n ∧ n ≤ 9223372036854775807
theorem fit_i64 {n : Int} (h : (Lit.int .i64 n).wf = true) : Fit n := by
  have h2 : (decide (IntKind.min .i64 ≤ n) && decide (n ≤ IntKind.max .i64)) = true := h
  rw [Bool.and_eq_true, decide_eq_true_eq, decide_eq_true_eq, show IntKind.min .i64 = -9223372036854775808 by decide, show IntKind.max .i64 = 9223372036854775807 by decide] at h2
  exact h2
theorem u64_of {n : Int} (h : (Lit.int .u64 n).wf = true) : ∃ m : Nat, n = (m : Int) ∧ m < 18446744073709551616 := by
  have h2 : (decide (IntKind.min .u64 ≤ n) && decide (n ≤ IntKind.max .u64)) = true := h
  rw [Bool.and_eq_true, decide_eq_true_eq, decide_eq_true_eq, show IntKind.min .u64 = 0 by decide, show IntKind.max .u64 = 18446744073709551615 by decide] at h2
  exact ⟨n.toNat, by omega, by omega⟩
theorem wrap_u64 (n : Int) : IntKind.u64.wrap n = n % 18446744073709551616 := by simp [IntKind.wrap, IntKind.bits, IntKind.signed]
theorem wrap_u8 (n : Int) : IntKind.u8.wrap n = n % 256 := by simp [IntKind.wrap, IntKind.bits, IntKind.signed]
theorem wrap_i64 (n : Int) (h : Fit n) : IntKind.i64.wrap n = n := IntWalk.i64_in _ (by obtain ⟨a, b⟩ := h; omega)
def bv (c : UInt8) : Value := .int .u8 (c.toNat : Int)
theorem infoB : (Try.prog.info? 5).map (fun i => (i.zero, i.size, i.bytes)) = some (some (.int .u8 0), 1, 1) := by kernel_rfl
/-- a row of bytes of the call's own -/
def Own (B : Nat) (v : Value) (l : List UInt8) (w : World) : Prop := w.ownsRow B 5 1 v l.length (l.map bv)
theorem own_nil (B : Nat) (w : World) : Own B (.slice none 0 0) [] w := World.ownsRow_nil _ _ _ _
/-- what an append leaves -/
theorem own_next {B : Nat} {w0 w w1 : World} {v v' : Value} {l : List UInt8} {c : UInt8} {o : Obj} (h : Own B v l w) (hb : Below B w0 w) (hB : B ≤ w.heap.size)
    (h' : w1.ownsRow B 5 1 v' (l.length + 1) (l.map bv ++ [bv c])) (hg : (w.alloc o).grownBy w1 v.ownBlock) : Own B v' (l ++ [c]) w1 ∧ Below B w0 w1 :=
  ⟨by unfold Own; rw [List.length_append, List.map_append]; exact h', (hb.alloc hB o).grown hg (by simp; omega) (fun j hj => (h.lt j hj).1)⟩
theorem one_at (w : World) (c : Value) (t : TypeId) : ∀ j u, ([c] : List Value)[j]? = some u → (w.alloc (.cells #[c] t)).cell? ((⟨w.heap.size, 0, none⟩ : Addr).add j) = some u := by
  intro j u hj
  match j, hj with
  | 0, hj => simp at hj; subst hj; simp [Addr.add]
theorem one_cell (k : IntKind) (z : Int) : ∀ u ∈ ([.int k z] : List Value), u.oneCell' = true := by
  intro u hu; simp at hu; subst hu; rfl
theorem alloc_le {B : Nat} {w : World} (h : B ≤ w.heap.size) (o : Obj) : B ≤ (w.alloc o).heap.size := by simp; omega
/-- room for one more -/
def Room (n : Nat) : Prop := n + 1 ≤ maxLen ∧ (n + 1) * 1 ≤ 140737488355328
theorem room_of {n : Nat} (h : n ≤ 1000000000) : Room n := by unfold Room maxLen; omega
theorem own_row {B : Nat} {v : Value} {l : List UInt8} {w : World} (h : Own B v l w) (h0 : 0 < l.length) :
    ∃ g cap, v = .slice (some ⟨g, 0, none⟩) l.length cap ∧ B ≤ g ∧ g < w.heap.size ∧ ∀ j c, l[j]? = some c → w.cell? ⟨g, j, none⟩ = some (bv c) := by
  have h2 := h
  obtain ⟨_, ⟨_, h3⟩ | ⟨g, cap, cur, rfl, hb, hg, _⟩⟩ := h
  · omega
  · refine ⟨g, cap, rfl, hb, ?_, fun j c hj => ?_⟩
    · rcases Nat.lt_or_ge g w.heap.size with k | k
      · exact k
      · rw [Array.getElem?_eq_none k] at hg; cases hg
    · have hl : j < l.length := by
        rcases Nat.lt_or_ge j l.length with k | k
        · exact k
        · rw [List.getElem?_eq_none k] at hj; cases hj
      rw [World.ownsRow.cellAt h2 j (by omega), List.getElem?_map, hj]; rfl
/-- a row of bytes as a string -/
theorem own_str {B : Nat} {v : Value} {l : List UInt8} {w : World} (h : Own B v l w) (h0 : 0 < l.length) : (convert 68 9 v).run Try.prog w = .ok (.string (bs l)) w := by
  obtain ⟨g, cap, rfl, _, _, hc⟩ := own_row h h0
  exact run_convert_bytes_back w 68 9 5 ⟨g, 0, none⟩ cap l Try.underlying68 Try.underlying5 Try.underlying9 (fun j hj => by
    rw [show (⟨g, 0, none⟩ : Addr).add j = ⟨g, j, none⟩ by unfold Addr.add; split <;> simp_all]
    exact hc j l[j] (List.getElem?_eq_getElem hj))
end Go.Proofs.Ytnejobcbhddpoaa
