/- A slice of spans that came in, opened; and the few words that every law of the chapter wants. -/
import Derived.Test.YtnbpkbdkhegheaaTotal
import Derived.Test.YtnbpkbdkhegheaaConcat
import Derived.Deep.SlicePairs
import Derived.OpenShut
import Derived.Carry
import Derived.ChangeOld
set_option linter.unusedVariables false
set_option linter.unusedSimpArgs false
namespace Go.Proofs.Ytnbpkbdkhegheaa
open Go.ChangeShapes Go.WideShapes Go.ChangeAt Go.RowKit Sm

/-- the examples hold -/
def Awk : Prop := Hid (∀ w, Calls Try.prog 15 #[] w fun e w' => e = .returned (.bool true) ∧ Q w w')
theorem laidOut : laidOutB Try.prog = true := by kernel_rfl
theorem fit_i64 {n : Int} (h : (Lit.int .i64 n).wf = true) : Fit n := by
  have h2 : (decide (IntKind.min .i64 ≤ n) && decide (n ≤ IntKind.max .i64)) = true := h
  rw [Bool.and_eq_true, decide_eq_true_eq, decide_eq_true_eq, show IntKind.min .i64 = -9223372036854775808 by decide, show IntKind.max .i64 = 9223372036854775807 by decide] at h2
  exact h2
theorem open_spans {H : Type} {enc : TypeId × Value → H} {W : World} {base : Nat} {v : Value} {d : DataW H} {ps : List MemPlace} (hval : Value.okWide Try.prog W .any base 28 v)
    (h : DataW.Trod enc Try.prog W 0 (fun _ => true) true 28 v d ps) : ∃ l : List S, Rd W v l ∧ Nn v ∧ FitL l ∧ l.length ≤ maxLen := by
  obtain ⟨a0, len, cap, rfl⟩ := okWide_slice Try.underlying28 hval
  obtain ⟨fuel, hf⟩ := h
  rcases Go.Deep.open_slice_pairs Try.underlying28 Try.underlying23 (by kernel_rfl) rfl rfl (by kernel_rfl) (by kernel_rfl) hf with ⟨h1, h2⟩ | ⟨a, len', cap', m, n, V0, V1, D0, D1, P0, P1, hcs, hb, hl, hm, hmm, hx, hc⟩
  · have e : (Value.slice a0 len cap) = .slice none 0 0 := by simpa [Value.cells] using h1
    rw [e]
    exact ⟨[], Rd.nil W, fun n c h => (by injection h with _ _ h; exact h.symm), fun s hs => (List.not_mem_nil hs).elim, Nat.zero_le _⟩
  · have e : (Value.slice a0 len cap) = .slice (some a) len' cap' := by simpa [Value.cells] using hcs
    injection e with e1 e2 e3
    subst e1 e2 e3
    have hlm : len ≤ m := by rw [hmm]; split <;> omega
    have hv : ∀ i, i < m → ∃ x y : Int, V0 i = .int .i64 x ∧ V1 i = .int .i64 y ∧ Fit x ∧ Fit y := fun i hi => by
      obtain ⟨_, _, t0, t1⟩ := hc i hi
      obtain ⟨x, e0, _, z0⟩ := DataW.trod_int Try.underlying3 t0
      obtain ⟨y, e1, _, z1⟩ := DataW.trod_int Try.underlying3 t1
      simp at e0 e1
      exact ⟨x, y, e0, e1, fit_i64 z0, fit_i64 z1⟩
    refine ⟨(List.range len).map fun i => (intOf (V0 i), intOf (V1 i)), ⟨some a, cap, by simp, by simpa using hl, fun h0 => ?_⟩, fun n c h => (by injection h with h; cases h), fun s hs => ?_, by simp; omega⟩
    · have h0' : 0 < len := by simpa using h0
      have hsp := World.cell?_spot (hc 0 (by omega)).1
      obtain ⟨b, off, spot⟩ := a
      have hs2 : spot = none := by simpa [Addr.add] using hsp
      subst hs2
      refine ⟨b, off, rfl, ?_, fun i s hs => ?_⟩
      · have h9 := World.cells?_block (w := W) (base := 0) (a := ⟨b, off, none⟩) (n := 1) (cs := [V0 0])
        have c0 := (hc 0 (by omega)).1
        rcases Nat.lt_or_ge b W.heap.size with k | k
        · exact k
        · exfalso
          have h8 : W.heap[b]? = none := Array.getElem?_eq_none k
          simp [World.cell?, Addr.add, h8] at c0
      · rw [List.getElem?_map] at hs
        have hi : i < len := by
          rcases Nat.lt_or_ge i len with k | k
          · exact k
          · rw [List.getElem?_eq_none (by simpa using k)] at hs; cases hs
        rw [List.getElem?_range hi] at hs
        simp at hs
        subst hs
        obtain ⟨x, y, ex, ey, _, _⟩ := hv i (by omega)
        obtain ⟨c0, c1, _, _⟩ := hc i (by omega)
        rw [show (⟨b, off, none⟩ : Addr).add (i * 2) = ⟨b, off + i * 2, none⟩ by simp [Addr.add], ex] at c0
        rw [show (⟨b, off, none⟩ : Addr).add (i * 2 + 1) = ⟨b, off + i * 2 + 1, none⟩ by simp [Addr.add, Nat.add_assoc], ey] at c1
        rw [ex, ey]
        exact ⟨c0, c1⟩
    · obtain ⟨i, hi, rfl⟩ := List.mem_map.1 hs
      obtain ⟨x, y, ex, ey, fx, fy⟩ := hv i (by have := List.mem_range.1 hi; omega)
      rw [ex, ey]
      exact ⟨fx, fy⟩
theorem span_stays {H : Type} {enc : TypeId × Value → H} {W W' : World} {v : Value} {d : DataW H} {ps : List MemPlace}
    (h : DataW.Trod enc Try.prog W 0 (fun _ => true) true 28 v d ps) (hb : Below W.heap.size W W') : DataW.Trod enc Try.prog W' 0 (fun b => decide (b < W.heap.size)) true 28 v d ps := by
  have hlt : ∀ x ∈ ps, x.block < W.heap.size := fun x hx => by
    obtain ⟨n, hn⟩ := h
    exact DataW.trod_lt n _ _ _ hn x hx
  exact Below.trod laidOut (by kernel_rfl) (of_decide_eq_true (by kernel_rfl)) h hb hlt
theorem few_c (v : Value) (l : List S) (w : World) (b : Bool) (hr : Rd w v l) (hl : l.length ≤ maxLen) (h : Hid (decide (l.length ≤ 40) = b)) : Calls Try.prog 16 #[v] w fun e w' => e = .returned (.bool b) ∧ w = w' := by
  obtain ⟨A, c, rfl, _⟩ := hr
  unfold maxLen at hl
  go_enter Try.func16, Try.ntmps16
  go_wp2
  go_ret
  exact ⟨ret_bool (by rw [← h.out]; simp; omega), rfl⟩
end Go.Proofs.Ytnbpkbdkhegheaa
