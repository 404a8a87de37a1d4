/- The laws' arguments, opened; that they stay as they were. -/
import Derived.Test.YtnejobcbhddpoaaAwake
import Derived.OpenShut
import Derived.ShutString
import Derived.Carry
import Derived.ChangeOld
import Derived.Deep.Slices
import Derived.Deep.Fields
import Derived.ChangeSame
import Derived.Lib.SmallJoins
set_option linter.unusedVariables false
set_option linter.unusedSimpArgs false
namespace Go.Proofs.Ytnejobcbhddpoaa
open Go.ChangeShapes Go.WideShapes Go.ChangeAt Go.RowKit Go.Deep Go.Joins Wm

theorem laidOut : laidOutB Try.prog = true := by kernel_rfl
theorem stays {H : Type} {enc : TypeId × Value → H} {t : TypeId} {W W' : World} {v : Value} {d : DataW H} {ps : List MemPlace} (hr : Try.prog.readableRec t = true) (hrow : t < Try.prog.types.size)
    (h : DataW.Trod enc Try.prog W 0 (fun _ => true) true t v d ps) (hb : Below W.heap.size W W') : DataW.Trod enc Try.prog W' 0 (fun b => decide (b < W.heap.size)) true t v d ps :=
  Below.trod laidOut hr hrow h hb (fun x hx => by
    obtain ⟨n, hn⟩ := h
    exact DataW.trod_lt n _ _ _ hn x hx)
section
variable {H : Type} {enc : TypeId × Value → H} {W : World} {base : Nat} {v : Value} {d : DataW H} {ps : List MemPlace}
def ArgU (W : World) (v : Value) : Prop := ∃ n : Nat, v = .int .u64 n ∧ n < 18446744073709551616
def ArgI (W : World) (v : Value) : Prop := ∃ n : Int, v = .int .i64 n ∧ Fit n
def ArgS (W : World) (v : Value) : Prop := ∃ s : ByteArray, v = .string s ∧ s.size ≤ maxLen
def ArgL (W : World) (v : Value) : Prop := ∃ l : List Int, RdI W v l ∧ FitI l ∧ l.length ≤ maxLen
theorem open_u64 (hval : Value.okWide Try.prog W .any base 22 v) (h : DataW.Trod enc Try.prog W 0 (fun _ => true) true 22 v d ps) : ArgU W v := by
  obtain ⟨a, rfl, rfl, rfl, w⟩ := open_int Try.underlying22 hval h
  obtain ⟨m, rfl, hm⟩ := u64_of w
  exact ⟨m, rfl, hm⟩
theorem open_i64 (hval : Value.okWide Try.prog W .any base 3 v) (h : DataW.Trod enc Try.prog W 0 (fun _ => true) true 3 v d ps) : ArgI W v := by
  obtain ⟨a, rfl, rfl, rfl, w⟩ := open_int Try.underlying3 hval h
  exact ⟨a, rfl, fit_i64 w⟩
theorem open_str (hval : Value.okWide Try.prog W .any base 9 v) (h : DataW.Trod enc Try.prog W 0 (fun _ => true) true 9 v d ps) : ArgS W v := by
  obtain ⟨a, rfl, rfl, rfl, w⟩ := Go.ChangeMaps.open_string Try.underlying9 hval h
  exact ⟨a, rfl, w⟩
/-- the cells of a list of ints, read -/
theorem trod_list {fuel : Nat} {x : DataW H × List MemPlace} (h : DataW.trod enc Try.prog W 0 (fun _ => true) true fuel 27 [v] = some x) : ArgL W v := by
  rcases Go.Deep.open_slice1 Try.underlying27 (by kernel_rfl) h with ⟨h1, _⟩ | ⟨a, len, cap, m, n, V, D, Pl, hcs, hb, hl, hm, hmm, _, hc⟩
  · have e : v = .slice none 0 0 := by simpa using h1
    rw [e]
    exact ⟨[], RdI.nil W, fun z hz => (List.not_mem_nil hz).elim, Nat.zero_le _⟩
  · have e : v = .slice (some a) len cap := by simpa using hcs
    subst e
    have hlm : len ≤ m := by rw [hmm]; split <;> omega
    have hv : ∀ i, i < m → ∃ x : Int, V i = .int .i64 x ∧ Fit x := fun i hi => by
      obtain ⟨x, e0, _, z0⟩ := DataW.trod_int Try.underlying3 (hc i hi).2
      simp at e0
      exact ⟨x, e0, fit_i64 z0⟩
    refine ⟨(List.range len).map fun i => intOf (V i), ⟨some a, cap, by simp, by simpa using hl, fun h0 => ?_⟩, fun z hz => ?_, by simp; omega⟩
    · have h0' : 0 < len := by simpa using h0
      have hsp := World.cell?_spot (hc 0 (by omega)).1
      obtain ⟨b, off, spot⟩ := a
      have hs2 : spot = none := by simpa [Addr.add] using hsp
      subst hs2
      refine ⟨b, off, rfl, ?_, fun i z hz => ?_⟩
      · have c0 := (hc 0 (by omega)).1
        rcases Nat.lt_or_ge b W.heap.size with k | k
        · exact k
        · exfalso
          have h8 : W.heap[b]? = none := Array.getElem?_eq_none k
          simp [World.cell?, Addr.add, h8] at c0
      · rw [List.getElem?_map] at hz
        have hi : i < len := by
          rcases Nat.lt_or_ge i len with k | k
          · exact k
          · rw [List.getElem?_eq_none (by simpa using k)] at hz; cases hz
        rw [List.getElem?_range hi] at hz
        simp at hz
        subst hz
        obtain ⟨x, ex, _⟩ := hv i (by omega)
        have c0 := (hc i (by omega)).1
        rw [show (⟨b, off, none⟩ : Addr).add i = ⟨b, off + i, none⟩ by simp [Addr.add], ex] at c0
        rw [ex]
        exact c0
    · obtain ⟨i, hi, rfl⟩ := List.mem_map.1 hz
      obtain ⟨x, ex, fx⟩ := hv i (by have := List.mem_range.1 hi; omega)
      rw [ex]
      exact fx
theorem open_list (hval : Value.okWide Try.prog W .any base 27 v) (h : DataW.Trod enc Try.prog W 0 (fun _ => true) true 27 v d ps) : ArgL W v := by
  obtain ⟨a0, len, cap, rfl⟩ := okWide_slice Try.underlying27 hval
  obtain ⟨fuel, hf⟩ := h
  exact trod_list hf
/-- a read -/
structure OpT where
  k : Nat
  lo : Int
  hi : Int
  most : Int
def OpT.ok (o : OpT) : Prop := o.k < 256 ∧ Fit o.lo ∧ Fit o.hi ∧ Fit o.most
def OpT.vl (o : OpT) : Value := ov o.k o.lo o.hi o.most
def ArgO (W : World) (v : Value) : Prop := ∃ o : OpT, v = o.vl ∧ o.ok
theorem u8_of {n : Int} (h : (Lit.int .u8 n).wf = true) : ∃ m : Nat, n = (m : Int) ∧ m < 256 := by
  have h2 : (decide (IntKind.min .u8 ≤ n) && decide (n ≤ IntKind.max .u8)) = true := h
  rw [Bool.and_eq_true, decide_eq_true_eq, decide_eq_true_eq, show IntKind.min .u8 = 0 by decide, show IntKind.max .u8 = 255 by decide] at h2
  exact ⟨n.toNat, by omega, by omega⟩
theorem open_op (hval : Value.okWide Try.prog W .any base 39 v) (h : DataW.Trod enc Try.prog W 0 (fun _ => true) true 39 v d ps) : ArgO W v := by
  obtain ⟨v0, v1, v2, v3, y0, y1, y2, y3, n, rfl, _, _, t0, t1, t2, t3⟩ := open_agg4 Try.underlying39 (by kernel_rfl) (by kernel_rfl) hval h
  obtain ⟨x0, e0, _, z0⟩ := DataW.trod_int Try.underlying5 t0
  obtain ⟨x1, e1, _, z1⟩ := DataW.trod_int Try.underlying3 t1
  obtain ⟨x2, e2, _, z2⟩ := DataW.trod_int Try.underlying3 t2
  obtain ⟨x3, e3, _, z3⟩ := DataW.trod_int Try.underlying3 t3
  simp at e0 e1 e2 e3
  subst e0 e1 e2 e3
  obtain ⟨k, rfl, hk⟩ := u8_of z0
  exact ⟨⟨k, x1, x2, x3⟩, rfl, hk, fit_i64 z1, fit_i64 z2, fit_i64 z3⟩
end
end Go.Proofs.Ytnejobcbhddpoaa
