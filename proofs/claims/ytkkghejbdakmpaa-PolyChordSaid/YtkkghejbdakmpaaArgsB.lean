/- Arrays of two and of four ints as arguments, opened. -/
import Derived.Test.YtkkghejbdakmpaaArgs
import Derived.Laws.IdiomArrays
set_option linter.unusedVariables false
set_option linter.unusedSimpArgs false
namespace Go.Proofs.Ytkkghejbdakmpaa
open Go.ChangeShapes Go.WideShapes Go.ChangeAt Go.RowKit Go.Deep Pm

theorem trod_array2 {H : Type} {enc : TypeId × Value → H} {P : Program} {w : World} {base : Nat} {spare : Nat → Bool} {held : Bool} {t e : TypeId} {fuel : Nat} {c0 c1 : Value} {x : DataW H × List MemPlace} (ht : P.underlying t = some (.array 2 e)) (hce : P.cellsOf e = 1)
    (h : DataW.trod enc P w base spare held fuel t [c0, c1] = some x) :
    ∃ y0 y1 n, x = (.agg [y0.1, y1.1], y0.2 ++ y1.2) ∧ DataW.trod enc P w base spare held n e [c0] = some y0 ∧ DataW.trod enc P w base spare held n e [c1] = some y1 := by
  cases fuel with
  | zero => simp [DataW.trod] at h
  | succ n =>
    unfold DataW.trod at h
    rw [ht] at h
    have r2 : List.range 2 = [0, 1] := rfl
    simp [r2, hce] at h
    obtain ⟨_, h⟩ := h
    cases h0 : DataW.trod enc P w base spare held n e [c0] with
    | none => simp [h0] at h
    | some y0 =>
      cases h1 : DataW.trod enc P w base spare held n e [c1] with
      | none => simp [h0, h1] at h
      | some y1 =>
        simp [h0, h1] at h
        exact ⟨y0, y1, n, h.symm, h0, h1⟩
section
variable {H : Type} {enc : TypeId × Value → H} {W : World} {base : Nat} {v : Value} {d : DataW H} {ps : List MemPlace}
theorem cellsI1 : Try.prog.cellsOf 3 = 1 := by kernel_rfl
theorem list2 (l : List Value) (h : (⟨l⟩ : Array Value).size = 2) : ∃ a b, l = [a, b] := by
  match l, h with
  | [a, b], _ => exact ⟨a, b, rfl⟩
theorem list4 (l : List Value) (h : (⟨l⟩ : Array Value).size = 4) : ∃ a b c d, l = [a, b, c, d] := by
  match l, h with
  | [a, b, c, d], _ => exact ⟨a, b, c, d, rfl⟩
def Arg2 (W : World) (v : Value) : Prop := ∃ t0 t1 : Int, v = .agg #[.int .i64 t0, .int .i64 t1] ∧ Fit t0 ∧ Fit t1
theorem cells2 : Try.prog.cellsOf 46 = 2 := by kernel_rfl
theorem open_two (hval : Value.okWide Try.prog W .any base 46 v) (h : DataW.Trod enc Try.prog W 0 (fun _ => true) true 46 v d ps) : Arg2 W v := by
  obtain ⟨cs, rfl, hsz, _⟩ : ∃ cs, v = .agg cs ∧ cs.size = Try.prog.cellsOf 46 ∧ Row.okWide Try.prog W .any base 46 cs := by
    simpa [Value.okWide, Try.underlying46] using hval
  rw [cells2] at hsz
  obtain ⟨l⟩ := cs
  obtain ⟨c0, c1, rfl⟩ := list2 l hsz
  obtain ⟨fuel, hf⟩ := h
  obtain ⟨y0, y1, m, hx, hy0, hy1⟩ := trod_array2 Try.underlying46 cellsI1 hf
  obtain ⟨x0, e0, _, z0⟩ := DataW.trod_int Try.underlying3 hy0
  obtain ⟨x1, e1, _, z1⟩ := DataW.trod_int Try.underlying3 hy1
  simp at e0 e1
  subst e0 e1
  exact ⟨x0, x1, rfl, fit_i64 z0, fit_i64 z1⟩
def Arg4 (W : World) (v : Value) : Prop := ∃ t0 t1 t2 t3 : Int, v = .agg #[.int .i64 t0, .int .i64 t1, .int .i64 t2, .int .i64 t3] ∧ Fit t0 ∧ Fit t1 ∧ Fit t2 ∧ Fit t3
theorem cells4 : Try.prog.cellsOf 49 = 4 := by kernel_rfl
theorem open_four (hval : Value.okWide Try.prog W .any base 49 v) (h : DataW.Trod enc Try.prog W 0 (fun _ => true) true 49 v d ps) : Arg4 W v := by
  obtain ⟨cs, rfl, hsz, _⟩ : ∃ cs, v = .agg cs ∧ cs.size = Try.prog.cellsOf 49 ∧ Row.okWide Try.prog W .any base 49 cs := by
    simpa [Value.okWide, Try.underlying49] using hval
  rw [cells4] at hsz
  obtain ⟨l⟩ := cs
  obtain ⟨c0, c1, c2, c3, rfl⟩ := list4 l hsz
  obtain ⟨fuel, hf⟩ := h
  obtain ⟨y0, y1, y2, y3, m, hx, hy0, hy1, hy2, hy3⟩ := trod_array4 Try.underlying49 cellsI1 hf
  obtain ⟨x0, e0, _, z0⟩ := DataW.trod_int Try.underlying3 hy0
  obtain ⟨x1, e1, _, z1⟩ := DataW.trod_int Try.underlying3 hy1
  obtain ⟨x2, e2, _, z2⟩ := DataW.trod_int Try.underlying3 hy2
  obtain ⟨x3, e3, _, z3⟩ := DataW.trod_int Try.underlying3 hy3
  simp at e0 e1 e2 e3
  subst e0 e1 e2 e3
  exact ⟨x0, x1, x2, x3, rfl, fit_i64 z0, fit_i64 z1, fit_i64 z2, fit_i64 z3⟩
end
end Go.Proofs.Ytkkghejbdakmpaa
