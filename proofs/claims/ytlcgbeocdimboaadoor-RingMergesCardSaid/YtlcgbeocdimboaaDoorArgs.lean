/- The laws' arguments, opened; that they stay as they were. -/
import Derived.Test.YtlcgbeocdimboaaDoorLaid
import Derived.OpenShut
import Derived.ShutString
import Derived.Carry
import Derived.ChangeOld
import Derived.Deep.Slices
import Derived.Deep.Fields
import Derived.ChangeSame
import Derived.ChangeArms
import Derived.Lib.SmallJoins
import Derived.Laws.IdiomArrays
set_option linter.unusedVariables false
set_option linter.unusedSimpArgs false
namespace Go.Proofs.YtlcgbeocdimboaaDoor
open Go.ChangeShapes Go.WideShapes Go.ChangeAt Go.RowKit Go.Deep Go.Joins Pm

theorem trod_array2 {H : Type} {enc : TypeId × Value → H} {P : Program} {w : World} {base : Nat} {spare : Nat → Bool} {held : Bool} {t e : TypeId} {fuel : Nat} {c0 c1 : Value} {x : DataW H × List MemPlace} (ht : P.underlying t = some (.array 2 e)) (hce : P.cellsOf e = 1)
    (h : DataW.trod enc P w base spare held fuel t [c0, c1] = some x) :
    ∃ y0 y1 n, x = (.agg [y0.1, y1.1], y0.2 ++ y1.2) ∧ DataW.trod enc P w base spare held n e [c0] = some y0 ∧ DataW.trod enc P w base spare held n e [c1] = some y1 := by
  cases fuel with
  | zero => simp [DataW.trod] at h
  | succ n =>
    unfold DataW.trod at h
    rw [ht] at h
    have r2 : List.range 2 = [0, 1] := rfl
    simp [r2, hce] at h
    obtain ⟨_, h⟩ := h
    cases h0 : DataW.trod enc P w base spare held n e [c0] with
    | none => simp [h0] at h
    | some y0 =>
      cases h1 : DataW.trod enc P w base spare held n e [c1] with
      | none => simp [h0, h1] at h
      | some y1 =>
        simp [h0, h1] at h
        exact ⟨y0, y1, n, h.symm, h0, h1⟩
theorem laidOut : laidOutB Tryd.prog = true := by kernel_rfl
theorem stays {H : Type} {enc : TypeId × Value → H} {t : TypeId} {W W' : World} {v : Value} {d : DataW H} {ps : List MemPlace} (hr : Tryd.prog.readableRec t = true) (hrow : t < Tryd.prog.types.size)
    (h : DataW.Trod enc Tryd.prog W 0 (fun _ => true) true t v d ps) (hb : Below W.heap.size W W') : DataW.Trod enc Tryd.prog W' 0 (fun b => decide (b < W.heap.size)) true t v d ps :=
  Below.trod laidOut hr hrow h hb (fun x hx => by
    obtain ⟨n, hn⟩ := h
    exact DataW.trod_lt n _ _ _ hn x hx)
section
variable {H : Type} {enc : TypeId × Value → H} {W : World} {base : Nat} {v : Value} {d : DataW H} {ps : List MemPlace}
theorem open_rdG {α : Type} {t e : TypeId} {sz : Nat} {f : α → List Value} {ok : α → Prop} {fuel : Nat} {x : DataW H × List MemPlace} (ht : Tryd.prog.underlying t = some (.slice e)) (hsz : Tryd.prog.cellsOf e = sz) (h0 : 0 < sz)
    (he : ∀ fuel cs x, cs.length = sz → DataW.trod enc Tryd.prog W 0 (fun _ => true) true fuel e cs = some x → ∃ a, cs = f a ∧ ok a)
    (h : DataW.trod enc Tryd.prog W 0 (fun _ => true) true fuel t [v] = some x) : ∃ l : List α, RdG sz f W v l ∧ (∀ a ∈ l, ok a) ∧ l.length ≤ maxLen ∧ Nn v := by
  rcases Go.Deep.open_slice ht h with ⟨h1, _⟩ | ⟨a, len, cap, m, n, D, Pl, hcs, hb, hl, hm, hmm, _, hc⟩
  · have e : v = .slice none 0 0 := by simpa using h1
    rw [e]
    exact ⟨[], RdG.nil _ _ _, fun a ha => (List.not_mem_nil ha).elim, Nat.zero_le _, fun n c e => by injection e with _ _ e3; exact e3.symm⟩
  · have e1 : v = .slice (some a) len cap := by simpa using hcs
    subst e1
    have hlm : len ≤ m := by rw [hmm]; split <;> omega
    have each : ∀ i, i < len → ∃ y : α, ok y ∧ (f y).length = sz ∧ ∀ j u, (f y)[j]? = some u → W.cell? (a.add (i * sz + j)) = some u := fun i hi => by
      obtain ⟨cs', c1, c2⟩ := hc i (by omega)
      rw [hsz] at c1
      obtain ⟨_, c3, c4⟩ := World.cells?_some c1
      obtain ⟨y, rfl, hy⟩ := he _ _ _ c3 c2
      refine ⟨y, hy, c3, fun j u hj => ?_⟩
      have hjl : j < sz := by
        rcases Nat.lt_or_ge j sz with k | k
        · exact k
        · rw [List.getElem?_eq_none (by omega)] at hj; cases hj
      have := c4 j hjl
      rw [Go.Deep.add_add] at this
      rw [this, hj]
    have all : ∀ k, k ≤ len → ∃ l : List α, l.length = k ∧ ∀ i y, l[i]? = some y → ok y ∧ (f y).length = sz ∧ ∀ j u, (f y)[j]? = some u → W.cell? (a.add (i * sz + j)) = some u := by
      intro k
      induction k with
      | zero => intro _; exact ⟨[], rfl, fun i y h => by simp at h⟩
      | succ k ih =>
        intro hk
        obtain ⟨l, hl1, hl2⟩ := ih (by omega)
        obtain ⟨y, hy⟩ := each k (by omega)
        refine ⟨l ++ [y], by simp [hl1], fun i z hz => ?_⟩
        by_cases g : i < l.length
        · rw [List.getElem?_append_left g] at hz; exact hl2 i z hz
        · by_cases g2 : i = l.length
          · subst g2
            rw [List.getElem?_append_right (Nat.le_refl _), Nat.sub_self] at hz
            simp at hz
            subst hz
            rw [hl1]; exact hy
          · rw [List.getElem?_eq_none (by simp; omega)] at hz; cases hz
    obtain ⟨l, hl1, hl2⟩ := all len (Nat.le_refl _)
    refine ⟨l, ⟨some a, cap, by rw [hl1], by rw [hl1]; exact hl, fun h9 => ?_⟩, fun y hy => ?_, by omega, fun n c e => by injection e with e1; cases e1⟩
    · obtain ⟨_, hz2, hz3⟩ := hl2 0 l[0] (List.getElem?_eq_getElem h9)
      have hu : (f l[0])[0]? = some ((f l[0])[0]'(by omega)) := List.getElem?_eq_getElem (by omega)
      have c0 := hz3 0 _ hu
      have hsp := World.cell?_spot c0
      obtain ⟨b, off, spot⟩ := a
      have hs2 : spot = none := by simpa [Addr.add] using hsp
      subst hs2
      refine ⟨b, off, rfl, ?_, fun i y hy j u hj => ?_⟩
      · rcases Nat.lt_or_ge b W.heap.size with k | k
        · exact k
        · exfalso
          have h8 : W.heap[b]? = none := Array.getElem?_eq_none k
          simp [World.cell?, Addr.add, h8] at c0
      · have := (hl2 i y hy).2.2 j u hj
        rw [show (⟨b, off, none⟩ : Addr).add (i * sz + j) = ⟨b, off + i * sz + j, none⟩ by simp [Addr.add, Nat.add_assoc]] at this
        exact this
    · obtain ⟨i, hi⟩ := List.getElem?_of_mem hy
      exact (hl2 i y hi).1

def ArgI (W : World) (v : Value) : Prop := ∃ n : Int, v = .int .i64 n ∧ Fit n
theorem open_i64 (hval : Value.okWide Tryd.prog W .any base 3 v) (h : DataW.Trod enc Tryd.prog W 0 (fun _ => true) true 3 v d ps) : ArgI W v := by
  obtain ⟨a, rfl, rfl, rfl, w⟩ := open_int Tryd.underlying3 hval h
  exact ⟨a, rfl, fit_i64 w⟩
theorem trod_pt {fuel : Nat} {cs : List Value} {x : DataW H × List MemPlace} (hl : cs.length = 2) (h : DataW.trod enc Tryd.prog W 0 (fun _ => true) true fuel 38 cs = some x) : ∃ o : P, cs = pc o ∧ (Fit o.1 ∧ Fit o.2) := by
  match cs, hl with
  | [c0, c1], _ =>
    obtain ⟨xs, n, _, _, _, hxl, hf⟩ := DataW.trod_struct Tryd.underlying38 h
    match xs, hxl with
    | [y0, y1], _ =>
      obtain ⟨x0, e0, _, f0⟩ := DataW.trod_int Tryd.underlying3 (hf 0 _ rfl)
      obtain ⟨x1, e1, _, f1⟩ := DataW.trod_int Tryd.underlying3 (hf 1 _ rfl)
      have e0' : [c0] = [Value.int .i64 x0] := e0
      have e1' : [c1] = [Value.int .i64 x1] := e1
      simp only [List.cons.injEq, and_true] at e0' e1'
      subst e0' e1'
      exact ⟨(x0, x1), rfl, fit_i64 f0, fit_i64 f1⟩
theorem trod_rd {fuel : Nat} {cs : List Value} {x : DataW H × List MemPlace} (hl : cs.length = 3) (h : DataW.trod enc Tryd.prog W 0 (fun _ => true) true fuel 44 cs = some x) : ∃ o : RD, cs = rc o ∧ True := by
  match cs, hl with
  | [c0, c1, c2], _ =>
    obtain ⟨xs, n, _, _, _, hxl, hf⟩ := DataW.trod_struct Tryd.underlying44 h
    match xs, hxl with
    | [y0, y1], _ =>
      have e0 : DataW.trod enc Tryd.prog W 0 (fun _ => true) true n 38 [c0, c1] = some y0 := hf 0 _ rfl
      obtain ⟨q, hq, _⟩ := trod_pt rfl e0
      obtain ⟨x1, e1, _⟩ := DataW.trod_bool Tryd.underlying4 (hf 1 _ rfl)
      have e1' : [c2] = [Value.bool x1] := e1
      unfold pc at hq
      simp only [List.cons.injEq, and_true] at hq e1'
      obtain ⟨rfl, rfl⟩ := hq
      subst e1'
      exact ⟨⟨q.1, q.2, x1⟩, rfl, trivial⟩
def ArgR (W : World) (v : Value) : Prop := ∃ (z : Int) (s : Value) (l : List RD), v = .agg #[.int .i64 z, s] ∧ RdR W s l ∧ Nn s ∧ l.length ≤ maxLen
theorem open_ring (hval : Value.okWide Tryd.prog W .any base 24 v) (h : DataW.Trod enc Tryd.prog W 0 (fun _ => true) true 24 v d ps) : ArgR W v := by
  obtain ⟨v0, v1, y0, y1, n, rfl, _, _, t0, t1⟩ := open_agg2 Tryd.underlying24 (by kernel_rfl) (by kernel_rfl) hval h
  obtain ⟨x0, e0, _, _⟩ := DataW.trod_int Tryd.underlying3 t0
  have e0' : [v0] = [Value.int .i64 x0] := e0
  simp only [List.cons.injEq, and_true] at e0'
  subst e0'
  obtain ⟨l, h1, _, h2, h3⟩ := open_rdG (f := rc) (ok := fun _ => True) Tryd.underlying22 (by kernel_rfl) (by decide) (fun _ _ _ hl h => trod_rd hl h) t1
  exact ⟨x0, v1, l, rfl, h1, h3, h2⟩
theorem cellsI1 : Tryd.prog.cellsOf 3 = 1 := by kernel_rfl
theorem list2 (l : List Value) (h : (⟨l⟩ : Array Value).size = 2) : ∃ a b, l = [a, b] := by
  match l, h with
  | [a, b], _ => exact ⟨a, b, rfl⟩
def Arg2 (W : World) (v : Value) : Prop := ∃ t0 t1 : Int, v = .agg #[.int .i64 t0, .int .i64 t1] ∧ Fit t0 ∧ Fit t1
theorem cells2 : Tryd.prog.cellsOf 42 = 2 := by kernel_rfl
theorem open_two (hval : Value.okWide Tryd.prog W .any base 42 v) (h : DataW.Trod enc Tryd.prog W 0 (fun _ => true) true 42 v d ps) : Arg2 W v := by
  obtain ⟨cs, rfl, hsz, _⟩ : ∃ cs, v = .agg cs ∧ cs.size = Tryd.prog.cellsOf 42 ∧ Row.okWide Tryd.prog W .any base 42 cs := by
    simpa [Value.okWide, Tryd.underlying42] using hval
  rw [cells2] at hsz
  obtain ⟨l⟩ := cs
  obtain ⟨c0, c1, rfl⟩ := list2 l hsz
  obtain ⟨fuel, hf⟩ := h
  obtain ⟨y0, y1, m, hx, hy0, hy1⟩ := trod_array2 Tryd.underlying42 cellsI1 hf
  obtain ⟨x0, e0, _, z0⟩ := DataW.trod_int Tryd.underlying3 hy0
  obtain ⟨x1, e1, _, z1⟩ := DataW.trod_int Tryd.underlying3 hy1
  simp at e0 e1
  subst e0 e1
  exact ⟨x0, x1, rfl, fit_i64 z0, fit_i64 z1⟩
end
end Go.Proofs.YtlcgbeocdimboaaDoor
