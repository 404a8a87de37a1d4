/- Slices of structs that came in, opened: any element. -/
import Derived.Test.YtnejobcbhddpoaaArg
set_option linter.unusedVariables false
set_option linter.unusedSimpArgs false
namespace Go.Proofs.Ytnejobcbhddpoaa
open Go.ChangeShapes Go.WideShapes Go.ChangeAt Go.RowKit Go.Deep Go.Joins Wm

/-- a slice that reads as a list of elements of sz cells each, f says which -/
def RdG {α : Type} (sz : Nat) (f : α → List Value) (w : World) (v : Value) (l : List α) : Prop := ∃ A c, v = .slice A l.length c ∧ l.length ≤ c ∧ (0 < l.length → ∃ b off, A = some ⟨b, off, none⟩ ∧ b < w.heap.size ∧ ∀ i x, l[i]? = some x → ∀ j u, (f x)[j]? = some u → w.cell? ⟨b, off + i * sz + j, none⟩ = some u)
theorem RdG.nil {α : Type} (sz : Nat) (f : α → List Value) (w : World) : RdG sz f w (.slice none 0 0) [] := ⟨none, 0, rfl, Nat.le_refl _, fun h => absurd h (Nat.lt_irrefl 0)⟩
section
variable {H : Type} {enc : TypeId × Value → H} {W : World} {base : Nat} {v : Value} {d : DataW H} {ps : List MemPlace}
theorem open_rdG {α : Type} {t e : TypeId} {sz : Nat} {f : α → List Value} {ok : α → Prop} {fuel : Nat} {x : DataW H × List MemPlace} (ht : Try.prog.underlying t = some (.slice e)) (hsz : Try.prog.cellsOf e = sz) (h0 : 0 < sz)
    (he : ∀ fuel cs x, cs.length = sz → DataW.trod enc Try.prog W 0 (fun _ => true) true fuel e cs = some x → ∃ a, cs = f a ∧ ok a)
    (h : DataW.trod enc Try.prog W 0 (fun _ => true) true fuel t [v] = some x) : ∃ l : List α, RdG sz f W v l ∧ (∀ a ∈ l, ok a) ∧ l.length ≤ maxLen := by
  rcases Go.Deep.open_slice ht h with ⟨h1, _⟩ | ⟨a, len, cap, m, n, D, Pl, hcs, hb, hl, hm, hmm, _, hc⟩
  · have e : v = .slice none 0 0 := by simpa using h1
    rw [e]
    exact ⟨[], RdG.nil _ _ _, fun a ha => (List.not_mem_nil ha).elim, Nat.zero_le _⟩
  · have e1 : v = .slice (some a) len cap := by simpa using hcs
    subst e1
    have hlm : len ≤ m := by rw [hmm]; split <;> omega
    have each : ∀ i, i < len → ∃ y : α, ok y ∧ (f y).length = sz ∧ ∀ j u, (f y)[j]? = some u → W.cell? (a.add (i * sz + j)) = some u := fun i hi => by
      obtain ⟨cs', c1, c2⟩ := hc i (by omega)
      rw [hsz] at c1
      obtain ⟨_, c3, c4⟩ := World.cells?_some c1
      obtain ⟨y, rfl, hy⟩ := he _ _ _ c3 c2
      refine ⟨y, hy, c3, fun j u hj => ?_⟩
      have hjl : j < sz := by
        rcases Nat.lt_or_ge j sz with k | k
        · exact k
        · rw [List.getElem?_eq_none (by omega)] at hj; cases hj
      have := c4 j hjl
      rw [Go.Deep.add_add] at this
      rw [this, hj]
    have all : ∀ k, k ≤ len → ∃ l : List α, l.length = k ∧ ∀ i y, l[i]? = some y → ok y ∧ (f y).length = sz ∧ ∀ j u, (f y)[j]? = some u → W.cell? (a.add (i * sz + j)) = some u := by
      intro k
      induction k with
      | zero => intro _; exact ⟨[], rfl, fun i y h => by simp at h⟩
      | succ k ih =>
        intro hk
        obtain ⟨l, hl1, hl2⟩ := ih (by omega)
        obtain ⟨y, hy⟩ := each k (by omega)
        refine ⟨l ++ [y], by simp [hl1], fun i z hz => ?_⟩
        by_cases g : i < l.length
        · rw [List.getElem?_append_left g] at hz; exact hl2 i z hz
        · by_cases g2 : i = l.length
          · subst g2
            rw [List.getElem?_append_right (Nat.le_refl _), Nat.sub_self] at hz
            simp at hz
            subst hz
            rw [hl1]; exact hy
          · rw [List.getElem?_eq_none (by simp; omega)] at hz; cases hz
    obtain ⟨l, hl1, hl2⟩ := all len (Nat.le_refl _)
    refine ⟨l, ⟨some a, cap, by rw [hl1], by rw [hl1]; exact hl, fun h9 => ?_⟩, fun y hy => ?_, by omega⟩
    · obtain ⟨_, hz2, hz3⟩ := hl2 0 l[0] (List.getElem?_eq_getElem h9)
      have hu : (f l[0])[0]? = some ((f l[0])[0]'(by omega)) := List.getElem?_eq_getElem (by omega)
      have c0 := hz3 0 _ hu
      have hsp := World.cell?_spot c0
      obtain ⟨b, off, spot⟩ := a
      have hs2 : spot = none := by simpa [Addr.add] using hsp
      subst hs2
      refine ⟨b, off, rfl, ?_, fun i y hy j u hj => ?_⟩
      · rcases Nat.lt_or_ge b W.heap.size with k | k
        · exact k
        · exfalso
          have h8 : W.heap[b]? = none := Array.getElem?_eq_none k
          simp [World.cell?, Addr.add, h8] at c0
      · have := (hl2 i y hy).2.2 j u hj
        rw [show (⟨b, off, none⟩ : Addr).add (i * sz + j) = ⟨b, off + i * sz + j, none⟩ by simp [Addr.add, Nat.add_assoc]] at this
        exact this
    · obtain ⟨i, hi⟩ := List.getElem?_of_mem hy
      exact (hl2 i y hi).1
theorem RdG.q {α : Type} {sz : Nat} {f : α → List Value} {w w' : World} {v : Value} {l : List α} (h : RdG sz f w v l) (hq : Below w.heap.size w w') : RdG sz f w' v l := by
  obtain ⟨A, c, h1, h2, h3⟩ := h
  refine ⟨A, c, h1, h2, fun h0 => ?_⟩
  obtain ⟨b, off, e, hb, hc⟩ := h3 h0
  exact ⟨b, off, e, Nat.lt_of_lt_of_le hb hq.size, fun i x hx j u hu => (hq.cell (p := ⟨b, off + i * sz + j, none⟩) hb).trans (hc i x hx j u hu)⟩
/-- reads -/
def oc (o : OpT) : List Value := [.int .u8 o.k, .int .i64 o.lo, .int .i64 o.hi, .int .i64 o.most]
def RdO (w : World) (v : Value) (l : List OpT) : Prop := RdG 4 oc w v l
def ArgOs (W : World) (v : Value) : Prop := ∃ l : List OpT, RdO W v l ∧ (∀ o ∈ l, o.ok) ∧ l.length ≤ maxLen
theorem trod_op {fuel : Nat} {cs : List Value} {x : DataW H × List MemPlace} (hl : cs.length = 4) (h : DataW.trod enc Try.prog W 0 (fun _ => true) true fuel 39 cs = some x) : ∃ o : OpT, cs = oc o ∧ o.ok := by
  match cs, hl with
  | [c0, c1, c2, c3], _ =>
    obtain ⟨xs, n, _, _, _, hxl, hf⟩ := DataW.trod_struct Try.underlying39 h
    match xs, hxl with
    | [y0, y1, y2, y3], _ =>
      obtain ⟨x0, e0, _, z0⟩ := DataW.trod_int Try.underlying5 (hf 0 _ rfl)
      obtain ⟨x1, e1, _, z1⟩ := DataW.trod_int Try.underlying3 (hf 1 _ rfl)
      obtain ⟨x2, e2, _, z2⟩ := DataW.trod_int Try.underlying3 (hf 2 _ rfl)
      obtain ⟨x3, e3, _, z3⟩ := DataW.trod_int Try.underlying3 (hf 3 _ rfl)
      have e0' : [c0] = [Value.int .u8 x0] := e0
      have e1' : [c1] = [Value.int .i64 x1] := e1
      have e2' : [c2] = [Value.int .i64 x2] := e2
      have e3' : [c3] = [Value.int .i64 x3] := e3
      simp only [List.cons.injEq, and_true] at e0' e1' e2' e3'
      subst e0' e1' e2' e3'
      obtain ⟨k, rfl, hk⟩ := u8_of z0
      exact ⟨⟨k, x1, x2, x3⟩, rfl, hk, fit_i64 z1, fit_i64 z2, fit_i64 z3⟩
theorem open_ops (hval : Value.okWide Try.prog W .any base 31 v) (h : DataW.Trod enc Try.prog W 0 (fun _ => true) true 31 v d ps) : ArgOs W v := by
  obtain ⟨a0, len, cap, rfl⟩ := okWide_slice Try.underlying31 hval
  obtain ⟨fuel, hf⟩ := h
  exact open_rdG Try.underlying31 (by kernel_rfl) (by decide) (fun _ _ _ hl h => trod_op hl h) hf
/-- an element of a list of reads, in a later world -/
theorem RdO.at {w w' : World} {A : Option Addr} {n c : Nat} {l : List OpT} (h : RdO w (.slice A n c) l) (hq : Below w.heap.size w w') {i : Nat} (hi : i < l.length) : ∃ b off, A = some ⟨b, off, none⟩ ∧ b < w.heap.size ∧ l.length ≤ c ∧ n = l.length ∧
    w'.cell? ⟨b, off + i * 4, none⟩ = some (.int .u8 l[i].k) ∧ w'.cell? ⟨b, off + i * 4 + 1, none⟩ = some (.int .i64 l[i].lo) ∧ w'.cell? ⟨b, off + i * 4 + 2, none⟩ = some (.int .i64 l[i].hi) ∧ w'.cell? ⟨b, off + i * 4 + 3, none⟩ = some (.int .i64 l[i].most) := by
  obtain ⟨A', c', h1, h2, h3⟩ := h
  injection h1 with e1 e2 e3
  subst e1 e2 e3
  obtain ⟨b, off, e, hb, hc⟩ := h3 (by omega)
  have g := fun j u (hu : (oc l[i])[j]? = some u) => (hq.cell (p := ⟨b, off + i * 4 + j, none⟩) hb).trans (hc i l[i] (List.getElem?_eq_getElem hi) j u hu)
  exact ⟨b, off, e, hb, h2, rfl, g 0 _ rfl, g 1 _ rfl, g 2 _ rfl, g 3 _ rfl⟩
end
/-! what a read answers -/
theorem outL_le (s : ByteArray) (p : Nat) (most lo hi : Int) (hp : p ≤ s.size) : p + (outL s p most lo hi).2.1 ≤ s.size := by
  have go : ∀ m q, q ≤ s.size → q + (intsF s lo hi m q).2.1 ≤ s.size := by
    intro m
    induction m with
    | zero => intro q hq; exact hq
    | succ m ih =>
      intro q hq
      show q + (if eI s q lo hi = 0 then (if (intsF s lo hi m (q + lI s q lo hi)).2.2 = 0 then (vI s q lo hi :: (intsF s lo hi m (q + lI s q lo hi)).1, lI s q lo hi + (intsF s lo hi m (q + lI s q lo hi)).2.1, 0) else ([], 0, (intsF s lo hi m (q + lI s q lo hi)).2.2)) else ([], 0, eI s q lo hi) : List Int × Nat × Nat).2.1 ≤ s.size
      by_cases h1 : eI s q lo hi = 0
      · rw [if_pos h1]
        have hl := lI_le s q lo hi
        have h2 := ih (q + lI s q lo hi) (by omega)
        by_cases h3 : (intsF s lo hi m (q + lI s q lo hi)).2.2 = 0
        · rw [if_pos h3]; simp only; omega
        · rw [if_neg h3]; simp only; omega
      · rw [if_neg h1]; simp only; omega
  unfold outL
  by_cases h1 : eC s p most = 0
  · rw [if_pos h1]
    unfold finI
    have hl := lU_le s p
    have h2 := go (vU s p) (p + lU s p) (by omega)
    by_cases h3 : (intsF s lo hi (vU s p) (p + lU s p)).2.2 = 0
    · rw [if_pos h3]; simp only; omega
    · rw [if_neg h3]; simp only; omega
  · rw [if_neg h1]; exact hp
theorem outL_zero (s : ByteArray) (p : Nat) (most lo hi : Int) (h : (outL s p most lo hi).2.2 ≠ 0) : (outL s p most lo hi).1 = [] ∧ (outL s p most lo hi).2.1 = 0 := by
  unfold outL at h ⊢
  by_cases h1 : eC s p most = 0
  · rw [if_pos h1] at h ⊢
    unfold finI at h ⊢
    by_cases h3 : (intsF s lo hi (vU s p) (p + lU s p)).2.2 = 0
    · rw [if_pos h3] at h; exact absurd rfl h
    · rw [if_neg h3]; exact ⟨rfl, rfl⟩
  · rw [if_neg h1]; exact ⟨rfl, rfl⟩
theorem lT_le (s : ByteArray) (p : Nat) (most : Int) (hp : p ≤ s.size) : p + lT s p most ≤ s.size := by
  unfold lT
  by_cases h : eT s p most = 0
  · rw [if_pos h]
    have hl := lU_le s p
    unfold eT at h
    by_cases h1 : eC s p most = 0
    · rw [if_pos h1] at h
      by_cases h2 : s.size - (p + lU s p) < vU s p
      · rw [if_pos h2] at h; omega
      · omega
    · rw [if_neg h1] at h; exact absurd h h1
  · rw [if_neg h]; omega
theorem outR_le {s : ByteArray} {p e k : Nat} {lo hi most : Int} {n : Nat} {i : Int} {t : ByteArray} {l : List Int} {c e' : Nat} (hp : p ≤ s.size) (h : outR s p e k lo hi most = (n, i, t, l, c, e')) : p + c ≤ s.size := by
  unfold outR at h
  have h1 := lU_le s p
  have h2 := lI_le s p lo hi
  have h3 := lT_le s p most hp
  have h4 := outL_le s p most lo hi hp
  by_cases he : e = 0
  · rw [if_pos he] at h
    by_cases k0 : k = 0
    · rw [if_pos k0] at h; simp only [Prod.mk.injEq] at h; omega
    · rw [if_neg k0] at h
      by_cases k1 : k = 1
      · rw [if_pos k1] at h; simp only [Prod.mk.injEq] at h; omega
      · rw [if_neg k1] at h
        by_cases k2 : k = 2
        · rw [if_pos k2] at h; simp only [Prod.mk.injEq] at h; omega
        · rw [if_neg k2] at h; simp only [Prod.mk.injEq] at h; omega
  · rw [if_neg he] at h; simp only [Prod.mk.injEq] at h; omega
theorem outR_zero {s : ByteArray} {p e k : Nat} {lo hi most : Int} {n : Nat} {i : Int} {t : ByteArray} {l : List Int} {c e' : Nat} (h : outR s p e k lo hi most = (n, i, t, l, c, e')) (h0 : e' ≠ 0) : n = 0 ∧ i = 0 ∧ t = ByteArray.empty ∧ l = [] ∧ c = 0 := by
  unfold outR at h
  by_cases he : e = 0
  · rw [if_pos he] at h
    by_cases k0 : k = 0
    · rw [if_pos k0] at h
      simp only [Prod.mk.injEq] at h
      obtain ⟨rfl, rfl, rfl, rfl, rfl, rfl⟩ := h
      obtain ⟨a, b⟩ := bad_U h0
      exact ⟨a, rfl, rfl, rfl, b⟩
    · rw [if_neg k0] at h
      by_cases k1 : k = 1
      · rw [if_pos k1] at h
        simp only [Prod.mk.injEq] at h
        obtain ⟨rfl, rfl, rfl, rfl, rfl, rfl⟩ := h
        exact ⟨rfl, by unfold vI; rw [if_neg h0], rfl, rfl, by unfold lI; rw [if_neg h0]⟩
      · rw [if_neg k1] at h
        by_cases k2 : k = 2
        · rw [if_pos k2] at h
          simp only [Prod.mk.injEq] at h
          obtain ⟨rfl, rfl, rfl, rfl, rfl, rfl⟩ := h
          exact ⟨rfl, rfl, by unfold tT; rw [if_neg h0], rfl, by unfold lT; rw [if_neg h0]⟩
        · rw [if_neg k2] at h
          simp only [Prod.mk.injEq] at h
          obtain ⟨rfl, rfl, rfl, rfl, rfl, rfl⟩ := h
          obtain ⟨a, b⟩ := outL_zero s p most lo hi h0
          exact ⟨rfl, rfl, rfl, a, b⟩
  · rw [if_neg he] at h
    simp only [Prod.mk.injEq] at h
    obtain ⟨rfl, rfl, rfl, rfl, rfl, rfl⟩ := h
    exact ⟨rfl, rfl, rfl, rfl, rfl⟩
theorem outR_keeps {s : ByteArray} {p e k : Nat} {lo hi most : Int} {n : Nat} {i : Int} {t : ByteArray} {l : List Int} {c e' : Nat} (h : outR s p e k lo hi most = (n, i, t, l, c, e')) (h0 : e ≠ 0) : e' = e := by
  unfold outR at h
  rw [if_neg h0] at h
  simp only [Prod.mk.injEq] at h
  exact h.2.2.2.2.2.symm
end Go.Proofs.Ytnejobcbhddpoaa
