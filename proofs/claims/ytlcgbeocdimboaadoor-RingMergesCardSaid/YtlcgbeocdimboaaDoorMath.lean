/- Readings, rings, and what Check and Gaps answer: words and plain facts (no walk). -/
import Derived.Test.YtlcgbeocdimboaaDoorPMem
set_option linter.unusedVariables false
set_option linter.unusedSimpArgs false
namespace Go.Proofs.YtlcgbeocdimboaaDoor
open Go.ChangeShapes Go.WideShapes Go.ChangeAt Go.RowKit Pm

/-- a reading -/
structure RD where
  x : Int
  y : Int
  o : Bool
deriving DecidableEq
def rc (d : RD) : List Value := [.int .i64 d.x, .int .i64 d.y, .bool d.o]
def RdR (w : World) (v : Value) (l : List RD) : Prop := RdG 3 rc w v l
/-- reading i -/
def gr (l : List RD) (i : Nat) : RD := l.getD i ⟨0, 0, false⟩
theorem gr_at {l : List RD} {i : Nat} (h : i < l.length) : gr l i = l[i] := by unfold gr; rw [List.getD_eq_getElem?_getD, List.getElem?_eq_getElem h]; rfl
theorem gr_over {l : List RD} {i : Nat} (h : ¬ i < l.length) : gr l i = ⟨0, 0, false⟩ := by unfold gr; rw [List.getD_eq_getElem?_getD, List.getElem?_eq_none (by omega)]; rfl
theorem gr_mem {l : List RD} {i : Nat} (h : i < l.length) : gr l i ∈ l := by rw [gr_at h]; exact List.getElem_mem h
theorem RdR.at {w w' : World} {A : Option Addr} {n c : Nat} {l : List RD} (h : RdR w (.slice A n c) l) (hq : Q w w') {i : Nat} (hi : i < l.length) : ∃ b off, A = some ⟨b, off, none⟩ ∧ b < w.heap.size ∧ n ≤ c ∧
    w'.cell? ⟨b, off + i * 3, none⟩ = some (.int .i64 (gr l i).x) ∧ w'.cell? ⟨b, off + i * 3 + 1, none⟩ = some (.int .i64 (gr l i).y) ∧ w'.cell? ⟨b, off + i * 3 + 2, none⟩ = some (.bool (gr l i).o) := by
  obtain ⟨A', c', h1, h2, h3⟩ := h
  injection h1 with e1 e2 e3
  subst e1 e2 e3
  obtain ⟨b, off, e, hb, hc⟩ := h3 (by omega)
  have k := fun j u (hu : (rc l[i])[j]? = some u) => (hq.cell (p := ⟨b, off + i * 3 + j, none⟩) hb).trans (hc i l[i] (List.getElem?_eq_getElem hi) j u hu)
  rw [gr_at hi]
  exact ⟨b, off, e, hb, h2, k 0 _ rfl, k 1 _ rfl, k 2 _ rfl⟩
/-- what checkReading answers -/
def ckR (d : RD) : Nat := if d.o = true then (if inP (d.x, d.y) = true then 0 else 9) else (if d.x = 0 ∧ d.y = 0 then 0 else 19)
def fstE : List RD → Nat
  | [] => 0
  | d :: l => if ckR d = 0 then fstE l else ckR d
/-- what Check answers -/
def chkR (z : Int) (l : List RD) : Nat := if l.length < 8 then 3 else if 32 < l.length then 4 else if z < 0 ∨ 20000 < z then 9 else fstE l
theorem fstE_pre {l : List RD} : ∀ (k : Nat), (∀ i, i < k → ckR (gr l i) = 0) → k ≤ l.length → fstE l = fstE (l.drop k) := by
  intro k
  induction k with
  | zero => intro _ _; simp
  | succ k ih =>
    intro h hk
    rw [ih (fun i hi => h i (by omega)) (by omega), List.drop_eq_getElem_cons (show k < l.length by omega)]
    show (if ckR l[k] = 0 then _ else _) = _
    rw [if_pos (by rw [← gr_at (show k < l.length by omega)]; exact h k (by omega))]
theorem fstE_bad {l : List RD} {k : Nat} (h : ∀ i, i < k → ckR (gr l i) = 0) (hk : k < l.length) (hb : ckR (gr l k) ≠ 0) : fstE l = ckR (gr l k) := by
  rw [fstE_pre k h (by omega), List.drop_eq_getElem_cons hk]
  show (if ckR l[k] = 0 then _ else _) = _
  rw [gr_at hk] at hb ⊢
  rw [if_neg hb]
theorem fstE_all {l : List RD} (h : ∀ i, i < l.length → ckR (gr l i) = 0) : fstE l = 0 := by
  rw [fstE_pre l.length h (Nat.le_refl _), List.drop_length]; rfl
theorem fstE_yes {l : List RD} (h : fstE l = 0) : ∀ d ∈ l, ckR d = 0 := by
  induction l with
  | nil => intro d hd; simp at hd
  | cons a l ih =>
    intro d hd
    by_cases g : ckR a = 0
    · have h' : fstE l = 0 := by have : fstE (a :: l) = fstE l := if_pos g; rw [← this]; exact h
      rcases List.mem_cons.1 hd with rfl | hd
      · exact g
      · exact ih h' d hd
    · have : fstE (a :: l) = ckR a := if_neg g
      rw [h] at this; exact absurd this.symm g
/-- a ring that Check accepts -/
structure okR (z : Int) (l : List RD) : Prop where
  n8 : 8 ≤ l.length
  n32 : l.length ≤ 32
  z0 : 0 ≤ z
  z1 : z ≤ 20000
  rd : ∀ d ∈ l, ckR d = 0
theorem chkR_ok {z : Int} {l : List RD} : chkR z l = 0 ↔ okR z l := by
  unfold chkR
  constructor
  · intro h
    split at h
    · cases h
    · split at h
      · cases h
      · split at h
        · cases h
        · exact ⟨by omega, by omega, by omega, by omega, fstE_yes h⟩
  · intro h
    rw [if_neg (by have := h.n8; omega), if_neg (by have := h.n32; omega), if_neg (by have := h.z0; have := h.z1; omega)]
    exact fstE_all fun i hi => h.rd _ (gr_mem hi)
theorem ok_pt {d : RD} (h : ckR d = 0) : inP (d.x, d.y) = true := by
  unfold ckR at h
  split at h
  · split at h
    · assumption
    · cases h
  · split at h
    · rename_i g; rw [g.1, g.2]; rfl
    · cases h
theorem ok_gap {d : RD} (h : ckR d = 0) (ho : d.o = false) : d.x = 0 ∧ d.y = 0 := by
  unfold ckR at h
  rw [ho] at h
  simp only [Bool.false_eq_true, if_false] at h
  split at h
  · assumption
  · cases h
end Go.Proofs.YtlcgbeocdimboaaDoor
