/- Plain facts about grids (no program). -/
import Derived.Test.YtlkgbfiaeedpfaaMath
set_option linter.unusedVariables false
set_option linter.unusedSimpArgs false
namespace Go.Proofs.Ytlkgbfiaeedpfaa
open Go.RowKit
namespace Cm
def N (l : List Int) (i : Nat) : Int := l.getD i 0
def errN (l : List Int) (i : Nat) : Nat := if inR (N l i) = true then (if 0 < i ∧ N l i ≤ N l (i - 1) then 11 else 0) else 9
def numE (l : List Int) : Nat := firstE (errN l) l.length
def errV (l : List Int) (i : Nat) : Nat := if inR (N l i) = true then 0 else 9
def rowE (l : List Int) (m : Nat) : Nat := if l.length = m then firstE (errV l) l.length else 19
def R (v : List (List Int)) (i : Nat) : List Int := v.getD i []
def chkG (xs ys : List Int) (vs : List (List Int)) : Nat :=
  if xs.length = 0 ∨ ys.length = 0 then 3 else if 16 < xs.length ∨ 16 < ys.length then 4 else if numE xs = 0 then (if numE ys = 0 then (if vs.length = xs.length then firstE (fun i => rowE (R vs i) ys.length) vs.length else 19) else numE ys) else numE xs
structure okG (xs ys : List Int) (vs : List (List Int)) : Prop where
  x1 : 0 < xs.length
  y1 : 0 < ys.length
  x16 : xs.length ≤ 16
  y16 : ys.length ≤ 16
  inx : ∀ i, i < xs.length → -1000000 ≤ N xs i ∧ N xs i ≤ 1000000
  iny : ∀ i, i < ys.length → -1000000 ≤ N ys i ∧ N ys i ≤ 1000000
  upx : asc (N xs) xs.length
  upy : asc (N ys) ys.length
  len : vs.length = xs.length
  row : ∀ i, i < vs.length → (R vs i).length = ys.length
  inv : ∀ i, i < vs.length → ∀ k, k < ys.length → -1000000 ≤ N (R vs i) k ∧ N (R vs i) k ≤ 1000000
theorem errN_zero {l : List Int} {i : Nat} (h : errN l i = 0) : (-1000000 ≤ N l i ∧ N l i ≤ 1000000) ∧ (0 < i → N l (i - 1) < N l i) := by
  unfold errN at h
  by_cases g : inR (N l i) = true
  · rw [if_pos g] at h
    by_cases k : 0 < i ∧ N l i ≤ N l (i - 1)
    · rw [if_pos k] at h; cases h
    · exact ⟨inR_yes g, fun h0 => by omega⟩
  · rw [if_neg g] at h; cases h
theorem errV_zero {l : List Int} {i : Nat} (h : errV l i = 0) : -1000000 ≤ N l i ∧ N l i ≤ 1000000 := by
  unfold errV at h
  by_cases g : inR (N l i) = true
  · exact inR_yes g
  · rw [if_neg g] at h; cases h
theorem errN_nine {l : List Int} {k : Nat} (h : inR (N l k) = false) : errN l k = 9 := by unfold errN; rw [h, if_neg (by decide)]
theorem errN_eleven {l : List Int} {k : Nat} (h : inR (N l k) = true) (h0 : 0 < k) (h1 : N l k ≤ N l (k - 1)) : errN l k = 11 := by unfold errN; rw [if_pos h, if_pos ⟨h0, h1⟩]
theorem errN_ok {l : List Int} {k : Nat} (h : inR (N l k) = true) (h1 : 0 < k → N l (k - 1) < N l k) : errN l k = 0 := by unfold errN; rw [if_pos h, if_neg (by omega)]
theorem rowE_zero {l : List Int} {m : Nat} (h : rowE l m = 0) : l.length = m ∧ ∀ k, k < m → -1000000 ≤ N l k ∧ N l k ≤ 1000000 := by
  unfold rowE at h
  by_cases g : l.length = m
  · rw [if_pos g] at h
    exact ⟨g, fun k hk => errV_zero (firstE_zero h k (by omega))⟩
  · rw [if_neg g] at h; cases h
theorem chkG_zero {xs ys : List Int} {vs : List (List Int)} (h : chkG xs ys vs = 0) : okG xs ys vs := by
  unfold chkG at h
  by_cases h1 : xs.length = 0 ∨ ys.length = 0
  · rw [if_pos h1] at h; cases h
  · rw [if_neg h1] at h
    by_cases h2 : 16 < xs.length ∨ 16 < ys.length
    · rw [if_pos h2] at h; cases h
    · rw [if_neg h2] at h
      by_cases h3 : numE xs = 0
      · rw [if_pos h3] at h
        by_cases h4 : numE ys = 0
        · rw [if_pos h4] at h
          by_cases h5 : vs.length = xs.length
          · rw [if_pos h5] at h
            have h6 := firstE_zero h
            exact ⟨by omega, by omega, by omega, by omega, fun i hi => (errN_zero (firstE_zero h3 i hi)).1, fun i hi => (errN_zero (firstE_zero h4 i hi)).1, fun i h0 hi => (errN_zero (firstE_zero h3 i hi)).2 h0, fun i h0 hi => (errN_zero (firstE_zero h4 i hi)).2 h0, h5, fun i hi => (rowE_zero (h6 i hi)).1, fun i hi => (rowE_zero (h6 i hi)).2⟩
          · rw [if_neg h5] at h; cases h
        · rw [if_neg h4] at h; exact absurd h h4
      · rw [if_neg h3] at h; exact absurd h h3
def rv (ys : List Int) (vs : List (List Int)) (y : Int) (i : Nat) : Int := alS (N ys) (N (R vs i)) ys.length y
def vaS (xs ys : List Int) (vs : List (List Int)) (x y : Int) : Int := if chkG xs ys vs = 0 then alS (N xs) (rv ys vs y) xs.length x else 0
theorem rv_bd {xs ys : List Int} {vs : List (List Int)} (h : okG xs ys vs) (y : Int) (i : Nat) (hi : i < xs.length) : -1000000 ≤ rv ys vs y i ∧ rv ys vs y i ≤ 1000000 :=
  al_bd h.upy h.y1 fun k hk => h.inv i (by rw [h.len]; exact hi) k hk
theorem chkG_mid {xs ys : List Int} {vs : List (List Int)} (h1 : 0 < xs.length) (h2 : 0 < ys.length) (h3 : xs.length ≤ 16) (h4 : ys.length ≤ 16) : chkG xs ys vs = if numE xs = 0 then (if numE ys = 0 then (if vs.length = xs.length then firstE (fun i => rowE (R vs i) ys.length) vs.length else 19) else numE ys) else numE xs := by
  unfold chkG; rw [if_neg (by omega), if_neg (by omega)]
theorem firstE_lt {f : Nat → Nat} {n : Nat} (h : ∀ i, f i < 20) : firstE f n < 20 := by
  unfold firstE; split
  · exact h _
  · omega
theorem numE_lt (l : List Int) : numE l < 20 := firstE_lt fun i => by unfold errN; split <;> (try split) <;> omega
/-- the curve of two lists -/
def zipC (p q : Nat → Int) (n : Nat) : List P := (List.range n).map fun i => (p i, q i)
theorem zip_len (p q : Nat → Int) (n : Nat) : (zipC p q n).length = n := by simp [zipC]
theorem zip_at (p q : Nat → Int) {n i : Nat} (h : i < n) : (zipC p q n)[i]? = some (p i, q i) := by simp [zipC, h]
theorem zip_x (p q : Nat → Int) {n i : Nat} (h : i < n) : X (zipC p q n) i = p i := by unfold X; rw [List.getD_eq_getElem?_getD, zip_at p q h]; rfl
theorem zip_y (p q : Nat → Int) {n i : Nat} (h : i < n) : Y (zipC p q n) i = q i := by unfold Y; rw [List.getD_eq_getElem?_getD, zip_at p q h]; rfl
theorem zip_next (p q : Nat → Int) (n : Nat) : zipC p q (n + 1) = zipC p q n ++ [(p n, q n)] := by unfold zipC; rw [List.range_succ, List.map_append]; rfl
theorem zip_at_of {p q : Nat → Int} {n : Nat} {x : Int} (h1 : 0 < n) (h2 : n ≤ 16) (ha : asc p n) (hp : ∀ i, i < n → -1000000 ≤ p i ∧ p i ≤ 1000000) (hq : ∀ i, i < n → -1000000 ≤ q i ∧ q i ≤ 1000000) : atS (zipC p q n) x = alS p q n x := by
  have ok : okC (zipC p q n) := ⟨by rw [zip_len]; exact h1, by rw [zip_len]; exact h2, fun i hi => by rw [zip_len] at hi; rw [zip_x p q hi]; exact hp i hi, fun i hi => by rw [zip_len] at hi; rw [zip_y p q hi]; exact hq i hi, fun i h0 hi => by rw [zip_len] at hi; rw [zip_x p q hi, zip_x p q (by omega)]; exact ha i h0 hi⟩
  unfold atS
  rw [if_pos (chk_ok ok), zip_len]
  exact al_congr h1 (fun i hi => zip_x p q hi) fun i hi => zip_y p q hi
end Cm
end Go.Proofs.Ytlkgbfiaeedpfaa
