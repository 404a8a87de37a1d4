/- Repair and Merge in plain words: neighbors exist, and both ways of reckoning where they are agree (no walk). -/
import Derived.Test.YtlcgbeocdimboaaDoorTurnR
set_option linter.unusedVariables false
set_option linter.unusedSimpArgs false
namespace Go.Proofs.YtlcgbeocdimboaaDoor
open Go.RowKit Pm

theorem least_of {F : Nat → Bool} : ∀ t, F t = true → ∃ m, m ≤ t ∧ F m = true ∧ ∀ j, j < m → F j = false := by
  intro t
  induction t using Nat.strongRecOn with
  | _ t ih =>
    intro h
    by_cases k : ∃ j, j < t ∧ F j = true
    · obtain ⟨j, hj, pj⟩ := k
      obtain ⟨m, h1, h2, h3⟩ := ih j hj pj
      exact ⟨m, by omega, h2, h3⟩
    · exact ⟨t, Nat.le_refl _, h, fun j hj => by
        cases e : F j with
        | false => rfl
        | true => exact absurd ⟨j, hj, e⟩ k⟩
/-- there is a reading on that side, and it is the first one -/
structure NbEx (l : List RD) (i : Nat) (d : Bool) (s : Nat) : Prop where
  lo : 1 ≤ s
  hi : s < l.length
  at_ : (gr l (ix l i d s)).o = true
  gap : ∀ t, 1 ≤ t → t < s → (gr l (ix l i d t)).o = false
theorem nb_ex {l : List RD} {i : Nat} {d : Bool} (h : ∃ t, 1 ≤ t ∧ t < l.length ∧ (gr l (ix l i d t)).o = true) : NbEx l i d (nbS l i d) := by
  obtain ⟨t, h1, h2, h3⟩ := h
  obtain ⟨m, m1, m2, m3⟩ := least_of (F := fun j => (gr l (ix l i d (j + 1))).o) (t - 1) (by rw [show t - 1 + 1 = t by omega]; exact h3)
  have e : nbS l i d = m + 1 := nbS_at (fun t k1 k2 => by have := m3 (t - 1) (by omega); rwa [show t - 1 + 1 = t by omega] at this) (by omega) (by omega) m2
  rw [e]
  exact ⟨by omega, by omega, m2, fun t k1 k2 => by have := m3 (t - 1) (by omega); rwa [show t - 1 + 1 = t by omega] at this⟩
theorem NbEx.v {l : List RD} {i s : Nat} {d : Bool} (h : NbEx l i d s) : nbV l i d = ((gr l (ix l i d s)).x, (gr l (ix l i d s)).y, (s : Int)) := by
  refine nbV_at h.gap h.lo h.hi ?_
  have := h.at_
  cases e : gr l (ix l i d s) with
  | mk x y o => rw [e] at this; dsimp only at this; rw [this]
theorem NbEx.uniq {l : List RD} {i s t : Nat} {d : Bool} (h : NbEx l i d s) (k : NbEx l i d t) : s = t := by
  rcases Nat.lt_trichotomy s t with e | e | e
  · have := k.gap s h.lo e; rw [h.at_] at this; cases this
  · exact e
  · have := h.gap t k.lo e; rw [k.at_] at this; cases this
theorem ix_t (l : List RD) (i s : Nat) : (gr l (ix l i true s)).o = !gapA l (i + s) := by unfold ix gapA; simp
theorem ix_f (l : List RD) (i s : Nat) : (gr l (ix l i false s)).o = !gapA l (i + l.length - s) := by unfold ix gapA; simp
theorem cw_split (l : List RD) (s a : Nat) : ∀ b, cw l s (a + b) = cw l s a + cw l (s + a) b
  | 0 => rfl
  | b + 1 => by
    show cw l s (a + b) + _ = _ + (cw l (s + a) b + _)
    rw [cw_split l s a b, Nat.add_assoc s a b]; exact Nat.add_assoc _ _ _
theorem some_any {l : List RD} (i : Nat) (h0 : 0 < l.length) (h : gN l + 2 ≤ l.length) : ∃ t, 1 ≤ t ∧ t < l.length ∧ gapA l (i + t) = false := by
  refine Classical.byContradiction fun hn => ?_
  have k : ∀ j, j < l.length - 1 → gapA l (i + 1 + j) = true := fun j hj => by
    cases e : gapA l (i + 1 + j) with
    | true => rfl
    | false => exact absurd ⟨j + 1, by omega, by omega, by rw [show i + (j + 1) = i + 1 + j by omega]; exact e⟩ hn
  have c := cw_all l (i + 1) _ k
  have s := cw_split l i 1 (l.length - 1)
  rw [show 1 + (l.length - 1) = l.length by omega, cw_any, c] at s
  omega
theorem nb_fw {l : List RD} (i : Nat) (h0 : 0 < l.length) (h : gN l + 2 ≤ l.length) : NbEx l i true (nbS l i true) := by
  obtain ⟨t, h1, h2, h3⟩ := some_any i h0 h
  exact nb_ex ⟨t, h1, h2, by rw [ix_t, h3]; rfl⟩
theorem nb_bw {l : List RD} (i : Nat) (h0 : 0 < l.length) (h : gN l + 2 ≤ l.length) : NbEx l i false (nbS l i false) := by
  obtain ⟨t, h1, h2, h3⟩ := some_any i h0 h
  exact nb_ex ⟨l.length - t, by omega, by omega, by rw [ix_f, show i + l.length - (l.length - t) = i + t by omega, h3]; rfl⟩
theorem nb_any {l : List RD} (i : Nat) (d : Bool) (h0 : 0 < l.length) (h : gN l + 2 ≤ l.length) : NbEx l i d (nbS l i d) := by
  cases d
  · exact nb_bw i h0 h
  · exact nb_fw i h0 h
theorem nb_sum {l : List RD} {i : Nat} (h0 : 0 < l.length) (hg : gapA l i = true) (h : gN l + 2 ≤ l.length) : nbS l i false + nbS l i true < l.length := by
  have F := nb_fw i h0 h
  have B := nb_bw i h0 h
  obtain ⟨s, hs⟩ : ∃ s, nbS l i true = s := ⟨_, rfl⟩
  obtain ⟨r, hr⟩ : ∃ r, nbS l i false = r := ⟨_, rfl⟩
  rw [hs] at F
  rw [hr] at B
  rw [hs, hr]
  have f := F.at_
  rw [ix_t] at f
  have h1 := F.lo
  have h2 := F.hi
  have h3 := B.lo
  have h4 := B.hi
  by_cases k1 : l.length - s < r
  · have := B.gap (l.length - s) (by omega) k1
    rw [ix_f, show i + l.length - (l.length - s) = i + s by omega, f] at this
    cases this
  · by_cases k2 : r + s < l.length
    · exact k2
    · exfalso
      have a1 := cw_all l i s fun j hj => by
        by_cases e : j = 0
        · subst e; exact hg
        · have := F.gap j (by omega) hj
          rw [ix_t] at this
          cases e2 : gapA l (i + j) with
          | true => rfl
          | false => rw [e2] at this; cases this
      have a2 := cw_all l (i + s + 1) (l.length - s - 1) fun j hj => by
        have := B.gap (l.length - (s + 1 + j)) (by omega) (by omega)
        rw [ix_f, show i + l.length - (l.length - (s + 1 + j)) = i + s + 1 + j by omega] at this
        cases e2 : gapA l (i + s + 1 + j) with
        | true => rfl
        | false => rw [e2] at this; cases this
      have s1 := cw_split l i s (l.length - s)
      have s2 := cw_split l (i + s) 1 (l.length - s - 1)
      rw [show s + (l.length - s) = l.length by omega, cw_any] at s1
      rw [show 1 + (l.length - s - 1) = l.length - s by omega] at s2
      omega
theorem ix_fw' {l : List RD} {i s : Nat} (hi : i < l.length) (hs : s < l.length) : ix l i true s = if i + s < l.length then i + s else i + s - l.length := by
  unfold ix
  simp only [if_true]
  split
  · exact Nat.mod_eq_of_lt (by assumption)
  · rw [Nat.mod_eq_sub_mod (by omega), Nat.mod_eq_of_lt (by omega)]
theorem ix_bw' {l : List RD} {i s : Nat} (hi : i < l.length) (h1 : 1 ≤ s) (hs : s < l.length) : ix l i false s = if s ≤ i then i - s else i + l.length - s := by
  unfold ix
  simp only [Bool.false_eq_true, if_false]
  split
  · rw [show i + l.length - s = i - s + l.length by omega, Nat.add_mod_right, Nat.mod_eq_of_lt (by omega)]
  · exact Nat.mod_eq_of_lt (by omega)
theorem ix_lt {l : List RD} (i s : Nat) (d : Bool) (h0 : 0 < l.length) : ix l i d s < l.length := by unfold ix; exact Nat.mod_lt _ h0
theorem rep_k {l : List RD} {i s n : Nat} (hn : l.length = n) (hi : i < n) (h1 : 1 ≤ s) (hs : s < n) : ((i : Int) - (ix l i false s : Nat) + n).tmod n = s ∧ ((i : Int) - (ix l i false s : Nat) + n) % n = s := by
  subst hn
  have e : ((i : Int) - (ix l i false s : Nat) + l.length) % l.length = s := by
    rw [ix_bw' hi h1 hs]
    split
    · rw [show (i : Int) - ((i - s : Nat) : Int) + l.length = s + l.length by omega, Int.add_emod_right]
      exact Int.emod_eq_of_lt (by omega) (by omega)
    · rw [show (i : Int) - ((i + l.length - s : Nat) : Int) + l.length = s by omega]
      exact Int.emod_eq_of_lt (by omega) (by omega)
  refine ⟨?_, e⟩
  rw [Int.tmod_eq_emod_of_nonneg]
  · exact e
  · have := ix_lt i s false (show 0 < l.length by omega); omega
theorem rep_size {l : List RD} {i s t n : Nat} (hn : l.length = n) (hi : i < n) (h1 : 1 ≤ s) (h2 : 1 ≤ t) (hs : s + t < n) : ((ix l i true t : Nat) - (ix l i false s : Nat) + (n : Int)).tmod n = (s + t : Nat) ∧ ((ix l i true t : Nat) - (ix l i false s : Nat) + (n : Int)) % n = (s + t : Nat) := by
  subst hn
  have e : ((ix l i true t : Nat) - (ix l i false s : Nat) + (l.length : Int)) % l.length = (s + t : Nat) := by
    rw [ix_bw' hi h1 (by omega), ix_fw' hi (by omega)]
    split
    · split
      · rw [show ((i + t : Nat) : Int) - ((i - s : Nat) : Int) + l.length = (s + t : Nat) + l.length by omega, Int.add_emod_right]
        exact Int.emod_eq_of_lt (by omega) (by omega)
      · rw [show ((i + t : Nat) : Int) - ((i + l.length - s : Nat) : Int) + l.length = (s + t : Nat) by omega]
        exact Int.emod_eq_of_lt (by omega) (by omega)
    · split
      · rw [show ((i + t - l.length : Nat) : Int) - ((i - s : Nat) : Int) + l.length = (s + t : Nat) by omega]
        exact Int.emod_eq_of_lt (by omega) (by omega)
      · omega
  refine ⟨?_, e⟩
  rw [Int.tmod_eq_emod_of_nonneg]
  · exact e
  · have := ix_lt i s false (show 0 < l.length by omega); omega
/-- the point of a gap between two neighbors -/
def btw (a b : Int × Int × Int) : P := (a.1 + (b.1 - a.1) * a.2.2 / (a.2.2 + b.2.2), a.2.1 + (b.2.1 - a.2.1) * a.2.2 / (a.2.2 + b.2.2))
/-- the point of the reading i of a repaired ring -/
def rpP (l : List RD) (i : Nat) : P := if (gr l i).o = true then ptR (gr l i) else btw (nbV l i false) (nbV l i true)
def rpU (l : List RD) (k : Nat) : List P := (List.range l.length).map fun i => if i < k then rpP l i else ptR (gr l i)
/-- what Repair answers -/
def rpE (z : Int) (l : List RD) (most : Int) : Nat := if chkR z l = 0 then (if l.length < gN l + 3 ∨ (0 < gN l ∧ most < (gL l : Int)) then 30 else 0) else chkR z l
def rpL (z : Int) (l : List RD) (most : Int) : List P := if rpE z l most = 0 then rpU l l.length else []
theorem rpU_len (l : List RD) (k : Nat) : (rpU l k).length = l.length := by unfold rpU; simp
theorem rpU_at (l : List RD) (k : Nat) {i : Nat} (h : i < l.length) : g (rpU l k) i = if i < k then rpP l i else ptR (gr l i) := by
  rw [g_at (by rw [rpU_len]; exact h)]; unfold rpU; simp
theorem g_ext {X Y : List P} (h : X.length = Y.length) (k : ∀ i, i < X.length → g X i = g Y i) : X = Y := List.ext_getElem? fun i => by
  by_cases hi : i < X.length
  · rw [g_some hi, g_some (l := Y) (by omega), k i hi]
  · rw [List.getElem?_eq_none (by omega), List.getElem?_eq_none (by omega)]
theorem g_set {l : List P} {k i : Nat} {p : P} (h : i < l.length) : g (l.set k p) i = if k = i then p else g l i := by
  rw [g_at (by rw [List.length_set]; exact h), List.getElem_set, g_at h]
theorem rpU_zero (l : List RD) : rpU l 0 = ptsL l := g_ext (by rw [rpU_len]; unfold ptsL; simp) fun i hi => by
  rw [rpU_len] at hi; rw [rpU_at _ _ hi, if_neg (by omega), pts_g hi]
theorem rpU_keep {l : List RD} {k : Nat} (hk : k < l.length) (h : (gr l k).o = true) : rpU l (k + 1) = rpU l k := g_ext (by rw [rpU_len, rpU_len]) fun i hi => by
  rw [rpU_len] at hi
  rw [rpU_at _ _ hi, rpU_at _ _ hi]
  by_cases e : i = k
  · subst e; rw [if_pos (by omega), if_neg (by omega)]; unfold rpP; rw [if_pos h]
  · by_cases c : i < k
    · rw [if_pos (by omega), if_pos c]
    · rw [if_neg (by omega), if_neg c]
theorem rpU_set {l : List RD} {k : Nat} (hk : k < l.length) : rpU l (k + 1) = (rpU l k).set k (rpP l k) := g_ext (by rw [List.length_set, rpU_len, rpU_len]) fun i hi => by
  rw [rpU_len] at hi
  rw [rpU_at _ _ hi, g_set (by rw [rpU_len]; exact hi), rpU_at _ _ hi]
  by_cases e : k = i
  · subst e; rw [if_pos (by omega), if_pos rfl]
  · rw [if_neg e]
    by_cases c : i < k
    · rw [if_pos (by omega), if_pos c]
    · rw [if_neg (by omega), if_neg c]
/-- the bounds of a neighbor -/
def NbB (a : Int × Int × Int) : Prop := (-600 ≤ a.1 ∧ a.1 ≤ 600) ∧ (-600 ≤ a.2.1 ∧ a.2.1 ≤ 600) ∧ 1 ≤ a.2.2 ∧ a.2.2 ≤ 32
theorem nb_bd {l : List RD} {i : Nat} {d : Bool} (hR : RdL l) (h0 : 0 < l.length) (h : gN l + 2 ≤ l.length) (h32 : l.length ≤ 32) : NbB (nbV l i d) := by
  have N := nb_any i d h0 h
  rw [N.v]
  obtain ⟨⟨a1, a2⟩, a3, a4⟩ := inP_yes (rdl_gr hR (ix l i d (nbS l i d)))
  exact ⟨⟨a1, a2⟩, ⟨a3, a4⟩, by have := N.lo; show (1 : Int) ≤ (nbS l i d : Nat); omega, by have := N.hi; show ((nbS l i d : Nat) : Int) ≤ 32; omega⟩
/-- what Merge answers -/
def mgU (a b : List RD) (k : Nat) : List RD := (List.range a.length).map fun i => if i < k ∧ (gr a i).o = false then gr b i else gr a i
def mgE (za : Int) (a : List RD) (zb : Int) (b : List RD) : Nat := if chkR za a = 0 then (if chkR zb b = 0 then (if za ≠ zb ∨ a.length ≠ b.length then 19 else 0) else chkR zb b) else chkR za a
def mgL (za : Int) (a : List RD) (zb : Int) (b : List RD) : List RD := if mgE za a zb b = 0 then mgU a b a.length else []
def mgZ (za : Int) (a : List RD) (zb : Int) (b : List RD) : Int := if mgE za a zb b = 0 then za else 0
theorem mgU_len (a b : List RD) (k : Nat) : (mgU a b k).length = a.length := by unfold mgU; simp
theorem mgU_at (a b : List RD) (k : Nat) {i : Nat} (h : i < a.length) : gr (mgU a b k) i = if i < k ∧ (gr a i).o = false then gr b i else gr a i := by
  rw [gr_at (by rw [mgU_len]; exact h)]; unfold mgU; simp
theorem mgU_zero (a b : List RD) : mgU a b 0 = a := gr_ext (mgU_len _ _ _) fun i hi => by rw [mgU_len] at hi; rw [mgU_at _ _ _ hi, if_neg (by omega)]
theorem mgU_keep {a b : List RD} {k : Nat} (hk : k < a.length) (h : (gr a k).o = true) : mgU a b (k + 1) = mgU a b k := gr_ext (by rw [mgU_len, mgU_len]) fun i hi => by
  rw [mgU_len] at hi
  rw [mgU_at _ _ _ hi, mgU_at _ _ _ hi]
  by_cases e : i = k
  · subst e; rw [if_neg (by rw [h]; simp), if_neg (by rw [h]; simp)]
  · by_cases c : i < k
    · by_cases c2 : (gr a i).o = false
      · rw [if_pos ⟨by omega, c2⟩, if_pos ⟨c, c2⟩]
      · rw [if_neg (fun h => c2 h.2), if_neg (fun h => c2 h.2)]
    · rw [if_neg (by omega), if_neg (by omega)]
theorem mgU_set {a b : List RD} {k : Nat} (hk : k < a.length) (h : (gr a k).o = false) : mgU a b (k + 1) = (mgU a b k).set k (gr b k) := gr_ext (by rw [List.length_set, mgU_len, mgU_len]) fun i hi => by
  rw [mgU_len] at hi
  rw [mgU_at _ _ _ hi, gr_set (by rw [mgU_len]; exact hi), mgU_at _ _ _ hi]
  by_cases e : k = i
  · subst e; rw [if_pos ⟨by omega, h⟩, if_pos rfl]
  · rw [if_neg e]
    by_cases c : i < k
    · by_cases c2 : (gr a i).o = false
      · rw [if_pos ⟨by omega, c2⟩, if_pos ⟨c, c2⟩]
      · rw [if_neg (fun h => c2 h.2), if_neg (fun h => c2 h.2)]
    · rw [if_neg (by omega), if_neg (by omega)]
end Go.Proofs.YtlcgbeocdimboaaDoor
