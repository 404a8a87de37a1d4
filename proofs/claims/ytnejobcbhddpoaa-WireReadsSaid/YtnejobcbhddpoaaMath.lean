/- Plain facts about LEB128 and zigzag numbers (no program). -/
import Derived.WalkKit
import Derived.ProofKit
import Derived.Laws.BytesArg
import Derived.Laws.Bits64
set_option linter.unusedVariables false
set_option linter.unusedSimpArgs false
namespace Go.Proofs.Ytnejobcbhddpoaa
open Go.RowKit
namespace Wm

def bs (l : List UInt8) : ByteArray := ⟨l.toArray⟩
theorem size_bs (l : List UInt8) : (bs l).size = l.length := by simp [bs, ByteArray.size]
/-- byte i of a list, 0 behind its end -/
def gl (l : List UInt8) (i : Nat) : Nat := (l.getD i 0).toNat
/-- byte i of a string, 0 behind its end -/
def bt (s : ByteArray) (i : Nat) : Nat := gl s.data.toList i
theorem bt_bs (l : List UInt8) (i : Nat) : bt (bs l) i = gl l i := rfl
theorem bt_eq (s : ByteArray) (k : Nat) (h : k < s.size) : (s[k].toNat : Int) = (bt s k : Int) := by
  unfold bt gl
  have h2 : k < s.data.toList.length := by simpa using h
  rw [List.getD_eq_getElem?_getD, List.getElem?_eq_getElem h2]
  rfl
theorem gl_bd (l : List UInt8) (k : Nat) : gl l k < 256 := by unfold gl; have := (l.getD k 0).toNat_lt; omega
theorem bt_bd (s : ByteArray) (k : Nat) : bt s k < 256 := gl_bd _ _
theorem gl_cons (a : UInt8) (l : List UInt8) (i : Nat) : gl (a :: l) (i + 1) = gl l i := by simp [gl]
theorem gl_zero (a : UInt8) (l : List UInt8) : gl (a :: l) 0 = a.toNat := by simp [gl]
theorem gl_app (l t : List UInt8) (i : Nat) (h : i < l.length) : gl (l ++ t) i = gl l i := by
  unfold gl; rw [List.getD_eq_getElem?_getD, List.getD_eq_getElem?_getD, List.getElem?_append_left h]
theorem gl_app2 (l t : List UInt8) (i : Nat) : gl (l ++ t) (l.length + i) = gl t i := by
  unfold gl; rw [List.getD_eq_getElem?_getD, List.getD_eq_getElem?_getD, List.getElem?_append_right (by omega), show l.length + i - l.length = i by omega]
theorem gl_over (l : List UInt8) (i : Nat) (h : l.length ≤ i) : gl l i = 0 := by
  unfold gl; rw [List.getD_eq_getElem?_getD, List.getElem?_eq_none h]; rfl

/-- the encoding of a number -/
def uv (n : Nat) : List UInt8 := if h : n < 128 then [UInt8.ofNat n] else UInt8.ofNat (128 + n % 128) :: uv (n / 128)
termination_by n
decreasing_by omega
theorem uv_lt {n : Nat} (h : n < 128) : uv n = [UInt8.ofNat n] := by rw [uv, dif_pos h]
theorem uv_ge {n : Nat} (h : 128 ≤ n) : uv n = UInt8.ofNat (128 + n % 128) :: uv (n / 128) := by rw [uv, dif_neg (by omega)]
theorem uv_pos (n : Nat) : 1 ≤ (uv n).length := by
  rcases Nat.lt_or_ge n 128 with h | h
  · rw [uv_lt h]; simp
  · rw [uv_ge h]; simp
/-- the value of the first k groups -/
def val (f : Nat → Nat) : Nat → Nat
  | 0 => 0
  | k + 1 => val f k + f k % 128 * 128 ^ k
theorem val_succ (f : Nat → Nat) (k : Nat) : val f (k + 1) = val f k + f k % 128 * 128 ^ k := rfl
theorem val_shift (f : Nat → Nat) (k : Nat) : val f (k + 1) = f 0 % 128 + 128 * val (fun i => f (i + 1)) k := by
  induction k with
  | zero => simp [val]
  | succ k ih =>
    rw [val_succ, ih, val_succ]
    have e : f (k + 1) % 128 * 128 ^ (k + 1) = 128 * (f (k + 1) % 128 * 128 ^ k) := by
      rw [Nat.pow_succ, ← Nat.mul_assoc, Nat.mul_comm _ 128]
    rw [e]; omega
theorem val_lt (f : Nat → Nat) (k : Nat) : val f k < 128 ^ k := by
  induction k with
  | zero => simp [val]
  | succ k ih =>
    have h1 : f k % 128 ≤ 127 := by omega
    have h2 : f k % 128 * 128 ^ k ≤ 127 * 128 ^ k := Nat.mul_le_mul_right _ h1
    rw [val_succ, Nat.pow_succ]; omega
theorem val_congr {f g : Nat → Nat} (k : Nat) (h : ∀ i, i < k → f i = g i) : val f k = val g k := by
  induction k with
  | zero => rfl
  | succ k ih => rw [val_succ, val_succ, ih (fun i hi => h i (by omega)), h k (by omega)]
/-- all bytes ahead of k say that more follow -/
def cont (f : Nat → Nat) (k : Nat) : Prop := ∀ j, j < k → 128 ≤ f j
theorem cont_zero (f : Nat → Nat) : cont f 0 := fun j h => by omega
theorem cont_step {f : Nat → Nat} {k : Nat} (h : cont f k) (h2 : 128 ≤ f k) : cont f (k + 1) := fun j hj => by
  by_cases e : j = k
  · subst e; exact h2
  · exact h j (by omega)
/-- where a number stops -/
def stop (f : Nat → Nat) (m : Nat) : Nat → Nat → Nat
  | 0, i => i
  | k + 1, i => if i < m ∧ 128 ≤ f i then stop f m k (i + 1) else i
def nI (f : Nat → Nat) (m : Nat) : Nat := stop f m 9 0
def nE (f : Nat → Nat) (m : Nat) : Nat := if m ≤ nI f m then 3 else if (nI f m = 9 ∧ 1 < f (nI f m)) ∨ (f (nI f m) = 0 ∧ 0 < nI f m) then 5 else 0
def nV (f : Nat → Nat) (m : Nat) : Nat := if nE f m = 0 then val f (nI f m + 1) else 0
def nL (f : Nat → Nat) (m : Nat) : Nat := if nE f m = 0 then nI f m + 1 else 0
theorem stop_at {f : Nat → Nat} {m i : Nat} (hc : cont f i) (h9 : i ≤ 9) (hm : i ≤ m) (he : i = 9 ∨ m ≤ i ∨ f i < 128) : ∀ k j, j ≤ i → j + k = 9 → stop f m k j = i := by
  intro k
  induction k with
  | zero => intro j h1 h2; show j = i; omega
  | succ k ih =>
    intro j h1 h2
    show (if j < m ∧ 128 ≤ f j then stop f m k (j + 1) else j) = i
    by_cases e : j = i
    · subst e
      rw [if_neg (by omega)]
    · rw [if_pos ⟨by omega, hc j (by omega)⟩]
      exact ih (j + 1) (by omega) (by omega)
theorem nI_at {f : Nat → Nat} {m i : Nat} (hc : cont f i) (h9 : i ≤ 9) (hm : i ≤ m) (he : i = 9 ∨ m ≤ i ∨ f i < 128) : nI f m = i := stop_at hc h9 hm he 9 0 (by omega) (by omega)
theorem out_short {f : Nat → Nat} {m i : Nat} (hc : cont f i) (h9 : i ≤ 9) (hm : i = m) : nE f m = 3 ∧ nV f m = 0 ∧ nL f m = 0 := by
  have h := nI_at (f := f) (m := m) (i := i) hc h9 (by omega) (.inr (.inl (by omega)))
  have e : nE f m = 3 := by unfold nE; rw [h, if_pos (by omega)]
  refine ⟨e, ?_, ?_⟩
  · unfold nV; rw [e]; rfl
  · unfold nL; rw [e]; rfl
theorem out_big {f : Nat → Nat} {m : Nat} (hc : cont f 9) (hm : 9 < m) (h : 1 < f 9) : nE f m = 5 ∧ nV f m = 0 ∧ nL f m = 0 := by
  have h1 := nI_at (f := f) (m := m) (i := 9) hc (by omega) (by omega) (.inl rfl)
  have e : nE f m = 5 := by unfold nE; rw [h1, if_neg (by omega), if_pos (.inl ⟨rfl, h⟩)]
  refine ⟨e, ?_, ?_⟩
  · unfold nV; rw [e]; rfl
  · unfold nL; rw [e]; rfl
theorem out_zero {f : Nat → Nat} {m i : Nat} (hc : cont f i) (h9 : i ≤ 9) (hm : i < m) (h : f i = 0) (h0 : 0 < i) : nE f m = 5 ∧ nV f m = 0 ∧ nL f m = 0 := by
  have h1 := nI_at (f := f) (m := m) (i := i) hc h9 (by omega) (.inr (.inr (by omega)))
  have e : nE f m = 5 := by unfold nE; rw [h1, if_neg (by omega), if_pos (.inr ⟨h, h0⟩)]
  refine ⟨e, ?_, ?_⟩
  · unfold nV; rw [e]; rfl
  · unfold nL; rw [e]; rfl
theorem out_ok {f : Nat → Nat} {m i : Nat} (hc : cont f i) (h9 : i ≤ 9) (hm : i < m) (h : f i < 128) (hb : ¬ (i = 9 ∧ 1 < f i)) (hz : ¬ (f i = 0 ∧ 0 < i)) : nE f m = 0 ∧ nV f m = val f (i + 1) ∧ nL f m = i + 1 := by
  have h1 := nI_at (f := f) (m := m) (i := i) hc h9 (by omega) (.inr (.inr h))
  have e : nE f m = 0 := by unfold nE; rw [h1, if_neg (by omega), if_neg (by omega)]
  refine ⟨e, ?_, ?_⟩
  · unfold nV; rw [if_pos e, h1]
  · unfold nL; rw [if_pos e, h1]
theorem stop_spec (f : Nat → Nat) (m : Nat) : ∀ k j, j + k = 9 → j ≤ m → cont f j → stop f m k j ≤ 9 ∧ stop f m k j ≤ m ∧ cont f (stop f m k j) ∧ (stop f m k j = 9 ∨ m ≤ stop f m k j ∨ f (stop f m k j) < 128) := by
  intro k
  induction k with
  | zero => intro j h1 h2 h3; exact ⟨by show j ≤ 9; omega, h2, h3, .inl (by show j = 9; omega)⟩
  | succ k ih =>
    intro j h1 h2 h3
    by_cases g : j < m ∧ 128 ≤ f j
    · have e : stop f m (k + 1) j = stop f m k (j + 1) := by show (if j < m ∧ 128 ≤ f j then _ else _) = _; rw [if_pos g]
      rw [e]; exact ih (j + 1) (by omega) (by omega) (cont_step h3 g.2)
    · have e : stop f m (k + 1) j = j := by show (if j < m ∧ 128 ≤ f j then _ else _) = _; rw [if_neg g]
      rw [e]; exact ⟨by omega, h2, h3, by omega⟩
/-- what a number that is read looks like -/
theorem ok_spec {f : Nat → Nat} {m : Nat} (h : nE f m = 0) : ∃ i, i ≤ 9 ∧ i < m ∧ cont f i ∧ f i < 128 ∧ ¬ (i = 9 ∧ 1 < f i) ∧ ¬ (f i = 0 ∧ 0 < i) ∧ nV f m = val f (i + 1) ∧ nL f m = i + 1 := by
  obtain ⟨h1, h2, h3, h4⟩ := stop_spec f m 9 0 (by omega) (by omega) (cont_zero f)
  change nI f m ≤ 9 at h1; change nI f m ≤ m at h2; change cont f (nI f m) at h3; change nI f m = 9 ∨ m ≤ nI f m ∨ f (nI f m) < 128 at h4
  have g := h
  unfold nE at g
  by_cases g1 : m ≤ nI f m
  · rw [if_pos g1] at g; omega
  · rw [if_neg g1] at g
    by_cases g2 : (nI f m = 9 ∧ 1 < f (nI f m)) ∨ (f (nI f m) = 0 ∧ 0 < nI f m)
    · rw [if_pos g2] at g; omega
    · refine ⟨nI f m, h1, by omega, h3, by omega, by omega, by omega, ?_, ?_⟩
      · unfold nV; rw [if_pos h]
      · unfold nL; rw [if_pos h]
theorem nE_cases (f : Nat → Nat) (m : Nat) : nE f m = 0 ∨ nE f m = 3 ∨ nE f m = 5 := by
  unfold nE; split
  · exact .inr (.inl rfl)
  · split
    · exact .inr (.inr rfl)
    · exact .inl rfl
theorem pow9 : (128 : Nat) ^ 9 = 9223372036854775808 := by decide
theorem nV_lt (f : Nat → Nat) (m : Nat) : nV f m < 18446744073709551616 := by
  by_cases h : nE f m = 0
  · obtain ⟨i, h1, h2, h3, h4, h5, h6, h7, h8⟩ := ok_spec h
    rw [h7]
    by_cases e : i = 9
    · subst e
      have := val_lt f 9
      rw [val_succ, pow9]
      rw [pow9] at this
      have : f 9 % 128 ≤ 1 := by omega
      omega
    · have := val_lt f (i + 1)
      have h9 : (128 : Nat) ^ (i + 1) ≤ 128 ^ 9 := Nat.pow_le_pow_right (by omega) (by omega)
      rw [pow9] at h9
      omega
  · unfold nV; rw [if_neg h]; omega
theorem nL_le (f : Nat → Nat) (m : Nat) : nL f m ≤ m := by
  by_cases h : nE f m = 0
  · obtain ⟨i, h1, h2, h3, h4, h5, h6, h7, h8⟩ := ok_spec h
    rw [h8]; omega
  · unfold nL; rw [if_neg h]; omega
theorem nL_pos {f : Nat → Nat} {m : Nat} (h : nE f m = 0) : 0 < nL f m := by
  obtain ⟨i, h1, h2, h3, h4, h5, h6, h7, h8⟩ := ok_spec h
  rw [h8]; omega
/-- reading asks for nothing but the bytes that are there -/
theorem stop_congr {f g : Nat → Nat} {m : Nat} (h : ∀ i, i < m → f i = g i) : ∀ k j, stop f m k j = stop g m k j := by
  intro k
  induction k with
  | zero => intro j; rfl
  | succ k ih =>
    intro j
    show (if j < m ∧ 128 ≤ f j then _ else _) = (if j < m ∧ 128 ≤ g j then _ else _)
    by_cases g1 : j < m
    · rw [h j g1, ih]
    · rw [if_neg (by omega), if_neg (by omega)]
theorem n_congr {f g : Nat → Nat} {m : Nat} (h : ∀ i, i < m → f i = g i) : nE f m = nE g m ∧ nV f m = nV g m ∧ nL f m = nL g m := by
  have hi : nI f m = nI g m := stop_congr h 9 0
  have e : nE f m = nE g m := by
    unfold nE
    by_cases g1 : m ≤ nI g m
    · rw [hi, if_pos g1, if_pos g1]
    · rw [hi, h _ (by omega)]
  refine ⟨e, ?_, ?_⟩
  · unfold nV
    rw [e, hi]
    by_cases g0 : nE g m = 0
    · rw [if_pos g0, if_pos g0]
      apply val_congr
      intro i hi2
      apply h
      have := ok_spec g0
      have h5 : nI g m < m := by
        rcases Nat.lt_or_ge (nI g m) m with k | k
        · exact k
        · unfold nE at g0; rw [if_pos k] at g0; omega
      omega
    · rw [if_neg g0, if_neg g0]
  · unfold nL; rw [e, hi]
/-- the encoding, byte by byte -/
theorem uv_spec (n : Nat) : cont (gl (uv n)) ((uv n).length - 1) ∧ gl (uv n) ((uv n).length - 1) < 128 ∧ ¬ (gl (uv n) ((uv n).length - 1) = 0 ∧ 0 < (uv n).length - 1) ∧ val (gl (uv n)) (uv n).length = n := by
  induction n using Nat.strongRecOn with
  | _ n ih =>
    rcases Nat.lt_or_ge n 128 with h | h
    · rw [uv_lt h]
      have e : gl [UInt8.ofNat n] 0 = n := by rw [gl_zero, UInt8.toNat_ofNat']; omega
      refine ⟨fun j hj => by simp at hj, by show gl [UInt8.ofNat n] 0 < 128; omega, by simp, ?_⟩
      show 0 + gl [UInt8.ofNat n] 0 % 128 * 128 ^ 0 = n
      rw [e]; omega
    · obtain ⟨i1, i2, i3, i4⟩ := ih (n / 128) (by omega)
      have hp := uv_pos (n / 128)
      have hr := uv_ge h
      obtain ⟨l, hl⟩ : ∃ l, uv (n / 128) = l := ⟨_, rfl⟩
      rw [hl] at i1 i2 i3 i4 hp hr
      rw [hr]
      have e : gl (UInt8.ofNat (128 + n % 128) :: l) 0 = 128 + n % 128 := by rw [gl_zero, UInt8.toNat_ofNat']; omega
      have el : (UInt8.ofNat (128 + n % 128) :: l).length - 1 = (l.length - 1) + 1 := by simp; omega
      have ex : (fun i => gl (UInt8.ofNat (128 + n % 128) :: l) (i + 1)) = gl l := by funext i; exact gl_cons _ _ _
      rw [el]
      refine ⟨fun j hj => ?_, ?_, ?_, ?_⟩
      · match j with
        | 0 => rw [e]; omega
        | j + 1 => rw [gl_cons]; exact i1 j (by omega)
      · rw [gl_cons]; exact i2
      · rw [gl_cons]
        rintro ⟨g1, _⟩
        by_cases g2 : 0 < l.length - 1
        · exact i3 ⟨g1, g2⟩
        · have hl1 : l.length = 1 := by omega
          rw [hl1] at i4 g1
          have : val (gl l) 1 = 0 := by show 0 + gl l 0 % 128 * 128 ^ 0 = 0; rw [g1]
          omega
      · rw [List.length_cons, val_shift, ex, e, i4]; omega
theorem uv_len_le : ∀ (k n : Nat), n < 128 ^ (k + 1) → (uv n).length ≤ k + 1 := by
  intro k
  induction k with
  | zero => intro n h; rw [uv_lt (by simpa using h)]; simp
  | succ k ih =>
    intro n h
    rcases Nat.lt_or_ge n 128 with g | g
    · rw [uv_lt g]; simp
    · rw [uv_ge g, List.length_cons]
      have := ih (n / 128) (by rw [Nat.pow_succ] at h; exact Nat.div_lt_of_lt_mul (by rw [Nat.mul_comm]; exact h))
      omega
theorem uv_len {n : Nat} (h : n < 18446744073709551616) : (uv n).length ≤ 10 := by
  have e : (128 : Nat) ^ (9 + 1) = 1180591620717411303424 := by decide
  exact uv_len_le 9 n (by rw [e]; omega)
/-- what was written is read back, whatever stands behind it -/
theorem n_back {n : Nat} (h : n < 18446744073709551616) (t : List UInt8) : nE (gl (uv n ++ t)) (uv n ++ t).length = 0 ∧ nV (gl (uv n ++ t)) (uv n ++ t).length = n ∧ nL (gl (uv n ++ t)) (uv n ++ t).length = (uv n).length := by
  obtain ⟨h1, h2, h3, h4⟩ := uv_spec n
  have hp := uv_pos n
  have hl := uv_len h
  have ha : ∀ i, i < (uv n).length → gl (uv n ++ t) i = gl (uv n) i := fun i hi => gl_app _ _ i hi
  have e1 : (uv n).length - 1 + 1 = (uv n).length := by omega
  have hb : ¬ ((uv n).length - 1 = 9 ∧ 1 < gl (uv n ++ t) ((uv n).length - 1)) := by
    rintro ⟨g1, g2⟩
    rw [ha _ (by omega), g1] at g2
    rw [show (uv n).length = 9 + 1 by omega, val_succ, pow9] at h4
    rw [g1] at h2
    have : gl (uv n) 9 % 128 = gl (uv n) 9 := by omega
    rw [this] at h4
    omega
  obtain ⟨o1, o2, o3⟩ := out_ok (f := gl (uv n ++ t)) (m := (uv n ++ t).length) (i := (uv n).length - 1) (fun j hj => by rw [ha j (by omega)]; exact h1 j hj) (by omega) (by rw [List.length_append]; omega) (by rw [ha _ (by omega)]; exact h2) hb (by rw [ha _ (by omega)]; exact h3)
  refine ⟨o1, ?_, by rw [o3, e1]⟩
  rw [o2, e1, val_congr _ ha, h4]
/-- a beginning of what was written is too short -/
theorem n_cut {n : Nat} (h : n < 18446744073709551616) {k : Nat} (hk : k < (uv n).length) : nE (gl ((uv n).take k)) k = 3 := by
  obtain ⟨h1, h2, h3, h4⟩ := uv_spec n
  have hl := uv_len h
  refine (out_short (f := gl ((uv n).take k)) (m := k) (i := k) (fun j hj => ?_) (by omega) rfl).1
  have e : gl ((uv n).take k) j = gl (uv n) j := by
    unfold gl; rw [List.getD_eq_getElem?_getD, List.getD_eq_getElem?_getD, List.getElem?_take_of_lt hj]
  rw [e]; exact h1 j (by omega)
/-- the bytes that were read are the encoding of their value -/
theorem uv_of : ∀ (i : Nat) (f : Nat → Nat), (∀ j, f j < 256) → cont f i → f i < 128 → ¬ (f i = 0 ∧ 0 < i) → uv (val f (i + 1)) = (List.range (i + 1)).map fun j => UInt8.ofNat (f j) := by
  intro i
  induction i with
  | zero =>
    intro f hb _ h2 _
    have e : val f 1 = f 0 := by show 0 + f 0 % 128 * 128 ^ 0 = f 0; omega
    rw [e, uv_lt h2]; rfl
  | succ i ih =>
    intro f hb hc h2 h3
    have hv := val_shift f (i + 1)
    have hi := ih (fun j => f (j + 1)) (fun j => hb _) (fun j hj => hc (j + 1) (by omega)) h2
    have h0 := hc 0 (by omega)
    have hb0 := hb 0
    have hz : f (i + 1) ≠ 0 := fun e => h3 ⟨e, by omega⟩
    have hpos : 1 ≤ val (fun j => f (j + 1)) (i + 1) := by
      rw [val_succ]
      have h1 : 1 ≤ f (i + 1) % 128 := by omega
      have h2' : 1 * 128 ^ i ≤ f (i + 1) % 128 * 128 ^ i := Nat.mul_le_mul_right _ h1
      have : 0 < 128 ^ i := Nat.pow_pos (by omega)
      omega
    have hi := hi (by rintro ⟨g, _⟩; exact hz g)
    rw [uv_ge (by omega), hv, show (f 0 % 128 + 128 * val (fun i => f (i + 1)) (i + 1)) / 128 = val (fun i => f (i + 1)) (i + 1) by omega, hi, show 128 + (f 0 % 128 + 128 * val (fun i => f (i + 1)) (i + 1)) % 128 = f 0 by omega, List.range_succ_eq_map (n := i + 1), List.map_cons, List.map_map]
    rfl
theorem n_one {f : Nat → Nat} {m : Nat} (hb : ∀ j, f j < 256) (h : nE f m = 0) : uv (nV f m) = (List.range (nL f m)).map fun j => UInt8.ofNat (f j) := by
  obtain ⟨i, h1, h2, h3, h4, h5, h6, h7, h8⟩ := ok_spec h
  rw [h7, h8]; exact uv_of i f hb h3 h4 h6
/-- zigzag numbers -/
def zz (n : Int) : Nat := if 0 ≤ n then 2 * n.toNat else 2 * (-(n + 1)).toNat + 1
def unzz (u : Nat) : Int := if u % 2 = 1 then -((u / 2 : Nat) : Int) - 1 else ((u / 2 : Nat) : Int)
theorem unzz_zz (n : Int) : unzz (zz n) = n := by unfold unzz zz; split <;> split <;> omega
theorem zz_unzz (u : Nat) : zz (unzz u) = u := by unfold unzz zz; split <;> split <;> omega
theorem zz_lt {n : Int} (h1 : -9223372036854775808 ≤ n) (h2 : n ≤ 9223372036854775807) : zz n < 18446744073709551616 := by unfold zz; split <;> omega
theorem unzz_fit {u : Nat} (h : u < 18446744073709551616) : -9223372036854775808 ≤ unzz u ∧ unzz u ≤ 9223372036854775807 := by unfold unzz; split <;> omega
end Wm
end Go.Proofs.Ytnejobcbhddpoaa
