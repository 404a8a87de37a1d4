/- Plain facts about the lexer's texts: bytes, blanks and remarks (no program). -/
import Derived.WalkKit
import Derived.ProofKit
import Derived.Laws.BytesArg
import Derived.Laws.RangeString
import Derived.Laws.RangeAny
set_option linter.unusedVariables false
set_option linter.unusedSimpArgs false
namespace Go.Proofs.YtlnfoknghfoffaaDoor
open Go.RowKit
namespace Lm

/-- byte i of a string, 0 behind its end -/
def bt (s : ByteArray) (i : Nat) : Nat := (s.data.toList.getD i 0).toNat
theorem bt_eq (s : ByteArray) (k : Nat) (h : k < s.size) : (s[k].toNat : Int) = (bt s k : Int) := by
  unfold bt
  have h2 : k < s.data.toList.length := by simpa using h
  rw [List.getD_eq_getElem?_getD, List.getElem?_eq_getElem h2]
  rfl
theorem bt_nat (s : ByteArray) (k : Nat) (h : k < s.size) : s[k].toNat = bt s k := by have := bt_eq s k h; omega
theorem bt_bd (s : ByteArray) (k : Nat) : bt s k < 256 := by unfold bt; have := (s.data.toList.getD k 0).toNat_lt; omega
theorem bt_get (s : ByteArray) (k : Nat) (h : k < s.size) : (s.get! k).toNat = bt s k := by
  rw [← bt_nat s k h]
  simp [ByteArray.get!, getElem!_pos, h]
  rfl
theorem bt_over (s : ByteArray) (k : Nat) (h : s.size ≤ k) : bt s k = 0 := by
  unfold bt
  rw [List.getD_eq_getElem?_getD, List.getElem?_eq_none (by simpa using h)]
  rfl
theorem bt_extract (s : ByteArray) (p q i : Nat) (hq : q ≤ s.size) (h : p + i < q) : bt (s.extract p q) i = bt s (p + i) := by
  unfold bt
  rw [List.getD_eq_getElem?_getD, List.getD_eq_getElem?_getD, ByteArray.data_extract, Array.getElem?_toList, Array.getElem?_toList, Array.getElem?_extract]
  have : s.size = s.data.size := rfl
  rw [if_pos (by omega)]
/-- the rest of a string from a place on -/
def rs (s : ByteArray) (p : Nat) : ByteArray := s.extract p s.size
theorem rs_size (s : ByteArray) (p : Nat) : (rs s p).size = s.size - p := by unfold rs; rw [ByteArray.size_extract]; omega
theorem rs_zero (s : ByteArray) : rs s 0 = s := by unfold rs; simp
theorem bt_rs (s : ByteArray) (p i : Nat) : bt (rs s p) i = bt s (p + i) := by
  by_cases h : p + i < s.size
  · exact bt_extract s p s.size i (Nat.le_refl _) h
  · rw [bt_over _ _ (by rw [rs_size]; omega), bt_over _ _ (by omega)]
theorem rs_take (s : ByteArray) (p u : Nat) (h : p + u ≤ s.size) : (rs s p).extract 0 u = s.extract p (p + u) := by unfold rs; rw [ByteArray.extract_extract]; congr 1; omega

/-- the rune at a place of a byte above 127: it takes only such bytes -/
theorem dec_wide (s : ByteArray) (p : Nat) (h : p < s.size) (hb : 128 ≤ bt s p) : 1 ≤ (Utf8.decode s p).2 ∧ p + (Utf8.decode s p).2 ≤ s.size ∧ ∀ j, j < (Utf8.decode s p).2 → 128 ≤ bt s (p + j) := by
  have e0 : (s.get! (p + 0)).toNat = bt s p := bt_get s p h
  have one : 1 ≤ 1 ∧ p + 1 ≤ s.size ∧ ∀ j, j < 1 → 128 ≤ bt s (p + j) := ⟨Nat.le_refl _, h, fun j hj => (show j = 0 by omega) ▸ hb⟩
  have hc : ∀ k, (decide (p + k < s.size) && (s.get! (p + k)).toNat / 64 == 2) = true → p + k < s.size ∧ 128 ≤ bt s (p + k) := fun k hk => by
    rw [Bool.and_eq_true, decide_eq_true_eq, beq_iff_eq] at hk
    refine ⟨hk.1, ?_⟩
    rw [← bt_get s _ hk.1]
    omega
  unfold Utf8.decode
  simp only [e0]
  rw [if_neg (by omega)]
  split
  · rename_i g
    rw [Bool.and_eq_true] at g
    have g1 := hc 1 g.2
    split
    · refine ⟨by omega, by simp only; omega, fun j hj => ?_⟩
      simp only at hj
      rcases (show j = 0 ∨ j = 1 by omega) with rfl | rfl
      · exact hb
      · exact g1.2
    · exact one
  · split
    · rename_i g
      rw [Bool.and_eq_true, Bool.and_eq_true] at g
      have g1 := hc 1 g.1.2
      have g2 := hc 2 g.2
      split
      · refine ⟨by omega, by simp only; omega, fun j hj => ?_⟩
        simp only at hj
        rcases (show j = 0 ∨ j = 1 ∨ j = 2 by omega) with rfl | rfl | rfl
        · exact hb
        · exact g1.2
        · exact g2.2
      · exact one
    · split
      · rename_i g
        rw [Bool.and_eq_true, Bool.and_eq_true, Bool.and_eq_true] at g
        have g1 := hc 1 g.1.1.2
        have g2 := hc 2 g.1.2
        have g3 := hc 3 g.2
        split
        · refine ⟨by omega, by simp only; omega, fun j hj => ?_⟩
          simp only at hj
          rcases (show j = 0 ∨ j = 1 ∨ j = 2 ∨ j = 3 by omega) with rfl | rfl | rfl | rfl
          · exact hb
          · exact g1.2
          · exact g2.2
          · exact g3.2
        · exact one
      · exact one

/-! blanks and remarks -/
def sk (s : ByteArray) : Nat → Bool → Nat → Nat
  | 0, _, p => p
  | n + 1, r, p => if bt s p = 10 then sk s n false (p + 1) else if r = true ∨ bt s p = 32 then sk s n r (p + 1) else if bt s p = 35 then sk s n true (p + 1) else p
/-- the place behind the blanks and remarks from p on; r says whether p stands in a remark -/
def skS (s : ByteArray) (r : Bool) (p : Nat) : Nat := sk s (s.size - p) r p
theorem skS_end {s : ByteArray} {r : Bool} {p : Nat} (h : ¬ p < s.size) : skS s r p = p := by
  unfold skS; rw [show s.size - p = 0 by omega]; rfl
theorem skS_step {s : ByteArray} {r : Bool} {p : Nat} (h : p < s.size) : skS s r p = if bt s p = 10 then skS s false (p + 1) else if r = true ∨ bt s p = 32 then skS s r (p + 1) else if bt s p = 35 then skS s true (p + 1) else p := by
  unfold skS; rw [show s.size - p = (s.size - (p + 1)) + 1 by omega]; rfl
theorem skS_nl {s : ByteArray} {r : Bool} {p : Nat} (h : p < s.size) (hb : bt s p = 10) : skS s r p = skS s false (p + 1) := by rw [skS_step h, if_pos hb]
theorem skS_rem {s : ByteArray} {p : Nat} (h : p < s.size) (hb : bt s p ≠ 10) : skS s true p = skS s true (p + 1) := by rw [skS_step h, if_neg hb, if_pos (.inl rfl)]
theorem skS_sp {s : ByteArray} {r : Bool} {p : Nat} (h : p < s.size) (hb : bt s p = 32) : skS s r p = skS s r (p + 1) := by rw [skS_step h, if_neg (by omega), if_pos (.inr hb)]
theorem skS_hash {s : ByteArray} {r : Bool} {p : Nat} (h : p < s.size) (hb : bt s p = 35) : skS s r p = skS s true (p + 1) := by
  cases r
  · rw [skS_step h, if_neg (by omega), if_neg (by simp; omega), if_pos hb]
  · exact skS_rem h (by omega)
theorem skS_stop {s : ByteArray} {p : Nat} (h : p < s.size) (h1 : bt s p ≠ 10) (h2 : bt s p ≠ 32) (h3 : bt s p ≠ 35) : skS s false p = p := by rw [skS_step h, if_neg h1, if_neg (by simp; omega), if_neg h3]
theorem skS_run {s : ByteArray} : ∀ (n p : Nat), p + n ≤ s.size → (∀ j, j < n → 128 ≤ bt s (p + j)) → skS s true p = skS s true (p + n)
  | 0, p, _, _ => rfl
  | n + 1, p, h, hb => by
    have := hb 0 (by omega)
    rw [skS_rem (show p < s.size by omega) (by rw [Nat.add_zero] at this; omega), skS_run n (p + 1) (by omega) (fun j hj => by have := hb (j + 1) (by omega); rwa [show p + 1 + j = p + (j + 1) by omega]), show p + 1 + n = p + (n + 1) by omega]
theorem skS_bd {s : ByteArray} : ∀ (n : Nat) (r : Bool) (p : Nat), s.size - p = n → p ≤ s.size → p ≤ skS s r p ∧ skS s r p ≤ s.size
  | 0, r, p, hn, hp => by rw [skS_end (by omega)]; omega
  | n + 1, r, p, hn, hp => by
    have h1 := skS_bd (s := s) n false (p + 1) (by omega) (by omega)
    have h2 := skS_bd (s := s) n r (p + 1) (by omega) (by omega)
    have h3 := skS_bd (s := s) n true (p + 1) (by omega) (by omega)
    rw [skS_step (by omega)]
    split
    · omega
    · split
      · omega
      · split <;> omega
theorem skS_ge {s : ByteArray} (r : Bool) {p : Nat} (hp : p ≤ s.size) : p ≤ skS s r p := (skS_bd _ r p rfl hp).1
theorem skS_le {s : ByteArray} (r : Bool) {p : Nat} (hp : p ≤ s.size) : skS s r p ≤ s.size := (skS_bd _ r p rfl hp).2
theorem skS_rs {s : ByteArray} (q : Nat) (hq : q ≤ s.size) : ∀ (n : Nat) (r : Bool) (k : Nat), s.size - (q + k) = n → q + skS (rs s q) r k = skS s r (q + k)
  | 0, r, k, hn => by rw [skS_end (s := s) (by omega), skS_end (by rw [rs_size]; omega)]
  | n + 1, r, k, hn => by
    have hk : k < (rs s q).size := by rw [rs_size]; omega
    have h1 := skS_rs (s := s) q hq n false (k + 1) (by omega)
    have h2 := skS_rs (s := s) q hq n r (k + 1) (by omega)
    have h3 := skS_rs (s := s) q hq n true (k + 1) (by omega)
    rw [skS_step hk, skS_step (s := s) (show q + k < s.size by omega), bt_rs]
    rw [show q + (k + 1) = q + k + 1 by omega] at h1 h2 h3
    split
    · exact h1
    · split
      · exact h2
      · split
        · exact h3
        · rfl
/-- one round of a walk over runes -/
theorem gap_go (s : ByteArray) (k : Nat) (r : Bool) (h : k < s.size) :
    ((Utf8.decode s k).1 = 10 → skS s r k = skS s false (k + (Utf8.decode s k).2)) ∧ ((Utf8.decode s k).1 = 35 → skS s r k = skS s true (k + (Utf8.decode s k).2)) ∧
    ((Utf8.decode s k).1 = 32 → skS s r k = skS s r (k + (Utf8.decode s k).2)) ∧ ((Utf8.decode s k).1 ≠ 10 → skS s true k = skS s true (k + (Utf8.decode s k).2)) ∧
    ((Utf8.decode s k).1 ≠ 10 → (Utf8.decode s k).1 ≠ 35 → (Utf8.decode s k).1 ≠ 32 → skS s false k = k) ∧ 1 ≤ (Utf8.decode s k).2 ∧ k + (Utf8.decode s k).2 ≤ s.size := by
  rcases Nat.lt_or_ge (bt s k) 128 with hb | hb
  · rw [decode_ascii s k h (by rw [bt_nat s k h]; exact hb), bt_nat s k h]
    refine ⟨fun e => skS_nl h e, fun e => skS_hash h e, fun e => skS_sp h e, fun e => skS_rem h e, fun e1 e2 e3 => skS_stop h e1 e3 e2, Nat.le_refl _, h⟩
  · have h1 := (decode_high s k h (by rw [bt_nat s k h]; exact hb)).1
    obtain ⟨h2, h3, h4⟩ := dec_wide s k h hb
    exact ⟨fun e => by omega, fun e => by omega, fun e => by omega, fun _ => skS_run _ k h3 h4, fun _ _ _ => skS_stop h (by omega) (by omega) (by omega), h2, h3⟩
end Lm
end Go.Proofs.YtlnfoknghfoffaaDoor
