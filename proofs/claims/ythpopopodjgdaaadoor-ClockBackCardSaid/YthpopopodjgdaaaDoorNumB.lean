/- Plain facts about numerals: what numS reads is the numeral of what it answers, and it reads every numeral up to its bound (no program). -/
import Derived.Test.YthpopopodjgdaaaDoorParseH
import Derived.Lib.ItoaNum
import Derived.Laws.RangeAny
set_option linter.unusedVariables false
set_option linter.unusedSimpArgs false
namespace Go.Proofs.YthpopopodjgdaaaDoor
open Go.ChangeShapes Go.WideShapes Go.ChangeAt Go.RowKit Km

def isD (c : UInt8) : Bool := decide (48 ≤ c.toNat ∧ c.toNat ≤ 57)
def digs (l : List UInt8) : Bool := l.all isD
def vl (acc : Nat) (l : List UInt8) : Nat := l.foldl (fun a c => a * 10 + (c.toNat - 48)) acc
theorem vl_app (acc : Nat) (x y : List UInt8) : vl acc (x ++ y) = vl (vl acc x) y := by unfold vl; rw [List.foldl_append]
theorem vl_one (acc : Nat) (c : UInt8) : vl acc [c] = acc * 10 + (c.toNat - 48) := rfl
theorem vl_cons (acc : Nat) (c : UInt8) (l : List UInt8) : vl acc (c :: l) = vl (acc * 10 + (c.toNat - 48)) l := by unfold vl; rw [List.foldl_cons]
theorem vl_ge : ∀ (l : List UInt8) (acc : Nat), acc ≤ vl acc l := by
  intro l
  induction l with
  | nil => intro acc; exact Nat.le_refl _
  | cons c r ih => intro acc; have := ih (acc * 10 + (c.toNat - 48)); unfold vl at *; rw [List.foldl_cons]; omega
theorem dig_chr {d : Nat} (h : d < 10) : (UInt8.ofNat (48 + d)).toNat = 48 + d := by
  rw [UInt8.toNat_ofNat']; omega
theorem chr_dig {c : UInt8} (h : isD c = true) : ∃ d, d < 10 ∧ c.toNat = 48 + d ∧ c = UInt8.ofNat (48 + d) := by
  unfold isD at h
  have hc : 48 ≤ c.toNat ∧ c.toNat ≤ 57 := by simpa using h
  refine ⟨c.toNat - 48, by omega, by omega, ?_⟩
  rw [show 48 + (c.toNat - 48) = c.toNat by omega]
  exact (UInt8.ofNat_toNat).symm
theorem isD_ofNat {d : Nat} (h : d < 10) : isD (UInt8.ofNat (48 + d)) = true := by
  unfold isD; rw [dig_chr h]; simp; omega
theorem digs_app (x y : List UInt8) : digs (x ++ y) = (digs x && digs y) := by unfold digs; rw [List.all_append]
theorem digs_one {c : UInt8} (h : isD c = true) : digs [c] = true := by unfold digs; rw [List.all_cons, h]; rfl
theorem dec_step {u : Nat} (h : 10 ≤ u) : Lib.decDigits u = Lib.decDigits (u / 10) ++ [UInt8.ofNat (48 + u % 10)] := by
  rw [Lib.decDigits, dif_neg (by omega)]
theorem dec_facts (u : Nat) : digs (Lib.decDigits u) = true ∧ vl 0 (Lib.decDigits u) = u ∧ (1 ≤ u → (Lib.decDigits u)[0]? ≠ some 48) := by
  induction u using Nat.strongRecOn with
  | _ u ih =>
    by_cases h : u < 10
    · rw [Lib.decDigits_one h]
      refine ⟨digs_one (isD_ofNat h), by rw [vl_one, dig_chr h]; omega, fun g e => ?_⟩
      have e2 : UInt8.ofNat (48 + u) = 48 := by simpa using e
      have := dig_chr h
      rw [e2] at this
      have : (48 : UInt8).toNat = 48 := rfl
      omega
    · obtain ⟨i1, i2, i3⟩ := ih (u / 10) (by omega)
      rw [dec_step (by omega)]
      have hm : u % 10 < 10 := by omega
      refine ⟨by rw [digs_app, i1, digs_one (isD_ofNat hm)]; rfl, by rw [vl_app, i2, vl_one, dig_chr hm]; omega, fun _ => ?_⟩
      have hl : 0 < (Lib.decDigits (u / 10)).length := by rw [Lib.decDigits_length]; exact Lib.nDigits_pos _
      rw [List.getElem?_append_left hl]
      exact i3 (by omega)
theorem vl_zeros (z acc : Nat) (h : acc = 0) : vl acc (List.replicate z 48) = 0 := by
  subst h
  induction z with
  | zero => rfl
  | succ z ih => rw [List.replicate_succ']; rw [vl_app, ih, vl_one]; rfl
theorem digs_zeros (z : Nat) : digs (List.replicate z 48) = true := by
  unfold digs; rw [List.all_eq_true]; intro x hx; rw [List.eq_of_mem_replicate hx]; rfl
/-- digits are the numeral of what they spell, with zeros ahead -/
theorem canon (m : Nat) : ∀ (l : List UInt8), l.length = m + 1 → digs l = true → Lib.nDigits (vl 0 l) ≤ l.length ∧ l = List.replicate (l.length - Lib.nDigits (vl 0 l)) 48 ++ Lib.decDigits (vl 0 l) := by
  induction m with
  | zero =>
    intro l hl hd
    obtain ⟨c, rfl⟩ := List.length_eq_one_iff.1 hl
    obtain ⟨d, h1, h2, h3⟩ := chr_dig (c := c) (by unfold digs at hd; simpa using hd)
    have e : vl 0 [c] = d := by rw [vl_one]; omega
    rw [e, Lib.nDigits_small h1, Lib.decDigits_one h1, h3]
    exact ⟨Nat.le_refl _, by simp⟩
  | succ m ih =>
    intro l hl hd
    have hne : l ≠ [] := fun g => by rw [g] at hl; cases hl
    obtain ⟨x, c, rfl⟩ : ∃ x c, l = x ++ [c] := ⟨l.dropLast, l.getLast hne, (List.dropLast_concat_getLast hne).symm⟩
    rw [digs_app, Bool.and_eq_true] at hd
    have hx : x.length = m + 1 := by rw [List.length_append] at hl; simpa using hl
    obtain ⟨i1, i2⟩ := ih x hx hd.1
    obtain ⟨d, h1, h2, h3⟩ := chr_dig (c := c) (by have := hd.2; unfold digs at this; simpa using this)
    have e : vl 0 (x ++ [c]) = vl 0 x * 10 + d := by rw [vl_app, vl_one]; omega
    rw [e, List.length_append, hx, List.length_singleton]
    rw [hx] at i1 i2
    generalize hv : vl 0 x = v at *
    by_cases hv0 : v = 0
    · subst hv0
      rw [Lib.nDigits_small (by omega : 0 * 10 + d < 10), Lib.decDigits_one (by omega : 0 * 10 + d < 10)]
      refine ⟨by omega, ?_⟩
      rw [Lib.nDigits_small (by omega : 0 < 10), Lib.decDigits_one (by omega : 0 < 10)] at i2
      rw [i2, h3]
      rw [show m + 1 + 1 - 1 = m + 1 by omega, show m + 1 - 1 = m by omega, List.replicate_succ', Nat.zero_mul, Nat.zero_add]
      rfl
    · rw [Lib.nDigits_big (by omega : ¬ v * 10 + d < 10), dec_step (by omega : 10 ≤ v * 10 + d), show (v * 10 + d) / 10 = v by omega, show (v * 10 + d) % 10 = d by omega]
      refine ⟨by omega, ?_⟩
      rw [show m + 1 + 1 - (Lib.nDigits v + 1) = m + 1 - Lib.nDigits v by omega, ← List.append_assoc, ← i2, ← h3]

def lst (s : ByteArray) : List UInt8 := s.data.toList
theorem lst_len (s : ByteArray) : (lst s).length = s.size := by unfold lst; simp
theorem lst_at (s : ByteArray) (p : Nat) (h : p < s.size) : (lst s).drop p = s[p] :: (lst s).drop (p + 1) := by
  unfold lst
  rw [List.drop_eq_getElem_cons (by simpa using h)]
  rfl
theorem rn_dig {s : ByteArray} {p : Nat} (h : p < s.size) (h1 : ¬ (rn s p < 48 ∨ 57 < rn s p)) : isD s[p] = true ∧ rn s p = (s[p].toNat : Int) ∧ rl s p = 1 := by
  unfold rn at h1
  rcases Nat.lt_or_ge (s[p].toNat) 128 with g | g
  · have e := Go.decode_ascii s p h g
    rw [e] at h1
    unfold rn rl
    rw [e]
    refine ⟨?_, rfl, rfl⟩
    unfold isD
    simp only [] at h1
    exact decide_eq_true (by omega)
  · have := (Go.decode_high s p h g).1
    omega
theorem rn_of {s : ByteArray} {p : Nat} (h : p < s.size) (h1 : isD s[p] = true) : rn s p = (s[p].toNat : Int) ∧ rl s p = 1 ∧ 48 ≤ s[p].toNat ∧ s[p].toNat ≤ 57 := by
  have hb := of_decide_eq_true (show decide (48 ≤ s[p].toNat ∧ s[p].toNat ≤ 57) = true from h1)
  have e := Go.decode_ascii s p h (by omega)
  unfold rn rl
  rw [e]
  exact ⟨rfl, rfl, hb.1, hb.2⟩
theorem num_is {s : ByteArray} {g : Int} : ∀ (f p a : Nat) (v : Int), s.size - p ≤ f → numF s g f p a = (v, true) → digs ((lst s).drop p) = true ∧ v = (vl a ((lst s).drop p) : Int)
  | 0, p, a, v, hf, h => by
    injection h with e _
    rw [List.drop_eq_nil_of_le (by rw [lst_len]; omega)]
    exact ⟨rfl, e.symm⟩
  | f + 1, p, a, v, hf, h => by
    by_cases hp : p < s.size
    · rw [numF_go hp hf] at h
      by_cases h2 : rn s p < 48 ∨ 57 < rn s p
      · rw [if_pos h2] at h; injection h with _ e; cases e
      · rw [if_neg h2] at h
        obtain ⟨d1, d2, d3⟩ := rn_dig hp h2
        by_cases h3 : g < 10 * (a : Int) + (rn s p - 48)
        · rw [if_pos h3] at h; injection h with _ e; cases e
        · rw [if_neg h3, d3] at h
          have e0 : 10 * (a : Int) + (rn s p - 48) = ((a * 10 + (s[p].toNat - 48) : Nat) : Int) := by omega
          rw [e0] at h
          obtain ⟨i1, i2⟩ := num_is f (p + 1) (a * 10 + (s[p].toNat - 48)) v (by omega) h
          rw [lst_at s p hp, vl_cons]
          exact ⟨by unfold digs; rw [List.all_cons, d1]; exact i1, i2⟩
    · rw [numF_end hp] at h
      injection h with e _
      rw [List.drop_eq_nil_of_le (by rw [lst_len]; omega)]
      exact ⟨rfl, e.symm⟩
end Go.Proofs.YthpopopodjgdaaaDoor
