/- What plainNumber and twoDigitNumber accept is the numeral of what they answer, and they accept every numeral; the cuts join again. -/
import Derived.Test.YthpopopodjgdaaaDoorNumB
import Derived.Test.YthpopopodjgdaaaDoorFormG
import Derived.Lib.IndexLaws
set_option linter.unusedVariables false
set_option linter.unusedSimpArgs false
namespace Go.Proofs.YthpopopodjgdaaaDoor
open Go.ChangeShapes Go.WideShapes Go.ChangeAt Go.RowKit Km

theorem ba_of (c : ByteArray) : (⟨(lst c).toArray⟩ : ByteArray) = c := by cases c; unfold lst; simp
theorem numS_is {s : ByteArray} {g v : Int} (h : numS s g = (v, true)) : digs (lst s) = true ∧ v = (vl 0 (lst s) : Int) ∧ 0 < s.size := by
  unfold numS finN at h
  by_cases k : (numF s g s.size 0 0).2 = true
  · rw [if_pos k] at h
    injection h with a b
    have e : numF s g s.size 0 ((0 : Nat) : Int) = (v, true) := Prod.ext a k
    obtain ⟨i1, i2⟩ := num_is s.size 0 0 v (by omega) e
    rw [List.drop_zero] at i1 i2
    exact ⟨i1, i2, of_decide_eq_true b⟩
  · rw [if_neg k] at h; injection h with _ b; cases b
theorem lst_zero {c : ByteArray} (h : 0 < c.size) {l : List UInt8} (e : lst c = 48 :: l) : (c.get! 0).toNat = 48 := by
  have h1 : c.get! 0 = c[0] := by simp [ByteArray.get!, getElem!_pos, h]; rfl
  have h2 := lst_at c 0 h
  rw [List.drop_zero, e] at h2
  injection h2 with h3 _
  rw [h1, ← h3]; rfl
theorem plS_is {c : ByteArray} {v : Int} (h : plS c = (v, true)) : c = itS v.toNat := by
  unfold plS at h
  by_cases k : 1 < c.size ∧ (c.get! 0).toNat = 48
  · rw [if_pos k] at h; injection h with _ b; cases b
  · rw [if_neg k] at h
    obtain ⟨i1, i2, i3⟩ := numS_is h
    obtain ⟨c1, c2⟩ := canon (c.size - 1) (lst c) (by rw [lst_len]; omega) i1
    have hv : v.toNat = vl 0 (lst c) := by omega
    have hz : (lst c).length - Lib.nDigits (vl 0 (lst c)) = 0 := by
      rcases Nat.eq_zero_or_pos ((lst c).length - Lib.nDigits (vl 0 (lst c))) with z | z
      · exact z
      · exfalso
        have hp := Lib.nDigits_pos (vl 0 (lst c))
        have hl : (lst c).length = c.size := lst_len c
        obtain ⟨j, hj⟩ : ∃ j, (lst c).length - Lib.nDigits (vl 0 (lst c)) = j + 1 := ⟨(lst c).length - Lib.nDigits (vl 0 (lst c)) - 1, by omega⟩
        rw [hj, List.replicate_succ, List.cons_append] at c2
        exact k ⟨by omega, lst_zero i3 c2⟩
    rw [hz, List.replicate_zero, List.nil_append] at c2
    unfold itS
    rw [hv, ← c2, ba_of]
theorem td_all : ∀ i, i < 10 → ∀ j, j < 10 → tdS (i * 10 + j) = (⟨#[UInt8.ofNat (48 + i), UInt8.ofNat (48 + j)]⟩ : ByteArray) := by decide +kernel
theorem twS_is {c : ByteArray} {v l : Int} (h : twS c l = (v, true)) : c = tdS v.toNat := by
  unfold twS at h
  by_cases k : c.size = 2
  · rw [if_pos k] at h
    obtain ⟨i1, i2, i3⟩ := numS_is h
    have hl : (lst c).length = 2 := by rw [lst_len]; exact k
    obtain ⟨a, b, hab⟩ : ∃ a b, lst c = [a, b] := by
      revert hl
      generalize lst c = q
      intro hl
      match q, hl with
      | [a, b], _ => exact ⟨a, b, rfl⟩
    have hv : v.toNat = vl 0 (lst c) := by omega
    rw [hv, ← ba_of c, ba_of c, hab]
    rw [hab] at i1
    have hd : isD a = true ∧ isD b = true := by
      unfold digs at i1
      rw [List.all_cons, List.all_cons, Bool.and_eq_true, Bool.and_eq_true] at i1
      exact ⟨i1.1, i1.2.1⟩
    obtain ⟨i, e1, e2, e3⟩ := chr_dig hd.1
    obtain ⟨j, f1, f2, f3⟩ := chr_dig hd.2
    have hw : vl 0 [a, b] = i * 10 + j := by rw [vl_cons, vl_one]; omega
    rw [hw, td_all i e1 j f1, ← ba_of c, hab, e3, f3]
  · rw [if_neg k] at h; injection h with _ b; cases b
theorem num_of {s : ByteArray} {g : Int} : ∀ (f p a : Nat), s.size - p ≤ f → digs ((lst s).drop p) = true → (vl a ((lst s).drop p) : Int) ≤ g → numF s g f p a = ((vl a ((lst s).drop p) : Int), true)
  | 0, p, a, hf, _, _ => by
    rw [List.drop_eq_nil_of_le (by rw [lst_len]; omega)]; rfl
  | f + 1, p, a, hf, hd, hg => by
    by_cases hp : p < s.size
    · rw [numF_go hp hf]
      rw [lst_at s p hp] at hd hg ⊢
      rw [vl_cons] at hg ⊢
      unfold digs at hd
      rw [List.all_cons, Bool.and_eq_true] at hd
      obtain ⟨r1, r2, r3, r4⟩ := rn_of hp hd.1
      rw [if_neg (by omega), r2, Nat.add_sub_cancel]
      have hge := vl_ge ((lst s).drop (p + 1)) (a * 10 + (s[p].toNat - 48))
      have e0 : 10 * (a : Int) + (rn s p - 48) = ((a * 10 + (s[p].toNat - 48) : Nat) : Int) := by omega
      rw [e0, if_neg (by omega)]
      exact num_of f (p + 1) _ (by omega) hd.2 hg
    · rw [numF_end hp, List.drop_eq_nil_of_le (by rw [lst_len]; omega)]; rfl
theorem itS_lst (n : Nat) : lst (itS n) = Lib.decDigits n := by unfold lst itS; simp
theorem plS_of (n : Nat) (h : n ≤ 1000000) : plS (itS n) = ((n : Int), true) := by
  obtain ⟨d1, d2, d3⟩ := dec_facts n
  have hl : (itS n).size = Lib.nDigits n := by rw [← lst_len, itS_lst, Lib.decDigits_length]
  have hp := Lib.nDigits_pos n
  have hn := num_of (s := itS n) (g := 1099511627776) (itS n).size 0 0 (by omega) (by rw [List.drop_zero, itS_lst]; exact d1) (by rw [List.drop_zero, itS_lst, d2]; omega)
  rw [List.drop_zero, itS_lst, d2] at hn
  unfold plS
  rw [if_neg]
  · unfold numS finN
    rw [show ((0 : Int)) = ((0 : Nat) : Int) from rfl, hn, if_pos rfl, decide_eq_true (by omega)]
  · intro ⟨k1, k2⟩
    have h0 : 0 < (itS n).size := by omega
    have h1 : (itS n).get! 0 = (itS n)[0] := by simp [ByteArray.get!, getElem!_pos, h0]; rfl
    have h2 := lst_at (itS n) 0 h0
    rw [List.drop_zero, itS_lst] at h2
    have h3 : (itS n)[0] = 48 := UInt8.toNat.inj (by rw [← h1, k2]; rfl)
    refine d3 ?_ (by rw [h2, h3]; rfl)
    rcases Nat.eq_zero_or_pos n with g | g
    · rw [hl, g, Lib.nDigits_small (by omega)] at k1; omega
    · exact g
theorem twS_of24 : ∀ n, n < 24 → twS (tdS n) 24 = ((n : Int), true) := by decide +kernel
theorem twS_of60 : ∀ n, n < 60 → twS (tdS n) 60 = ((n : Int), true) := by decide +kernel
end Go.Proofs.YthpopopodjgdaaaDoor
