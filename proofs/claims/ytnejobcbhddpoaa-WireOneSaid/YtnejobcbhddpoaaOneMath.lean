/- Plain facts: the bytes that a read consumes are the encoding of what it answers. -/
import Derived.Test.YtnejobcbhddpoaaArgs
set_option linter.unusedVariables false
set_option linter.unusedSimpArgs false
namespace Go.Proofs.Ytnejobcbhddpoaa
open Go.ChangeShapes Go.WideShapes Go.ChangeAt Go.RowKit Wm

theorem ext_app (s : ByteArray) (a b c : Nat) (h1 : a ≤ b) (h2 : b ≤ c) : s.extract a b ++ s.extract b c = s.extract a c := by
  apply ByteArray.ext
  rw [ByteArray.data_append, ByteArray.data_extract, ByteArray.data_extract, ByteArray.data_extract, Array.extract_append_extract]
  congr 1 <;> omega
theorem ext_range (s : ByteArray) (p L : Nat) (h : p + L ≤ s.size) : bs ((List.range L).map fun j => UInt8.ofNat (fr s p j)) = s.extract p (p + L) := by
  apply ByteArray.ext
  rw [ByteArray.data_extract]
  apply Array.ext
  · simp [bs]; have : s.size = s.data.size := rfl; omega
  · intro i h1 h2
    have hi : i < L := by simpa [bs] using h1
    have hs : p + i < s.data.size := by have : s.size = s.data.size := rfl; omega
    simp only [bs, List.getElem_toArray, List.getElem_map, List.getElem_range, Array.getElem_extract]
    unfold fr bt gl
    rw [List.getD_eq_getElem?_getD, Array.getElem?_toList, Array.getElem?_eq_getElem hs]
    simp
theorem one_U {s : ByteArray} {p : Nat} (hp : p ≤ s.size) (h : eU s p = 0) : bs (uv (vU s p)) = s.extract p (p + lU s p) := by
  rw [← ext_range s p (lU s p) (by have := lU_le s p; omega)]
  congr 1
  exact n_one (fun j => bt_bd s (p + j)) h
theorem one_I {s : ByteArray} {p : Nat} {lo hi : Int} (hp : p ≤ s.size) (h : eI s p lo hi = 0) : bs (uv (zz (vI s p lo hi))) = s.extract p (p + lI s p lo hi) ∧ Fit (vI s p lo hi) := by
  have h0 : eU s p = 0 := by
    unfold eI at h
    by_cases g : eU s p = 0
    · exact g
    · rw [if_neg g] at h; exact absurd h g
  have e1 : vI s p lo hi = unzz (vU s p) := by unfold vI; rw [if_pos h]
  have e2 : lI s p lo hi = lU s p := by unfold lI; rw [if_pos h]
  rw [e1, e2, zz_unzz]
  exact ⟨one_U hp h0, unzz_fit (vU_lt s p)⟩
theorem one_T {s : ByteArray} {p : Nat} {most : Int} (hp : p ≤ s.size) (h : eT s p most = 0) : txS (tT s p most) = s.extract p (p + lT s p most) ∧ (tT s p most).size ≤ s.size ∧ 0 < lT s p most := by
  have hc : eC s p most = 0 ∧ ¬ s.size - (p + lU s p) < vU s p := by
    unfold eT at h
    by_cases g : eC s p most = 0
    · rw [if_pos g] at h
      by_cases g2 : s.size - (p + lU s p) < vU s p
      · rw [if_pos g2] at h; cases h
      · exact ⟨g, g2⟩
    · rw [if_neg g] at h; exact absurd h g
  obtain ⟨h0, _, _, _⟩ := eC_ok hc.1
  have hl := lU_le s p
  have e1 : tT s p most = s.extract (p + lU s p) (p + lU s p + vU s p) := by unfold tT; rw [if_pos h]
  have e2 : lT s p most = lU s p + vU s p := by unfold lT; rw [if_pos h]
  have hsz : (tT s p most).size = vU s p := by rw [e1, ByteArray.size_extract]; omega
  refine ⟨?_, by rw [hsz]; omega, by rw [e2]; have := nL_pos h0; unfold lU; omega⟩
  unfold txS
  rw [hsz, one_U hp h0, e1, e2, ext_app _ _ _ _ (by omega) (by omega), Nat.add_assoc]
theorem one_ints (s : ByteArray) (lo hi : Int) : ∀ (m q : Nat), q ≤ s.size → (intsF s lo hi m q).2.2 = 0 → (intsF s lo hi m q).1.length = m ∧ bs (bodyI (intsF s lo hi m q).1) = s.extract q (q + (intsF s lo hi m q).2.1) ∧ FitI (intsF s lo hi m q).1 ∧ m + q ≤ q + (intsF s lo hi m q).2.1 ∧ q + (intsF s lo hi m q).2.1 ≤ s.size := by
  intro m
  induction m with
  | zero =>
    intro q hq _
    refine ⟨rfl, ?_, fun z hz => (List.not_mem_nil hz).elim, by show 0 + q ≤ q + 0; omega, hq⟩
    show bs [] = s.extract q (q + 0)
    apply ByteArray.ext
    rw [ByteArray.data_extract]
    simp [bs]
    omega
  | succ m ih =>
    intro q hq h
    obtain ⟨r, hr⟩ : ∃ r, intsF s lo hi m (q + lI s q lo hi) = r := ⟨_, rfl⟩
    have e : intsF s lo hi (m + 1) q = (if eI s q lo hi = 0 then (if r.2.2 = 0 then (vI s q lo hi :: r.1, lI s q lo hi + r.2.1, 0) else ([], 0, r.2.2)) else ([], 0, eI s q lo hi)) := by rw [← hr]; rfl
    rw [e] at h ⊢
    by_cases h1 : eI s q lo hi = 0
    · rw [if_pos h1] at h ⊢
      by_cases h2 : r.2.2 = 0
      · rw [if_pos h2]
        have hl := lI_le s q lo hi
        obtain ⟨i1, i2, i3, i4, i5⟩ := ih (q + lI s q lo hi) (by omega) (by rw [hr]; exact h2)
        rw [hr] at i1 i2 i3 i4 i5
        obtain ⟨o1, o2⟩ := one_I hq h1
        have hpos := lI_pos h1
        refine ⟨by simp [i1], ?_, fun z hz => ?_, by simp only; omega, by simp only; omega⟩
        · show bs (uv (zz (vI s q lo hi)) ++ bodyI r.1) = _
          rw [← bs_app, o1, i2, ext_app _ _ _ _ (by omega) (by omega), Nat.add_assoc]
        · rcases List.mem_cons.1 hz with rfl | hz
          · exact o2
          · exact i3 z hz
      · rw [if_neg h2] at h; exact absurd h h2
    · rw [if_neg h1] at h; exact absurd h h1
theorem one_L {s : ByteArray} {p : Nat} {most lo hi : Int} (hp : p ≤ s.size) (h : (outL s p most lo hi).2.2 = 0) : bs (insL (outL s p most lo hi).1) = s.extract p (p + (outL s p most lo hi).2.1) ∧ FitI (outL s p most lo hi).1 ∧ (outL s p most lo hi).1.length ≤ s.size ∧ 0 < (outL s p most lo hi).2.1 := by
  unfold outL at h ⊢
  by_cases h1 : eC s p most = 0
  · rw [if_pos h1] at h ⊢
    unfold finI at h ⊢
    by_cases h3 : (intsF s lo hi (vU s p) (p + lU s p)).2.2 = 0
    · rw [if_pos h3]
      obtain ⟨h0, _, _, _⟩ := eC_ok h1
      have hl := lU_le s p
      have hpos := nL_pos h0
      obtain ⟨i1, i2, i3, i4, i5⟩ := one_ints s lo hi _ _ (by omega) h3
      simp only [List.nil_append]
      refine ⟨?_, i3, by rw [i1]; omega, by have : 0 < lU s p := hpos; omega⟩
      unfold insL
      rw [← bs_app, i1, one_U hp h0, i2, ext_app _ _ _ _ (by omega) (by omega)]
      congr 1; omega
    · rw [if_neg h3] at h; exact absurd h h3
  · rw [if_neg h1] at h; exact absurd h h1
theorem one_R {s : ByteArray} {p k : Nat} {lo hi most : Int} {n : Nat} {i : Int} {t : ByteArray} {l : List Int} {c : Nat} (hp : p ≤ s.size) (h : outR s p 0 k lo hi most = (n, i, t, l, c, 0)) :
    encF k n i t l = s.extract p (p + c) ∧ 0 < c ∧ n < 18446744073709551616 ∧ Fit i ∧ t.size ≤ s.size ∧ FitI l ∧ l.length ≤ s.size := by
  unfold outR at h
  rw [if_pos rfl] at h
  have f0 : Fit 0 := by unfold Fit; omega
  have n0 : FitI [] := fun z hz => (List.not_mem_nil hz).elim
  unfold encF
  by_cases k0 : k = 0
  · rw [if_pos k0] at h
    simp only [Prod.mk.injEq] at h
    obtain ⟨rfl, rfl, rfl, rfl, rfl, h6⟩ := h
    rw [if_pos k0]
    exact ⟨one_U hp h6, nL_pos h6, vU_lt s p, f0, Nat.zero_le _, n0, Nat.zero_le _⟩
  · rw [if_neg k0] at h
    rw [if_neg k0]
    by_cases k1 : k = 1
    · rw [if_pos k1] at h
      simp only [Prod.mk.injEq] at h
      obtain ⟨rfl, rfl, rfl, rfl, rfl, h6⟩ := h
      rw [if_pos k1]
      exact ⟨(one_I hp h6).1, lI_pos h6, by decide, (one_I hp h6).2, Nat.zero_le _, n0, Nat.zero_le _⟩
    · rw [if_neg k1] at h
      rw [if_neg k1]
      by_cases k2 : k = 2
      · rw [if_pos k2] at h
        simp only [Prod.mk.injEq] at h
        obtain ⟨rfl, rfl, rfl, rfl, rfl, h6⟩ := h
        rw [if_pos k2]
        obtain ⟨a, b, c⟩ := one_T hp h6
        exact ⟨a, c, by decide, f0, b, n0, Nat.zero_le _⟩
      · rw [if_neg k2] at h
        simp only [Prod.mk.injEq] at h
        obtain ⟨rfl, rfl, rfl, rfl, rfl, h6⟩ := h
        rw [if_neg k2]
        obtain ⟨a, b, c, d⟩ := one_L hp h6
        exact ⟨a, d, by decide, f0, Nat.zero_le _, b, c⟩
end Go.Proofs.Ytnejobcbhddpoaa
