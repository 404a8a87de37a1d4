/- Codes and their splitting undo each other; codes are ordered as their numbers are. Plain facts. -/
import Derived.Test.YtdebkicmoocnmaaMath
import Derived.Lib.Bytes
set_option linter.unusedVariables false
set_option linter.unusedSimpArgs false
open Go.RowKit
namespace Go.Proofs.Ytdebkicmoocnmaa
namespace Idm

theorem codeL_bd {kind n : Int} (hk : cpB kind = true) (h0 : 0 ≤ n) (h1 : n ≤ 999999) : ∀ i, i < 8 → 0 ≤ (codeL kind n).getD i 0 ∧ (codeL kind n).getD i 0 ≤ 255 := by
  intro i hi
  have hc := cl_bd kind n
  unfold cpB at hk; simp at hk
  rcases i with _ | _ | _ | _ | _ | _ | _ | _ | i <;> (try omega) <;> (simp [codeL, cw]; omega)
theorem code_size (kind n : Int) : (codeS kind n).size = 8 := by unfold codeS; rw [strOfNums_size]; rfl
theorem code_bt {kind n : Int} (hk : cpB kind = true) (h0 : 0 ≤ n) (h1 : n ≤ 999999) (i : Nat) (hi : i < 8) : bt (codeS kind n) i = (codeL kind n).getD i 0 :=
  bt_str _ i (by simpa [codeL, cw] using hi) (codeL_bd hk h0 h1 i hi)
theorem code_chk {kind n : Int} (hk : cpB kind = true) (h0 : 0 ≤ n) (h1 : n ≤ 999999) : chk (codeS kind n) = cl kind n := by
  unfold chk cl
  rw [lm_congr (g := fun i => (cw kind n).getD i 0) (fun i hi => by
    rw [code_bt hk h0 h1 i (by omega)]
    rcases i with _ | _ | _ | _ | _ | _ | _ | i <;> (try omega) <;> rfl)]
theorem dgB_of {c : Int} (h : 48 ≤ c ∧ c ≤ 57) : dgB c = true := by unfold dgB; simpa using h
theorem code_split {kind n : Int} (hk : cpB kind = true) (h0 : 0 ≤ n) (h1 : n ≤ 999999) :
    spE (codeS kind n) = 0 ∧ spK (codeS kind n) = kind ∧ spN (codeS kind n) = n := by
  have b := code_bt hk h0 h1
  have e : spE (codeS kind n) = 0 := by
    refine spE_ok (code_size _ _) (by rw [b 0 (by omega)]; exact hk) ?_ (by rw [code_chk hk h0 h1, b 7 (by omega)]; rfl)
    refine dgN_step (dgN_step (dgN_step (dgN_step (dgN_step (dgN_step rfl ?_) ?_) ?_) ?_) ?_) ?_ <;>
      (rw [b _ (by omega)]; apply dgB_of; simp [codeL, cw]; omega)
  refine ⟨e, ?_, ?_⟩
  · unfold spK; rw [if_pos e, b 0 (by omega)]; rfl
  · unfold spN; rw [if_pos e]
    unfold nums
    simp only [nu, b 1 (by omega), b 2 (by omega), b 3 (by omega), b 4 (by omega), b 5 (by omega), b 6 (by omega), Nat.zero_add, Nat.reduceAdd]
    simp [codeL, cw]
    omega
theorem str_bt (s : ByteArray) : strOfNums ((List.range s.size).map (bt s)) = s := by
  apply ByteArray.ext
  apply Array.toList_inj.1
  rw [strOfNums_data]
  apply List.ext_getElem
  · simp
  · intro i h1 h2
    have h3 : i < s.size := by simpa using h2
    simp only [List.getElem_map, List.getElem_range]
    unfold bt
    rw [List.getD_eq_getElem?_getD, List.getElem?_eq_getElem h2]
    simp
theorem code_back {s : ByteArray} (h : spE s = 0) : cE (spK s) (spN s) = 0 ∧ cS (spK s) (spN s) = s ∧ cpB (spK s) = true := by
  obtain ⟨h8, hc, hd, hs⟩ := spE_inv h
  have eK : spK s = bt s 0 := by unfold spK; rw [if_pos h]
  have eN : spN s = nums s := by unfold spN; rw [if_pos h]
  have hb := nu_lt (Nat.le_refl 6) (fun i hi => dgN_at hd i hi)
  have d1 := dg_bd (dgN_at hd 0 (by omega))
  have d2 := dg_bd (dgN_at hd 1 (by omega))
  have d3 := dg_bd (dgN_at hd 2 (by omega))
  have d4 := dg_bd (dgN_at hd 3 (by omega))
  have d5 := dg_bd (dgN_at hd 4 (by omega))
  have d6 := dg_bd (dgN_at hd 5 (by omega))
  have en : nums s = 100000 * (bt s 1 - 48) + 10000 * (bt s 2 - 48) + 1000 * (bt s 3 - 48) + 100 * (bt s 4 - 48) + 10 * (bt s 5 - 48) + (bt s 6 - 48) := by
    unfold nums
    simp only [nu, Nat.zero_add, Nat.reduceAdd]
    omega
  simp only [Nat.zero_add, Nat.reduceAdd] at d1 d2 d3 d4 d5 d6
  have ew : cw (bt s 0) (nums s) = [bt s 0, bt s 1, bt s 2, bt s 3, bt s 4, bt s 5, bt s 6] := by
    unfold cw
    rw [show 48 + nums s / 100000 % 10 = bt s 1 by omega, show 48 + nums s / 10000 % 10 = bt s 2 by omega, show 48 + nums s / 1000 % 10 = bt s 3 by omega, show 48 + nums s / 100 % 10 = bt s 4 by omega, show 48 + nums s / 10 % 10 = bt s 5 by omega, show 48 + nums s % 10 = bt s 6 by omega]
  have el : cl (bt s 0) (nums s) = bt s 7 := by
    rw [hs]; unfold cl chk
    rw [lm_congr (g := bt s) (fun i hi => by
      rw [ew]
      rcases i with _ | _ | _ | _ | _ | _ | _ | i <;> (try omega) <;> rfl)]
  have eL : codeL (bt s 0) (nums s) = (List.range s.size).map (bt s) := by
    unfold codeL
    rw [ew, el, h8]; rfl
  have y := c_yes (n := nums s) hc hb.1 hb.2
  rw [eK, eN]
  exact ⟨y.1, by rw [y.2]; unfold codeS; rw [eL, str_bt], hc⟩
theorem code_inj {kind n m : Int} (hk : cpB kind = true) (h0 : 0 ≤ n) (h1 : n ≤ 999999) (g0 : 0 ≤ m) (g1 : m ≤ 999999) (h : codeS kind n = codeS kind m) : n = m := by
  rw [← (code_split hk h0 h1).2.2, h, (code_split hk g0 g1).2.2]

theorem bl_cons (x y : Int) (xs ys : List Int) (hx : 0 ≤ x ∧ x ≤ 255) (hy : 0 ≤ y ∧ y ≤ 255) :
    Op.bytesLess (Lib.bytesOf (x :: xs)) (Lib.bytesOf (y :: ys)) = (decide (x < y) || (decide (x = y) && Op.bytesLess (Lib.bytesOf xs) (Lib.bytesOf ys))) := by
  unfold Lib.bytesOf
  simp only [List.map_cons, Op.bytesLess]
  have e1 : (decide (UInt8.ofNat x.toNat < UInt8.ofNat y.toNat)) = decide (x < y) := by
    apply decide_eq_decide.2
    rw [UInt8.lt_iff_toNat_lt]; simp; omega
  have e2 : (UInt8.ofNat x.toNat == UInt8.ofNat y.toNat) = decide (x = y) := by
    rw [Bool.eq_iff_iff]; simp only [beq_iff_eq, decide_eq_true_eq]
    rw [← UInt8.toNat_inj]; simp; omega
  rw [e1, e2]
theorem lex_step {a b : Int} {P R : Prop} (h1 : a < b → R) (h2 : b < a → ¬ R) (h3 : a = b → (P ↔ R)) : (a < b ∨ a = b ∧ P) ↔ R := by
  rcases Int.lt_trichotomy a b with h | h | h
  · exact iff_of_true (Or.inl h) (h1 h)
  · rw [h3 h |>.symm]
    exact ⟨fun g => by rcases g with g | ⟨_, g⟩; · omega
                       · exact g, fun g => Or.inr ⟨h, g⟩⟩
  · exact iff_of_false (by rintro (g | ⟨g, _⟩) <;> omega) (h2 h)
theorem code_less {kind n m : Int} (hk : cpB kind = true) (h0 : 0 ≤ n) (h1 : n ≤ 999999) (g0 : 0 ≤ m) (g1 : m ≤ 999999) :
    Op.bytesLess (codeS kind n).toList (codeS kind m).toList = decide (n < m) := by
  have hkb : 65 ≤ kind ∧ kind ≤ 90 := by unfold cpB at hk; simpa using hk
  have c1 := cl_bd kind n
  have c2 := cl_bd kind m
  unfold codeS
  rw [Lib.strOfNums_toList, Lib.strOfNums_toList]
  by_cases hnm : n = m
  · subst hnm
    unfold codeL cw
    simp only [List.cons_append, List.nil_append]
    repeat rw [bl_cons _ _ _ _ (by omega) (by omega)]
    simp [Lib.bytesOf, Op.bytesLess]
  · unfold codeL cw
    simp only [List.cons_append, List.nil_append]
    iterate 7 rw [bl_cons _ _ _ _ (by omega) (by omega)]
    generalize Op.bytesLess (Lib.bytesOf [cl kind n]) (Lib.bytesOf [cl kind m]) = p
    rw [Bool.eq_iff_iff]
    simp only [decide_eq_true_eq, Bool.or_eq_true, Bool.and_eq_true, Int.lt_irrefl, true_and, false_or]
    refine lex_step (by omega) (by omega) fun _ => ?_
    refine lex_step (by omega) (by omega) fun _ => ?_
    refine lex_step (by omega) (by omega) fun _ => ?_
    refine lex_step (by omega) (by omega) fun _ => ?_
    refine lex_step (by omega) (by omega) fun _ => ?_
    refine lex_step (by omega) (by omega) fun _ => ?_
    omega
end Idm
end Go.Proofs.Ytdebkicmoocnmaa
