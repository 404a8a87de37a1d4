/- The contract of the reference's mark. -/
import Derived.Test.YtpibeojmippfhaaDoorRScan
set_option linter.unusedVariables false
set_option linter.unusedSimpArgs false
namespace Go.Proofs.YtpibeojmippfhaaDoor
open Go.ChangeShapes Go.WideShapes Go.ChangeAt Go.RowKit Lm

/-- a mark stands at the beginning -/
def pfx (m : List UInt8) (s : ByteArray) : Prop := m.length ≤ s.size ∧ (s.extract 0 m.length).toList = m
theorem marks_two : ∀ i : Fin 19, (marksL[i.val]'(by have := i.2; exact this)).length = if i.val < 4 then 2 else 1 := by decide +kernel
theorem mark_len (i : Nat) (h : i < 19) : (marksL[i]'h).length = if i < 4 then 2 else 1 := marks_two ⟨i, h⟩
theorem lst_len (s : ByteArray) : s.toList.length = s.size := by rw [ByteArray.toList_eq]; simp
theorem isM_idx {l : List UInt8} (h : isM l = true) : ∃ i, ∃ hi : i < 19, marksL[i]'hi = l := by
  unfold isM at h
  obtain ⟨m, hm, he⟩ := List.any_eq_true.1 h
  rw [beq_iff_eq] at he
  obtain ⟨i, hi, e⟩ := List.getElem_of_mem hm
  exact ⟨i, hi, by rw [e, he]⟩
theorem idx_isM (i : Nat) (hi : i < 19) : isM (marksL[i]'hi) = true := by
  unfold isM
  exact List.any_eq_true.2 ⟨_, List.getElem_mem hi, by simp⟩
theorem mkS_first {s : ByteArray} (k : Nat) (hk : k < 19) (hno : ∀ j (hj : j < 19), j < k → ¬ pfx (marksL[j]'hj) s) (h : pfx (marksL[k]'hk) s) : mkS s = (marksL[k]'hk).length := by
  have hl := mark_len k hk
  obtain ⟨h1, h2⟩ := h
  by_cases g : k < 4
  · rw [if_pos g] at hl
    rw [hl] at h1 h2 ⊢
    unfold mkS
    rw [if_pos ⟨h1, by rw [h2]; exact idx_isM k hk⟩]
  · rw [if_neg g] at hl
    rw [hl] at h1 h2 ⊢
    unfold mkS
    rw [if_neg, if_pos (by rw [h2]; exact idx_isM k hk)]
    rintro ⟨a, b⟩
    obtain ⟨i, hi, e⟩ := isM_idx b
    have hi2 := mark_len i hi
    have hlen : (marksL[i]'hi).length = 2 := by rw [e, lst_len]; exact ext_size a
    have hi4 : i < 4 := by
      rcases Nat.lt_or_ge i 4 with q | q
      · exact q
      · rw [if_neg (by omega)] at hi2; omega
    exact hno i hi (by omega) ⟨by omega, by rw [hlen]; exact e.symm⟩
theorem mkS_none {s : ByteArray} (h0 : 0 < s.size) (hno : ∀ j (hj : j < 19), ¬ pfx (marksL[j]'hj) s) : mkS s = 0 := by
  unfold mkS
  rw [if_neg, if_neg]
  · intro b
    obtain ⟨i, hi, e⟩ := isM_idx b
    have hlen : (marksL[i]'hi).length = 1 := by rw [e, lst_len]; exact ext_size h0
    exact hno i hi ⟨by omega, by rw [hlen]; exact e.symm⟩
  · rintro ⟨a, b⟩
    obtain ⟨i, hi, e⟩ := isM_idx b
    have hlen : (marksL[i]'hi).length = 2 := by rw [e, lst_len]; exact ext_size a
    exact hno i hi ⟨by omega, by rw [hlen]; exact e.symm⟩
set_option maxRecDepth 100000 in
set_option maxHeartbeats 1600000 in
theorem rmark_c (s : ByteArray) (w : World) (hs : s.size ≤ 1000000) (h0 : 0 < s.size) : Calls Tryd.prog 28 #[.string s] w fun E w' => E = .returned (.string (s.extract 0 (mkS s))) ∧ Q w w' := by
  obtain ⟨X, hX⟩ : ∃ X, s.extract 0 (mkS s) = X := ⟨_, rfl⟩
  rw [hX]
  have HX := Lib.hid hX
  clear hX
  go_enter Tryd.func28, Tryd.ntmps28
  go_wp2_with fail
  refine (Marks_c _).mono ?_; rintro E w1 ⟨g, rfl, hr, hq⟩
  have HR := Lib.hid hr
  have HQ := Lib.hid hq
  clear hr hq
  go_wp2_with fail
  go_loopw [4] (fun v4 wr => ∃ k : Nat, k ≤ 19 ∧ v4 = .int .i64 k ∧ Hid (∀ j (hj : j < 19), j < k → ¬ pfx (marksL[j]'hj) s) ∧ Hid (Q w1 wr)) (fun v4 _ => 19 - (intOf v4).toNat)
  case atStart => exact ⟨0, by omega, rfl, (fun j hj h => by omega), Q.refl _⟩
  case round =>
    obtain ⟨k, hk, rfl, HI, HW⟩ := hrel
    by_cases hlt : k < 19
    · obtain ⟨m, hm⟩ : ∃ m, marksL[k]'hlt = m := ⟨_, rfl⟩
      have hc := (HR.out.q HW.out).2 k _ (List.getElem?_eq_getElem (l := marksL) hlt)
      rw [hm] at hc
      obtain ⟨M, hM⟩ : ∃ M, ByteArray.mk m.toArray = M := ⟨_, rfl⟩
      rw [hM] at hc
      have hL : M.toList = m := by rw [← hM]; exact lst_mk m
      have hMs : M.size = m.length := by rw [← hL, lst_len]
      have i1 : (0 : Int) ≤ (k : Int) := by omega
      have i2 : (k : Int) < 19 := by omega
      have i3 : (0 : Int) ≤ (M.size : Int) := by omega
      have next : ¬ pfx m s → Hid (∀ j (hj : j < 19), j < k + 1 → ¬ pfx (marksL[j]'hj) s) := fun hn => Lib.hid (fun j hj h => by
        by_cases e : j = k
        · subst e; rw [hm]; exact hn
        · exact HI.out j hj (by omega))
      by_cases hz : m.length ≤ s.size
      · have i4 : (M.size : Int) ≤ (s.size : Int) := by omega
        have i4d : decide (M.size ≤ s.size) = true := decide_eq_true (by omega)
        by_cases he : (s.extract 0 M.size).toList = M.toList
        · have t1 : ((s.extract 0 M.size).toList == M.toList) = true := by rw [beq_iff_eq]; exact he
          have HE := Lib.hid (show M = X by
            rw [← HX.out, mkS_first k hlt HI.out (by rw [hm]; exact ⟨hz, by rw [← hMs, he, hL]⟩), hm, ← hMs]
            exact (lst_eq he).symm)
          clear he hM hm hL hMs hz next
          go_wp2_with fail
          go_quiet (fail)
          go_wp2_with fail
          go_ret
          exact ⟨by rw [← HE.out]; rfl, HQ.out.trans (HW.out.drewN _)⟩
        · have t1 : ((s.extract 0 M.size).toList == M.toList) = false := by rw [beq_eq_false_iff_ne]; exact he
          have HN := next (fun h => he (by rw [hMs, hL]; exact h.2))
          clear he hM hm hL hMs hz next
          go_wp2_with fail
          go_quiet (fail)
          go_wp2_with fail
          go_roundw
          case rel => exact ⟨k + 1, by omega, by go_num, HN, Lib.hid (HW.out.drewN _)⟩
          case measure => simp [intOf] <;> omega
      · have i4 : ¬ (M.size : Int) ≤ (s.size : Int) := by omega
        have i4d : decide (M.size ≤ s.size) = false := decide_eq_false (by omega)
        have HN := next (fun h => hz h.1)
        clear hM hm hL hMs hz next
        go_wp2_with fail
        go_quiet (fail)
        go_wp2_with fail
        go_roundw
        case rel => exact ⟨k + 1, by omega, by go_num, HN, Lib.hid (HW.out.drewN _)⟩
        case measure => simp [intOf] <;> omega
    · obtain rfl : k = 19 := by omega
      have HE := Lib.hid (show (⟨#[]⟩ : ByteArray) = X by
        rw [← HX.out, mkS_none h0 (fun j hj => HI.out j hj hj)]
        simp
        rfl)
      go_wp2_with fail
      go_ret
      exact ⟨by rw [← HE.out]; rfl, HQ.out.trans HW.out⟩
end Go.Proofs.YtpibeojmippfhaaDoor
