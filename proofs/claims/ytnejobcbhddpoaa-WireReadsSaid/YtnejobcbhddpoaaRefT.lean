/- The contract of the reference's ReadInts. -/
import Derived.Test.YtnejobcbhddpoaaRefS
set_option linter.unusedVariables false
set_option linter.unusedSimpArgs false
namespace Go.Proofs.Ytnejobcbhddpoaa
open Go.ChangeShapes Go.WideShapes Go.ChangeAt Go.RowKit Wm

def TPost (s : ByteArray) (p : Nat) (w : World) (l : List Int) (n e : Nat) (E : Ending) (w' : World) : Prop := ∃ v, E = .returned (.tuple #[rv s (p + n) e, v]) ∧ RdI w' v l ∧ NB w.heap.size v ∧ Q w w'
theorem ownI_new (w : World) (B : Nat) (hB : B ≤ w.heap.size) : OwnI B (.slice (some ⟨w.heap.size, 0, none⟩) 0 0) [] (w.alloc (.cells #[] 3)) :=
  ⟨rfl, .inr ⟨w.heap.size, 0, #[], rfl, hB, heap_alloc_new w _, Nat.zero_le _, Nat.zero_le _, by simp, by simp⟩⟩
set_option maxRecDepth 100000 in
set_option maxHeartbeats 3200000 in
theorem rReadInts_ok (s : ByteArray) (p : Nat) (most lo hi : Int) (l : List Int) (n e : Nat) (w : World) (hs : s.size ≤ 1000000) (hp : p ≤ s.size) (hm : Fit most) (h : Hid (outL s p most lo hi = (l, n, e))) : Calls Try.prog 27 #[rv s p 0, .int .i64 most, .int .i64 lo, .int .i64 hi] w (TPost s p w l n e) := by
  obtain ⟨i0, hi0, hz0, hz1, hz2⟩ := info_parts infoI
  obtain ⟨u, hu⟩ : ∃ u, vU s p = u := ⟨_, rfl⟩
  obtain ⟨k, hk⟩ : ∃ k, lU s p = k := ⟨_, rfl⟩
  obtain ⟨x, hx⟩ : ∃ x, eU s p = x := ⟨_, rfl⟩
  have HC := Lib.hid (fun w => number_at s p u k x hs hp (Lib.hid ⟨hu, hk, hx⟩) w)
  have hf := fun x w => fail_c s p 0 x w
  have hub : (u : Int) ≤ 18446744073709551615 := by have := vU_lt s p; omega
  have hkl := lU_le s p
  rw [hk] at hkl
  have HS := Lib.hid hs
  have HP := Lib.hid hp
  unfold rv at hf ⊢
  have HF := Lib.hid hf
  have HB := Lib.hid (twoA w #[.string s, .int .i64 p, .int .i64 0] #[.string ⟨#[]⟩, .int .i64 0, .int .i64 0] 36 36)
  have HQ := Lib.hid (((Q.refl w).alloc (.cells #[.string s, .int .i64 p, .int .i64 0] 36)).alloc (.cells #[.string ⟨#[]⟩, .int .i64 0, .int .i64 0] 36))
  clear hf
  obtain ⟨m1, m2⟩ := hm
  by_cases h0 : x = 0
  · subst h0
    by_cases c1 : most < 0 ∨ most < (u : Int)
    · have ec : eC s p most = 4 := by unfold eC; rw [if_pos hx, hu, if_pos c1]
      have hr := h.out
      unfold outL at hr
      rw [ec, if_neg (by decide)] at hr
      simp only [Prod.mk.injEq] at hr
      obtain ⟨rfl, rfl, rfl⟩ := hr
      have c2 : most < 0 ∨ (¬ most < 0 ∧ most < (u : Int)) := by omega
      clear h hu hk hx ec c1
      rcases c2 with c1 | ⟨c1, c2⟩
      all_goals
        first | (have c3 : 0 ≤ most := by omega) | skip
        go_enter Try.func27, Try.ntmps27
        go_wp2_with fail
        refine (HC.out _).mono ?_; rintro E w1 ⟨rfl, rfl⟩
        go_wp2_with fail
        refine (HF.out 4 _).mono ?_; rintro E w2 ⟨rfl, hq2⟩
        have hb2 := (hq2.block _ (lt_of_block HB.out.2)).trans HB.out.2
        obtain ⟨x0, x1, x2, xf⟩ := tri hb2
        have Q2 := Lib.hid (HQ.out.trans hq2)
        clear hb2 hq2
        go_wp2_with fail
        refine bodyPost_ret (v := .tuple #[.agg #[.string s, .int .i64 p, .int .i64 4], .slice none 0 0]) (by simp [results, Try.results27, go_sem, x0, x1, x2]) rfl ⟨_, rfl, RdI.nil _, NB.nil _, ?_⟩
        repeat (first | with_reducible exact Q2.out | refine Q.setA ?_ (by omega) _)
    · have ec : eC s p most = 0 := by unfold eC; rw [if_pos hx, hu, if_neg c1]
      obtain ⟨q0, hq0⟩ : ∃ q, p + k = q := ⟨_, rfl⟩
      have HFI : Hid (finI s lo hi p [] q0 u = (l, n, e)) := by
        have := h.out
        unfold outL at this
        rw [if_pos ec, hu, hk, hq0] at this
        exact this
      have j1 : ¬ most < 0 := by omega
      have j2 : ¬ most < (u : Int) := by omega
      have j3 : 0 ≤ most := by omega
      have HK := Lib.hid (show q0 ≤ s.size ∧ p ≤ q0 by omega)
      rw [hq0] at HC
      have hq0s : (q0 : Int) ≤ 1000000 := by omega
      clear h hu hk hx ec c1 hkl hq0 hs hp
      go_enter Try.func27, Try.ntmps27
      go_wp2_with fail
      refine (HC.out _).mono ?_; rintro E w1 ⟨rfl, rfl⟩
      go_wp2_with fail
      obtain ⟨W2, hW2⟩ : ∃ W, ((w.alloc (.cells #[.string s, .int .i64 p, .int .i64 0] 36)).alloc (.cells #[.string ⟨#[]⟩, .int .i64 0, .int .i64 0] 36)) = W := ⟨_, rfl⟩
      rw [hW2] at HB HQ
      have HZ := Lib.hid (show W2.heap.size = w.heap.size + 1 + 1 by rw [← hW2]; simp)
      have HO := Lib.hid (show OwnI W2.heap.size (.slice (some ⟨w.heap.size + 1 + 1, 0, none⟩) 0 0) [] (W2.alloc (.cells #[] 3)) by rw [← HZ.out]; exact ownI_new W2 _ (Nat.le_refl _))
      rw [hW2]
      clear hW2
      go_loopw [11, 13] (fun y v wr => ∃ (j q : Nat) (acc : List Int), j ≤ u ∧ y = .int .i64 q ∧ (q : Int) ≤ 1000000 ∧ Hid (finI s lo hi p acc q (u - j) = (l, n, e) ∧ OwnI W2.heap.size v acc wr ∧ Below W2.heap.size W2 wr ∧ acc.length = j ∧ acc.length + p ≤ q ∧ q ≤ s.size)) (fun y _ _ => 1000001 - (intOf y).toNat)
      case atStart => exact ⟨0, q0, [], by omega, rfl, hq0s, by rw [Nat.sub_zero]; exact HFI.out, HO.out, (Below.refl _ _).alloc (Nat.le_refl _) _, rfl, by simp; exact HK.out.2, HK.out.1⟩
      case round =>
        obtain ⟨j, q, acc, hj, rfl, hq6, HI⟩ := hrel
        obtain ⟨hf, ow, bl, hac, hap, hqs⟩ := HI.out
        have hrd := ow.rd
        obtain ⟨aA, ac, rfl, hale, _⟩ := hrd
        rw [hac]
        have hb0 := (bl.block _ (lt_of_block HB.out.1)).trans HB.out.1
        have hb1 := (bl.block _ (lt_of_block HB.out.2)).trans HB.out.2
        obtain ⟨x0, x1, x2, xf⟩ := tri hb0
        obtain ⟨y0, y1, y2, yf⟩ := tri hb1
        have hj6 : (j : Int) ≤ 1000000 := by omega
        have HBL := Lib.hid bl
        have HBS := Lib.hid bl.size
        have HOW := Lib.hid ow
        have HRL := Lib.hid (show n + p = n + p from rfl)
        by_cases hlt : j < u
        · have hlt2 : (j : Int) < (u : Int) := by omega
          obtain ⟨m, hm⟩ : ∃ m, u - j = m + 1 := ⟨u - j - 1, by omega⟩
          rw [hm] at hf
          obtain ⟨z, hz⟩ : ∃ z, vI s q lo hi = z := ⟨_, rfl⟩
          obtain ⟨k2, hk2⟩ : ∃ z, lI s q lo hi = z := ⟨_, rfl⟩
          obtain ⟨x', hx⟩ : ∃ z, eI s q lo hi = z := ⟨_, rfl⟩
          have HN2 := Lib.hid (show NI s q lo hi z k2 x' from ⟨hz, hk2, hx⟩)
          have HSG := Lib.hid (fun w => signed_at s q lo hi z k2 x' HS.out hqs HN2 w)
          by_cases h0 : x' = 0
          · subst h0
            rw [finI_step (by omega) hx, hz, hk2] at hf
            have HF2 := Lib.hid hf
            obtain ⟨q2, hq2⟩ : ∃ q2, q + k2 = q2 := ⟨_, rfl⟩
            have HL := Lib.hid (show acc.length + 1 + p ≤ q2 ∧ q2 ≤ s.size ∧ u - (j + 1) = m ∧ q < q2 by
              have a := lI_pos (s := s) (p := q) (lo := lo) (hi := hi) hx
              have b := lI_le s q lo hi
              rw [hk2] at a b
              omega)
            rw [hq2] at HSG HF2
            have HQ2 := Lib.hid (show (q2 : Int) ≤ 1000000 by have := HL.out; have := HS.out; omega)
            have hown := HOW.out
            unfold OwnI at hown
            rw [hac] at hown
            have RM := Lib.hid (roomI_of (n := j) (by omega))
            have HAC := Lib.hid hac
            clear hf ow bl hac hap hqs hz hk2 hx hm hq2 hb0 hb1 HI
            go_wp2_with fail
            refine (HSG.out _).mono ?_; rintro E w3 ⟨rfl, rfl⟩
            go_wp2_with (first
              | (at_builtin; refine wpList_append_own _ rfl _ _ 27 rfl W2.heap.size 3 i0 (.int .i64 0) 1 8 Try.underlying27 hi0 hz0 hz1 hz2 rfl (by decide) _ _ _ rfl (hown.alloc _) ⟨wr.heap.size, 0, none⟩ 1 1 [.int .i64 z] rfl rfl (one_at _ _ _) (one_cell _ _) RM.out.1 RM.out.2 (alloc_le HBS.out _) ?_)
              | go_in)
            intro v' w4 hown' hgrow _
            have N := Lib.hid (ownI_next (z := z) HOW.out HBL.out HBS.out (by rw [HAC.out]; exact hown') (o := .cells #[.int .i64 z] 3) (by rw [HAC.out]; exact hgrow))
            clear hown' hgrow hown
            go_wp2_with fail
            go_roundw
            case rel => exact ⟨j + 1, q2, acc ++ [z], by omega, rfl, HQ2.out, by rw [HL.out.2.2.1]; exact HF2.out, N.out.1, N.out.2, by rw [List.length_append, HAC.out]; rfl, by rw [List.length_append]; exact HL.out.1, HL.out.2.1⟩
            case measure => have := HL.out; have := HQ2.out; simp [intOf] <;> omega
          · have t0 : ((x' : Int) != 0) = true := by simp; omega
            have t0' : ((x' : Int) == 0) = false := by simp; omega
            rw [finI_bad (by rw [hx]; exact h0), hx] at hf
            simp only [Prod.mk.injEq] at hf
            obtain ⟨rfl, rfl, rfl⟩ := hf
            clear ow bl hac hap hqs hz hk2 hx hm h0 HI
            go_wp2_with fail
            refine (HSG.out _).mono ?_; rintro E w3 ⟨rfl, rfl⟩
            go_wp2_with fail
            refine (HF.out _ _).mono ?_; rintro E w4 ⟨rfl, hq4⟩
            have hb4 := (hq4.block _ (lt_of_block hb1)).trans hb1
            obtain ⟨z0, z1, z2, zf⟩ := tri hb4
            have Q4 := Lib.hid (show Q w w4 from HQ.out.trans (Q.trans HBL.out hq4))
            clear hb4 hq4 x0 x1 x2 xf y0 y1 y2 yf hb0 hb1
            go_wp2_with fail
            refine bodyPost_ret (v := .tuple #[.agg #[.string s, .int .i64 p, .int .i64 x'], .slice none 0 0]) (by simp [results, Try.results27, go_sem, z0, z1, z2]) rfl ⟨_, rfl, RdI.nil _, NB.nil _, ?_⟩
            repeat (first | with_reducible exact Q4.out | refine Q.setA ?_ (by omega) _)
        · obtain rfl : j = u := by omega
          rw [Nat.sub_self, finI_zero] at hf
          simp only [Prod.mk.injEq] at hf
          obtain ⟨rfl, rfl, rfl⟩ := hf
          have HQP := Lib.hid (show p + (q - p) = q by omega)
          have HR := Lib.hid ow.rd
          have HNB := Lib.hid ow.nb
          have Q4 := Lib.hid (show Q w wr from HQ.out.trans HBL.out)
          clear ow bl hap hqs HI hb0 hb1
          rw [hac] at HR HNB
          clear hac
          go_wp2_with fail
          refine bodyPost_ret (v := .tuple #[.agg #[.string s, .int .i64 q, .int .i64 0], .slice aA j ac]) (by simp [results, Try.results27, go_sem, x0, x1, x2, y0, y1, y2]) rfl ⟨_, by rw [HQP.out]; rfl, ?_, HNB.out.mono (by rw [HZ.out]; omega), ?_⟩
          · have h1 : NB (w.heap.size + 1 + 1) (.slice aA j ac) := HNB.out.mono (by rw [HZ.out]; exact Nat.le_refl _)
            repeat (first | with_reducible exact HR.out | refine RdI.other ?_ (h1.mono (by omega)) _)
          · repeat (first | with_reducible exact Q4.out | refine Q.setA ?_ (by omega) _)
  · have t0 : ((x : Int) != 0) = true := by simp; omega
    have t0' : ((x : Int) == 0) = false := by simp; omega
    have ec : eC s p most = x := by unfold eC; rw [if_neg (by rw [hx]; exact h0)]; exact hx
    have hr := h.out
    unfold outL at hr
    rw [ec, if_neg h0] at hr
    simp only [Prod.mk.injEq] at hr
    obtain ⟨rfl, rfl, rfl⟩ := hr
    clear h hu hk hx h0 ec
    go_enter Try.func27, Try.ntmps27
    go_wp2_with fail
    refine (HC.out _).mono ?_; rintro E w1 ⟨rfl, rfl⟩
    go_wp2_with fail
    refine (HF.out _ _).mono ?_; rintro E w2 ⟨rfl, hq2⟩
    have hb2 := (hq2.block _ (lt_of_block HB.out.2)).trans HB.out.2
    obtain ⟨x0, x1, x2, xf⟩ := tri hb2
    have Q2 := Lib.hid (HQ.out.trans hq2)
    clear hb2 hq2
    go_wp2_with fail
    refine bodyPost_ret (v := .tuple #[.agg #[.string s, .int .i64 p, .int .i64 x], .slice none 0 0]) (by simp [results, Try.results27, go_sem, x0, x1, x2]) rfl ⟨_, rfl, RdI.nil _, NB.nil _, ?_⟩
    repeat (first | with_reducible exact Q2.out | refine Q.setA ?_ (by omega) _)
end Go.Proofs.Ytnejobcbhddpoaa
