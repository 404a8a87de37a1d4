/- For every number, string and limits the law WireRanges returns true: Int accepts exactly the numbers from low to high, Text the strings of at most so many bytes (asked for strings of at most 3000 bytes), and the examples hold. No condition. -/
import Derived.Test.YtnejobcbhddpoaaBackMath
set_option linter.unusedVariables false
set_option linter.unusedSimpArgs false
namespace Go.Proofs.Ytnejobcbhddpoaa
open Go.ChangeShapes Go.WideShapes Go.ChangeAt Go.RowKit Wm

/-- reading a number that was written: the answer, the bytes, the error, the end's error, the bytes left -/
def rgI (z lo hi : Int) (v : Int) (l e ee : Nat) (m : Nat) : Prop := NI (bs (uv (zz z))) 0 lo hi v l e ∧ endE (bs (uv (zz z))) (0 + l) e = ee ∧ (bs (uv (zz z))).size - (0 + l) = m
theorem rgI_in {z lo hi : Int} (hz : Fit z) (h1 : lo ≤ z) (h2 : z ≤ hi) : rgI z lo hi z (uv (zz z)).length 0 0 0 := by
  have h := int_at [] [] hz h1 h2
  rw [List.append_nil] at h
  refine ⟨h, ?_, ?_⟩
  · unfold endE; rw [if_pos rfl, size_bs, if_neg (by omega)]
  · rw [size_bs]; omega
theorem rgI_out {z lo hi : Int} (hz : Fit z) (h1 : ¬ (lo ≤ z ∧ z ≤ hi)) : rgI z lo hi 0 0 9 9 (uv (zz z)).length := by
  have h := int_out [] [] hz h1
  rw [List.append_nil] at h
  refine ⟨h, ?_, ?_⟩
  · unfold endE; rw [if_neg (by decide)]
  · rw [size_bs]; omega
def rgT (s : ByteArray) (most : Int) (t : ByteArray) (l e ee : Nat) : Prop := NT (txS s) 0 most t l e ∧ endE (txS s) (0 + l) e = ee
theorem txS_bs (s : ByteArray) : txS s = bs (uv s.size ++ s.data.toList) := by unfold txS; rw [← bs_app, bs_self]
theorem len_data (s : ByteArray) : s.data.toList.length = s.size := Array.length_toList
theorem rgT_in {s : ByteArray} {most : Int} (hs : s.size ≤ 1000000) (h : (s.size : Int) ≤ most) : rgT s most s ((uv s.size).length + s.size) 0 0 := by
  have h1 := text_at [] s.data.toList [] (most := most) (by rw [len_data]; omega) (by rw [len_data]; exact h)
  rw [List.append_nil, len_data, bs_self] at h1
  rw [show bs ([] ++ (uv s.size ++ s.data.toList)) = txS s from (txS_bs s).symm] at h1
  refine ⟨h1, ?_⟩
  unfold endE; rw [if_pos rfl, txS_bs, size_bs, List.length_append, len_data, if_neg (by omega)]
theorem rgT_out {s : ByteArray} {most : Int} (hs : s.size ≤ 1000000) (h : ¬ (s.size : Int) ≤ most) : rgT s most ByteArray.empty 0 4 4 := by
  have h1 := text_out [] s.data.toList [] (most := most) (by rw [len_data]; omega) (by rw [len_data]; exact h)
  rw [List.append_nil, len_data] at h1
  rw [show bs ([] ++ (uv s.size ++ s.data.toList)) = txS s from (txS_bs s).symm] at h1
  exact ⟨h1, by unfold endE; rw [if_neg (by decide)]⟩
theorem txS_size (s : ByteArray) (h : s.size ≤ 3000) : (txS s).size ≤ 3010 := by
  rw [txS_bs, size_bs, List.length_append, len_data]; have := uv_len (n := s.size) (by omega); omega
set_option maxRecDepth 100000 in
set_option maxHeartbeats 1600000 in
theorem ranges_walk (w : World) (v u x : Value) (hv : ArgI w v) (hu : ArgS w u) (hx : ArgO w x) : Calls Try.prog 10 #[v, u, x] w fun e w' => e = .returned (.bool true) ∧ Below w.heap.size w w' := by
  obtain ⟨n, rfl, hn⟩ := hv
  obtain ⟨s, rfl, hs⟩ := hu
  obtain ⟨⟨k, lo, hi, most⟩, rfl, hk, hlo, hhi, hmost⟩ := hx
  unfold OpT.vl ov
  simp only at hk hlo hhi hmost
  have HN := Lib.hid hn
  have HM := Lib.hid hmost
  have HQ := Lib.hid ((Q.refl w).alloc (.cells #[.int .u8 k, .int .i64 lo, .int .i64 hi, .int .i64 most] 39))
  have HB := Lib.hid (heap_alloc_new w (.cells #[.int .u8 k, .int .i64 lo, .int .i64 hi, .int .i64 most] 39))
  unfold maxLen at hs
  by_cases hs3 : 3000 < s.size
  · have i1 : 3000 < (s.size : Int) := by omega
    clear hn hlo hhi hmost hk
    go_enter Try.func10, Try.ntmps10
    go_wp2_with fail
    refine (awake_c _).mono ?_; rintro E w3 ⟨rfl, hq3⟩
    go_wp2_with fail
    go_ret
    exact ⟨rfl, HQ.out.trans hq3⟩
  · have i1 : ¬ 3000 < (s.size : Int) := by omega
    have HS3 := Lib.hid (show s.size ≤ 3000 by omega)
    have HTS := Lib.hid (txS_size s HS3.out)
    have hI : ∃ (v : Int) (l e ee m : Nat), Hid (rgI n lo hi v l e ee m) ∧ (((lo ≤ n ∧ n ≤ hi) ∧ v = n ∧ ee = 0) ∨ (¬ lo ≤ n ∨ (lo ≤ n ∧ ¬ n ≤ hi)) ∧ v = 0 ∧ ee = 9 ∧ 0 < m) := by
      by_cases c : lo ≤ n ∧ n ≤ hi
      · exact ⟨_, _, _, _, _, rgI_in hn c.1 c.2, .inl ⟨c, rfl, rfl⟩⟩
      · exact ⟨_, _, _, _, _, rgI_out hn c, .inr ⟨by omega, rfl, rfl, uv_pos _⟩⟩
    have hT : ∃ (t : ByteArray) (l e ee : Nat), Hid (rgT s most t l e ee) ∧ (((s.size : Int) ≤ most ∧ t = s ∧ ee = 0) ∨ (¬ (s.size : Int) ≤ most ∧ t = ByteArray.empty ∧ ee = 4)) := by
      by_cases c : (s.size : Int) ≤ most
      · exact ⟨_, _, _, _, rgT_in (by omega) c, .inl ⟨c, rfl, rfl⟩⟩
      · exact ⟨_, _, _, _, rgT_out (by omega) c, .inr ⟨c, rfl, rfl⟩⟩
    obtain ⟨vI, lI', eI', eeI, mI, HI, hI⟩ := hI
    obtain ⟨tT', lT', eT', eeT, HT, hT⟩ := hT
    have HZ := Lib.hid (show (bs (uv (zz n))).size ≤ 1000000 by rw [size_bs]; have := uv_len (zz_lt hn.1 hn.2); omega)
    clear hn hlo hhi hmost hk hs hs3
    go_enter Try.func10, Try.ntmps10
    go_wp2_with fail
    refine (Int_c n _ HN.out).mono ?_; rintro E w1 ⟨rfl, hq1⟩
    have Q1 := Lib.hid (HQ.out.trans hq1)
    have B1 := Lib.hid ((hq1.block _ (lt_of_block HB.out)).trans HB.out)
    clear hq1
    go_wp2_with fail
    refine (New_c _ _).mono ?_; rintro E w2 ⟨b, rfl, hb, hr2, hq2⟩
    have R2 := Lib.hid hr2
    have Q2 := Lib.hid (Q1.out.trans hq2)
    have B2 := Lib.hid ((hq2.block _ (lt_of_block B1.out)).trans B1.out)
    have HNE := Lib.hid (show w.heap.size ≠ b by have := lt_of_block B1.out; omega)
    have HGE := Lib.hid (show w.heap.size ≤ b by have := Q1.out.size; omega)
    have c1 := cell_blk B2.out 1
    have c2 := cell_blk B2.out 2
    have c3 := cell_blk B2.out 3
    clear hr2 hq2 hb
    go_wp2_with fail
    refine (mInt_ok _ 0 b lo hi vI lI' eI' _ HZ.out HI.out.1 R2.out).mono ?_; rintro E w3 ⟨rfl, hr3, hg3⟩
    have R3 := Lib.hid hr3
    have Q3 := Lib.hid (G.below Q2.out hg3 HGE.out Q2.out.size)
    have B3 := Lib.hid (hg3.blk B2.out HNE.out)
    have d1 := cell_blk B3.out 1
    have d2 := cell_blk B3.out 2
    have d3 := cell_blk B3.out 3
    clear hr3 hg3 c1 c2 c3
    go_wp2_with fail
    refine (End_c _ _ _ b _ HZ.out R3.out).mono ?_; rintro E w4 ⟨rfl, rfl⟩
    rw [HI.out.2.1]
    rcases hI with ⟨⟨g1, g2⟩, rfl, rfl⟩ | ⟨g1, rfl, rfl, g3⟩
    · go_wp2_with fail
      refine (Text_c s _ (by have := HS3.out; omega)).mono ?_; rintro E w5 ⟨rfl, hq5⟩
      have Q5 := Lib.hid (Below.trans Q3.out (Below.mono hq5 Q3.out.size))
      have B5 := Lib.hid ((hq5.block _ (lt_of_block B3.out)).trans B3.out)
      clear hq5
      go_wp2_with fail
      refine (New_c _ _).mono ?_; rintro E w6 ⟨b2, rfl, hb2, hr6, hq6⟩
      have R6 := Lib.hid hr6
      have HNE2 := Lib.hid (show w.heap.size ≠ b2 by have := lt_of_block B5.out; omega)
      have HGE2 := Lib.hid (show w.heap.size ≤ b2 from Nat.le_trans Q5.out.size hb2)
      have Q6 := Lib.hid (Below.trans Q5.out (Below.mono hq6 Q5.out.size))
      have B6 := Lib.hid ((hq6.block _ (lt_of_block B5.out)).trans B5.out)
      have k1 := cell_blk B6.out 1
      have k2 := cell_blk B6.out 2
      have k3 := cell_blk B6.out 3
      clear hr6 hq6 hb2 d1 d2 d3
      go_wp2_with fail
      refine (mText_ok _ 0 b2 most tT' lT' eT' _ (by have := HTS.out; omega) (Nat.zero_le _) HM.out HT.out.1 R6.out).mono ?_; rintro E w7 ⟨rfl, hr7, hg7⟩
      have R7 := Lib.hid hr7
      have Q7 := Lib.hid (G.below Q6.out hg7 HGE2.out Q6.out.size)
      have B7 := Lib.hid (hg7.blk B6.out HNE2.out)
      have l1 := cell_blk B7.out 1
      have l2 := cell_blk B7.out 2
      have l3 := cell_blk B7.out 3
      clear hr7 hg7 k1 k2 k3
      go_wp2_with fail
      refine (End_c _ _ _ b2 _ (by have := HTS.out; omega) R7.out).mono ?_; rintro E w8 ⟨rfl, rfl⟩
      rw [HT.out.2]
      rcases hT with ⟨t1, rfl, rfl⟩ | ⟨t1, rfl, rfl⟩
      · have z1 : (tT'.toList == tT'.toList) = true := by simp
        go_wp2_with fail
        refine (awake_c _).mono ?_; rintro E w9 ⟨rfl, hq9⟩
        go_wp2_with fail
        go_ret
        exact ⟨rfl, Below.trans Q7.out (Below.mono hq9 Q7.out.size)⟩
      · have z1 : (ByteArray.empty.toList == (ByteArray.mk #[]).toList) = true := by rw [beq_iff_eq]; rfl
        go_wp2_with fail
        refine (awake_c _).mono ?_; rintro E w9 ⟨rfl, hq9⟩
        go_wp2_with fail
        go_ret
        exact ⟨rfl, Below.trans Q7.out (Below.mono hq9 Q7.out.size)⟩
    · have g4 : ((mI : Int) == 0) = false := by simp; omega
      rcases g1 with g1 | ⟨g1, g2⟩
      all_goals
        go_wp2_with fail
        refine (Left_c _ _ _ b _ HZ.out R3.out).mono ?_; rintro E w4 ⟨rfl, rfl⟩
        rw [HI.out.2.2]
        go_wp2_with fail
        refine (Text_c s _ (by have := HS3.out; omega)).mono ?_; rintro E w5 ⟨rfl, hq5⟩
        have Q5 := Lib.hid (Below.trans Q3.out (Below.mono hq5 Q3.out.size))
        have B5 := Lib.hid ((hq5.block _ (lt_of_block B3.out)).trans B3.out)
        clear hq5
        go_wp2_with fail
        refine (New_c _ _).mono ?_; rintro E w6 ⟨b2, rfl, hb2, hr6, hq6⟩
        have R6 := Lib.hid hr6
        have HNE2 := Lib.hid (show w.heap.size ≠ b2 by have := lt_of_block B5.out; omega)
        have HGE2 := Lib.hid (show w.heap.size ≤ b2 from Nat.le_trans Q5.out.size hb2)
        have Q6 := Lib.hid (Below.trans Q5.out (Below.mono hq6 Q5.out.size))
        have B6 := Lib.hid ((hq6.block _ (lt_of_block B5.out)).trans B5.out)
        have k1 := cell_blk B6.out 1
        have k2 := cell_blk B6.out 2
        have k3 := cell_blk B6.out 3
        clear hr6 hq6 hb2 d1 d2 d3
        go_wp2_with fail
        refine (mText_ok _ 0 b2 most tT' lT' eT' _ (by have := HTS.out; omega) (Nat.zero_le _) HM.out HT.out.1 R6.out).mono ?_; rintro E w7 ⟨rfl, hr7, hg7⟩
        have R7 := Lib.hid hr7
        have Q7 := Lib.hid (G.below Q6.out hg7 HGE2.out Q6.out.size)
        have B7 := Lib.hid (hg7.blk B6.out HNE2.out)
        have l1 := cell_blk B7.out 1
        have l2 := cell_blk B7.out 2
        have l3 := cell_blk B7.out 3
        clear hr7 hg7 k1 k2 k3
        go_wp2_with fail
        refine (End_c _ _ _ b2 _ (by have := HTS.out; omega) R7.out).mono ?_; rintro E w8 ⟨rfl, rfl⟩
        rw [HT.out.2]
        rcases hT with ⟨t1, rfl, rfl⟩ | ⟨t1, rfl, rfl⟩
        · have z1 : (tT'.toList == tT'.toList) = true := by simp
          go_wp2_with fail
          refine (awake_c _).mono ?_; rintro E w9 ⟨rfl, hq9⟩
          go_wp2_with fail
          go_ret
          exact ⟨rfl, Below.trans Q7.out (Below.mono hq9 Q7.out.size)⟩
        · have z1 : (ByteArray.empty.toList == (ByteArray.mk #[]).toList) = true := by rw [beq_iff_eq]; rfl
          go_wp2_with fail
          refine (awake_c _).mono ?_; rintro E w9 ⟨rfl, hq9⟩
          go_wp2_with fail
          go_ret
          exact ⟨rfl, Below.trans Q7.out (Below.mono hq9 Q7.out.size)⟩

namespace wireRanges
theorem own : ownKnob Try.prog.godebug = none := by kernel_rfl
set_option maxRecDepth 100000 in
set_option maxHeartbeats 800000 in
theorem lifted (os : Os) (started : os.Started) (H : Type) (enc : TypeId × Value → H) :
    ReturnsInHanded {} Try.checked os 10 .any (Rows.wireRangesSpec.pre6 enc Try.prog Try.f10 Rows.wireRangesRow.domain false) (Rows.wireRangesSpec.post enc Try.prog Try.f10 false true false false) := by
  refine returnsInHanded_of_change (C := Try.checked) own started (by kernel_rfl) Try.func10
    (ChangeSpec.witness6 (enc := enc) (C := Try.checked) false ⟨#[], #[.int .i64 0, .string ByteArray.empty, .agg #[.int .u8 0, .int .i64 0, .int .i64 0, .int .i64 0]], []⟩ 8 (by kernel_rfl) (by kernel_rfl) (by kernel_rfl) (by kernel_rfl)) ?_
  intro W base args ds gs before hval0 hW hcnd _
  have hval : ∀ (j : Nat) t v, Try.f10.params[j]? = some t → args[j]? = some v → Value.okWide Try.prog W .any base t v := hval0
  have hW' := hW
  obtain ⟨p, q, hA0, hV, rfl, hfz, hnd⟩ := hW
  have hA : DataW.TrodAll enc Try.prog W 0 (fun _ => true) true Try.f10.params.toList args.toList ds p := hA0
  rw [Try.params10] at hA hval
  obtain ⟨v0, vs0, d0, ds0, p0, q0, hargs, rfl, rfl, h0, r0⟩ := trodAll_cons hA
  obtain ⟨v1, vs1, d1, ds1, p1, q1, rfl, rfl, rfl, h1, r1⟩ := trodAll_cons r0
  obtain ⟨v2, vs2, d2, ds2, p2, q2, rfl, rfl, rfl, h2, r2⟩ := trodAll_cons r1
  obtain ⟨rfl, rfl, rfl⟩ := trodAll_nil r2
  obtain rfl : args = #[v0, v1, v2] := by cases args; simp_all
  obtain ⟨rfl, rfl⟩ := trodVars_none hV
  have a0 := open_i64 (hval 0 3 v0 rfl rfl) h0
  have a1 := open_str (hval 1 9 v1 rfl rfl) h1
  have a2 := open_op (hval 2 39 v2 rfl rfl) h2
  clear hA0 hval0
  refine (ranges_walk W v0 v1 v2 a0 a1 a2).mono fun e W' ⟨he, bel⟩ => ?_
  subst he
  exact ⟨_, rfl, _, _, _, [], _, [], hW', trodAll_mk1 (shut_bool Try.underlying4 _), (trodAll_cons_mk (stays (by kernel_rfl) (of_decide_eq_true (by kernel_rfl)) h0 bel) (trodAll_cons_mk (stays (by kernel_rfl) (of_decide_eq_true (by kernel_rfl)) h1 bel) (trodAll_cons_mk (stays (by kernel_rfl) (of_decide_eq_true (by kernel_rfl)) h2 bel) trodAll_mk0))), rfl, bel.frame _, fun h => by cases h⟩
theorem over : Rows.wireRangesRow.holds Try.pinned (OpenSpec.ofChange Rows.wireRangesSpec) :=
  OpenClaim.holds_of_wide 10 Try.f10 rfl rfl rfl rfl rfl rfl rfl ⟨rfl, rfl, rfl, rfl, rfl⟩ rfl rfl rfl rfl rfl (by kernel_rfl) Try.func10 (by kernel_rfl)
    (of_decide_eq_true (by kernel_rfl)) (by unfold Func.isWrapper; first | (rw [if_pos (by decide +kernel)]; kernel_rfl) | (rw [if_neg (by decide +kernel)]; exact ⟨rfl, rfl⟩))
    (fun os started H enc _ => lifted os started H enc)
theorem proved : Rows.WireRangesSaid := over
end wireRanges

end Go.Proofs.Ytnejobcbhddpoaa
