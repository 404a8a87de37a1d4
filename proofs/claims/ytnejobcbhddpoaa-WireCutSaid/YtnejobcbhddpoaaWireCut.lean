/- For every field and number the law WireCut returns true: a proper prefix of the encoding of a field is refused with ErrShort, and nothing of it is consumed (asked for at most 3000 bytes and 300 numbers), and the examples hold. No condition. -/
import Derived.Test.YtnejobcbhddpoaaCutMath
set_option linter.unusedVariables false
set_option linter.unusedSimpArgs false
namespace Go.Proofs.Ytnejobcbhddpoaa
open Go.ChangeShapes Go.WideShapes Go.ChangeAt Go.RowKit Wm

theorem exO_fit {k : Nat} {i : Int} {t : ByteArray} {l : List Int} (ht : t.size ≤ maxLen) (hl : l.length ≤ maxLen) : Fit (exO k i t l).most := by
  unfold maxLen at ht hl
  unfold exO Fit; split <;> (simp only; omega)
theorem exO_k {k : Nat} {i : Int} {t : ByteArray} {l : List Int} : (exO k i t l).k = k := by unfold exO; split <;> rfl
set_option maxRecDepth 100000 in
set_option maxHeartbeats 3200000 in
theorem cut_walk (w : World) (v u : Value) (hv : ArgF w v) (hu : ArgH w u) : Calls Try.prog 9 #[v, u] w fun e w' => e = .returned (.bool true) ∧ Below w.heap.size w w' := by
  obtain ⟨⟨k, n, i, t, sl, l⟩, rfl, hk, hn, hi, ht, hr, hf, hl⟩ := hv
  obtain ⟨x, rfl, hx⟩ := hu
  simp only at hk hn hi ht hr hf hl
  unfold FdT.vl fv
  simp only
  have HR := Lib.hid hr
  have HF := Lib.hid hf
  have HT := Lib.hid ht
  have HL := Lib.hid hl
  have HN := Lib.hid hn
  have HI := Lib.hid hi
  obtain ⟨sA, sc, rfl, _, _⟩ := hr
  obtain ⟨ln, hln⟩ : ∃ ln, l.length = ln := ⟨_, rfl⟩
  rw [hln] at HR
  rw [hln]
  have HLN := Lib.hid hln
  have Q0 := Lib.hid ((Q.refl w).alloc (.cells #[.int .u8 k, .int .u64 n, .int .i64 i, .string t, .slice sA ln sc] 41))
  have HB := Lib.hid (heap_alloc_new w (.cells #[.int .u8 k, .int .u64 n, .int .i64 i, .string t, .slice sA ln sc] 41))
  cases hsm : decide (t.size ≤ 3000 ∧ l.length ≤ 300) with
  | false =>
    have HSM := Lib.hid hsm
    clear hsm hk hn hi ht hf hl hln hx
    go_enter Try.func9, Try.ntmps9
    go_wp2_with fail
    refine (small_c k n i t _ l false _ HT.out (HR.out.q Q0.out) HL.out HSM).mono ?_; rintro E w1 ⟨rfl, hq1⟩
    go_wp2_with fail
    refine (awake_c _).mono ?_; rintro E w2 ⟨rfl, hq2⟩
    go_wp2_with fail
    go_ret
    exact ⟨rfl, (Q0.out.trans hq1).trans hq2⟩
  | true =>
    have HSM := Lib.hid hsm
    obtain ⟨b1, b2⟩ := of_decide_eq_true hsm
    have HT3 := Lib.hid b1
    have HL3 := Lib.hid b2
    obtain ⟨L, hL⟩ : ∃ L, encL k n i t l = L := ⟨_, rfl⟩
    have hLlen := encL_len (k := k) hn hi b1 hf b2
    have hLpos := encL_pos k n i t l
    rw [hL] at hLlen hLpos
    obtain ⟨S, hS⟩ : ∃ S, encF k n i t l = S := ⟨_, rfl⟩
    have hSL : S = bs L := by rw [← hS, encF_bs, hL]
    have hSs : S.size = L.length := by rw [hSL, size_bs]
    obtain ⟨m, hm⟩ : ∃ m, x % S.size = m := ⟨_, rfl⟩
    have hml : m < L.length := by rw [← hm, hSs]; exact Nat.mod_lt _ hLpos
    have hcut := outR_cut (k := k) (t := t) (l := l) (m := m) hn hi (by omega) hf (by omega) (by rw [hL]; exact hml)
    rw [hL] at hcut
    obtain ⟨C, hC⟩ : ∃ C, bs (L.take m) = C := ⟨_, rfl⟩
    rw [hC] at hcut
    have hCs : C.size = m := by rw [← hC, size_bs, List.length_take]; omega
    have hext : S.extract 0 m = C := by rw [take_pre S L hSL, hC]
    rw [exO_k] at hcut
    have HCUT := Lib.hid hcut
    have HCS := Lib.hid hCs
    have HW := Lib.hid (fun w' (hq : Q w w') => write_c k n i t (.slice sA ln sc) l w' HN.out HI.out (show t.size ≤ 1000000 by omega) (HR.out.q hq) (show l.length ≤ 100000 by omega) HF.out)
    rw [hS] at HW
    have HFM := Lib.hid (exO_fit (k := k) (i := i) HT.out HL.out)
    have HX := Lib.hid (fun w' (hq : Q w w') => exact_c k n i t (.slice sA ln sc) l w' HT.out (HR.out.q hq) HL.out)
    obtain ⟨o, ho⟩ : ∃ o, exO k i t l = o := ⟨_, rfl⟩
    rw [ho] at HCUT HFM
    simp only [ho] at HX
    have hok : o.k = k := by rw [← ho]; exact exO_k
    obtain ⟨ok, olo, ohi, omost⟩ := o
    simp only at HCUT HFM hok
    subst hok
    have HSS := Lib.hid (show 0 < S.size ∧ S.size ≤ 3010 by omega)
    have z1 : ((S.size : Int) == 0) = false := by rw [beq_eq_false_iff_ne]; omega
    have z7 : (x : Int) ≤ 65535 := by omega
    have z8 : (S.size : Int) ≤ 3010 := by omega
    have z2 : (x : Int) % (S.size : Int) = (m : Int) := by rw [← hm]; simp
    have z3 : (1 : Int) ≤ (S.size : Int) := by omega
    have z4 : (0 : Int) ≤ (m : Int) := by omega
    have z5 : (m : Int) ≤ (S.size : Int) := by omega
    have z6 : m ≤ S.size := by omega
    clear hsm hn hi ht hf hl hln hx ho hL hS hSL hSs hm hml hcut hC hCs hLlen hLpos b1 b2
    go_enter Try.func9, Try.ntmps9
    go_wp2_with fail
    refine (small_c ok n i t _ l true _ HT.out (HR.out.q Q0.out) HL.out HSM).mono ?_; rintro E w1 ⟨rfl, hq1⟩
    have Q1 := Lib.hid (Q0.out.trans hq1)
    have B1 := Lib.hid ((hq1.block _ (lt_of_block HB.out)).trans HB.out)
    clear hq1
    obtain ⟨x0, x1, x2, x3, x4, xf⟩ := five B1.out
    go_wp2_with fail
    refine (HW.out _ Q1.out).mono ?_; rintro E w2 ⟨rfl, hq2⟩
    have Q2 := Lib.hid (Q1.out.trans hq2)
    have B2 := Lib.hid ((hq2.block _ (lt_of_block B1.out)).trans B1.out)
    clear hq2 x0 x1 x2 x3 x4 xf
    go_wp2_with fail
    refine (New_c C _).mono ?_; rintro E w3 ⟨b, rfl, hb, hr3, hq3⟩
    have R3 := Lib.hid hr3
    have Q3 := Lib.hid (Q2.out.trans hq3)
    have B3 := Lib.hid ((hq3.block _ (lt_of_block B2.out)).trans B2.out)
    have HBB := Lib.hid (Nat.le_trans Q2.out.size hb)
    clear hr3 hq3 hb
    obtain ⟨x0, x1, x2, x3, x4, xf⟩ := five B3.out
    go_wp2_with fail
    refine (HX.out _ Q3.out).mono ?_; rintro E w4 ⟨rfl, hq4⟩
    have R4 := Lib.hid (R3.out.q hq4)
    have Q4 := Lib.hid (Q3.out.trans hq4)
    clear hq4 x0 x1 x2 x3 x4 xf
    unfold OpT.vl ov
    go_wp2_with fail
    refine (read_r C 0 b 0 ok olo ohi omost 0 0 ByteArray.empty [] 0 3 _ (by have := HCS.out; have := HSS.out; omega) (Nat.zero_le _) HFM.out HCUT R4.out).mono ?_
    rintro E w5 ⟨rs5, rfl, hs5, hnb, hr5, hg5⟩
    unfold fv
    simp only at hs5 hr5
    have hs6 := hs5
    obtain ⟨xA, xc, rfl, _, _⟩ := hs6
    have R5 := Lib.hid hr5
    have Q5 := Lib.hid (G.below Q4.out hg5 HBB.out Q4.out.size)
    have S5 := Lib.hid hs5
    clear hs5 hnb hr5 hg5
    go_wp2_with fail
    refine (zero_c ok _ _ (S5.out.q ((Q.refl w5).alloc _))).mono ?_; rintro E w6 ⟨rfl, hq6⟩
    have R6 := Lib.hid ((R5.out.q ((Q.refl w5).alloc _)).q hq6)
    have Q6 := Lib.hid (Below.trans Q5.out (Below.mono (((Q.refl w5).alloc _).trans hq6) Q5.out.size))
    clear hq6
    go_wp2_with fail
    refine (Err_c C (0 + 0) 3 b _ R6.out).mono ?_; rintro E w7 ⟨rfl, rfl⟩
    go_wp2_with fail
    refine (Left_c C (0 + 0) 3 b _ (by have := HCS.out; have := HSS.out; omega) R6.out).mono ?_; rintro E w7 ⟨rfl, rfl⟩
    rw [show C.size - (0 + 0) = C.size by omega]
    have z9 : ((C.size : Int) == (C.size : Int)) = true := by simp
    go_wp2_with fail
    refine (awake_c _).mono ?_; rintro E w8 ⟨rfl, hq8⟩
    go_wp2_with fail
    go_ret
    exact ⟨rfl, Below.trans Q6.out (Below.mono hq8 Q6.out.size)⟩

namespace wireCut
theorem own : ownKnob Try.prog.godebug = none := by kernel_rfl
set_option maxRecDepth 100000 in
set_option maxHeartbeats 800000 in
theorem lifted (os : Os) (started : os.Started) (H : Type) (enc : TypeId × Value → H) :
    ReturnsInHanded {} Try.checked os 9 .any (Rows.wireCutSpec.pre6 enc Try.prog Try.f9 Rows.wireCutRow.domain false) (Rows.wireCutSpec.post enc Try.prog Try.f9 false true false false) := by
  refine returnsInHanded_of_change (C := Try.checked) own started (by kernel_rfl) Try.func9
    (ChangeSpec.witness6 (enc := enc) (C := Try.checked) false ⟨#[], #[.agg #[.int .u8 0, .int .u64 0, .int .i64 0, .string ByteArray.empty, .slice none 0 0], .int .u16 0], []⟩ 8 (by kernel_rfl) (by kernel_rfl) (by kernel_rfl) (by kernel_rfl)) ?_
  intro W base args ds gs before hval0 hW hcnd _
  have hval : ∀ (j : Nat) t v, Try.f9.params[j]? = some t → args[j]? = some v → Value.okWide Try.prog W .any base t v := hval0
  have hW' := hW
  obtain ⟨p, q, hA0, hV, rfl, hfz, hnd⟩ := hW
  have hA : DataW.TrodAll enc Try.prog W 0 (fun _ => true) true Try.f9.params.toList args.toList ds p := hA0
  rw [Try.params9] at hA hval
  obtain ⟨v0, vs0, d0, ds0, p0, q0, hargs, rfl, rfl, h0, r0⟩ := trodAll_cons hA
  obtain ⟨v1, vs1, d1, ds1, p1, q1, rfl, rfl, rfl, h1, r1⟩ := trodAll_cons r0
  obtain ⟨rfl, rfl, rfl⟩ := trodAll_nil r1
  obtain rfl : args = #[v0, v1] := by cases args; simp_all
  obtain ⟨rfl, rfl⟩ := trodVars_none hV
  have a0 := open_field (hval 0 41 v0 rfl rfl) h0
  have a1 := open_u16 (hval 1 63 v1 rfl rfl) h1
  clear hA0 hval0
  refine (cut_walk W v0 v1 a0 a1).mono fun e W' ⟨he, bel⟩ => ?_
  subst he
  exact ⟨_, rfl, _, _, _, [], _, [], hW', trodAll_mk1 (shut_bool Try.underlying4 _), (trodAll_cons_mk (stays (by kernel_rfl) (of_decide_eq_true (by kernel_rfl)) h0 bel) (trodAll_cons_mk (stays (by kernel_rfl) (of_decide_eq_true (by kernel_rfl)) h1 bel) trodAll_mk0)), rfl, bel.frame _, fun h => by cases h⟩
theorem over : Rows.wireCutRow.holds Try.pinned (OpenSpec.ofChange Rows.wireCutSpec) :=
  OpenClaim.holds_of_wide 9 Try.f9 rfl rfl rfl rfl rfl rfl rfl ⟨rfl, rfl, rfl, rfl, rfl⟩ rfl rfl rfl rfl rfl (by kernel_rfl) Try.func9 (by kernel_rfl)
    (of_decide_eq_true (by kernel_rfl)) (by unfold Func.isWrapper; first | (rw [if_pos (by decide +kernel)]; kernel_rfl) | (rw [if_neg (by decide +kernel)]; exact ⟨rfl, rfl⟩))
    (fun os started H enc _ => lifted os started H enc)
theorem proved : Rows.WireCutSaid := over
end wireCut

end Go.Proofs.Ytnejobcbhddpoaa
