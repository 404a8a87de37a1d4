/- For every read the law WireNil returns true: a nil reader answers zero values, and ErrNil as its error. No condition. -/
import Derived.Test.YtnejobcbhddpoaaArg
set_option linter.unusedVariables false
set_option linter.unusedSimpArgs false
namespace Go.Proofs.Ytnejobcbhddpoaa
open Go.ChangeShapes Go.WideShapes Go.ChangeAt Go.RowKit Wm

set_option maxRecDepth 100000 in
set_option maxHeartbeats 1600000 in
theorem read_nil (k : Nat) (lo hi most : Int) (w : World) : Calls Try.prog 23 #[.pointer none, ov k lo hi most] w fun e w' => e = .returned (fv k 0 0 ByteArray.empty (.slice none 0 0)) ∧ Q w w' := by
  unfold ov
  have hz : ByteArray.empty = (⟨#[]⟩ : ByteArray) := rfl
  by_cases hk0 : k = 0
  · subst hk0
    go_enter Try.func23, Try.ntmps23
    go_wp2_with fail
    refine (mUint_nil _).mono ?_; rintro E w3 ⟨rfl, rfl⟩
    go_wp2_with fail
    refine bodyPost_ret (v := fv 0 0 0 ⟨#[]⟩ (.slice none 0 0)) (by simp [results, Try.results23, go_sem, fv]) rfl ⟨rfl, ?_⟩
    repeat (first | exact Q.refl _ | refine Q.alloc ?_ _ | refine Q.setA ?_ (by simp; try omega) _)
  · by_cases hk1 : k = 1
    · subst hk1
      go_enter Try.func23, Try.ntmps23
      go_wp2_with fail
      refine (mInt_nil _ _ _).mono ?_; rintro E w3 ⟨rfl, rfl⟩
      go_wp2_with fail
      refine bodyPost_ret (v := fv 1 0 0 ⟨#[]⟩ (.slice none 0 0)) (by simp [results, Try.results23, go_sem, fv]) rfl ⟨rfl, ?_⟩
      repeat (first | exact Q.refl _ | refine Q.alloc ?_ _ | refine Q.setA ?_ (by simp; try omega) _)
    · by_cases hk2 : k = 2
      · subst hk2
        go_enter Try.func23, Try.ntmps23
        go_wp2_with fail
        refine (mText_nil _ _).mono ?_; rintro E w3 ⟨rfl, rfl⟩
        go_wp2_with fail
        refine bodyPost_ret (v := fv 2 0 0 ⟨#[]⟩ (.slice none 0 0)) (by simp [results, Try.results23, go_sem, fv]) rfl ⟨rfl, ?_⟩
        repeat (first | exact Q.refl _ | refine Q.alloc ?_ _ | refine Q.setA ?_ (by simp; try omega) _)
      · have t0 : ((k : Int) == 0) = false := by simp; omega
        have t1 : ((k : Int) == 1) = false := by simp; omega
        have t2 : ((k : Int) == 2) = false := by simp; omega
        clear hk0 hk1 hk2
        go_enter Try.func23, Try.ntmps23
        go_wp2_with fail
        refine (mInts_nil _ _ _ _).mono ?_; rintro E w3 ⟨rfl, rfl⟩
        go_wp2_with fail
        refine bodyPost_ret (v := fv k 0 0 ⟨#[]⟩ (.slice none 0 0)) (by simp [results, Try.results23, go_sem, fv]) rfl ⟨rfl, ?_⟩
        repeat (first | exact Q.refl _ | refine Q.alloc ?_ _ | refine Q.setA ?_ (by simp; try omega) _)
theorem nil_walk (w : World) (v : Value) (hv : ArgO w v) : Calls Try.prog 11 #[v] w fun e w' => e = .returned (.bool true) ∧ Below w.heap.size w w' := by
  obtain ⟨o, rfl, ho⟩ := hv
  unfold OpT.vl ov
  have HQ := Lib.hid ((Q.refl w).alloc (.cells #[.int .u8 o.k, .int .i64 o.lo, .int .i64 o.hi, .int .i64 o.most] 39))
  go_enter Try.func11, Try.ntmps11
  go_wp2_with fail
  refine (read_nil o.k o.lo o.hi o.most _).mono ?_; rintro E w1 ⟨rfl, hq1⟩
  have Q1 := Lib.hid (HQ.out.trans hq1)
  clear hq1
  unfold fv
  go_wp2_with fail
  refine (zero_c o.k _ _ (RdI.nil _)).mono ?_; rintro E w2 ⟨rfl, hq2⟩
  go_wp2_with fail
  refine (Left_nil _).mono ?_; rintro E w3 ⟨rfl, rfl⟩
  go_wp2_with fail
  refine (Err_nil _).mono ?_; rintro E w3 ⟨rfl, rfl⟩
  go_wp2_with fail
  refine (End_nil _).mono ?_; rintro E w3 ⟨rfl, rfl⟩
  go_wp2_with fail
  refine (awake_c _).mono ?_; rintro E w3 ⟨rfl, hq3⟩
  go_wp2_with fail
  go_ret
  exact ⟨rfl, (((Q1.out.alloc _).trans hq2).trans hq3)⟩

namespace wireNil
theorem own : ownKnob Try.prog.godebug = none := by kernel_rfl
set_option maxRecDepth 100000 in
set_option maxHeartbeats 800000 in
theorem lifted (os : Os) (started : os.Started) (H : Type) (enc : TypeId × Value → H) :
    ReturnsInHanded {} Try.checked os 11 .any (Rows.wireNilSpec.pre6 enc Try.prog Try.f11 Rows.wireNilRow.domain false) (Rows.wireNilSpec.post enc Try.prog Try.f11 false true false false) := by
  refine returnsInHanded_of_change (C := Try.checked) own started (by kernel_rfl) Try.func11
    (ChangeSpec.witness6 (enc := enc) (C := Try.checked) false ⟨#[], #[.agg #[.int .u8 0, .int .i64 0, .int .i64 0, .int .i64 0]], []⟩ 8 (by kernel_rfl) (by kernel_rfl) (by kernel_rfl) (by kernel_rfl)) ?_
  intro W base args ds gs before hval0 hW hcnd _
  have hval : ∀ (j : Nat) t v, Try.f11.params[j]? = some t → args[j]? = some v → Value.okWide Try.prog W .any base t v := hval0
  have hW' := hW
  obtain ⟨p, q, hA0, hV, rfl, hfz, hnd⟩ := hW
  have hA : DataW.TrodAll enc Try.prog W 0 (fun _ => true) true Try.f11.params.toList args.toList ds p := hA0
  rw [Try.params11] at hA hval
  obtain ⟨v0, vs0, d0, ds0, p0, q0, hargs, rfl, rfl, h0, r0⟩ := trodAll_cons hA
  obtain ⟨rfl, rfl, rfl⟩ := trodAll_nil r0
  obtain rfl : args = #[v0] := by cases args; simp_all
  obtain ⟨rfl, rfl⟩ := trodVars_none hV
  have a0 := open_op (hval 0 39 v0 rfl rfl) h0
  clear hA0 hval0
  refine (nil_walk W v0 a0).mono fun e W' ⟨he, bel⟩ => ?_
  subst he
  exact ⟨_, rfl, _, _, _, [], _, [], hW', trodAll_mk1 (shut_bool Try.underlying4 _), (trodAll_cons_mk (stays (by kernel_rfl) (of_decide_eq_true (by kernel_rfl)) h0 bel) trodAll_mk0), rfl, bel.frame _, fun h => by cases h⟩
theorem over : Rows.wireNilRow.holds Try.pinned (OpenSpec.ofChange Rows.wireNilSpec) :=
  OpenClaim.holds_of_wide 11 Try.f11 rfl rfl rfl rfl rfl rfl rfl ⟨rfl, rfl, rfl, rfl, rfl⟩ rfl rfl rfl rfl rfl (by kernel_rfl) Try.func11 (by kernel_rfl)
    (of_decide_eq_true (by kernel_rfl)) (by unfold Func.isWrapper; first | (rw [if_pos (by decide +kernel)]; kernel_rfl) | (rw [if_neg (by decide +kernel)]; exact ⟨rfl, rfl⟩))
    (fun os started H enc _ => lifted os started H enc)
theorem proved : Rows.WireNilSaid := over
end wireNil

end Go.Proofs.Ytnejobcbhddpoaa
