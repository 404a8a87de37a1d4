/- For every number and string the law SumsBack returns true: Number and Hex, and Open and Seal, invert each other (asked for strings of at most 1000 bytes), and the examples hold. No condition. -/
import Derived.Test.YtiffnnjegfghoaaMathB
import Derived.OpenShut
import Derived.ShutString
set_option linter.unusedVariables false
set_option linter.unusedSimpArgs false
namespace Go.Proofs.Ytiffnnjegfghoaa
open Go.ChangeShapes Go.WideShapes Go.ChangeAt Go.RowKit Cm

set_option maxHeartbeats 1600000 in
theorem back_nat (n : Nat) (s : ByteArray) (w : World) (hn : n < 18446744073709551616) (hs : s.size ≤ maxLen) : Calls Try.prog 7 #[.int .u64 n, .string s] w fun e w' => e = .returned (.bool true) ∧ Below w.heap.size w w' := by
  have HS := Lib.hid hs; clear hs
  have HN := Lib.hid hn; clear hn
  cases hsh : decide (s.size ≤ 1000) with
  | false =>
    have HH := Lib.hid hsh; clear hsh
    go_enter Try.func7, Try.ntmps7
    go_wp2_with fail
    refine (short_is s false HS.out HH _).mono ?_; rintro e w1 ⟨rfl, rfl⟩
    go_wp2_with fail
    refine (awake_c _).mono ?_; rintro e wz ⟨rfl, hqz⟩
    go_wp2_with fail
    go_ret
    exact ⟨rfl, hqz⟩
  | true =>
    have HH := Lib.hid hsh
    have HB := Lib.hid (of_decide_eq_true hsh); clear hsh
    have H11 := Lib.hid (show s.size ≤ 1100 by have := HB.out; omega)
    have heq : (s.toList == s.toList) = true := by simp
    have hem : (ByteArray.empty.toList == (ByteArray.mk #[]).toList) = true := by rw [beq_iff_eq]; rfl
    by_cases hz : nE s = 0
    · obtain ⟨k, hk, hx, hc⟩ := Number_ok s HS.out hz
      have HK := Lib.hid hk
      have HX := Lib.hid hx
      have HC := Lib.hid hc
      clear hk hx hc hz
      by_cases ho : opE s = 0
      · have hoc : ∀ w, Calls Try.prog 23 #[.string s] w fun e w' => e = .returned (.tuple #[.string (opS s), .int .i64 0]) ∧ Q w w' := fun w => by
          have := Open_c s w H11.out
          rw [ho] at this; exact this
        have hsb := opS_seal ho
        have hbl := Nat.le_trans (opS_len (s := s)) H11.out
        obtain ⟨b, hb⟩ : ∃ b, opS s = b := ⟨_, rfl⟩
        rw [hb] at hoc hsb hbl
        have HO := Lib.hid hoc
        have HSB := Lib.hid hsb
        have HBL := Lib.hid hbl
        clear hoc hsb hbl ho hb
        go_enter Try.func7, Try.ntmps7
        go_wp2_with fail
        refine (short_is s true HS.out HH _).mono ?_; rintro e w1 ⟨rfl, rfl⟩
        go_wp2_with fail
        refine (Hex_c n _ HN.out).mono ?_; rintro e w1 ⟨rfl, hq1⟩
        go_wp2_with fail
        refine (Number_hex n HN.out _).mono ?_; rintro e w2 ⟨rfl, hq2⟩
        go_wp2_with fail
        refine (HC.out _).mono ?_; rintro e w3 ⟨rfl, hq3⟩
        go_wp2_with fail
        refine (Seal_c s _ H11.out).mono ?_; rintro e w4 ⟨rfl, hq4⟩
        go_wp2_with fail
        refine (Open_seal s HB.out _).mono ?_; rintro e w5 ⟨rfl, hq5⟩
        go_wp2_with fail
        refine (HO.out _).mono ?_; rintro e w6 ⟨rfl, hq6⟩
        go_wp2_with fail
        refine (Hex_c k _ HK.out).mono ?_; rintro e w7 ⟨rfl, hq7⟩
        rw [HX.out]
        go_wp2_with fail
        refine (Seal_c b _ HBL.out).mono ?_; rintro e w8 ⟨rfl, hq8⟩
        rw [HSB.out]
        go_wp2_with fail
        refine (awake_c _).mono ?_; rintro e wz ⟨rfl, hqz⟩
        go_wp2_with fail
        go_ret
        exact ⟨rfl, ((((((((hq1.trans hq2).trans hq3).trans hq4).trans hq5).trans hq6)).trans hq7).trans hq8).trans hqz⟩
      · have hoc : ∀ w, Calls Try.prog 23 #[.string s] w fun e w' => e = .returned (.tuple #[.string ByteArray.empty, .int .i64 (opE s)]) ∧ Q w w' := fun w => by
          have := Open_c s w H11.out
          rw [opS_none ho] at this; exact this
        have t3 : (opE s != 0) = true := by simpa using ho
        have t4 : (opE s == 0) = false := by simpa using ho
        have HO := Lib.hid hoc
        clear hoc ho
        go_enter Try.func7, Try.ntmps7
        go_wp2_with fail
        refine (short_is s true HS.out HH _).mono ?_; rintro e w1 ⟨rfl, rfl⟩
        go_wp2_with fail
        refine (Hex_c n _ HN.out).mono ?_; rintro e w1 ⟨rfl, hq1⟩
        go_wp2_with fail
        refine (Number_hex n HN.out _).mono ?_; rintro e w2 ⟨rfl, hq2⟩
        go_wp2_with fail
        refine (HC.out _).mono ?_; rintro e w3 ⟨rfl, hq3⟩
        go_wp2_with fail
        refine (Seal_c s _ H11.out).mono ?_; rintro e w4 ⟨rfl, hq4⟩
        go_wp2_with fail
        refine (Open_seal s HB.out _).mono ?_; rintro e w5 ⟨rfl, hq5⟩
        go_wp2_with fail
        refine (HO.out _).mono ?_; rintro e w6 ⟨rfl, hq6⟩
        go_wp2_with fail
        refine (Hex_c k _ HK.out).mono ?_; rintro e w7 ⟨rfl, hq7⟩
        rw [HX.out]
        go_wp2_with fail
        refine (awake_c _).mono ?_; rintro e wz ⟨rfl, hqz⟩
        go_wp2_with fail
        go_ret
        exact ⟨rfl, (((((((hq1.trans hq2).trans hq3).trans hq4).trans hq5).trans hq6)).trans hq7).trans hqz⟩
    · have hc := Number_no s HS.out hz
      have t1 : (nE s != 0) = true := by simpa using hz
      have t2 : (nE s == 0) = false := by simpa using hz
      have HC := Lib.hid hc
      clear hc hz
      by_cases ho : opE s = 0
      · have hoc : ∀ w, Calls Try.prog 23 #[.string s] w fun e w' => e = .returned (.tuple #[.string (opS s), .int .i64 0]) ∧ Q w w' := fun w => by
          have := Open_c s w H11.out
          rw [ho] at this; exact this
        have hsb := opS_seal ho
        have hbl := Nat.le_trans (opS_len (s := s)) H11.out
        obtain ⟨b, hb⟩ : ∃ b, opS s = b := ⟨_, rfl⟩
        rw [hb] at hoc hsb hbl
        have HO := Lib.hid hoc
        have HSB := Lib.hid hsb
        have HBL := Lib.hid hbl
        clear hoc hsb hbl ho hb
        go_enter Try.func7, Try.ntmps7
        go_wp2_with fail
        refine (short_is s true HS.out HH _).mono ?_; rintro e w1 ⟨rfl, rfl⟩
        go_wp2_with fail
        refine (Hex_c n _ HN.out).mono ?_; rintro e w1 ⟨rfl, hq1⟩
        go_wp2_with fail
        refine (Number_hex n HN.out _).mono ?_; rintro e w2 ⟨rfl, hq2⟩
        go_wp2_with fail
        refine (HC.out _).mono ?_; rintro e w3 ⟨rfl, hq3⟩
        go_wp2_with fail
        refine (Seal_c s _ H11.out).mono ?_; rintro e w4 ⟨rfl, hq4⟩
        go_wp2_with fail
        refine (Open_seal s HB.out _).mono ?_; rintro e w5 ⟨rfl, hq5⟩
        go_wp2_with fail
        refine (HO.out _).mono ?_; rintro e w6 ⟨rfl, hq6⟩
        go_wp2_with fail
        refine (Seal_c b _ HBL.out).mono ?_; rintro e w8 ⟨rfl, hq8⟩
        rw [HSB.out]
        go_wp2_with fail
        refine (awake_c _).mono ?_; rintro e wz ⟨rfl, hqz⟩
        go_wp2_with fail
        go_ret
        exact ⟨rfl, (((((((hq1.trans hq2).trans hq3).trans hq4).trans hq5).trans hq6)).trans hq8).trans hqz⟩
      · have hoc : ∀ w, Calls Try.prog 23 #[.string s] w fun e w' => e = .returned (.tuple #[.string ByteArray.empty, .int .i64 (opE s)]) ∧ Q w w' := fun w => by
          have := Open_c s w H11.out
          rw [opS_none ho] at this; exact this
        have t3 : (opE s != 0) = true := by simpa using ho
        have t4 : (opE s == 0) = false := by simpa using ho
        have HO := Lib.hid hoc
        clear hoc ho
        go_enter Try.func7, Try.ntmps7
        go_wp2_with fail
        refine (short_is s true HS.out HH _).mono ?_; rintro e w1 ⟨rfl, rfl⟩
        go_wp2_with fail
        refine (Hex_c n _ HN.out).mono ?_; rintro e w1 ⟨rfl, hq1⟩
        go_wp2_with fail
        refine (Number_hex n HN.out _).mono ?_; rintro e w2 ⟨rfl, hq2⟩
        go_wp2_with fail
        refine (HC.out _).mono ?_; rintro e w3 ⟨rfl, hq3⟩
        go_wp2_with fail
        refine (Seal_c s _ H11.out).mono ?_; rintro e w4 ⟨rfl, hq4⟩
        go_wp2_with fail
        refine (Open_seal s HB.out _).mono ?_; rintro e w5 ⟨rfl, hq5⟩
        go_wp2_with fail
        refine (HO.out _).mono ?_; rintro e w6 ⟨rfl, hq6⟩
        go_wp2_with fail
        refine (awake_c _).mono ?_; rintro e wz ⟨rfl, hqz⟩
        go_wp2_with fail
        go_ret
        exact ⟨rfl, ((((((hq1.trans hq2).trans hq3).trans hq4).trans hq5).trans hq6)).trans hqz⟩
theorem back_walk (n : Int) (s : ByteArray) (w : World) (hn : (Lit.int .u64 n).wf = true) (hs : s.size ≤ maxLen) : Calls Try.prog 7 #[.int .u64 n, .string s] w fun e w' => e = .returned (.bool true) ∧ Below w.heap.size w w' := by
  obtain ⟨p, rfl, hp⟩ := u64_of hn
  exact back_nat p s w hp hs

open Go.ChangeMaps (open_string shut_string)
namespace sumsBack
theorem own : ownKnob Try.prog.godebug = none := by kernel_rfl
set_option maxRecDepth 100000 in
theorem lifted (os : Os) (started : os.Started) (H : Type) (enc : TypeId × Value → H) :
    ReturnsInHanded {} Try.checked os 7 .any (Rows.sumsBackSpec.pre6 enc Try.prog Try.f7 Rows.sumsBackRow.domain false) (Rows.sumsBackSpec.post enc Try.prog Try.f7 false true false false) := by
  refine returnsInHanded_of_change (C := Try.checked) own started (by kernel_rfl) Try.func7
    (ChangeSpec.witness6 (enc := enc) (C := Try.checked) false ⟨#[], #[.int .u64 0, .string ByteArray.empty], []⟩ 8 (by kernel_rfl) (by kernel_rfl) (by kernel_rfl) (by kernel_rfl)) ?_
  intro W base args ds gs before hval0 hW hcnd _
  have hval : ∀ (j : Nat) t v, Try.f7.params[j]? = some t → args[j]? = some v → Value.okWide Try.prog W .any base t v := hval0
  have hW' := hW
  obtain ⟨p, q, hA0, hV, rfl, hfz, hnd⟩ := hW
  have hA : DataW.TrodAll enc Try.prog W 0 (fun _ => true) true Try.f7.params.toList args.toList ds p := hA0
  rw [Try.params7] at hA hval
  obtain ⟨v0, vs0, d0, ds0, p0, q0, hargs, rfl, rfl, h0, r0⟩ := trodAll_cons hA
  obtain ⟨v1, vs1, d1, ds1, p1, q1, rfl, rfl, rfl, h1, r1⟩ := trodAll_cons r0
  obtain ⟨rfl, rfl, rfl⟩ := trodAll_nil r1
  obtain rfl : args = #[v0, v1] := by cases args; simp_all
  obtain ⟨rfl, rfl⟩ := trodVars_none hV
  obtain ⟨a0, rfl, rfl, rfl, w0⟩ := open_int Try.underlying26 (hval 0 26 v0 rfl rfl) h0
  obtain ⟨a1, rfl, rfl, rfl, w1⟩ := open_string Try.underlying9 (hval 1 9 v1 rfl rfl) h1
  clear hA0 hval0
  refine (back_walk a0 a1 W w0 w1).mono fun e W' ⟨he, bel⟩ => ?_
  subst he
  exact ⟨_, rfl, _, _, _, [], _, [], hW', trodAll_mk1 (shut_bool Try.underlying4 _), (trodAll_cons_mk (shut_int Try.underlying26 w0) (trodAll_cons_mk (shut_string Try.underlying9 w1) trodAll_mk0)), rfl, bel.frame _, fun h => by cases h⟩
theorem over : Rows.sumsBackRow.holds Try.pinned (OpenSpec.ofChange Rows.sumsBackSpec) :=
  OpenClaim.holds_of_wide 7 Try.f7 rfl rfl rfl rfl rfl rfl rfl ⟨rfl, rfl, rfl, rfl, rfl⟩ rfl rfl rfl rfl rfl (by kernel_rfl) Try.func7 (by kernel_rfl)
    (of_decide_eq_true (by kernel_rfl)) (by unfold Func.isWrapper; first | (rw [if_pos (by decide +kernel)]; kernel_rfl) | (rw [if_neg (by decide +kernel)]; exact ⟨rfl, rfl⟩))
    (fun os started H enc _ => lifted os started H enc)
theorem proved : Rows.SumsBackSaid := over
end sumsBack

end Go.Proofs.Ytiffnnjegfghoaa
