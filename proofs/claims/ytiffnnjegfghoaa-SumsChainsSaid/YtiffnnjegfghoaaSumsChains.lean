/- For every number, string and byte the law SumsChains returns true: Chain is the hash of the bytes of the hash before and the string, and another last byte gives another hash (asked for strings of at most 1000 bytes). No condition. -/
import Derived.Test.YtiffnnjegfghoaaBytesB
import Derived.OpenShut
import Derived.ShutString
set_option linter.unusedVariables false
set_option linter.unusedSimpArgs false
namespace Go.Proofs.Ytiffnnjegfghoaa
open Go.ChangeShapes Go.WideShapes Go.ChangeAt Go.RowKit Cm

theorem Hash_is (s : ByteArray) (v : Nat) (hs : s.size ≤ maxLen) (h : Hid (fnv (bt s) s.size = v)) (w : World) : Calls Try.prog 15 #[.string s] w fun e w' => e = .returned (.int .u64 v) ∧ w = w' :=
  (Hash_c s w hs).mono fun _ _ ⟨a, b⟩ => ⟨by rw [a, h.out], b⟩
set_option maxHeartbeats 1600000 in
theorem chains_nat (p : Nat) (s : ByteArray) (x : UInt8) (w : World) (hp : p < 18446744073709551616) (hs : s.size ≤ maxLen) : Calls Try.prog 8 #[.int .u64 p, .string s, .int .u8 (x.toNat : Int)] w fun e w' => e = .returned (.bool true) ∧ Below w.heap.size w w' := by
  have HS := Lib.hid hs; clear hs
  have HP := Lib.hid hp; clear hp
  cases hsh : decide (s.size ≤ 1000) with
  | false =>
    have HH := Lib.hid hsh; clear hsh
    go_enter Try.func8, Try.ntmps8
    go_wp2_with fail
    refine (short_is s false HS.out HH _).mono ?_; rintro e w1 ⟨rfl, rfl⟩
    go_wp2_with fail
    refine (awake_c _).mono ?_; rintro e wz ⟨rfl, hqz⟩
    go_wp2_with fail
    go_ret
    exact ⟨rfl, hqz⟩
  | true =>
    have HH := Lib.hid hsh
    have HB := Lib.hid (of_decide_eq_true hsh); clear hsh
    have H11 := Lib.hid (show s.size ≤ 1100 by have := HB.out; omega)
    have HC8 := Lib.hid (show (bs (P8 p)).size ≤ 8 by rw [size_bs, P8_len]; omega)
    by_cases h0 : s.size = 0
    · obtain ⟨cap, W2, hconv, hBy, hq2, hsz⟩ := to_bytes s w
      have HQ2 := Lib.hid hq2
      rw [h0] at hconv
      have HZ := Lib.hid h0
      clear hBy hq2 hsz h0
      go_enter Try.func8, Try.ntmps8
      go_wp2_with fail
      refine (short_is s true HS.out HH _).mono ?_; rintro e w1 ⟨rfl, rfl⟩
      go_wp2_with fail
      refine (Chain_c p s _ HP.out H11.out).mono ?_; rintro e w1 ⟨rfl, hq1⟩
      go_wp2_with fail
      refine (bytesOf_c p _ HP.out).mono ?_; rintro e w3 ⟨rfl, hq3⟩
      have h1 : (bs (P8 p)).size ≤ 8 := HC8.out
      have h2 : s.size ≤ 1100 := H11.out
      go_wp2_with fail
      refine (Hash_c (bs (P8 p) ++ s) _ (by rw [cat_size]; have := H11.out; unfold maxLen; omega)).mono ?_; rintro e w' ⟨rfl, rfl⟩
      rw [cat_size]
      go_wp2_with fail
      refine (awake_c _).mono ?_; rintro e wz ⟨rfl, hqz⟩
      go_wp2_with fail
      go_ret
      exact ⟨rfl, ((HQ2.out.trans hq1).trans hq3).trans hqz⟩
    · obtain ⟨m, hm⟩ : ∃ m, s.size = m + 1 := ⟨s.size - 1, by omega⟩
      obtain ⟨cap, W2, hconv, hBy, hq2, hsz⟩ := to_bytes s w
      rw [hm] at hconv hBy
      have e1 : IntKind.i64.wrap (((m + 1 : Nat) : Int) - 1) = (m : Int) := by rw [show ((m + 1 : Nat) : Int) - 1 = (m : Int) by omega]; exact IntWalk.i64_in _ (by have := HB.out; omega)
      have e2 : ((m + 1 : Nat) : Int) - 1 = (m : Int) := by omega
      obtain ⟨y, hy⟩ : ∃ y, bu s m = y := ⟨_, rfl⟩
      have hc := (hBy m (by omega)).1
      have hf := (hBy m (by omega)).2
      rw [hy] at hc
      unfold bv at hc
      obtain ⟨z, hz⟩ : ∃ z, y ^^^ x = z := ⟨_, rfl⟩
      have hx := xor8 y x
      rw [hz] at hx
      have hback : ∀ cap, (convert 37 9 (.slice (some ⟨w.heap.size, 0, none⟩) (m + 1) cap)).run Try.prog (W2.setCell ⟨w.heap.size, m, none⟩ (.int .u8 (z.toNat : Int))) = .ok (.string (mk (m + 1) (fun j => if j = m then z else bu s j))) (W2.setCell ⟨w.heap.size, m, none⟩ (.int .u8 (z.toNat : Int))) :=
        fun cap => from_bytes (byt_set hBy (by omega) z) cap
      obtain ⟨T, hT⟩ : ∃ T, mk (m + 1) (fun j => if j = m then z else bu s j) = T := ⟨_, rfl⟩
      have hTs : T.size = m + 1 := by rw [← hT, mk_size]
      have hTm : T.size ≤ maxLen := by rw [hTs, ← hm]; exact HS.out
      obtain ⟨v1, hv1⟩ : ∃ v, fnv (bt T) T.size = v := ⟨_, rfl⟩
      obtain ⟨v2, hv2⟩ : ∃ v, fnv (bt s) s.size = v := ⟨_, rfl⟩
      have hxe : decide (v1 = v2) = decide (x = 0) := by
        rw [← hv1, ← hv2, hTs, hm]
        by_cases g : x = 0
        · subst g
          rw [decide_eq_true rfl, decide_eq_true_eq]
          apply fnv_same
          intro i hi
          rw [← hT, mk_bt _ _ _ hi, bt_bu]
          by_cases e : i = m
          · subst e; rw [if_pos rfl, ← hz, ← hy, UInt8.xor_zero]
          · rw [if_neg e]
        · rw [decide_eq_false g, decide_eq_false_iff_not]
          refine fnv_last (bt_bd T) (bt_bd s) (fun i hi => ?_) ?_
          · rw [← hT, mk_bt _ _ _ (by omega), if_neg (by omega), bt_bu]
          · rw [← hT, mk_bt _ _ _ (by omega), if_pos rfl, bt_bu, hy]
            intro g2; rw [← hz] at g2; exact xor_ne g (UInt8.toNat_inj.1 g2)
      have HV1 := Lib.hid hv1
      have HV2 := Lib.hid hv2
      have HTM := Lib.hid hTm
      have HQ2 := Lib.hid hq2
      have hxz := u8_zero x
      have hvb : ((v1 : Int) == (v2 : Int)) = decide (x = 0) := by
        rw [← hxe]
        by_cases g : v1 = v2
        · subst g; simp
        · rw [decide_eq_false g, beq_eq_false_iff_ne]; omega
      rw [hT] at hback
      have hbk := hback cap
      have HQ3 := Lib.hid (show Q w (W2.setCell ⟨w.heap.size, m, none⟩ (.int .u8 (z.toNat : Int))) from Below.setCell hq2 (Nat.le_refl _) _)
      have hm1000 : (m : Int) ≤ 1000 := by have := HB.out; omega
      have HM := Lib.hid hm
      clear hBy hq2 hv1 hv2 hTs hTm hxe hback hy hT hm h0 hz
      cases hx0 : decide (x = 0) with
      | true =>
        rw [hx0] at hxz hvb
        clear hx0
        go_enter Try.func8, Try.ntmps8
        go_wp2_with fail
        refine (short_is s true HS.out HH _).mono ?_; rintro e w1 ⟨rfl, rfl⟩
        go_wp2_with fail
        refine (Hash_is T v1 HTM.out HV1 _).mono ?_; rintro e w1 ⟨rfl, rfl⟩
        go_wp2_with fail
        refine (Hash_is s v2 HS.out HV2 _).mono ?_; rintro e w1 ⟨rfl, rfl⟩
        go_wp2_with fail
        refine (Chain_c p s _ HP.out H11.out).mono ?_; rintro e w1 ⟨rfl, hq1⟩
        go_wp2_with fail
        refine (bytesOf_c p _ HP.out).mono ?_; rintro e w3 ⟨rfl, hq3⟩
        have h1 : (bs (P8 p)).size ≤ 8 := HC8.out
        have h2 : s.size ≤ 1100 := H11.out
        go_wp2_with fail
        refine (Hash_c (bs (P8 p) ++ s) _ (by rw [cat_size]; have := H11.out; unfold maxLen; omega)).mono ?_; rintro e w' ⟨rfl, rfl⟩
        rw [cat_size]
        go_wp2_with fail
        refine (awake_c _).mono ?_; rintro e wz ⟨rfl, hqz⟩
        go_wp2_with fail
        go_ret
        exact ⟨rfl, ((HQ3.out.trans hq1).trans hq3).trans hqz⟩
      | false =>
        rw [hx0] at hxz hvb
        clear hx0
        go_enter Try.func8, Try.ntmps8
        go_wp2_with fail
        refine (short_is s true HS.out HH _).mono ?_; rintro e w1 ⟨rfl, rfl⟩
        go_wp2_with fail
        refine (Hash_is T v1 HTM.out HV1 _).mono ?_; rintro e w1 ⟨rfl, rfl⟩
        go_wp2_with fail
        refine (Hash_is s v2 HS.out HV2 _).mono ?_; rintro e w1 ⟨rfl, rfl⟩
        go_wp2_with fail
        refine (Chain_c p s _ HP.out H11.out).mono ?_; rintro e w1 ⟨rfl, hq1⟩
        go_wp2_with fail
        refine (bytesOf_c p _ HP.out).mono ?_; rintro e w3 ⟨rfl, hq3⟩
        have h1 : (bs (P8 p)).size ≤ 8 := HC8.out
        have h2 : s.size ≤ 1100 := H11.out
        go_wp2_with fail
        refine (Hash_c (bs (P8 p) ++ s) _ (by rw [cat_size]; have := H11.out; unfold maxLen; omega)).mono ?_; rintro e w' ⟨rfl, rfl⟩
        rw [cat_size]
        go_wp2_with fail
        refine (awake_c _).mono ?_; rintro e wz ⟨rfl, hqz⟩
        go_wp2_with fail
        go_ret
        exact ⟨rfl, ((HQ3.out.trans hq1).trans hq3).trans hqz⟩
theorem chains_walk (n : Int) (s : ByteArray) (x : Int) (w : World) (hn : (Lit.int .u64 n).wf = true) (hs : s.size ≤ maxLen) (hx : (Lit.int .u8 x).wf = true) : Calls Try.prog 8 #[.int .u64 n, .string s, .int .u8 x] w fun e w' => e = .returned (.bool true) ∧ Below w.heap.size w w' := by
  obtain ⟨p, rfl, hp⟩ := u64_of hn
  obtain ⟨c, rfl⟩ := u8_of hx
  exact chains_nat p s c w hp hs

open Go.ChangeMaps (open_string shut_string)
namespace sumsChains
theorem own : ownKnob Try.prog.godebug = none := by kernel_rfl
set_option maxRecDepth 100000 in
theorem lifted (os : Os) (started : os.Started) (H : Type) (enc : TypeId × Value → H) :
    ReturnsInHanded {} Try.checked os 8 .any (Rows.sumsChainsSpec.pre6 enc Try.prog Try.f8 Rows.sumsChainsRow.domain false) (Rows.sumsChainsSpec.post enc Try.prog Try.f8 false true false false) := by
  refine returnsInHanded_of_change (C := Try.checked) own started (by kernel_rfl) Try.func8
    (ChangeSpec.witness6 (enc := enc) (C := Try.checked) false ⟨#[], #[.int .u64 0, .string ByteArray.empty, .int .u8 0], []⟩ 8 (by kernel_rfl) (by kernel_rfl) (by kernel_rfl) (by kernel_rfl)) ?_
  intro W base args ds gs before hval0 hW hcnd _
  have hval : ∀ (j : Nat) t v, Try.f8.params[j]? = some t → args[j]? = some v → Value.okWide Try.prog W .any base t v := hval0
  have hW' := hW
  obtain ⟨p, q, hA0, hV, rfl, hfz, hnd⟩ := hW
  have hA : DataW.TrodAll enc Try.prog W 0 (fun _ => true) true Try.f8.params.toList args.toList ds p := hA0
  rw [Try.params8] at hA hval
  obtain ⟨v0, vs0, d0, ds0, p0, q0, hargs, rfl, rfl, h0, r0⟩ := trodAll_cons hA
  obtain ⟨v1, vs1, d1, ds1, p1, q1, rfl, rfl, rfl, h1, r1⟩ := trodAll_cons r0
  obtain ⟨v2, vs2, d2, ds2, p2, q2, rfl, rfl, rfl, h2, r2⟩ := trodAll_cons r1
  obtain ⟨rfl, rfl, rfl⟩ := trodAll_nil r2
  obtain rfl : args = #[v0, v1, v2] := by cases args; simp_all
  obtain ⟨rfl, rfl⟩ := trodVars_none hV
  obtain ⟨a0, rfl, rfl, rfl, w0⟩ := open_int Try.underlying26 (hval 0 26 v0 rfl rfl) h0
  obtain ⟨a1, rfl, rfl, rfl, w1⟩ := open_string Try.underlying9 (hval 1 9 v1 rfl rfl) h1
  obtain ⟨a2, rfl, rfl, rfl, w2⟩ := open_int Try.underlying5 (hval 2 5 v2 rfl rfl) h2
  clear hA0 hval0
  refine (chains_walk a0 a1 a2 W w0 w1 w2).mono fun e W' ⟨he, bel⟩ => ?_
  subst he
  exact ⟨_, rfl, _, _, _, [], _, [], hW', trodAll_mk1 (shut_bool Try.underlying4 _), (trodAll_cons_mk (shut_int Try.underlying26 w0) (trodAll_cons_mk (shut_string Try.underlying9 w1) (trodAll_cons_mk (shut_int Try.underlying5 w2) trodAll_mk0))), rfl, bel.frame _, fun h => by cases h⟩
theorem over : Rows.sumsChainsRow.holds Try.pinned (OpenSpec.ofChange Rows.sumsChainsSpec) :=
  OpenClaim.holds_of_wide 8 Try.f8 rfl rfl rfl rfl rfl rfl rfl ⟨rfl, rfl, rfl, rfl, rfl⟩ rfl rfl rfl rfl rfl (by kernel_rfl) Try.func8 (by kernel_rfl)
    (of_decide_eq_true (by kernel_rfl)) (by unfold Func.isWrapper; first | (rw [if_pos (by decide +kernel)]; kernel_rfl) | (rw [if_neg (by decide +kernel)]; exact ⟨rfl, rfl⟩))
    (fun os started H enc _ => lifted os started H enc)
theorem proved : Rows.SumsChainsSaid := over
end sumsChains

end Go.Proofs.Ytiffnnjegfghoaa
