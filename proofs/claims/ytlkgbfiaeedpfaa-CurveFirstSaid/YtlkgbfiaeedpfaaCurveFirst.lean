/- For every list of points, any value and any x the law CurveFirst returns true: at the x that Reach returns the value is high enough, at the one before and at any smaller one it is not, and there is such an x exactly if a point is that high (asked for lists of at most 100 points that are curves); and the examples hold. No condition. -/
import Derived.Test.YtlkgbfiaeedpfaaArgs
import Derived.Test.YtlkgbfiaeedpfaaFirstM
set_option linter.unusedVariables false
set_option linter.unusedSimpArgs false
namespace Go.Proofs.Ytlkgbfiaeedpfaa
open Go.ChangeShapes Go.WideShapes Go.ChangeAt Go.RowKit Cm

set_option maxRecDepth 100000 in
set_option maxHeartbeats 3200000 in
theorem first_walk (w : World) (v u t : Value) (hv : ArgP w v) (hu : ArgI w u) (ht : ArgI w t) : Calls Try.prog 8 #[v, u, t] w fun e w' => e = .returned (.bool true) ∧ Below w.heap.size w w' := by
  obtain ⟨l, hr, hl⟩ := hv
  obtain ⟨y, rfl, _⟩ := hu
  obtain ⟨x, rfl, _⟩ := ht
  have HR := Lib.hid hr
  have HL := Lib.hid hl
  obtain ⟨A, c, rfl, hc, _⟩ := hr
  obtain ⟨n, hn⟩ : ∃ n, l.length = n := ⟨_, rfl⟩
  have HN := Lib.hid hn
  rw [hn] at HR
  rw [hn]
  obtain ⟨sm, hsm⟩ : ∃ b, decide (l.length ≤ 100) = b := ⟨_, rfl⟩
  have HSM := Lib.hid hsm
  obtain ⟨e, he⟩ : ∃ e, chk l = e := ⟨_, rfl⟩
  have HE := Lib.hid he
  clear hl hc hsm
  cases sm with
  | false =>
    clear hn he
    go_enter Try.func8, Try.ntmps8
    go_wp2_with fail
    refine (small_c _ l false _ HR.out HL.out HSM).mono ?_; rintro E w1 ⟨rfl, rfl⟩
    go_wp2_with fail
    refine (awake_c _).mono ?_; rintro E w5 ⟨rfl, hq5⟩
    go_wp2_with fail
    go_ret
    exact ⟨rfl, hq5⟩
  | true =>
    by_cases h0 : e = 0
    · have HO := Lib.hid (chk_zero (he.trans h0))
      have hn0 : 1 ≤ n ∧ n ≤ 16 := by have g := HO.out; have g1 := g.one; have g2 := g.few; omega
      obtain ⟨hn1, hn16⟩ := hn0
      have h0' : ((e : Int) != 0) = false := by subst h0; rfl
      obtain ⟨a, ha⟩ : ∃ a, atS l x = a := ⟨_, rfl⟩
      have HAX := Lib.hid ha
      obtain ⟨fx, o, hre⟩ : ∃ p q, reS l y = (p, q) := ⟨_, _, rfl⟩
      have HRE := Lib.hid hre
      cases o with
      | false =>
        have hlow : fx = 0 ∧ ∀ i, i < l.length → Y l i < y := by
          rcases re_cases (y := y) HO.out with ⟨g, h⟩ | ⟨k, _, _, _, g⟩
          · rw [g] at hre; injection hre with e1 e2; exact ⟨e1.symm, h⟩
          · rw [g] at hre; injection hre with e1 e2; cases e2
        obtain ⟨rfl, hlow⟩ := hlow
        have HLOW := Lib.hid hlow
        have hay : a < y := by rw [← ha]; exact at_lt HO.out hlow
        have hay' : decide (a < y) = true := decide_eq_true hay
        clear hn he h0 ha hre hlow
        go_enter Try.func8, Try.ntmps8
        go_wp2_with fail
        refine (small_c _ l true _ HR.out HL.out HSM).mono ?_; rintro E w1 ⟨rfl, rfl⟩
        go_wp2_with fail
        refine (rCheck_c _ l e HE _ HR.out HL.out).mono ?_; rintro E w1 ⟨rfl, hq1⟩
        have Q1 := Lib.hid hq1
        clear hq1
        go_wp2_with fail
        refine (Reach_c _ l y 0 false HRE _ (RdG.q HR.out Q1.out) HL.out).mono ?_; rintro E w2 ⟨rfl, hq2⟩
        have Q2 := Lib.hid (Q1.out.trans hq2)
        clear hq2
        go_wp2_with fail
        go_loopw [9, 10] (fun u9 u10 wr => ∃ j : Nat, j ≤ n ∧ u9 = .bool false ∧ u10 = .int .i64 j ∧ Hid (Q w wr)) (fun _ u10 _ => n - (intOf u10).toNat)
        case atStart => exact ⟨0, Nat.zero_le _, rfl, rfl, Q2.out⟩
        case round =>
          obtain ⟨j, hj, rfl, rfl, HI⟩ := hrel
          by_cases hlt : j < n
          · have hjl : j < l.length := by rw [HN.out]; exact hlt
            obtain ⟨b, off, rfl, hb, hcc, c0, c1⟩ := HR.out.at HI.out hjl
            have hlo := HLOW.out j hjl
            obtain ⟨q, hq⟩ : ∃ q, Y l j = q := ⟨_, rfl⟩
            rw [hq] at c1 hlo
            have hq' : decide (y ≤ q) = false := decide_eq_false (by omega)
            clear hjl hq c0 hlo
            go_wp2_with fail
            go_roundw
            case rel => exact ⟨j + 1, by omega, rfl, by go_num, HI.out⟩
            case measure => simp [intOf] <;> omega
          · obtain rfl : j = n := by omega
            have QI := Lib.hid HI.out
            clear HI
            go_wp2_with fail
            refine (At_c _ l x a HAX _ (RdG.q HR.out QI.out) HL.out).mono ?_; rintro E w3 ⟨rfl, hq3⟩
            have Q3 := Lib.hid (QI.out.trans hq3)
            clear hq3
            go_wp2_with fail
            refine (awake_c _).mono ?_; rintro E w5 ⟨rfl, hq5⟩
            go_wp2_with fail
            go_ret
            exact ⟨rfl, Q3.out.trans hq5⟩
      | true =>
        obtain ⟨k, hf⟩ := first_spec HO.out hre
        have HFI := Lib.hid hf
        obtain ⟨a1, ha1⟩ : ∃ a, atS l fx = a := ⟨_, rfl⟩
        obtain ⟨a2, ha2⟩ : ∃ a, atS l (fx - 1) = a := ⟨_, rfl⟩
        have HA1 := Lib.hid ha1
        have HA2 := Lib.hid ha2
        have hkn : k < n := by rw [← hn]; exact hf.lt
        clear hn he h0 ha hre hf ha1 ha2
        go_enter Try.func8, Try.ntmps8
        go_wp2_with fail
        refine (small_c _ l true _ HR.out HL.out HSM).mono ?_; rintro E w1 ⟨rfl, rfl⟩
        go_wp2_with fail
        refine (rCheck_c _ l e HE _ HR.out HL.out).mono ?_; rintro E w1 ⟨rfl, hq1⟩
        have Q1 := Lib.hid hq1
        clear hq1
        go_wp2_with fail
        refine (Reach_c _ l y fx true HRE _ (RdG.q HR.out Q1.out) HL.out).mono ?_; rintro E w2 ⟨rfl, hq2⟩
        have Q2 := Lib.hid (Q1.out.trans hq2)
        clear hq2
        go_wp2_with fail
        go_loopw [9, 10] (fun u9 u10 wr => ∃ j : Nat, j ≤ n ∧ u9 = .bool (decide (k < j)) ∧ u10 = .int .i64 j ∧ Hid (Q w wr)) (fun _ u10 _ => n - (intOf u10).toNat)
        case atStart => exact ⟨0, Nat.zero_le _, by rw [decide_eq_false (by omega)], rfl, Q2.out⟩
        case round =>
          obtain ⟨j, hj, rfl, rfl, HI⟩ := hrel
          by_cases hlt : j < n
          · have hjl : j < l.length := by rw [HN.out]; exact hlt
            obtain ⟨b, off, rfl, hb, hcc, c0, c1⟩ := HR.out.at HI.out hjl
            obtain ⟨q, hq⟩ : ∃ q, Y l j = q := ⟨_, rfl⟩
            rw [hq] at c1
            have hnx : decide (k < j + 1) = (decide (k < j) || decide (k = j)) := by
              by_cases e1 : k < j
              · rw [decide_eq_true e1, decide_eq_true (show k < j + 1 by omega)]; rfl
              · by_cases e2 : k = j
                · rw [decide_eq_true e2, decide_eq_true (show k < j + 1 by omega), Bool.or_true]
                · rw [decide_eq_false e1, decide_eq_false e2, decide_eq_false (show ¬ k < j + 1 by omega)]; rfl
            have HNX := Lib.hid hnx
            clear hnx
            by_cases e1 : k < j
            · have e1' : decide (k < j) = true := decide_eq_true e1
              have HV := Lib.hid (show decide (k < j + 1) = true by rw [HNX.out, e1']; rfl)
              rw [e1']
              clear hjl hq c0 e1
              go_wp2_with fail
              go_roundw
              case rel => exact ⟨j + 1, by omega, by rw [HV.out], by go_num, HI.out⟩
              case measure => simp [intOf] <;> omega
            · have e1' : decide (k < j) = false := decide_eq_false e1
              rw [e1']
              by_cases e2 : k = j
              · have HV := Lib.hid (show decide (k < j + 1) = true by rw [HNX.out, decide_eq_true e2, Bool.or_true])
                have hq' : decide (y ≤ q) = true := decide_eq_true (by rw [← hq, ← e2]; exact HFI.out.hit)
                clear hjl hq c0 e1 e2 e1'
                go_wp2_with fail
                go_roundw
                case rel => exact ⟨j + 1, by omega, by rw [HV.out], by go_num, HI.out⟩
                case measure => simp [intOf] <;> omega
              · have HV := Lib.hid (show decide (k < j + 1) = false by rw [HNX.out, e1', decide_eq_false e2]; rfl)
                have hq' : decide (y ≤ q) = false := decide_eq_false (by have := HFI.out.low j (by omega); omega)
                clear hjl hq c0 e1 e2 e1'
                go_wp2_with fail
                go_roundw
                case rel => exact ⟨j + 1, by omega, by rw [HV.out], by go_num, HI.out⟩
                case measure => simp [intOf] <;> omega
          · obtain rfl : j = n := by omega
            rw [decide_eq_true hkn]
            have QI := Lib.hid HI.out
            obtain ⟨b, off, rfl, hb, hcc, c0, _⟩ := HR.out.at QI.out HO.out.one
            obtain ⟨m, hm⟩ : ∃ m, j = m + 1 := ⟨j - 1, by omega⟩
            have hml : m < l.length := by rw [HN.out]; omega
            obtain ⟨b2, off2, hv2, hb2, _, d0, _⟩ := HR.out.at QI.out hml
            obtain ⟨e1, e2⟩ : b = b2 ∧ off = off2 := by injection hv2 with e1; injection e1 with e1 e2; exact ⟨e1, e2⟩
            subst e1 e2
            rw [Nat.zero_mul, Nat.add_zero] at c0
            obtain ⟨x0, hx0⟩ : ∃ z, X l 0 = z := ⟨_, rfl⟩
            obtain ⟨xm, hxm⟩ : ∃ z, X l m = z := ⟨_, rfl⟩
            rw [hx0] at c0
            rw [hxm] at d0
            have g1 := HFI.out.ge
            have g2 := HFI.out.le
            have g3 := HFI.out.val
            rw [hx0] at g1
            rw [HN.out, show j - 1 = m by omega, hxm] at g2
            rw [HA1.out] at g3
            have k1 : decide (fx < x0) = false := decide_eq_false (by omega)
            have k2 : decide (xm < fx) = false := decide_eq_false (by omega)
            have k3 : decide (a1 < y) = false := decide_eq_false (by omega)
            have e3 : (j : Int) - 1 = (m : Int) := by omega
            have e4 : IntKind.i64.wrap ((j : Int) - 1) = (m : Int) := by rw [e3]; exact IntWalk.i64_in _ (by omega)
            have e6 : (m : Int) < (j : Int) := by omega
            have i0 : (0 : Int) < (j : Int) := by omega
            have HX0 := Lib.hid hx0
            have HXB := Lib.hid (show -1000000 ≤ x0 ∧ xm ≤ 1000000 by rw [← hx0, ← hxm]; exact ⟨(HO.out.inx 0 HO.out.one).1, (HO.out.inx m (by rw [HN.out]; omega)).2⟩)
            have HBW := Lib.hid (show b < wr.heap.size from Nat.lt_of_lt_of_le hb QI.out.size)
            clear HI hm hml hv2 hx0 hxm
            go_wp2_with fail
            refine (At_c _ l fx a1 HA1 _ (RdG.q HR.out QI.out) HL.out).mono ?_; rintro E w3 ⟨rfl, hq3⟩
            have Q3 := Lib.hid (QI.out.trans hq3)
            have c0' := (hq3.cell (p := ⟨b, off, none⟩) HBW.out).trans c0
            have HB3 := Lib.hid (show b < w3.heap.size from Nat.lt_of_lt_of_le HBW.out hq3.size)
            clear hq3 c0 d0
            by_cases y1 : x0 < fx
            · have y1' : decide (x0 < fx) = true := decide_eq_true y1
              have h2 : decide (y ≤ a2) = false := decide_eq_false (by
                have := HFI.out.bef (fx - 1) (by rw [HX0.out]; omega) (by omega)
                rw [HA2.out] at this; omega)
              have hw : wrap64 (fx - 1) = fx - 1 := IntWalk.wrap64_in _ (by have := HXB.out; omega)
              go_wp2_with fail
              rw [hw]
              refine (At_c _ l (fx - 1) a2 HA2 _ (RdG.q HR.out Q3.out) HL.out).mono ?_; rintro E w4 ⟨rfl, hq4⟩
              have Q5 := Lib.hid (Q3.out.trans hq4)
              have c0 := (hq4.cell (p := ⟨b, off, none⟩) HB3.out).trans c0'
              clear hq4 c0'
              by_cases x1 : x < x0
              · have x1' : decide (x < x0) = true := decide_eq_true x1
                go_wp2_with fail
                refine (awake_c _).mono ?_; rintro E w8 ⟨rfl, hq8⟩
                go_wp2_with fail
                go_ret
                exact ⟨rfl, Q5.out.trans hq8⟩
              · have x1' : decide (x < x0) = false := decide_eq_false x1
                by_cases x2 : fx ≤ x
                · have x2' : decide (fx ≤ x) = true := decide_eq_true x2
                  go_wp2_with fail
                  refine (awake_c _).mono ?_; rintro E w8 ⟨rfl, hq8⟩
                  go_wp2_with fail
                  go_ret
                  exact ⟨rfl, Q5.out.trans hq8⟩
                · have x2' : decide (fx ≤ x) = false := decide_eq_false x2
                  have ha : decide (a < y) = true := decide_eq_true (by rw [← HAX.out]; exact HFI.out.bef x (by rw [HX0.out]; omega) (by omega))
                  go_wp2_with fail
                  refine (At_c _ l x a HAX _ (RdG.q HR.out Q5.out) HL.out).mono ?_; rintro E w7 ⟨rfl, hq7⟩
                  have Q7 := Lib.hid (Q5.out.trans hq7)
                  clear hq7
                  go_wp2_with fail
                  refine (awake_c _).mono ?_; rintro E w8 ⟨rfl, hq8⟩
                  go_wp2_with fail
                  go_ret
                  exact ⟨rfl, Q7.out.trans hq8⟩
            · have y1' : decide (x0 < fx) = false := decide_eq_false y1
              have Q5 := Lib.hid Q3.out
              by_cases x1 : x < x0
              · have x1' : decide (x < x0) = true := decide_eq_true x1
                go_wp2_with fail
                refine (awake_c _).mono ?_; rintro E w8 ⟨rfl, hq8⟩
                go_wp2_with fail
                go_ret
                exact ⟨rfl, Q5.out.trans hq8⟩
              · have x1' : decide (x < x0) = false := decide_eq_false x1
                have x2' : decide (fx ≤ x) = true := decide_eq_true (by omega)
                go_wp2_with fail
                refine (awake_c _).mono ?_; rintro E w8 ⟨rfl, hq8⟩
                go_wp2_with fail
                go_ret
                exact ⟨rfl, Q5.out.trans hq8⟩
    · have h0' : ((e : Int) != 0) = true := by simp; omega
      clear hn he h0
      go_enter Try.func8, Try.ntmps8
      go_wp2_with fail
      refine (small_c _ l true _ HR.out HL.out HSM).mono ?_; rintro E w1 ⟨rfl, rfl⟩
      go_wp2_with fail
      refine (rCheck_c _ l e HE _ HR.out HL.out).mono ?_; rintro E w1 ⟨rfl, hq1⟩
      have Q1 := Lib.hid hq1
      clear hq1
      go_wp2_with fail
      refine (awake_c _).mono ?_; rintro E w5 ⟨rfl, hq5⟩
      go_wp2_with fail
      go_ret
      exact ⟨rfl, Q1.out.trans hq5⟩

namespace curveFirst
theorem own : ownKnob Try.prog.godebug = none := by kernel_rfl
set_option maxRecDepth 100000 in
set_option maxHeartbeats 800000 in
theorem lifted (os : Os) (started : os.Started) (H : Type) (enc : TypeId × Value → H) :
    ReturnsInHanded {} Try.checked os 8 .any (Rows.curveFirstSpec.pre6 enc Try.prog Try.f8 Rows.curveFirstRow.domain false) (Rows.curveFirstSpec.post enc Try.prog Try.f8 false true false false) := by
  refine returnsInHanded_of_change (C := Try.checked) own started (by kernel_rfl) Try.func8
    (ChangeSpec.witness6 (enc := enc) (C := Try.checked) false ⟨#[], #[.slice none 0 0, .int .i64 0, .int .i64 0], []⟩ 8 (by kernel_rfl) (by kernel_rfl) (by kernel_rfl) (by kernel_rfl)) ?_
  intro W base args ds gs before hval0 hW hcnd _
  have hval : ∀ (j : Nat) t v, Try.f8.params[j]? = some t → args[j]? = some v → Value.okWide Try.prog W .any base t v := hval0
  have hW' := hW
  obtain ⟨p, q, hA0, hV, rfl, hfz, hnd⟩ := hW
  have hA : DataW.TrodAll enc Try.prog W 0 (fun _ => true) true Try.f8.params.toList args.toList ds p := hA0
  rw [Try.params8] at hA hval
  obtain ⟨v0, vs0, d0, ds0, p0, q0, hargs, rfl, rfl, h0, r0⟩ := trodAll_cons hA
  obtain ⟨v1, vs1, d1, ds1, p1, q1, rfl, rfl, rfl, h1, r1⟩ := trodAll_cons r0
  obtain ⟨v2, vs2, d2, ds2, p2, q2, rfl, rfl, rfl, h2, r2⟩ := trodAll_cons r1
  obtain ⟨rfl, rfl, rfl⟩ := trodAll_nil r2
  obtain rfl : args = #[v0, v1, v2] := by cases args; simp_all
  obtain ⟨rfl, rfl⟩ := trodVars_none hV
  have a0 := open_pts (hval 0 22 v0 rfl rfl) h0
  have a1 := open_i64 (hval 1 3 v1 rfl rfl) h1
  have a2 := open_i64 (hval 2 3 v2 rfl rfl) h2
  clear hA0 hval0
  refine (first_walk W v0 v1 v2 a0 a1 a2).mono fun e W' ⟨he, bel⟩ => ?_
  subst he
  exact ⟨_, rfl, _, _, _, [], _, [], hW', trodAll_mk1 (shut_bool Try.underlying4 _), (trodAll_cons_mk (stays (by kernel_rfl) (of_decide_eq_true (by kernel_rfl)) h0 bel) (trodAll_cons_mk (stays (by kernel_rfl) (of_decide_eq_true (by kernel_rfl)) h1 bel) (trodAll_cons_mk (stays (by kernel_rfl) (of_decide_eq_true (by kernel_rfl)) h2 bel) trodAll_mk0))), rfl, bel.frame _, fun h => by cases h⟩
theorem over : Rows.curveFirstRow.holds Try.pinned (OpenSpec.ofChange Rows.curveFirstSpec) :=
  OpenClaim.holds_of_wide 8 Try.f8 rfl rfl rfl rfl rfl rfl rfl ⟨rfl, rfl, rfl, rfl, rfl⟩ rfl rfl rfl rfl rfl (by kernel_rfl) Try.func8 (by kernel_rfl)
    (of_decide_eq_true (by kernel_rfl)) (by unfold Func.isWrapper; first | (rw [if_pos (by decide +kernel)]; kernel_rfl) | (rw [if_neg (by decide +kernel)]; exact ⟨rfl, rfl⟩))
    (fun os started H enc _ => lifted os started H enc)
theorem proved : Rows.CurveFirstSaid := over
end curveFirst

end Go.Proofs.Ytlkgbfiaeedpfaa
