/- For every list of points and any two numbers the law CurveBetween returns true: at the points a curve has their values, between two points a value between theirs, outside that of the nearer end, and if it is rising it never falls (asked for lists of at most 100 points that are curves); and the examples hold. No condition. -/
import Derived.Test.YtlkgbfiaeedpfaaArgs
import Derived.Test.YtlkgbfiaeedpfaaFirstM
import Derived.Test.YtlkgbfiaeedpfaaRAt
set_option linter.unusedVariables false
set_option linter.unusedSimpArgs false
namespace Go.Proofs.Ytlkgbfiaeedpfaa
open Go.ChangeShapes Go.WideShapes Go.ChangeAt Go.RowKit Cm

theorem max_run (ts : Array TypeId) (t : TypeId) (a b m : Int) (w : World) (h : max a b = m) : (Builtin.max_ ts t #[.int .i64 a, .int .i64 b]).run Try.prog w = .ok (.int .i64 m) w := by
  subst h
  show ((Builtin.max2 (.int .i64 a) (.int .i64 b)) >>= fun x => pure x).run Try.prog w = _
  by_cases h : a < b
  · rw [Int.max_eq_right (by omega)]
    simp [Builtin.max2, h]
  · rw [Int.max_eq_left (by omega)]
    simp [Builtin.max2, h]
theorem min_run (ts : Array TypeId) (t : TypeId) (a b m : Int) (w : World) (h : min a b = m) : (Builtin.min_ ts t #[.int .i64 a, .int .i64 b]).run Try.prog w = .ok (.int .i64 m) w := by
  subst h
  show ((Builtin.min2 (.int .i64 a) (.int .i64 b)) >>= fun x => pure x).run Try.prog w = _
  by_cases h : b < a
  · rw [Int.min_eq_right (by omega)]
    simp [Builtin.min2, h]
  · rw [Int.min_eq_left (by omega)]
    simp [Builtin.min2, h]
set_option maxRecDepth 100000 in
set_option maxHeartbeats 3200000 in
theorem between_walk (w : World) (v u t : Value) (hv : ArgP w v) (hu : ArgI w u) (ht : ArgI w t) : Calls Try.prog 7 #[v, u, t] w fun e w' => e = .returned (.bool true) ∧ Below w.heap.size w w' := by
  obtain ⟨l, hr, hl⟩ := hv
  obtain ⟨x, rfl, _⟩ := hu
  obtain ⟨z, rfl, _⟩ := ht
  have HR := Lib.hid hr
  have HL := Lib.hid hl
  obtain ⟨A, c, rfl, hc, _⟩ := hr
  obtain ⟨n, hn⟩ : ∃ n, l.length = n := ⟨_, rfl⟩
  have HN := Lib.hid hn
  rw [hn] at HR
  rw [hn]
  obtain ⟨sm, hsm⟩ : ∃ b, decide (l.length ≤ 100) = b := ⟨_, rfl⟩
  have HSM := Lib.hid hsm
  obtain ⟨e, he⟩ : ∃ e, chk l = e := ⟨_, rfl⟩
  have HE := Lib.hid he
  clear hl hc hsm
  cases sm with
  | false =>
    clear hn he
    go_enter Try.func7, Try.ntmps7
    go_wp2_with fail
    refine (small_c _ l false _ HR.out HL.out HSM).mono ?_; rintro E w1 ⟨rfl, rfl⟩
    go_wp2_with fail
    refine (awake_c _).mono ?_; rintro E w5 ⟨rfl, hq5⟩
    go_wp2_with fail
    go_ret
    exact ⟨rfl, hq5⟩
  | true =>
    by_cases h0 : e = 0
    · have HO := Lib.hid (chk_zero (he.trans h0))
      have hn0 : 1 ≤ n ∧ n ≤ 16 := by have g := HO.out; have g1 := g.one; have g2 := g.few; omega
      obtain ⟨hn1, hn16⟩ := hn0
      have h0' : ((e : Int) != 0) = false := by subst h0; rfl
      obtain ⟨a, ha⟩ : ∃ a, atS l x = a := ⟨_, rfl⟩
      have HAX := Lib.hid ha
      clear hn he h0 ha
      go_enter Try.func7, Try.ntmps7
      go_wp2_with fail
      refine (small_c _ l true _ HR.out HL.out HSM).mono ?_; rintro E w1 ⟨rfl, rfl⟩
      go_wp2_with fail
      refine (rCheck_c _ l e HE _ HR.out HL.out).mono ?_; rintro E w1 ⟨rfl, hq1⟩
      have Q1 := Lib.hid hq1
      clear hq1
      go_wp2_with fail
      refine (At_c _ l x a HAX _ (RdG.q HR.out Q1.out) HL.out).mono ?_; rintro E w2 ⟨rfl, hq2⟩
      have Q2 := Lib.hid (Q1.out.trans hq2)
      clear hq2
      go_wp2_with fail
      go_loopw [8] (fun u8 wr => ∃ j : Nat, j ≤ n ∧ u8 = .int .i64 j ∧ Hid (Q w wr)) (fun u8 _ => n - (intOf u8).toNat)
      case atStart => exact ⟨0, Nat.zero_le _, rfl, Q2.out⟩
      case round =>
        obtain ⟨j, hj, rfl, HI⟩ := hrel
        by_cases hlt : j < n
        · have hjl : j < l.length := by rw [HN.out]; exact hlt
          obtain ⟨b, off, rfl, hb, hcc, c0, c1⟩ := HR.out.at HI.out hjl
          have hb8 : b < wr.heap.size := Nat.lt_of_lt_of_le hb HI.out.size
          have hrf : Q wr wr := Q.refl wr
          have hd : Q wr wr.drew := (Q.refl wr).drew
          obtain ⟨t, ht⟩ : ∃ z, X l j = z := ⟨_, rfl⟩
          obtain ⟨d, hd0⟩ : ∃ z, Y l j = z := ⟨_, rfl⟩
          have HAT := Lib.hid (show atS l t = d by rw [← ht, ← hd0, at_ok HO.out]; exact al_at (ok_asc HO.out) hjl)
          rw [ht] at c0
          rw [hd0] at c1
          have QI := Lib.hid HI.out
          have t1 : ((d : Int) != d) = false := by simp
          have hjn : (j : Int) < (n : Int) := by omega
          have i1 : (0 : Int) ≤ (j : Int) := by omega
          by_cases hj0 : j = 0
          · have z0 : decide ((0 : Int) < (j : Int)) = false := by simp; omega
            have z1 : ¬ (0 : Int) < (j : Int) := by omega
            have z2 : decide (0 < j) = false := by simp; omega
            clear HI hjl ht hd0 hj0
            go_wp2_with fail
            go_region_held3 (fun W => W.cell? ⟨b, off + j * 2, none⟩ = some (.int .i64 t) ∧ W.cell? ⟨b, off + j * 2 + 1, none⟩ = some (.int .i64 d) ∧ W.cell? ⟨b, off + j * 2, none⟩ = some (.int .i64 t) ∧ W.cell? ⟨b, off + j * 2 + 1, none⟩ = some (.int .i64 d) ∧ b < W.heap.size ∧ Q wr W)
              (first | exact btK ⟨c0, c1, c0, c1, hb8, hrf⟩ hd | exact btK (by assumption) (by assumption))
              (first | (go_at_call 17; refine (At_c _ l t d HAT _ (RdG.q HR.out (QI.out.trans (btQ (by assumption)))) HL.out).mono ?_; rintro E w3 ⟨rfl, hq3⟩))
            have hS : w3.cell? ⟨b, off + j * 2, none⟩ = some (.int .i64 t) ∧ w3.cell? ⟨b, off + j * 2 + 1, none⟩ = some (.int .i64 d) ∧ w3.cell? ⟨b, off + j * 2, none⟩ = some (.int .i64 t) ∧ w3.cell? ⟨b, off + j * 2 + 1, none⟩ = some (.int .i64 d) ∧ b < w3.heap.size ∧ Q wr w3 := by assumption
            obtain ⟨_, _, k0, k1, _, qs⟩ := hS
            have Q3 := Lib.hid (QI.out.trans qs)
            clear c0 c1
            go_wp2_with fail
            go_quiet (fail)
            go_wp2_with fail
            go_roundw
            case rel => exact ⟨j + 1, by omega, by go_num, Q3.out.drewN _⟩
            case measure => simp [intOf] <;> omega
          · obtain ⟨m, hm⟩ : ∃ m, j = m + 1 := ⟨j - 1, by omega⟩
            have hjm : j - 1 = m := by omega
            have hml : m < l.length := by omega
            obtain ⟨b2, off2, hv2, hb2, _, a0, a1⟩ := HR.out.at HI.out hml
            obtain ⟨e1, e2⟩ : b = b2 ∧ off = off2 := by injection hv2 with e1; injection e1 with e1 e2; exact ⟨e1, e2⟩
            subst e1 e2
            obtain ⟨s, hs⟩ : ∃ z, X l m = z := ⟨_, rfl⟩
            obtain ⟨q, hq⟩ : ∃ z, Y l m = z := ⟨_, rfl⟩
            have hst := HO.out.up j (by omega) hjl
            have hbd : s ≤ x → x ≤ t → min q d ≤ a ∧ a ≤ max q d := fun h1 h2 => by
              rw [← HAX.out, at_ok HO.out, al_seg (k := j) (ok_asc HO.out) (by omega) hjl (by rw [hjm, hs]; exact h1) (by rw [ht]; exact h2), hjm, hs, ht, hq, hd0]
              rw [hjm, hs, ht] at hst
              exact ip_bd hst h1 h2
            rw [hs] at a0
            rw [hq] at a1
            obtain ⟨mn, hmn⟩ : ∃ z, min q d = z := ⟨_, rfl⟩
            obtain ⟨mx, hmx⟩ : ∃ z, max q d = z := ⟨_, rfl⟩
            have rmn : ∀ ts ty W, (Builtin.min_ ts ty #[.int .i64 q, .int .i64 d]).run Try.prog W = .ok (.int .i64 mn) W := fun ts ty W => min_run ts ty q d mn W hmn
            have rmx : ∀ ts ty W, (Builtin.max_ ts ty #[.int .i64 q, .int .i64 d]).run Try.prog W = .ok (.int .i64 mx) W := fun ts ty W => max_run ts ty q d mx W hmx
            rw [hmn, hmx] at hbd
            have hcase : (decide (s ≤ x) = false ∧ ¬ s ≤ x) ∨ (decide (s ≤ x) = true ∧ s ≤ x ∧ decide (x ≤ t) = false ∧ ¬ x ≤ t) ∨ (decide (s ≤ x) = true ∧ s ≤ x ∧ decide (x ≤ t) = true ∧ x ≤ t ∧ decide (a < mn) = false ∧ ¬ a < mn ∧ decide (mx < a) = false ∧ ¬ mx < a) := by
              by_cases h1 : s ≤ x
              · by_cases h2 : x ≤ t
                · have := hbd h1 h2
                  exact .inr (.inr ⟨decide_eq_true h1, h1, decide_eq_true h2, h2, decide_eq_false (by omega), by omega, decide_eq_false (by omega), by omega⟩)
                · exact .inr (.inl ⟨decide_eq_true h1, h1, decide_eq_false h2, h2⟩)
              · exact .inl ⟨decide_eq_false h1, h1⟩
            have z0 : decide ((0 : Int) < (j : Int)) = true := by simp; omega
            have z1 : (0 : Int) < (j : Int) := by omega
            have z2 : decide (0 < j) = true := by simp; omega
            have e3 : (j : Int) - 1 = (m : Int) := by omega
            have e4 : IntKind.i64.wrap ((j : Int) - 1) = (m : Int) := by rw [e3]; exact IntWalk.i64_in _ (by omega)
            have e6 : (m : Int) < (n : Int) := by omega
            have e7 : (0 : Int) ≤ (m : Int) := by omega
            clear HI hjl ht hd0 hj0 hm hjm hml hv2 hs hq hst hbd hmn hmx e3
            go_wp2_with fail
            go_region_held3 (fun W => W.cell? ⟨b, off + m * 2, none⟩ = some (.int .i64 s) ∧ W.cell? ⟨b, off + m * 2 + 1, none⟩ = some (.int .i64 q) ∧ W.cell? ⟨b, off + j * 2, none⟩ = some (.int .i64 t) ∧ W.cell? ⟨b, off + j * 2 + 1, none⟩ = some (.int .i64 d) ∧ b < W.heap.size ∧ Q wr W)
              (first | exact btK ⟨a0, a1, c0, c1, hb8, hrf⟩ hd | exact btK (by assumption) (by assumption))
              (first | (go_at_call 17; refine (At_c _ l t d HAT _ (RdG.q HR.out (QI.out.trans (btQ (by assumption)))) HL.out).mono ?_; rintro E w3 ⟨rfl, hq3⟩))
            have hS : w3.cell? ⟨b, off + m * 2, none⟩ = some (.int .i64 s) ∧ w3.cell? ⟨b, off + m * 2 + 1, none⟩ = some (.int .i64 q) ∧ w3.cell? ⟨b, off + j * 2, none⟩ = some (.int .i64 t) ∧ w3.cell? ⟨b, off + j * 2 + 1, none⟩ = some (.int .i64 d) ∧ b < w3.heap.size ∧ Q wr w3 := by assumption
            obtain ⟨g0, g1, k0, k1, _, qs⟩ := hS
            have Q3 := Lib.hid (QI.out.trans qs)
            clear c0 c1 a0 a1
            rcases hcase with ⟨h1, h1'⟩ | ⟨h1, h1', h2, h2'⟩ | ⟨h1, h1', h2, h2', h3, h3', h4, h4'⟩
            all_goals go_wp2_with fail
            all_goals go_quiet (fail)
            all_goals go_wp2_with fail
            all_goals exact ⟨⟨j + 1, by omega, by go_num, Q3.out.drewN _⟩, by simp [intOf] <;> omega⟩
        · obtain rfl : j = n := by omega
          have QI := Lib.hid HI.out
          obtain ⟨b, off, rfl, hb, hcc, c0, c1⟩ := HR.out.at QI.out HO.out.one
          obtain ⟨m, hm⟩ : ∃ m, j = m + 1 := ⟨j - 1, by omega⟩
          have hml : m < l.length := by rw [HN.out]; omega
          obtain ⟨b2, off2, hv2, hb2, _, d0, d1⟩ := HR.out.at QI.out hml
          obtain ⟨e1, e2⟩ : b = b2 ∧ off = off2 := by injection hv2 with e1; injection e1 with e1 e2; exact ⟨e1, e2⟩
          subst e1 e2
          rw [Nat.zero_mul, Nat.add_zero] at c0 c1
          obtain ⟨x0, hx0⟩ : ∃ z, X l 0 = z := ⟨_, rfl⟩
          obtain ⟨y0, hy0⟩ : ∃ z, Y l 0 = z := ⟨_, rfl⟩
          obtain ⟨xm, hxm⟩ : ∃ z, X l m = z := ⟨_, rfl⟩
          obtain ⟨ym, hym⟩ : ∃ z, Y l m = z := ⟨_, rfl⟩
          rw [hx0] at c0
          rw [hy0] at c1
          rw [hxm] at d0
          rw [hym] at d1
          have hlo : x ≤ x0 → a = y0 := fun h => by rw [← HAX.out, at_ok HO.out, al_lo (by rw [hx0]; exact h), hy0]
          have hhi : xm ≤ x → a = ym := fun h => by
            rw [← HAX.out, at_ok HO.out, al_end (ok_asc HO.out) HO.out.one (by rw [HN.out, show j - 1 = m by omega, hxm]; exact h), HN.out, show j - 1 = m by omega, hym]
          have k1 : (decide (x ≤ x0) = false ∧ ¬ x ≤ x0) ∨ (decide (x ≤ x0) = true ∧ x ≤ x0 ∧ (a != y0) = false) := by
            by_cases h : x ≤ x0
            · exact .inr ⟨decide_eq_true h, h, by rw [hlo h]; simp⟩
            · exact .inl ⟨decide_eq_false h, h⟩
          have k2 : (decide (xm ≤ x) = false ∧ ¬ xm ≤ x) ∨ (decide (xm ≤ x) = true ∧ xm ≤ x ∧ (a != ym) = false) := by
            by_cases h : xm ≤ x
            · exact .inr ⟨decide_eq_true h, h, by rw [hhi h]; simp⟩
            · exact .inl ⟨decide_eq_false h, h⟩
          obtain ⟨mn, hmn⟩ : ∃ y, min x z = y := ⟨_, rfl⟩
          obtain ⟨mx, hmx⟩ : ∃ y, max x z = y := ⟨_, rfl⟩
          have rmn : ∀ ts ty W, (Builtin.min_ ts ty #[.int .i64 x, .int .i64 z]).run Try.prog W = .ok (.int .i64 mn) W := fun ts ty W => min_run ts ty x z mn W hmn
          have rmx : ∀ ts ty W, (Builtin.max_ ts ty #[.int .i64 x, .int .i64 z]).run Try.prog W = .ok (.int .i64 mx) W := fun ts ty W => max_run ts ty x z mx W hmx
          obtain ⟨p, hp⟩ : ∃ p, atS l mn = p := ⟨_, rfl⟩
          obtain ⟨q, hq⟩ : ∃ p, atS l mx = p := ⟨_, rfl⟩
          have HP := Lib.hid hp
          have HQQ := Lib.hid hq
          obtain ⟨r, hr⟩ : ∃ r, riS l = r := ⟨_, rfl⟩
          have HRI := Lib.hid hr
          have hpq : r = true → decide (q < p) = false := fun h => decide_eq_false (by
            rw [h] at hr
            unfold riS at hr
            rw [Bool.and_eq_true] at hr
            have := al_mono (p := X l) (v := Y l) (n := mn) (k := mx) (ok_asc HO.out) HO.out.one ((upL_iff l).1 hr.2) (by omega)
            rw [← at_ok HO.out, ← at_ok HO.out, hp, hq] at this
            omega)
          have e3 : (j : Int) - 1 = (m : Int) := by omega
          have e4 : IntKind.i64.wrap ((j : Int) - 1) = (m : Int) := by rw [e3]; exact IntWalk.i64_in _ (by omega)
          have e6 : (m : Int) < (j : Int) := by omega
          have i0 : (0 : Int) < (j : Int) := by omega
          have a0 := old_cell (.cells #[.int .i64 xm, .int .i64 ym] 40) (Nat.lt_of_lt_of_le hb QI.out.size) c0
          have a1 := old_cell (.cells #[.int .i64 xm, .int .i64 ym] 40) (Nat.lt_of_lt_of_le hb QI.out.size) c1
          clear HI hm hml hv2 hx0 hy0 hxm hym hlo hhi hmn hmx hp hq hr e3
          rcases k1 with ⟨k1, k1'⟩ | ⟨k1, k1', k1''⟩ <;> rcases k2 with ⟨k2, k2'⟩ | ⟨k2, k2', k2''⟩
          all_goals
            go_wp2_with fail
            refine (Rising_c _ l r HRI _ (RdG.q HR.out (QI.out.trans ((Q.refl _).alloc _))) HL.out).mono ?_; rintro E w4 ⟨rfl, hq4⟩
            have Q4 := Lib.hid (QI.out.trans (((Q.refl _).alloc _).trans hq4))
            clear hq4 c0 c1 d0 d1 a0 a1
            cases r with
            | true =>
              have hqp := hpq rfl
              clear hpq
              go_wp2_with fail
              refine (At_c _ l mn p HP _ (RdG.q HR.out Q4.out) HL.out).mono ?_; rintro E w5 ⟨rfl, hq5⟩
              have Q5 := Lib.hid (Q4.out.trans hq5)
              clear hq5
              go_wp2_with fail
              refine (At_c _ l mx q HQQ _ (RdG.q HR.out Q5.out) HL.out).mono ?_; rintro E w6 ⟨rfl, hq6⟩
              have Q6 := Lib.hid (Q5.out.trans hq6)
              clear hq6
              go_wp2_with fail
              refine (awake_c _).mono ?_; rintro E w8 ⟨rfl, hq8⟩
              go_wp2_with fail
              go_ret
              exact ⟨rfl, Q6.out.trans hq8⟩
            | false =>
              clear hpq
              go_wp2_with fail
              refine (awake_c _).mono ?_; rintro E w8 ⟨rfl, hq8⟩
              go_wp2_with fail
              go_ret
              exact ⟨rfl, Q4.out.trans hq8⟩
    · have h0' : ((e : Int) != 0) = true := by simp; omega
      clear hn he h0
      go_enter Try.func7, Try.ntmps7
      go_wp2_with fail
      refine (small_c _ l true _ HR.out HL.out HSM).mono ?_; rintro E w1 ⟨rfl, rfl⟩
      go_wp2_with fail
      refine (rCheck_c _ l e HE _ HR.out HL.out).mono ?_; rintro E w1 ⟨rfl, hq1⟩
      have Q1 := Lib.hid hq1
      clear hq1
      go_wp2_with fail
      refine (awake_c _).mono ?_; rintro E w5 ⟨rfl, hq5⟩
      go_wp2_with fail
      go_ret
      exact ⟨rfl, Q1.out.trans hq5⟩

namespace curveBetween
theorem own : ownKnob Try.prog.godebug = none := by kernel_rfl
set_option maxRecDepth 100000 in
set_option maxHeartbeats 800000 in
theorem lifted (os : Os) (started : os.Started) (H : Type) (enc : TypeId × Value → H) :
    ReturnsInHanded {} Try.checked os 7 .any (Rows.curveBetweenSpec.pre6 enc Try.prog Try.f7 Rows.curveBetweenRow.domain false) (Rows.curveBetweenSpec.post enc Try.prog Try.f7 false true false false) := by
  refine returnsInHanded_of_change (C := Try.checked) own started (by kernel_rfl) Try.func7
    (ChangeSpec.witness6 (enc := enc) (C := Try.checked) false ⟨#[], #[.slice none 0 0, .int .i64 0, .int .i64 0], []⟩ 8 (by kernel_rfl) (by kernel_rfl) (by kernel_rfl) (by kernel_rfl)) ?_
  intro W base args ds gs before hval0 hW hcnd _
  have hval : ∀ (j : Nat) t v, Try.f7.params[j]? = some t → args[j]? = some v → Value.okWide Try.prog W .any base t v := hval0
  have hW' := hW
  obtain ⟨p, q, hA0, hV, rfl, hfz, hnd⟩ := hW
  have hA : DataW.TrodAll enc Try.prog W 0 (fun _ => true) true Try.f7.params.toList args.toList ds p := hA0
  rw [Try.params7] at hA hval
  obtain ⟨v0, vs0, d0, ds0, p0, q0, hargs, rfl, rfl, h0, r0⟩ := trodAll_cons hA
  obtain ⟨v1, vs1, d1, ds1, p1, q1, rfl, rfl, rfl, h1, r1⟩ := trodAll_cons r0
  obtain ⟨v2, vs2, d2, ds2, p2, q2, rfl, rfl, rfl, h2, r2⟩ := trodAll_cons r1
  obtain ⟨rfl, rfl, rfl⟩ := trodAll_nil r2
  obtain rfl : args = #[v0, v1, v2] := by cases args; simp_all
  obtain ⟨rfl, rfl⟩ := trodVars_none hV
  have a0 := open_pts (hval 0 22 v0 rfl rfl) h0
  have a1 := open_i64 (hval 1 3 v1 rfl rfl) h1
  have a2 := open_i64 (hval 2 3 v2 rfl rfl) h2
  clear hA0 hval0
  refine (between_walk W v0 v1 v2 a0 a1 a2).mono fun e W' ⟨he, bel⟩ => ?_
  subst he
  exact ⟨_, rfl, _, _, _, [], _, [], hW', trodAll_mk1 (shut_bool Try.underlying4 _), (trodAll_cons_mk (stays (by kernel_rfl) (of_decide_eq_true (by kernel_rfl)) h0 bel) (trodAll_cons_mk (stays (by kernel_rfl) (of_decide_eq_true (by kernel_rfl)) h1 bel) (trodAll_cons_mk (stays (by kernel_rfl) (of_decide_eq_true (by kernel_rfl)) h2 bel) trodAll_mk0))), rfl, bel.frame _, fun h => by cases h⟩
theorem over : Rows.curveBetweenRow.holds Try.pinned (OpenSpec.ofChange Rows.curveBetweenSpec) :=
  OpenClaim.holds_of_wide 7 Try.f7 rfl rfl rfl rfl rfl rfl rfl ⟨rfl, rfl, rfl, rfl, rfl⟩ rfl rfl rfl rfl rfl (by kernel_rfl) Try.func7 (by kernel_rfl)
    (of_decide_eq_true (by kernel_rfl)) (by unfold Func.isWrapper; first | (rw [if_pos (by decide +kernel)]; kernel_rfl) | (rw [if_neg (by decide +kernel)]; exact ⟨rfl, rfl⟩))
    (fun os started H enc _ => lifted os started H enc)
theorem proved : Rows.CurveBetweenSaid := over
end curveBetween

end Go.Proofs.Ytlkgbfiaeedpfaa
