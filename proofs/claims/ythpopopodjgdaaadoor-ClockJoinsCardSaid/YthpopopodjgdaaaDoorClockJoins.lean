/- For every list of shifts and any three numbers the law ClockJoins returns true: the working minutes of two times that follow each other add up, each week has as many as the shifts are long, and the same ones (asked for at most 40 shifts); and the examples hold. No condition. -/
import Derived.Test.YthpopopodjgdaaaDoorMade
import Derived.Test.YthpopopodjgdaaaDoorNextM
set_option linter.unusedVariables false
set_option linter.unusedSimpArgs false
namespace Go.Proofs.YthpopopodjgdaaaDoor
open Go.ChangeShapes Go.WideShapes Go.ChangeAt Go.RowKit Km

def box3 (w : World) (g : Nat) (a b c : Int) : Prop := w.cell? ⟨g, 0, none⟩ = some (.int .i64 a) ∧ w.cell? ⟨g, 1, none⟩ = some (.int .i64 b) ∧ w.cell? ⟨g, 2, none⟩ = some (.int .i64 c) ∧ g < w.heap.size
theorem box3.q {w w' : World} {g : Nat} {a b c : Int} (h : box3 w g a b c) (hq : Q w w') : box3 w' g a b c := by
  obtain ⟨h1, h2, h3, h4⟩ := h
  exact ⟨(hq.cell (p := ⟨g, 0, none⟩) h4).trans h1, (hq.cell (p := ⟨g, 1, none⟩) h4).trans h2, (hq.cell (p := ⟨g, 2, none⟩) h4).trans h3, Nat.lt_of_lt_of_le h4 hq.size⟩
theorem lT_c (n : Int) (b : Bool) (h : Hid (isT n = b)) (w : World) : Calls Tryd.prog 30 #[.int .i64 n] w fun e w' => e = .returned (.bool b) ∧ w' = w :=
  (lIsTime_c n b h w).mono fun _ _ ⟨a, c⟩ => ⟨a, c.symm⟩
theorem lIsTime_q (n : Int) (b : Bool) (h : Hid (isT n = b)) (w : World) : Calls Tryd.prog 30 #[.int .i64 n] w fun e w' => e = .returned (.bool b) ∧ Q w w' :=
  (lIsTime_c n b h w).mono fun _ _ ⟨a, c⟩ => ⟨a, by rw [c]; exact Q.refl _⟩
theorem work_bd {l : List P} (h : okL l) {a b : Int} : -20000000 ≤ workS l a b ∧ workS l a b ≤ 20000000 := by
  unfold workS
  by_cases g : isT a = true ∧ isT b = true ∧ a ≤ b
  · rw [if_pos g]; have := WU_small h g.1; have := WU_small h g.2.1; omega
  · rw [if_neg g]; omega
theorem b3K {w W W' : World} {g : Nat} {u1 u2 u3 : Value} (k : W.cell? ⟨g, 0, none⟩ = some u1 ∧ W.cell? ⟨g, 1, none⟩ = some u2 ∧ W.cell? ⟨g, 2, none⟩ = some u3 ∧ g < W.heap.size ∧ Q w W) (hq : Q W W') :
    W'.cell? ⟨g, 0, none⟩ = some u1 ∧ W'.cell? ⟨g, 1, none⟩ = some u2 ∧ W'.cell? ⟨g, 2, none⟩ = some u3 ∧ g < W'.heap.size ∧ Q w W' := by
  obtain ⟨h1, h2, h3, h4, h5⟩ := k
  exact ⟨(hq.cell (p := ⟨g, 0, none⟩) h4).trans h1, (hq.cell (p := ⟨g, 1, none⟩) h4).trans h2, (hq.cell (p := ⟨g, 2, none⟩) h4).trans h3, Nat.lt_of_lt_of_le h4 hq.size, h5.trans hq⟩
theorem b3Q {w W : World} {g : Nat} {u1 u2 u3 : Value} (k : W.cell? ⟨g, 0, none⟩ = some u1 ∧ W.cell? ⟨g, 1, none⟩ = some u2 ∧ W.cell? ⟨g, 2, none⟩ = some u3 ∧ g < W.heap.size ∧ Q w W) : Q w W := k.2.2.2.2
set_option maxRecDepth 100000 in
set_option maxHeartbeats 16000000 in
theorem joins_walk (w : World) (v u : Value) (hv : ArgP w v) (hu : ArgT w u) (_ : Laid w) : Calls Tryd.prog 8 #[v, u] w fun e w' => e = .returned (.bool true) ∧ Below w.heap.size w w' := by
  obtain ⟨l, hr, hl⟩ := hv
  obtain ⟨t0, t1, t2, rfl, ft0, ft1, ft2⟩ := hu
  have HR := Lib.hid hr
  have HL := Lib.hid hl
  obtain ⟨A, c, rfl, hc, _⟩ := hr
  obtain ⟨n, hn⟩ : ∃ n, l.length = n := ⟨_, rfl⟩
  have HN := Lib.hid hn
  rw [hn] at HR
  rw [hn]
  obtain ⟨e, he⟩ : ∃ e, chk l = e := ⟨_, rfl⟩
  have HE := Lib.hid he
  obtain ⟨sm, hsm⟩ : ∃ b, decide (l.length ≤ 40) = b := ⟨_, rfl⟩
  have HSM := Lib.hid hsm
  obtain ⟨W0, hW0⟩ : ∃ W, w.alloc (.cells #[.int .i64 t0, .int .i64 t1, .int .i64 t2] 45) = W := ⟨_, rfl⟩
  have Q0 := Lib.hid (show Q w W0 by rw [← hW0]; exact (Q.refl w).alloc _)
  have B0 := Lib.hid (show box3 W0 w.heap.size t0 t1 t2 by rw [← hW0]; exact ⟨World.cell?_alloc_at _ _ _ _ rfl, World.cell?_alloc_at _ _ _ _ rfl, World.cell?_alloc_at _ _ _ _ rfl, by show w.heap.size < (w.heap.push _).size; simp⟩)
  clear hl hsm hc hn
  cases sm with
  | false =>
    clear he
    go_enter Tryd.func8, Tryd.ntmps8
    go_wp2_with fail
    clear hW0
    refine (made_big _ l HSM _ (RdG.q HR.out Q0.out) HL.out).mono ?_; rintro E w1 ⟨rfl, hq1⟩
    have Q1 := Lib.hid (Q0.out.trans hq1)
    clear hq1
    go_wp2_with fail
    refine (awake_c _).mono ?_; rintro E w9 ⟨rfl, hq9⟩
    go_wp2_with fail
    go_ret
    exact ⟨rfl, Q1.out.trans hq9⟩
  | true =>
    by_cases h0 : e = 0
    case neg =>
      clear he
      go_enter Tryd.func8, Tryd.ntmps8
      go_wp2_with fail
      clear hW0
      refine (made_no _ l e HE h0 HSM _ (RdG.q HR.out Q0.out) HL.out).mono ?_; rintro E w1 ⟨rfl, hq1⟩
      have Q1 := Lib.hid (Q0.out.trans hq1)
      clear hq1
      go_wp2_with fail
      refine (awake_c _).mono ?_; rintro E w9 ⟨rfl, hq9⟩
      go_wp2_with fail
      go_ret
      exact ⟨rfl, Q1.out.trans hq9⟩
    case pos =>
      subst h0
      have HO := Lib.hid (chk_zero he)
      have hn21 : n ≤ 21 := by have := HO.out.few; have := HN.out; omega
      clear he
      go_enter Tryd.func8, Tryd.ntmps8
      go_wp2_with fail
      clear hW0
      refine (made_yes _ l HE HSM _ (RdG.q HR.out Q0.out) HL.out).mono ?_; rintro E w1 ⟨g, rfl, hc, hq1⟩
      have HC1 := Lib.hid hc
      have Q1 := Lib.hid (Q0.out.trans hq1)
      have B1 := Lib.hid (B0.out.q hq1)
      clear hq1 hc
      go_wp2_with fail
      go_loopw [7, 8] (fun u7 u8 wr => ∃ (k : Nat) (a : Int), k ≤ n ∧ u7 = .int .i64 a ∧ u8 = .int .i64 k ∧ Hid (SW l k = a ∧ Q w1 wr)) (fun _ u8 _ => n - (intOf u8).toNat)
      case atStart => exact ⟨0, 0, Nat.zero_le _, rfl, rfl, rfl, Q.refl _⟩
      case round =>
        obtain ⟨k, a, hk, rfl, rfl, HI⟩ := hrel
        by_cases hlt : k < n
        · have hkl : k < l.length := by rw [HN.out]; exact hlt
          obtain ⟨bb, off, rfl, hb, hcc, c0, c1⟩ := HR.out.at (Q1.out.trans HI.out.2) hkl
          have ha0 := SW_pos HO.out k (by omega)
          have ha1 := SW_le HO.out k (by omega)
          have hpu := HO.out.up k hkl
          have hfu := HO.out.fu k hkl
          have hf0 := HO.out.f0 k hkl
          have huw := HO.out.uw k hkl
          rw [HI.out.1] at ha0 ha1
          have hnx : SW l (k + 1) = a + (U l k - F l k) := by rw [← HI.out.1]; rfl
          obtain ⟨x, hx⟩ : ∃ x, F l k = x := ⟨_, rfl⟩
          obtain ⟨y, hy⟩ : ∃ y, U l k = y := ⟨_, rfl⟩
          rw [hx] at c0 hfu hf0 hpu
          rw [hy] at c1 hfu huw
          rw [hx, hy] at hnx
          obtain ⟨s1, hs1⟩ : ∃ s, a + y = s := ⟨_, rfl⟩
          have r1 : wrap64 (a + y) = s1 := by rw [hs1]; exact IntWalk.wrap64_in _ (by omega)
          obtain ⟨s2, hs2⟩ : ∃ s, s1 - x = s := ⟨_, rfl⟩
          have r2 : wrap64 (s1 - x) = s2 := by rw [hs2]; exact IntWalk.wrap64_in _ (by omega)
          have HX := Lib.hid (show SW l (k + 1) = s2 by rw [hnx]; omega)
          have HQ := Lib.hid HI.out.2
          have hkn : (k : Int) < (n : Int) := by omega
          clear HI hkl ha0 ha1 hpu hfu hf0 huw hnx hx hy hs1 hs2
          go_wp2_with fail
          go_quiet (fail)
          go_wp2_with fail
          go_roundw
          case rel => exact ⟨k + 1, s2, by omega, by first | rfl | rw [r2], by go_num, HX.out, HQ.out.drewN _⟩
          case measure => simp [intOf] <;> omega
        · obtain rfl : k = n := by omega
          have HSW := Lib.hid (show SW l l.length = a by rw [HN.out]; exact HI.out.1)
          have HC2 := Lib.hid (HC1.out.q HI.out.2)
          have B2 := Lib.hid (B1.out.q HI.out.2)
          have Q2 := Lib.hid (Q1.out.trans HI.out.2)
          clear HI
          obtain ⟨b0, hb0⟩ : ∃ b, isT t0 = b := ⟨_, rfl⟩
          have HB0 := Lib.hid hb0
          obtain ⟨d0, d1, d2, d3⟩ := B2.out
          cases b0 with
          | false =>
            clear hb0
            go_wp2_with fail
            go_quiet ((go_at_call 30; first | exact Calls.quiet_of_same (lT_c t0 false HB0 _)))
            have QC := Lib.hid (show Q w (wr.drewN nq) from Q2.out.drewN nq)
            go_wp2_with fail
            refine (lIsTime_c t0 false HB0 _).mono ?_; rintro E wT ⟨rfl, rfl⟩
            go_wp2_with fail
            refine (awake_c _).mono ?_; rintro E w9 ⟨rfl, hq9⟩
            go_wp2_with fail
            go_ret
            exact ⟨rfl, QC.out.trans hq9⟩
          | true =>
            have tb := isT_yes hb0
            have HT0 := Lib.hid tb
            by_cases hK : t0 ≤ 9989920
            case' neg =>
              have hK' : decide (t0 ≤ 9989920) = false := decide_eq_false hK
              clear hb0 tb
              go_wp2_with fail
              go_quiet ((go_at_call 30; first | exact Calls.quiet_of_same (lT_c t0 true HB0 _)))
              have QC := Lib.hid (show Q w (wr.drewN nq) from Q2.out.drewN nq)
              have HCc := Lib.hid (show Cal (wr.drewN nq) g l from HC2.out.q ((Q.refl _).drewN _))
              obtain ⟨W4, hW4⟩ : ∃ W, wr.drewN nq = W := ⟨_, rfl⟩
              have d0 : W4.cell? ⟨w.heap.size, 0, none⟩ = some (.int .i64 t0) := by rw [← hW4]; exact d0
              have d1 : W4.cell? ⟨w.heap.size, 1, none⟩ = some (.int .i64 t1) := by rw [← hW4]; exact d1
              have d2 : W4.cell? ⟨w.heap.size, 2, none⟩ = some (.int .i64 t2) := by rw [← hW4]; exact d2
              have d3 : w.heap.size < W4.heap.size := by rw [← hW4]; exact d3
              rw [hW4] at QC HCc ⊢
              clear hW4
            case' pos =>
              have hK' : decide (t0 ≤ 9989920) = true := decide_eq_true hK
              have eW : workS l t0 (t0 + 10080) = a := by rw [week_work hb0 hK, HSW.out]
              have eO : openS l (t0 + 10080) = openS l t0 := week_open HO.out hb0 hK
              obtain ⟨z, hz⟩ : ∃ z, t0 + 10080 = z := ⟨_, rfl⟩
              have r0 : wrap64 (t0 + 10080) = z := by rw [hz]; exact IntWalk.wrap64_in _ (by omega)
              have r5 : IntKind.i64.wrap (t0 + 10080) = z := by rw [hz]; exact IntWalk.i64_in _ (by omega)
              rw [hz] at eW eO
              have KW : ∀ (x y : Int) (W : World), Q wr W → Calls Tryd.prog 22 #[.pointer (some ⟨g, 0, none⟩), .int .i64 x, .int .i64 y] W fun r w' => r = .returned (.int .i64 (workS l x y)) ∧ Q W w' := fun x y W h => Work_c g l x y _ W (Lib.hid (HC2.out.q h)) HO (Lib.hid rfl)
              have KO : ∀ (x : Int) (W : World), Q wr W → Calls Tryd.prog 20 #[.pointer (some ⟨g, 0, none⟩), .int .i64 x] W fun r w' => r = .returned (.bool (openS l x)) ∧ Q W w' := fun x W h => Open_c g l x _ W (Lib.hid (HC2.out.q h)) HO (Lib.hid rfl)
              obtain ⟨fw, hfw⟩ : ∃ f, workS l = f := ⟨_, rfl⟩
              obtain ⟨fo, hfo⟩ : ∃ f, openS l = f := ⟨_, rfl⟩
              rw [hfw] at KW eW
              rw [hfo] at KO eO
              have HKW := Lib.hid KW
              have HKO := Lib.hid KO
              have x2 : (fw t0 z == a) = true := by rw [eW]; simp
              have x3 : (fo t0 == fo z) = true := by rw [eO]; simp
              have x4 : (a == a) = true := by simp
              clear hb0 hz tb hK hfw hfo KW KO
              go_wp2_with fail
              have hrf : Q wr wr := Q.refl wr
              have hd : Q wr wr.drew := (Q.refl wr).drew
              go_region_held3 (fun W => W.cell? ⟨w.heap.size, 0, none⟩ = some (.int .i64 t0) ∧ W.cell? ⟨w.heap.size, 1, none⟩ = some (.int .i64 t1) ∧ W.cell? ⟨w.heap.size, 2, none⟩ = some (.int .i64 t2) ∧ w.heap.size < W.heap.size ∧ Q wr W)
                (first | exact b3K ⟨d0, d1, d2, d3, hrf⟩ hd | exact b3K (by assumption) (by assumption))
                (first | (go_at_call 30; refine (lIsTime_q t0 true HB0 _).mono ?_; rintro E w5 ⟨rfl, hq5⟩) | (go_at_call 22; refine (HKW.out _ _ _ (b3Q (by assumption))).mono ?_; rintro E w6 ⟨rfl, hq6⟩) | (go_at_call 20; refine (HKO.out _ _ (b3Q (by assumption))).mono ?_; rintro E w7 ⟨rfl, hq7⟩))
              rename World => W4
              have hS : W4.cell? ⟨w.heap.size, 0, none⟩ = some (.int .i64 t0) ∧ W4.cell? ⟨w.heap.size, 1, none⟩ = some (.int .i64 t1) ∧ W4.cell? ⟨w.heap.size, 2, none⟩ = some (.int .i64 t2) ∧ w.heap.size < W4.heap.size ∧ Q wr W4 := by assumption
              clear d0 d1 d2 d3
              obtain ⟨d0, d1, d2, d3, qs⟩ := hS
              have QC := Lib.hid (Q2.out.trans qs)
              have HCc := Lib.hid (HC2.out.q qs)
              clear x2 x3 x4 r0 r5 qs
            all_goals (
              obtain ⟨b2, hb2⟩ : ∃ b, isT t2 = b := ⟨_, rfl⟩
              have HB2 := Lib.hid hb2
              cases b2 with
              | false =>
                clear hb2
                go_wp2_with fail
                refine (lIsTime_c t0 true HB0 _).mono ?_; rintro E wT ⟨rfl, rfl⟩
                go_wp2_with fail
                refine (lIsTime_c t2 false HB2 _).mono ?_; rintro E wT ⟨rfl, rfl⟩
                go_wp2_with fail
                refine (awake_c _).mono ?_; rintro E w9 ⟨rfl, hq9⟩
                go_wp2_with fail
                go_ret
                exact ⟨rfl, QC.out.trans hq9⟩
              | true =>
                by_cases h01 : t1 < t0
                · have k1 : decide (t1 < t0) = true := decide_eq_true h01
                  clear hb2
                  go_wp2_with fail
                  refine (lIsTime_c t0 true HB0 _).mono ?_; rintro E wT ⟨rfl, rfl⟩
                  go_wp2_with fail
                  refine (lIsTime_c t2 true HB2 _).mono ?_; rintro E wT ⟨rfl, rfl⟩
                  go_wp2_with fail
                  refine (awake_c _).mono ?_; rintro E w9 ⟨rfl, hq9⟩
                  go_wp2_with fail
                  go_ret
                  exact ⟨rfl, QC.out.trans hq9⟩
                · have k1 : decide (t1 < t0) = false := decide_eq_false h01
                  by_cases h12 : t2 < t1
                  · have k2 : decide (t2 < t1) = true := decide_eq_true h12
                    clear hb2
                    go_wp2_with fail
                    refine (lIsTime_c t0 true HB0 _).mono ?_; rintro E wT ⟨rfl, rfl⟩
                    go_wp2_with fail
                    refine (lIsTime_c t2 true HB2 _).mono ?_; rintro E wT ⟨rfl, rfl⟩
                    go_wp2_with fail
                    refine (awake_c _).mono ?_; rintro E w9 ⟨rfl, hq9⟩
                    go_wp2_with fail
                    go_ret
                    exact ⟨rfl, QC.out.trans hq9⟩
                  · have k2 : decide (t2 < t1) = false := decide_eq_false h12
                    have hj := work_join HO.out HB0.out hb2 (by omega : t0 ≤ t1) (by omega : t1 ≤ t2)
                    have hwb := work_bd HO.out (a := t0) (b := t2)
                    have KW : ∀ (x y : Int) (W : World), Q W4 W → Calls Tryd.prog 22 #[.pointer (some ⟨g, 0, none⟩), .int .i64 x, .int .i64 y] W fun r w' => r = .returned (.int .i64 (workS l x y)) ∧ Q W w' := fun x y W h => Work_c g l x y _ W (Lib.hid (HCc.out.q h)) HO (Lib.hid rfl)
                    obtain ⟨fv, hfv⟩ : ∃ f, workS l = f := ⟨_, rfl⟩
                    rw [hfv] at KW hj hwb
                    have HKV := Lib.hid KW
                    have r1 : wrap64 (fv t0 t1 + fv t1 t2) = fv t0 t2 := by rw [hj]; exact IntWalk.wrap64_in _ (by omega)
                    have r2 : wrap64 (fv t0 t2) = fv t0 t2 := IntWalk.wrap64_in _ (by omega)
                    have r3 : IntKind.i64.wrap (fv t0 t1 + fv t1 t2) = fv t0 t2 := by rw [hj]; exact IntWalk.i64_in _ (by omega)
                    have r4 : IntKind.i64.wrap (fv t0 t2) = fv t0 t2 := IntWalk.i64_in _ (by omega)
                    have x1 : (fv t0 t2 == fv t0 t2) = true := by simp
                    clear hb2 hwb hfv KW
                    go_wp2_with fail
                    refine (lIsTime_c t0 true HB0 _).mono ?_; rintro E wT ⟨rfl, rfl⟩
                    go_wp2_with fail
                    refine (lIsTime_c t2 true HB2 _).mono ?_; rintro E wT ⟨rfl, rfl⟩
                    go_wp2_with fail
                    have hrf4 : Q W4 W4 := Q.refl _
                    have hd4 : Q W4 W4.drew := (Q.refl _).drew
                    go_region_held3 (fun W => W.cell? ⟨w.heap.size, 0, none⟩ = some (.int .i64 t0) ∧ W.cell? ⟨w.heap.size, 1, none⟩ = some (.int .i64 t1) ∧ W.cell? ⟨w.heap.size, 2, none⟩ = some (.int .i64 t2) ∧ w.heap.size < W.heap.size ∧ Q W4 W)
                      (first | exact b3K ⟨d0, d1, d2, d3, hrf4⟩ hd4 | exact b3K (by assumption) (by assumption))
                      (first | (go_at_call 22; refine (HKV.out _ _ _ (b3Q (by assumption))).mono ?_; rintro E w6 ⟨rfl, hq6⟩) | (go_at_call 14; refine (awake_c _).mono ?_; rintro E w6 ⟨rfl, hq6⟩))
                    all_goals go_wp2_with fail
                    all_goals go_ret
                    all_goals exact ⟨rfl, QC.out.trans (b3Q (by assumption))⟩)

open Go.ChangeMaps (open_string shut_string)
namespace clockJoins
theorem witness (os : Os) {H : Type} (enc : TypeId × Value → H) : (OpenSpec.ofChange Rows.clockJoinsSpec).preRow enc Tryd.prog Tryd.f8 Rows.clockJoinsRow.domain false Rows.clockJoinsRow.laid ((start os).forCall (fun _ _ => 0) ⟨#[], #[Value.slice none 0 0, Value.agg #[.int .i64 0, .int .i64 0, .int .i64 0]], []⟩).memory #[Value.slice none 0 0, Value.agg #[.int .i64 0, .int .i64 0, .int .i64 0]] := by
  have hw : (DataW.whole enc Tryd.prog ((start os).forCall (fun _ _ => 0) ⟨#[], #[Value.slice none 0 0, Value.agg #[.int .i64 0, .int .i64 0, .int .i64 0]], []⟩).memory Tryd.f8.params.toList Rows.clockJoinsSpec.vars false (#[Value.slice none 0 0, Value.agg #[.int .i64 0, .int .i64 0, .int .i64 0]] : Array Value).toList 8).map (fun x => (x.1, x.2.1)) = some ([.nil, .agg [.lit (.int .i64 0), .lit (.int .i64 0), .lit (.int .i64 0)]], []) := by kernel_rfl
  obtain ⟨⟨x1, x2, x3⟩, hx, hx1⟩ := Option.map_eq_some_iff.1 hw
  simp only [Prod.mk.injEq] at hx1
  obtain ⟨rfl, rfl⟩ := hx1
  exact OpenSpec.preRow_of_cond 8 hx (by kernel_rfl) (fun k hk => by cases hk) (by kernel_rfl) (door_met os _)
set_option maxRecDepth 100000 in
set_option maxHeartbeats 800000 in
theorem lifted (os : Os) (started : os.Started) (H : Type) (enc : TypeId × Value → H) (F : Stop.Interp) :
    ReturnsInHanded {} Tryd.checked os 8 .any ((OpenSpec.ofChange Rows.clockJoinsSpec).preRow enc Tryd.prog Tryd.f8 Rows.clockJoinsRow.domain false Rows.clockJoinsRow.laid) (((OpenSpec.ofChange Rows.clockJoinsSpec).at F).post enc Tryd.prog Tryd.f8 false true false false) := by
  refine returnsInHanded_of_row (C := Tryd.checked) (s := OpenSpec.ofChange Rows.clockJoinsSpec) own started (by kernel_rfl) Tryd.func8
    (witness_row_atRef (enc := enc) (C := Tryd.checked) false (start os) #[Value.slice none 0 0, Value.agg #[.int .i64 0, .int .i64 0, .int .i64 0]] rfl (by kernel_rfl) (by kernel_rfl) (by kernel_rfl) (witness os enc)) ?_
  intro W base args ds gs before hval0 hW _ _ _ hL _ _
  have hval : ∀ (j : Nat) t v, Tryd.f8.params[j]? = some t → args[j]? = some v → Value.okWide Tryd.prog W .any base t v := hval0
  have hW' := hW
  obtain ⟨p, q, hA0, hV, rfl, hfz, hnd⟩ := hW
  have hA : DataW.TrodAll enc Tryd.prog W 0 (fun _ => true) true Tryd.f8.params.toList args.toList ds p := hA0
  rw [Tryd.params8] at hA hval
  obtain ⟨v0, vs0, d0, ds0, p0, q0, hargs, rfl, rfl, h0, r0⟩ := trodAll_cons hA
  obtain ⟨v1, vs1, d1, ds1, p1, q1, rfl, rfl, rfl, h1, r1⟩ := trodAll_cons r0
  obtain ⟨rfl, rfl, rfl⟩ := trodAll_nil r1
  obtain rfl : args = #[v0, v1] := by cases args; simp_all
  obtain ⟨rfl, rfl⟩ := trodVars_none hV
  have a0 := open_pts (hval 0 22 v0 rfl rfl) h0
  have a1 := open_three (hval 1 45 v1 rfl rfl) h1
  clear hA0 hval0
  refine (joins_walk W v0 v1 a0 a1 (five_laid hL)).mono fun e W' ⟨he, bel⟩ => ?_
  subst he
  exact ⟨_, rfl, _, _, _, [], _, [], hW', trodAll_mk1 (shut_bool Tryd.underlying4 _), (trodAll_cons_mk (stays (by kernel_rfl) (of_decide_eq_true (by kernel_rfl)) h0 bel) (trodAll_cons_mk (stays (by kernel_rfl) (of_decide_eq_true (by kernel_rfl)) h1 bel) trodAll_mk0)), rfl, bel.frame _, fun h => by cases h⟩
theorem said : Rows.clockJoinsRow.holds Tryd.pinned (OpenSpec.ofChange Rows.clockJoinsSpec) :=
  OpenClaim.holds_of_cond 8 Tryd.f8 rfl rfl rfl rfl rfl rfl rfl ⟨rfl, rfl, rfl, rfl, rfl⟩ rfl rfl rfl rfl rfl (by kernel_rfl) Tryd.func8 (by kernel_rfl)
    (of_decide_eq_true (by kernel_rfl)) (by unfold Func.isWrapper; first | (rw [if_pos (by decide +kernel)]; kernel_rfl) | (rw [if_neg (by decide +kernel)]; exact ⟨rfl, rfl⟩))
    (fun os started H enc _ F => by rw [OpenClaim.pre_eq_preRow]; exact lifted os started H enc F)
theorem plain (f : FuncId) (fn : Func) (hf : Tryd.pinned.checked.prog.funcNamed "sawmill/sawmilllaw07.ClockJoins" = some f) (hfn : Tryd.pinned.checked.prog.funcs[f]? = some fn) :
    false = Tryd.pinned.checked.prog.looks [] ∧ ∀ (j : Nat) t, fn.params[j]? = some t → Tryd.pinned.checked.prog.wantsStandIn t = false := by
  obtain rfl : f = 8 := Option.some.inj ((show Tryd.prog.funcNamed "sawmill/sawmilllaw07.ClockJoins" = some 8 by kernel_rfl).symm.trans hf) |>.symm
  obtain rfl : fn = Tryd.f8 := (Option.some.inj (Tryd.func8.symm.trans hfn)).symm
  refine ⟨by kernel_rfl, fun j t ht => ?_⟩
  rw [Tryd.params8] at ht
  have hm := Array.mem_of_getElem? ht
  rcases (show t = 22 ∨ t = 45 by simpa using hm) with rfl | rfl
  · exact (show Tryd.prog.wantsStandIn 22 = false by kernel_rfl)
  · exact (show Tryd.prog.wantsStandIn 45 = false by kernel_rfl)
theorem proved : Rows.ClockJoinsCardSaid :=
  Claim7.holds_tied_plain_at .later [] _ _ _ _ said (fun _ h => by cases h) (by kernel_rfl) (fun _ h => by cases h) clockJoins_row_tie rfl ⟨rfl, rfl⟩ (by kernel_rfl) rfl plain (by kernel_rfl)
end clockJoins

end Go.Proofs.YthpopopodjgdaaaDoor
