/- For every list of points, two heights and a number the law PolyChord returns true: the rectangle of a chord lies in the hull, a wider one does not, and where there is no chord, no rectangle of the width 1 does (asked for at most MaxPoints points in range); and the examples hold. No condition. -/
import Derived.Test.YtkkghejbdakmpaaArgsB
import Derived.Test.YtkkghejbdakmpaaChordB
import Derived.Test.YtkkghejbdakmpaaRA
set_option linter.unusedVariables false
set_option linter.unusedSimpArgs false
namespace Go.Proofs.Ytkkghejbdakmpaa
open Go.ChangeShapes Go.WideShapes Go.ChangeAt Go.RowKit Pm

set_option maxRecDepth 100000 in
set_option maxHeartbeats 6400000 in
theorem chord_walk (w : World) (v u q : Value) (hv : ArgP w v) (hu : Arg2 w u) (hq : ArgI w q) : Calls Try.prog 10 #[v, u, q] w fun e w' => e = .returned (.bool true) ∧ Below w.heap.size w w' := by
  obtain ⟨l, hr, hl, hf⟩ := hv
  obtain ⟨lo, hi, rfl, flo, fhi⟩ := hu
  obtain ⟨x, rfl, fx⟩ := hq
  have HR := Lib.hid hr
  have HL := Lib.hid hl
  obtain ⟨A, c, rfl, hc, _⟩ := hr
  obtain ⟨n, hn⟩ : ∃ n, l.length = n := ⟨_, rfl⟩
  have HN := Lib.hid hn
  rw [hn] at HR hc hl
  rw [hn]
  unfold maxLen at hl
  obtain ⟨W0, hW0⟩ : ∃ W, w.alloc (.cells #[.int .i64 lo, .int .i64 hi] 46) = W := ⟨_, rfl⟩
  have Q0 := Lib.hid (show Q w W0 by rw [← hW0]; exact (Q.refl w).alloc _)
  have y0 : W0.cell? ⟨w.heap.size, 0, none⟩ = some (.int .i64 lo) := by rw [← hW0]; exact World.cell?_alloc_at _ _ _ _ rfl
  have y1 : W0.cell? ⟨w.heap.size, 1, none⟩ = some (.int .i64 hi) := by rw [← hW0]; exact World.cell?_alloc_at _ _ _ _ rfl
  clear hf
  by_cases h32 : 32 < n
  · have i1 : 32 < (n : Int) := by omega
    clear hn
    go_enter Try.func10, Try.ntmps10
    go_wp2_with fail
    go_quiet (fail)
    go_wp2_with fail
    refine (awake_c _).mono ?_; rintro E w5 ⟨rfl, hq5⟩
    go_wp2_with fail
    go_ret
    exact ⟨rfl, (Q0.out.drewN _).trans hq5⟩
  · have i1 : ¬ 32 < (n : Int) := by omega
    obtain ⟨b, hb⟩ : ∃ b, rng l = b := ⟨_, rfl⟩
    have HG := Lib.hid (fun W (h : Q w W) => rRanged_c (.slice A n c) l b (Lib.hid hb) W (RdG.q HR.out h) HL.out)
    cases b with
    | false =>
      clear hn hb
      go_enter Try.func10, Try.ntmps10
      go_wp2_with fail
      go_quiet (fail)
      go_wp2_with fail
      refine (HG.out _ (Q0.out.drewN _)).mono ?_; rintro E w1 ⟨rfl, rfl⟩
      go_wp2_with fail
      refine (awake_c _).mono ?_; rintro E w5 ⟨rfl, hq5⟩
      go_wp2_with fail
      go_ret
      exact ⟨rfl, (Q0.out.drewN _).trans hq5⟩
    | true =>
      by_cases hx1 : x < -1000
      · clear hn hb
        go_enter Try.func10, Try.ntmps10
        go_wp2_with fail
        go_quiet (fail)
        go_wp2_with fail
        refine (HG.out _ (Q0.out.drewN _)).mono ?_; rintro E w1 ⟨rfl, rfl⟩
        go_wp2_with fail
        refine (awake_c _).mono ?_; rintro E w5 ⟨rfl, hq5⟩
        go_wp2_with fail
        go_ret
        exact ⟨rfl, (Q0.out.drewN _).trans hq5⟩
      · by_cases hx2 : 1000 < x
        · clear hn hb
          go_enter Try.func10, Try.ntmps10
          go_wp2_with fail
          go_quiet (fail)
          go_wp2_with fail
          refine (HG.out _ (Q0.out.drewN _)).mono ?_; rintro E w1 ⟨rfl, rfl⟩
          go_wp2_with fail
          refine (awake_c _).mono ?_; rintro E w5 ⟨rfl, hq5⟩
          go_wp2_with fail
          go_ret
          exact ⟨rfl, (Q0.out.drewN _).trans hq5⟩
        · have j1 : -1000 ≤ x := by omega
          have j2 : x ≤ 1000 := by omega
          obtain ⟨H, hH⟩ : ∃ H, hull l = H := ⟨_, rfl⟩
          have HH := Lib.hid hH
          obtain ⟨m, hm⟩ : ∃ m, H.length = m := ⟨_, rfl⟩
          have HM := Lib.hid hm
          have m32 : m ≤ 32 := by rw [← hm, ← hH]; exact hull_few32
          obtain ⟨⟨a, bb⟩, hab⟩ : ∃ r, Pm.chord l lo hi = r := ⟨_, rfl⟩
          have HAB := Lib.hid hab
          clear hn hb hH hm hab
          go_enter Try.func10, Try.ntmps10
          go_wp2_with fail
          go_quiet (fail)
          go_wp2_with fail
          refine (HG.out _ (Q0.out.drewN _)).mono ?_; rintro E w1 ⟨rfl, rfl⟩
          go_wp2_with fail
          refine (Hull_c _ l _ (RdG.q HR.out (Q0.out.drewN _)) HL.out).mono ?_; rintro E w1 ⟨v1, rfl, hr1, hq1⟩
          rw [HH.out] at hr1
          have R1 := Lib.hid hr1
          have Q1 := Lib.hid ((Q0.out.drewN _).trans hq1)
          obtain ⟨A1, c1, rfl, hc1, _⟩ := hr1
          rw [HM.out] at R1 hc1 ⊢
          clear hq1
          go_wp2_with fail
          refine (Chord_c _ l lo hi (a, bb) HAB flo fhi _ (RdG.q HR.out Q1.out) HL.out).mono ?_; rintro E w2 ⟨rfl, hq2⟩
          have R2 := Lib.hid (RdG.q R1.out hq2)
          have Q2 := Lib.hid (Q1.out.trans hq2)
          clear hq2
          dsimp only
          have q0 : (w2.alloc (.cells #[.int .i64 a, .int .i64 bb] 29)).cell? ⟨w2.heap.size, 0, none⟩ = some (.int .i64 a) := World.cell?_alloc_at _ _ _ _ rfl
          have q1 : (w2.alloc (.cells #[.int .i64 a, .int .i64 bb] 29)).cell? ⟨w2.heap.size, 1, none⟩ = some (.int .i64 bb) := World.cell?_alloc_at _ _ _ _ rfl
          by_cases h0 : a = 0 ∧ bb = 0
          · obtain ⟨rfl, rfl⟩ := h0
            have Q3 := Lib.hid (Q2.out.alloc (.cells #[.int .i64 0, .int .i64 0] 29))
            by_cases hm0 : m = 0
            · have t1 : ((m : Int) == 0) = true := by simp [hm0]
              clear hm0
              go_wp2_with fail
              refine (awake_c _).mono ?_; rintro E w5 ⟨rfl, hq5⟩
              go_wp2_with fail
              go_ret
              exact ⟨rfl, Q3.out.trans hq5⟩
            · have t1 : ((m : Int) == 0) = false := by simp; omega
              by_cases hlh : hi ≤ lo
              · have t2 : decide (hi ≤ lo) = true := decide_eq_true hlh
                clear hm0
                go_wp2_with fail
                refine (awake_c _).mono ?_; rintro E w5 ⟨rfl, hq5⟩
                go_wp2_with fail
                go_ret
                exact ⟨rfl, Q3.out.trans hq5⟩
              · have t2 : decide (hi ≤ lo) = false := decide_eq_false hlh
                have hne : hull l ≠ [] := by rw [HH.out]; intro e; have := HM.out; rw [e] at this; exact hm0 this.symm
                obtain ⟨x1, hx3⟩ : ∃ z, x + 1 = z := ⟨_, rfl⟩
                have HB := Lib.hid (show insB H x x1 lo hi = false by rw [← HH.out, ← hx3]; exact zero_no HAB.out hne (by omega))
                have i5 : IntKind.i64.wrap x1 = x1 := IntWalk.i64_in _ (by omega)
                have HI := Lib.hid (fun W (h : Q w2 W) => inside_c (.slice A1 m c1) H x x1 lo hi false HB W (RdG.q R2.out h) (by rw [HM.out]; unfold maxLen; omega))
                clear hm0 hne
                go_wp2_with fail
                refine (HI.out _ ((Q.refl w2).alloc _)).mono ?_; rintro E w4 ⟨rfl, hq4⟩
                have Q4 := Lib.hid (Q3.out.trans hq4)
                clear hq4
                go_wp2_with fail
                refine (awake_c _).mono ?_; rintro E w5 ⟨rfl, hq5⟩
                go_wp2_with fail
                go_ret
                exact ⟨rfl, Q4.out.trans hq5⟩
          · have hne : (a, bb) ≠ ((0, 0) : P) := fun e => h0 (by injection e with e1 e2; exact ⟨e1, e2⟩)
            obtain ⟨g1, g2, g3, g4, g5, g6, g7, g8⟩ := chord_in HAB.out hne
            obtain ⟨a1, ha1⟩ : ∃ z, a - 1 = z := ⟨_, rfl⟩
            obtain ⟨b1, hb1⟩ : ∃ z, bb + 1 = z := ⟨_, rfl⟩
            rw [HH.out] at g6 g7 g8
            rw [ha1] at g7
            rw [hb1] at g8
            have HB6 := Lib.hid g6
            have HB7 := Lib.hid g7
            have HB8 := Lib.hid g8
            have HI1 := Lib.hid (fun W (h : Q w2 W) => inside_c (.slice A1 m c1) H a bb lo hi true HB6 W (RdG.q R2.out h) (by rw [HM.out]; unfold maxLen; omega))
            have HI2 := Lib.hid (fun W (h : Q w2 W) => inside_c (.slice A1 m c1) H a1 bb lo hi false HB7 W (RdG.q R2.out h) (by rw [HM.out]; unfold maxLen; omega))
            have HI3 := Lib.hid (fun W (h : Q w2 W) => inside_c (.slice A1 m c1) H a b1 lo hi false HB8 W (RdG.q R2.out h) (by rw [HM.out]; unfold maxLen; omega))
            have t1 : decide (a < bb) = true := decide_eq_true g2
            have t2 : decide (lo < hi) = true := decide_eq_true g3
            have w1' : IntKind.i64.wrap a1 = a1 := IntWalk.i64_in _ (by omega)
            have w2' : IntKind.i64.wrap b1 = b1 := IntWalk.i64_in _ (by omega)
            clear g6 g7 g8 hne g1
            by_cases ka : a = 0
            · subst ka
              obtain rfl : a1 = -1 := by omega
              have kb : ¬ bb = 0 := fun e => h0 ⟨rfl, e⟩
              clear h0
              go_wp2_with fail
              refine (HI1.out _ ((Q.refl w2).alloc _)).mono ?_; rintro E w4 ⟨rfl, hq4⟩
              have q0b := (hq4.cell (p := ⟨w2.heap.size, 0, none⟩) (by simp)).trans q0
              have q1b := (hq4.cell (p := ⟨w2.heap.size, 1, none⟩) (by simp)).trans q1
              have hs4 : w2.heap.size < w4.heap.size := Nat.lt_of_lt_of_le (by simp) hq4.size
              have Q4 := Lib.hid (((Q.refl w2).alloc (.cells #[.int .i64 0, .int .i64 bb] 29)).trans hq4)
              clear hq4 q0 q1
              go_wp2_with fail
              refine (HI2.out _ Q4.out).mono ?_; rintro E w5 ⟨rfl, hq5⟩
              have q0c := (hq5.cell (p := ⟨w2.heap.size, 0, none⟩) hs4).trans q0b
              have q1c := (hq5.cell (p := ⟨w2.heap.size, 1, none⟩) hs4).trans q1b
              have Q5 := Lib.hid (Q4.out.trans hq5)
              clear hq5 q0b q1b
              go_wp2_with fail
              refine (HI3.out _ Q5.out).mono ?_; rintro E w6 ⟨rfl, hq6⟩
              have Q6 := Lib.hid (Q2.out.trans (Q5.out.trans hq6))
              clear hq6
              go_wp2_with fail
              refine (awake_c _).mono ?_; rintro E w7 ⟨rfl, hq7⟩
              go_wp2_with fail
              go_ret
              exact ⟨rfl, Q6.out.trans hq7⟩
            · clear h0
              go_wp2_with fail
              refine (HI1.out _ ((Q.refl w2).alloc _)).mono ?_; rintro E w4 ⟨rfl, hq4⟩
              have q0b := (hq4.cell (p := ⟨w2.heap.size, 0, none⟩) (by simp)).trans q0
              have q1b := (hq4.cell (p := ⟨w2.heap.size, 1, none⟩) (by simp)).trans q1
              have hs4 : w2.heap.size < w4.heap.size := Nat.lt_of_lt_of_le (by simp) hq4.size
              have Q4 := Lib.hid (((Q.refl w2).alloc (.cells #[.int .i64 a, .int .i64 bb] 29)).trans hq4)
              clear hq4 q0 q1
              go_wp2_with fail
              refine (HI2.out _ Q4.out).mono ?_; rintro E w5 ⟨rfl, hq5⟩
              have q0c := (hq5.cell (p := ⟨w2.heap.size, 0, none⟩) hs4).trans q0b
              have q1c := (hq5.cell (p := ⟨w2.heap.size, 1, none⟩) hs4).trans q1b
              have Q5 := Lib.hid (Q4.out.trans hq5)
              clear hq5 q0b q1b
              go_wp2_with fail
              refine (HI3.out _ Q5.out).mono ?_; rintro E w6 ⟨rfl, hq6⟩
              have Q6 := Lib.hid (Q2.out.trans (Q5.out.trans hq6))
              clear hq6
              go_wp2_with fail
              refine (awake_c _).mono ?_; rintro E w7 ⟨rfl, hq7⟩
              go_wp2_with fail
              go_ret
              exact ⟨rfl, Q6.out.trans hq7⟩

namespace polyChord
theorem own : ownKnob Try.prog.godebug = none := by kernel_rfl
set_option maxRecDepth 100000 in
set_option maxHeartbeats 800000 in
theorem lifted (os : Os) (started : os.Started) (H : Type) (enc : TypeId × Value → H) :
    ReturnsInHanded {} Try.checked os 10 .any (Rows.polyChordSpec.pre6 enc Try.prog Try.f10 Rows.polyChordRow.domain false) (Rows.polyChordSpec.post enc Try.prog Try.f10 false true false false) := by
  refine returnsInHanded_of_change (C := Try.checked) own started (by kernel_rfl) Try.func10
    (ChangeSpec.witness6 (enc := enc) (C := Try.checked) false ⟨#[], #[.slice none 0 0, .agg #[.int .i64 0, .int .i64 0], .int .i64 0], []⟩ 8 (by kernel_rfl) (by kernel_rfl) (by kernel_rfl) (by kernel_rfl)) ?_
  intro W base args ds gs before hval0 hW hcnd _
  have hval : ∀ (j : Nat) t v, Try.f10.params[j]? = some t → args[j]? = some v → Value.okWide Try.prog W .any base t v := hval0
  have hW' := hW
  obtain ⟨p, q, hA0, hV, rfl, hfz, hnd⟩ := hW
  have hA : DataW.TrodAll enc Try.prog W 0 (fun _ => true) true Try.f10.params.toList args.toList ds p := hA0
  rw [Try.params10] at hA hval
  obtain ⟨v0, vs0, d0, ds0, p0, q0, hargs, rfl, rfl, h0, r0⟩ := trodAll_cons hA
  obtain ⟨v1, vs1, d1, ds1, p1, q1, rfl, rfl, rfl, h1, r1⟩ := trodAll_cons r0
  obtain ⟨v2, vs2, d2, ds2, p2, q2, rfl, rfl, rfl, h2, r2⟩ := trodAll_cons r1
  obtain ⟨rfl, rfl, rfl⟩ := trodAll_nil r2
  obtain rfl : args = #[v0, v1, v2] := by cases args; simp_all
  obtain ⟨rfl, rfl⟩ := trodVars_none hV
  have a0 := open_pts (hval 0 22 v0 rfl rfl) h0
  have a1 := open_two (hval 1 46 v1 rfl rfl) h1
  have a2 := open_i64 (hval 2 3 v2 rfl rfl) h2
  clear hA0 hval0
  refine (chord_walk W v0 v1 v2 a0 a1 a2).mono fun e W' ⟨he, bel⟩ => ?_
  subst he
  exact ⟨_, rfl, _, _, _, [], _, [], hW', trodAll_mk1 (shut_bool Try.underlying4 _), (trodAll_cons_mk (stays (by kernel_rfl) (of_decide_eq_true (by kernel_rfl)) h0 bel) (trodAll_cons_mk (stays (by kernel_rfl) (of_decide_eq_true (by kernel_rfl)) h1 bel) (trodAll_cons_mk (stays (by kernel_rfl) (of_decide_eq_true (by kernel_rfl)) h2 bel) trodAll_mk0))), rfl, bel.frame _, fun h => by cases h⟩
theorem over : Rows.polyChordRow.holds Try.pinned (OpenSpec.ofChange Rows.polyChordSpec) :=
  OpenClaim.holds_of_wide 10 Try.f10 rfl rfl rfl rfl rfl rfl rfl ⟨rfl, rfl, rfl, rfl, rfl⟩ rfl rfl rfl rfl rfl (by kernel_rfl) Try.func10 (by kernel_rfl)
    (of_decide_eq_true (by kernel_rfl)) (by unfold Func.isWrapper; first | (rw [if_pos (by decide +kernel)]; kernel_rfl) | (rw [if_neg (by decide +kernel)]; exact ⟨rfl, rfl⟩))
    (fun os started H enc _ => lifted os started H enc)
theorem proved : Rows.PolyChordSaid := over
end polyChord

end Go.Proofs.Ytkkghejbdakmpaa
