/- The contract of the reference's Has. Printed by tools/genrhas.py from rhas.part: edit those. -/
import Derived.Test.YtjeocmcllhjceaaRA
import Derived.Test.YtjeocmcllhjceaaPart
import Derived.Test.YtjeocmcllhjceaaHasB
set_option linter.unusedVariables false
set_option linter.unusedSimpArgs false
namespace Go.Proofs.Ytjeocmcllhjceaa
open Go.ChangeShapes Go.WideShapes Go.ChangeAt Go.RowKit Go.Shelf Pm

theorem one_rd (W : World) (q : P) : RdP (W.alloc (.cells #[.int .i64 q.1, .int .i64 q.2] 38)) (.slice (some ⟨W.heap.size, 0, none⟩) 1 1) [q] := by
  have hb := BoxP.new W q
  refine ⟨some ⟨W.heap.size, 0, none⟩, 1, rfl, Nat.le_refl _, fun _ => ⟨W.heap.size, 0, rfl, hb.lt, fun i x hx j u hu => ?_⟩⟩
  match i, hx with
  | 0, hx =>
    have e : q = x := Option.some.inj hx
    subst e
    match j, hu with
    | 0, hu => have e : Value.int .i64 q.1 = u := Option.some.inj hu; rw [← e]; exact hb.c0
    | 1, hu => have e : Value.int .i64 q.2 = u := Option.some.inj hu; rw [← e]; exact hb.c1
  | i + 1, hx => cases hx
theorem rng_one (q : P) : rng [q] = inP q := by
  show (true && inP (g [q] 0)) = inP q
  rw [Bool.true_and]; rfl
theorem al1 {w : World} {b off : Nat} {u : Value} (hb : b < w.heap.size) (h : w.cell? ⟨b, off, none⟩ = some u) : ∀ O, (w.alloc O).cell? ⟨b, off, none⟩ = some u := fun O => (((Q.refl w).alloc O).cell (p := ⟨b, off, none⟩) hb).trans h
theorem al2 {w : World} {b off : Nat} {u : Value} (hb : b < w.heap.size) (h : w.cell? ⟨b, off, none⟩ = some u) : ∀ O O', ((w.alloc O).alloc O').cell? ⟨b, off, none⟩ = some u := fun O O' => ((((Q.refl w).alloc O).alloc O').cell (p := ⟨b, off, none⟩) hb).trans h
def flF (l : List P) (q : P) (k : Nat) : Bool := parN (fun i => flp (g l i) (g l (nx l i)) q) k
theorem par_yes {l : List P} {q a b : P} {k : Nat} (h : flp a b q = true) (ha : g l k = a) (hb : g l (nx l k) = b) : flF l q (k + 1) = !flF l q k := by
  show (if flp (g l k) (g l (nx l k)) q then !flF l q k else flF l q k) = _
  rw [ha, hb, h]; rfl
theorem par_no {l : List P} {q a b : P} {k : Nat} (h : flp a b q = false) (ha : g l k = a) (hb : g l (nx l k) = b) : flF l q (k + 1) = flF l q k := by
  show (if flp (g l k) (g l (nx l k)) q then !flF l q k else flF l q k) = _
  rw [ha, hb, h]; rfl
def noF (l : List P) (q : P) (k : Nat) : Prop := ∀ i, i < k → onE (g l i) (g l (nx l i)) q = false
theorem no_next {l : List P} {q a b : P} {k : Nat} (h : noF l q k) (ha : g l k = a) (hb : g l (nx l k) = b) (h1 : onE a b q = false) : noF l q (k + 1) := fun i hi => by
  by_cases e : i = k
  · rw [e, ha, hb]; exact h1
  · exact h i (by omega)
theorem has_at {l : List P} {q a b : P} {k : Nat} (hc : chk l = 0) (hq : inP q = true) (hk : k < l.length) (ha : g l k = a) (hb : g l (nx l k) = b) (h : onE a b q = true) : has l q = true := by
  unfold has
  rw [decide_eq_true hc, hq, anyN_yes (i := k) hk (by rw [ha, hb]; exact h)]; rfl
theorem has_all {l : List P} {q : P} (hc : chk l = 0) (hq : inP q = true) (h : noF l q l.length) : has l q = flF l q l.length := by
  unfold has
  rw [decide_eq_true hc, hq, anyN_no h]; simp [flF]
set_option maxRecDepth 100000 in
set_option maxHeartbeats 6400000 in
theorem rHas_in (v : Value) (l : List P) (q : P) (r : Bool) (h : Hid (has l q = r)) (hc : Hid (chk l = 0)) (hq : Hid (inP q = true)) (w : World) (hr : RdP w v l) : Calls Try.prog 26 #[v, pv q] w fun e w' => e = .returned (.bool r) ∧ Q w w' := by
  have HR := Lib.hid hr
  obtain ⟨hh1, hh2, hh3⟩ := chk_zero hc.out
  have HRL := Lib.hid (rng_mem hh1)
  have HL := Lib.hid (show l.length ≤ maxLen by unfold maxLen; omega)
  obtain ⟨A, c, rfl, hcc, _⟩ := hr
  obtain ⟨n, hn⟩ : ∃ n, l.length = n := ⟨_, rfl⟩
  have HN := Lib.hid hn
  rw [hn] at hh2 hh3 HR
  rw [hn]
  have HIQ := hq
  obtain ⟨qx, qy⟩ := q
  unfold pv
  dsimp only
  clear hcc hn hh1
  go_enter Try.func26, Try.ntmps26
  go_wp2_with fail
  refine (rCheck_c _ l 0 hc _ (RdG.q HR.out ((Q.refl w).alloc _)) HL.out).mono ?_; rintro E w1 ⟨rfl, hq1⟩
  have hb1 := (BoxP.new w (qx, qy)).q hq1
  have c0 := hb1.c0
  have c1 := hb1.c1
  dsimp only at c0 c1
  have HQ1 := Lib.hid (((Q.refl w).alloc _).trans hq1)
  have HB3 := Lib.hid hb1
  clear hq1 hb1
  go_wp2_with fail
  refine (rRanged_c _ [(qx, qy)] true (Lib.hid (by rw [rng_one]; exact hq.out)) _ (one_rd w1 (qx, qy)) (show 1 ≤ maxLen by decide)).mono ?_; rintro E w2 ⟨rfl, rfl⟩
  have HI0 := Lib.hid (show noF l (qx, qy) 0 ∧ BoxP (w1.alloc (.cells #[.int .i64 qx, .int .i64 qy] 38)) w.heap.size (qx, qy) ∧ Q w (w1.alloc (.cells #[.int .i64 qx, .int .i64 qy] 38)) from ⟨fun i hi => by omega, HB3.out.alloc _, HQ1.out.alloc _⟩)
  clear c0 c1
  go_wp2_with fail
  clear HB3 HQ1
  go_loopw [5, 6] (fun u5 u6 wr => ∃ k : Nat, k ≤ n ∧ u6 = .int .i64 k ∧ u5 = .bool (flF l (qx, qy) k) ∧ Hid (noF l (qx, qy) k ∧ BoxP wr w.heap.size (qx, qy) ∧ Q w wr)) (fun _ u6 _ => n - (intOf u6).toNat)
  case atStart => exact ⟨0, Nat.zero_le _, rfl, rfl, HI0⟩
  case round =>
    obtain ⟨k, hk, rfl, rfl, HI⟩ := hrel
    obtain ⟨fl, hfl⟩ : ∃ z, flF l (qx, qy) k = z := ⟨_, rfl⟩
    have HFL := Lib.hid hfl
    by_cases hlt : k < n
    · have hkl : k < l.length := by rw [HN.out]; exact hlt
      have HKL := Lib.hid hkl
      have hnl : nx l k < l.length := nx_lt k (by omega)
      obtain ⟨b, off, rfl, hb, _, c0, c1⟩ := HR.out.at HI.out.2.2 hkl
      obtain ⟨b2', off2, e2, _, _, d0, d1⟩ := HR.out.at HI.out.2.2 hnl
      injection e2 with e2; injection e2 with e21 e22
      subst e21 e22
      have hx1 := g_rng HRL.out k
      have hx2 := g_rng HRL.out (nx l k)
      have e3 := mod_nx l k n HN.out (by omega)
      obtain ⟨⟨a1, a2⟩, hA⟩ : ∃ a, g l k = a := ⟨_, rfl⟩
      obtain ⟨⟨b1, b2⟩, hB⟩ : ∃ a, g l (nx l k) = a := ⟨_, rfl⟩
      have HGA := Lib.hid hA
      have HGB := Lib.hid hB
      rw [hA] at c0 c1 hx1
      rw [hB] at d0 d1 hx2
      have HX1 := Lib.hid hx1
      have HX2 := Lib.hid hx2
      obtain ⟨m, hm⟩ : ∃ m, nx l k = m := ⟨_, rfl⟩
      rw [hm] at d0 d1 e3 hnl
      rw [HN.out] at hkl hnl
      dsimp only at c0 c1 d0 d1
      obtain ⟨sd, hsd⟩ : ∃ z, crs (a1, a2) (b1, b2) (qx, qy) = z := ⟨_, rfl⟩
      have HSD := Lib.hid hsd
      obtain ⟨m1, hm1⟩ : ∃ z, min a1 b1 = z := ⟨_, rfl⟩
      obtain ⟨m2, hm2⟩ : ∃ z, max a1 b1 = z := ⟨_, rfl⟩
      obtain ⟨m3, hm3⟩ : ∃ z, min a2 b2 = z := ⟨_, rfl⟩
      obtain ⟨m4, hm4⟩ : ∃ z, max a2 b2 = z := ⟨_, rfl⟩
      have HM1 := Lib.hid hm1
      have HM2 := Lib.hid hm2
      have HM3 := Lib.hid hm3
      have HM4 := Lib.hid hm4
      have r1 : ∀ ts ty W, (Builtin.min_ ts ty #[.int .i64 a1, .int .i64 b1]).run Try.prog W = .ok (.int .i64 m1) W := fun ts ty W => min_run ts ty _ _ m1 W hm1
      have r2 : ∀ ts ty W, (Builtin.max_ ts ty #[.int .i64 a1, .int .i64 b1]).run Try.prog W = .ok (.int .i64 m2) W := fun ts ty W => max_run ts ty _ _ m2 W hm2
      have r3 : ∀ ts ty W, (Builtin.min_ ts ty #[.int .i64 a2, .int .i64 b2]).run Try.prog W = .ok (.int .i64 m3) W := fun ts ty W => min_run ts ty _ _ m3 W hm3
      have r4 : ∀ ts ty W, (Builtin.max_ ts ty #[.int .i64 a2, .int .i64 b2]).run Try.prog W = .ok (.int .i64 m4) W := fun ts ty W => max_run ts ty _ _ m4 W hm4
      have e4 : IntKind.i64.wrap ((k : Int) + 1) = (k : Int) + 1 := IntWalk.i64_in _ (by omega)
      have e5 : IntKind.i64.wrap (m : Int) = (m : Int) := IntWalk.i64_in _ (by omega)
      have e6 : ((n : Int) == 0) = false := by simp; omega
      have e7 : ¬ n = 0 := by omega
      have e8 : (0 : Int) ≤ (m : Int) := by omega
      have e9 : (m : Int) < (n : Int) := by omega
      have k9 : (k : Int) < (n : Int) := by omega
      have e3' : ((k : Int) + 1) % (n : Int) = (m : Int) := by rw [← e3]; exact (Int.tmod_eq_emod_of_nonneg (by omega)).symm
      have hb8 : b < wr.heap.size := Nat.lt_of_lt_of_le hb HI.out.2.2.size
      have z1 := al1 hb8 c0
      have z2 := al1 hb8 c1
      have z3 := al1 hb8 d0
      have z4 := al1 hb8 d1
      have y1 := al2 hb8 c0
      have y2 := al2 hb8 c1
      have y3 := al2 hb8 d0
      have y4 := al2 hb8 d1
      rw [hfl]
      clear hA hB hm hx1 hx2 hsd hm1 hm2 hm3 hm4 hkl hnl hb8 hfl
      go_wp2_with fail
      go_region
      · have hx1 : BoxP ((wr.alloc (.cells #[.int .i64 a1, .int .i64 a2] 38)).alloc (.cells #[.int .i64 b1, .int .i64 b2] 38)).drew wr.heap.size (a1, a2) := ((BoxP.new wr (a1, a2)).alloc (.cells #[.int .i64 b1, .int .i64 b2] 38) : BoxP _ _ _)
        have hx2 : BoxP ((wr.alloc (.cells #[.int .i64 a1, .int .i64 a2] 38)).alloc (.cells #[.int .i64 b1, .int .i64 b2] 38)).drew (wr.heap.size + 1) (b1, b2) := by have := BoxP.new (wr.alloc (.cells #[.int .i64 a1, .int .i64 a2] 38)) (b1, b2); rw [World.size_alloc] at this; exact this
        have hx7 : Q wr ((wr.alloc (.cells #[.int .i64 a1, .int .i64 a2] 38)).alloc (.cells #[.int .i64 b1, .int .i64 b2] 38)).drew := (((Q.refl wr).alloc _).alloc _).drew
        clear c0 c1 d0 d1 z1 z2 z3 z4 y1 y2 y3 y4
        generalize ((wr.alloc (.cells #[.int .i64 a1, .int .i64 a2] 38)).alloc (.cells #[.int .i64 b1, .int .i64 b2] 38)).drew = V0 at hx1 hx2 hx7 ⊢
        generalize wr.heap.size + 1 = g2 at hx2 ⊢
        generalize wr.heap.size = g1 at hx1 ⊢
        have HB1 := Lib.hid hx1
        have HB2 := Lib.hid hx2
        have HB3 := Lib.hid (HI.out.2.1.q hx7)
        have HQ0 := Lib.hid (HI.out.2.2.trans hx7)
        clear hx1 hx2 hx7
        have c0 := (HB3.out.q (Q.refl V0)).c0
        have c1 := (HB3.out.q (Q.refl V0)).c1
        have d0 := (HB1.out.q (Q.refl V0)).c0
        have d1 := (HB1.out.q (Q.refl V0)).c1
        have e0 := (HB2.out.q (Q.refl V0)).c0
        have e1 := (HB2.out.q (Q.refl V0)).c1
        dsimp only at c0 c1 d0 d1 e0 e1
        go_wp2_with fail
        refine (rCross_c (a1, a2) (b1, b2) (qx, qy) sd HSD HX1.out HX2.out HIQ.out _).mono ?_
        rintro E V1 ⟨rfl, hqV1⟩
        have HQV1 := Lib.hid (show Q V0 V1 from hqV1)
        clear hqV1
        clear c0 c1 d0 d1 e0 e1
        have c0 := (HB3.out.q HQV1.out).c0
        have c1 := (HB3.out.q HQV1.out).c1
        have d0 := (HB1.out.q HQV1.out).c0
        have d1 := (HB1.out.q HQV1.out).c1
        have e0 := (HB2.out.q HQV1.out).c0
        have e1 := (HB2.out.q HQV1.out).c1
        dsimp only at c0 c1 d0 d1 e0 e1
        rcases Int.lt_trichotomy sd 0 with hs | hs | hs
        · have hz : (sd == 0) = false := by simp; omega
          have HON := Lib.hid (show onE (a1, a2) (b1, b2) (qx, qy) = false by unfold onE; rw [HSD.out, decide_eq_false (by omega)]; rfl)
          by_cases p1 : a2 ≤ qy
          · by_cases p2 : qy < b2
            · have p3 : ¬ b2 ≤ qy := by omega
              as_aux_lemma =>
                have n0 : decide (b2 ≤ qy) = false := decide_eq_false (by omega)
                have n1 : decide (0 < sd) = false := decide_eq_false (by omega)
                have HF := Lib.hid (show flp (a1, a2) (b1, b2) (qx, qy) = false by rw [flp_eq HSD.out]; simp; omega)
                go_wp2_with fail
                refine (rCross_c (a1, a2) (b1, b2) (qx, qy) sd HSD HX1.out HX2.out HIQ.out _).mono ?_
                rintro E V2 ⟨rfl, hqV2⟩
                have HQV2 := Lib.hid (show Q V0 V2 from HQV1.out.trans hqV2)
                clear hqV2
                clear c0 c1 d0 d1 e0 e1
                have c0 := (HB3.out.q HQV2.out).c0
                have c1 := (HB3.out.q HQV2.out).c1
                have d0 := (HB1.out.q HQV2.out).c0
                have d1 := (HB1.out.q HQV2.out).c1
                have e0 := (HB2.out.q HQV2.out).c0
                have e1 := (HB2.out.q HQV2.out).c1
                dsimp only at c0 c1 d0 d1 e0 e1
                go_wp2_with fail
                go_roundw
                case rel => exact ⟨k + 1, by omega, by go_num, by rw [par_no HF.out HGA.out HGB.out, HFL.out], Lib.hid ⟨no_next HI.out.1 HGA.out HGB.out HON.out, HB3.out.q HQV2.out, HQ0.out.trans HQV2.out⟩⟩
                case measure => simp [intOf] <;> omega
            · have p3 : b2 ≤ qy := by omega
              have p4 : ¬ qy < a2 := by omega
              as_aux_lemma =>
                have n0 : decide (qy < b2) = false := decide_eq_false (by omega)
                have n1 : decide (qy < a2) = false := decide_eq_false (by omega)
                have n2 : decide (0 < sd) = false := decide_eq_false (by omega)
                have HF := Lib.hid (show flp (a1, a2) (b1, b2) (qx, qy) = false by rw [flp_eq HSD.out]; simp; omega)
                go_wp2_with fail
                go_roundw
                case rel => exact ⟨k + 1, by omega, by go_num, by rw [par_no HF.out HGA.out HGB.out, HFL.out], Lib.hid ⟨no_next HI.out.1 HGA.out HGB.out HON.out, HB3.out.q HQV1.out, HQ0.out.trans HQV1.out⟩⟩
                case measure => simp [intOf] <;> omega
          · by_cases p2 : b2 ≤ qy
            · have p3 : qy < a2 := by omega
              as_aux_lemma =>
                have n0 : decide (a2 ≤ qy) = false := decide_eq_false (by omega)
                have n1 : decide (0 < sd) = false := decide_eq_false (by omega)
                have HF := Lib.hid (show flp (a1, a2) (b1, b2) (qx, qy) = true by rw [flp_eq HSD.out]; simp; omega)
                go_wp2_with fail
                refine (rCross_c (a1, a2) (b1, b2) (qx, qy) sd HSD HX1.out HX2.out HIQ.out _).mono ?_
                rintro E V2 ⟨rfl, hqV2⟩
                have HQV2 := Lib.hid (show Q V0 V2 from HQV1.out.trans hqV2)
                clear hqV2
                clear c0 c1 d0 d1 e0 e1
                have c0 := (HB3.out.q HQV2.out).c0
                have c1 := (HB3.out.q HQV2.out).c1
                have d0 := (HB1.out.q HQV2.out).c0
                have d1 := (HB1.out.q HQV2.out).c1
                have e0 := (HB2.out.q HQV2.out).c0
                have e1 := (HB2.out.q HQV2.out).c1
                dsimp only at c0 c1 d0 d1 e0 e1
                go_wp2_with fail
                go_roundw
                case rel => exact ⟨k + 1, by omega, by go_num, by rw [par_yes HF.out HGA.out HGB.out, HFL.out], Lib.hid ⟨no_next HI.out.1 HGA.out HGB.out HON.out, HB3.out.q HQV2.out, HQ0.out.trans HQV2.out⟩⟩
                case measure => simp [intOf] <;> omega
            · have p3 : qy < a2 := by omega
              have p4 : qy < b2 := by omega
              as_aux_lemma =>
                have n0 : decide (a2 ≤ qy) = false := decide_eq_false (by omega)
                have n1 : decide (b2 ≤ qy) = false := decide_eq_false (by omega)
                have n2 : decide (0 < sd) = false := decide_eq_false (by omega)
                have HF := Lib.hid (show flp (a1, a2) (b1, b2) (qx, qy) = false by rw [flp_eq HSD.out]; simp; omega)
                go_wp2_with fail
                go_roundw
                case rel => exact ⟨k + 1, by omega, by go_num, by rw [par_no HF.out HGA.out HGB.out, HFL.out], Lib.hid ⟨no_next HI.out.1 HGA.out HGB.out HON.out, HB3.out.q HQV1.out, HQ0.out.trans HQV1.out⟩⟩
                case measure => simp [intOf] <;> omega
        · have hz : (sd == 0) = true := by simp [hs]
          by_cases h0 : m1 ≤ qx
          rotate_left
          · have h0' : decide (m1 ≤ qx) = false := decide_eq_false h0
            have HON := Lib.hid (show onE (a1, a2) (b1, b2) (qx, qy) = false by unfold onE inB; dsimp only; rw [HM1.out, HM2.out, HM3.out, HM4.out, h0']; simp)
            by_cases p1 : a2 ≤ qy
            · by_cases p2 : qy < b2
              · have p3 : ¬ b2 ≤ qy := by omega
                as_aux_lemma =>
                  have n0 : decide (b2 ≤ qy) = false := decide_eq_false (by omega)
                  have n1 : decide (0 < sd) = false := decide_eq_false (by omega)
                  have n2 : decide (sd < 0) = false := decide_eq_false (by omega)
                  have HF := Lib.hid (show flp (a1, a2) (b1, b2) (qx, qy) = false by rw [flp_eq HSD.out]; simp; omega)
                  go_wp2_with fail
                  refine (rCross_c (a1, a2) (b1, b2) (qx, qy) sd HSD HX1.out HX2.out HIQ.out _).mono ?_
                  rintro E V2 ⟨rfl, hqV2⟩
                  have HQV2 := Lib.hid (show Q V0 V2 from HQV1.out.trans hqV2)
                  clear hqV2
                  clear c0 c1 d0 d1 e0 e1
                  have c0 := (HB3.out.q HQV2.out).c0
                  have c1 := (HB3.out.q HQV2.out).c1
                  have d0 := (HB1.out.q HQV2.out).c0
                  have d1 := (HB1.out.q HQV2.out).c1
                  have e0 := (HB2.out.q HQV2.out).c0
                  have e1 := (HB2.out.q HQV2.out).c1
                  dsimp only at c0 c1 d0 d1 e0 e1
                  go_wp2_with fail
                  go_roundw
                  case rel => exact ⟨k + 1, by omega, by go_num, by rw [par_no HF.out HGA.out HGB.out, HFL.out], Lib.hid ⟨no_next HI.out.1 HGA.out HGB.out HON.out, HB3.out.q HQV2.out, HQ0.out.trans HQV2.out⟩⟩
                  case measure => simp [intOf] <;> omega
              · have p3 : b2 ≤ qy := by omega
                have p4 : ¬ qy < a2 := by omega
                as_aux_lemma =>
                  have n0 : decide (qy < b2) = false := decide_eq_false (by omega)
                  have n1 : decide (qy < a2) = false := decide_eq_false (by omega)
                  have n2 : decide (0 < sd) = false := decide_eq_false (by omega)
                  have n3 : decide (sd < 0) = false := decide_eq_false (by omega)
                  have HF := Lib.hid (show flp (a1, a2) (b1, b2) (qx, qy) = false by rw [flp_eq HSD.out]; simp; omega)
                  go_wp2_with fail
                  go_roundw
                  case rel => exact ⟨k + 1, by omega, by go_num, by rw [par_no HF.out HGA.out HGB.out, HFL.out], Lib.hid ⟨no_next HI.out.1 HGA.out HGB.out HON.out, HB3.out.q HQV1.out, HQ0.out.trans HQV1.out⟩⟩
                  case measure => simp [intOf] <;> omega
            · by_cases p2 : b2 ≤ qy
              · have p3 : qy < a2 := by omega
                as_aux_lemma =>
                  have n0 : decide (a2 ≤ qy) = false := decide_eq_false (by omega)
                  have n1 : decide (0 < sd) = false := decide_eq_false (by omega)
                  have n2 : decide (sd < 0) = false := decide_eq_false (by omega)
                  have HF := Lib.hid (show flp (a1, a2) (b1, b2) (qx, qy) = false by rw [flp_eq HSD.out]; simp; omega)
                  go_wp2_with fail
                  refine (rCross_c (a1, a2) (b1, b2) (qx, qy) sd HSD HX1.out HX2.out HIQ.out _).mono ?_
                  rintro E V2 ⟨rfl, hqV2⟩
                  have HQV2 := Lib.hid (show Q V0 V2 from HQV1.out.trans hqV2)
                  clear hqV2
                  clear c0 c1 d0 d1 e0 e1
                  have c0 := (HB3.out.q HQV2.out).c0
                  have c1 := (HB3.out.q HQV2.out).c1
                  have d0 := (HB1.out.q HQV2.out).c0
                  have d1 := (HB1.out.q HQV2.out).c1
                  have e0 := (HB2.out.q HQV2.out).c0
                  have e1 := (HB2.out.q HQV2.out).c1
                  dsimp only at c0 c1 d0 d1 e0 e1
                  go_wp2_with fail
                  go_roundw
                  case rel => exact ⟨k + 1, by omega, by go_num, by rw [par_no HF.out HGA.out HGB.out, HFL.out], Lib.hid ⟨no_next HI.out.1 HGA.out HGB.out HON.out, HB3.out.q HQV2.out, HQ0.out.trans HQV2.out⟩⟩
                  case measure => simp [intOf] <;> omega
              · have p3 : qy < a2 := by omega
                have p4 : qy < b2 := by omega
                as_aux_lemma =>
                  have n0 : decide (a2 ≤ qy) = false := decide_eq_false (by omega)
                  have n1 : decide (b2 ≤ qy) = false := decide_eq_false (by omega)
                  have n2 : decide (0 < sd) = false := decide_eq_false (by omega)
                  have n3 : decide (sd < 0) = false := decide_eq_false (by omega)
                  have HF := Lib.hid (show flp (a1, a2) (b1, b2) (qx, qy) = false by rw [flp_eq HSD.out]; simp; omega)
                  go_wp2_with fail
                  go_roundw
                  case rel => exact ⟨k + 1, by omega, by go_num, by rw [par_no HF.out HGA.out HGB.out, HFL.out], Lib.hid ⟨no_next HI.out.1 HGA.out HGB.out HON.out, HB3.out.q HQV1.out, HQ0.out.trans HQV1.out⟩⟩
                  case measure => simp [intOf] <;> omega
          by_cases h1 : qx ≤ m2
          rotate_left
          · have h1' : decide (qx ≤ m2) = false := decide_eq_false h1
            have HON := Lib.hid (show onE (a1, a2) (b1, b2) (qx, qy) = false by unfold onE inB; dsimp only; rw [HM1.out, HM2.out, HM3.out, HM4.out, h1']; simp)
            by_cases p1 : a2 ≤ qy
            · by_cases p2 : qy < b2
              · have p3 : ¬ b2 ≤ qy := by omega
                as_aux_lemma =>
                  have n0 : decide (b2 ≤ qy) = false := decide_eq_false (by omega)
                  have n1 : decide (0 < sd) = false := decide_eq_false (by omega)
                  have n2 : decide (sd < 0) = false := decide_eq_false (by omega)
                  have HF := Lib.hid (show flp (a1, a2) (b1, b2) (qx, qy) = false by rw [flp_eq HSD.out]; simp; omega)
                  go_wp2_with fail
                  refine (rCross_c (a1, a2) (b1, b2) (qx, qy) sd HSD HX1.out HX2.out HIQ.out _).mono ?_
                  rintro E V2 ⟨rfl, hqV2⟩
                  have HQV2 := Lib.hid (show Q V0 V2 from HQV1.out.trans hqV2)
                  clear hqV2
                  clear c0 c1 d0 d1 e0 e1
                  have c0 := (HB3.out.q HQV2.out).c0
                  have c1 := (HB3.out.q HQV2.out).c1
                  have d0 := (HB1.out.q HQV2.out).c0
                  have d1 := (HB1.out.q HQV2.out).c1
                  have e0 := (HB2.out.q HQV2.out).c0
                  have e1 := (HB2.out.q HQV2.out).c1
                  dsimp only at c0 c1 d0 d1 e0 e1
                  go_wp2_with fail
                  go_roundw
                  case rel => exact ⟨k + 1, by omega, by go_num, by rw [par_no HF.out HGA.out HGB.out, HFL.out], Lib.hid ⟨no_next HI.out.1 HGA.out HGB.out HON.out, HB3.out.q HQV2.out, HQ0.out.trans HQV2.out⟩⟩
                  case measure => simp [intOf] <;> omega
              · have p3 : b2 ≤ qy := by omega
                have p4 : ¬ qy < a2 := by omega
                as_aux_lemma =>
                  have n0 : decide (qy < b2) = false := decide_eq_false (by omega)
                  have n1 : decide (qy < a2) = false := decide_eq_false (by omega)
                  have n2 : decide (0 < sd) = false := decide_eq_false (by omega)
                  have n3 : decide (sd < 0) = false := decide_eq_false (by omega)
                  have HF := Lib.hid (show flp (a1, a2) (b1, b2) (qx, qy) = false by rw [flp_eq HSD.out]; simp; omega)
                  go_wp2_with fail
                  go_roundw
                  case rel => exact ⟨k + 1, by omega, by go_num, by rw [par_no HF.out HGA.out HGB.out, HFL.out], Lib.hid ⟨no_next HI.out.1 HGA.out HGB.out HON.out, HB3.out.q HQV1.out, HQ0.out.trans HQV1.out⟩⟩
                  case measure => simp [intOf] <;> omega
            · by_cases p2 : b2 ≤ qy
              · have p3 : qy < a2 := by omega
                as_aux_lemma =>
                  have n0 : decide (a2 ≤ qy) = false := decide_eq_false (by omega)
                  have n1 : decide (0 < sd) = false := decide_eq_false (by omega)
                  have n2 : decide (sd < 0) = false := decide_eq_false (by omega)
                  have HF := Lib.hid (show flp (a1, a2) (b1, b2) (qx, qy) = false by rw [flp_eq HSD.out]; simp; omega)
                  go_wp2_with fail
                  refine (rCross_c (a1, a2) (b1, b2) (qx, qy) sd HSD HX1.out HX2.out HIQ.out _).mono ?_
                  rintro E V2 ⟨rfl, hqV2⟩
                  have HQV2 := Lib.hid (show Q V0 V2 from HQV1.out.trans hqV2)
                  clear hqV2
                  clear c0 c1 d0 d1 e0 e1
                  have c0 := (HB3.out.q HQV2.out).c0
                  have c1 := (HB3.out.q HQV2.out).c1
                  have d0 := (HB1.out.q HQV2.out).c0
                  have d1 := (HB1.out.q HQV2.out).c1
                  have e0 := (HB2.out.q HQV2.out).c0
                  have e1 := (HB2.out.q HQV2.out).c1
                  dsimp only at c0 c1 d0 d1 e0 e1
                  go_wp2_with fail
                  go_roundw
                  case rel => exact ⟨k + 1, by omega, by go_num, by rw [par_no HF.out HGA.out HGB.out, HFL.out], Lib.hid ⟨no_next HI.out.1 HGA.out HGB.out HON.out, HB3.out.q HQV2.out, HQ0.out.trans HQV2.out⟩⟩
                  case measure => simp [intOf] <;> omega
              · have p3 : qy < a2 := by omega
                have p4 : qy < b2 := by omega
                as_aux_lemma =>
                  have n0 : decide (a2 ≤ qy) = false := decide_eq_false (by omega)
                  have n1 : decide (b2 ≤ qy) = false := decide_eq_false (by omega)
                  have n2 : decide (0 < sd) = false := decide_eq_false (by omega)
                  have n3 : decide (sd < 0) = false := decide_eq_false (by omega)
                  have HF := Lib.hid (show flp (a1, a2) (b1, b2) (qx, qy) = false by rw [flp_eq HSD.out]; simp; omega)
                  go_wp2_with fail
                  go_roundw
                  case rel => exact ⟨k + 1, by omega, by go_num, by rw [par_no HF.out HGA.out HGB.out, HFL.out], Lib.hid ⟨no_next HI.out.1 HGA.out HGB.out HON.out, HB3.out.q HQV1.out, HQ0.out.trans HQV1.out⟩⟩
                  case measure => simp [intOf] <;> omega
          by_cases h2 : m3 ≤ qy
          rotate_left
          · have h2' : decide (m3 ≤ qy) = false := decide_eq_false h2
            have HON := Lib.hid (show onE (a1, a2) (b1, b2) (qx, qy) = false by unfold onE inB; dsimp only; rw [HM1.out, HM2.out, HM3.out, HM4.out, h2']; simp)
            by_cases p1 : a2 ≤ qy
            · by_cases p2 : qy < b2
              · have p3 : ¬ b2 ≤ qy := by omega
                as_aux_lemma =>
                  have n0 : decide (b2 ≤ qy) = false := decide_eq_false (by omega)
                  have n1 : decide (0 < sd) = false := decide_eq_false (by omega)
                  have n2 : decide (sd < 0) = false := decide_eq_false (by omega)
                  have HF := Lib.hid (show flp (a1, a2) (b1, b2) (qx, qy) = false by rw [flp_eq HSD.out]; simp; omega)
                  go_wp2_with fail
                  refine (rCross_c (a1, a2) (b1, b2) (qx, qy) sd HSD HX1.out HX2.out HIQ.out _).mono ?_
                  rintro E V2 ⟨rfl, hqV2⟩
                  have HQV2 := Lib.hid (show Q V0 V2 from HQV1.out.trans hqV2)
                  clear hqV2
                  clear c0 c1 d0 d1 e0 e1
                  have c0 := (HB3.out.q HQV2.out).c0
                  have c1 := (HB3.out.q HQV2.out).c1
                  have d0 := (HB1.out.q HQV2.out).c0
                  have d1 := (HB1.out.q HQV2.out).c1
                  have e0 := (HB2.out.q HQV2.out).c0
                  have e1 := (HB2.out.q HQV2.out).c1
                  dsimp only at c0 c1 d0 d1 e0 e1
                  go_wp2_with fail
                  go_roundw
                  case rel => exact ⟨k + 1, by omega, by go_num, by rw [par_no HF.out HGA.out HGB.out, HFL.out], Lib.hid ⟨no_next HI.out.1 HGA.out HGB.out HON.out, HB3.out.q HQV2.out, HQ0.out.trans HQV2.out⟩⟩
                  case measure => simp [intOf] <;> omega
              · have p3 : b2 ≤ qy := by omega
                have p4 : ¬ qy < a2 := by omega
                as_aux_lemma =>
                  have n0 : decide (qy < b2) = false := decide_eq_false (by omega)
                  have n1 : decide (qy < a2) = false := decide_eq_false (by omega)
                  have n2 : decide (0 < sd) = false := decide_eq_false (by omega)
                  have n3 : decide (sd < 0) = false := decide_eq_false (by omega)
                  have HF := Lib.hid (show flp (a1, a2) (b1, b2) (qx, qy) = false by rw [flp_eq HSD.out]; simp; omega)
                  go_wp2_with fail
                  go_roundw
                  case rel => exact ⟨k + 1, by omega, by go_num, by rw [par_no HF.out HGA.out HGB.out, HFL.out], Lib.hid ⟨no_next HI.out.1 HGA.out HGB.out HON.out, HB3.out.q HQV1.out, HQ0.out.trans HQV1.out⟩⟩
                  case measure => simp [intOf] <;> omega
            · by_cases p2 : b2 ≤ qy
              · have p3 : qy < a2 := by omega
                as_aux_lemma =>
                  have n0 : decide (a2 ≤ qy) = false := decide_eq_false (by omega)
                  have n1 : decide (0 < sd) = false := decide_eq_false (by omega)
                  have n2 : decide (sd < 0) = false := decide_eq_false (by omega)
                  have HF := Lib.hid (show flp (a1, a2) (b1, b2) (qx, qy) = false by rw [flp_eq HSD.out]; simp; omega)
                  go_wp2_with fail
                  refine (rCross_c (a1, a2) (b1, b2) (qx, qy) sd HSD HX1.out HX2.out HIQ.out _).mono ?_
                  rintro E V2 ⟨rfl, hqV2⟩
                  have HQV2 := Lib.hid (show Q V0 V2 from HQV1.out.trans hqV2)
                  clear hqV2
                  clear c0 c1 d0 d1 e0 e1
                  have c0 := (HB3.out.q HQV2.out).c0
                  have c1 := (HB3.out.q HQV2.out).c1
                  have d0 := (HB1.out.q HQV2.out).c0
                  have d1 := (HB1.out.q HQV2.out).c1
                  have e0 := (HB2.out.q HQV2.out).c0
                  have e1 := (HB2.out.q HQV2.out).c1
                  dsimp only at c0 c1 d0 d1 e0 e1
                  go_wp2_with fail
                  go_roundw
                  case rel => exact ⟨k + 1, by omega, by go_num, by rw [par_no HF.out HGA.out HGB.out, HFL.out], Lib.hid ⟨no_next HI.out.1 HGA.out HGB.out HON.out, HB3.out.q HQV2.out, HQ0.out.trans HQV2.out⟩⟩
                  case measure => simp [intOf] <;> omega
              · have p3 : qy < a2 := by omega
                have p4 : qy < b2 := by omega
                as_aux_lemma =>
                  have n0 : decide (a2 ≤ qy) = false := decide_eq_false (by omega)
                  have n1 : decide (b2 ≤ qy) = false := decide_eq_false (by omega)
                  have n2 : decide (0 < sd) = false := decide_eq_false (by omega)
                  have n3 : decide (sd < 0) = false := decide_eq_false (by omega)
                  have HF := Lib.hid (show flp (a1, a2) (b1, b2) (qx, qy) = false by rw [flp_eq HSD.out]; simp; omega)
                  go_wp2_with fail
                  go_roundw
                  case rel => exact ⟨k + 1, by omega, by go_num, by rw [par_no HF.out HGA.out HGB.out, HFL.out], Lib.hid ⟨no_next HI.out.1 HGA.out HGB.out HON.out, HB3.out.q HQV1.out, HQ0.out.trans HQV1.out⟩⟩
                  case measure => simp [intOf] <;> omega
          by_cases h3 : qy ≤ m4
          rotate_left
          · have h3' : decide (qy ≤ m4) = false := decide_eq_false h3
            have HON := Lib.hid (show onE (a1, a2) (b1, b2) (qx, qy) = false by unfold onE inB; dsimp only; rw [HM1.out, HM2.out, HM3.out, HM4.out, h3']; simp)
            by_cases p1 : a2 ≤ qy
            · by_cases p2 : qy < b2
              · have p3 : ¬ b2 ≤ qy := by omega
                as_aux_lemma =>
                  have n0 : decide (b2 ≤ qy) = false := decide_eq_false (by omega)
                  have n1 : decide (0 < sd) = false := decide_eq_false (by omega)
                  have n2 : decide (sd < 0) = false := decide_eq_false (by omega)
                  have HF := Lib.hid (show flp (a1, a2) (b1, b2) (qx, qy) = false by rw [flp_eq HSD.out]; simp; omega)
                  go_wp2_with fail
                  refine (rCross_c (a1, a2) (b1, b2) (qx, qy) sd HSD HX1.out HX2.out HIQ.out _).mono ?_
                  rintro E V2 ⟨rfl, hqV2⟩
                  have HQV2 := Lib.hid (show Q V0 V2 from HQV1.out.trans hqV2)
                  clear hqV2
                  clear c0 c1 d0 d1 e0 e1
                  have c0 := (HB3.out.q HQV2.out).c0
                  have c1 := (HB3.out.q HQV2.out).c1
                  have d0 := (HB1.out.q HQV2.out).c0
                  have d1 := (HB1.out.q HQV2.out).c1
                  have e0 := (HB2.out.q HQV2.out).c0
                  have e1 := (HB2.out.q HQV2.out).c1
                  dsimp only at c0 c1 d0 d1 e0 e1
                  go_wp2_with fail
                  go_roundw
                  case rel => exact ⟨k + 1, by omega, by go_num, by rw [par_no HF.out HGA.out HGB.out, HFL.out], Lib.hid ⟨no_next HI.out.1 HGA.out HGB.out HON.out, HB3.out.q HQV2.out, HQ0.out.trans HQV2.out⟩⟩
                  case measure => simp [intOf] <;> omega
              · have p3 : b2 ≤ qy := by omega
                have p4 : ¬ qy < a2 := by omega
                as_aux_lemma =>
                  have n0 : decide (qy < b2) = false := decide_eq_false (by omega)
                  have n1 : decide (qy < a2) = false := decide_eq_false (by omega)
                  have n2 : decide (0 < sd) = false := decide_eq_false (by omega)
                  have n3 : decide (sd < 0) = false := decide_eq_false (by omega)
                  have HF := Lib.hid (show flp (a1, a2) (b1, b2) (qx, qy) = false by rw [flp_eq HSD.out]; simp; omega)
                  go_wp2_with fail
                  go_roundw
                  case rel => exact ⟨k + 1, by omega, by go_num, by rw [par_no HF.out HGA.out HGB.out, HFL.out], Lib.hid ⟨no_next HI.out.1 HGA.out HGB.out HON.out, HB3.out.q HQV1.out, HQ0.out.trans HQV1.out⟩⟩
                  case measure => simp [intOf] <;> omega
            · by_cases p2 : b2 ≤ qy
              · have p3 : qy < a2 := by omega
                as_aux_lemma =>
                  have n0 : decide (a2 ≤ qy) = false := decide_eq_false (by omega)
                  have n1 : decide (0 < sd) = false := decide_eq_false (by omega)
                  have n2 : decide (sd < 0) = false := decide_eq_false (by omega)
                  have HF := Lib.hid (show flp (a1, a2) (b1, b2) (qx, qy) = false by rw [flp_eq HSD.out]; simp; omega)
                  go_wp2_with fail
                  refine (rCross_c (a1, a2) (b1, b2) (qx, qy) sd HSD HX1.out HX2.out HIQ.out _).mono ?_
                  rintro E V2 ⟨rfl, hqV2⟩
                  have HQV2 := Lib.hid (show Q V0 V2 from HQV1.out.trans hqV2)
                  clear hqV2
                  clear c0 c1 d0 d1 e0 e1
                  have c0 := (HB3.out.q HQV2.out).c0
                  have c1 := (HB3.out.q HQV2.out).c1
                  have d0 := (HB1.out.q HQV2.out).c0
                  have d1 := (HB1.out.q HQV2.out).c1
                  have e0 := (HB2.out.q HQV2.out).c0
                  have e1 := (HB2.out.q HQV2.out).c1
                  dsimp only at c0 c1 d0 d1 e0 e1
                  go_wp2_with fail
                  go_roundw
                  case rel => exact ⟨k + 1, by omega, by go_num, by rw [par_no HF.out HGA.out HGB.out, HFL.out], Lib.hid ⟨no_next HI.out.1 HGA.out HGB.out HON.out, HB3.out.q HQV2.out, HQ0.out.trans HQV2.out⟩⟩
                  case measure => simp [intOf] <;> omega
              · have p3 : qy < a2 := by omega
                have p4 : qy < b2 := by omega
                as_aux_lemma =>
                  have n0 : decide (a2 ≤ qy) = false := decide_eq_false (by omega)
                  have n1 : decide (b2 ≤ qy) = false := decide_eq_false (by omega)
                  have n2 : decide (0 < sd) = false := decide_eq_false (by omega)
                  have n3 : decide (sd < 0) = false := decide_eq_false (by omega)
                  have HF := Lib.hid (show flp (a1, a2) (b1, b2) (qx, qy) = false by rw [flp_eq HSD.out]; simp; omega)
                  go_wp2_with fail
                  go_roundw
                  case rel => exact ⟨k + 1, by omega, by go_num, by rw [par_no HF.out HGA.out HGB.out, HFL.out], Lib.hid ⟨no_next HI.out.1 HGA.out HGB.out HON.out, HB3.out.q HQV1.out, HQ0.out.trans HQV1.out⟩⟩
                  case measure => simp [intOf] <;> omega
          have HON := Lib.hid (show onE (a1, a2) (b1, b2) (qx, qy) = true by unfold onE inB; dsimp only; rw [HM1.out, HM2.out, HM3.out, HM4.out, HSD.out, decide_eq_true hs, decide_eq_true h0, decide_eq_true h1, decide_eq_true h2, decide_eq_true h3]; rfl)
          have HE := Lib.hid (show true = r by rw [← h.out]; exact (has_at hc.out hq.out HKL.out HGA.out HGB.out HON.out).symm)
          go_wp2_with fail
          go_ret
          exact ⟨ret_bool HE.out, HQ0.out.trans HQV1.out⟩
        · have hz : (sd == 0) = false := by simp; omega
          have HON := Lib.hid (show onE (a1, a2) (b1, b2) (qx, qy) = false by unfold onE; rw [HSD.out, decide_eq_false (by omega)]; rfl)
          by_cases p1 : a2 ≤ qy
          · by_cases p2 : qy < b2
            · have p3 : ¬ b2 ≤ qy := by omega
              as_aux_lemma =>
                have n0 : decide (b2 ≤ qy) = false := decide_eq_false (by omega)
                have n1 : decide (sd < 0) = false := decide_eq_false (by omega)
                have HF := Lib.hid (show flp (a1, a2) (b1, b2) (qx, qy) = true by rw [flp_eq HSD.out]; simp; omega)
                go_wp2_with fail
                refine (rCross_c (a1, a2) (b1, b2) (qx, qy) sd HSD HX1.out HX2.out HIQ.out _).mono ?_
                rintro E V2 ⟨rfl, hqV2⟩
                have HQV2 := Lib.hid (show Q V0 V2 from HQV1.out.trans hqV2)
                clear hqV2
                clear c0 c1 d0 d1 e0 e1
                have c0 := (HB3.out.q HQV2.out).c0
                have c1 := (HB3.out.q HQV2.out).c1
                have d0 := (HB1.out.q HQV2.out).c0
                have d1 := (HB1.out.q HQV2.out).c1
                have e0 := (HB2.out.q HQV2.out).c0
                have e1 := (HB2.out.q HQV2.out).c1
                dsimp only at c0 c1 d0 d1 e0 e1
                go_wp2_with fail
                go_roundw
                case rel => exact ⟨k + 1, by omega, by go_num, by rw [par_yes HF.out HGA.out HGB.out, HFL.out], Lib.hid ⟨no_next HI.out.1 HGA.out HGB.out HON.out, HB3.out.q HQV2.out, HQ0.out.trans HQV2.out⟩⟩
                case measure => simp [intOf] <;> omega
            · have p3 : b2 ≤ qy := by omega
              have p4 : ¬ qy < a2 := by omega
              as_aux_lemma =>
                have n0 : decide (qy < b2) = false := decide_eq_false (by omega)
                have n1 : decide (qy < a2) = false := decide_eq_false (by omega)
                have n2 : decide (sd < 0) = false := decide_eq_false (by omega)
                have HF := Lib.hid (show flp (a1, a2) (b1, b2) (qx, qy) = false by rw [flp_eq HSD.out]; simp; omega)
                go_wp2_with fail
                go_roundw
                case rel => exact ⟨k + 1, by omega, by go_num, by rw [par_no HF.out HGA.out HGB.out, HFL.out], Lib.hid ⟨no_next HI.out.1 HGA.out HGB.out HON.out, HB3.out.q HQV1.out, HQ0.out.trans HQV1.out⟩⟩
                case measure => simp [intOf] <;> omega
          · by_cases p2 : b2 ≤ qy
            · have p3 : qy < a2 := by omega
              as_aux_lemma =>
                have n0 : decide (a2 ≤ qy) = false := decide_eq_false (by omega)
                have n1 : decide (sd < 0) = false := decide_eq_false (by omega)
                have HF := Lib.hid (show flp (a1, a2) (b1, b2) (qx, qy) = false by rw [flp_eq HSD.out]; simp; omega)
                go_wp2_with fail
                refine (rCross_c (a1, a2) (b1, b2) (qx, qy) sd HSD HX1.out HX2.out HIQ.out _).mono ?_
                rintro E V2 ⟨rfl, hqV2⟩
                have HQV2 := Lib.hid (show Q V0 V2 from HQV1.out.trans hqV2)
                clear hqV2
                clear c0 c1 d0 d1 e0 e1
                have c0 := (HB3.out.q HQV2.out).c0
                have c1 := (HB3.out.q HQV2.out).c1
                have d0 := (HB1.out.q HQV2.out).c0
                have d1 := (HB1.out.q HQV2.out).c1
                have e0 := (HB2.out.q HQV2.out).c0
                have e1 := (HB2.out.q HQV2.out).c1
                dsimp only at c0 c1 d0 d1 e0 e1
                go_wp2_with fail
                go_roundw
                case rel => exact ⟨k + 1, by omega, by go_num, by rw [par_no HF.out HGA.out HGB.out, HFL.out], Lib.hid ⟨no_next HI.out.1 HGA.out HGB.out HON.out, HB3.out.q HQV2.out, HQ0.out.trans HQV2.out⟩⟩
                case measure => simp [intOf] <;> omega
            · have p3 : qy < a2 := by omega
              have p4 : qy < b2 := by omega
              as_aux_lemma =>
                have n0 : decide (a2 ≤ qy) = false := decide_eq_false (by omega)
                have n1 : decide (b2 ≤ qy) = false := decide_eq_false (by omega)
                have n2 : decide (sd < 0) = false := decide_eq_false (by omega)
                have HF := Lib.hid (show flp (a1, a2) (b1, b2) (qx, qy) = false by rw [flp_eq HSD.out]; simp; omega)
                go_wp2_with fail
                go_roundw
                case rel => exact ⟨k + 1, by omega, by go_num, by rw [par_no HF.out HGA.out HGB.out, HFL.out], Lib.hid ⟨no_next HI.out.1 HGA.out HGB.out HON.out, HB3.out.q HQV1.out, HQ0.out.trans HQV1.out⟩⟩
                case measure => simp [intOf] <;> omega
      · have hx1 : BoxP ((wr.alloc (.cells #[.int .i64 b1, .int .i64 b2] 38)).alloc (.cells #[.int .i64 a1, .int .i64 a2] 38)).drew wr.heap.size (b1, b2) := ((BoxP.new wr (b1, b2)).alloc (.cells #[.int .i64 a1, .int .i64 a2] 38) : BoxP _ _ _)
        have hx2 : BoxP ((wr.alloc (.cells #[.int .i64 b1, .int .i64 b2] 38)).alloc (.cells #[.int .i64 a1, .int .i64 a2] 38)).drew (wr.heap.size + 1) (a1, a2) := by have := BoxP.new (wr.alloc (.cells #[.int .i64 b1, .int .i64 b2] 38)) (a1, a2); rw [World.size_alloc] at this; exact this
        have hx7 : Q wr ((wr.alloc (.cells #[.int .i64 b1, .int .i64 b2] 38)).alloc (.cells #[.int .i64 a1, .int .i64 a2] 38)).drew := (((Q.refl wr).alloc _).alloc _).drew
        clear c0 c1 d0 d1 z1 z2 z3 z4 y1 y2 y3 y4
        generalize ((wr.alloc (.cells #[.int .i64 b1, .int .i64 b2] 38)).alloc (.cells #[.int .i64 a1, .int .i64 a2] 38)).drew = V0 at hx1 hx2 hx7 ⊢
        generalize wr.heap.size + 1 = g2 at hx2 ⊢
        generalize wr.heap.size = g1 at hx1 ⊢
        have HB2 := Lib.hid hx1
        have HB1 := Lib.hid hx2
        have HB3 := Lib.hid (HI.out.2.1.q hx7)
        have HQ0 := Lib.hid (HI.out.2.2.trans hx7)
        clear hx1 hx2 hx7
        have c0 := (HB3.out.q (Q.refl V0)).c0
        have c1 := (HB3.out.q (Q.refl V0)).c1
        have d0 := (HB1.out.q (Q.refl V0)).c0
        have d1 := (HB1.out.q (Q.refl V0)).c1
        have e0 := (HB2.out.q (Q.refl V0)).c0
        have e1 := (HB2.out.q (Q.refl V0)).c1
        dsimp only at c0 c1 d0 d1 e0 e1
        go_wp2_with fail
        refine (rCross_c (a1, a2) (b1, b2) (qx, qy) sd HSD HX1.out HX2.out HIQ.out _).mono ?_
        rintro E V1 ⟨rfl, hqV1⟩
        have HQV1 := Lib.hid (show Q V0 V1 from hqV1)
        clear hqV1
        clear c0 c1 d0 d1 e0 e1
        have c0 := (HB3.out.q HQV1.out).c0
        have c1 := (HB3.out.q HQV1.out).c1
        have d0 := (HB1.out.q HQV1.out).c0
        have d1 := (HB1.out.q HQV1.out).c1
        have e0 := (HB2.out.q HQV1.out).c0
        have e1 := (HB2.out.q HQV1.out).c1
        dsimp only at c0 c1 d0 d1 e0 e1
        rcases Int.lt_trichotomy sd 0 with hs | hs | hs
        · have hz : (sd == 0) = false := by simp; omega
          have HON := Lib.hid (show onE (a1, a2) (b1, b2) (qx, qy) = false by unfold onE; rw [HSD.out, decide_eq_false (by omega)]; rfl)
          by_cases p1 : a2 ≤ qy
          · by_cases p2 : qy < b2
            · have p3 : ¬ b2 ≤ qy := by omega
              as_aux_lemma =>
                have n0 : decide (b2 ≤ qy) = false := decide_eq_false (by omega)
                have n1 : decide (0 < sd) = false := decide_eq_false (by omega)
                have HF := Lib.hid (show flp (a1, a2) (b1, b2) (qx, qy) = false by rw [flp_eq HSD.out]; simp; omega)
                go_wp2_with fail
                refine (rCross_c (a1, a2) (b1, b2) (qx, qy) sd HSD HX1.out HX2.out HIQ.out _).mono ?_
                rintro E V2 ⟨rfl, hqV2⟩
                have HQV2 := Lib.hid (show Q V0 V2 from HQV1.out.trans hqV2)
                clear hqV2
                clear c0 c1 d0 d1 e0 e1
                have c0 := (HB3.out.q HQV2.out).c0
                have c1 := (HB3.out.q HQV2.out).c1
                have d0 := (HB1.out.q HQV2.out).c0
                have d1 := (HB1.out.q HQV2.out).c1
                have e0 := (HB2.out.q HQV2.out).c0
                have e1 := (HB2.out.q HQV2.out).c1
                dsimp only at c0 c1 d0 d1 e0 e1
                go_wp2_with fail
                go_roundw
                case rel => exact ⟨k + 1, by omega, by go_num, by rw [par_no HF.out HGA.out HGB.out, HFL.out], Lib.hid ⟨no_next HI.out.1 HGA.out HGB.out HON.out, HB3.out.q HQV2.out, HQ0.out.trans HQV2.out⟩⟩
                case measure => simp [intOf] <;> omega
            · have p3 : b2 ≤ qy := by omega
              have p4 : ¬ qy < a2 := by omega
              as_aux_lemma =>
                have n0 : decide (qy < b2) = false := decide_eq_false (by omega)
                have n1 : decide (qy < a2) = false := decide_eq_false (by omega)
                have n2 : decide (0 < sd) = false := decide_eq_false (by omega)
                have HF := Lib.hid (show flp (a1, a2) (b1, b2) (qx, qy) = false by rw [flp_eq HSD.out]; simp; omega)
                go_wp2_with fail
                go_roundw
                case rel => exact ⟨k + 1, by omega, by go_num, by rw [par_no HF.out HGA.out HGB.out, HFL.out], Lib.hid ⟨no_next HI.out.1 HGA.out HGB.out HON.out, HB3.out.q HQV1.out, HQ0.out.trans HQV1.out⟩⟩
                case measure => simp [intOf] <;> omega
          · by_cases p2 : b2 ≤ qy
            · have p3 : qy < a2 := by omega
              as_aux_lemma =>
                have n0 : decide (a2 ≤ qy) = false := decide_eq_false (by omega)
                have n1 : decide (0 < sd) = false := decide_eq_false (by omega)
                have HF := Lib.hid (show flp (a1, a2) (b1, b2) (qx, qy) = true by rw [flp_eq HSD.out]; simp; omega)
                go_wp2_with fail
                refine (rCross_c (a1, a2) (b1, b2) (qx, qy) sd HSD HX1.out HX2.out HIQ.out _).mono ?_
                rintro E V2 ⟨rfl, hqV2⟩
                have HQV2 := Lib.hid (show Q V0 V2 from HQV1.out.trans hqV2)
                clear hqV2
                clear c0 c1 d0 d1 e0 e1
                have c0 := (HB3.out.q HQV2.out).c0
                have c1 := (HB3.out.q HQV2.out).c1
                have d0 := (HB1.out.q HQV2.out).c0
                have d1 := (HB1.out.q HQV2.out).c1
                have e0 := (HB2.out.q HQV2.out).c0
                have e1 := (HB2.out.q HQV2.out).c1
                dsimp only at c0 c1 d0 d1 e0 e1
                go_wp2_with fail
                go_roundw
                case rel => exact ⟨k + 1, by omega, by go_num, by rw [par_yes HF.out HGA.out HGB.out, HFL.out], Lib.hid ⟨no_next HI.out.1 HGA.out HGB.out HON.out, HB3.out.q HQV2.out, HQ0.out.trans HQV2.out⟩⟩
                case measure => simp [intOf] <;> omega
            · have p3 : qy < a2 := by omega
              have p4 : qy < b2 := by omega
              as_aux_lemma =>
                have n0 : decide (a2 ≤ qy) = false := decide_eq_false (by omega)
                have n1 : decide (b2 ≤ qy) = false := decide_eq_false (by omega)
                have n2 : decide (0 < sd) = false := decide_eq_false (by omega)
                have HF := Lib.hid (show flp (a1, a2) (b1, b2) (qx, qy) = false by rw [flp_eq HSD.out]; simp; omega)
                go_wp2_with fail
                go_roundw
                case rel => exact ⟨k + 1, by omega, by go_num, by rw [par_no HF.out HGA.out HGB.out, HFL.out], Lib.hid ⟨no_next HI.out.1 HGA.out HGB.out HON.out, HB3.out.q HQV1.out, HQ0.out.trans HQV1.out⟩⟩
                case measure => simp [intOf] <;> omega
        · have hz : (sd == 0) = true := by simp [hs]
          by_cases h0 : m1 ≤ qx
          rotate_left
          · have h0' : decide (m1 ≤ qx) = false := decide_eq_false h0
            have HON := Lib.hid (show onE (a1, a2) (b1, b2) (qx, qy) = false by unfold onE inB; dsimp only; rw [HM1.out, HM2.out, HM3.out, HM4.out, h0']; simp)
            by_cases p1 : a2 ≤ qy
            · by_cases p2 : qy < b2
              · have p3 : ¬ b2 ≤ qy := by omega
                as_aux_lemma =>
                  have n0 : decide (b2 ≤ qy) = false := decide_eq_false (by omega)
                  have n1 : decide (0 < sd) = false := decide_eq_false (by omega)
                  have n2 : decide (sd < 0) = false := decide_eq_false (by omega)
                  have HF := Lib.hid (show flp (a1, a2) (b1, b2) (qx, qy) = false by rw [flp_eq HSD.out]; simp; omega)
                  go_wp2_with fail
                  refine (rCross_c (a1, a2) (b1, b2) (qx, qy) sd HSD HX1.out HX2.out HIQ.out _).mono ?_
                  rintro E V2 ⟨rfl, hqV2⟩
                  have HQV2 := Lib.hid (show Q V0 V2 from HQV1.out.trans hqV2)
                  clear hqV2
                  clear c0 c1 d0 d1 e0 e1
                  have c0 := (HB3.out.q HQV2.out).c0
                  have c1 := (HB3.out.q HQV2.out).c1
                  have d0 := (HB1.out.q HQV2.out).c0
                  have d1 := (HB1.out.q HQV2.out).c1
                  have e0 := (HB2.out.q HQV2.out).c0
                  have e1 := (HB2.out.q HQV2.out).c1
                  dsimp only at c0 c1 d0 d1 e0 e1
                  go_wp2_with fail
                  go_roundw
                  case rel => exact ⟨k + 1, by omega, by go_num, by rw [par_no HF.out HGA.out HGB.out, HFL.out], Lib.hid ⟨no_next HI.out.1 HGA.out HGB.out HON.out, HB3.out.q HQV2.out, HQ0.out.trans HQV2.out⟩⟩
                  case measure => simp [intOf] <;> omega
              · have p3 : b2 ≤ qy := by omega
                have p4 : ¬ qy < a2 := by omega
                as_aux_lemma =>
                  have n0 : decide (qy < b2) = false := decide_eq_false (by omega)
                  have n1 : decide (qy < a2) = false := decide_eq_false (by omega)
                  have n2 : decide (0 < sd) = false := decide_eq_false (by omega)
                  have n3 : decide (sd < 0) = false := decide_eq_false (by omega)
                  have HF := Lib.hid (show flp (a1, a2) (b1, b2) (qx, qy) = false by rw [flp_eq HSD.out]; simp; omega)
                  go_wp2_with fail
                  go_roundw
                  case rel => exact ⟨k + 1, by omega, by go_num, by rw [par_no HF.out HGA.out HGB.out, HFL.out], Lib.hid ⟨no_next HI.out.1 HGA.out HGB.out HON.out, HB3.out.q HQV1.out, HQ0.out.trans HQV1.out⟩⟩
                  case measure => simp [intOf] <;> omega
            · by_cases p2 : b2 ≤ qy
              · have p3 : qy < a2 := by omega
                as_aux_lemma =>
                  have n0 : decide (a2 ≤ qy) = false := decide_eq_false (by omega)
                  have n1 : decide (0 < sd) = false := decide_eq_false (by omega)
                  have n2 : decide (sd < 0) = false := decide_eq_false (by omega)
                  have HF := Lib.hid (show flp (a1, a2) (b1, b2) (qx, qy) = false by rw [flp_eq HSD.out]; simp; omega)
                  go_wp2_with fail
                  refine (rCross_c (a1, a2) (b1, b2) (qx, qy) sd HSD HX1.out HX2.out HIQ.out _).mono ?_
                  rintro E V2 ⟨rfl, hqV2⟩
                  have HQV2 := Lib.hid (show Q V0 V2 from HQV1.out.trans hqV2)
                  clear hqV2
                  clear c0 c1 d0 d1 e0 e1
                  have c0 := (HB3.out.q HQV2.out).c0
                  have c1 := (HB3.out.q HQV2.out).c1
                  have d0 := (HB1.out.q HQV2.out).c0
                  have d1 := (HB1.out.q HQV2.out).c1
                  have e0 := (HB2.out.q HQV2.out).c0
                  have e1 := (HB2.out.q HQV2.out).c1
                  dsimp only at c0 c1 d0 d1 e0 e1
                  go_wp2_with fail
                  go_roundw
                  case rel => exact ⟨k + 1, by omega, by go_num, by rw [par_no HF.out HGA.out HGB.out, HFL.out], Lib.hid ⟨no_next HI.out.1 HGA.out HGB.out HON.out, HB3.out.q HQV2.out, HQ0.out.trans HQV2.out⟩⟩
                  case measure => simp [intOf] <;> omega
              · have p3 : qy < a2 := by omega
                have p4 : qy < b2 := by omega
                as_aux_lemma =>
                  have n0 : decide (a2 ≤ qy) = false := decide_eq_false (by omega)
                  have n1 : decide (b2 ≤ qy) = false := decide_eq_false (by omega)
                  have n2 : decide (0 < sd) = false := decide_eq_false (by omega)
                  have n3 : decide (sd < 0) = false := decide_eq_false (by omega)
                  have HF := Lib.hid (show flp (a1, a2) (b1, b2) (qx, qy) = false by rw [flp_eq HSD.out]; simp; omega)
                  go_wp2_with fail
                  go_roundw
                  case rel => exact ⟨k + 1, by omega, by go_num, by rw [par_no HF.out HGA.out HGB.out, HFL.out], Lib.hid ⟨no_next HI.out.1 HGA.out HGB.out HON.out, HB3.out.q HQV1.out, HQ0.out.trans HQV1.out⟩⟩
                  case measure => simp [intOf] <;> omega
          by_cases h1 : qx ≤ m2
          rotate_left
          · have h1' : decide (qx ≤ m2) = false := decide_eq_false h1
            have HON := Lib.hid (show onE (a1, a2) (b1, b2) (qx, qy) = false by unfold onE inB; dsimp only; rw [HM1.out, HM2.out, HM3.out, HM4.out, h1']; simp)
            by_cases p1 : a2 ≤ qy
            · by_cases p2 : qy < b2
              · have p3 : ¬ b2 ≤ qy := by omega
                as_aux_lemma =>
                  have n0 : decide (b2 ≤ qy) = false := decide_eq_false (by omega)
                  have n1 : decide (0 < sd) = false := decide_eq_false (by omega)
                  have n2 : decide (sd < 0) = false := decide_eq_false (by omega)
                  have HF := Lib.hid (show flp (a1, a2) (b1, b2) (qx, qy) = false by rw [flp_eq HSD.out]; simp; omega)
                  go_wp2_with fail
                  refine (rCross_c (a1, a2) (b1, b2) (qx, qy) sd HSD HX1.out HX2.out HIQ.out _).mono ?_
                  rintro E V2 ⟨rfl, hqV2⟩
                  have HQV2 := Lib.hid (show Q V0 V2 from HQV1.out.trans hqV2)
                  clear hqV2
                  clear c0 c1 d0 d1 e0 e1
                  have c0 := (HB3.out.q HQV2.out).c0
                  have c1 := (HB3.out.q HQV2.out).c1
                  have d0 := (HB1.out.q HQV2.out).c0
                  have d1 := (HB1.out.q HQV2.out).c1
                  have e0 := (HB2.out.q HQV2.out).c0
                  have e1 := (HB2.out.q HQV2.out).c1
                  dsimp only at c0 c1 d0 d1 e0 e1
                  go_wp2_with fail
                  go_roundw
                  case rel => exact ⟨k + 1, by omega, by go_num, by rw [par_no HF.out HGA.out HGB.out, HFL.out], Lib.hid ⟨no_next HI.out.1 HGA.out HGB.out HON.out, HB3.out.q HQV2.out, HQ0.out.trans HQV2.out⟩⟩
                  case measure => simp [intOf] <;> omega
              · have p3 : b2 ≤ qy := by omega
                have p4 : ¬ qy < a2 := by omega
                as_aux_lemma =>
                  have n0 : decide (qy < b2) = false := decide_eq_false (by omega)
                  have n1 : decide (qy < a2) = false := decide_eq_false (by omega)
                  have n2 : decide (0 < sd) = false := decide_eq_false (by omega)
                  have n3 : decide (sd < 0) = false := decide_eq_false (by omega)
                  have HF := Lib.hid (show flp (a1, a2) (b1, b2) (qx, qy) = false by rw [flp_eq HSD.out]; simp; omega)
                  go_wp2_with fail
                  go_roundw
                  case rel => exact ⟨k + 1, by omega, by go_num, by rw [par_no HF.out HGA.out HGB.out, HFL.out], Lib.hid ⟨no_next HI.out.1 HGA.out HGB.out HON.out, HB3.out.q HQV1.out, HQ0.out.trans HQV1.out⟩⟩
                  case measure => simp [intOf] <;> omega
            · by_cases p2 : b2 ≤ qy
              · have p3 : qy < a2 := by omega
                as_aux_lemma =>
                  have n0 : decide (a2 ≤ qy) = false := decide_eq_false (by omega)
                  have n1 : decide (0 < sd) = false := decide_eq_false (by omega)
                  have n2 : decide (sd < 0) = false := decide_eq_false (by omega)
                  have HF := Lib.hid (show flp (a1, a2) (b1, b2) (qx, qy) = false by rw [flp_eq HSD.out]; simp; omega)
                  go_wp2_with fail
                  refine (rCross_c (a1, a2) (b1, b2) (qx, qy) sd HSD HX1.out HX2.out HIQ.out _).mono ?_
                  rintro E V2 ⟨rfl, hqV2⟩
                  have HQV2 := Lib.hid (show Q V0 V2 from HQV1.out.trans hqV2)
                  clear hqV2
                  clear c0 c1 d0 d1 e0 e1
                  have c0 := (HB3.out.q HQV2.out).c0
                  have c1 := (HB3.out.q HQV2.out).c1
                  have d0 := (HB1.out.q HQV2.out).c0
                  have d1 := (HB1.out.q HQV2.out).c1
                  have e0 := (HB2.out.q HQV2.out).c0
                  have e1 := (HB2.out.q HQV2.out).c1
                  dsimp only at c0 c1 d0 d1 e0 e1
                  go_wp2_with fail
                  go_roundw
                  case rel => exact ⟨k + 1, by omega, by go_num, by rw [par_no HF.out HGA.out HGB.out, HFL.out], Lib.hid ⟨no_next HI.out.1 HGA.out HGB.out HON.out, HB3.out.q HQV2.out, HQ0.out.trans HQV2.out⟩⟩
                  case measure => simp [intOf] <;> omega
              · have p3 : qy < a2 := by omega
                have p4 : qy < b2 := by omega
                as_aux_lemma =>
                  have n0 : decide (a2 ≤ qy) = false := decide_eq_false (by omega)
                  have n1 : decide (b2 ≤ qy) = false := decide_eq_false (by omega)
                  have n2 : decide (0 < sd) = false := decide_eq_false (by omega)
                  have n3 : decide (sd < 0) = false := decide_eq_false (by omega)
                  have HF := Lib.hid (show flp (a1, a2) (b1, b2) (qx, qy) = false by rw [flp_eq HSD.out]; simp; omega)
                  go_wp2_with fail
                  go_roundw
                  case rel => exact ⟨k + 1, by omega, by go_num, by rw [par_no HF.out HGA.out HGB.out, HFL.out], Lib.hid ⟨no_next HI.out.1 HGA.out HGB.out HON.out, HB3.out.q HQV1.out, HQ0.out.trans HQV1.out⟩⟩
                  case measure => simp [intOf] <;> omega
          by_cases h2 : m3 ≤ qy
          rotate_left
          · have h2' : decide (m3 ≤ qy) = false := decide_eq_false h2
            have HON := Lib.hid (show onE (a1, a2) (b1, b2) (qx, qy) = false by unfold onE inB; dsimp only; rw [HM1.out, HM2.out, HM3.out, HM4.out, h2']; simp)
            by_cases p1 : a2 ≤ qy
            · by_cases p2 : qy < b2
              · have p3 : ¬ b2 ≤ qy := by omega
                as_aux_lemma =>
                  have n0 : decide (b2 ≤ qy) = false := decide_eq_false (by omega)
                  have n1 : decide (0 < sd) = false := decide_eq_false (by omega)
                  have n2 : decide (sd < 0) = false := decide_eq_false (by omega)
                  have HF := Lib.hid (show flp (a1, a2) (b1, b2) (qx, qy) = false by rw [flp_eq HSD.out]; simp; omega)
                  go_wp2_with fail
                  refine (rCross_c (a1, a2) (b1, b2) (qx, qy) sd HSD HX1.out HX2.out HIQ.out _).mono ?_
                  rintro E V2 ⟨rfl, hqV2⟩
                  have HQV2 := Lib.hid (show Q V0 V2 from HQV1.out.trans hqV2)
                  clear hqV2
                  clear c0 c1 d0 d1 e0 e1
                  have c0 := (HB3.out.q HQV2.out).c0
                  have c1 := (HB3.out.q HQV2.out).c1
                  have d0 := (HB1.out.q HQV2.out).c0
                  have d1 := (HB1.out.q HQV2.out).c1
                  have e0 := (HB2.out.q HQV2.out).c0
                  have e1 := (HB2.out.q HQV2.out).c1
                  dsimp only at c0 c1 d0 d1 e0 e1
                  go_wp2_with fail
                  go_roundw
                  case rel => exact ⟨k + 1, by omega, by go_num, by rw [par_no HF.out HGA.out HGB.out, HFL.out], Lib.hid ⟨no_next HI.out.1 HGA.out HGB.out HON.out, HB3.out.q HQV2.out, HQ0.out.trans HQV2.out⟩⟩
                  case measure => simp [intOf] <;> omega
              · have p3 : b2 ≤ qy := by omega
                have p4 : ¬ qy < a2 := by omega
                as_aux_lemma =>
                  have n0 : decide (qy < b2) = false := decide_eq_false (by omega)
                  have n1 : decide (qy < a2) = false := decide_eq_false (by omega)
                  have n2 : decide (0 < sd) = false := decide_eq_false (by omega)
                  have n3 : decide (sd < 0) = false := decide_eq_false (by omega)
                  have HF := Lib.hid (show flp (a1, a2) (b1, b2) (qx, qy) = false by rw [flp_eq HSD.out]; simp; omega)
                  go_wp2_with fail
                  go_roundw
                  case rel => exact ⟨k + 1, by omega, by go_num, by rw [par_no HF.out HGA.out HGB.out, HFL.out], Lib.hid ⟨no_next HI.out.1 HGA.out HGB.out HON.out, HB3.out.q HQV1.out, HQ0.out.trans HQV1.out⟩⟩
                  case measure => simp [intOf] <;> omega
            · by_cases p2 : b2 ≤ qy
              · have p3 : qy < a2 := by omega
                as_aux_lemma =>
                  have n0 : decide (a2 ≤ qy) = false := decide_eq_false (by omega)
                  have n1 : decide (0 < sd) = false := decide_eq_false (by omega)
                  have n2 : decide (sd < 0) = false := decide_eq_false (by omega)
                  have HF := Lib.hid (show flp (a1, a2) (b1, b2) (qx, qy) = false by rw [flp_eq HSD.out]; simp; omega)
                  go_wp2_with fail
                  refine (rCross_c (a1, a2) (b1, b2) (qx, qy) sd HSD HX1.out HX2.out HIQ.out _).mono ?_
                  rintro E V2 ⟨rfl, hqV2⟩
                  have HQV2 := Lib.hid (show Q V0 V2 from HQV1.out.trans hqV2)
                  clear hqV2
                  clear c0 c1 d0 d1 e0 e1
                  have c0 := (HB3.out.q HQV2.out).c0
                  have c1 := (HB3.out.q HQV2.out).c1
                  have d0 := (HB1.out.q HQV2.out).c0
                  have d1 := (HB1.out.q HQV2.out).c1
                  have e0 := (HB2.out.q HQV2.out).c0
                  have e1 := (HB2.out.q HQV2.out).c1
                  dsimp only at c0 c1 d0 d1 e0 e1
                  go_wp2_with fail
                  go_roundw
                  case rel => exact ⟨k + 1, by omega, by go_num, by rw [par_no HF.out HGA.out HGB.out, HFL.out], Lib.hid ⟨no_next HI.out.1 HGA.out HGB.out HON.out, HB3.out.q HQV2.out, HQ0.out.trans HQV2.out⟩⟩
                  case measure => simp [intOf] <;> omega
              · have p3 : qy < a2 := by omega
                have p4 : qy < b2 := by omega
                as_aux_lemma =>
                  have n0 : decide (a2 ≤ qy) = false := decide_eq_false (by omega)
                  have n1 : decide (b2 ≤ qy) = false := decide_eq_false (by omega)
                  have n2 : decide (0 < sd) = false := decide_eq_false (by omega)
                  have n3 : decide (sd < 0) = false := decide_eq_false (by omega)
                  have HF := Lib.hid (show flp (a1, a2) (b1, b2) (qx, qy) = false by rw [flp_eq HSD.out]; simp; omega)
                  go_wp2_with fail
                  go_roundw
                  case rel => exact ⟨k + 1, by omega, by go_num, by rw [par_no HF.out HGA.out HGB.out, HFL.out], Lib.hid ⟨no_next HI.out.1 HGA.out HGB.out HON.out, HB3.out.q HQV1.out, HQ0.out.trans HQV1.out⟩⟩
                  case measure => simp [intOf] <;> omega
          by_cases h3 : qy ≤ m4
          rotate_left
          · have h3' : decide (qy ≤ m4) = false := decide_eq_false h3
            have HON := Lib.hid (show onE (a1, a2) (b1, b2) (qx, qy) = false by unfold onE inB; dsimp only; rw [HM1.out, HM2.out, HM3.out, HM4.out, h3']; simp)
            by_cases p1 : a2 ≤ qy
            · by_cases p2 : qy < b2
              · have p3 : ¬ b2 ≤ qy := by omega
                as_aux_lemma =>
                  have n0 : decide (b2 ≤ qy) = false := decide_eq_false (by omega)
                  have n1 : decide (0 < sd) = false := decide_eq_false (by omega)
                  have n2 : decide (sd < 0) = false := decide_eq_false (by omega)
                  have HF := Lib.hid (show flp (a1, a2) (b1, b2) (qx, qy) = false by rw [flp_eq HSD.out]; simp; omega)
                  go_wp2_with fail
                  refine (rCross_c (a1, a2) (b1, b2) (qx, qy) sd HSD HX1.out HX2.out HIQ.out _).mono ?_
                  rintro E V2 ⟨rfl, hqV2⟩
                  have HQV2 := Lib.hid (show Q V0 V2 from HQV1.out.trans hqV2)
                  clear hqV2
                  clear c0 c1 d0 d1 e0 e1
                  have c0 := (HB3.out.q HQV2.out).c0
                  have c1 := (HB3.out.q HQV2.out).c1
                  have d0 := (HB1.out.q HQV2.out).c0
                  have d1 := (HB1.out.q HQV2.out).c1
                  have e0 := (HB2.out.q HQV2.out).c0
                  have e1 := (HB2.out.q HQV2.out).c1
                  dsimp only at c0 c1 d0 d1 e0 e1
                  go_wp2_with fail
                  go_roundw
                  case rel => exact ⟨k + 1, by omega, by go_num, by rw [par_no HF.out HGA.out HGB.out, HFL.out], Lib.hid ⟨no_next HI.out.1 HGA.out HGB.out HON.out, HB3.out.q HQV2.out, HQ0.out.trans HQV2.out⟩⟩
                  case measure => simp [intOf] <;> omega
              · have p3 : b2 ≤ qy := by omega
                have p4 : ¬ qy < a2 := by omega
                as_aux_lemma =>
                  have n0 : decide (qy < b2) = false := decide_eq_false (by omega)
                  have n1 : decide (qy < a2) = false := decide_eq_false (by omega)
                  have n2 : decide (0 < sd) = false := decide_eq_false (by omega)
                  have n3 : decide (sd < 0) = false := decide_eq_false (by omega)
                  have HF := Lib.hid (show flp (a1, a2) (b1, b2) (qx, qy) = false by rw [flp_eq HSD.out]; simp; omega)
                  go_wp2_with fail
                  go_roundw
                  case rel => exact ⟨k + 1, by omega, by go_num, by rw [par_no HF.out HGA.out HGB.out, HFL.out], Lib.hid ⟨no_next HI.out.1 HGA.out HGB.out HON.out, HB3.out.q HQV1.out, HQ0.out.trans HQV1.out⟩⟩
                  case measure => simp [intOf] <;> omega
            · by_cases p2 : b2 ≤ qy
              · have p3 : qy < a2 := by omega
                as_aux_lemma =>
                  have n0 : decide (a2 ≤ qy) = false := decide_eq_false (by omega)
                  have n1 : decide (0 < sd) = false := decide_eq_false (by omega)
                  have n2 : decide (sd < 0) = false := decide_eq_false (by omega)
                  have HF := Lib.hid (show flp (a1, a2) (b1, b2) (qx, qy) = false by rw [flp_eq HSD.out]; simp; omega)
                  go_wp2_with fail
                  refine (rCross_c (a1, a2) (b1, b2) (qx, qy) sd HSD HX1.out HX2.out HIQ.out _).mono ?_
                  rintro E V2 ⟨rfl, hqV2⟩
                  have HQV2 := Lib.hid (show Q V0 V2 from HQV1.out.trans hqV2)
                  clear hqV2
                  clear c0 c1 d0 d1 e0 e1
                  have c0 := (HB3.out.q HQV2.out).c0
                  have c1 := (HB3.out.q HQV2.out).c1
                  have d0 := (HB1.out.q HQV2.out).c0
                  have d1 := (HB1.out.q HQV2.out).c1
                  have e0 := (HB2.out.q HQV2.out).c0
                  have e1 := (HB2.out.q HQV2.out).c1
                  dsimp only at c0 c1 d0 d1 e0 e1
                  go_wp2_with fail
                  go_roundw
                  case rel => exact ⟨k + 1, by omega, by go_num, by rw [par_no HF.out HGA.out HGB.out, HFL.out], Lib.hid ⟨no_next HI.out.1 HGA.out HGB.out HON.out, HB3.out.q HQV2.out, HQ0.out.trans HQV2.out⟩⟩
                  case measure => simp [intOf] <;> omega
              · have p3 : qy < a2 := by omega
                have p4 : qy < b2 := by omega
                as_aux_lemma =>
                  have n0 : decide (a2 ≤ qy) = false := decide_eq_false (by omega)
                  have n1 : decide (b2 ≤ qy) = false := decide_eq_false (by omega)
                  have n2 : decide (0 < sd) = false := decide_eq_false (by omega)
                  have n3 : decide (sd < 0) = false := decide_eq_false (by omega)
                  have HF := Lib.hid (show flp (a1, a2) (b1, b2) (qx, qy) = false by rw [flp_eq HSD.out]; simp; omega)
                  go_wp2_with fail
                  go_roundw
                  case rel => exact ⟨k + 1, by omega, by go_num, by rw [par_no HF.out HGA.out HGB.out, HFL.out], Lib.hid ⟨no_next HI.out.1 HGA.out HGB.out HON.out, HB3.out.q HQV1.out, HQ0.out.trans HQV1.out⟩⟩
                  case measure => simp [intOf] <;> omega
          have HON := Lib.hid (show onE (a1, a2) (b1, b2) (qx, qy) = true by unfold onE inB; dsimp only; rw [HM1.out, HM2.out, HM3.out, HM4.out, HSD.out, decide_eq_true hs, decide_eq_true h0, decide_eq_true h1, decide_eq_true h2, decide_eq_true h3]; rfl)
          have HE := Lib.hid (show true = r by rw [← h.out]; exact (has_at hc.out hq.out HKL.out HGA.out HGB.out HON.out).symm)
          go_wp2_with fail
          go_ret
          exact ⟨ret_bool HE.out, HQ0.out.trans HQV1.out⟩
        · have hz : (sd == 0) = false := by simp; omega
          have HON := Lib.hid (show onE (a1, a2) (b1, b2) (qx, qy) = false by unfold onE; rw [HSD.out, decide_eq_false (by omega)]; rfl)
          by_cases p1 : a2 ≤ qy
          · by_cases p2 : qy < b2
            · have p3 : ¬ b2 ≤ qy := by omega
              as_aux_lemma =>
                have n0 : decide (b2 ≤ qy) = false := decide_eq_false (by omega)
                have n1 : decide (sd < 0) = false := decide_eq_false (by omega)
                have HF := Lib.hid (show flp (a1, a2) (b1, b2) (qx, qy) = true by rw [flp_eq HSD.out]; simp; omega)
                go_wp2_with fail
                refine (rCross_c (a1, a2) (b1, b2) (qx, qy) sd HSD HX1.out HX2.out HIQ.out _).mono ?_
                rintro E V2 ⟨rfl, hqV2⟩
                have HQV2 := Lib.hid (show Q V0 V2 from HQV1.out.trans hqV2)
                clear hqV2
                clear c0 c1 d0 d1 e0 e1
                have c0 := (HB3.out.q HQV2.out).c0
                have c1 := (HB3.out.q HQV2.out).c1
                have d0 := (HB1.out.q HQV2.out).c0
                have d1 := (HB1.out.q HQV2.out).c1
                have e0 := (HB2.out.q HQV2.out).c0
                have e1 := (HB2.out.q HQV2.out).c1
                dsimp only at c0 c1 d0 d1 e0 e1
                go_wp2_with fail
                go_roundw
                case rel => exact ⟨k + 1, by omega, by go_num, by rw [par_yes HF.out HGA.out HGB.out, HFL.out], Lib.hid ⟨no_next HI.out.1 HGA.out HGB.out HON.out, HB3.out.q HQV2.out, HQ0.out.trans HQV2.out⟩⟩
                case measure => simp [intOf] <;> omega
            · have p3 : b2 ≤ qy := by omega
              have p4 : ¬ qy < a2 := by omega
              as_aux_lemma =>
                have n0 : decide (qy < b2) = false := decide_eq_false (by omega)
                have n1 : decide (qy < a2) = false := decide_eq_false (by omega)
                have n2 : decide (sd < 0) = false := decide_eq_false (by omega)
                have HF := Lib.hid (show flp (a1, a2) (b1, b2) (qx, qy) = false by rw [flp_eq HSD.out]; simp; omega)
                go_wp2_with fail
                go_roundw
                case rel => exact ⟨k + 1, by omega, by go_num, by rw [par_no HF.out HGA.out HGB.out, HFL.out], Lib.hid ⟨no_next HI.out.1 HGA.out HGB.out HON.out, HB3.out.q HQV1.out, HQ0.out.trans HQV1.out⟩⟩
                case measure => simp [intOf] <;> omega
          · by_cases p2 : b2 ≤ qy
            · have p3 : qy < a2 := by omega
              as_aux_lemma =>
                have n0 : decide (a2 ≤ qy) = false := decide_eq_false (by omega)
                have n1 : decide (sd < 0) = false := decide_eq_false (by omega)
                have HF := Lib.hid (show flp (a1, a2) (b1, b2) (qx, qy) = false by rw [flp_eq HSD.out]; simp; omega)
                go_wp2_with fail
                refine (rCross_c (a1, a2) (b1, b2) (qx, qy) sd HSD HX1.out HX2.out HIQ.out _).mono ?_
                rintro E V2 ⟨rfl, hqV2⟩
                have HQV2 := Lib.hid (show Q V0 V2 from HQV1.out.trans hqV2)
                clear hqV2
                clear c0 c1 d0 d1 e0 e1
                have c0 := (HB3.out.q HQV2.out).c0
                have c1 := (HB3.out.q HQV2.out).c1
                have d0 := (HB1.out.q HQV2.out).c0
                have d1 := (HB1.out.q HQV2.out).c1
                have e0 := (HB2.out.q HQV2.out).c0
                have e1 := (HB2.out.q HQV2.out).c1
                dsimp only at c0 c1 d0 d1 e0 e1
                go_wp2_with fail
                go_roundw
                case rel => exact ⟨k + 1, by omega, by go_num, by rw [par_no HF.out HGA.out HGB.out, HFL.out], Lib.hid ⟨no_next HI.out.1 HGA.out HGB.out HON.out, HB3.out.q HQV2.out, HQ0.out.trans HQV2.out⟩⟩
                case measure => simp [intOf] <;> omega
            · have p3 : qy < a2 := by omega
              have p4 : qy < b2 := by omega
              as_aux_lemma =>
                have n0 : decide (a2 ≤ qy) = false := decide_eq_false (by omega)
                have n1 : decide (b2 ≤ qy) = false := decide_eq_false (by omega)
                have n2 : decide (sd < 0) = false := decide_eq_false (by omega)
                have HF := Lib.hid (show flp (a1, a2) (b1, b2) (qx, qy) = false by rw [flp_eq HSD.out]; simp; omega)
                go_wp2_with fail
                go_roundw
                case rel => exact ⟨k + 1, by omega, by go_num, by rw [par_no HF.out HGA.out HGB.out, HFL.out], Lib.hid ⟨no_next HI.out.1 HGA.out HGB.out HON.out, HB3.out.q HQV1.out, HQ0.out.trans HQV1.out⟩⟩
                case measure => simp [intOf] <;> omega
    · obtain rfl : k = n := by omega
      have HE := Lib.hid (show flF l (qx, qy) k = r by rw [← h.out, has_all hc.out hq.out (by rw [HN.out]; exact HI.out.1), HN.out])
      go_wp2_with fail
      go_ret
      exact ⟨ret_bool HE.out, HI.out.2.2⟩
set_option maxRecDepth 100000 in
set_option maxHeartbeats 1600000 in
theorem rHas_c (v : Value) (l : List P) (q : P) (r : Bool) (h : Hid (has l q = r)) (w : World) (hr : RdP w v l) (hl : l.length ≤ maxLen) : Calls Try.prog 26 #[v, pv q] w fun e w' => e = .returned (.bool r) ∧ Q w w' := by
  obtain ⟨e, he⟩ : ∃ e, chk l = e := ⟨_, rfl⟩
  obtain ⟨i, hi⟩ : ∃ i, inP q = i := ⟨_, rfl⟩
  have HR := Lib.hid hr
  have HL := Lib.hid hl
  have HE := Lib.hid he
  by_cases h0 : e = 0
  · subst h0
    cases i with
    | true => exact rHas_in v l q r h HE (Lib.hid hi) w hr
    | false =>
      have HI := Lib.hid hi
      obtain rfl : r = false := by rw [← h.out]; exact has_far hi
      obtain ⟨A, c, rfl, _⟩ := hr
      obtain ⟨qx, qy⟩ := q
      unfold pv
      dsimp only
      clear he hi hl h
      go_enter Try.func26, Try.ntmps26
      go_wp2_with fail
      refine (rCheck_c _ l 0 HE _ (RdG.q HR.out ((Q.refl w).alloc _)) HL.out).mono ?_; rintro E w1 ⟨rfl, hq1⟩
      have hb1 := (BoxP.new w (qx, qy)).q hq1
      have c0 := hb1.c0
      have c1 := hb1.c1
      dsimp only at c0 c1
      have HQ1 := Lib.hid (((Q.refl w).alloc _).trans hq1)
      clear hq1 hb1
      go_wp2_with fail
      refine (rRanged_c _ [(qx, qy)] false (Lib.hid (by rw [rng_one]; exact HI.out)) _ (one_rd w1 (qx, qy)) (show 1 ≤ maxLen by decide)).mono ?_; rintro E w2 ⟨rfl, rfl⟩
      go_wp2_with fail
      go_ret
      exact ⟨rfl, HQ1.out.alloc _⟩
  · obtain rfl : r = false := by rw [← h.out]; exact has_bad (by rw [he]; exact h0)
    obtain ⟨A, c, rfl, _⟩ := hr
    obtain ⟨qx, qy⟩ := q
    unfold pv
    dsimp only
    have t : ((e : Int) != 0) = true := by rw [bne_iff_ne]; omega
    clear he hi hl h h0
    go_enter Try.func26, Try.ntmps26
    go_wp2_with fail
    refine (rCheck_c _ l e HE _ (RdG.q HR.out ((Q.refl w).alloc _)) HL.out).mono ?_; rintro E w1 ⟨rfl, hq1⟩
    have HQ1 := Lib.hid (((Q.refl w).alloc _).trans hq1)
    clear hq1
    go_wp2_with fail
    go_ret
    exact ⟨rfl, HQ1.out⟩
end Go.Proofs.Ytjeocmcllhjceaa
