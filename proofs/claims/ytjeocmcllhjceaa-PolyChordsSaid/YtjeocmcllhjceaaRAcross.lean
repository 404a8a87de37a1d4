/- The contracts of the reference's floor and across. Printed by tools/genacross.py from across.part: edit those. -/
import Derived.Test.YtjeocmcllhjceaaRHas
import Derived.Test.YtjeocmcllhjceaaChordM
set_option linter.unusedVariables false
set_option linter.unusedSimpArgs false
namespace Go.Proofs.Ytjeocmcllhjceaa
open Go.ChangeShapes Go.WideShapes Go.ChangeAt Go.RowKit Go.Shelf Pm

theorem w64 (n : Int) (h1 : -9223372036854775808 ≤ n) (h2 : n ≤ 9223372036854775807) : wrap64 n = n := by unfold wrap64; omega
set_option maxHeartbeats 1600000 in
theorem rfloor_c (n d r : Int) (h : Hid (n / d = r)) (hd : 0 < d) (hd2 : d ≤ 10000000) (h1 : -10000000 ≤ n) (h2 : n ≤ 10000000) (w : World) : Calls Try.prog 61 #[.int .i64 n, .int .i64 d] w fun e w' => e = .returned (.int .i64 r) ∧ w = w' := by
  have HF := Lib.hid (quo_floor (n := n) hd)
  obtain ⟨q1, q2⟩ := tdiv_bd hd h1 h2
  obtain ⟨m1, m2⟩ := tmod_bd (n := n) hd hd2
  have hz : (d == 0) = false := by simp; omega
  have hqm := Int.mul_tdiv_add_tmod n d
  rw [Int.mul_comm] at hqm
  obtain ⟨q, hq⟩ : ∃ z, n.tdiv d = z := ⟨_, rfl⟩
  obtain ⟨m, hm⟩ : ∃ z, n.tmod d = z := ⟨_, rfl⟩
  rw [hq] at q1 q2 HF hqm
  rw [hm] at m1 m2 HF hqm
  have hd0 : ¬ d = 0 := by omega
  obtain ⟨p, hp⟩ : ∃ z, q * d = z := ⟨_, rfl⟩
  rw [hp] at hqm
  have w1 : IntKind.i64.wrap p = p := IntWalk.i64_in _ (by omega)
  have w2 : wrap64 p = p := w64 _ (by omega) (by omega)
  by_cases c : m < 0
  · have HR := Lib.hid (show q - 1 = r by rw [← h.out, HF.out, if_pos c])
    have t1 : decide (n < p) = true := decide_eq_true (by omega)
    clear h HF hqm
    go_enter Try.func61, Try.ntmps61
    go_wp2_with fail
    go_ret
    exact ⟨ret_int HR.out, rfl⟩
  · have HR := Lib.hid (show q = r by rw [← h.out, HF.out, if_neg c])
    have t1 : decide (n < p) = false := decide_eq_false (by omega)
    clear h HF hqm
    go_enter Try.func61, Try.ntmps61
    go_wp2_with fail
    go_ret
    exact ⟨ret_int HR.out, rfl⟩
theorem fl_bd {n d : Int} (h : 0 < d) (h1 : -2000000 ≤ n) (h2 : n ≤ 2000000) : -2000001 ≤ n / d ∧ n / d ≤ 2000001 := by
  have a := Int.ediv_mul_le n (show d ≠ 0 by omega)
  have b := Int.lt_ediv_add_one_mul_self n h
  constructor
  · rcases Int.lt_or_le (n / d) (-2000001) with c | c
    · exfalso
      have : (n / d + 1) * d ≤ (-2000001) * d := Int.mul_le_mul_of_nonneg_right (by omega) (by omega)
      omega
    · exact c
  · rcases Int.lt_or_le 2000001 (n / d) with c | c
    · exfalso
      have : 2000002 * d ≤ n / d * d := Int.mul_le_mul_of_nonneg_right (by omega) (by omega)
      omega
    · exact c
theorem accE_lt {y lo hi a1 a2 b1 b2 dd nn : Int} (h : dd < 0) (h1 : b2 - a2 = dd) (h2 : (b1 - a1) * (y - a2) = nn) : accE y (a1, a2) (b1, b2) (lo, hi) = (max lo (a1 - nn / (-dd)), hi) := by
  unfold accE; dsimp only; rw [h1, h2, if_neg (by omega), if_pos h]
theorem accE_gt {y lo hi a1 a2 b1 b2 dd nn : Int} (h : 0 < dd) (h1 : b2 - a2 = dd) (h2 : (b1 - a1) * (y - a2) = nn) : accE y (a1, a2) (b1, b2) (lo, hi) = (lo, min hi (a1 + nn / dd)) := by
  unfold accE; dsimp only; rw [h1, h2, if_pos h]
def noB (H : List P) (y : Int) (k : Nat) : Prop := ∀ i, i < k → badE y (g H i) (g H (nx H i)) = false
theorem noB_next {H : List P} {y : Int} {k : Nat} {a b : P} (h : noB H y k) (ha : g H k = a) (hb : g H (nx H k) = b) (h1 : badE y a b = false) : noB H y (k + 1) := fun i hi => by
  by_cases e : i = k
  · rw [e, ha, hb]; exact h1
  · exact h i (by omega)
theorem acr_bad {H : List P} {y : Int} {k : Nat} (hk : k < H.length) (h : badE y (g H k) (g H (nx H k)) = true) : acr H y = (1, 0) := by
  unfold acr; rw [if_pos (anyN_yes (f := fun i => badE y (g H i) (g H (nx H i))) hk h)]
theorem acr_ok {H : List P} {y : Int} (h : noB H y H.length) : acr H y = acA H y H.length := by
  unfold acr; rw [if_neg (by rw [anyN_no (f := fun i => badE y (g H i) (g H (nx H i))) h]; decide)]
theorem ret_two {a b c d : Int} (h : (a, b) = ((c, d) : P)) : Ending.returned (.tuple #[.int .i64 a, .int .i64 b]) = .returned (.tuple #[.int .i64 c, .int .i64 d]) := by injection h with h1 h2; rw [h1, h2]
set_option maxRecDepth 100000 in
set_option maxHeartbeats 2000000 in
theorem racross_c (v : Value) (H : List P) (y : Int) (r : P) (h : Hid (acr H y = r)) (hR : RL H) (h64 : H.length ≤ 64) (hy1 : -600 ≤ y) (hy2 : y ≤ 600) (w : World) (hr : RdP w v H) : Calls Try.prog 56 #[v, .int .i64 y] w fun e w' => e = .returned (.tuple #[.int .i64 r.1, .int .i64 r.2]) ∧ Q w w' := by
  have HR := Lib.hid hr
  have HRL := Lib.hid hR
  obtain ⟨A, c, rfl, hcc, _⟩ := hr
  obtain ⟨n, hn⟩ : ∃ n, H.length = n := ⟨_, rfl⟩
  have HN := Lib.hid hn
  rw [hn] at h64 HR
  rw [hn]
  clear hcc hn hR
  go_enter Try.func56, Try.ntmps56
  go_wp2_with fail
  go_loopw [6, 7, 8] (fun u6 u7 u8 wr => ∃ k : Nat, k ≤ n ∧ u8 = .int .i64 k ∧ u6 = .int .i64 (acA H y k).1 ∧ u7 = .int .i64 (acA H y k).2 ∧ Hid (noB H y k ∧ Q w wr)) (fun _ _ u8 _ => n - (intOf u8).toNat)
  case atStart => exact ⟨0, Nat.zero_le _, rfl, rfl, rfl, fun i hi => by omega, Q.refl _⟩
  case round =>
    obtain ⟨k, hk, rfl, rfl, rfl, HI⟩ := hrel
    by_cases hlt : k < n
    · have hkl : k < H.length := by rw [HN.out]; exact hlt
      have HKL := Lib.hid hkl
      have hnl : nx H k < H.length := nx_lt k (by omega)
      obtain ⟨b, off, rfl, hb, _, c0, c1⟩ := HR.out.at HI.out.2 hkl
      obtain ⟨b2', off2, e2, _, _, d0, d1⟩ := HR.out.at HI.out.2 hnl
      injection e2 with e2; injection e2 with e21 e22
      subst e21 e22
      have hx1 := g_rng HRL.out k
      have hx2 := g_rng HRL.out (nx H k)
      have e3 := mod_nx H k n HN.out (by omega)
      obtain ⟨⟨a1, a2⟩, hA⟩ : ∃ a, g H k = a := ⟨_, rfl⟩
      obtain ⟨⟨b1, b2⟩, hB⟩ : ∃ a, g H (nx H k) = a := ⟨_, rfl⟩
      have HGA := Lib.hid hA
      have HGB := Lib.hid hB
      rw [hA] at c0 c1 hx1
      rw [hB] at d0 d1 hx2
      obtain ⟨⟨i1, i2⟩, i3, i4⟩ := inP_yes hx1
      obtain ⟨⟨j1, j2⟩, j3, j4⟩ := inP_yes hx2
      dsimp only at i1 i2 i3 i4 j1 j2 j3 j4
      obtain ⟨m, hm⟩ : ∃ m, nx H k = m := ⟨_, rfl⟩
      rw [hm] at d0 d1 e3 hnl
      rw [HN.out] at hkl hnl
      dsimp only at c0 c1 d0 d1
      obtain ⟨⟨lo, hi⟩, hs⟩ : ∃ s, acA H y k = s := ⟨_, rfl⟩
      have HSA := Lib.hid (show acA H y (k + 1) = accE y (a1, a2) (b1, b2) (lo, hi) by show accE y (g H k) (g H (nx H k)) (acA H y k) = _; rw [hA, hB, hs])
      rw [hs]
      have mb := mul_bd (a := b1 - a1) (b := y - a2) (A := 1200) (B := 1200) (by omega) (by omega) (by omega) (by omega)
      obtain ⟨dx, hdx⟩ : ∃ z, b1 - a1 = z := ⟨_, rfl⟩
      obtain ⟨dy, hdy⟩ : ∃ z, y - a2 = z := ⟨_, rfl⟩
      obtain ⟨dd, hdd⟩ : ∃ z, b2 - a2 = z := ⟨_, rfl⟩
      rw [hdx, hdy] at mb
      obtain ⟨nn, hnn⟩ : ∃ z, dx * dy = z := ⟨_, rfl⟩
      rw [hnn] at mb
      have HDD := Lib.hid hdd
      have HNN := Lib.hid (show (b1 - a1) * (y - a2) = nn by rw [hdx, hdy, hnn])
      have hn1 : -2000000 ≤ nn := by omega
      have hn2 : nn ≤ 2000000 := by omega
      have hD1 : -1200 ≤ dd := by omega
      have hD2 : dd ≤ 1200 := by omega
      have w1 : IntKind.i64.wrap dx = dx := IntWalk.i64_in _ (by omega)
      have w2 : IntKind.i64.wrap dy = dy := IntWalk.i64_in _ (by omega)
      have w3 : IntKind.i64.wrap dd = dd := IntWalk.i64_in _ (by omega)
      have w4 : IntKind.i64.wrap nn = nn := IntWalk.i64_in _ (by omega)
      have x1 : wrap64 dx = dx := w64 _ (by omega) (by omega)
      have x2 : wrap64 dy = dy := w64 _ (by omega) (by omega)
      have x3 : wrap64 dd = dd := w64 _ (by omega) (by omega)
      have x4 : wrap64 nn = nn := w64 _ (by omega) (by omega)
      have e4 : IntKind.i64.wrap ((k : Int) + 1) = (k : Int) + 1 := IntWalk.i64_in _ (by omega)
      have e5 : IntKind.i64.wrap (m : Int) = (m : Int) := IntWalk.i64_in _ (by omega)
      have e6 : ((n : Int) == 0) = false := by simp; omega
      have e7 : ¬ n = 0 := by omega
      have e8 : (0 : Int) ≤ (m : Int) := by omega
      have e9 : (m : Int) < (n : Int) := by omega
      have k9 : (k : Int) < (n : Int) := by omega
      have e3' : ((k : Int) + 1) % (n : Int) = (m : Int) := by rw [← e3]; exact (Int.tmod_eq_emod_of_nonneg (by omega)).symm
      have hb8 : b < wr.heap.size := Nat.lt_of_lt_of_le hb HI.out.2.size
      have z1 := al1 hb8 c0
      have z2 := al1 hb8 c1
      have z3 := al1 hb8 d0
      have z4 := al1 hb8 d1
      have y1 := al2 hb8 c0
      have y2 := al2 hb8 c1
      have y3 := al2 hb8 d0
      have y4 := al2 hb8 d1
      clear hA hB hm hx1 hx2 hkl hnl hb8 hs mb j1 j2 j3 j4 i3 i4
      go_wp2_with fail
      go_region
      · have hx1 : BoxP ((wr.alloc (.cells #[.int .i64 a1, .int .i64 a2] 38)).alloc (.cells #[.int .i64 b1, .int .i64 b2] 38)).drew wr.heap.size (a1, a2) := ((BoxP.new wr (a1, a2)).alloc (.cells #[.int .i64 b1, .int .i64 b2] 38) : BoxP _ _ _)
        have hx2 : BoxP ((wr.alloc (.cells #[.int .i64 a1, .int .i64 a2] 38)).alloc (.cells #[.int .i64 b1, .int .i64 b2] 38)).drew (wr.heap.size + 1) (b1, b2) := by have := BoxP.new (wr.alloc (.cells #[.int .i64 a1, .int .i64 a2] 38)) (b1, b2); rw [World.size_alloc] at this; exact this
        have hx7 : Q wr ((wr.alloc (.cells #[.int .i64 a1, .int .i64 a2] 38)).alloc (.cells #[.int .i64 b1, .int .i64 b2] 38)).drew := (((Q.refl wr).alloc _).alloc _).drew
        clear c0 c1 d0 d1 z1 z2 z3 z4 y1 y2 y3 y4
        generalize ((wr.alloc (.cells #[.int .i64 a1, .int .i64 a2] 38)).alloc (.cells #[.int .i64 b1, .int .i64 b2] 38)).drew = V0 at hx1 hx2 hx7 ⊢
        generalize wr.heap.size + 1 = g2 at hx2 ⊢
        generalize wr.heap.size = g1 at hx1 ⊢
        have HB1 := Lib.hid hx1
        have HB2 := Lib.hid hx2
        have HQ0 := Lib.hid (HI.out.2.trans hx7)
        clear hx1 hx2 hx7
        have d0 := HB1.out.c0
        have d1 := HB1.out.c1
        have e0 := HB2.out.c0
        have e1 := HB2.out.c1
        dsimp only at d0 d1 e0 e1
        go_wp2_with fail
        go_quiet (fail)
        obtain ⟨V1, hV1⟩ : ∃ V, V0.drewN nq = V := ⟨_, rfl⟩
        have HQ1 := Lib.hid (show Q w V1 by rw [← hV1]; exact HQ0.out.drewN nq)
        have d0 : V1.cell? ⟨g1, 0, none⟩ = some (.int .i64 a1) := by rw [← hV1]; exact d0
        rw [hV1]
        clear hV1 d1 e0 e1 HQ0 HB1 HB2
        rcases Int.lt_trichotomy dd 0 with hs | hs | hs
        · have t1 : decide (0 < dd) = false := decide_eq_false (by omega)
          have t2 : decide (dd < 0) = true := decide_eq_true hs
          obtain ⟨md, hmd⟩ : ∃ z, -dd = z := ⟨_, rfl⟩
          have t3 : IntKind.i64.wrap (-dd) = md := by rw [hmd]; exact IntWalk.i64_in _ (by omega)
          have t6 : wrap64 (-dd) = md := by rw [hmd]; exact w64 _ (by omega) (by omega)
          obtain ⟨f, hf⟩ : ∃ f, nn / md = f := ⟨_, rfl⟩
          obtain ⟨v, hv⟩ : ∃ v, a1 - f = v := ⟨_, rfl⟩
          obtain ⟨mx, hmx⟩ : ∃ z, max lo v = z := ⟨_, rfl⟩
          obtain ⟨f1, f2⟩ := fl_bd (n := nn) (d := md) (by omega) hn1 hn2
          rw [hf] at f1 f2
          have HF := Lib.hid hf
          have t4 : IntKind.i64.wrap (a1 - f) = v := by rw [hv]; exact IntWalk.i64_in _ (by omega)
          have r1 : ∀ ts ty W, (Builtin.max_ ts ty #[.int .i64 lo, .int .i64 v]).run Try.prog W = .ok (.int .i64 mx) W := fun ts ty W => max_run ts ty _ _ mx W hmx
          have HNX := Lib.hid (show acA H y (k + 1) = (mx, hi) by rw [HSA.out, accE_lt hs HDD.out HNN.out, hmd, hf, hv, hmx])
          have HNB := Lib.hid (noB_next (a := (a1, a2)) (b := (b1, b2)) HI.out.1 HGA.out HGB.out (by unfold badE; dsimp only; rw [HDD.out, decide_eq_false (by omega)]; rfl))
          have HPD := Lib.hid (show 0 < md ∧ md ≤ 10000000 by omega)
          have HBN := Lib.hid (show -10000000 ≤ nn ∧ nn ≤ 10000000 by omega)
          have t5 : wrap64 (a1 - f) = v := by rw [hv]; exact w64 _ (by omega) (by omega)
          clear hs hf hv hmx hmd f1 f2 hn1 hn2
          as_aux_lemma =>
            go_wp2_with fail
            go_region_law (first | (go_simp; go_at_call 61; refine (rfloor_c nn md f HF HPD.out.1 HPD.out.2 HBN.out.1 HBN.out.2 _).mono ?_; rintro E w5 ⟨rfl, rfl⟩))
            all_goals go_wp2_with fail
            all_goals exact ⟨⟨k + 1, by omega, by go_num, by rw [HNX.out], by rw [HNX.out], HNB.out, by repeat (first | exact HQ1.out | refine Q.drewN ?_ _ | refine Q.drew ?_)⟩, by simp [intOf] <;> omega⟩
        · have t1 : decide (0 < dd) = false := decide_eq_false (by omega)
          have t2 : decide (dd < 0) = false := decide_eq_false (by omega)
          have HNX := Lib.hid (show acA H y (k + 1) = (lo, hi) by rw [HSA.out]; unfold accE; dsimp only; rw [HDD.out, if_neg (by omega), if_neg (by omega)])
          by_cases hc : nn < 0
          · have HB := Lib.hid (show (1, 0) = r by rw [← h.out]; exact (acr_bad HKL.out (by rw [HGA.out, HGB.out]; unfold badE; dsimp only; rw [HDD.out, HNN.out, decide_eq_true hs, decide_eq_true hc]; rfl)).symm)
            have t7 : decide (nn < 0) = true := decide_eq_true hc
            clear hs hc hn1 hn2
            as_aux_lemma =>
              go_wp2_with fail
              go_ret2
              exact ⟨by rw [← HB.out]; rfl, HQ1.out⟩
          · have t7 : decide (nn < 0) = false := decide_eq_false hc
            have HNB := Lib.hid (noB_next (a := (a1, a2)) (b := (b1, b2)) HI.out.1 HGA.out HGB.out (by unfold badE; dsimp only; rw [HNN.out, t7, Bool.and_false]))
            clear hs hc hn1 hn2
            as_aux_lemma =>
              go_wp2_with fail
              go_roundw
              case rel => exact ⟨k + 1, by omega, by go_num, by rw [HNX.out], by rw [HNX.out], HNB.out, HQ1.out⟩
              case measure => simp [intOf] <;> omega
        · have t1 : decide (0 < dd) = true := decide_eq_true hs
          obtain ⟨f, hf⟩ : ∃ f, nn / dd = f := ⟨_, rfl⟩
          obtain ⟨v, hv⟩ : ∃ v, a1 + f = v := ⟨_, rfl⟩
          obtain ⟨mx, hmx⟩ : ∃ z, min hi v = z := ⟨_, rfl⟩
          obtain ⟨f1, f2⟩ := fl_bd (n := nn) (d := dd) hs hn1 hn2
          rw [hf] at f1 f2
          have HF := Lib.hid hf
          have t4 : IntKind.i64.wrap (a1 + f) = v := by rw [hv]; exact IntWalk.i64_in _ (by omega)
          have r1 : ∀ ts ty W, (Builtin.min_ ts ty #[.int .i64 hi, .int .i64 v]).run Try.prog W = .ok (.int .i64 mx) W := fun ts ty W => min_run ts ty _ _ mx W hmx
          have HNX := Lib.hid (show acA H y (k + 1) = (lo, mx) by rw [HSA.out, accE_gt hs HDD.out HNN.out, hf, hv, hmx])
          have HNB := Lib.hid (noB_next (a := (a1, a2)) (b := (b1, b2)) HI.out.1 HGA.out HGB.out (by unfold badE; dsimp only; rw [HDD.out, decide_eq_false (by omega)]; rfl))
          have HPD := Lib.hid (show 0 < dd ∧ dd ≤ 10000000 by omega)
          have HBN := Lib.hid (show -10000000 ≤ nn ∧ nn ≤ 10000000 by omega)
          have t5 : wrap64 (a1 + f) = v := by rw [hv]; exact w64 _ (by omega) (by omega)
          clear hs hf hv hmx f1 f2 hn1 hn2
          as_aux_lemma =>
            go_wp2_with fail
            go_region_law (first | (go_simp; go_at_call 61; refine (rfloor_c nn dd f HF HPD.out.1 HPD.out.2 HBN.out.1 HBN.out.2 _).mono ?_; rintro E w5 ⟨rfl, rfl⟩))
            all_goals go_wp2_with fail
            all_goals exact ⟨⟨k + 1, by omega, by go_num, by rw [HNX.out], by rw [HNX.out], HNB.out, by repeat (first | exact HQ1.out | refine Q.drewN ?_ _ | refine Q.drew ?_)⟩, by simp [intOf] <;> omega⟩
      · have hx1 : BoxP ((wr.alloc (.cells #[.int .i64 b1, .int .i64 b2] 38)).alloc (.cells #[.int .i64 a1, .int .i64 a2] 38)).drew wr.heap.size (b1, b2) := ((BoxP.new wr (b1, b2)).alloc (.cells #[.int .i64 a1, .int .i64 a2] 38) : BoxP _ _ _)
        have hx2 : BoxP ((wr.alloc (.cells #[.int .i64 b1, .int .i64 b2] 38)).alloc (.cells #[.int .i64 a1, .int .i64 a2] 38)).drew (wr.heap.size + 1) (a1, a2) := by have := BoxP.new (wr.alloc (.cells #[.int .i64 b1, .int .i64 b2] 38)) (a1, a2); rw [World.size_alloc] at this; exact this
        have hx7 : Q wr ((wr.alloc (.cells #[.int .i64 b1, .int .i64 b2] 38)).alloc (.cells #[.int .i64 a1, .int .i64 a2] 38)).drew := (((Q.refl wr).alloc _).alloc _).drew
        clear c0 c1 d0 d1 z1 z2 z3 z4 y1 y2 y3 y4
        generalize ((wr.alloc (.cells #[.int .i64 b1, .int .i64 b2] 38)).alloc (.cells #[.int .i64 a1, .int .i64 a2] 38)).drew = V0 at hx1 hx2 hx7 ⊢
        generalize wr.heap.size + 1 = g2 at hx2 ⊢
        generalize wr.heap.size = g1 at hx1 ⊢
        have HB2 := Lib.hid hx1
        have HB1 := Lib.hid hx2
        have HQ0 := Lib.hid (HI.out.2.trans hx7)
        clear hx1 hx2 hx7
        have d0 := HB1.out.c0
        have d1 := HB1.out.c1
        have e0 := HB2.out.c0
        have e1 := HB2.out.c1
        dsimp only at d0 d1 e0 e1
        go_wp2_with fail
        go_quiet (fail)
        obtain ⟨V1, hV1⟩ : ∃ V, V0.drewN nq = V := ⟨_, rfl⟩
        have HQ1 := Lib.hid (show Q w V1 by rw [← hV1]; exact HQ0.out.drewN nq)
        have d0 : V1.cell? ⟨g2, 0, none⟩ = some (.int .i64 a1) := by rw [← hV1]; exact d0
        rw [hV1]
        clear hV1 d1 e0 e1 HQ0 HB1 HB2
        rcases Int.lt_trichotomy dd 0 with hs | hs | hs
        · have t1 : decide (0 < dd) = false := decide_eq_false (by omega)
          have t2 : decide (dd < 0) = true := decide_eq_true hs
          obtain ⟨md, hmd⟩ : ∃ z, -dd = z := ⟨_, rfl⟩
          have t3 : IntKind.i64.wrap (-dd) = md := by rw [hmd]; exact IntWalk.i64_in _ (by omega)
          have t6 : wrap64 (-dd) = md := by rw [hmd]; exact w64 _ (by omega) (by omega)
          obtain ⟨f, hf⟩ : ∃ f, nn / md = f := ⟨_, rfl⟩
          obtain ⟨v, hv⟩ : ∃ v, a1 - f = v := ⟨_, rfl⟩
          obtain ⟨mx, hmx⟩ : ∃ z, max lo v = z := ⟨_, rfl⟩
          obtain ⟨f1, f2⟩ := fl_bd (n := nn) (d := md) (by omega) hn1 hn2
          rw [hf] at f1 f2
          have HF := Lib.hid hf
          have t4 : IntKind.i64.wrap (a1 - f) = v := by rw [hv]; exact IntWalk.i64_in _ (by omega)
          have r1 : ∀ ts ty W, (Builtin.max_ ts ty #[.int .i64 lo, .int .i64 v]).run Try.prog W = .ok (.int .i64 mx) W := fun ts ty W => max_run ts ty _ _ mx W hmx
          have HNX := Lib.hid (show acA H y (k + 1) = (mx, hi) by rw [HSA.out, accE_lt hs HDD.out HNN.out, hmd, hf, hv, hmx])
          have HNB := Lib.hid (noB_next (a := (a1, a2)) (b := (b1, b2)) HI.out.1 HGA.out HGB.out (by unfold badE; dsimp only; rw [HDD.out, decide_eq_false (by omega)]; rfl))
          have HPD := Lib.hid (show 0 < md ∧ md ≤ 10000000 by omega)
          have HBN := Lib.hid (show -10000000 ≤ nn ∧ nn ≤ 10000000 by omega)
          have t5 : wrap64 (a1 - f) = v := by rw [hv]; exact w64 _ (by omega) (by omega)
          clear hs hf hv hmx hmd f1 f2 hn1 hn2
          as_aux_lemma =>
            go_wp2_with fail
            go_region_law (first | (go_simp; go_at_call 61; refine (rfloor_c nn md f HF HPD.out.1 HPD.out.2 HBN.out.1 HBN.out.2 _).mono ?_; rintro E w5 ⟨rfl, rfl⟩))
            all_goals go_wp2_with fail
            all_goals exact ⟨⟨k + 1, by omega, by go_num, by rw [HNX.out], by rw [HNX.out], HNB.out, by repeat (first | exact HQ1.out | refine Q.drewN ?_ _ | refine Q.drew ?_)⟩, by simp [intOf] <;> omega⟩
        · have t1 : decide (0 < dd) = false := decide_eq_false (by omega)
          have t2 : decide (dd < 0) = false := decide_eq_false (by omega)
          have HNX := Lib.hid (show acA H y (k + 1) = (lo, hi) by rw [HSA.out]; unfold accE; dsimp only; rw [HDD.out, if_neg (by omega), if_neg (by omega)])
          by_cases hc : nn < 0
          · have HB := Lib.hid (show (1, 0) = r by rw [← h.out]; exact (acr_bad HKL.out (by rw [HGA.out, HGB.out]; unfold badE; dsimp only; rw [HDD.out, HNN.out, decide_eq_true hs, decide_eq_true hc]; rfl)).symm)
            have t7 : decide (nn < 0) = true := decide_eq_true hc
            clear hs hc hn1 hn2
            as_aux_lemma =>
              go_wp2_with fail
              go_ret2
              exact ⟨by rw [← HB.out]; rfl, HQ1.out⟩
          · have t7 : decide (nn < 0) = false := decide_eq_false hc
            have HNB := Lib.hid (noB_next (a := (a1, a2)) (b := (b1, b2)) HI.out.1 HGA.out HGB.out (by unfold badE; dsimp only; rw [HNN.out, t7, Bool.and_false]))
            clear hs hc hn1 hn2
            as_aux_lemma =>
              go_wp2_with fail
              go_roundw
              case rel => exact ⟨k + 1, by omega, by go_num, by rw [HNX.out], by rw [HNX.out], HNB.out, HQ1.out⟩
              case measure => simp [intOf] <;> omega
        · have t1 : decide (0 < dd) = true := decide_eq_true hs
          obtain ⟨f, hf⟩ : ∃ f, nn / dd = f := ⟨_, rfl⟩
          obtain ⟨v, hv⟩ : ∃ v, a1 + f = v := ⟨_, rfl⟩
          obtain ⟨mx, hmx⟩ : ∃ z, min hi v = z := ⟨_, rfl⟩
          obtain ⟨f1, f2⟩ := fl_bd (n := nn) (d := dd) hs hn1 hn2
          rw [hf] at f1 f2
          have HF := Lib.hid hf
          have t4 : IntKind.i64.wrap (a1 + f) = v := by rw [hv]; exact IntWalk.i64_in _ (by omega)
          have r1 : ∀ ts ty W, (Builtin.min_ ts ty #[.int .i64 hi, .int .i64 v]).run Try.prog W = .ok (.int .i64 mx) W := fun ts ty W => min_run ts ty _ _ mx W hmx
          have HNX := Lib.hid (show acA H y (k + 1) = (lo, mx) by rw [HSA.out, accE_gt hs HDD.out HNN.out, hf, hv, hmx])
          have HNB := Lib.hid (noB_next (a := (a1, a2)) (b := (b1, b2)) HI.out.1 HGA.out HGB.out (by unfold badE; dsimp only; rw [HDD.out, decide_eq_false (by omega)]; rfl))
          have HPD := Lib.hid (show 0 < dd ∧ dd ≤ 10000000 by omega)
          have HBN := Lib.hid (show -10000000 ≤ nn ∧ nn ≤ 10000000 by omega)
          have t5 : wrap64 (a1 + f) = v := by rw [hv]; exact w64 _ (by omega) (by omega)
          clear hs hf hv hmx f1 f2 hn1 hn2
          as_aux_lemma =>
            go_wp2_with fail
            go_region_law (first | (go_simp; go_at_call 61; refine (rfloor_c nn dd f HF HPD.out.1 HPD.out.2 HBN.out.1 HBN.out.2 _).mono ?_; rintro E w5 ⟨rfl, rfl⟩))
            all_goals go_wp2_with fail
            all_goals exact ⟨⟨k + 1, by omega, by go_num, by rw [HNX.out], by rw [HNX.out], HNB.out, by repeat (first | exact HQ1.out | refine Q.drewN ?_ _ | refine Q.drew ?_)⟩, by simp [intOf] <;> omega⟩
    · obtain rfl : k = n := by omega
      have HE := Lib.hid (show acA H y k = r by rw [← h.out, acr_ok (by rw [HN.out]; exact HI.out.1), HN.out])
      have HQ := Lib.hid HI.out.2
      rw [HE.out]
      obtain ⟨r1, r2⟩ := r
      go_wp2_with fail
      go_ret2
      exact ⟨rfl, HQ.out⟩
end Go.Proofs.Ytjeocmcllhjceaa
