/- The contract of the reference's Hull. -/
import Derived.Test.YtkkghejbdakmpaaRSort2
import Derived.Test.YtkkghejbdakmpaaRChain
import Derived.Test.YtkkghejbdakmpaaHull
import Derived.Test.YtkkghejbdakmpaaRTurnB
set_option linter.unusedVariables false
set_option linter.unusedSimpArgs false
namespace Go.Proofs.Ytkkghejbdakmpaa
open Go.ChangeShapes Go.WideShapes Go.ChangeAt Go.RowKit Go.Shelf Pm

theorem hullD_long {l : List P} (h : 32 < l.length) : hullD l = [] := by unfold hullD; rw [if_pos h]
theorem hullD_out {l : List P} (h : rng l = false) : hullD l = [] := by unfold hullD; rw [h]; split <;> rfl
theorem hullD_few {l : List P} (h1 : ¬ 32 < l.length) (h : rng l = true) (h5 : (chn (srtD l)).length + (chn (srtD l).reverse).length < 5) : hullD l = [] := by unfold hullD; rw [if_neg h1, if_pos h, if_pos h5]
theorem hullD_in {l : List P} (h1 : ¬ 32 < l.length) (h : rng l = true) (h5 : ¬ (chn (srtD l)).length + (chn (srtD l).reverse).length < 5) : hullD l = (chn (srtD l)).dropLast ++ (chn (srtD l).reverse).dropLast := by unfold hullD hulD; rw [if_neg h1, if_pos h, if_neg h5]
theorem RL_srtD {l : List P} (h : RL l) : RL (srtD l) := fun x hx => h x (((srtD_spec l).2 x).1 hx)
set_option maxRecDepth 100000 in
set_option maxHeartbeats 6400000 in
theorem rHull_in (v : Value) (l : List P) (w : World) (hr : RdP w v l) (hb : Hid (rng l = true)) (h32 : l.length ≤ 32) : Calls Try.prog 28 #[v] w (HuPost (hullD l) w) := by
  obtain ⟨i0, hi, hz0, hz1, hz2⟩ := info_parts infoP
  have HR := Lib.hid hr
  have HRL := Lib.hid (rng_mem hb.out)
  have HLM := Lib.hid (show l.length ≤ maxLen by unfold maxLen; omega)
  have HL3 := Lib.hid (show l.length ≤ 1000 by omega)
  obtain ⟨D, hD⟩ : ∃ D, srtD l = D := ⟨_, rfl⟩
  have HD := Lib.hid hD
  have hdl := srtD_len l
  have HRD := Lib.hid (RL_srtD HRL.out)
  rw [hD] at hdl HRD
  obtain ⟨A, c, rfl, hc, _⟩ := hr
  obtain ⟨n, hn⟩ : ∃ n, l.length = n := ⟨_, rfl⟩
  have HN := Lib.hid hn
  rw [hn] at h32 HR hdl
  rw [hn]
  obtain ⟨d, hd⟩ : ∃ d, D.length = d := ⟨_, rfl⟩
  have HDL := Lib.hid hd
  rw [hd] at hdl
  have hd32 : d ≤ 32 := by omega
  have t2 : ¬ (32 : Int) < (n : Int) := by omega
  have t2' : decide ((32 : Int) < (n : Int)) = false := decide_eq_false t2
  clear hc hn hd hD hdl
  go_enter Try.func28, Try.ntmps28
  go_wp2_with fail
  refine (rRanged_c _ l true hb _ HR.out HLM.out).mono ?_; rintro e w1 ⟨rfl, rfl⟩
  go_wp2_with fail
  refine (rsorted_c _ l _ HR.out HL3.out).mono ?_
  rintro e w1 ⟨v1, rfl, ho1, hq1⟩
  rw [HD.out] at ho1
  have HO1 := Lib.hid ho1
  have HQ1 := Lib.hid hq1
  obtain ⟨A1, c1, rfl, hc1⟩ := ho1.shape
  rw [HDL.out] at hc1 HO1 ⊢
  have s0 : IntKind.i64.wrap ((d : Int) - 1) = (d : Int) - 1 := IntWalk.i64_in _ (by omega)
  have HS1 := Lib.hid (show w.heap.size ≤ w1.heap.size from hq1.size)
  clear ho1 hq1 t2 t2' hc1
  go_wp2_with fail
  go_loopw [4, 5] (fun u4 u5 wr => ∃ j k : Nat, j + k = d ∧ u5 = .int .i64 ((j : Int) - 1) ∧ Hid (Own w1.heap.size u4 (D.reverse.take k) wr ∧ Q w1 wr)) (fun _ u5 _ => (intOf u5 + 1).toNat)
  case atStart => exact ⟨d, 0, rfl, by go_num, own_nil _ _, Q.refl _⟩
  case round =>
    obtain ⟨j, k, hjk, rfl, HI⟩ := hrel
    match j, hjk with
    | i + 1, hjk =>
      have e : ((i + 1 : Nat) : Int) - 1 = (i : Int) := by omega
      rw [e]
      have hkl : i < D.length := by rw [HDL.out]; omega
      have HRDD := Lib.hid (show RdP w1 (.slice A1 d c1) D from HO1.out.rd)
      obtain ⟨bb, off, rfl, hb2, hc2, c0, c1'⟩ := HRDD.out.at HI.out.2 hkl
      have hz := take_map_next (fun q => q) D.reverse (k := k) (by rw [List.length_reverse, HDL.out]; omega)
      rw [List.map_id', g_rev (show i + k + 1 = D.length by rw [HDL.out]; omega)] at hz
      obtain ⟨⟨x, y⟩, hx⟩ : ∃ q, g D i = q := ⟨_, rfl⟩
      rw [hx] at c0 c1' hz
      have HZ := Lib.hid hz
      obtain ⟨L, hL⟩ : ∃ L, D.reverse.take k = L := ⟨_, rfl⟩
      have hLl : L.length = k := by rw [← hL, List.length_take, List.length_reverse, HDL.out]; omega
      rw [hL] at HZ
      dsimp only at c0 c1'
      have HO2 := Lib.hid (show Own w1.heap.size u4 L wr by rw [← hL]; exact HI.out.1)
      have HIQ := Lib.hid HI.out.2
      have RM := Lib.hid (show Room L.length from room_of (by omega))
      have HB1 := Lib.hid (show w1.heap.size ≤ wr.heap.size from HI.out.2.size)
      have hkn : (i : Int) < (d : Int) := by omega
      have k0 : (0 : Int) ≤ (i : Int) := by omega
      have hown1 : wr.ownsRow w1.heap.size 38 2 u4 L.length (cellsL L) := HO2.out
      clear hkl hz hx hL hLl HI hb2
      go_wp2_with (first
        | (at_builtin; refine wpList_append_own _ rfl _ _ 22 rfl w1.heap.size 38 i0 (.agg #[.int .i64 0, .int .i64 0]) 2 16 Try.underlying22 hi hz0 hz1 hz2 rfl (by decide) _ _ _ rfl (hown1.alloc _) ⟨wr.heap.size, 0, none⟩ 1 1 [.int .i64 x, .int .i64 y] rfl rfl (pair_at _ _ _ _) (pair_cell _ _) RM.out.1 RM.out.2 (alloc_le HB1.out _) ?_)
        | go_in)
      intro v' w2 hown' hgrow _
      have N := Lib.hid (own_next (s := (x, y)) HO2.out HIQ.out HB1.out hown' hgrow)
      clear hown' hgrow hown1
      go_wp2_with fail
      go_roundw
      case rel => exact ⟨i, k + 1, by omega, by go_num, by rw [HZ.out]; exact N.out.1, N.out.2⟩
      case measure => simp [intOf] <;> omega
    | 0, hjk =>
      obtain rfl : k = d := by omega
      have HB := Lib.hid (show Own w1.heap.size u4 D.reverse wr by
        have := HI.out.1
        rw [List.take_of_length_le (by rw [List.length_reverse, HDL.out]; omega)] at this; exact this)
      have HQ2 := Lib.hid HI.out.2
      have HO2 := Lib.hid (HO1.out.q HI.out.2)
      have e : ((0 : Nat) : Int) - 1 = -1 := by omega
      rw [e]
      obtain ⟨A4, c4, rfl, hc4⟩ := HB.out.shape
      rw [List.length_reverse, HDL.out] at HB hc4 ⊢
      clear HI hc4
      as_aux_lemma =>
        go_wp2_with fail
        refine (rchain_c _ D _ (by have := HO2.out.rd; exact this) HRD.out (by rw [HDL.out]; omega)).mono ?_
        rintro e w3 ⟨v3, rfl, ho3, hq3⟩
        have HO3 := Lib.hid ho3
        have HQ3 := Lib.hid hq3
        have HB3 := Lib.hid (HB.out.q hq3)
        clear ho3 hq3
        go_wp2_with fail
        refine (rchain_c _ D.reverse _ (by have := HB3.out.rd; exact this) (RL_rev HRD.out) (by rw [List.length_reverse, HDL.out]; omega)).mono ?_
        rintro e w4 ⟨v4, rfl, ho4, hq4⟩
        have hlo := HO3.out.q hq4
        have hup := ho4
        have HQ4 := Lib.hid ((HQ1.out.trans HQ2.out).trans (HQ3.out.trans hq4))
        have hl6 := chn_len D
        have hu6 := chn_len D.reverse
        rw [List.length_reverse] at hu6
        rw [HDL.out] at hl6 hu6
        have hne : k ≠ 0 → 0 < (chn D).length ∧ 0 < (chn D.reverse).length := fun h => ⟨chn_ne (by rw [HDL.out]; omega), chn_ne (by rw [List.length_reverse, HDL.out]; omega)⟩
        obtain ⟨LO, hLO⟩ : ∃ z, chn D = z := ⟨_, rfl⟩
        obtain ⟨UP, hUP⟩ : ∃ z, chn D.reverse = z := ⟨_, rfl⟩
        have H5 := Lib.hid (fun h5 : LO.length + UP.length < 5 => hullD_few (l := l) (by rw [HN.out]; omega) hb.out (by rw [HD.out, hLO, hUP]; exact h5))
        have H6 := Lib.hid (fun h5 : ¬ LO.length + UP.length < 5 => (show hullD l = LO.dropLast ++ UP.dropLast by rw [hullD_in (l := l) (by rw [HN.out]; omega) hb.out (by rw [HD.out, hLO, hUP]; exact h5), HD.out, hLO, hUP]))
        rw [hLO] at hlo hl6 hne
        rw [hUP] at hup hu6 hne
        obtain ⟨AL, cL, rfl, hcL⟩ := hlo.shape
        obtain ⟨AU, cU, rfl, hcU⟩ := hup.shape
        obtain ⟨m4, hm4⟩ : ∃ m, LO.length = m := ⟨_, rfl⟩
        obtain ⟨m6, hm6⟩ : ∃ m, UP.length = m := ⟨_, rfl⟩
        by_cases h5 : m4 + m6 < 5
        · have HH := Lib.hid (H5.out (by rw [hm4, hm6]; exact h5))
          rw [hm4, hm6]
          have t9 : ((m4 + m6 : Nat) : Int) < 5 := by omega
          have t9' : decide (m4 + m6 < 5) = true := decide_eq_true h5
          have t8 : ((m4 : Int) + (m6 : Int)) < 5 := by omega
          have w8 : IntKind.i64.wrap ((m4 : Int) + (m6 : Int)) = (m4 : Int) + (m6 : Int) := IntWalk.i64_in _ (by omega)
          have t8' : decide ((m4 : Int) + (m6 : Int) < 5) = true := decide_eq_true t8
          clear hlo hup ho4 hq4 hne hLO hUP hm4 hm6 hcL hcU h5
          go_wp2_with fail
          go_ret
          exact ⟨_, rfl, by rw [HH.out]; exact RdG.nil _ _ _, HQ4.out⟩
        · have HH := Lib.hid (H6.out (by rw [hm4, hm6]; exact h5))
          have hd0 : k ≠ 0 := by intro e; omega
          obtain ⟨n4, n6⟩ := hne hd0
          obtain ⟨g4, c4', e4, hc4', _, hg4⟩ := hlo.form n4
          injection e4 with e41 e42 e43
          subst e41 e43
          obtain ⟨g6, c6', e6, hc6', _, hg6⟩ := hup.form n6
          injection e6 with e61 e62 e63
          subst e61 e63
          obtain ⟨zx, hx⟩ := drop_split (l := LO) (by intro e; rw [e] at n4; simp at n4)
          obtain ⟨zy, hy⟩ := drop_split (l := UP) (by intro e; rw [e] at n6; simp at n6)
          obtain ⟨LD, hLD⟩ : ∃ z, LO.dropLast = z := ⟨_, rfl⟩
          obtain ⟨UD, hUD⟩ : ∃ z, UP.dropLast = z := ⟨_, rfl⟩
          have HH := Lib.hid (show hullD l = LD ++ UD by rw [← hLD, ← hUD]; exact HH.out)
          rw [hLD] at hx
          rw [hUD] at hy
          have HLd := Lib.hid (show Own _ _ LD w4 from (show Own _ _ (LD ++ [zx]) w4 by rw [← hx]; exact hlo).drop)
          have HUd := Lib.hid (show Own _ _ UD w4 from (show Own _ _ (UD ++ [zy]) w4 by rw [← hy]; exact hup).drop)
          obtain ⟨a4, ha4⟩ : ∃ a, LD.length = a := ⟨_, rfl⟩
          obtain ⟨a6, ha6⟩ : ∃ a, UD.length = a := ⟨_, rfl⟩
          have hm4' : m4 = a4 + 1 := by rw [← hm4, hx, List.length_append, ha4]; rfl
          have hm6' : m6 = a6 + 1 := by rw [← hm6, hy, List.length_append, ha6]; rfl
          rw [ha4] at HLd
          rw [ha6] at HUd
          rw [hm4] at hcL hl6
          rw [hm6] at hcU hu6
          rw [hm4, hm6]
          have HA4 := Lib.hid ha4
          have HA6 := Lib.hid ha6
          have s1 : IntKind.i64.wrap ((m4 : Int) - 1) = (a4 : Int) := by rw [IntWalk.i64_in _ (by omega)]; omega
          have s2 : IntKind.i64.wrap ((m6 : Int) - 1) = (a6 : Int) := by rw [IntWalk.i64_in _ (by omega)]; omega
          have s3 : a4 ≤ cL := by omega
          have s4 : a6 ≤ cU := by omega
          have s5 : (a4 : Int) ≤ (cL : Int) := by omega
          have s6 : (a6 : Int) ≤ (cU : Int) := by omega
          have t9 : ¬ ((m4 + m6 : Nat) : Int) < 5 := by omega
          have t9' : decide (m4 + m6 < 5) = false := decide_eq_false h5
          have t8 : ¬ ((m4 : Int) + (m6 : Int)) < 5 := by omega
          have w8 : IntKind.i64.wrap ((m4 : Int) + (m6 : Int)) = (m4 : Int) + (m6 : Int) := IntWalk.i64_in _ (by omega)
          have t8' : decide ((m4 : Int) + (m6 : Int) < 5) = false := decide_eq_false t8
          have HTL := Lib.hid (show (cellsL LD).length = a4 * 2 by rw [cellsL_len, HA4.out])
          have HTU := Lib.hid (show (cellsL UD).length = a6 * 2 by rw [cellsL_len, HA6.out])
          have HNL := Lib.hid (fun o => take_cells ((HLd.out).q ((Q.refl w4).alloc o)) HA4.out a4)
          have HJR := Lib.hid (show 0 + a4 ≤ maxLen ∧ (0 + a4) * 16 ≤ 140737488355328 by unfold maxLen; omega)
          have HJS := Lib.hid (show LD.length + a6 ≤ maxLen ∧ (LD.length + a6) * 16 ≤ 140737488355328 by rw [HA4.out]; unfold maxLen; omega)
          rw [List.take_of_length_le (by rw [HA4.out]; exact Nat.le_refl _)] at HNL
          clear hm4' hm6' hlo hup ho4 hq4 hne hLO hUP hm4 hm6 hcL hcU h5 hx hy hLD hUD n4 n6 ha4 ha6 e42 e62 hl6 hu6 hc4' hc6' hg4 hg6
          go_wp2_with (first
            | (at_builtin; refine wpList_append_own _ rfl _ _ 22 rfl w4.heap.size 38 i0 (.agg #[.int .i64 0, .int .i64 0]) 2 16 Try.underlying22 hi hz0 hz1 hz2 rfl (by decide) _ 0 [] rfl (World.ownsRow_lit w4 #[] 0 (Nat.le_refl _) (by decide) rfl) ⟨g4, 0, none⟩ a4 cL (cellsL LD) rfl HTL.out (HNL.out _) (cellsL_one _) HJR.out.1 HJR.out.2 (by simp) ?_)
            | go_in)
          intro v5 w5 hown5' hgrow5 _
          have N5 := Lib.hid (show Own w4.heap.size v5 LD w5 ∧ Below w4.heap.size w4 w5 from ⟨by
            unfold Own; rw [HA4.out]; first | exact hown5' | (rw [Nat.zero_add] at hown5'; exact hown5'), ((Q.refl w4).alloc _).grown hgrow5 (by simp) (fun i e => by cases e; exact Nat.le_refl _)⟩)
          have HNU := Lib.hid (take_cells (HUd.out.q N5.out.2) HA6.out a6)
          rw [List.take_of_length_le (by rw [HA6.out]; exact Nat.le_refl _)] at HNU
          have HB5 := Lib.hid (show w4.heap.size ≤ w5.heap.size from N5.out.2.size)
          clear hown5' hgrow5
          have hown5 : w5.ownsRow w4.heap.size 38 2 v5 LD.length (cellsL LD) := N5.out.1
          go_wp2_with (first
            | (at_builtin; refine wpList_append_own _ rfl _ _ 22 rfl w4.heap.size 38 i0 (.agg #[.int .i64 0, .int .i64 0]) 2 16 Try.underlying22 hi hz0 hz1 hz2 rfl (by decide) _ _ _ rfl hown5 ⟨g6, 0, none⟩ a6 cU (cellsL UD) rfl HTU.out HNU.out (cellsL_one _) HJS.out.1 HJS.out.2 HB5.out ?_)
            | go_in)
          intro v6 w6 hown6' hgrow6 _
          have N6 := Lib.hid (show Own w4.heap.size v6 (LD ++ UD) w6 ∧ Below w4.heap.size w4 w6 from ⟨by
            unfold Own; rw [cellsL_app, List.length_append, HA6.out]; exact hown6', N5.out.2.grown hgrow6 HB5.out (fun i e => (N5.out.1.lt i e).1)⟩)
          clear hown6' hgrow6 hown5
          go_wp2_with fail
          go_ret
          exact ⟨_, rfl, by rw [HH.out]; exact N6.out.1.rd, HQ4.out.trans N6.out.2⟩
set_option maxRecDepth 100000 in
set_option maxHeartbeats 1600000 in
theorem rHull_c (v : Value) (l : List P) (w : World) (hr : RdP w v l) (hl : l.length ≤ maxLen) : Calls Try.prog 28 #[v] w (HuPost (hull l) w) := by
  rw [hull_same]
  have HR := Lib.hid hr
  have HL := Lib.hid hl
  by_cases h2 : 32 < l.length
  · have HH := Lib.hid (hullD_long h2)
    obtain ⟨A, c, rfl, hc, _⟩ := hr
    obtain ⟨n, hn⟩ : ∃ n, l.length = n := ⟨_, rfl⟩
    rw [hn]
    have t1 : (32 : Int) < (n : Int) := by omega
    have t1' : decide ((32 : Int) < (n : Int)) = true := decide_eq_true t1
    clear hc hn hl h2
    go_enter Try.func28, Try.ntmps28
    go_wp2_with fail
    go_ret
    exact ⟨_, rfl, by rw [HH.out]; exact RdG.nil _ _ _, Q.refl _⟩
  · obtain ⟨b, hb⟩ : ∃ b, rng l = b := ⟨_, rfl⟩
    cases b with
    | true => exact rHull_in v l w hr (Lib.hid hb) (by omega)
    | false =>
      have HH := Lib.hid (hullD_out hb)
      have HB := Lib.hid hb
      obtain ⟨A, c, rfl, hc, _⟩ := hr
      obtain ⟨n, hn⟩ : ∃ n, l.length = n := ⟨_, rfl⟩
      rw [hn] at HR
      rw [hn]
      have t1 : ¬ (32 : Int) < (n : Int) := by omega
      have t1' : decide ((32 : Int) < (n : Int)) = false := decide_eq_false t1
      clear hc hn hl h2 hb
      go_enter Try.func28, Try.ntmps28
      go_wp2_with fail
      refine (rRanged_c _ l false HB _ HR.out HL.out).mono ?_; rintro e w1 ⟨rfl, rfl⟩
      go_wp2_with fail
      go_ret
      exact ⟨_, rfl, by rw [HH.out]; exact RdG.nil _ _ _, Q.refl _⟩
end Go.Proofs.Ytkkghejbdakmpaa
