/- The reference's Ranged, Cross, Area2 and Check. -/
import Derived.Test.YtkkghejbdakmpaaArea
set_option linter.unusedVariables false
set_option linter.unusedSimpArgs false
namespace Go.Proofs.Ytkkghejbdakmpaa
open Go.ChangeShapes Go.WideShapes Go.ChangeAt Go.RowKit Go.Shelf Pm

theorem inP_bad {x y : Int} (h : x < -600 ∨ 600 < x ∨ y < -600 ∨ 600 < y) : inP (x, y) = false := by
  unfold inP
  dsimp only
  rcases h with h | h | h | h
  · rw [inR_lo h]; rfl
  · rw [inR_hi h]; rfl
  · rw [inR_lo h, Bool.and_false]
  · rw [inR_hi h, Bool.and_false]
theorem inP_mk {x y : Int} (h1 : ¬ x < -600) (h2 : ¬ 600 < x) (h3 : ¬ y < -600) (h4 : ¬ 600 < y) : inP (x, y) = true := by
  unfold inP
  dsimp only
  rw [inR_mk (by omega) (by omega), inR_mk (by omega) (by omega)]; rfl
set_option maxRecDepth 100000 in
set_option maxHeartbeats 1600000 in
theorem rRanged_c (v : Value) (l : List P) (b : Bool) (h : Hid (rng l = b)) (w : World) (hr : RdP w v l) (hl : l.length ≤ maxLen) : Calls Try.prog 31 #[v] w fun e w' => e = .returned (.bool b) ∧ w = w' := by
  have HR := Lib.hid hr
  unfold maxLen at hl
  obtain ⟨A, c, rfl, hc, _⟩ := hr
  obtain ⟨n, hn⟩ : ∃ n, l.length = n := ⟨_, rfl⟩
  have HN := Lib.hid hn
  rw [hn] at HR hl
  rw [hn]
  have hl' : n ≤ 9223372036854775807 := by omega
  clear hc hn hl
  go_enter Try.func31, Try.ntmps31
  go_wp2_with fail
  go_loop [3] (fun u => ∃ k : Nat, k ≤ n ∧ u = .int .i64 k ∧ Hid (∀ i, i < k → inP (g l i) = true)) (fun u => n - (intOf u).toNat)
  case atStart => exact ⟨0, Nat.zero_le _, rfl, fun i hi => by omega⟩
  case round =>
    obtain ⟨k, hk, rfl, HI⟩ := hrel
    by_cases hlt : k < n
    · have hkl : k < l.length := by rw [HN.out]; exact hlt
      obtain ⟨bb, off, rfl, hb, hc, c0, c1⟩ := HR.out.at (Q.refl w) hkl
      obtain ⟨⟨x, y⟩, hx⟩ : ∃ q, g l k = q := ⟨_, rfl⟩
      rw [hx] at c0 c1
      have HX := Lib.hid hx
      have HKL := Lib.hid hkl
      dsimp only at c0 c1
      clear hx hkl
      by_cases h1 : x < -600
      · have HE := Lib.hid (show false = b by rw [← h.out]; exact (allN_no HKL.out (by rw [HX.out]; exact inP_bad (.inl h1))).symm)
        go_wp2_with fail
        go_ret
        exact ⟨ret_bool HE.out, rfl⟩
      · have h1' : decide (x < -600) = false := decide_eq_false h1
        by_cases h2 : 600 < x
        · have HE := Lib.hid (show false = b by rw [← h.out]; exact (allN_no HKL.out (by rw [HX.out]; exact inP_bad (.inr (.inl h2)))).symm)
          go_wp2_with fail
          go_ret
          exact ⟨ret_bool HE.out, rfl⟩
        · have h2' : decide (600 < x) = false := decide_eq_false h2
          by_cases h3 : y < -600
          · have HE := Lib.hid (show false = b by rw [← h.out]; exact (allN_no HKL.out (by rw [HX.out]; exact inP_bad (.inr (.inr (.inl h3))))).symm)
            go_wp2_with fail
            go_ret
            exact ⟨ret_bool HE.out, rfl⟩
          · have h3' : decide (y < -600) = false := decide_eq_false h3
            by_cases h4 : 600 < y
            · have HE := Lib.hid (show false = b by rw [← h.out]; exact (allN_no HKL.out (by rw [HX.out]; exact inP_bad (.inr (.inr (.inr h4))))).symm)
              go_wp2_with fail
              go_ret
              exact ⟨ret_bool HE.out, rfl⟩
            · have h4' : decide (600 < y) = false := decide_eq_false h4
              have HG := Lib.hid (rng_next HI.out (by rw [HX.out]; exact inP_mk h1 h2 h3 h4))
              go_wp2_with fail
              go_round
              case rel => exact ⟨k + 1, by omega, by go_num, HG.out⟩
              case measure => simp [intOf] <;> omega
    · obtain rfl : k = n := by omega
      have HE := Lib.hid (show true = b by rw [← h.out]; exact (allN_yes (by rw [HN.out]; exact HI.out)).symm)
      go_wp2_with fail
      go_ret
      exact ⟨ret_bool HE.out, rfl⟩
set_option maxHeartbeats 1600000 in
theorem rCross_c (a b q : P) (r : Int) (h : Hid (crs a b q = r)) (ha : inP a = true) (hb : inP b = true) (hq : inP q = true) (w : World) : Calls Try.prog 33 #[pv a, pv b, pv q] w fun e w' => e = .returned (.int .i64 r) ∧ Q w w' := by
  have hbd := crs_bd ha hb hq
  obtain ⟨⟨a1, a2⟩, a3, a4⟩ := inP_yes ha
  obtain ⟨⟨b1, b2⟩, b3, b4⟩ := inP_yes hb
  obtain ⟨⟨q1, q2⟩, q3', q4⟩ := inP_yes hq
  clear ha hb hq
  obtain ⟨ax, ay⟩ := a
  obtain ⟨bx, by'⟩ := b
  obtain ⟨qx, qy⟩ := q
  unfold pv
  dsimp only at *
  have m1 := mul_bd (a := bx - ax) (b := qy - ay) (A := 1200) (B := 1200) (by omega) (by omega) (by omega) (by omega)
  have m2 := mul_bd (a := by' - ay) (b := qx - ax) (A := 1200) (B := 1200) (by omega) (by omega) (by omega) (by omega)
  have e : crs (ax, ay) (bx, by') (qx, qy) = (bx - ax) * (qy - ay) - (by' - ay) * (qx - ax) := rfl
  rw [e] at hbd
  have HR := Lib.hid (show (bx - ax) * (qy - ay) - (by' - ay) * (qx - ax) = r by rw [← h.out]; rfl)
  clear h e
  obtain ⟨d1, hd1⟩ : ∃ z, bx - ax = z := ⟨_, rfl⟩
  obtain ⟨d2, hd2⟩ : ∃ z, qy - ay = z := ⟨_, rfl⟩
  obtain ⟨d3, hd3⟩ : ∃ z, by' - ay = z := ⟨_, rfl⟩
  obtain ⟨d4, hd4⟩ : ∃ z, qx - ax = z := ⟨_, rfl⟩
  rw [hd1, hd2] at m1 hbd HR
  rw [hd3, hd4] at m2 hbd HR
  obtain ⟨p, hp⟩ : ∃ z, d1 * d2 = z := ⟨_, rfl⟩
  obtain ⟨t, ht⟩ : ∃ z, d3 * d4 = z := ⟨_, rfl⟩
  rw [hp] at m1 hbd HR
  rw [ht] at m2 hbd HR
  obtain ⟨m11, m12⟩ := m1
  obtain ⟨m21, m22⟩ := m2
  obtain ⟨s1, s2⟩ := hbd
  go_enter Try.func33, Try.ntmps33
  go_wp2_with fail
  go_ret
  exact ⟨ret_int HR.out, q3 _ _ _ _⟩
theorem mod_nx (l : List P) (k n : Nat) (h : l.length = n) (h0 : 0 < n) : ((k : Int) + 1).tmod (n : Int) = (nx l k : Nat) := by
  rw [Int.tmod_eq_emod_of_nonneg (by omega)]; unfold nx; rw [h]; simp
set_option maxRecDepth 100000 in
set_option maxHeartbeats 1600000 in
theorem rArea2_in (v : Value) (l : List P) (r : Int) (h : Hid (ar l l.length = r)) (hR : RL l) (h32 : l.length ≤ 32) (hrg : Hid (rng l = true)) (w : World) (hr : RdP w v l) : Calls Try.prog 17 #[v] w fun e w' => e = .returned (.int .i64 r) ∧ Q w w' := by
  have HR := Lib.hid hr
  have HRL := Lib.hid hR
  obtain ⟨A, c, rfl, hc, _⟩ := hr
  obtain ⟨n, hn⟩ : ∃ n, l.length = n := ⟨_, rfl⟩
  have HN := Lib.hid hn
  have h32' : n ≤ 32 := by omega
  have t1' : decide ((32 : Int) < (n : Int)) = false := decide_eq_false (by omega)
  rw [hn] at HR
  rw [hn]
  clear hc hn h32 hR
  go_enter Try.func17, Try.ntmps17
  go_wp2_with fail
  refine (rRanged_c _ l true hrg _ HR.out (by rw [HN.out]; unfold maxLen; omega)).mono ?_; rintro e w1 ⟨rfl, rfl⟩
  go_wp2_with fail
  go_loopw [3, 4] (fun u3 u4 wr => ∃ k : Nat, k ≤ n ∧ u4 = .int .i64 k ∧ u3 = .int .i64 (ar l k) ∧ Hid (Q w wr)) (fun _ u4 _ => n - (intOf u4).toNat)
  case atStart => exact ⟨0, Nat.zero_le _, rfl, rfl, Q.refl _⟩
  case round =>
    obtain ⟨k, hk, rfl, rfl, HI⟩ := hrel
    by_cases hlt : k < n
    · have hkl : k < l.length := by rw [HN.out]; exact hlt
      have hnl : nx l k < l.length := nx_lt k (by omega)
      have HQ2 := Lib.hid (show Q w wr from HI.out)
      obtain ⟨b, off, rfl, hb, _, c0, c1⟩ := HR.out.at HQ2.out hkl
      obtain ⟨b2, off2, e2, _, _, d0, d1⟩ := HR.out.at HQ2.out hnl
      injection e2 with e2; injection e2 with e21 e22
      subst e21 e22
      have hbd := ar_bd (rng_of HRL.out) k (by omega)
      have hst := ar_step l k
      have hx1 := g_rng HRL.out k
      have hx2 := g_rng HRL.out (nx l k)
      have e3 := mod_nx l k n HN.out (by omega)
      obtain ⟨⟨a1, a2⟩, hA⟩ : ∃ a, g l k = a := ⟨_, rfl⟩
      obtain ⟨⟨b1, b2⟩, hB⟩ : ∃ a, g l (nx l k) = a := ⟨_, rfl⟩
      rw [hA] at c0 c1 hx1 hst
      rw [hB] at d0 d1 hx2 hst
      obtain ⟨m, hm⟩ : ∃ m, nx l k = m := ⟨_, rfl⟩
      rw [hm] at d0 d1 e3 hnl
      rw [HN.out] at hkl hnl
      dsimp only at c0 c1 d0 d1
      obtain ⟨⟨i1, i2⟩, i3, i4⟩ := inP_yes hx1
      obtain ⟨⟨j1, j2⟩, j3, j4⟩ := inP_yes hx2
      have m1 := mul_bd (a := a1) (b := b2) i1 i2 j3 j4
      have m2 := mul_bd (a := b1) (b := a2) j1 j2 i3 i4
      unfold arT at hst
      dsimp only at hst i1 i2 i3 i4 j1 j2 j3 j4
      obtain ⟨s, hs⟩ : ∃ z, ar l k = z := ⟨_, rfl⟩
      obtain ⟨p, hp⟩ : ∃ z, a1 * b2 = z := ⟨_, rfl⟩
      obtain ⟨t, ht⟩ : ∃ z, b1 * a2 = z := ⟨_, rfl⟩
      rw [hs] at hbd hst
      rw [hp] at m1 hst
      rw [ht] at m2 hst
      obtain ⟨m11, m12⟩ := m1
      obtain ⟨m21, m22⟩ := m2
      obtain ⟨s1, s2⟩ := hbd
      have s1' : -30000000 ≤ s := by omega
      have s2' : s ≤ 30000000 := by omega
      have HST := Lib.hid (show ar l (k + 1) = s + p - t by rw [hst]; omega)
      have HS := Lib.hid hs
      have e4 : IntKind.i64.wrap ((k : Int) + 1) = (k : Int) + 1 := IntWalk.i64_in _ (by omega)
      have e5 : IntKind.i64.wrap (m : Int) = (m : Int) := IntWalk.i64_in _ (by omega)
      have e6 : ((n : Int) == 0) = false := by simp; omega
      have e7 : ¬ n = 0 := by omega
      have e8 : (0 : Int) ≤ (m : Int) := by omega
      have e9 : (m : Int) < (n : Int) := by omega
      have k9 : (k : Int) < (n : Int) := by omega
      have w1 : IntKind.i64.wrap p = p := IntWalk.i64_in _ (by omega)
      have w2 : IntKind.i64.wrap t = t := IntWalk.i64_in _ (by omega)
      have w3 : IntKind.i64.wrap (s + p) = s + p := IntWalk.i64_in _ (by omega)
      have w4 : IntKind.i64.wrap (s + p - t) = s + p - t := IntWalk.i64_in _ (by omega)
      have e3' : ((k : Int) + 1) % (n : Int) = (m : Int) := by rw [← e3]; exact (Int.tmod_eq_emod_of_nonneg (by omega)).symm
      have o0 := (((Q.refl wr).alloc (.cells #[.int .i64 b1, .int .i64 b2] 38)).cell (p := ⟨b, off + k * 2, none⟩) (Nat.lt_of_lt_of_le hb HQ2.out.size)).trans c0
      have o1 := (((Q.refl wr).alloc (.cells #[.int .i64 b1, .int .i64 b2] 38)).cell (p := ⟨b, off + k * 2 + 1, none⟩) (Nat.lt_of_lt_of_le hb HQ2.out.size)).trans c1
      clear hA hB hm hst hx1 hx2 s1 s2 hkl hnl
      rw [hs]
      clear hs
      go_wp2_with fail
      go_quiet (fail)
      go_wp2_with fail
      go_roundw
      case rel => exact ⟨k + 1, by omega, by go_num, by rw [HST.out], by repeat (first | exact HQ2.out | refine Q.drewN ?_ _ | refine Q.alloc ?_ _)⟩
      case measure => simp [intOf] <;> omega
    · obtain rfl : k = n := by omega
      have HE := Lib.hid (show ar l k = r by rw [← h.out, HN.out])
      have HQ2 := Lib.hid (show Q w wr from HI.out)
      go_wp2_with fail
      go_ret
      exact ⟨ret_int HE.out, HQ2.out⟩
set_option maxRecDepth 100000 in
set_option maxHeartbeats 1600000 in
theorem rArea2_c (v : Value) (l : List P) (r : Int) (h : Hid (ar2 l = r)) (w : World) (hr : RdP w v l) (hl : l.length ≤ maxLen) : Calls Try.prog 17 #[v] w fun e w' => e = .returned (.int .i64 r) ∧ Q w w' := by
  by_cases h32 : 32 < l.length
  · have HE := Lib.hid (show 0 = r by rw [← h.out, ar2_long h32])
    obtain ⟨A, c, rfl, hc, _⟩ := hr
    obtain ⟨n, hn⟩ : ∃ n, l.length = n := ⟨_, rfl⟩
    rw [hn]
    have t : (32 : Int) < (n : Int) := by omega
    clear hc hn hl h32 h
    go_enter Try.func17, Try.ntmps17
    go_wp2_with fail
    go_ret
    exact ⟨ret_int HE.out, Q.refl _⟩
  · obtain ⟨b, hb⟩ : ∃ b, rng l = b := ⟨_, rfl⟩
    cases b with
    | true => exact rArea2_in v l r (Lib.hid (by rw [← h.out, ar2_in h32 hb])) (rng_mem hb) (by omega) (Lib.hid hb) w hr
    | false =>
      have HE := Lib.hid (show 0 = r by rw [← h.out, ar2_out hb])
      have HB := Lib.hid hb
      have HR := Lib.hid hr
      have HL := Lib.hid hl
      obtain ⟨A, c, rfl, hc, _⟩ := hr
      obtain ⟨n, hn⟩ : ∃ n, l.length = n := ⟨_, rfl⟩
      rw [hn] at HR
      rw [hn]
      have t : decide ((32 : Int) < (n : Int)) = false := decide_eq_false (by omega)
      clear hc hn hl h32 h hb
      go_enter Try.func17, Try.ntmps17
      go_wp2_with fail
      refine (rRanged_c _ l false HB _ HR.out HL.out).mono ?_
      rintro e w1 ⟨rfl, rfl⟩
      go_wp2_with fail
      go_ret
      exact ⟨ret_int HE.out, Q.refl _⟩
set_option maxRecDepth 100000 in
set_option maxHeartbeats 1600000 in
theorem rCheck_c (v : Value) (l : List P) (e : Nat) (h : Hid (chk l = e)) (w : World) (hr : RdP w v l) (hl : l.length ≤ maxLen) : Calls Try.prog 15 #[v] w fun r w' => r = .returned (.int .i64 e) ∧ Q w w' := by
  have HR := Lib.hid hr
  have HL := Lib.hid hl
  obtain ⟨A, c, rfl, hc, _⟩ := hr
  obtain ⟨n, hn⟩ : ∃ n, l.length = n := ⟨_, rfl⟩
  have HN := Lib.hid hn
  rw [hn] at HR
  rw [hn]
  clear hc hl
  by_cases h1 : n < 3
  · have HE := Lib.hid (show ((3 : Nat) : Int) = (e : Int) by rw [← h.out, chk_short (by omega)])
    have t1 : (n : Int) < 3 := by omega
    clear hn h h1
    go_enter Try.func15, Try.ntmps15
    go_wp2_with fail
    go_ret
    exact ⟨ret_int HE.out, Q.refl _⟩
  · by_cases h2 : 32 < n
    · have HE := Lib.hid (show ((4 : Nat) : Int) = (e : Int) by rw [← h.out, chk_long (by omega)])
      have t1 : ¬ (n : Int) < 3 := by omega
      have t2 : (32 : Int) < (n : Int) := by omega
      clear hn h h1 h2
      go_enter Try.func15, Try.ntmps15
      go_wp2_with fail
      go_ret
      exact ⟨ret_int HE.out, Q.refl _⟩
    · have t1 : ¬ (n : Int) < 3 := by omega
      have t2 : ¬ (32 : Int) < (n : Int) := by omega
      obtain ⟨b, hb⟩ : ∃ b, rng l = b := ⟨_, rfl⟩
      have HB := Lib.hid hb
      cases b with
      | false =>
        have HE := Lib.hid (show ((9 : Nat) : Int) = (e : Int) by rw [← h.out, chk_out (by omega) (by omega) hb])
        clear hn h h1 h2 hb
        go_enter Try.func15, Try.ntmps15
        go_wp2_with fail
        refine (rRanged_c _ l false HB _ HR.out HL.out).mono ?_; rintro E w1 ⟨rfl, rfl⟩
        go_wp2_with fail
        go_ret
        exact ⟨ret_int HE.out, Q.refl _⟩
      | true =>
        obtain ⟨r, hr⟩ : ∃ r, ar2 l = r := ⟨_, rfl⟩
        have HA := Lib.hid hr
        by_cases h3 : r = 0
        · have HE := Lib.hid (show ((19 : Nat) : Int) = (e : Int) by rw [← h.out, chk_flat (by omega) (by omega) hb (by rw [hr, h3])])
          have t3 : (r == 0) = true := by simp [h3]
          clear hn h h1 h2 hb hr h3
          go_enter Try.func15, Try.ntmps15
          go_wp2_with fail
          refine (rRanged_c _ l true HB _ HR.out HL.out).mono ?_; rintro E w1 ⟨rfl, rfl⟩
          go_wp2_with fail
          refine (rArea2_c _ l r HA _ HR.out HL.out).mono ?_; rintro E w2 ⟨rfl, hq2⟩
          have HQ2 := Lib.hid hq2; clear hq2
          go_wp2_with fail
          go_ret
          exact ⟨ret_int HE.out, HQ2.out⟩
        · have HE := Lib.hid (show ((0 : Nat) : Int) = (e : Int) by rw [← h.out, chk_ok (by omega) (by omega) hb (by rw [hr]; exact h3)])
          have t3 : (r == 0) = false := by simp [h3]
          clear hn h h1 h2 hb hr h3
          go_enter Try.func15, Try.ntmps15
          go_wp2_with fail
          refine (rRanged_c _ l true HB _ HR.out HL.out).mono ?_; rintro E w1 ⟨rfl, rfl⟩
          go_wp2_with fail
          refine (rArea2_c _ l r HA _ HR.out HL.out).mono ?_; rintro E w2 ⟨rfl, hq2⟩
          have HQ2 := Lib.hid hq2; clear hq2
          go_wp2_with fail
          go_ret
          exact ⟨ret_int HE.out, HQ2.out⟩
end Go.Proofs.Ytkkghejbdakmpaa
