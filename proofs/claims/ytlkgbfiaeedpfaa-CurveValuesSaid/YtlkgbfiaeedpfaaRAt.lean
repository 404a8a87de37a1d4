/- The contract of the reference's At. -/
import Derived.Test.YtlkgbfiaeedpfaaAlong
import Derived.Test.YtlkgbfiaeedpfaaRCheck
set_option linter.unusedVariables false
set_option linter.unusedSimpArgs false
namespace Go.Proofs.Ytlkgbfiaeedpfaa
open Go.ChangeShapes Go.WideShapes Go.ChangeAt Go.RowKit Cm

/-- n lies between s and t, and all are small -/
structure Ipx (s a t b n : Int) : Prop where
  hst : s < t
  hsn : s ≤ n
  hnt : n ≤ t
  s1 : -1000000 ≤ s
  t1 : t ≤ 1000000
  a1 : -1000000 ≤ a
  a2 : a ≤ 1000000
  b1 : -1000000 ≤ b
  b2 : b ≤ 1000000
set_option maxRecDepth 100000 in
set_option maxHeartbeats 800000 in
theorem Between_c (s a t b x r : Int) (h : Hid (ip s a t b x = r)) (hb : Hid (Ipx s a t b x)) (w : World) : Calls Try.prog 29 #[.int .i64 s, .int .i64 a, .int .i64 t, .int .i64 b, .int .i64 x] w fun e w' => e = .returned (.int .i64 r) ∧ Q w w' := by
  obtain ⟨hst, hsn, hnt, s1, t1, a1, a2, b1, b2⟩ := hb.out
  obtain ⟨d1, hd1⟩ : ∃ d, b - a = d := ⟨_, rfl⟩
  obtain ⟨d2, hd2⟩ : ∃ d, x - s = d := ⟨_, rfl⟩
  obtain ⟨d4, hd4⟩ : ∃ d, t - s = d := ⟨_, rfl⟩
  have hbig := mul_big (a := d1) (b := d2) (by omega) (by omega) (by omega) (by omega)
  obtain ⟨d3, hd3⟩ : ∃ d, d1 * d2 = d := ⟨_, rfl⟩
  rw [hd3] at hbig
  obtain ⟨f, hf⟩ : ∃ f, d3 / d4 = f := ⟨_, rfl⟩
  have hfb := div_big (a := d3) (b := d4) (by omega) hbig.1
  rw [hf] at hfb
  have HF := Lib.hid hf
  have HB := Lib.hid hbig.1
  have H4 := Lib.hid (show 0 < d4 by omega)
  have HE := Lib.hid (show a + f = r by
    rw [← h.out]; unfold ip; rw [hd1, hd2, hd4, hd3, hf])
  have r1 : wrap64 (b - a) = d1 := by rw [hd1]; exact IntWalk.wrap64_in _ (by omega)
  have r2 : wrap64 (x - s) = d2 := by rw [hd2]; exact IntWalk.wrap64_in _ (by omega)
  have r4 : wrap64 (t - s) = d4 := by rw [hd4]; exact IntWalk.wrap64_in _ (by omega)
  have r3 : wrap64 (d1 * d2) = d3 := by rw [hd3]; exact IntWalk.wrap64_in _ (by omega)
  have r5 : wrap64 (a + f) = a + f := IntWalk.wrap64_in _ (by omega)
  clear hd1 hd2 hd3 hd4 hf hfb hbig hst hsn hnt s1 t1 a1 a2 b1 b2 h hb
  go_enter Try.func29, Try.ntmps29
  go_wp2_with fail
  refine (rfloor_c d3 d4 f H4.out HB.out HF _).mono ?_; rintro E w2 ⟨rfl, hq2⟩
  have Q2 := Lib.hid hq2
  clear hq2
  go_wp2_with fail
  go_ret
  exact ⟨ret_int (by first | exact HE.out | (rw [r5]; exact HE.out)), Q2.out⟩
theorem btK {w W W' : World} {b i1 i2 i3 i4 : Nat} {u1 u2 u3 u4 : Value} (h : W.cell? ⟨b, i1, none⟩ = some u1 ∧ W.cell? ⟨b, i2, none⟩ = some u2 ∧ W.cell? ⟨b, i3, none⟩ = some u3 ∧ W.cell? ⟨b, i4, none⟩ = some u4 ∧ b < W.heap.size ∧ Q w W) (hq : Q W W') :
    W'.cell? ⟨b, i1, none⟩ = some u1 ∧ W'.cell? ⟨b, i2, none⟩ = some u2 ∧ W'.cell? ⟨b, i3, none⟩ = some u3 ∧ W'.cell? ⟨b, i4, none⟩ = some u4 ∧ b < W'.heap.size ∧ Q w W' := by
  obtain ⟨h1, h2, h3, h4, h5, h6⟩ := h
  exact ⟨(hq.cell (p := ⟨b, i1, none⟩) h5).trans h1, (hq.cell (p := ⟨b, i2, none⟩) h5).trans h2, (hq.cell (p := ⟨b, i3, none⟩) h5).trans h3, (hq.cell (p := ⟨b, i4, none⟩) h5).trans h4, Nat.lt_of_lt_of_le h5 hq.size, h6.trans hq⟩
theorem btQ {w W : World} {b i1 i2 i3 i4 : Nat} {u1 u2 u3 u4 : Value} (h : W.cell? ⟨b, i1, none⟩ = some u1 ∧ W.cell? ⟨b, i2, none⟩ = some u2 ∧ W.cell? ⟨b, i3, none⟩ = some u3 ∧ W.cell? ⟨b, i4, none⟩ = some u4 ∧ b < W.heap.size ∧ Q w W) : Q w W := h.2.2.2.2.2
set_option maxRecDepth 100000 in
set_option maxHeartbeats 1600000 in
theorem rAt_c (v : Value) (l : List P) (x r : Int) (h : Hid (atS l x = r)) (w : World) (hr : RdP w v l) (hl : l.length ≤ maxLen) : Calls Try.prog 18 #[v, .int .i64 x] w fun e w' => e = .returned (.int .i64 r) ∧ Q w w' := by
  have HR := Lib.hid hr
  have HL := Lib.hid hl
  obtain ⟨A, c, rfl, hc, _⟩ := hr
  obtain ⟨n, hn⟩ : ∃ n, l.length = n := ⟨_, rfl⟩
  have HN := Lib.hid hn
  rw [hn] at HR
  rw [hn]
  unfold maxLen at hl
  obtain ⟨e, he⟩ : ∃ e, chk l = e := ⟨_, rfl⟩
  have HC := Lib.hid he
  by_cases h0 : e = 0
  · have HO := Lib.hid (chk_zero (he.trans h0))
    have HU := Lib.hid (show alS (X l) (Y l) n x = r by rw [← h.out]; unfold atS; rw [he, if_pos h0, hn])
    have hn0 : 1 ≤ n ∧ n ≤ 16 := by have g := HO.out; have g1 := g.one; have g2 := g.few; omega
    obtain ⟨hn1, hn16⟩ := hn0
    have h0' : ((e : Int) != 0) = false := by subst h0; rfl
    obtain ⟨b, off, rfl, hb, hcc, c0, c1⟩ := HR.out.at (Q.refl w) (i := 0) (by omega)
    have HB := Lib.hid hb
    obtain ⟨x0, hx0⟩ : ∃ z, X l 0 = z := ⟨_, rfl⟩
    obtain ⟨y0, hy0⟩ : ∃ z, Y l 0 = z := ⟨_, rfl⟩
    rw [hx0] at c0
    rw [hy0] at c1
    rw [Nat.zero_mul, Nat.add_zero] at c0 c1
    have i0 : (0 : Int) < (n : Int) := by omega
    have C0 := Lib.hid c0
    have C1 := Lib.hid c1
    clear c0 c1 hn hl he h0 hc
    by_cases hx : x ≤ x0
    · have HE := Lib.hid (show y0 = r by rw [← HU.out, al_lo (by rw [hx0]; exact hx), hy0])
      have hx' : decide (x ≤ x0) = true := decide_eq_true hx
      clear hx0 hy0
      go_enter Try.func18, Try.ntmps18
      go_wp2_with fail
      refine (rCheck_c _ l e HC _ HR.out HL.out).mono ?_; rintro E w1 ⟨rfl, hq1⟩
      have Q1 := Lib.hid hq1
      have e0 := (hq1.cell (p := ⟨b, off, none⟩) HB.out).trans C0.out
      have e1 := (hq1.cell (p := ⟨b, off + 1, none⟩) HB.out).trans C1.out
      clear hq1
      go_wp2_with fail
      go_ret
      exact ⟨ret_int HE.out, Q1.out⟩
    · have hx' : decide (x ≤ x0) = false := decide_eq_false hx
      have HX0 := Lib.hid (show X l 0 < x by rw [hx0]; omega)
      clear hx0 hy0
      go_enter Try.func18, Try.ntmps18
      go_wp2_with fail
      refine (rCheck_c _ l e HC _ HR.out HL.out).mono ?_; rintro E w1 ⟨rfl, hq1⟩
      have Q1 := Lib.hid hq1
      have e0 := (hq1.cell (p := ⟨b, off, none⟩) HB.out).trans C0.out
      have e1 := (hq1.cell (p := ⟨b, off + 1, none⟩) HB.out).trans C1.out
      clear hq1
      go_wp2_with fail
      go_loopw [5] (fun u5 wr => ∃ k : Nat, 1 ≤ k ∧ k ≤ n ∧ u5 = .int .i64 k ∧ Hid ((∀ i, i < k → X l i < x) ∧ Q w wr)) (fun u5 _ => n - (intOf u5).toNat)
      case atStart => exact ⟨1, Nat.le_refl _, hn1, rfl, fun i hi => by (have e : i = 0 := by omega); rw [e]; exact HX0.out, Q1.out⟩
      case round =>
        clear e0 e1
        obtain ⟨k, hk1, hk, rfl, HI⟩ := hrel
        obtain ⟨j, hj⟩ : ∃ j, k = j + 1 := ⟨k - 1, by omega⟩
        have e3 : (k : Int) - 1 = (j : Int) := by omega
        have e4 : IntKind.i64.wrap ((k : Int) - 1) = (j : Int) := by rw [e3]; exact IntWalk.i64_in _ (by omega)
        have HJ := Lib.hid hj
        have hjl : j < l.length := by have := HN.out; omega
        obtain ⟨b2, off2, hv2, hb2, _, a0, a1⟩ := HR.out.at HI.out.2 hjl
        obtain ⟨e1, e2⟩ : b = b2 ∧ off = off2 := by injection hv2 with e1; injection e1 with e1 e2; exact ⟨e1, e2⟩
        subst e1 e2
        by_cases hlt : k < n
        · have e6 : (j : Int) < (n : Int) := by omega
          have e7 : (k : Int) < (n : Int) := by omega
          have e8 : (0 : Int) ≤ (k : Int) := by omega
          have e9 : (0 : Int) ≤ (j : Int) := by omega
          have hkl : k < l.length := by rw [HN.out]; exact hlt
          obtain ⟨b2, off2, hv2, hb2, _, g0, g1⟩ := HR.out.at HI.out.2 hkl
          obtain ⟨e1, e2⟩ : b = b2 ∧ off = off2 := by injection hv2 with e1; injection e1 with e1 e2; exact ⟨e1, e2⟩
          subst e1 e2
          have bs := HO.out.inx j hjl
          have bt := HO.out.inx k hkl
          have ba := HO.out.iny j hjl
          have bb := HO.out.iny k hkl
          have hst := HO.out.up k (by omega) hkl
          have hkj : k - 1 = j := by omega
          rw [hkj] at hst
          have hsx := HI.out.1 j (by omega)
          obtain ⟨s, hs⟩ : ∃ s, X l j = s := ⟨_, rfl⟩
          obtain ⟨t, ht⟩ : ∃ t, X l k = t := ⟨_, rfl⟩
          obtain ⟨a, ha⟩ : ∃ a, Y l j = a := ⟨_, rfl⟩
          obtain ⟨d, hd⟩ : ∃ b, Y l k = b := ⟨_, rfl⟩
          rw [hs] at a0 bs hst hsx
          rw [ht] at g0 bt hst
          rw [ha] at a1 ba
          rw [hd] at g1 bb
          by_cases hxt : x ≤ t
          · have hxt' : decide (x ≤ t) = true := decide_eq_true hxt
            have HE := Lib.hid (show ip s a t d x = r by
              rw [← HU.out, al_hit HI.out.1 (by omega) hlt (by rw [ht]; exact hxt), hkj, hs, ht, ha, hd])
            have HX := Lib.hid (show Ipx s a t d x from ⟨hst, by omega, hxt, bs.1, bt.2, ba.1, ba.2, bb.1, bb.2⟩)
            clear hs ht ha hd bs bt ba bb hst hsx hxt hjl hkl hv2 hj hkj hk1 e3
            have HQ := Lib.hid HI.out.2
            have hd : Q wr wr.drew := (Q.refl wr).drew
            have hb8 : b < wr.heap.size := Nat.lt_of_lt_of_le HB.out HI.out.2.size
            have hrf : Q wr wr := Q.refl wr
            clear HI
            go_wp2_with fail
            go_region_held3 (fun W => W.cell? ⟨b, off + j * 2, none⟩ = some (.int .i64 s) ∧ W.cell? ⟨b, off + j * 2 + 1, none⟩ = some (.int .i64 a) ∧ W.cell? ⟨b, off + k * 2, none⟩ = some (.int .i64 t) ∧ W.cell? ⟨b, off + k * 2 + 1, none⟩ = some (.int .i64 d) ∧ b < W.heap.size ∧ Q wr W)
              (first | exact btK ⟨a0, a1, g0, g1, hb8, hrf⟩ hd | exact btK (by assumption) (by assumption))
              (first | (go_at_call 29; refine (Between_c s a t d x r HE HX _).mono ?_; rintro E w3 ⟨rfl, hq3⟩))
            all_goals go_wp2_with fail
            all_goals go_ret
            all_goals exact ⟨rfl, HQ.out.trans (btQ (by assumption))⟩
          · have hxt' : decide (x ≤ t) = false := decide_eq_false hxt
            have HG := Lib.hid (show ∀ i, i < k + 1 → X l i < x from fun i hi => by
              by_cases e : i = k
              · rw [e, ht]; omega
              · exact HI.out.1 i (by omega))
            clear hs ht ha hd bs bt ba bb hst hsx hxt hjl hkl hv2 hj hkj hk1 e3
            go_wp2_with fail
            go_roundw
            case rel => exact ⟨k + 1, by omega, by omega, by go_num, HG.out, by repeat (first | exact HI.out.2 | refine Q.drewN ?_ _ | refine Q.drew ?_ | refine Q.alloc ?_ _)⟩
            case measure => simp [intOf] <;> omega
        · obtain rfl : k = n := by omega
          have e6 : (j : Int) < (k : Int) := by omega
          have hkj : k - 1 = j := by omega
          obtain ⟨a, ha⟩ : ∃ a, Y l j = a := ⟨_, rfl⟩
          rw [ha] at a1
          have HE := Lib.hid (show a = r by rw [← HU.out, al_hi HI.out.1 (by omega), hkj, ha])
          clear ha hjl hv2 hj hkj hk1 e3
          go_wp2_with fail
          go_ret
          exact ⟨ret_int HE.out, HI.out.2⟩
  · have HE := Lib.hid (show 0 = r by rw [← h.out]; unfold atS; rw [he, if_neg h0])
    have h0' : ((e : Int) != 0) = true := by simp; omega
    clear hc hn hl he h0
    go_enter Try.func18, Try.ntmps18
    go_wp2_with fail
    refine (rCheck_c _ l e HC _ HR.out HL.out).mono ?_; rintro E w1 ⟨rfl, hq1⟩
    have Q1 := Lib.hid hq1
    clear hq1
    go_wp2_with fail
    go_ret
    exact ⟨ret_int HE.out, Q1.out⟩
end Go.Proofs.Ytlkgbfiaeedpfaa
