/- For every grid and any two numbers the law CurveTables returns true: a grid has its values at its numbers, and nowhere a value outside of the range of its values (asked for grids of at most 40 rows of 40 values); and the examples hold. No condition. -/
import Derived.Test.YtlkgbfiaeedpfaaFew
import Derived.Test.YtlkgbfiaeedpfaaCurveBetween
set_option linter.unusedVariables false
set_option linter.unusedSimpArgs false
namespace Go.Proofs.Ytlkgbfiaeedpfaa
open Go.ChangeShapes Go.WideShapes Go.ChangeAt Go.RowKit Cm

theorem va_point {xs ys : List Int} {vs : List (List Int)} (h : okG xs ys vs) (hc : chkG xs ys vs = 0) {i k : Nat} (hi : i < xs.length) (hk : k < ys.length) : vaS xs ys vs (N xs i) (N ys k) = N (R vs i) k := by
  unfold vaS
  rw [if_pos hc, al_at h.upx hi]
  unfold rv
  exact al_at h.upy hk
theorem va_range {xs ys : List Int} {vs : List (List Int)} (h : okG xs ys vs) (hc : chkG xs ys vs = 0) {lo hi : Int} (hb : ∀ i, i < xs.length → ∀ k, k < ys.length → lo ≤ N (R vs i) k ∧ N (R vs i) k ≤ hi) (x y : Int) : lo ≤ vaS xs ys vs x y ∧ vaS xs ys vs x y ≤ hi := by
  unfold vaS
  rw [if_pos hc]
  exact al_bd h.upx h.x1 fun i hi => al_bd h.upy h.y1 fun k hk => hb i hi k hk
/-- low and high bound all values of the rows before i, and the first k of row i -/
def Seen (vs : List (List Int)) (m i k : Nat) (lo hi : Int) : Prop := (∀ a, a < i → ∀ b, b < m → lo ≤ N (R vs a) b ∧ N (R vs a) b ≤ hi) ∧ ∀ b, b < k → lo ≤ N (R vs i) b ∧ N (R vs i) b ≤ hi
theorem seen_next {vs : List (List Int)} {m i k : Nat} {lo hi : Int} (h : Seen vs m i k lo hi) {z : Int} (hz : N (R vs i) k = z) : Seen vs m i (k + 1) (min lo z) (max hi z) :=
  ⟨fun a ha b hb => by have := h.1 a ha b hb; omega, fun b hb => by
    by_cases e : b = k
    · subst e; rw [hz]; omega
    · have := h.2 b (by omega); omega⟩
theorem seen_row {vs : List (List Int)} {m i : Nat} {lo hi : Int} (h : Seen vs m i m lo hi) : Seen vs m (i + 1) 0 lo hi :=
  ⟨fun a ha b hb => by
    by_cases e : a = i
    · subst e; exact h.2 b hb
    · exact h.1 a (by omega) b hb, fun b hb => by omega⟩
theorem fiveK {w W W' : World} {g b1 o1 b2 o2 : Nat} {u1 u2 u3 x y : Value} (k : W.cell? ⟨g, 0, none⟩ = some u1 ∧ W.cell? ⟨g, 1, none⟩ = some u2 ∧ W.cell? ⟨g, 2, none⟩ = some u3 ∧ W.cell? ⟨b1, o1, none⟩ = some x ∧ W.cell? ⟨b2, o2, none⟩ = some y ∧ g < W.heap.size ∧ b1 < W.heap.size ∧ b2 < W.heap.size ∧ Q w W) (hq : Q W W') :
    W'.cell? ⟨g, 0, none⟩ = some u1 ∧ W'.cell? ⟨g, 1, none⟩ = some u2 ∧ W'.cell? ⟨g, 2, none⟩ = some u3 ∧ W'.cell? ⟨b1, o1, none⟩ = some x ∧ W'.cell? ⟨b2, o2, none⟩ = some y ∧ g < W'.heap.size ∧ b1 < W'.heap.size ∧ b2 < W'.heap.size ∧ Q w W' := by
  obtain ⟨h1, h2, h3, h4, h5, h6, h7, h8, h9⟩ := k
  exact ⟨(hq.cell (p := ⟨g, 0, none⟩) h6).trans h1, (hq.cell (p := ⟨g, 1, none⟩) h6).trans h2, (hq.cell (p := ⟨g, 2, none⟩) h6).trans h3, (hq.cell (p := ⟨b1, o1, none⟩) h7).trans h4, (hq.cell (p := ⟨b2, o2, none⟩) h8).trans h5, Nat.lt_of_lt_of_le h6 hq.size, Nat.lt_of_lt_of_le h7 hq.size, Nat.lt_of_lt_of_le h8 hq.size, h9.trans hq⟩
theorem fiveQ {w W : World} {g b1 o1 b2 o2 : Nat} {u1 u2 u3 x y : Value} (k : W.cell? ⟨g, 0, none⟩ = some u1 ∧ W.cell? ⟨g, 1, none⟩ = some u2 ∧ W.cell? ⟨g, 2, none⟩ = some u3 ∧ W.cell? ⟨b1, o1, none⟩ = some x ∧ W.cell? ⟨b2, o2, none⟩ = some y ∧ g < W.heap.size ∧ b1 < W.heap.size ∧ b2 < W.heap.size ∧ Q w W) : Q w W := k.2.2.2.2.2.2.2.2
set_option maxRecDepth 100000 in
set_option maxHeartbeats 3200000 in
theorem tables_walk (w : World) (v u t : Value) (hv : ArgG w v) (hu : ArgI w u) (ht : ArgI w t) : Calls Try.prog 9 #[v, u, t] w fun e w' => e = .returned (.bool true) ∧ Below w.heap.size w w' := by
  obtain ⟨v1, v2, v3, xs, ys, vs, rfl, h1, h2, h3, l1, l2, l3, l4⟩ := hv
  obtain ⟨x, rfl, _⟩ := hu
  obtain ⟨y, rfl, _⟩ := ht
  have R1 := Lib.hid h1
  have R2 := Lib.hid h2
  have R3 := Lib.hid h3
  obtain ⟨A1, c1, rfl, _, _⟩ := h1
  obtain ⟨A2, c2, rfl, _, _⟩ := h2
  obtain ⟨A3, c3, rfl, _⟩ := h3.len
  have L1 := Lib.hid l1
  have L2 := Lib.hid l2
  have L3 := Lib.hid l3
  have L4 := Lib.hid l4
  obtain ⟨e, he⟩ : ∃ e, chkG xs ys vs = e := ⟨_, rfl⟩
  have HE := Lib.hid he
  clear h3 l1 l2 l3 l4
  obtain ⟨n, hn⟩ : ∃ n, xs.length = n := ⟨_, rfl⟩
  obtain ⟨m, hm⟩ : ∃ n, ys.length = n := ⟨_, rfl⟩
  obtain ⟨k, hk⟩ : ∃ n, vs.length = n := ⟨_, rfl⟩
  have HN := Lib.hid hn
  have HM := Lib.hid hm
  have HK := Lib.hid hk
  rw [hn] at R1
  rw [hm] at R2
  rw [hk] at R3
  rw [hn, hm, hk]
  clear hn hm hk
  obtain ⟨W0, hW0⟩ : ∃ W, w.alloc (.cells #[.slice A1 n c1, .slice A2 m c2, .slice A3 k c3] 34) = W := ⟨_, rfl⟩
  have Q0 := Lib.hid (show Q w W0 by rw [← hW0]; exact (Q.refl w).alloc _)
  have B0 := Lib.hid (show box3 W0 w.heap.size (.slice A1 n c1) (.slice A2 m c2) (.slice A3 k c3) by rw [← hW0]; exact box3_new w (.slice A1 n c1) (.slice A2 m c2) (.slice A3 k c3) 34)
  obtain ⟨t0', t1', t2', t3'⟩ := B0.out
  go_enter Try.func9, Try.ntmps9
  go_wp2_with fail
  refine (few_c _ _ _ xs ys vs _ (RdG.q R1.out Q0.out) (RdG.q R2.out Q0.out) (R3.out.q Q0.out) L1.out L2.out L3.out L4).mono ?_; rintro E w1 ⟨fb, rfl, hfb, hq1⟩
  have Q1 := Lib.hid hq1
  obtain ⟨b0, b1, b2, b3⟩ := B0.out.q hq1
  have QA := Lib.hid (Q0.out.trans hq1)
  clear hq1 hW0 t0' t1' t2' t3'
  cases fb with
  | false =>
    clear hfb he
    go_wp2_with fail
    refine (awake_c _).mono ?_; rintro E w6 ⟨rfl, hq6⟩
    go_wp2_with fail
    go_ret
    exact ⟨rfl, QA.out.trans hq6⟩
  | true =>
    have HG := Lib.hid (hfb rfl)
    clear hfb
    by_cases g0 : e = 0
    · have t0 : ((e : Int) != 0) = false := by subst g0; rfl
      have HZ := Lib.hid (he.trans g0)
      have HO := Lib.hid (chkG_zero (he.trans g0))
      have hb0 : (1 ≤ n ∧ n ≤ 16) ∧ (1 ≤ m ∧ m ≤ 16) ∧ n = k := by have g := HO.out; have g1 := g.x1; have g2 := g.x16; have g3 := g.y1; have g4 := g.y16; have g5 := g.len; have := HN.out; have := HM.out; have := HK.out; omega
      obtain ⟨⟨hn1, hn16⟩, ⟨hm1, hm16⟩, hkn⟩ := hb0
      subst hkn
      clear g0 he
      go_wp2_with fail
      refine (rCheckGrid_c _ _ _ xs ys vs e HE _ (RdG.q R1.out QA.out) (RdG.q R2.out QA.out) (R3.out.q QA.out) HG).mono ?_; rintro E w2 ⟨rfl, hq2⟩
      have Q2 := Lib.hid (Q1.out.trans hq2)
      have QB := Lib.hid (QA.out.trans hq2)
      obtain ⟨d0, d1, d2, d3⟩ := B0.out.q Q2.out
      clear hq2 b0 b1 b2 b3
      obtain ⟨rb, ro, Ar, cr, rfl, hrb, hcc, cj, hlc, hri⟩ := R3.out.at QB.out (i := 0) (by rw [HK.out]; omega)
      have hq : (R vs 0).length = m := by rw [HO.out.row 0 (by rw [HK.out]; omega), HM.out]
      rw [hq] at cj hlc hri
      obtain ⟨sb, so, rfl, hsb, hsc, ck⟩ := RdI.at hri (Q.refl _) (i := 0) (by rw [hq]; omega)
      obtain ⟨z, hz⟩ : ∃ z, N (R vs 0) 0 = z := ⟨_, rfl⟩
      rw [hz] at ck
      rw [Nat.add_zero] at cj ck
      have i0 : (0 : Int) < (n : Int) := by omega
      have i1 : (0 : Int) < (m : Int) := by omega
      have HZ0 := Lib.hid hz
      clear hq hri hz
      go_wp2_with fail
      go_quiet (fail)
      go_wp2_with fail
      clear cj ck d0 d1 d2 d3 hrb hsb
      go_loopw [7, 8, 9] (fun u7 u8 u9 wr => ∃ (i : Nat) (lo hi : Int), i ≤ n ∧ u7 = .int .i64 lo ∧ u8 = .int .i64 hi ∧ u9 = .int .i64 i ∧ Hid (Seen vs m i 0 lo hi ∧ Q W0 wr)) (fun _ _ u9 _ => n - (intOf u9).toNat)
      case atStart => exact ⟨0, z, z, Nat.zero_le _, rfl, rfl, rfl, ⟨fun a ha => by omega, fun b hb => by omega⟩, Q2.out.drewN _⟩
      case round =>
        obtain ⟨i, lo, hi, hi1, rfl, rfl, rfl, HI⟩ := hrel
        obtain ⟨d0, d1, d2, d3⟩ := B0.out.q HI.out.2
        by_cases hlt : i < n
        · have hin : (i : Int) < (n : Int) := by omega
          have i3 : (0 : Int) ≤ (i : Int) := by omega
          have hxl : i < xs.length := by rw [HN.out]; exact hlt
          obtain ⟨xb, xo, rfl, hxb, hxc, cx⟩ := R1.out.at (Q0.out.trans HI.out.2) hxl
          obtain ⟨p, hp⟩ : ∃ z, N xs i = z := ⟨_, rfl⟩
          have HPX := Lib.hid hp
          have HXB := Lib.hid hxb
          clear hp cx hxb hxl
          go_wp2_with fail
          clear d0 d1 d2 d3
          go_loopw [7, 8, 10] (fun u7 u8 u10 wx => ∃ (j : Nat) (lo hi : Int), j ≤ m ∧ u7 = .int .i64 lo ∧ u8 = .int .i64 hi ∧ u10 = .int .i64 j ∧ Hid (Seen vs m i j lo hi ∧ Q W0 wx)) (fun _ _ u10 _ => m - (intOf u10).toNat)
          case atStart => exact ⟨0, lo, hi, Nat.zero_le _, rfl, rfl, rfl, HI.out.1, HI.out.2⟩
          case round =>
            obtain ⟨j, lo2, hi2, hj1, rfl, rfl, rfl, HJ⟩ := hrel
            obtain ⟨d0, d1, d2, d3⟩ := B0.out.q HJ.out.2
            by_cases hjm : j < m
            · have hjn : (j : Int) < (m : Int) := by omega
              have i4 : (0 : Int) ≤ (j : Int) := by omega
              have QW := Lib.hid (Q0.out.trans HJ.out.2)
              have hiv : i < vs.length := by rw [HK.out]; exact hlt
              have hxl : i < xs.length := by rw [HN.out]; exact hlt
              have hyl : j < ys.length := by rw [HM.out]; exact hjm
              obtain ⟨rb2, ro2, Aj, cr2, hv2, hrb, hrc, cj, hlc, hri⟩ := R3.out.at QW.out hiv
              obtain ⟨e1, e2⟩ : rb = rb2 ∧ ro = ro2 := by injection hv2 with e1; injection e1 with e1 e2; exact ⟨e1, e2⟩
              subst e1 e2
              have hq : (R vs i).length = m := by rw [HO.out.row i hiv, HM.out]
              rw [hq] at cj hlc hri
              obtain ⟨sb2, so2, rfl, hsb, hsc2, ck⟩ := RdI.at hri (Q.refl _) (i := j) (by rw [hq]; exact hjm)
              obtain ⟨xb2, xo2, hv3, hxb2, _, cx⟩ := R1.out.at QW.out hxl
              obtain ⟨e1, e2⟩ : xb = xb2 ∧ xo = xo2 := by injection hv3 with e1; injection e1 with e1 e2; exact ⟨e1, e2⟩
              subst e1 e2
              obtain ⟨yb, yo, rfl, hyb, hyc, cy⟩ := R2.out.at QW.out hyl
              rw [HPX.out] at cx
              obtain ⟨q, hq2⟩ : ∃ z, N ys j = z := ⟨_, rfl⟩
              rw [hq2] at cy
              obtain ⟨z2, hz2⟩ : ∃ z, N (R vs i) j = z := ⟨_, rfl⟩
              rw [hz2] at ck
              have HVP := Lib.hid (show vaS xs ys vs p q = z2 by rw [← HPX.out, ← hq2, ← hz2]; exact va_point HO.out HZ.out hxl hyl)
              obtain ⟨mn, hmn⟩ : ∃ y, min lo2 z2 = y := ⟨_, rfl⟩
              obtain ⟨mx, hmx⟩ : ∃ y, max hi2 z2 = y := ⟨_, rfl⟩
              have HSN := Lib.hid (show Seen vs m i (j + 1) mn mx by rw [← hmn, ← hmx]; exact seen_next HJ.out.1 hz2)
              have rmn : ∀ ts ty W, (Builtin.min_ ts ty #[.int .i64 lo2, .int .i64 z2]).run Try.prog W = .ok (.int .i64 mn) W := fun ts ty W => min_run ts ty lo2 z2 mn W hmn
              have rmx : ∀ ts ty W, (Builtin.max_ ts ty #[.int .i64 hi2, .int .i64 z2]).run Try.prog W = .ok (.int .i64 mx) W := fun ts ty W => max_run ts ty hi2 z2 mx W hmx
              have K3 := Lib.hid (fun (W : World) (hW : Q wr W) => Value_c _ _ _ xs ys vs p q z2 HVP W (RdG.q R1.out (QW.out.trans hW)) (RdG.q R2.out (QW.out.trans hW)) (R3.out.q (QW.out.trans hW)) HG)
              have tz : (z2 != z2) = false := by simp
              have hxw : xb < wr.heap.size := Nat.lt_of_lt_of_le HXB.out QW.out.size
              have hyw : yb < wr.heap.size := Nat.lt_of_lt_of_le hyb QW.out.size
              have HJQ := Lib.hid HJ.out.2
              clear hiv hxl hyl hv2 hrb hq hri hsb hv3 hxb2 hyb hq2 hz2 hmn hmx HJ
              have hrf : Q wr wr := Q.refl wr
              have hd : Q wr wr.drew := (Q.refl wr).drew
              go_wp2_with fail
              go_region_held3 (fun W => W.cell? ⟨w.heap.size, 0, none⟩ = some (.slice (some ⟨xb, xo, none⟩) n c1) ∧ W.cell? ⟨w.heap.size, 1, none⟩ = some (.slice (some ⟨yb, yo, none⟩) m c2) ∧ W.cell? ⟨w.heap.size, 2, none⟩ = some (.slice (some ⟨rb, ro, none⟩) n c3) ∧ W.cell? ⟨xb, xo + i, none⟩ = some (.int .i64 p) ∧ W.cell? ⟨yb, yo + j, none⟩ = some (.int .i64 q) ∧ w.heap.size < W.heap.size ∧ xb < W.heap.size ∧ yb < W.heap.size ∧ Q wr W)
                (first | exact fiveK ⟨d0, d1, d2, cx, cy, d3, hxw, hyw, hrf⟩ hd | exact fiveK (by assumption) (by assumption))
                (first | (go_at_call 24; refine (K3.out _ (fiveQ (by assumption))).mono ?_; rintro E w3 ⟨rfl, hq3⟩))
              have hS : w3.cell? ⟨w.heap.size, 0, none⟩ = some (.slice (some ⟨xb, xo, none⟩) n c1) ∧ w3.cell? ⟨w.heap.size, 1, none⟩ = some (.slice (some ⟨yb, yo, none⟩) m c2) ∧ w3.cell? ⟨w.heap.size, 2, none⟩ = some (.slice (some ⟨rb, ro, none⟩) n c3) ∧ w3.cell? ⟨xb, xo + i, none⟩ = some (.int .i64 p) ∧ w3.cell? ⟨yb, yo + j, none⟩ = some (.int .i64 q) ∧ w.heap.size < w3.heap.size ∧ xb < w3.heap.size ∧ yb < w3.heap.size ∧ Q wr w3 := by assumption
              have Q3 := Lib.hid (HJQ.out.trans (fiveQ hS))
              clear hS d0 d1 d2 d3 cx cy cj ck
              go_wp2_with fail
              go_roundw
              case rel => exact ⟨j + 1, mn, mx, by omega, rfl, rfl, by go_num, HSN.out, Q3.out⟩
              case measure => simp [intOf] <;> omega
            · obtain rfl : j = m := by omega
              have HS2 := Lib.hid (seen_row HJ.out.1)
              have HQ2 := Lib.hid HJ.out.2
              go_wp2_with fail
              go_roundw
              case rel => exact ⟨i + 1, lo2, hi2, by omega, rfl, rfl, by go_num, HS2.out, HQ2.out⟩
              case measure => simp [intOf] <;> omega
        · obtain rfl : i = n := by omega
          obtain ⟨r, hr⟩ : ∃ r, vaS xs ys vs x y = r := ⟨_, rfl⟩
          have HRR := Lib.hid hr
          have hrg := va_range HO.out HZ.out (lo := lo) (hi := hi) (fun a ha b hb => HI.out.1.1 a (by rw [← HN.out]; exact ha) b (by rw [← HM.out]; exact hb)) x y
          rw [hr] at hrg
          have r1 : decide (lo ≤ r) = true := decide_eq_true hrg.1
          have r2 : decide (r ≤ hi) = true := decide_eq_true hrg.2
          have QW := Lib.hid (Q0.out.trans HI.out.2)
          clear hr hrg HI
          go_wp2_with fail
          refine (Value_c _ _ _ xs ys vs x y r HRR _ (RdG.q R1.out QW.out) (RdG.q R2.out QW.out) (R3.out.q QW.out) HG).mono ?_; rintro E w3 ⟨rfl, hq3⟩
          have Q3 := Lib.hid (QW.out.trans hq3)
          clear hq3 d0 d1 d2 d3
          go_wp2_with fail
          refine (awake_c _).mono ?_; rintro E w6 ⟨rfl, hq6⟩
          go_wp2_with fail
          go_ret
          exact ⟨rfl, Q3.out.trans hq6⟩
    · have t0 : ((e : Int) != 0) = true := by simp; omega
      clear g0 he
      go_wp2_with fail
      refine (rCheckGrid_c _ _ _ xs ys vs e HE _ (RdG.q R1.out QA.out) (RdG.q R2.out QA.out) (R3.out.q QA.out) HG).mono ?_; rintro E w2 ⟨rfl, hq2⟩
      have QB := Lib.hid (QA.out.trans hq2)
      clear hq2 b0 b1 b2 b3
      go_wp2_with fail
      refine (awake_c _).mono ?_; rintro E w6 ⟨rfl, hq6⟩
      go_wp2_with fail
      go_ret
      exact ⟨rfl, QB.out.trans hq6⟩

namespace curveTables
theorem own : ownKnob Try.prog.godebug = none := by kernel_rfl
set_option maxRecDepth 100000 in
set_option maxHeartbeats 800000 in
theorem lifted (os : Os) (started : os.Started) (H : Type) (enc : TypeId × Value → H) :
    ReturnsInHanded {} Try.checked os 9 .any (Rows.curveTablesSpec.pre6 enc Try.prog Try.f9 Rows.curveTablesRow.domain false) (Rows.curveTablesSpec.post enc Try.prog Try.f9 false true false false) := by
  refine returnsInHanded_of_change (C := Try.checked) own started (by kernel_rfl) Try.func9
    (ChangeSpec.witness6 (enc := enc) (C := Try.checked) false ⟨#[], #[.agg #[.slice none 0 0, .slice none 0 0, .slice none 0 0], .int .i64 0, .int .i64 0], []⟩ 8 (by kernel_rfl) (by kernel_rfl) (by kernel_rfl) (by kernel_rfl)) ?_
  intro W base args ds gs before hval0 hW hcnd _
  have hval : ∀ (j : Nat) t v, Try.f9.params[j]? = some t → args[j]? = some v → Value.okWide Try.prog W .any base t v := hval0
  have hW' := hW
  obtain ⟨p, q, hA0, hV, rfl, hfz, hnd⟩ := hW
  have hA : DataW.TrodAll enc Try.prog W 0 (fun _ => true) true Try.f9.params.toList args.toList ds p := hA0
  rw [Try.params9] at hA hval
  obtain ⟨v0, vs0, d0, ds0, p0, q0, hargs, rfl, rfl, h0, r0⟩ := trodAll_cons hA
  obtain ⟨v1, vs1, d1, ds1, p1, q1, rfl, rfl, rfl, h1, r1⟩ := trodAll_cons r0
  obtain ⟨v2, vs2, d2, ds2, p2, q2, rfl, rfl, rfl, h2, r2⟩ := trodAll_cons r1
  obtain ⟨rfl, rfl, rfl⟩ := trodAll_nil r2
  obtain rfl : args = #[v0, v1, v2] := by cases args; simp_all
  obtain ⟨rfl, rfl⟩ := trodVars_none hV
  have a0 := open_grid (hval 0 34 v0 rfl rfl) h0
  have a1 := open_i64 (hval 1 3 v1 rfl rfl) h1
  have a2 := open_i64 (hval 2 3 v2 rfl rfl) h2
  clear hA0 hval0
  refine (tables_walk W v0 v1 v2 a0 a1 a2).mono fun e W' ⟨he, bel⟩ => ?_
  subst he
  exact ⟨_, rfl, _, _, _, [], _, [], hW', trodAll_mk1 (shut_bool Try.underlying4 _), (trodAll_cons_mk (stays (by kernel_rfl) (of_decide_eq_true (by kernel_rfl)) h0 bel) (trodAll_cons_mk (stays (by kernel_rfl) (of_decide_eq_true (by kernel_rfl)) h1 bel) (trodAll_cons_mk (stays (by kernel_rfl) (of_decide_eq_true (by kernel_rfl)) h2 bel) trodAll_mk0))), rfl, bel.frame _, fun h => by cases h⟩
theorem over : Rows.curveTablesRow.holds Try.pinned (OpenSpec.ofChange Rows.curveTablesSpec) :=
  OpenClaim.holds_of_wide 9 Try.f9 rfl rfl rfl rfl rfl rfl rfl ⟨rfl, rfl, rfl, rfl, rfl⟩ rfl rfl rfl rfl rfl (by kernel_rfl) Try.func9 (by kernel_rfl)
    (of_decide_eq_true (by kernel_rfl)) (by unfold Func.isWrapper; first | (rw [if_pos (by decide +kernel)]; kernel_rfl) | (rw [if_neg (by decide +kernel)]; exact ⟨rfl, rfl⟩))
    (fun os started H enc _ => lifted os started H enc)
theorem proved : Rows.CurveTablesSaid := over
end curveTables

end Go.Proofs.Ytlkgbfiaeedpfaa
