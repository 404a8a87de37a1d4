/- The contracts of both Reaches. -/
import Derived.Test.YtlkgbfiaeedpfaaRAt
set_option linter.unusedVariables false
set_option linter.unusedSimpArgs false
namespace Go.Proofs.Ytlkgbfiaeedpfaa
open Go.ChangeShapes Go.WideShapes Go.ChangeAt Go.RowKit Cm

def FourC (w0 : World) (g h : Nat) (u1 u2 u3 u4 : Value) (W : World) : Prop := W.cell? ⟨g, 0, none⟩ = some u1 ∧ W.cell? ⟨g, 1, none⟩ = some u2 ∧ W.cell? ⟨h, 0, none⟩ = some u3 ∧ W.cell? ⟨h, 1, none⟩ = some u4 ∧ g < W.heap.size ∧ h < W.heap.size ∧ Q w0 W
theorem fcK {w W W' : World} {g h : Nat} {u1 u2 u3 u4 : Value} (k : W.cell? ⟨g, 0, none⟩ = some u1 ∧ W.cell? ⟨g, 1, none⟩ = some u2 ∧ W.cell? ⟨h, 0, none⟩ = some u3 ∧ W.cell? ⟨h, 1, none⟩ = some u4 ∧ g < W.heap.size ∧ h < W.heap.size ∧ Q w W) (hq : Q W W') :
    W'.cell? ⟨g, 0, none⟩ = some u1 ∧ W'.cell? ⟨g, 1, none⟩ = some u2 ∧ W'.cell? ⟨h, 0, none⟩ = some u3 ∧ W'.cell? ⟨h, 1, none⟩ = some u4 ∧ g < W'.heap.size ∧ h < W'.heap.size ∧ Q w W' := by
  obtain ⟨h1, h2, h3, h4, h5, h6, h7⟩ := k
  exact ⟨(hq.cell (p := ⟨g, 0, none⟩) h5).trans h1, (hq.cell (p := ⟨g, 1, none⟩) h5).trans h2, (hq.cell (p := ⟨h, 0, none⟩) h6).trans h3, (hq.cell (p := ⟨h, 1, none⟩) h6).trans h4, Nat.lt_of_lt_of_le h5 hq.size, Nat.lt_of_lt_of_le h6 hq.size, h7.trans hq⟩
theorem fcQ {w W : World} {g h : Nat} {u1 u2 u3 u4 : Value} (k : W.cell? ⟨g, 0, none⟩ = some u1 ∧ W.cell? ⟨g, 1, none⟩ = some u2 ∧ W.cell? ⟨h, 0, none⟩ = some u3 ∧ W.cell? ⟨h, 1, none⟩ = some u4 ∧ g < W.heap.size ∧ h < W.heap.size ∧ Q w W) : Q w W := k.2.2.2.2.2.2
theorem ret_ib {a b : Int} {c d : Bool} (h : a = b) (k : c = d) : Ending.returned (.tuple #[.int .i64 a, .bool c]) = .returned (.tuple #[.int .i64 b, .bool d]) := by rw [h, k]
structure ReM (s a t b y d1 d2 d3 d4 f : Int) : Prop where
  big3 : big d3
  pos4 : 0 < d4
  fq : d3 / d4 = f
theorem re_math {s a t b y : Int} (hst : s < t) (hay : a < y) (hyb : y ≤ b) (s1 : -1000000 ≤ s) (t1 : t ≤ 1000000) (a1 : -1000000 ≤ a) (b2 : b ≤ 1000000) :
    ∃ d0 d1 d2 d3 d4 f : Int, wrap64 (a - y) = d1 ∧ wrap64 (t - s) = d2 ∧ wrap64 (d1 * d2) = d3 ∧ wrap64 (b - a) = d4 ∧ big d3 ∧ 0 < d4 ∧ d3 / d4 = f ∧ wrap64 (s - f) = rx s a t b y ∧ wrap64 (y - a) = d0 ∧ wrap64 (-d0) = d1 := by
  have hbig := mul_big (a := a - y) (b := t - s) (by omega) (by omega) (by omega) (by omega)
  have hfb := div_big (a := (a - y) * (t - s)) (b := b - a) (by omega) hbig.1
  refine ⟨y - a, a - y, t - s, (a - y) * (t - s), b - a, _, IntWalk.wrap64_in _ (by omega), IntWalk.wrap64_in _ (by omega), IntWalk.wrap64_in _ (by omega), IntWalk.wrap64_in _ (by omega), hbig.1, by omega, rfl, ?_, ?_, ?_⟩
  · unfold rx; exact IntWalk.wrap64_in _ (by omega)
  · exact IntWalk.wrap64_in _ (by omega)
  · rw [show -(y - a) = a - y by omega]; exact IntWalk.wrap64_in _ (by omega)
set_option maxRecDepth 100000 in
set_option maxHeartbeats 1600000 in
theorem Reach_c (v : Value) (l : List P) (y x : Int) (o : Bool) (h : Hid (reS l y = (x, o))) (w : World) (hr : RdP w v l) (hl : l.length ≤ maxLen) : Calls Try.prog 19 #[v, .int .i64 y] w fun e w' => e = .returned (.tuple #[.int .i64 x, .bool o]) ∧ Q w w' := by
  have HR := Lib.hid hr
  have HL := Lib.hid hl
  obtain ⟨A, c, rfl, hc, _⟩ := hr
  obtain ⟨n, hn⟩ : ∃ n, l.length = n := ⟨_, rfl⟩
  have HN := Lib.hid hn
  rw [hn] at HR
  rw [hn]
  unfold maxLen at hl
  obtain ⟨e, he⟩ : ∃ e, chk l = e := ⟨_, rfl⟩
  have HC := Lib.hid he
  by_cases h0 : e = 0
  · have HO := Lib.hid (chk_zero (he.trans h0))
    have HZ := Lib.hid (he.trans h0)
    have hn0 : 1 ≤ n ∧ n ≤ 16 := by have g := HO.out; have g1 := g.one; have g2 := g.few; omega
    obtain ⟨hn1, hn16⟩ := hn0
    have h0' : ((e : Int) != 0) = false := by subst h0; rfl
    clear hn hl he h0 hc
    go_enter Try.func19, Try.ntmps19
    go_wp2_with fail
    refine (Check_c _ l e HC _ HR.out HL.out).mono ?_; rintro E w1 ⟨rfl, hq1⟩
    have Q1 := Lib.hid hq1
    clear hq1
    go_wp2_with fail
    go_loopw [14] (fun u14 wr => ∃ k : Nat, k ≤ n ∧ u14 = .int .i64 k ∧ Hid ((∀ i, i < k → Y l i < y) ∧ Q w wr)) (fun u14 _ => n - (intOf u14).toNat)
    case atStart => exact ⟨0, Nat.zero_le _, rfl, fun i hi => by omega, Q1.out⟩
    case round =>
      obtain ⟨k, hk, rfl, HI⟩ := hrel
      by_cases hlt : k < n
      · have hkl : k < l.length := by rw [HN.out]; exact hlt
        obtain ⟨b, off, rfl, hb, hcc, c0, c1⟩ := HR.out.at HI.out.2 hkl
        obtain ⟨t, ht⟩ : ∃ x, X l k = x := ⟨_, rfl⟩
        obtain ⟨d, hd⟩ : ∃ x, Y l k = x := ⟨_, rfl⟩
        rw [ht] at c0
        rw [hd] at c1
        by_cases hdy : d < y
        · have hdy' : decide (d < y) = true := decide_eq_true hdy
          have HG := Lib.hid (show ∀ i, i < k + 1 → Y l i < y from fun i hi => by
            by_cases g : i = k
            · rw [g, hd]; exact hdy
            · exact HI.out.1 i (by omega))
          clear hkl ht hd hdy
          go_wp2_with fail
          go_roundw
          case rel => exact ⟨k + 1, by omega, by go_num, HG.out, by repeat (first | exact HI.out.2 | refine Q.drewN ?_ _ | refine Q.drew ?_ | refine Q.alloc ?_ _)⟩
          case measure => simp [intOf] <;> omega
        · have hdy' : decide (d < y) = false := decide_eq_false hdy
          by_cases hk0 : k = 0
          · have HE := Lib.hid (show (t, true) = (x, o) by rw [← h.out, re_zero HZ.out HO.out.one (by subst hk0; rw [hd]; omega), ← ht, hk0])
            have hz0 : ((k : Int) == 0) = true := by subst hk0; rfl
            clear hkl ht hd hdy hk0
            go_wp2_with fail
            go_ret2
            exact ⟨ret_ib (congrArg Prod.fst HE.out) (congrArg Prod.snd HE.out), by repeat (first | exact HI.out.2 | refine Q.drewN ?_ _ | refine Q.drew ?_ | refine Q.alloc ?_ _)⟩
          · obtain ⟨j, hj⟩ : ∃ j, k = j + 1 := ⟨k - 1, by omega⟩
            have hkj : k - 1 = j := by omega
            have hjl : j < l.length := by omega
            obtain ⟨b2, off2, hv2, hb2, _, a0, a1⟩ := HR.out.at HI.out.2 hjl
            obtain ⟨e1, e2⟩ : b = b2 ∧ off = off2 := by injection hv2 with e1; injection e1 with e1 e2; exact ⟨e1, e2⟩
            subst e1 e2
            obtain ⟨s, hs⟩ : ∃ x, X l j = x := ⟨_, rfl⟩
            obtain ⟨a, ha⟩ : ∃ x, Y l j = x := ⟨_, rfl⟩
            have hst := HO.out.up k (by omega) hkl
            have bs := HO.out.inx j hjl
            have bt := HO.out.inx k hkl
            have ba := HO.out.iny j hjl
            have bb := HO.out.iny k hkl
            have hay := HI.out.1 j (by omega)
            have hre := re_hit HZ.out (y := y) (k := k) (by omega) hkl (by rw [hd]; omega) HI.out.1
            rw [hkj, hs, ha, ht, hd] at hre
            rw [hkj] at hst
            rw [hs] at a0 bs hst
            rw [ha] at a1 ba hay
            rw [ht] at bt hst
            rw [hd] at bb
            obtain ⟨d0, d1, d2, d3, d4, f, r1, r2, r3, r4, hb3, hp4, hf, r5, _, _⟩ := re_math (s := s) (a := a) (t := t) (b := d) (y := y) hst hay (by omega) bs.1 bt.2 ba.1 bb.2
            obtain ⟨z, hz⟩ : ∃ z, rx s a t d y = z := ⟨_, rfl⟩
            rw [hz] at r5 hre
            have HE := Lib.hid (show (z, true) = (x, o) by rw [← h.out, hre])
            have HF := Lib.hid hf
            have HB := Lib.hid hb3
            have H4 := Lib.hid hp4
            have hz0 : ((k : Int) == 0) = false := by simp; omega
            have e3 : (k : Int) - 1 = (j : Int) := by omega
            have e4 : IntKind.i64.wrap ((k : Int) - 1) = (j : Int) := by rw [e3]; exact IntWalk.i64_in _ (by omega)
            have e6 : (j : Int) < (n : Int) := by omega
            have a0a := old_cell (.cells #[.int .i64 t, .int .i64 d] 40) (Nat.lt_of_lt_of_le hb HI.out.2.size) a0
            have a1a := old_cell (.cells #[.int .i64 t, .int .i64 d] 40) (Nat.lt_of_lt_of_le hb HI.out.2.size) a1
            clear hkl ht hd hdy hk0 hj hkj hjl hv2 hs ha hst bs bt ba bb hay hre hf hb3 hp4 hz e3
            have HQ := Lib.hid HI.out.2
            clear HI
            go_wp2_with fail
            have v1 : ((wr.alloc (.cells #[.int .i64 t, .int .i64 d] 40)).alloc (.cells #[.int .i64 s, .int .i64 a] 40)).cell? ⟨wr.heap.size + 1, 0, none⟩ = some (.int .i64 s) := by simp [go_sem]
            have v2 : ((wr.alloc (.cells #[.int .i64 t, .int .i64 d] 40)).alloc (.cells #[.int .i64 s, .int .i64 a] 40)).cell? ⟨wr.heap.size + 1, 1, none⟩ = some (.int .i64 a) := by simp [go_sem]
            have v3 : ((wr.alloc (.cells #[.int .i64 t, .int .i64 d] 40)).alloc (.cells #[.int .i64 s, .int .i64 a] 40)).cell? ⟨wr.heap.size, 0, none⟩ = some (.int .i64 t) := by simp [go_sem]
            have v4 : ((wr.alloc (.cells #[.int .i64 t, .int .i64 d] 40)).alloc (.cells #[.int .i64 s, .int .i64 a] 40)).cell? ⟨wr.heap.size, 1, none⟩ = some (.int .i64 d) := by simp [go_sem]
            have v5 : wr.heap.size + 1 < ((wr.alloc (.cells #[.int .i64 t, .int .i64 d] 40)).alloc (.cells #[.int .i64 s, .int .i64 a] 40)).heap.size := by simp
            have v6 : wr.heap.size < ((wr.alloc (.cells #[.int .i64 t, .int .i64 d] 40)).alloc (.cells #[.int .i64 s, .int .i64 a] 40)).heap.size := by simp; omega
            have v7 : Q wr ((wr.alloc (.cells #[.int .i64 t, .int .i64 d] 40)).alloc (.cells #[.int .i64 s, .int .i64 a] 40)) := ((Q.refl wr).alloc _).alloc _
            clear a0 a1 c0 c1 a0a a1a
            generalize ((wr.alloc (.cells #[.int .i64 t, .int .i64 d] 40)).alloc (.cells #[.int .i64 s, .int .i64 a] 40)) = W0 at v1 v2 v3 v4 v5 v6 v7 ⊢
            go_quiet ((go_at_call 30; exact Calls.quiet_of_same (floor_e d3 d4 f H4.out HB.out HF _)))
            go_wp2_with fail
            go_ret2
            exact ⟨ret_ib (r5.trans (congrArg Prod.fst HE.out)) (congrArg Prod.snd HE.out), HQ.out.trans (v7.drewN _)⟩
      · obtain rfl : k = n := by omega
        have HE := Lib.hid (show (0, false) = (x, o) by rw [← h.out, re_none (by rw [HN.out]; exact HI.out.1)])
        go_wp2_with fail
        go_ret2
        exact ⟨ret_ib (congrArg Prod.fst HE.out) (congrArg Prod.snd HE.out), HI.out.2⟩
  · have HE := Lib.hid (show (0, false) = (x, o) by rw [← h.out, re_bad (by rw [he]; exact h0)])
    have h0' : ((e : Int) != 0) = true := by simp; omega
    clear hc hn hl he h0
    go_enter Try.func19, Try.ntmps19
    go_wp2_with fail
    refine (Check_c _ l e HC _ HR.out HL.out).mono ?_; rintro E w1 ⟨rfl, hq1⟩
    have Q1 := Lib.hid hq1
    clear hq1
    go_wp2_with fail
    go_ret2
    exact ⟨ret_ib (congrArg Prod.fst HE.out) (congrArg Prod.snd HE.out), Q1.out⟩
theorem al1 {w : World} {b off : Nat} {u : Value} (hb : b < w.heap.size) (h : w.cell? ⟨b, off, none⟩ = some u) : ∀ O, (w.alloc O).cell? ⟨b, off, none⟩ = some u := fun O => old_cell O hb h
theorem al2 {w : World} {b off : Nat} {u : Value} (hb : b < w.heap.size) (h : w.cell? ⟨b, off, none⟩ = some u) : ∀ O O', ((w.alloc O).alloc O').cell? ⟨b, off, none⟩ = some u := fun O O' => old_cell O' (by show b < (w.heap.push _).size; simp; omega) (old_cell O hb h)
set_option maxRecDepth 100000 in
set_option maxHeartbeats 1600000 in
theorem rReach_c (v : Value) (l : List P) (y x : Int) (o : Bool) (h : Hid (reS l y = (x, o))) (w : World) (hr : RdP w v l) (hl : l.length ≤ maxLen) : Calls Try.prog 20 #[v, .int .i64 y] w fun e w' => e = .returned (.tuple #[.int .i64 x, .bool o]) ∧ Q w w' := by
  have HR := Lib.hid hr
  have HL := Lib.hid hl
  obtain ⟨A, c, rfl, hc, _⟩ := hr
  obtain ⟨n, hn⟩ : ∃ n, l.length = n := ⟨_, rfl⟩
  have HN := Lib.hid hn
  rw [hn] at HR
  rw [hn]
  unfold maxLen at hl
  obtain ⟨e, he⟩ : ∃ e, chk l = e := ⟨_, rfl⟩
  have HC := Lib.hid he
  by_cases h0 : e = 0
  · have HO := Lib.hid (chk_zero (he.trans h0))
    have HZ := Lib.hid (he.trans h0)
    have hn0 : 1 ≤ n ∧ n ≤ 16 := by have g := HO.out; have g1 := g.one; have g2 := g.few; omega
    obtain ⟨hn1, hn16⟩ := hn0
    have h0' : ((e : Int) != 0) = false := by subst h0; rfl
    obtain ⟨b, off, rfl, hb, hcc, c0, c1⟩ := HR.out.at (Q.refl w) (i := 0) (by omega)
    have HB0 := Lib.hid hb
    obtain ⟨x0, hx0⟩ : ∃ z, X l 0 = z := ⟨_, rfl⟩
    obtain ⟨y0, hy0⟩ : ∃ z, Y l 0 = z := ⟨_, rfl⟩
    rw [hx0] at c0
    rw [hy0] at c1
    rw [Nat.zero_mul, Nat.add_zero] at c0 c1
    have i0 : (0 : Int) < (n : Int) := by omega
    have C0 := Lib.hid c0
    have C1 := Lib.hid c1
    clear c0 c1 hn hl he h0 hc
    by_cases hy : y ≤ y0
    · have HE := Lib.hid (show (x0, true) = (x, o) by rw [← h.out, re_zero HZ.out HO.out.one (by rw [hy0]; exact hy), hx0])
      have hy' : decide (y ≤ y0) = true := decide_eq_true hy
      clear hx0 hy0 hy
      go_enter Try.func20, Try.ntmps20
      go_wp2_with fail
      refine (rCheck_c _ l e HC _ HR.out HL.out).mono ?_; rintro E w1 ⟨rfl, hq1⟩
      have Q1 := Lib.hid hq1
      have e0 := (hq1.cell (p := ⟨b, off, none⟩) HB0.out).trans C0.out
      have e1 := (hq1.cell (p := ⟨b, off + 1, none⟩) HB0.out).trans C1.out
      clear hq1
      go_wp2_with fail
      go_ret2
      exact ⟨ret_ib (congrArg Prod.fst HE.out) (congrArg Prod.snd HE.out), Q1.out⟩
    · have hy' : decide (y ≤ y0) = false := decide_eq_false hy
      have HY0 := Lib.hid (show Y l 0 < y by rw [hy0]; omega)
      clear hx0 hy0 hy
      go_enter Try.func20, Try.ntmps20
      go_wp2_with fail
      refine (rCheck_c _ l e HC _ HR.out HL.out).mono ?_; rintro E w1 ⟨rfl, hq1⟩
      have Q1 := Lib.hid hq1
      have e0 := (hq1.cell (p := ⟨b, off, none⟩) HB0.out).trans C0.out
      have e1 := (hq1.cell (p := ⟨b, off + 1, none⟩) HB0.out).trans C1.out
      clear hq1
      go_wp2_with fail
      go_loopw [6] (fun u6 wr => ∃ k : Nat, 1 ≤ k ∧ k ≤ n ∧ u6 = .int .i64 k ∧ Hid ((∀ i, i < k → Y l i < y) ∧ Q w wr)) (fun u6 _ => n - (intOf u6).toNat)
      case atStart => exact ⟨1, Nat.le_refl _, hn1, rfl, fun i hi => by (have e : i = 0 := by omega); rw [e]; exact HY0.out, Q1.out⟩
      case round =>
        clear e0 e1
        obtain ⟨k, hk1, hk, rfl, HI⟩ := hrel
        by_cases hlt : k < n
        · have hkl : k < l.length := by rw [HN.out]; exact hlt
          obtain ⟨b2, off2, hv2, hb2, hcc, c0, c1⟩ := HR.out.at HI.out.2 hkl
          obtain ⟨e1, e2⟩ : b = b2 ∧ off = off2 := by injection hv2 with e1; injection e1 with e1 e2; exact ⟨e1, e2⟩
          subst e1 e2
          clear hv2
          obtain ⟨t, ht⟩ : ∃ x, X l k = x := ⟨_, rfl⟩
          obtain ⟨d, hd⟩ : ∃ x, Y l k = x := ⟨_, rfl⟩
          rw [ht] at c0
          rw [hd] at c1
          obtain ⟨j, hj⟩ : ∃ j, k = j + 1 := ⟨k - 1, by omega⟩
          have hkj : k - 1 = j := by omega
          have hjl : j < l.length := by omega
          obtain ⟨b2, off2, hv2, hb2, _, a0, a1⟩ := HR.out.at HI.out.2 hjl
          obtain ⟨e1, e2⟩ : b = b2 ∧ off = off2 := by injection hv2 with e1; injection e1 with e1 e2; exact ⟨e1, e2⟩
          subst e1 e2
          obtain ⟨s, hs⟩ : ∃ x, X l j = x := ⟨_, rfl⟩
          obtain ⟨a, ha⟩ : ∃ x, Y l j = x := ⟨_, rfl⟩
          have e3 : (k : Int) - 1 = (j : Int) := by omega
          have e4 : IntKind.i64.wrap ((k : Int) - 1) = (j : Int) := by rw [e3]; exact IntWalk.i64_in _ (by omega)
          have e6 : (j : Int) < (n : Int) := by omega
          have hkn : (k : Int) < (n : Int) := by omega
          by_cases hdy : d < y
          · have hdy' : decide (y ≤ d) = false := decide_eq_false (by omega)
            rw [hs] at a0
            rw [ha] at a1
            have HG := Lib.hid (show ∀ i, i < k + 1 → Y l i < y from fun i hi => by
              by_cases g : i = k
              · rw [g, hd]; exact hdy
              · exact HI.out.1 i (by omega))
            have hb8 : b < wr.heap.size := Nat.lt_of_lt_of_le HB0.out HI.out.2.size
            have z1 := al1 hb8 c0
            have z2 := al1 hb8 c1
            have z3 := al1 hb8 a0
            have z4 := al1 hb8 a1
            have y1 := al2 hb8 c0
            have y2 := al2 hb8 c1
            have y3 := al2 hb8 a0
            have y4 := al2 hb8 a1
            clear hkl ht hd hdy hj hkj hjl hv2 hs ha e3 hk1
            go_wp2_with fail
            go_region
            all_goals go_wp2_with fail
            · go_roundw
              case rel => exact ⟨k + 1, by omega, by omega, by go_num, HG.out, by repeat (first | exact HI.out.2 | refine Q.drewN ?_ _ | refine Q.drew ?_ | refine Q.alloc ?_ _)⟩
              case measure => simp [intOf] <;> omega
            · go_roundw
              case rel => exact ⟨k + 1, by omega, by omega, by go_num, HG.out, by repeat (first | exact HI.out.2 | refine Q.drewN ?_ _ | refine Q.drew ?_ | refine Q.alloc ?_ _)⟩
              case measure => simp [intOf] <;> omega
          · have hdy' : decide (y ≤ d) = true := decide_eq_true (by omega)
            have hst := HO.out.up k (by omega) hkl
            have bs := HO.out.inx j hjl
            have bt := HO.out.inx k hkl
            have ba := HO.out.iny j hjl
            have bb := HO.out.iny k hkl
            have hay := HI.out.1 j (by omega)
            have hre := re_hit HZ.out (y := y) (k := k) (by omega) hkl (by rw [hd]; omega) HI.out.1
            rw [hkj, hs, ha, ht, hd] at hre
            rw [hkj] at hst
            rw [hs] at a0 bs hst
            rw [ha] at a1 ba hay
            rw [ht] at bt hst
            rw [hd] at bb
            obtain ⟨d0, d1, d2, d3, d4, f, _, r2, r3, r4, hb3, hp4, hf, r5, r6, r7⟩ := re_math (s := s) (a := a) (t := t) (b := d) (y := y) hst hay (by omega) bs.1 bt.2 ba.1 bb.2
            obtain ⟨z, hz⟩ : ∃ z, rx s a t d y = z := ⟨_, rfl⟩
            rw [hz] at r5 hre
            have HE := Lib.hid (show (z, true) = (x, o) by rw [← h.out, hre])
            have HF := Lib.hid hf
            have HB := Lib.hid hb3
            have H4 := Lib.hid hp4
            have hb8 : b < wr.heap.size := Nat.lt_of_lt_of_le HB0.out HI.out.2.size
            have z1 := al1 hb8 c0
            have z2 := al1 hb8 c1
            have z3 := al1 hb8 a0
            have z4 := al1 hb8 a1
            have y1 := al2 hb8 c0
            have y2 := al2 hb8 c1
            have y3 := al2 hb8 a0
            have y4 := al2 hb8 a1
            have HQ := Lib.hid HI.out.2
            clear hkl ht hd hdy hj hkj hjl hv2 hs ha hst bs bt ba bb hay hre hf hb3 hp4 hz e3 HI hk1
            go_wp2_with fail
            go_region
            · have v1 : ((wr.alloc (.cells #[.int .i64 s, .int .i64 a] 40)).alloc (.cells #[.int .i64 t, .int .i64 d] 40)).drew.cell? ⟨wr.heap.size, 0, none⟩ = some (.int .i64 s) := by simp [go_sem]
              have v2 : ((wr.alloc (.cells #[.int .i64 s, .int .i64 a] 40)).alloc (.cells #[.int .i64 t, .int .i64 d] 40)).drew.cell? ⟨wr.heap.size, 1, none⟩ = some (.int .i64 a) := by simp [go_sem]
              have v3 : ((wr.alloc (.cells #[.int .i64 s, .int .i64 a] 40)).alloc (.cells #[.int .i64 t, .int .i64 d] 40)).drew.cell? ⟨wr.heap.size + 1, 0, none⟩ = some (.int .i64 t) := by simp [go_sem]
              have v4 : ((wr.alloc (.cells #[.int .i64 s, .int .i64 a] 40)).alloc (.cells #[.int .i64 t, .int .i64 d] 40)).drew.cell? ⟨wr.heap.size + 1, 1, none⟩ = some (.int .i64 d) := by simp [go_sem]
              have v7 : Q wr ((wr.alloc (.cells #[.int .i64 s, .int .i64 a] 40)).alloc (.cells #[.int .i64 t, .int .i64 d] 40)).drew := (((Q.refl wr).alloc _).alloc _).drew
              clear a0 a1 c0 c1 z1 z2 z3 z4 y1 y2 y3 y4
              generalize ((wr.alloc (.cells #[.int .i64 s, .int .i64 a] 40)).alloc (.cells #[.int .i64 t, .int .i64 d] 40)).drew = W0 at v1 v2 v3 v4 v7 ⊢
              go_wp2_with fail
              go_quiet ((go_at_call 31; exact Calls.quiet_of_same (rfloor_e d3 d4 f H4.out HB.out HF _)))
              go_wp2_with fail
              go_ret2
              exact ⟨ret_ib (r5.trans (congrArg Prod.fst HE.out)) (congrArg Prod.snd HE.out), HQ.out.trans (v7.drewN _)⟩
            · have v1 : ((wr.alloc (.cells #[.int .i64 t, .int .i64 d] 40)).alloc (.cells #[.int .i64 s, .int .i64 a] 40)).drew.cell? ⟨wr.heap.size + 1, 0, none⟩ = some (.int .i64 s) := by simp [go_sem]
              have v2 : ((wr.alloc (.cells #[.int .i64 t, .int .i64 d] 40)).alloc (.cells #[.int .i64 s, .int .i64 a] 40)).drew.cell? ⟨wr.heap.size + 1, 1, none⟩ = some (.int .i64 a) := by simp [go_sem]
              have v3 : ((wr.alloc (.cells #[.int .i64 t, .int .i64 d] 40)).alloc (.cells #[.int .i64 s, .int .i64 a] 40)).drew.cell? ⟨wr.heap.size, 0, none⟩ = some (.int .i64 t) := by simp [go_sem]
              have v4 : ((wr.alloc (.cells #[.int .i64 t, .int .i64 d] 40)).alloc (.cells #[.int .i64 s, .int .i64 a] 40)).drew.cell? ⟨wr.heap.size, 1, none⟩ = some (.int .i64 d) := by simp [go_sem]
              have v7 : Q wr ((wr.alloc (.cells #[.int .i64 t, .int .i64 d] 40)).alloc (.cells #[.int .i64 s, .int .i64 a] 40)).drew := (((Q.refl wr).alloc _).alloc _).drew
              clear a0 a1 c0 c1 z1 z2 z3 z4 y1 y2 y3 y4
              generalize ((wr.alloc (.cells #[.int .i64 t, .int .i64 d] 40)).alloc (.cells #[.int .i64 s, .int .i64 a] 40)).drew = W0 at v1 v2 v3 v4 v7 ⊢
              go_wp2_with fail
              go_quiet ((go_at_call 31; exact Calls.quiet_of_same (rfloor_e d3 d4 f H4.out HB.out HF _)))
              go_wp2_with fail
              go_ret2
              exact ⟨ret_ib (r5.trans (congrArg Prod.fst HE.out)) (congrArg Prod.snd HE.out), HQ.out.trans (v7.drewN _)⟩
        · obtain rfl : k = n := by omega
          have HE := Lib.hid (show (0, false) = (x, o) by rw [← h.out, re_none (by rw [HN.out]; exact HI.out.1)])
          go_wp2_with fail
          go_ret2
          exact ⟨ret_ib (congrArg Prod.fst HE.out) (congrArg Prod.snd HE.out), HI.out.2⟩
  · have HE := Lib.hid (show (0, false) = (x, o) by rw [← h.out, re_bad (by rw [he]; exact h0)])
    have h0' : ((e : Int) != 0) = true := by simp; omega
    clear hc hn hl he h0
    go_enter Try.func20, Try.ntmps20
    go_wp2_with fail
    refine (rCheck_c _ l e HC _ HR.out HL.out).mono ?_; rintro E w1 ⟨rfl, hq1⟩
    have Q1 := Lib.hid hq1
    clear hq1
    go_wp2_with fail
    go_ret2
    exact ⟨ret_ib (congrArg Prod.fst HE.out) (congrArg Prod.snd HE.out), Q1.out⟩
end Go.Proofs.Ytlkgbfiaeedpfaa
