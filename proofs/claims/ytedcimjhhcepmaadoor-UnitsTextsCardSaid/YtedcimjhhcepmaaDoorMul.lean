/- The contracts of units.magnitude, signed and MulDiv. -/
import Derived.Test.YtedcimjhhcepmaaDoorDivS
import Derived.Test.YtedcimjhhcepmaaDoorDiv
set_option linter.unusedVariables false
set_option linter.unusedSimpArgs false
namespace Go.Proofs.YtedcimjhhcepmaaDoor
open Go.ChangeShapes Go.WideShapes Go.ChangeAt Go.RowKit Um

theorem Div64_c (hi lo y : Nat) (w : World) (hlo : lo < 18446744073709551616) (hy : y < 18446744073709551616) (h : hi < y) :
    Calls Tryd.prog 35 #[.int .u64 hi, .int .u64 lo, .int .u64 y] w fun e w' => e = .returned (.tuple #[.int .u64 (((hi * 18446744073709551616 + lo) / y : Nat) : Int), .int .u64 (((hi * 18446744073709551616 + lo) % y : Nat) : Int)]) ∧ Q w w' := by
  rcases Nat.eq_zero_or_pos hi with rfl | hh
  · have := Div64_small lo y w hlo hy h
    simpa using this
  · exact Div64_big hi lo y w hlo hy h hh

theorem mag_c (n : Int) (m : Nat) (hm : Hid (n.natAbs = m)) (hn : Fit n) (w : World) : Calls Tryd.prog 34 #[.int .i64 n] w fun e w' => e = .returned (.int .u64 (m : Int)) ∧ w = w' := by
  obtain ⟨f1, f2⟩ := hn
  by_cases h : n < 0
  · go_enter Tryd.func34, Tryd.ntmps34
    go_wp2
    go_ret
    exact ⟨ret_int (by have := hm.out; simp only [IntKind.wrap_u64]; omega), rfl⟩
  · go_enter Tryd.func34, Tryd.ntmps34
    go_wp2
    go_ret
    exact ⟨ret_int (by have := hm.out; omega), rfl⟩
def sgOk (neg : Bool) (n : Nat) : Bool := if neg then decide (n ≤ 9223372036854775808) else decide (n ≤ 9223372036854775807)
def sgV (neg : Bool) (n : Nat) : Int := if sgOk neg n then (if neg then -(n : Int) else n) else 0
def sgE (neg : Bool) (n : Nat) : Int := if sgOk neg n then 0 else 9
theorem signed_c (neg : Bool) (n : Nat) (hn : n < 18446744073709551616) (w : World) : Calls Tryd.prog 36 #[.bool neg, .int .u64 (n : Int)] w fun e w' => e = .returned (.tuple #[.int .i64 (sgV neg n), .int .i64 (sgE neg n)]) ∧ w = w' := by
  cases neg with
  | true =>
    by_cases h : n ≤ 9223372036854775808
    · have e := Lib.hid (show sgV true n = -(n : Int) ∧ sgE true n = 0 by unfold sgV sgE sgOk; simp [h])
      have i1 : (n : Int) ≤ 9223372036854775808 := by omega
      clear h
      go_enter Tryd.func36, Tryd.ntmps36
      go_wp2
      go_ret2
      exact ⟨ret_ii (by rw [e.out.1]; simp only [IntKind.wrap_u64, IntKind.wrap_i64, wrap64]; omega) e.out.2.symm, rfl⟩
    · have e := Lib.hid (show sgV true n = 0 ∧ sgE true n = 9 by unfold sgV sgE sgOk; simp [h])
      have i1 : ¬ (n : Int) ≤ 9223372036854775808 := by omega
      clear h
      go_enter Tryd.func36, Tryd.ntmps36
      go_wp2
      go_ret2
      exact ⟨ret_ii e.out.1.symm e.out.2.symm, rfl⟩
  | false =>
    by_cases h : n ≤ 9223372036854775807
    · have e := Lib.hid (show sgV false n = (n : Int) ∧ sgE false n = 0 by unfold sgV sgE sgOk; simp [h])
      have i1 : (n : Int) ≤ 9223372036854775807 := by omega
      clear h
      go_enter Tryd.func36, Tryd.ntmps36
      go_wp2
      go_ret2
      exact ⟨ret_ii (by rw [e.out.1]) e.out.2.symm, rfl⟩
    · have e := Lib.hid (show sgV false n = 0 ∧ sgE false n = 9 by unfold sgV sgE sgOk; simp [h])
      have i1 : ¬ (n : Int) ≤ 9223372036854775807 := by omega
      clear h
      go_enter Tryd.func36, Tryd.ntmps36
      go_wp2
      go_ret2
      exact ⟨ret_ii e.out.1.symm e.out.2.symm, rfl⟩

/-- the exact quotient of a product, rounded down, if it fits -/
def mdE (a b c : Int) : Int := if c ≤ 0 then 9 else if -9223372036854775808 ≤ a * b / c ∧ a * b / c ≤ 9223372036854775807 then 0 else 9
def mdV (a b c : Int) : Int := if mdE a b c = 0 then a * b / c else 0
theorem md_none {a b c : Int} (h : c ≤ 0) : mdV a b c = 0 ∧ mdE a b c = 9 := by
  have e : mdE a b c = 9 := by unfold mdE; rw [if_pos h]
  exact ⟨by unfold mdV; rw [e, if_neg (by omega)], e⟩
theorem md_of {a b c v : Int} (h : 0 < c) (hv : a * b / c = v) :
    (Fit v → mdV a b c = v ∧ mdE a b c = 0) ∧ (¬ Fit v → mdV a b c = 0 ∧ mdE a b c = 9) := by
  refine ⟨fun g => ?_, fun g => ?_⟩
  · have e : mdE a b c = 0 := by unfold mdE; rw [if_neg (by omega), hv]; exact if_pos g
    exact ⟨by unfold mdV; rw [e, if_pos rfl, hv], e⟩
  · have e : mdE a b c = 9 := by unfold mdE; rw [if_neg (by omega), hv]; exact if_neg g
    exact ⟨by unfold mdV; rw [e, if_neg (by omega)], e⟩
theorem md_sg {a b c : Int} {neg : Bool} {n : Nat} (h : 0 < c) (hv : a * b / c = if neg then -(n : Int) else n) : mdV a b c = sgV neg n ∧ mdE a b c = sgE neg n := by
  have m := md_of h hv
  unfold Fit at m
  cases neg with
  | false =>
    simp only [Bool.false_eq_true, if_false] at m
    by_cases g : n ≤ 9223372036854775807
    · have := m.1 ⟨by omega, by omega⟩
      rw [this.1, this.2]; unfold sgV sgE sgOk; simp [g]
    · have := m.2 (by omega)
      rw [this.1, this.2]; unfold sgV sgE sgOk; simp [g]
  | true =>
    simp only [if_true] at m
    by_cases g : n ≤ 9223372036854775808
    · have := m.1 ⟨by omega, by omega⟩
      rw [this.1, this.2]; unfold sgV sgE sgOk; simp [g]
    · have := m.2 (by omega)
      rw [this.1, this.2]; unfold sgV sgE sgOk; simp [g]
theorem floor_pos {P c : Nat} : ((P : Int)) / (c : Int) = ((P / c : Nat) : Int) := rfl
theorem floor_neg {P c q r : Nat} (hc : 0 < c) (hq : P / c = q) (hr : P % c = r) : (-(P : Int)) / (c : Int) = if r = 0 then -(q : Int) else -((q + 1 : Nat) : Int) := by
  have h := Nat.div_add_mod P c
  have hlt := Nat.mod_lt P hc
  rw [hq, hr] at h
  rw [hr] at hlt
  have e : (P : Int) = (c : Int) * (q : Int) + (r : Int) := by rw [← h]; simp
  split
  · have hr0 : (r : Int) = 0 := by omega
    rw [e, hr0, Int.add_zero, ← Int.mul_neg, Int.mul_ediv_cancel_left _ (by omega)]
  · have e2 : -(P : Int) = ((c : Int) - (r : Int)) + (c : Int) * (-((q + 1 : Nat) : Int)) := by
      have : (c : Int) * (-((q + 1 : Nat) : Int)) = -((c : Int) * (q : Int)) - (c : Int) := by
        rw [Int.mul_neg, Int.natCast_add, Int.mul_add]; simp; omega
      rw [e, this]; omega
    rw [e2, Int.add_mul_ediv_left _ _ (by omega), Int.ediv_eq_zero_of_lt (by omega) (by omega)]; omega
theorem prod_sign (a b : Int) : a * b = if (decide (a < 0) != decide (b < 0)) then -((a.natAbs * b.natAbs : Nat) : Int) else ((a.natAbs * b.natAbs : Nat) : Int) := by
  by_cases h1 : a < 0 <;> by_cases h2 : b < 0 <;> simp only [h1, h2, decide_true, decide_false, bne_self_eq_false, Bool.false_eq_true, if_false, if_true, Bool.true_bne, Bool.false_bne, Bool.not_false, Bool.not_true] <;> rw [Int.natCast_mul]
  · rw [show (a.natAbs : Int) = -a by omega, show (b.natAbs : Int) = -b by omega, Int.neg_mul_neg]
  · rw [show (a.natAbs : Int) = -a by omega, show (b.natAbs : Int) = b by omega, Int.neg_mul, Int.neg_neg]
  · rw [show (a.natAbs : Int) = a by omega, show (b.natAbs : Int) = -b by omega, Int.mul_neg, Int.neg_neg]
  · rw [show (a.natAbs : Int) = a by omega, show (b.natAbs : Int) = b by omega]

theorem md_same {a b : Int} {c P q : Nat} {n : Bool} (hc : 0 < c) (hs : a * b = if n then -(P : Int) else (P : Int)) (hn : n = false) (hq : P / c = q) : mdV a b (c : Int) = sgV false q ∧ mdE a b (c : Int) = sgE false q :=
  md_sg (by omega) (by rw [hs, hn, ← hq]; rfl)
theorem md_down {a b : Int} {c P q r : Nat} {n : Bool} (hc : 0 < c) (hs : a * b = if n then -(P : Int) else (P : Int)) (hn : n = true) (hq : P / c = q) (hr : P % c = r) :
    mdV a b (c : Int) = sgV true (if r = 0 then q else q + 1) ∧ mdE a b (c : Int) = sgE true (if r = 0 then q else q + 1) :=
  md_sg (by omega) (by
    rw [hs, hn]; simp only [if_true]
    rw [floor_neg hc hq hr]; split <;> rfl)
theorem sg_over {n : Bool} {q : Nat} (h : 9223372036854775808 < q) : sgV n q = 0 ∧ sgE n q = 9 := by
  have : sgOk n q = false := by cases n <;> (unfold sgOk; simp; omega)
  unfold sgV sgE; rw [this]; exact ⟨rfl, rfl⟩
theorem md_big {a b : Int} {c P : Nat} {n : Bool} (hc : 0 < c) (hs : a * b = if n then -(P : Int) else (P : Int)) (h : c * 18446744073709551616 ≤ P) : mdV a b (c : Int) = 0 ∧ mdE a b (c : Int) = 9 := by
  have hq : 18446744073709551616 ≤ P / c := by rw [Nat.le_div_iff_mul_le hc, Nat.mul_comm]; exact h
  cases n with
  | false => have := md_same hc hs rfl rfl; rw [this.1, this.2]; exact sg_over (by omega)
  | true =>
    have := md_down hc hs rfl rfl rfl
    rw [this.1, this.2]
    exact sg_over (by split <;> omega)

theorem Mul_is (x y h l : Nat) (hx : x < 18446744073709551616) (hy : y < 18446744073709551616) (hh : Hid (x * y / 18446744073709551616 = h ∧ x * y % 18446744073709551616 = l)) (w : World) :
    Calls Tryd.prog 33 #[.int .u64 (x : Int), .int .u64 (y : Int)] w fun e w' => e = .returned (.tuple #[.int .u64 (h : Int), .int .u64 (l : Int)]) ∧ w = w' :=
  (Tryd.bits_Mul64 x y hx hy w).mono fun _ _ ⟨a, b⟩ => ⟨by rw [a, hh.out.1, hh.out.2], b.symm⟩
theorem Div_is (h l y P q r : Nat) (hl : l < 18446744073709551616) (hy : y < 18446744073709551616) (hlt : h < y) (hh : Hid (h * 18446744073709551616 + l = P ∧ P / y = q ∧ P % y = r)) (w : World) :
    Calls Tryd.prog 35 #[.int .u64 (h : Int), .int .u64 (l : Int), .int .u64 (y : Int)] w fun e w' => e = .returned (.tuple #[.int .u64 (q : Int), .int .u64 (r : Int)]) ∧ Q w w' :=
  (Div64_c h l y w hl hy hlt).mono fun _ _ ⟨a, b⟩ => ⟨by rw [a, hh.out.1, hh.out.2.1, hh.out.2.2], b⟩

set_option maxRecDepth 100000 in
set_option maxHeartbeats 1600000 in
theorem MulDiv_c (a b c : Int) (fa : Fit a) (fb : Fit b) (fc : Fit c) (w : World) :
    Calls Tryd.prog 17 #[.int .i64 a, .int .i64 b, .int .i64 c] w fun e w' => e = .returned (.tuple #[.int .i64 (mdV a b c), .int .i64 (mdE a b c)]) ∧ Q w w' := by
  by_cases hc : c ≤ 0
  · have e := Lib.hid (md_none (a := a) (b := b) hc)
    clear fa fb fc
    go_enter Tryd.func17, Tryd.ntmps17
    go_wp2_with fail
    go_ret2
    exact ⟨ret_ii e.out.1.symm e.out.2.symm, Q.refl _⟩
  · obtain ⟨cn, rfl⟩ := Int.eq_ofNat_of_zero_le (show 0 ≤ c by omega)
    have HFA := Lib.hid fa
    have HFB := Lib.hid fb
    have hcb : cn ≤ 9223372036854775807 := by have := fc.2; omega
    obtain ⟨na, hna⟩ : ∃ n, a.natAbs = n := ⟨_, rfl⟩
    obtain ⟨nb, hnb⟩ : ∃ n, b.natAbs = n := ⟨_, rfl⟩
    have hs := prod_sign a b
    rw [hna, hnb] at hs
    have hna2 : na ≤ 9223372036854775808 := by have := fa.1; have := fa.2; omega
    have hnb2 : nb ≤ 9223372036854775808 := by have := fb.1; have := fb.2; omega
    have HA := Lib.hid hna
    have HB := Lib.hid hnb
    obtain ⟨P, hP⟩ : ∃ P, na * nb = P := ⟨_, rfl⟩
    obtain ⟨h, hh⟩ : ∃ h, P / 18446744073709551616 = h := ⟨_, rfl⟩
    obtain ⟨l, hl⟩ : ∃ l, P % 18446744073709551616 = l := ⟨_, rfl⟩
    have HM := Lib.hid (show na * nb / 18446744073709551616 = h ∧ na * nb % 18446744073709551616 = l by rw [hP]; exact ⟨hh, hl⟩)
    rw [hP] at hs
    have hPl : h * 18446744073709551616 + l = P := by omega
    have hlb : l < 18446744073709551616 := by omega
    obtain ⟨x, hx⟩ : ∃ x, decide (a < 0) = x := ⟨_, rfl⟩
    obtain ⟨y, hy⟩ : ∃ y, decide (b < 0) = y := ⟨_, rfl⟩
    rw [hx, hy] at hs
    have HX := Lib.hid hx
    have HY := Lib.hid hy
    have HS := Lib.hid hs
    have FF := Lib.hid (show cn ≤ 9223372036854775807 ∧ na ≤ 9223372036854775808 ∧ nb ≤ 9223372036854775808 ∧ l < 18446744073709551616 ∧ h * 18446744073709551616 + l = P ∧ 0 < cn from ⟨hcb, hna2, hnb2, hlb, hPl, by omega⟩)
    have i1 : ¬ (cn : Int) ≤ 0 := hc
    by_cases hlt : h < cn
    · obtain ⟨q, hq⟩ : ∃ q, P / cn = q := ⟨_, rfl⟩
      obtain ⟨r, hr⟩ : ∃ r, P % cn = r := ⟨_, rfl⟩
      have HD := Lib.hid (show h * 18446744073709551616 + l = P ∧ P / cn = q ∧ P % cn = r from ⟨hPl, hq, hr⟩)
      have HLT := Lib.hid hlt
      have hqb : q < 18446744073709551616 := by
        rw [← hq, Nat.div_lt_iff_lt_mul (by omega)]
        have : (h + 1) * 18446744073709551616 ≤ cn * 18446744073709551616 := Nat.mul_le_mul_right _ hlt
        rw [Nat.mul_comm 18446744073709551616 cn]; omega
      have HQB := Lib.hid hqb
      have i2 : ¬ (cn : Int) ≤ (h : Int) := by omega
      have cx : (cn : Int) ≤ 9223372036854775807 := by omega
      rcases (show (x = y) ∨ (x ≠ y ∧ r = 0) ∨ (x ≠ y ∧ 0 < r ∧ q = 18446744073709551615) ∨ (x ≠ y ∧ 0 < r ∧ q < 18446744073709551615) by
        by_cases h1 : x = y
        · exact .inl h1
        · rcases Nat.eq_zero_or_pos r with h2 | h2
          · exact .inr (.inl ⟨h1, h2⟩)
          · exact .inr (.inr (by rcases Nat.lt_or_ge q 18446744073709551615 with h3 | h3; · exact .inr ⟨h1, h2, h3⟩
                                 · exact .inl ⟨h1, h2, by omega⟩))) with hxy | ⟨hxy, hr0⟩ | ⟨hxy, hr0, hqm⟩ | ⟨hxy, hr0, hqm⟩
      · have e := Lib.hid (md_same (by omega) hs (by rw [hxy]; simp) hq)
        cases x <;> cases y <;> (try (exact absurd hxy (by decide)))
        all_goals
          clear hxy
          clear fa fb fc hcb hna hnb hna2 hnb2 hP hh hl hPl hlb hs hlt hq hr hqb hc
          go_enter Tryd.func17, Tryd.ntmps17
          go_wp2_with fail
          refine (mag_c a na HA HFA.out _).mono ?_; rintro e w' ⟨rfl, rfl⟩
          go_wp2_with fail
          refine (mag_c b nb HB HFB.out _).mono ?_; rintro e w' ⟨rfl, rfl⟩
          go_wp2_with fail
          refine (Mul_is na nb h l (by have := FF.out; omega) (by have := FF.out; omega) HM _).mono ?_; rintro e w' ⟨rfl, rfl⟩
          go_wp2_with fail
          refine (Div_is h l cn P q r (by have := FF.out; omega) (by have := FF.out; omega) HLT.out HD _).mono ?_; rintro e w2 ⟨rfl, hq2⟩
          go_wp2_with fail
          refine (signed_c false q HQB.out _).mono ?_; rintro e1 w3 ⟨rfl, rfl⟩
          go_wp2_with fail
          go_ret2
          exact ⟨ret_ii e.out.1.symm e.out.2.symm, hq2⟩
      · have hd := md_down (r := r) (by omega) hs (by cases x <;> cases y <;> first | rfl | exact absurd rfl hxy) hq hr
        subst hr0
        have e := Lib.hid hd
        clear hd
        cases x <;> cases y <;> (try (exact absurd rfl hxy))
        all_goals
          clear hxy
          clear fa fb fc hcb hna hnb hna2 hnb2 hP hh hl hPl hlb hs hlt hq hqb hc
          go_enter Tryd.func17, Tryd.ntmps17
          go_wp2_with fail
          refine (mag_c a na HA HFA.out _).mono ?_; rintro e w' ⟨rfl, rfl⟩
          go_wp2_with fail
          refine (mag_c b nb HB HFB.out _).mono ?_; rintro e w' ⟨rfl, rfl⟩
          go_wp2_with fail
          refine (Mul_is na nb h l (by have := FF.out; omega) (by have := FF.out; omega) HM _).mono ?_; rintro e w' ⟨rfl, rfl⟩
          go_wp2_with fail
          refine (Div_is h l cn P q 0 (by have := FF.out; omega) (by have := FF.out; omega) HLT.out HD _).mono ?_; rintro e w2 ⟨rfl, hq2⟩
          go_wp2_with fail
          refine (signed_c true q HQB.out _).mono ?_; rintro e1 w3 ⟨rfl, rfl⟩
          go_wp2_with fail
          go_ret2
          exact ⟨ret_ii e.out.1.symm e.out.2.symm, hq2⟩
      · have hd := md_down (r := r) (by omega) hs (by cases x <;> cases y <;> first | rfl | exact absurd rfl hxy) hq hr
        rw [if_neg (by omega)] at hd
        have ho := sg_over (n := true) (q := q + 1) (by omega)
        rw [ho.1, ho.2] at hd
        have e := Lib.hid hd
        have i3 : (0 : Int) < (r : Int) := by omega
        have i4 : ((q : Int) == 18446744073709551615) = true := by rw [beq_iff_eq]; omega
        clear hd ho hr0 hqm
        cases x <;> cases y <;> (try (exact absurd rfl hxy))
        all_goals
          clear hxy
          clear fa fb fc hcb hna hnb hna2 hnb2 hP hh hl hPl hlb hs hlt hq hr hqb hc
          go_enter Tryd.func17, Tryd.ntmps17
          go_wp2_with fail
          refine (mag_c a na HA HFA.out _).mono ?_; rintro e w' ⟨rfl, rfl⟩
          go_wp2_with fail
          refine (mag_c b nb HB HFB.out _).mono ?_; rintro e w' ⟨rfl, rfl⟩
          go_wp2_with fail
          refine (Mul_is na nb h l (by have := FF.out; omega) (by have := FF.out; omega) HM _).mono ?_; rintro e w' ⟨rfl, rfl⟩
          go_wp2_with fail
          refine (Div_is h l cn P q r (by have := FF.out; omega) (by have := FF.out; omega) HLT.out HD _).mono ?_; rintro e w2 ⟨rfl, hq2⟩
          go_wp2_with fail
          go_ret2
          exact ⟨ret_ii e.out.1.symm e.out.2.symm, hq2⟩
      · have hd := md_down (r := r) (by omega) hs (by cases x <;> cases y <;> first | rfl | exact absurd rfl hxy) hq hr
        rw [if_neg (by omega)] at hd
        have e := Lib.hid hd
        have HQM := Lib.hid hqm
        have i3 : (0 : Int) < (r : Int) := by omega
        have i4 : ((q : Int) == 18446744073709551615) = false := by rw [beq_eq_false_iff_ne]; omega
        have i5 : (q : Int) ≤ 18446744073709551614 := by omega
        clear hd hr0 hqm
        cases x <;> cases y <;> (try (exact absurd rfl hxy))
        all_goals
          clear hxy
          clear fa fb fc hcb hna hnb hna2 hnb2 hP hh hl hPl hlb hs hlt hq hr hqb hc
          go_enter Tryd.func17, Tryd.ntmps17
          go_wp2_with fail
          refine (mag_c a na HA HFA.out _).mono ?_; rintro e w' ⟨rfl, rfl⟩
          go_wp2_with fail
          refine (mag_c b nb HB HFB.out _).mono ?_; rintro e w' ⟨rfl, rfl⟩
          go_wp2_with fail
          refine (Mul_is na nb h l (by have := FF.out; omega) (by have := FF.out; omega) HM _).mono ?_; rintro e w' ⟨rfl, rfl⟩
          go_wp2_with fail
          refine (Div_is h l cn P q r (by have := FF.out; omega) (by have := FF.out; omega) HLT.out HD _).mono ?_; rintro e w2 ⟨rfl, hq2⟩
          go_wp2_with fail
          rw [show (q : Int) + 1 = ((q + 1 : Nat) : Int) from rfl]
          refine (signed_c true (q + 1) (by have := HQM.out; omega) _).mono ?_; rintro e1 w3 ⟨rfl, rfl⟩
          go_wp2_with fail
          go_ret2
          exact ⟨ret_ii e.out.1.symm e.out.2.symm, hq2⟩
    · have e := Lib.hid (md_big (c := cn) (by omega) hs (by
        have : cn * 18446744073709551616 ≤ h * 18446744073709551616 := Nat.mul_le_mul_right _ (by omega)
        omega))
      have i2 : (cn : Int) ≤ (h : Int) := by omega
      have cx : (cn : Int) ≤ 9223372036854775807 := by omega
      clear fa fb fc hcb hna hnb hna2 hnb2 hP hh hl hPl hlb hs hx hy hlt hc
      go_enter Tryd.func17, Tryd.ntmps17
      go_wp2_with fail
      refine (mag_c a na HA HFA.out _).mono ?_; rintro e w' ⟨rfl, rfl⟩
      go_wp2_with fail
      refine (mag_c b nb HB HFB.out _).mono ?_; rintro e w' ⟨rfl, rfl⟩
      go_wp2_with fail
      refine (Mul_is na nb h l (by have := FF.out; omega) (by have := FF.out; omega) HM _).mono ?_; rintro e w' ⟨rfl, rfl⟩
      go_wp2_with fail
      go_ret2
      exact ⟨ret_ii e.out.1.symm e.out.2.symm, Q.refl _⟩
end Go.Proofs.YtedcimjhhcepmaaDoor
