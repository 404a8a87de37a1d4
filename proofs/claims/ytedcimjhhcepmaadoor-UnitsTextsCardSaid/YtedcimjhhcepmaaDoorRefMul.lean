/- The contracts of the reference's size and MulDiv. -/
import Derived.Test.YtedcimjhhcepmaaDoorRefScaled
set_option linter.unusedVariables false
set_option linter.unusedSimpArgs false
namespace Go.Proofs.YtedcimjhhcepmaaDoor
open Go.ChangeShapes Go.WideShapes Go.ChangeAt Go.RowKit Um

theorem size_is (n : Int) (m : Nat) (hm : Hid (n.natAbs = m)) (hn : Fit n) (w : World) : Calls Tryd.prog 38 #[.int .i64 n] w fun e w' => e = .returned (.int .u64 (m : Int)) ∧ w = w' := by
  obtain ⟨f1, f2⟩ := hn
  by_cases h : n < 0
  · go_enter Tryd.func38, Tryd.ntmps38
    go_wp2
    go_ret
    exact ⟨ret_int (by have := hm.out; (try simp only [IntKind.wrap_u64, wrap64]); omega), rfl⟩
  · go_enter Tryd.func38, Tryd.ntmps38
    go_wp2
    go_ret
    exact ⟨ret_int (by have := hm.out; (try simp only [IntKind.wrap_u64, wrap64]); omega), rfl⟩
theorem md_far {a b : Int} {c P : Nat} {n : Bool} (hc : 0 < c) (hs : a * b = if n then -(P : Int) else (P : Int)) (h : 9223372036854775809 * c ≤ P) : mdV a b (c : Int) = 0 ∧ mdE a b (c : Int) = 9 := by
  have hq : 9223372036854775809 ≤ P / c := by rw [Nat.le_div_iff_mul_le hc]; exact h
  cases n with
  | false => have := md_same hc hs rfl rfl; rw [this.1, this.2]; exact sg_over (by omega)
  | true =>
    have := md_down hc hs rfl rfl rfl
    rw [this.1, this.2]
    exact sg_over (by split <;> omega)
theorem sg_neg {q : Nat} (h : q ≤ 9223372036854775808) : sgV true q = -(q : Int) ∧ sgE true q = 0 := by
  have : sgOk true q = true := by unfold sgOk; simp; omega
  unfold sgV sgE; rw [this]; exact ⟨rfl, rfl⟩
theorem sg_pos {q : Nat} (h : q ≤ 9223372036854775807) : sgV false q = (q : Int) ∧ sgE false q = 0 := by
  have : sgOk false q = true := by unfold sgOk; simp; omega
  unfold sgV sgE; rw [this]; exact ⟨rfl, rfl⟩
theorem sg_pos_over {q : Nat} (h : 9223372036854775807 < q) : sgV false q = 0 ∧ sgE false q = 9 := by
  have : sgOk false q = false := by unfold sgOk; simp; omega
  unfold sgV sgE; rw [this]; exact ⟨rfl, rfl⟩
theorem good_div {a b c q r : Nat} (h : Good a b c q r) : a * b / c = q ∧ a * b % c = r := by
  obtain ⟨h1, h2, _⟩ := h
  have e : a * b = r + c * q := by rw [h1, Nat.mul_comm]; omega
  have hc : 0 < c := by omega
  rw [e]
  exact ⟨by rw [Nat.add_mul_div_left _ _ hc, Nat.div_eq_of_lt h2]; omega, by rw [Nat.add_mul_mod_self_left]; exact Nat.mod_eq_of_lt h2⟩

set_option maxRecDepth 100000 in
set_option maxHeartbeats 3200000 in
theorem rMulDiv_is (a b c v f : Int) (hv : Hid (mdV a b c = v ∧ mdE a b c = f)) (w : World) (fa : Fit a) (fb : Fit b) (fc : Fit c) :
    Calls Tryd.prog 18 #[.int .i64 a, .int .i64 b, .int .i64 c] w fun e w' => e = .returned (.tuple #[.int .i64 v, .int .i64 f]) ∧ w = w' := by
  by_cases hc : c ≤ 0
  · have e := Lib.hid (show v = 0 ∧ f = 9 by have h := md_none (a := a) (b := b) hc; have g := hv.out; rw [h.1, h.2] at g; exact ⟨g.1.symm, g.2.symm⟩)
    clear fa fb fc hv
    go_enter Tryd.func18, Tryd.ntmps18
    go_wp2_with fail
    go_ret2
    exact ⟨ret_ii e.out.1.symm e.out.2.symm, rfl⟩
  · obtain ⟨cn, rfl⟩ := Int.eq_ofNat_of_zero_le (show 0 ≤ c by omega)
    obtain ⟨na, hna⟩ : ∃ n, a.natAbs = n := ⟨_, rfl⟩
    obtain ⟨nb, hnb⟩ : ∃ n, b.natAbs = n := ⟨_, rfl⟩
    have hs := prod_sign a b
    rw [hna, hnb] at hs
    have HA := Lib.hid hna
    have HB := Lib.hid hnb
    have FA := Lib.hid fa
    have FB := Lib.hid fb
    have FF := Lib.hid (show cn ≤ 9223372036854775807 ∧ na ≤ 9223372036854775808 ∧ nb ≤ 9223372036854775808 ∧ 0 < cn from ⟨by have := fc.2; omega, by have := fa.1; have := fa.2; omega, by have := fb.1; have := fb.2; omega, by omega⟩)
    obtain ⟨x, hx⟩ : ∃ x, decide (a < 0) = x := ⟨_, rfl⟩
    obtain ⟨y, hy⟩ : ∃ y, decide (b < 0) = y := ⟨_, rfl⟩
    rw [hx, hy] at hs
    have HS := Lib.hid hs
    have i1 : ¬ (cn : Int) ≤ 0 := hc
    have cx : (cn : Int) ≤ 9223372036854775807 := by have := FF.out.1; omega
    have HC := Lib.hid hv.out
    clear hs hna hnb fa fb fc hc hv
    go_enter Tryd.func18, Tryd.ntmps18
    go_wp2_with fail
    refine (size_is a na HA FA.out _).mono ?_; rintro e1 w1 ⟨rfl, rfl⟩
    go_wp2_with fail
    refine (size_is b nb HB FB.out _).mono ?_; rintro e1 w1 ⟨rfl, rfl⟩
    go_wp2_with fail
    refine (scaled_c na nb cn FF.out.2.1 FF.out.2.2.1 FF.out.2.2.2 FF.out.1 _).mono ?_
    rintro e1 w1 ⟨q, r, ok, rfl, rfl, hg⟩
    rcases hg with ⟨rfl, hg⟩ | ⟨rfl, rfl, rfl, hg⟩
    · obtain ⟨g1, g2⟩ := good_div hg
      have G := Lib.hid hg.2.2
      have bq : (q : Int) ≤ 9223372036854775808 := by have := G.out; omega
      have bc : (r : Int) ≤ 9223372036854775807 := by have := hg.2.1; have := FF.out.1; omega
      by_cases hxy : x = y
      · have hn : (x != y) = false := by rw [hxy]; simp
        have m := md_same FF.out.2.2.2 HS.out hn g1
        by_cases hm : (9223372036854775807 : Int) < (q : Int)
        · have e := Lib.hid (show v = 0 ∧ f = 9 by have h := sg_pos_over (q := q) (by omega); have g := HC.out; rw [m.1, m.2, h.1, h.2] at g; exact ⟨g.1.symm, g.2.symm⟩)
          subst hxy
          clear hn m hg g1 g2
          cases x
          all_goals
            go_wp2_with fail
            go_ret2
            exact ⟨ret_ii e.out.1.symm e.out.2.symm, rfl⟩
        · have e := Lib.hid (show v = (q : Int) ∧ f = 0 by have h := sg_pos (q := q) (by omega); have g := HC.out; rw [m.1, m.2, h.1, h.2] at g; exact ⟨g.1.symm, g.2.symm⟩)
          subst hxy
          clear hn m hg g1 g2
          cases x
          all_goals
            go_wp2_with fail
            go_ret2
            exact ⟨ret_ii e.out.1.symm e.out.2.symm, rfl⟩
      · have hn : (x != y) = true := by simpa using hxy
        have m := md_down FF.out.2.2.2 HS.out hn g1 g2
        rcases (show (q = 0 ∧ r = 0) ∨ (0 < q ∧ r = 0) ∨ (q = 0 ∧ 0 < r) ∨ (0 < q ∧ 0 < r ∧ (q : Int) ≤ 9223372036854775807) ∨ (0 < q ∧ 0 < r ∧ (q : Int) = 9223372036854775808) by omega) with ⟨rfl, rfl⟩ | ⟨k1, rfl⟩ | ⟨rfl, k2⟩ | ⟨k1, k2, k3⟩ | ⟨k1, k2, k3⟩
        · have e := Lib.hid (show v = 0 ∧ f = 0 by have h := sg_neg (q := 0) (by omega); rw [if_pos rfl, h.1, h.2] at m; have g := HC.out; rw [m.1, m.2] at g; exact ⟨g.1.symm, g.2.symm⟩)
          clear m hg g1 g2
          cases x <;> cases y <;> (try (exact absurd rfl hxy))
          all_goals
            clear hxy hn
            go_wp2_with fail
            go_ret2
            exact ⟨ret_ii e.out.1.symm e.out.2.symm, rfl⟩
        · have e := Lib.hid (show v = -(q : Int) ∧ f = 0 by have h := sg_neg (q := q) G.out; rw [if_pos rfl, h.1, h.2] at m; have g := HC.out; rw [m.1, m.2] at g; exact ⟨g.1.symm, g.2.symm⟩)
          have t1 : ((q : Int) == 0) = false := by rw [beq_eq_false_iff_ne]; omega
          have t2 : (1 : Int) ≤ (q : Int) := by omega
          clear m hg g1 g2
          cases x <;> cases y <;> (try (exact absurd rfl hxy))
          all_goals
            clear hxy hn k1
            go_wp2_with fail
            go_ret2
            exact ⟨ret_ii (by rw [e.out.1]; (try simp only [IntKind.wrap_u64, wrap64]); omega) e.out.2.symm, rfl⟩
        · have e := Lib.hid (show v = -1 ∧ f = 0 by have h := sg_neg (q := 1) (by omega); rw [if_neg (by omega), h.1, h.2] at m; have g := HC.out; rw [m.1, m.2] at g; exact ⟨g.1.symm, g.2.symm⟩)
          have t1 : ((r : Int) == 0) = false := by rw [beq_eq_false_iff_ne]; omega
          have t2 : 0 < (r : Int) := by omega
          clear m hg g1 g2
          cases x <;> cases y <;> (try (exact absurd rfl hxy))
          all_goals
            clear hxy hn k2
            go_wp2_with fail
            go_ret2
            exact ⟨ret_ii (by rw [e.out.1]; (try rfl)) e.out.2.symm, rfl⟩
        · obtain ⟨Z, hZ⟩ : ∃ Z, q + 1 = Z := ⟨_, rfl⟩
          have e := Lib.hid (show v = -(Z : Int) ∧ f = 0 by have h := sg_neg (q := Z) (by omega); rw [if_neg (by omega), hZ, h.1, h.2] at m; have g := HC.out; rw [m.1, m.2] at g; exact ⟨g.1.symm, g.2.symm⟩)
          have t1 : ((q : Int) == 0) = false := by rw [beq_eq_false_iff_ne]; omega
          have t2 : 0 < (r : Int) := by omega
          have eZ : (q : Int) + 1 = (Z : Int) := by omega
          have z1 : (1 : Int) ≤ (Z : Int) := by omega
          have z2 : (Z : Int) ≤ 9223372036854775808 := by omega
          clear m hg g1 g2 k3 hZ k1 k2
          cases x <;> cases y <;> (try (exact absurd rfl hxy))
          all_goals
            clear hxy hn
            go_wp2_with fail
            go_ret2
            exact ⟨ret_ii (by rw [e.out.1]; (try simp only [IntKind.wrap_u64, wrap64]); omega) e.out.2.symm, rfl⟩
        · obtain ⟨Z, hZ⟩ : ∃ Z, q + 1 = Z := ⟨_, rfl⟩
          have e := Lib.hid (show v = 0 ∧ f = 9 by have h := sg_over (n := true) (q := Z) (by omega); rw [if_neg (by omega), hZ, h.1, h.2] at m; have g := HC.out; rw [m.1, m.2] at g; exact ⟨g.1.symm, g.2.symm⟩)
          have t1 : ((q : Int) == 0) = false := by rw [beq_eq_false_iff_ne]; omega
          have t2 : 0 < (r : Int) := by omega
          have eZ : (q : Int) + 1 = (Z : Int) := by omega
          have z1 : (9223372036854775808 : Int) < (Z : Int) := by omega
          have z2 : IntKind.u64.wrap (Z : Int) = (Z : Int) := wrapn rfl (by omega)
          clear m hg g1 g2 k3 hZ k1 k2
          cases x <;> cases y <;> (try (exact absurd rfl hxy))
          all_goals
            clear hxy hn
            go_wp2_with fail
            go_ret2
            exact ⟨ret_ii e.out.1.symm e.out.2.symm, rfl⟩
    · have e := Lib.hid (show v = 0 ∧ f = 9 by have h := md_far FF.out.2.2.2 HS.out hg; have g := HC.out; rw [h.1, h.2] at g; exact ⟨g.1.symm, g.2.symm⟩)
      clear hg
      go_wp2_with fail
      go_ret2
      exact ⟨ret_ii e.out.1.symm e.out.2.symm, rfl⟩
end Go.Proofs.YtedcimjhhcepmaaDoor
