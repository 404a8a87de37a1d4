/- The walk of the law SpanMembers. -/
import Derived.Test.YtnbpkbdkhegheaaOpen
import Derived.Test.YtnbpkbdkhegheaaW2
import Derived.Test.YtnbpkbdkhegheaaW3
import Derived.Test.YtnbpkbdkhegheaaGaps
set_option linter.unusedVariables false
set_option linter.unusedSimpArgs false
namespace Go.Proofs.Ytnbpkbdkhegheaa
open Go.ChangeShapes Go.WideShapes Go.ChangeAt Go.RowKit Sm

theorem has_uni (a b : List S) (n : Int) : hasL (uniS a b) n = (hasL a n || hasL b n) := by
  rw [Bool.eq_iff_iff, Bool.or_eq_true, hasL_mem, hasL_mem, hasL_mem, (uniS_spec a b).2]
theorem has_com (a b : List S) (n : Int) : hasL (comS a b) n = (hasL a n && hasL b n) := by
  rw [Bool.eq_iff_iff, Bool.and_eq_true, hasL_mem, hasL_mem, hasL_mem, (comS_spec a b).2]
theorem has_min (a b : List S) (n : Int) : hasL (minS a b) n = (hasL a n && !hasL b n) := by
  rw [Bool.eq_iff_iff, Bool.and_eq_true, hasL_mem, hasL_mem, (minS_spec a b).2, Bool.not_eq_true', Bool.eq_false_iff, Ne, hasL_mem]
theorem has_can (a : List S) (n : Int) : hasL (canonL a) n = hasL a n := by
  rw [Bool.eq_iff_iff, hasL_mem, hasL_mem, (canon_spec a).2.1]
theorem uni_len (a b : List S) : (uniS a b).length ≤ a.length + b.length := by
  have := (canon_spec (a ++ b)).2.2; rw [List.length_append] at this; exact this
theorem com_len (a b : List S) : (comS a b).length ≤ a.length * b.length :=
  Nat.le_trans (comL_len _ _) (Nat.mul_le_mul (canon_spec a).2.2 (canon_spec b).2.2)
theorem min_len (a b : List S) : (minS a b).length ≤ a.length + b.length := by
  have h1 := (min_spec (canon_spec a).1 (canonL b) (canon_spec b).1.1).2.2
  have h2 := (canon_spec a).2.2
  have h3 := (canon_spec b).2.2
  unfold minS; omega
set_option maxRecDepth 100000 in
set_option maxHeartbeats 3200000 in
theorem members_walk (w : World) (AW : Awk) (v : Value) (l : List S) (hr : Rd w v l) (hn : Nn v) (hf : FitL l) (hl : l.length ≤ maxLen) (v1 : Value) (l' : List S) (hr1 : Rd w v1 l') (hn1 : Nn v1) (hf1 : FitL l') (hl1 : l'.length ≤ maxLen) (n : Int) (hfn : Fit n) :
    Calls Try.prog 7 #[v, v1, .int .i64 n] w fun e w' => e = .returned (.bool true) ∧ Below w.heap.size w w' := by
  have HR := Lib.hid hr
  have HL := Lib.hid hl
  have HF := Lib.hid hf
  have HN := Lib.hid hn
  have HR1 := Lib.hid hr1
  have HL1 := Lib.hid hl1
  have HF1 := Lib.hid hf1
  have HN1 := Lib.hid hn1
  clear hr hf hn hl hfn hr1 hf1 hn1 hl1
  cases hsh : decide (l.length ≤ 40) with
  | false =>
    have HH := Lib.hid hsh; clear hsh
    go_enter Try.func7, Try.ntmps7
    go_wp2_with fail
    refine (few_c v l _ false HR.out HL.out HH).mono ?_; rintro e w1 ⟨rfl, rfl⟩
    go_wp2_with fail
    refine (AW.out _).mono ?_; rintro e w2 ⟨rfl, hq2⟩
    go_wp2_with fail
    go_ret
    exact ⟨rfl, hq2⟩
  | true =>
    have HH := Lib.hid hsh
    cases hsh1 : decide (l'.length ≤ 40) with
    | false =>
      have HH1 := Lib.hid hsh1; clear hsh hsh1
      go_enter Try.func7, Try.ntmps7
      go_wp2_with fail
      refine (few_c v l _ true HR.out HL.out HH).mono ?_; rintro e w1 ⟨rfl, rfl⟩
      go_wp2_with fail
      refine (few_c v1 l' _ false HR1.out HL1.out HH1).mono ?_; rintro e w1 ⟨rfl, rfl⟩
      go_wp2_with fail
      refine (AW.out _).mono ?_; rintro e w2 ⟨rfl, hq2⟩
      go_wp2_with fail
      go_ret
      exact ⟨rfl, hq2⟩
    | true =>
      have HH1 := Lib.hid hsh1
      have H40 := of_decide_eq_true hsh
      have H41 := of_decide_eq_true hsh1
      have A6 := Lib.hid (show l.length ≤ 40 ∧ l'.length ≤ 40 from ⟨H40, H41⟩)
      have A5 := Lib.hid (show l.length ≤ 1000000 ∧ l.length ≤ 100000 ∧ l.length ≤ 50000 by omega)
      have B5 := Lib.hid (show l'.length ≤ 1000000 ∧ l'.length ≤ 100000 ∧ l'.length ≤ 50000 ∧ l'.length ≤ 90000 by omega)
      have C5 := Lib.hid (show (canonL l).length ≤ 1000000 from Nat.le_trans (canon_spec l).2.2 (by omega))
      have U5 := Lib.hid (show (uniS l l').length ≤ 1000000 from Nat.le_trans (uni_len l l') (by omega))
      have M5 := Lib.hid (show (minS l l').length ≤ 1000000 from Nat.le_trans (min_len l l') (by omega))
      have K5 := Lib.hid (show (comS l l').length ≤ 1000000 from Nat.le_trans (com_len l l') (Nat.le_trans (Nat.mul_le_mul H40 H41) (by decide)))
      have UI := Lib.hid (isL_yes (uniS_spec l l').1)
      have KI := Lib.hid (isL_yes (comS_spec l l').1)
      have MI := Lib.hid (isL_yes (minS_spec l l').1)
      have CI := Lib.hid (isL_yes (canon_spec l).1)
      obtain ⟨x, hx⟩ : ∃ x, hasL l n = x := ⟨_, rfl⟩
      obtain ⟨y, hy⟩ : ∃ x, hasL l' n = x := ⟨_, rfl⟩
      have HX := Lib.hid hx
      have HY := Lib.hid hy
      have UX := Lib.hid (show hasL (uniS l l') n = (x || y) by rw [has_uni, hx, hy])
      have KX := Lib.hid (show hasL (comS l l') n = (x && y) by rw [has_com, hx, hy])
      have MX := Lib.hid (show hasL (minS l l') n = (x && !y) by rw [has_min, hx, hy])
      have CX := Lib.hid (show hasL (canonL l) n = x by rw [has_can, hx])
      clear hsh hsh1 H40 H41 hx hy
      cases x <;> cases y
      all_goals
        go_enter Try.func7, Try.ntmps7
        go_wp2_with fail
        refine (few_c v l _ true HR.out HL.out HH).mono ?_; rintro e w1 ⟨rfl, rfl⟩
        go_wp2_with fail
        refine (few_c v1 l' _ true HR1.out HL1.out HH1).mono ?_; rintro e w1 ⟨rfl, rfl⟩
        go_wp2_with fail
        refine (Has_is v l n _ _ HR.out A5.out.1 HX).mono ?_; rintro e w1 ⟨rfl, hq1⟩
        have Q1 := Lib.hid hq1; clear hq1
        go_wp2_with fail
        refine (Has_is v1 l' n _ _ (HR1.out.q Q1.out) B5.out.1 HY).mono ?_; rintro e w2 ⟨rfl, hq2⟩
        have Q2 := Lib.hid (Q1.out.trans hq2); clear hq2
        go_wp2_with fail
        refine (Union_c v v1 l l' _ (HR.out.q Q2.out) (HR1.out.q Q2.out) HN.out HN1.out A5.out.2.2 B5.out.2.2.1).mono ?_; rintro e w3 ⟨u, rfl, ho3, hq3⟩
        have Q3 := Lib.hid (Q2.out.trans hq3)
        have U3 := Lib.hid ho3.rd; clear ho3 hq3
        go_wp2_with fail
        refine (Common_c v v1 l l' _ (HR.out.q Q3.out) (HR1.out.q Q3.out) A5.out.2.1 B5.out.2.1).mono ?_; rintro e w4 ⟨c, rfl, ho4, hq4⟩
        have Q4 := Lib.hid (Q3.out.trans hq4)
        have U4 := Lib.hid (U3.out.q hq4)
        have K4 := Lib.hid ho4.rd; clear ho4 hq4
        go_wp2_with fail
        refine (Minus_c v v1 l l' _ (HR.out.q Q4.out) (HR1.out.q Q4.out) A5.out.2.1 B5.out.2.2.2 HF.out HF1.out).mono ?_; rintro e w5 ⟨m, rfl, ho5, hq5⟩
        have Q5 := Lib.hid (Q4.out.trans hq5)
        have U5' := Lib.hid (U4.out.q hq5)
        have K5' := Lib.hid (K4.out.q hq5)
        have M5' := Lib.hid ho5.rd; clear ho5 hq5
        have QZ := Lib.hid (Q.refl w5)
        go_wp2_with fail
        refine (Is_is u _ _ _ (U5'.out.q QZ.out) U5.out UI).mono ?_; rintro e w6 ⟨rfl, hq⟩
        have QZ := Lib.hid (QZ.out.trans hq); clear hq
        go_wp2_with fail
        refine (Is_is c _ _ _ (K5'.out.q QZ.out) K5.out KI).mono ?_; rintro e w7 ⟨rfl, hq⟩
        have QZ := Lib.hid (QZ.out.trans hq); clear hq
        go_wp2_with fail
        refine (Is_is m _ _ _ (M5'.out.q QZ.out) M5.out MI).mono ?_; rintro e w8 ⟨rfl, hq⟩
        have QZ := Lib.hid (QZ.out.trans hq); clear hq
        go_wp2_with fail
        refine (Canon_c v l _ (HR.out.q (Q5.out.trans QZ.out)) A5.out.1).mono ?_; rintro e w9 ⟨z, rfl, hoz, hq⟩
        have QZ := Lib.hid (QZ.out.trans hq)
        have Z9 := Lib.hid hoz.rd; clear hq hoz
        go_wp2_with fail
        refine (Is_is z _ _ _ Z9.out C5.out CI).mono ?_; rintro e w10 ⟨rfl, hq⟩
        have QZ := Lib.hid (QZ.out.trans hq); clear hq
        go_wp2_with fail
        refine (Canon_c v l _ (HR.out.q (Q5.out.trans QZ.out)) A5.out.1).mono ?_; rintro e w11 ⟨z2, rfl, hoz, hq⟩
        have QZ := Lib.hid (QZ.out.trans hq)
        have Z11 := Lib.hid hoz.rd; clear hq hoz
        go_wp2_with fail
        refine (Has_is z2 _ n _ _ Z11.out C5.out CX).mono ?_; rintro e w12 ⟨rfl, hq⟩
        have QZ := Lib.hid (QZ.out.trans hq); clear hq
        go_wp2_with fail
        refine (Has_is u _ n _ _ (U5'.out.q QZ.out) U5.out UX).mono ?_; rintro e w13 ⟨rfl, hq⟩
        have QZ := Lib.hid (QZ.out.trans hq); clear hq
        go_wp2_with fail
        refine (Has_is c _ n _ _ (K5'.out.q QZ.out) K5.out KX).mono ?_; rintro e w14 ⟨rfl, hq⟩
        have QZ := Lib.hid (QZ.out.trans hq); clear hq
        go_wp2_with fail
        refine (Has_is m _ n _ _ (M5'.out.q QZ.out) M5.out MX).mono ?_; rintro e w15 ⟨rfl, hq⟩
        have QZ := Lib.hid (QZ.out.trans hq); clear hq
        go_wp2_with fail
        refine (AW.out _).mono ?_; rintro e w16 ⟨rfl, hq⟩
        have QZ := Lib.hid (QZ.out.trans hq); clear hq
        go_wp2_with fail
        go_ret
        exact ⟨rfl, Q5.out.trans QZ.out⟩
end Go.Proofs.Ytnbpkbdkhegheaa
