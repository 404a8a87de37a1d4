/- Which rectangles have their corners in the hull: the mathematics of PolyChord; and the contract of inside. -/
import Derived.Test.YtkkghejbdakmpaaWithinM
import Derived.Test.YtkkghejbdakmpaaHullU
import Derived.Test.YtkkghejbdakmpaaAwake
set_option linter.unusedVariables false
set_option linter.unusedSimpArgs false
namespace Go.Proofs.Ytkkghejbdakmpaa
open Go.ChangeShapes Go.WideShapes Go.ChangeAt Go.RowKit Pm

def insB (H : List P) (a b lo hi : Int) : Bool := has H (a, lo) && has H (a, hi) && has H (b, lo) && has H (b, hi)
theorem has_inP {l : List P} {q : P} (h : has l q = true) : inP q = true := by
  cases hq : inP q with
  | true => rfl
  | false => rw [has_far hq] at h; exact h
theorem inP_two {x y : Int} (h1 : -600 ≤ x ∧ x ≤ 600) (h2 : -600 ≤ y ∧ y ≤ 600) : inP (x, y) = true := by
  unfold inP inR; simp; omega
theorem ins_bd {l : List P} (hn : hull l ≠ []) {y X : Int} (hI : Ins (hull l) y X) : -600 ≤ X ∧ X ≤ 600 := by
  obtain ⟨G0, h3⟩ := hull_pgon hn
  have G : Pgon (hull l) (hull l) := ⟨fun i hi p hp => G0.ed i hi p (G0.me p hp), G0.tr, fun x hx => hx⟩
  have hR := hull_rng l
  obtain ⟨⟨i, hi, L⟩, ⟨j, hj, R⟩⟩ := ins_edges G h3 hI
  exact ⟨lef_bd (hR _ (mem_g hi)) (hR _ (mem_g (nx_lt _ (by omega)))) L, rig_bd (hR _ (mem_g hj)) (hR _ (mem_g (nx_lt _ (by omega)))) R⟩
theorem insB_yes {l : List P} (hn : hull l ≠ []) {a b lo hi : Int} (h : insB (hull l) a b lo hi = true) : (Ins (hull l) lo a ∧ Ins (hull l) lo b ∧ Ins (hull l) hi a ∧ Ins (hull l) hi b) ∧ -600 ≤ lo ∧ hi ≤ 600 := by
  unfold insB at h
  rw [Bool.and_eq_true, Bool.and_eq_true, Bool.and_eq_true] at h
  obtain ⟨⟨⟨h1, h2⟩, h3⟩, h4⟩ := h
  have r1 := inP_yes (has_inP h1)
  have r2 := inP_yes (has_inP h2)
  exact ⟨⟨(hull_has hn (has_inP h1)).1 h1, (hull_has hn (has_inP h3)).1 h3, (hull_has hn (has_inP h2)).1 h2, (hull_has hn (has_inP h4)).1 h4⟩, r1.2.1, r2.2.2⟩
/-- a rectangle whose corners are in the hull is within the chord -/
theorem insB_chord {l : List P} (hn : hull l ≠ []) {a b lo hi : Int} (hab : a < b) (hlo : lo < hi) (h : insB (hull l) a b lo hi = true) : (chord l lo hi).1 ≤ a ∧ b ≤ (chord l lo hi).2 := by
  obtain ⟨c, h1, h2⟩ := insB_yes hn h
  rcases chord_sq hn hlo h1 h2 hab with g | ⟨_, g⟩ | g
  · exact g
  · exact absurd c g
  · exact absurd c g
theorem zero_no {l : List P} {lo hi x : Int} (h0 : chord l lo hi = (0, 0)) (hn : hull l ≠ []) (hlo : lo < hi) : insB (hull l) x (x + 1) lo hi = false := by
  cases h : insB (hull l) x (x + 1) lo hi with
  | false => rfl
  | true =>
    have := insB_chord hn (show x < x + 1 by omega) hlo h
    rw [h0] at this
    simp only at this
    omega
theorem chord_in {l : List P} {lo hi a b : Int} (h0 : chord l lo hi = (a, b)) (hne : (a, b) ≠ ((0, 0) : P)) : hull l ≠ [] ∧ a < b ∧ lo < hi ∧ -600 ≤ a ∧ b ≤ 600 ∧ insB (hull l) a b lo hi = true ∧ insB (hull l) (a - 1) b lo hi = false ∧ insB (hull l) a (b + 1) lo hi = false := by
  rcases chord_fac l lo hi with e | ⟨hn, h1, h2, h3, h4⟩
  · rw [h0] at e; exact absurd e hne
  · have E := chord_ends h4
    rw [h0] at E h4
    simp only at h4
    obtain ⟨e1, e2⟩ := E a (.inl rfl)
    obtain ⟨e3, e4⟩ := E b (.inr rfl)
    have b1 := ins_bd hn e1
    have b2 := ins_bd hn e3
    refine ⟨hn, h4, h1, b1.1, b2.2, ?_, ?_, ?_⟩
    · unfold insB
      rw [(hull_has hn (inP_two b1 ⟨h2, by omega⟩)).2 e1, (hull_has hn (inP_two b1 ⟨by omega, h3⟩)).2 e2, (hull_has hn (inP_two b2 ⟨h2, by omega⟩)).2 e3, (hull_has hn (inP_two b2 ⟨by omega, h3⟩)).2 e4]
      rfl
    · cases h : insB (hull l) (a - 1) b lo hi with
      | false => rfl
      | true =>
        have := insB_chord hn (show a - 1 < b by omega) h1 h
        rw [h0] at this; simp only at this; omega
    · cases h : insB (hull l) a (b + 1) lo hi with
      | false => rfl
      | true =>
        have := insB_chord hn (show a < b + 1 by omega) h1 h
        rw [h0] at this; simp only at this; omega
set_option maxRecDepth 100000 in
set_option maxHeartbeats 1600000 in
theorem inside_c (v : Value) (H : List P) (a b lo hi : Int) (r : Bool) (h : Hid (insB H a b lo hi = r)) (w : World) (hr : RdP w v H) (hl : H.length ≤ maxLen) : Calls Try.prog 35 #[v, .int .i64 a, .int .i64 b, .int .i64 lo, .int .i64 hi] w fun e w' => e = .returned (.bool r) ∧ Q w w' := by
  have HR := Lib.hid hr
  have HL := Lib.hid hl
  obtain ⟨b1, e1⟩ : ∃ x, has H (a, lo) = x := ⟨_, rfl⟩
  obtain ⟨b2, e2⟩ : ∃ x, has H (a, hi) = x := ⟨_, rfl⟩
  obtain ⟨b3, e3⟩ : ∃ x, has H (b, lo) = x := ⟨_, rfl⟩
  obtain ⟨b4, e4⟩ : ∃ x, has H (b, hi) = x := ⟨_, rfl⟩
  have H1 := Lib.hid (show ∀ W, Q w W → Calls Try.prog 25 #[v, .agg #[.int .i64 a, .int .i64 lo]] W fun e w' => e = .returned (.bool b1) ∧ Q W w' from fun W hq => Has_c v H (a, lo) b1 (Lib.hid e1) W (RdG.q hr hq) hl)
  have H2 := Lib.hid (show ∀ W, Q w W → Calls Try.prog 25 #[v, .agg #[.int .i64 a, .int .i64 hi]] W fun e w' => e = .returned (.bool b2) ∧ Q W w' from fun W hq => Has_c v H (a, hi) b2 (Lib.hid e2) W (RdG.q hr hq) hl)
  have H3 := Lib.hid (show ∀ W, Q w W → Calls Try.prog 25 #[v, .agg #[.int .i64 b, .int .i64 lo]] W fun e w' => e = .returned (.bool b3) ∧ Q W w' from fun W hq => Has_c v H (b, lo) b3 (Lib.hid e3) W (RdG.q hr hq) hl)
  have H4 := Lib.hid (show ∀ W, Q w W → Calls Try.prog 25 #[v, .agg #[.int .i64 b, .int .i64 hi]] W fun e w' => e = .returned (.bool b4) ∧ Q W w' from fun W hq => Has_c v H (b, hi) b4 (Lib.hid e4) W (RdG.q hr hq) hl)
  have HE := Lib.hid (show (b1 && b2 && b3 && b4) = r by rw [← h.out]; unfold insB; rw [e1, e2, e3, e4])
  clear e1 e2 e3 e4 h hr hl
  cases b1 with
  | false =>
    have HF := Lib.hid (show false = r from HE.out)
    clear HE
    go_enter Try.func35, Try.ntmps35
    go_wp2_with fail
    refine (pt_q a lo _).mono ?_; rintro E w1 ⟨rfl, hq1⟩
    have Q1 := Lib.hid hq1
    clear hq1
    go_wp2_with fail
    refine (H1.out _ Q1.out).mono ?_; rintro E w2 ⟨rfl, hq2⟩
    have Q2 := Lib.hid (Q1.out.trans hq2)
    clear hq2
    go_wp2_with fail
    go_ret
    exact ⟨by rw [← HF.out]; rfl, Q2.out⟩
  | true =>
    cases b2 with
    | false =>
      have HF := Lib.hid (show false = r from HE.out)
      clear HE
      go_enter Try.func35, Try.ntmps35
      go_wp2_with fail
      refine (pt_q a lo _).mono ?_; rintro E w1 ⟨rfl, hq1⟩
      have Q1 := Lib.hid hq1
      clear hq1
      go_wp2_with fail
      refine (H1.out _ Q1.out).mono ?_; rintro E w2 ⟨rfl, hq2⟩
      have Q2 := Lib.hid (Q1.out.trans hq2)
      clear hq2
      go_wp2_with fail
      refine (pt_q a hi _).mono ?_; rintro E w3 ⟨rfl, hq3⟩
      have Q3 := Lib.hid (Q2.out.trans hq3)
      clear hq3
      go_wp2_with fail
      refine (H2.out _ Q3.out).mono ?_; rintro E w4 ⟨rfl, hq4⟩
      have Q4 := Lib.hid (Q3.out.trans hq4)
      clear hq4
      go_wp2_with fail
      go_ret
      exact ⟨by rw [← HF.out]; rfl, Q4.out⟩
    | true =>
      cases b3 with
      | false =>
        have HF := Lib.hid (show false = r from HE.out)
        clear HE
        go_enter Try.func35, Try.ntmps35
        go_wp2_with fail
        refine (pt_q a lo _).mono ?_; rintro E w1 ⟨rfl, hq1⟩
        have Q1 := Lib.hid hq1
        clear hq1
        go_wp2_with fail
        refine (H1.out _ Q1.out).mono ?_; rintro E w2 ⟨rfl, hq2⟩
        have Q2 := Lib.hid (Q1.out.trans hq2)
        clear hq2
        go_wp2_with fail
        refine (pt_q a hi _).mono ?_; rintro E w3 ⟨rfl, hq3⟩
        have Q3 := Lib.hid (Q2.out.trans hq3)
        clear hq3
        go_wp2_with fail
        refine (H2.out _ Q3.out).mono ?_; rintro E w4 ⟨rfl, hq4⟩
        have Q4 := Lib.hid (Q3.out.trans hq4)
        clear hq4
        go_wp2_with fail
        refine (pt_q b lo _).mono ?_; rintro E w5 ⟨rfl, hq5⟩
        have Q5 := Lib.hid (Q4.out.trans hq5)
        clear hq5
        go_wp2_with fail
        refine (H3.out _ Q5.out).mono ?_; rintro E w6 ⟨rfl, hq6⟩
        have Q6 := Lib.hid (Q5.out.trans hq6)
        clear hq6
        go_wp2_with fail
        go_ret
        exact ⟨by rw [← HF.out]; rfl, Q6.out⟩
      | true =>
        have HF := Lib.hid (show b4 = r from HE.out)
        clear HE
        go_enter Try.func35, Try.ntmps35
        go_wp2_with fail
        refine (pt_q a lo _).mono ?_; rintro E w1 ⟨rfl, hq1⟩
        have Q1 := Lib.hid hq1
        clear hq1
        go_wp2_with fail
        refine (H1.out _ Q1.out).mono ?_; rintro E w2 ⟨rfl, hq2⟩
        have Q2 := Lib.hid (Q1.out.trans hq2)
        clear hq2
        go_wp2_with fail
        refine (pt_q a hi _).mono ?_; rintro E w3 ⟨rfl, hq3⟩
        have Q3 := Lib.hid (Q2.out.trans hq3)
        clear hq3
        go_wp2_with fail
        refine (H2.out _ Q3.out).mono ?_; rintro E w4 ⟨rfl, hq4⟩
        have Q4 := Lib.hid (Q3.out.trans hq4)
        clear hq4
        go_wp2_with fail
        refine (pt_q b lo _).mono ?_; rintro E w5 ⟨rfl, hq5⟩
        have Q5 := Lib.hid (Q4.out.trans hq5)
        clear hq5
        go_wp2_with fail
        refine (H3.out _ Q5.out).mono ?_; rintro E w6 ⟨rfl, hq6⟩
        have Q6 := Lib.hid (Q5.out.trans hq6)
        clear hq6
        go_wp2_with fail
        refine (pt_q b hi _).mono ?_; rintro E w7 ⟨rfl, hq7⟩
        have Q7 := Lib.hid (Q6.out.trans hq7)
        clear hq7
        go_wp2_with fail
        refine (H4.out _ Q7.out).mono ?_; rintro E w8 ⟨rfl, hq8⟩
        have Q8 := Lib.hid (Q7.out.trans hq8)
        clear hq8
        go_wp2_with fail
        go_ret
        exact ⟨by rw [← HF.out]; rfl, Q8.out⟩
end Go.Proofs.Ytkkghejbdakmpaa
