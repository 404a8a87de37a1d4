/- The walk of the law SpanMeasure. -/
import Derived.Test.YtnbpkbdkhegheaaMeas
import Derived.Test.YtnbpkbdkhegheaaW5
set_option linter.unusedVariables false
set_option linter.unusedSimpArgs false
namespace Go.Proofs.Ytnbpkbdkhegheaa
open Go.ChangeShapes Go.WideShapes Go.ChangeAt Go.RowKit Sm

set_option maxRecDepth 100000 in
set_option maxHeartbeats 3200000 in
theorem measure_walk (w : World) (AW : Awk) (v : Value) (l : List S) (hr : Rd w v l) (hn : Nn v) (hf : FitL l) (hl : l.length ≤ maxLen) (v1 : Value) (l' : List S) (hr1 : Rd w v1 l') (hn1 : Nn v1) (hf1 : FitL l') (hl1 : l'.length ≤ maxLen) :
    Calls Try.prog 9 #[v, v1] w fun e w' => e = .returned (.bool true) ∧ Below w.heap.size w w' := by
  have HR := Lib.hid hr
  have HL := Lib.hid hl
  have HF := Lib.hid hf
  have HN := Lib.hid hn
  have HR1 := Lib.hid hr1
  have HL1 := Lib.hid hl1
  have HF1 := Lib.hid hf1
  have HN1 := Lib.hid hn1
  clear hr hf hn hl hr1 hf1 hn1 hl1
  cases hsh : decide (l.length ≤ 40) with
  | false =>
    have HH := Lib.hid hsh; clear hsh
    go_enter Try.func9, Try.ntmps9
    go_wp2_with fail
    refine (few_c v l _ false HR.out HL.out HH).mono ?_; rintro e w1 ⟨rfl, rfl⟩
    go_wp2_with fail
    refine (AW.out _).mono ?_; rintro e w2 ⟨rfl, hq2⟩
    go_wp2_with fail
    go_ret
    exact ⟨rfl, hq2⟩
  | true =>
    have HH := Lib.hid hsh
    cases hsh1 : decide (l'.length ≤ 40) with
    | false =>
      have HH1 := Lib.hid hsh1; clear hsh hsh1
      go_enter Try.func9, Try.ntmps9
      go_wp2_with fail
      refine (few_c v l _ true HR.out HL.out HH).mono ?_; rintro e w1 ⟨rfl, rfl⟩
      go_wp2_with fail
      refine (few_c v1 l' _ false HR1.out HL1.out HH1).mono ?_; rintro e w1 ⟨rfl, rfl⟩
      go_wp2_with fail
      refine (AW.out _).mono ?_; rintro e w2 ⟨rfl, hq2⟩
      go_wp2_with fail
      go_ret
      exact ⟨rfl, hq2⟩
    | true =>
      have HH1 := Lib.hid hsh1
      have H40 := of_decide_eq_true hsh
      have H41 := of_decide_eq_true hsh1
      have A5 := Lib.hid (show l.length ≤ 1000000 ∧ l.length ≤ 100000 ∧ l.length ≤ 50000 by omega)
      have B5 := Lib.hid (show l'.length ≤ 1000000 ∧ l'.length ≤ 100000 ∧ l'.length ≤ 50000 ∧ l'.length ≤ 90000 by omega)
      have U5 := Lib.hid (show (uniS l l').length ≤ 1000000 from Nat.le_trans (uni_len l l') (by omega))
      have M5 := Lib.hid (show (minS l l').length ≤ 1000000 from Nat.le_trans (min_len l l') (by omega))
      have K5 := Lib.hid (show (comS l l').length ≤ 1000000 from Nat.le_trans (com_len l l') (Nat.le_trans (Nat.mul_le_mul H40 H41) (by decide)))
      have FU := Lib.hid (fit_uni HF.out HF1.out)
      have FK := Lib.hid (fit_com HF.out HF1.out)
      have FM := Lib.hid (fit_min HF.out HF1.out)
      clear hsh hsh1 H40 H41
      go_enter Try.func9, Try.ntmps9
      go_wp2_with fail
      refine (few_c v l _ true HR.out HL.out HH).mono ?_; rintro e w1 ⟨rfl, rfl⟩
      go_wp2_with fail
      refine (few_c v1 l' _ true HR1.out HL1.out HH1).mono ?_; rintro e w1 ⟨rfl, rfl⟩
      go_wp2_with fail
      refine (small_c v l _ HR.out A5.out.1).mono ?_; rintro e w1 ⟨b, rfl, hb, hq1⟩
      have QZ := Lib.hid hq1
      have SA := Lib.hid hb
      clear hb hq1
      cases b
      · go_wp2_with fail
        refine (AW.out _).mono ?_; rintro e w2 ⟨rfl, hq2⟩
        have QZ := Lib.hid (QZ.out.trans hq2); clear hq2
        go_wp2_with fail
        go_ret
        exact ⟨rfl, QZ.out⟩
      · go_wp2_with fail
        refine (small_c v1 l' _ (HR1.out.q QZ.out) B5.out.1).mono ?_; rintro e w2 ⟨b, rfl, hb, hq⟩
        have QZ := Lib.hid (QZ.out.trans hq)
        have SB := Lib.hid hb
        clear hb hq
        cases b
        · go_wp2_with fail
          refine (AW.out _).mono ?_; rintro e w3 ⟨rfl, hq⟩
          have QZ := Lib.hid (QZ.out.trans hq); clear hq
          go_wp2_with fail
          go_ret
          exact ⟨rfl, QZ.out⟩
        · have ha : smallL l := by first | exact SA.out rfl | exact SA.out trivial
          have hb : smallL l' := by first | exact SB.out rfl | exact SB.out trivial
          have hm1 := measure_uni ha hb
          have hm2 := measure_min ha hb
          have g1 := tot_small (L := canonL (uniS l l')) (canon_spec _).1 (a := l ++ l') (fun n h => mem_append.2 (((uniS_spec l l').2 n).1 (((canon_spec _).2.1 n).1 h))) (small_app ha hb)
          have g2 := tot_small (L := canonL (comS l l')) (canon_spec _).1 (a := l) (fun n h => (((comS_spec l l').2 n).1 (((canon_spec _).2.1 n).1 h)).1) ha
          have g3 := tot_small (L := canonL l) (canon_spec _).1 (a := l) (fun n h => ((canon_spec _).2.1 n).1 h) ha
          have g4 := tot_small (L := canonL l') (canon_spec _).1 (a := l') (fun n h => ((canon_spec _).2.1 n).1 h) hb
          obtain ⟨tu, hu⟩ : ∃ x, totL (canonL (uniS l l')) = x := ⟨_, rfl⟩
          obtain ⟨tc, hc⟩ : ∃ x, totL (canonL (comS l l')) = x := ⟨_, rfl⟩
          obtain ⟨tm, hm⟩ : ∃ x, totL (canonL (minS l l')) = x := ⟨_, rfl⟩
          obtain ⟨ta, hta⟩ : ∃ x, totL (canonL l) = x := ⟨_, rfl⟩
          obtain ⟨tb, htb⟩ : ∃ x, totL (canonL l') = x := ⟨_, rfl⟩
          rw [hu, hc, hta, htb] at hm1
          rw [hm, hc, hta] at hm2
          rw [hu] at g1
          rw [hc] at g2
          rw [hta] at g3
          rw [htb] at g4
          obtain ⟨z, hz⟩ : ∃ z, ta + tb = z := ⟨_, rfl⟩
          have e1 : IntKind.i64.wrap (tu + tc) = z := by rw [hm1, hz]; exact wrap_i64 _ (by unfold Fit; omega)
          have e2 : IntKind.i64.wrap (ta + tb) = z := by rw [hz]; exact wrap_i64 _ (by unfold Fit; omega)
          have e3 : IntKind.i64.wrap (ta - tc) = tm := by rw [← hm2]; exact wrap_i64 _ (by rw [hm2]; unfold Fit; omega)
          have TU := Lib.hid hu
          have TC := Lib.hid hc
          have TM := Lib.hid hm
          have TA := Lib.hid hta
          have TB := Lib.hid htb
          clear ha hb hm1 hm2 g1 g2 g3 g4 hu hc hm hta htb hz
          go_wp2_with fail
          refine (Common_c v v1 l l' _ (HR.out.q QZ.out) (HR1.out.q QZ.out) A5.out.2.1 B5.out.2.1).mono ?_; rintro e w3 ⟨x, rfl, ho, hq⟩
          have QZ := Lib.hid (QZ.out.trans hq)
          have X3 := Lib.hid ho.rd; clear ho hq
          go_wp2_with fail
          refine (Total_is x _ tc _ X3.out K5.out FK.out TC).mono ?_; rintro e w4 ⟨rfl, hq⟩
          have QZ := Lib.hid (QZ.out.trans hq); clear hq
          go_wp2_with fail
          refine (Union_c v v1 l l' _ (HR.out.q QZ.out) (HR1.out.q QZ.out) HN.out HN1.out A5.out.2.2 B5.out.2.2.1).mono ?_; rintro e w5 ⟨y, rfl, ho, hq⟩
          have QZ := Lib.hid (QZ.out.trans hq)
          have X5 := Lib.hid ho.rd; clear ho hq
          go_wp2_with fail
          refine (Total_is y _ tu _ X5.out U5.out FU.out TU).mono ?_; rintro e w6 ⟨rfl, hq⟩
          have QZ := Lib.hid (QZ.out.trans hq); clear hq
          go_wp2_with fail
          refine (Total_is v l ta _ (HR.out.q QZ.out) A5.out.1 HF.out TA).mono ?_; rintro e w7 ⟨rfl, hq⟩
          have QZ := Lib.hid (QZ.out.trans hq); clear hq
          go_wp2_with fail
          refine (Total_is v1 l' tb _ (HR1.out.q QZ.out) B5.out.1 HF1.out TB).mono ?_; rintro e w8 ⟨rfl, hq⟩
          have QZ := Lib.hid (QZ.out.trans hq); clear hq
          go_wp2_with fail
          refine (Minus_c v v1 l l' _ (HR.out.q QZ.out) (HR1.out.q QZ.out) A5.out.2.1 B5.out.2.2.2 HF.out HF1.out).mono ?_; rintro e w9 ⟨q, rfl, ho, hq⟩
          have QZ := Lib.hid (QZ.out.trans hq)
          have X9 := Lib.hid ho.rd; clear ho hq
          go_wp2_with fail
          refine (Total_is q _ tm _ X9.out M5.out FM.out TM).mono ?_; rintro e w10 ⟨rfl, hq⟩
          have QZ := Lib.hid (QZ.out.trans hq); clear hq
          go_wp2_with fail
          refine (Total_is v l ta _ (HR.out.q QZ.out) A5.out.1 HF.out TA).mono ?_; rintro e w11 ⟨rfl, hq⟩
          have QZ := Lib.hid (QZ.out.trans hq); clear hq
          go_wp2_with fail
          refine (AW.out _).mono ?_; rintro e w12 ⟨rfl, hq⟩
          have QZ := Lib.hid (QZ.out.trans hq); clear hq
          go_wp2_with fail
          go_ret
          exact ⟨rfl, QZ.out⟩
end Go.Proofs.Ytnbpkbdkhegheaa
