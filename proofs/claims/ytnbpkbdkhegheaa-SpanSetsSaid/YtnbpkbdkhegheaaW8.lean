/- The walk of the law SpanSets. -/
import Derived.Test.YtnbpkbdkhegheaaW4
import Derived.Test.YtnbpkbdkhegheaaRMin
import Derived.Test.YtnbpkbdkhegheaaRCom
set_option linter.unusedVariables false
set_option linter.unusedSimpArgs false
namespace Go.Proofs.Ytnbpkbdkhegheaa
open Go.ChangeShapes Go.WideShapes Go.ChangeAt Go.RowKit Sm

set_option maxRecDepth 100000 in
set_option maxHeartbeats 3200000 in
theorem sets_walk (w : World) (AW : Awk) (v : Value) (l : List S) (hr : Rd w v l) (hn : Nn v) (hf : FitL l) (hl : l.length ≤ maxLen) (v1 : Value) (l' : List S) (hr1 : Rd w v1 l') (hn1 : Nn v1) (hf1 : FitL l') (hl1 : l'.length ≤ maxLen) :
    Calls Try.prog 5 #[v, v1] w fun e w' => e = .returned (.bool true) ∧ Below w.heap.size w w' := by
  have HR := Lib.hid hr
  have HL := Lib.hid hl
  have HF := Lib.hid hf
  have HN := Lib.hid hn
  have HR1 := Lib.hid hr1
  have HL1 := Lib.hid hl1
  have HF1 := Lib.hid hf1
  have HN1 := Lib.hid hn1
  clear hr hf hn hl hr1 hf1 hn1 hl1
  cases hsh : decide (l.length ≤ 40) with
  | false =>
    have HH := Lib.hid hsh; clear hsh
    go_enter Try.func5, Try.ntmps5
    go_wp2_with fail
    refine (few_c v l _ false HR.out HL.out HH).mono ?_; rintro e w1 ⟨rfl, rfl⟩
    go_wp2_with fail
    refine (AW.out _).mono ?_; rintro e w2 ⟨rfl, hq2⟩
    go_wp2_with fail
    go_ret
    exact ⟨rfl, hq2⟩
  | true =>
    have HH := Lib.hid hsh
    cases hsh1 : decide (l'.length ≤ 40) with
    | false =>
      have HH1 := Lib.hid hsh1; clear hsh hsh1
      go_enter Try.func5, Try.ntmps5
      go_wp2_with fail
      refine (few_c v l _ true HR.out HL.out HH).mono ?_; rintro e w1 ⟨rfl, rfl⟩
      go_wp2_with fail
      refine (few_c v1 l' _ false HR1.out HL1.out HH1).mono ?_; rintro e w1 ⟨rfl, rfl⟩
      go_wp2_with fail
      refine (AW.out _).mono ?_; rintro e w2 ⟨rfl, hq2⟩
      go_wp2_with fail
      go_ret
      exact ⟨rfl, hq2⟩
    | true =>
      have HH1 := Lib.hid hsh1
      have H40 := of_decide_eq_true hsh
      have H41 := of_decide_eq_true hsh1
      have A5 := Lib.hid (show l.length ≤ 1000000 ∧ l.length ≤ 100000 ∧ l.length ≤ 50000 by omega)
      have B5 := Lib.hid (show l'.length ≤ 1000000 ∧ l'.length ≤ 100000 ∧ l'.length ≤ 50000 ∧ l'.length ≤ 90000 by omega)
      have U5 := Lib.hid (show (uniS l l').length ≤ 1000000 from Nat.le_trans (uni_len l l') (by omega))
      have M5 := Lib.hid (show (minS l l').length ≤ 1000000 from Nat.le_trans (min_len l l') (by omega))
      have K5 := Lib.hid (show (comS l l').length ≤ 1000000 from Nat.le_trans (com_len l l') (Nat.le_trans (Nat.mul_le_mul H40 H41) (by decide)))
      have D5 := Lib.hid (show l.length ≤ 500 ∧ l'.length ≤ 500 by omega)
      clear hsh hsh1 H40 H41
      go_enter Try.func5, Try.ntmps5
      go_wp2_with fail
      refine (few_c v l _ true HR.out HL.out HH).mono ?_; rintro e w1 ⟨rfl, rfl⟩
      go_wp2_with fail
      refine (few_c v1 l' _ true HR1.out HL1.out HH1).mono ?_; rintro e w1 ⟨rfl, rfl⟩
      have QZ := Lib.hid (Q.refl w)
      go_wp2_with fail
      refine (Union_c v v1 l l' _ (HR.out.q QZ.out) (HR1.out.q QZ.out) HN.out HN1.out A5.out.2.2 B5.out.2.2.1).mono ?_; rintro e waUnion ⟨xUnion, rfl, ho, hq⟩
      have QZ := Lib.hid (QZ.out.trans hq)
      have XA := Lib.hid ho.rd; clear ho hq
      go_wp2_with fail
      refine (rUnion_c v v1 l l' _ (HR.out.q QZ.out) (HR1.out.q QZ.out) A5.out.2.1 B5.out.2.1).mono ?_; rintro e wbUnion ⟨yUnion, rfl, ho, hq⟩
      have QZ := Lib.hid (QZ.out.trans hq)
      have XB := Lib.hid ho.rd
      have XA := Lib.hid (XA.out.q hq); clear ho hq
      go_wp2_with fail
      refine (Same_yes xUnion yUnion _ _ XA.out XB.out U5.out).mono ?_; rintro e wcUnion ⟨rfl, hq⟩
      have QZ := Lib.hid (QZ.out.trans hq); clear hq XA XB
      go_wp2_with fail
      refine (Common_c v v1 l l' _ (HR.out.q QZ.out) (HR1.out.q QZ.out) A5.out.2.1 B5.out.2.1).mono ?_; rintro e waCommon ⟨xCommon, rfl, ho, hq⟩
      have QZ := Lib.hid (QZ.out.trans hq)
      have XA := Lib.hid ho.rd; clear ho hq
      go_wp2_with fail
      refine (rCommon_c v v1 l l' _ (HR.out.q QZ.out) (HR1.out.q QZ.out) D5.out.1 D5.out.2).mono ?_; rintro e wbCommon ⟨yCommon, rfl, ho, hq⟩
      have QZ := Lib.hid (QZ.out.trans hq)
      have XB := Lib.hid ho.rd
      have XA := Lib.hid (XA.out.q hq); clear ho hq
      go_wp2_with fail
      refine (Same_yes xCommon yCommon _ _ XA.out XB.out K5.out).mono ?_; rintro e wcCommon ⟨rfl, hq⟩
      have QZ := Lib.hid (QZ.out.trans hq); clear hq XA XB
      go_wp2_with fail
      refine (Minus_c v v1 l l' _ (HR.out.q QZ.out) (HR1.out.q QZ.out) A5.out.2.1 B5.out.2.2.2 HF.out HF1.out).mono ?_; rintro e waMinus ⟨xMinus, rfl, ho, hq⟩
      have QZ := Lib.hid (QZ.out.trans hq)
      have XA := Lib.hid ho.rd; clear ho hq
      go_wp2_with fail
      refine (rMinus_c v v1 l l' _ (HR.out.q QZ.out) (HR1.out.q QZ.out) D5.out.1 D5.out.2).mono ?_; rintro e wbMinus ⟨yMinus, rfl, ho, hq⟩
      have QZ := Lib.hid (QZ.out.trans hq)
      have XB := Lib.hid ho.rd
      have XA := Lib.hid (XA.out.q hq); clear ho hq
      go_wp2_with fail
      refine (Same_yes xMinus yMinus _ _ XA.out XB.out M5.out).mono ?_; rintro e wcMinus ⟨rfl, hq⟩
      have QZ := Lib.hid (QZ.out.trans hq); clear hq XA XB
      go_wp2_with fail
      refine (AW.out _).mono ?_; rintro e wz ⟨rfl, hq⟩
      have QZ := Lib.hid (QZ.out.trans hq); clear hq
      go_wp2_with fail
      go_ret
      exact ⟨rfl, QZ.out⟩
end Go.Proofs.Ytnbpkbdkhegheaa
