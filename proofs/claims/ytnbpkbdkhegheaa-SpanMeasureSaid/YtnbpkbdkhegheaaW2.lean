/- The walk of the law SpanCanons. -/
import Derived.Test.YtnbpkbdkhegheaaOpen
import Derived.Test.YtnbpkbdkhegheaaIs
import Derived.Test.YtnbpkbdkhegheaaRCanon
import Derived.Test.YtnbpkbdkhegheaaRead
set_option linter.unusedVariables false
set_option linter.unusedSimpArgs false
namespace Go.Proofs.Ytnbpkbdkhegheaa
open Go.ChangeShapes Go.WideShapes Go.ChangeAt Go.RowKit Sm

theorem Is_is (v : Value) (l : List S) (b : Bool) (w : World) (hr : Rd w v l) (hl : l.length ≤ 1000000) (h : Hid (isL l = b)) : Calls Try.prog 20 #[v] w fun e w' => e = .returned (.bool b) ∧ Q w w' :=
  (Is_c v l w hr hl).mono fun _ _ ⟨p, q⟩ => ⟨by rw [p, h.out], q⟩
theorem rIs_is (v : Value) (l : List S) (b : Bool) (w : World) (hr : Rd w v l) (hl : l.length ≤ 1000000) (h : Hid (isL l = b)) : Calls Try.prog 21 #[v] w fun e w' => e = .returned (.bool b) ∧ Q w w' :=
  (rIs_c v l w hr hl).mono fun _ _ ⟨p, q⟩ => ⟨by rw [p, h.out], q⟩
theorem Same_yes (v v1 : Value) (L : List S) (w : World) (h : Rd w v L) (h1 : Rd w v1 L) (hl : L.length ≤ 1000000) : Calls Try.prog 17 #[v, v1] w fun e w' => e = .returned (.bool true) ∧ Q w w' :=
  (Same_c v v1 L L w h h1 hl).mono fun _ _ ⟨a, b⟩ => ⟨by rw [a, decide_eq_true rfl], b⟩
set_option maxRecDepth 100000 in
set_option maxHeartbeats 1600000 in
theorem canons_walk (w : World) (AW : Awk) (v : Value) (l : List S) (hr : Rd w v l) (hn : Nn v) (hf : FitL l) (hl : l.length ≤ maxLen) : Calls Try.prog 4 #[v] w fun e w' => e = .returned (.bool true) ∧ Below w.heap.size w w' := by
  have HR := Lib.hid hr
  have HL := Lib.hid hl
  clear hr hf hn hl
  cases hsh : decide (l.length ≤ 40) with
  | false =>
    have HH := Lib.hid hsh; clear hsh
    go_enter Try.func4, Try.ntmps4
    go_wp2_with fail
    refine (few_c v l _ false HR.out HL.out HH).mono ?_; rintro e w1 ⟨rfl, rfl⟩
    go_wp2_with fail
    refine (AW.out _).mono ?_; rintro e w2 ⟨rfl, hq2⟩
    go_wp2_with fail
    go_ret
    exact ⟨rfl, hq2⟩
  | true =>
    have HH := Lib.hid hsh
    have H40 := of_decide_eq_true hsh
    have H5 := Lib.hid (show l.length ≤ 100000 by omega)
    have H6 := Lib.hid (show l.length ≤ 1000000 by omega)
    have HC := Lib.hid (show (canonL l).length ≤ 1000000 from Nat.le_trans (canon_spec l).2.2 (by omega))
    obtain ⟨b, hb⟩ : ∃ b, isL l = b := ⟨_, rfl⟩
    have HB := Lib.hid hb
    clear hsh H40 hb
    go_enter Try.func4, Try.ntmps4
    go_wp2_with fail
    refine (few_c v l _ true HR.out HL.out HH).mono ?_; rintro e w1 ⟨rfl, rfl⟩
    go_wp2_with fail
    refine (Canon_c v l _ HR.out H6.out).mono ?_; rintro e w2 ⟨x, rfl, ho2, hq2⟩
    have HO2 := Lib.hid ho2.rd
    have HQ2 := Lib.hid hq2
    clear ho2 hq2
    go_wp2_with fail
    refine (rCanon_c v l _ (HR.out.q HQ2.out) H5.out).mono ?_; rintro e w3 ⟨y, rfl, ho3, hq3⟩
    have HO3 := Lib.hid ho3.rd
    have HX3 := Lib.hid (HO2.out.q hq3)
    have HQ3 := Lib.hid (HQ2.out.trans hq3)
    clear ho3 hq3
    go_wp2_with fail
    refine (Same_yes x y _ _ HX3.out HO3.out HC.out).mono ?_; rintro e w4 ⟨rfl, hq4⟩
    have HQ4 := Lib.hid (HQ3.out.trans hq4)
    clear hq4
    go_wp2_with fail
    refine (Is_is v l b _ (HR.out.q HQ4.out) H6.out HB).mono ?_; rintro e w5 ⟨rfl, hq5⟩
    have HQ5 := Lib.hid (HQ4.out.trans hq5)
    clear hq5
    go_wp2_with fail
    refine (rIs_is v l b _ (HR.out.q HQ5.out) H6.out HB).mono ?_; rintro e w6 ⟨rfl, hq6⟩
    have HQ6 := Lib.hid (HQ5.out.trans hq6)
    clear hq6
    go_wp2_with fail
    refine (AW.out _).mono ?_; rintro e w7 ⟨rfl, hq7⟩
    have HQ7 := Lib.hid (HQ6.out.trans hq7)
    clear hq7
    go_wp2_with fail
    go_ret
    exact ⟨rfl, HQ7.out⟩
end Go.Proofs.Ytnbpkbdkhegheaa
