/- The walk of the law SpanTotals. -/
import Derived.Test.YtnbpkbdkhegheaaOpen
import Derived.Test.YtnbpkbdkhegheaaRef
import Derived.Test.YtnbpkbdkhegheaaRLong
import Derived.Deep.RegionHeld3
set_option linter.unusedVariables false
set_option linter.unusedSimpArgs false
namespace Go.Proofs.Ytnbpkbdkhegheaa
open Go.ChangeShapes Go.WideShapes Go.ChangeAt Go.RowKit Sm

theorem Long_is (v : Value) (l : List S) (s : S) (b : Bool) (w : World) (hr : Rd w v l) (hl : l.length ≤ 1000000) (hf : FitL l) (h : Hid (bestL (canonL l) = s)) (h2 : Hid (someB s = b)) : Calls Try.prog 28 #[v] w fun e w' => e = .returned (.tuple #[.agg #[.int .i64 s.1, .int .i64 s.2], .bool b]) ∧ Q w w' :=
  (Longest_c v l w hr hl hf).mono fun _ _ ⟨p, q⟩ => ⟨by rw [p, h.out, h2.out]; rfl, q⟩
theorem rLong_is (v : Value) (l : List S) (s : S) (b : Bool) (w : World) (hr : Rd w v l) (hl : l.length ≤ 100000) (hf : FitL l) (h : Hid (bestL (canonL l) = s)) (h2 : Hid (someB s = b)) : Calls Try.prog 29 #[v] w fun e w' => e = .returned (.tuple #[.agg #[.int .i64 s.1, .int .i64 s.2], .bool b]) ∧ Q w w' :=
  (rLongest_c v l w hr hl hf).mono fun _ _ ⟨p, q⟩ => ⟨by rw [p, h.out, h2.out]; rfl, q⟩
theorem Total_is (v : Value) (l : List S) (t : Int) (w : World) (hr : Rd w v l) (hl : l.length ≤ 1000000) (hf : FitL l) (h : Hid (totL (canonL l) = t)) : Calls Try.prog 30 #[v] w fun e w' => e = .returned (.int .i64 t) ∧ Q w w' :=
  (Total_c v l w hr hl hf).mono fun _ _ ⟨p, q⟩ => ⟨by rw [p, h.out], q⟩
theorem rTotal_is (v : Value) (l : List S) (t : Int) (w : World) (hr : Rd w v l) (hl : l.length ≤ 100000) (hf : FitL l) (h : Hid (totL (canonL l) = t)) : Calls Try.prog 31 #[v] w fun e w' => e = .returned (.int .i64 t) ∧ Q w w' :=
  (rTotal_c v l w hr hl hf).mono fun _ _ ⟨p, q⟩ => ⟨by rw [p, h.out], q⟩
theorem Has_is (v : Value) (l : List S) (n : Int) (b : Bool) (w : World) (hr : Rd w v l) (hl : l.length ≤ 1000000) (h : Hid (hasL l n = b)) : Calls Try.prog 32 #[v, .int .i64 n] w fun e w' => e = .returned (.bool b) ∧ Q w w' :=
  (Has_c v l n w hr hl).mono fun _ _ ⟨p, q⟩ => ⟨by rw [p, h.out], q⟩
theorem rHas_is (v : Value) (l : List S) (n : Int) (b : Bool) (w : World) (hr : Rd w v l) (hl : l.length ≤ 1000000) (h : Hid (hasL l n = b)) : Calls Try.prog 33 #[v, .int .i64 n] w fun e w' => e = .returned (.bool b) ∧ Q w w' :=
  (rHas_c v l n w hr hl).mono fun _ _ ⟨p, q⟩ => ⟨by rw [p, h.out], q⟩
set_option maxRecDepth 100000 in
set_option maxHeartbeats 1600000 in
theorem totals_walk (w : World) (AW : Awk) (v : Value) (l : List S) (hr : Rd w v l) (hn : Nn v) (hf : FitL l) (hl : l.length ≤ maxLen) (n : Int) (hfn : Fit n) : Calls Try.prog 6 #[v, .int .i64 n] w fun e w' => e = .returned (.bool true) ∧ Below w.heap.size w w' := by
  have HR := Lib.hid hr
  have HL := Lib.hid hl
  have HF := Lib.hid hf
  clear hr hf hn hl hfn
  cases hsh : decide (l.length ≤ 40) with
  | false =>
    have HH := Lib.hid hsh; clear hsh
    go_enter Try.func6, Try.ntmps6
    go_wp2_with fail
    refine (few_c v l _ false (HR.out.q (by repeat (first | exact Q.refl _ | refine Q.alloc ?_ _))) HL.out HH).mono ?_; rintro e w1 ⟨rfl, rfl⟩
    go_wp2_with fail
    refine (AW.out _).mono ?_; rintro e w2 ⟨rfl, hq2⟩
    go_wp2_with fail
    go_ret
    exact ⟨rfl, by first | exact hq2 | exact ((Q.refl w).alloc _).trans hq2 | exact (((Q.refl w).alloc _).alloc _).trans hq2⟩
  | true =>
    have HH := Lib.hid hsh
    have H40 := of_decide_eq_true hsh
    have H5 := Lib.hid (show l.length ≤ 100000 by omega)
    have H6 := Lib.hid (show l.length ≤ 1000000 by omega)
    obtain ⟨s, hs⟩ : ∃ b, bestL (canonL l) = b := ⟨_, rfl⟩
    obtain ⟨ok, hok⟩ : ∃ b, someB s = b := ⟨_, rfl⟩
    obtain ⟨t, ht⟩ : ∃ b, totL (canonL l) = b := ⟨_, rfl⟩
    obtain ⟨h, hh⟩ : ∃ b, hasL l n = b := ⟨_, rfl⟩
    have HS := Lib.hid hs
    have HOK := Lib.hid hok
    have HT := Lib.hid ht
    have HB := Lib.hid hh
    have heq1 : ∀ w, (Op.equalIn 10000 23 (.agg #[.int .i64 s.1, .int .i64 s.2]) (.agg #[.int .i64 s.1, .int .i64 s.2])).run Try.prog w = .ok true w := fun w => by rw [eqIn]; simp
    have hgd := eqGd
    clear hsh H40 hs hok ht hh
    go_enter Try.func6, Try.ntmps6
    go_wp2_with fail
    refine (few_c v l _ true (HR.out.q (by repeat (first | exact Q.refl _ | refine Q.alloc ?_ _))) HL.out HH).mono ?_; rintro e w1 ⟨rfl, rfl⟩
    go_wp2_with fail
    refine (Long_is v l s ok _ HR.out H6.out HF.out HS HOK).mono ?_; rintro e w2 ⟨rfl, hq2⟩
    have HQ2 := Lib.hid hq2
    clear hq2
    go_wp2_with fail
    refine (rLong_is v l s ok _ (HR.out.q (HQ2.out.alloc _)) H5.out HF.out HS HOK).mono ?_; rintro e w3 ⟨rfl, hq3⟩
    have HQ3 := Lib.hid ((HQ2.out.alloc _).trans hq3)
    have HBX := Lib.hid ((Bx.new w2 s).q hq3)
    clear hq3
    go_wp2_with fail
    refine (Total_is v l t _ (HR.out.q (HQ3.out.alloc _)) H6.out HF.out HT).mono ?_; rintro e w4 ⟨rfl, hq4⟩
    have HQ4 := Lib.hid ((HQ3.out.alloc _).trans hq4)
    have HX4 := Lib.hid ((HBX.out.q ((Q.refl _).alloc _)).q hq4)
    have HY4 := Lib.hid ((Bx.new w3 s).q hq4)
    clear hq4
    go_wp2_with fail
    refine (rTotal_is v l t _ (HR.out.q HQ4.out) H5.out HF.out HT).mono ?_; rintro e w5 ⟨rfl, hq5⟩
    have HQ5 := Lib.hid (HQ4.out.trans hq5)
    have HX5 := Lib.hid (HX4.out.q hq5)
    have HY5 := Lib.hid (HY4.out.q hq5)
    clear hq5
    go_wp2_with fail
    refine (Has_is v l n h _ (HR.out.q HQ5.out) H6.out HB).mono ?_; rintro e w6 ⟨rfl, hq6⟩
    have HQ6 := Lib.hid (HQ5.out.trans hq6)
    have HX6 := Lib.hid (HX5.out.q hq6)
    have HY6 := Lib.hid (HY5.out.q hq6)
    clear hq6
    go_wp2_with fail
    refine (rHas_is v l n h _ (HR.out.q HQ6.out) H6.out HB).mono ?_; rintro e w7 ⟨rfl, hq7⟩
    have HQ7 := Lib.hid (HQ6.out.trans hq7)
    obtain ⟨hx0, hx1, _, _, hx4⟩ := HX6.out.q hq7
    obtain ⟨hy0, hy1, _, _, hy4⟩ := HY6.out.q hq7
    clear hq7
    go_wp2_with fail
    refine (AW.out _).mono ?_; rintro e w8 ⟨rfl, hq8⟩
    have HQ8 := Lib.hid (HQ7.out.trans hq8)
    clear hq8
    go_wp2_with fail
    go_ret
    exact ⟨rfl, HQ8.out⟩
end Go.Proofs.Ytnbpkbdkhegheaa
