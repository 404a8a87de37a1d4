/- The contract of Format at any number. -/
import Derived.Test.YthpopopodjgdaaaDoorForm
import Derived.Test.YthpopopodjgdaaaDoorLaid
import Derived.Sort.Grow
import Derived.Lib.ItoaLen
set_option linter.unusedVariables false
set_option linter.unusedSimpArgs false
namespace Go.Proofs.YthpopopodjgdaaaDoor
open Go.ChangeShapes Go.WideShapes Go.ChangeAt Go.RowKit Km

theorem Q.grow {a b : World} (h : Q a b) (os : Array Obj) : Q a (Go.Sort.grow b os) := by
  refine Q.trans h ⟨rfl, rfl, rfl, by simp, fun j hj => ?_⟩
  exact Go.Sort.heap_grow_old b os hj
def itS (n : Nat) : ByteArray := ⟨(Lib.decDigits n).toArray⟩
theorem itoa_g (n : Nat) (h : n ≤ 1000000) (w : World) (hl : Laid w) : Calls Tryd.prog 44 #[.int .i64 n] w fun e w' => e = .returned (.string (itS n)) ∧ Q w w' := by
  refine (Tryd.strconv_Itoa (n : Int) (by omega) (by omega) w hl).mono ?_
  rintro e w1 ⟨rfl, k, os, rfl⟩
  exact ⟨by rw [Lib.itoa_nonneg]; rfl, ((Q.refl w).drewN k).grow os⟩
theorem itS_small (n : Nat) (h : n ≤ 1000000) : (itS n).size ≤ 21 := by
  have := Lib.itoa_length_le (n : Int) (by omega) (by omega)
  rw [Lib.itoa_nonneg] at this
  exact this
theorem tdS_small (n : Nat) (h : n < 100) : (tdS n).size ≤ 4 := by
  have h3 : ∀ k, k < 100 → (tdS k).size ≤ 4 := by decide +kernel
  exact h3 n h
/-- the text of a time -/
def fmS (t : Int) : ByteArray := if isT t = true then ((((⟨#[100]⟩ : ByteArray) ++ itS (t.toNat / 1440)) ++ ⟨#[32]⟩ ++ tdS (t.toNat % 1440 / 60)) ++ ⟨#[58]⟩) ++ tdS (t.toNat % 60) else ByteArray.empty
set_option maxHeartbeats 1600000 in
theorem Format_c (t : Int) (s : ByteArray) (w : World) (hl : Laid w) (h : Hid (fmS t = s)) : Calls Tryd.prog 28 #[.int .i64 t] w fun e w' => e = .returned (.string s) ∧ Q w w' := by
  obtain ⟨b, hb⟩ : ∃ b, isT t = b := ⟨_, rfl⟩
  have HB := Lib.hid hb
  cases b with
  | false =>
    have HS := Lib.hid (show ByteArray.empty = s by rw [← h.out]; unfold fmS; rw [hb, if_neg (by decide)])
    clear hb
    go_enter Tryd.func28, Tryd.ntmps28
    go_wp2_with fail
    refine (isTime_c t false HB _).mono ?_; rintro E w1 ⟨rfl, rfl⟩
    go_wp2_with fail
    go_ret
    exact ⟨congrArg (fun t => Ending.returned (.string t)) HS.out, Q.refl _⟩
  | true =>
    have htb := isT_yes hb
    obtain ⟨d, hd⟩ : ∃ d, t.toNat / 1440 = d := ⟨_, rfl⟩
    obtain ⟨o, ho⟩ : ∃ d, t.toNat % 1440 / 60 = d := ⟨_, rfl⟩
    obtain ⟨m, hm⟩ : ∃ d, t.toNat % 60 = d := ⟨_, rfl⟩
    have d1 : d ≤ 1000000 := by omega
    have o1 : o < 100 := by omega
    have m1 : m < 100 := by omega
    have q1 : Int.tdiv t 1440 = (d : Int) := by rw [Int.tdiv_eq_ediv_of_nonneg (by omega)]; omega
    have q2 : Int.tdiv (Int.tmod t 1440) 60 = (o : Int) := by rw [Int.tmod_eq_emod_of_nonneg (by omega), Int.tdiv_eq_ediv_of_nonneg (by omega)]; omega
    have q3 : Int.tmod t 60 = (m : Int) := by rw [Int.tmod_eq_emod_of_nonneg (by omega)]; omega
    have w1 : wrap64 (d : Int) = (d : Int) := IntWalk.wrap64_in _ (by omega)
    have w2 : wrap64 (o : Int) = (o : Int) := IntWalk.wrap64_in _ (by omega)
    have w3 : wrap64 (m : Int) = (m : Int) := IntWalk.wrap64_in _ (by omega)
    obtain ⟨x, hx⟩ : ∃ x, itS d = x := ⟨_, rfl⟩
    obtain ⟨y, hy⟩ : ∃ x, tdS o = x := ⟨_, rfl⟩
    obtain ⟨z, hz⟩ : ∃ x, tdS m = x := ⟨_, rfl⟩
    have HX := Lib.hid hx
    have HY := Lib.hid hy
    have HZ := Lib.hid hz
    have sx := itS_small d d1
    have sy := tdS_small o o1
    have sz := tdS_small m m1
    rw [hx] at sx
    rw [hy] at sy
    rw [hz] at sz
    have HS := Lib.hid (show ((((⟨#[100]⟩ : ByteArray) ++ x) ++ ⟨#[32]⟩ ++ y) ++ ⟨#[58]⟩) ++ z = s by rw [← h.out]; unfold fmS; rw [hb, if_pos rfl, hd, ho, hm, hx, hy, hz])
    have HD := Lib.hid d1
    have HO := Lib.hid o1
    have HM := Lib.hid m1
    have HLd := Lib.hid hl
    clear hb htb hd ho hm hx hy hz d1 o1 m1 h hl
    go_enter Tryd.func28, Tryd.ntmps28
    go_wp2_with fail
    refine (isTime_c t true HB _).mono ?_; rintro E w1 ⟨rfl, rfl⟩
    go_wp2_with fail
    refine (itoa_g d HD.out _ HLd.out).mono ?_; rintro E w2 ⟨rfl, hq2⟩
    rw [HX.out]
    go_wp2_with fail
    refine (twoD_c o HO.out _).mono ?_; rintro E w3 ⟨rfl, rfl⟩
    rw [HY.out]
    go_wp2_with fail
    refine (twoD_c m HM.out _).mono ?_; rintro E w4 ⟨rfl, rfl⟩
    rw [HZ.out]
    go_wp2_with fail
    go_ret
    exact ⟨congrArg (fun t => Ending.returned (.string t)) HS.out, hq2⟩
end Go.Proofs.YthpopopodjgdaaaDoor
