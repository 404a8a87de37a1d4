/- The contracts of the library's cuts, of plainNumber, twoDigitNumber and twoDigits; Parse where every part fits. -/
import Derived.Test.YthpopopodjgdaaaDoorText
set_option linter.unusedVariables false
set_option linter.unusedSimpArgs false
namespace Go.Proofs.YthpopopodjgdaaaDoor
open Go.ChangeShapes Go.WideShapes Go.ChangeAt Go.RowKit Km

theorem lite_yes (s : ByteArray) (c : UInt8) (p : Nat) (hs : s.size ≤ 1000000) (hp : p < s.size) (h : Hid (Lib.indexByte s.data.toList c = (p : Int))) (w : World) : Calls Tryd.prog 50 #[.string s, .string ⟨#[c]⟩] w fun e w' => e = .returned (.tuple #[.string (s.extract 0 p), .string (s.extract (p + 1) s.size), .bool true]) ∧ Q w w' := by
  have i1 : (p : Int) < (s.size : Int) := by omega
  have i2 : (0 : Int) ≤ (p : Int) := by omega
  have r1 : wrap64 ((p : Int) + 1) = (p : Int) + 1 := IntWalk.wrap64_in _ (by omega)
  have i3 : (p : Int) + 1 ≤ (s.size : Int) := by omega
  have i4 : (p : Int) ≤ (s.size : Int) := by omega
  have i5 : (0 : Int) ≤ (p : Int) + 1 := by omega
  go_enter Tryd.func50, Tryd.ntmps50
  go_wp2_with fail
  refine (Tryd.stringslite_Index_one s c _).mono ?_; rintro E w1 ⟨rfl, rfl⟩
  rw [h.out]
  go_wp2_with fail
  go_quiet (fail)
  go_wp2_with fail
  go_ret3
  exact ⟨rfl, (Q.refl _).drewN _⟩
theorem lite_no (s : ByteArray) (c : UInt8) (hs : s.size ≤ 1000000) (h : Hid (Lib.indexByte s.data.toList c = -1)) (w : World) : Calls Tryd.prog 50 #[.string s, .string ⟨#[c]⟩] w fun e w' => e = .returned (.tuple #[.string s, .string ⟨#[]⟩, .bool false]) ∧ Q w w' := by
  go_enter Tryd.func50, Tryd.ntmps50
  go_wp2_with fail
  refine (Tryd.stringslite_Index_one s c _).mono ?_; rintro E w1 ⟨rfl, rfl⟩
  rw [h.out]
  go_wp2_with fail
  go_ret3
  exact ⟨rfl, Q.refl _⟩
theorem cut_yes (s : ByteArray) (c : UInt8) (p : Nat) (hs : s.size ≤ 1000000) (hp : p < s.size) (h : Hid (Lib.indexByte s.data.toList c = (p : Int))) (w : World) : Calls Tryd.prog 39 #[.string s, .string ⟨#[c]⟩] w fun e w' => e = .returned (.tuple #[.string (s.extract 0 p), .string (s.extract (p + 1) s.size), .bool true]) ∧ Q w w' := by
  go_enter Tryd.func39, Tryd.ntmps39
  go_wp2_with fail
  refine (lite_yes s c p hs hp h _).mono ?_; rintro E w1 ⟨rfl, hq⟩
  go_wp2_with fail
  go_ret3
  exact ⟨rfl, hq⟩
theorem cut_no (s : ByteArray) (c : UInt8) (hs : s.size ≤ 1000000) (h : Hid (Lib.indexByte s.data.toList c = -1)) (w : World) : Calls Tryd.prog 39 #[.string s, .string ⟨#[c]⟩] w fun e w' => e = .returned (.tuple #[.string s, .string ⟨#[]⟩, .bool false]) ∧ Q w w' := by
  go_enter Tryd.func39, Tryd.ntmps39
  go_wp2_with fail
  refine (lite_no s c hs h _).mono ?_; rintro E w1 ⟨rfl, hq⟩
  go_wp2_with fail
  go_ret3
  exact ⟨rfl, hq⟩
theorem pre_yes (s : ByteArray) (hs : 1 ≤ s.size) (hm : s.size ≤ 1000000) (h1 : ((s.extract 0 1).toList == [100]) = true) (w : World) : Calls Tryd.prog 38 #[.string s, .string ⟨#[100]⟩] w fun e w' => e = .returned (.tuple #[.string (s.extract 1 s.size), .bool true]) ∧ Q w w' := by
  have i1 : (1 : Int) ≤ (s.size : Int) := by omega
  go_enter Tryd.func38, Tryd.ntmps38
  go_wp2_with (first | go_in)
  go_ret2
  exact ⟨rfl, Q.refl _⟩
def plS (s : ByteArray) : Int × Bool := if 1 < s.size ∧ (s.get! 0).toNat = 48 then (0, false) else numS s 1099511627776
def twS (s : ByteArray) (lim : Int) : Int × Bool := if s.size = 2 then numS s (lim - 1) else (0, false)
set_option maxHeartbeats 800000 in
theorem plain_c (s : ByteArray) (v : Int) (o : Bool) (w : World) (hs : s.size ≤ 1000000) (h : Hid (plS s = (v, o))) : Calls Tryd.prog 40 #[.string s] w fun E w' => E = .returned (.tuple #[.int .i64 v, .bool o]) ∧ Q w w' := by
  by_cases h1 : 1 < s.size
  · have i1 : (1 : Int) < (s.size : Int) := by omega
    have i0 : (0 : Int) < (s.size : Int) := by omega
    have i0n : 0 < s.size := by omega
    have hg : s.get! 0 = s[0]'i0n := by
      show s.data[0]! = _
      rw [getElem!_pos s.data 0 (by exact i0n)]; rfl
    obtain ⟨z, hz⟩ : ∃ z : Int, ((s[0]'i0n).toNat : Int) = z := ⟨_, rfl⟩
    by_cases h2 : z = 48
    · have hE : (0 : Int) = v ∧ false = o := by have := h.out; unfold plS at this; rw [if_pos ⟨h1, by rw [hg]; omega⟩] at this; injection this with a b; exact ⟨a, b⟩
      obtain ⟨rfl, rfl⟩ := hE
      have hz2 : (z == 48) = true := by rw [h2]; rfl
      clear h2 h1 hg
      go_enter Tryd.func40, Tryd.ntmps40
      go_wp2_with fail
      (try go_quiet (fail))
      go_wp2_with fail
      go_ret2
      exact ⟨rfl, by repeat (first | exact Q.refl _ | refine Q.drewN ?_ _)⟩
    · have HN := Lib.hid (show numS s 1099511627776 = (v, o) by have := h.out; unfold plS at this; rw [if_neg (by rw [hg]; omega)] at this; exact this)
      have hz2 : (z == 48) = false := by simp; exact h2
      clear h2 h1 hg
      go_enter Tryd.func40, Tryd.ntmps40
      go_wp2_with fail
      (try go_quiet (fail))
      go_wp2_with fail
      refine (number_c s 1099511627776 v o _ hs (by omega) (by omega) HN).mono ?_; rintro E w1 ⟨rfl, hq⟩
      have HQ := Lib.hid (show Q w w1 from Q.trans (by repeat (first | exact Q.refl _ | refine Q.drewN ?_ _)) hq)
      clear hq
      go_wp2_with fail
      go_ret2
      exact ⟨rfl, HQ.out⟩
  · have HN := Lib.hid (show numS s 1099511627776 = (v, o) by have := h.out; unfold plS at this; rw [if_neg (fun g => h1 g.1)] at this; exact this)
    have i1 : ¬ (1 : Int) < (s.size : Int) := by omega
    have i1d : decide ((1 : Int) < (s.size : Int)) = false := decide_eq_false i1
    have i1n : decide (1 < s.size) = false := decide_eq_false h1
    go_enter Tryd.func40, Tryd.ntmps40
    go_wp2_with fail
    (try go_quiet (fail))
    go_wp2_with fail
    refine (number_c s 1099511627776 v o _ hs (by omega) (by omega) HN).mono ?_; rintro E w1 ⟨rfl, hq⟩
    have HQ := Lib.hid (show Q w w1 from Q.trans (by repeat (first | exact Q.refl _ | refine Q.drewN ?_ _)) hq)
    clear hq
    go_wp2_with fail
    go_ret2
    exact ⟨rfl, HQ.out⟩
set_option maxHeartbeats 800000 in
theorem two_c (s : ByteArray) (lim v : Int) (o : Bool) (w : World) (hs : s.size ≤ 1000000) (hl : 1 ≤ lim) (hl2 : lim ≤ 1000) (h : Hid (twS s lim = (v, o))) : Calls Tryd.prog 41 #[.string s, .int .i64 lim] w fun E w' => E = .returned (.tuple #[.int .i64 v, .bool o]) ∧ Q w w' := by
  by_cases h1 : s.size = 2
  · have HN := Lib.hid (show numS s (lim - 1) = (v, o) by have := h.out; unfold twS at this; rw [if_pos h1] at this; exact this)
    have i1 : ((s.size : Int) != 2) = false := by rw [h1]; rfl
    have r1 : wrap64 (lim - 1) = lim - 1 := IntWalk.wrap64_in _ (by omega)
    clear h1
    go_enter Tryd.func41, Tryd.ntmps41
    go_wp2_with fail
    refine (number_c s (lim - 1) v o _ hs (by omega) (by omega) HN).mono ?_; rintro E w1 ⟨rfl, hq⟩
    go_wp2_with fail
    go_ret2
    exact ⟨rfl, hq⟩
  · have hE : (0 : Int) = v ∧ false = o := by have := h.out; unfold twS at this; rw [if_neg h1] at this; injection this with a b; exact ⟨a, b⟩
    obtain ⟨rfl, rfl⟩ := hE
    have i1 : ((s.size : Int) != 2) = true := by simp; omega
    clear h1
    go_enter Tryd.func41, Tryd.ntmps41
    go_wp2_with fail
    go_ret2
    exact ⟨rfl, Q.refl _⟩
end Go.Proofs.YthpopopodjgdaaaDoor
