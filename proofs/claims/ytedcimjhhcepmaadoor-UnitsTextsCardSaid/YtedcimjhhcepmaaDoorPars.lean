/- The contracts of areDigits, strings.Cut at a point, withoutPoint and Parse. -/
import Derived.Test.YtedcimjhhcepmaaDoorDec
set_option linter.unusedVariables false
set_option linter.unusedSimpArgs false
namespace Go.Proofs.YtedcimjhhcepmaaDoor
open Go.ChangeShapes Go.WideShapes Go.ChangeAt Go.RowKit Um

def isD (c : UInt8) : Bool := decide (48 ≤ c.toNat ∧ c.toNat ≤ 57)
def digs (l : List UInt8) : Bool := l.all isD
def lst (s : ByteArray) : List UInt8 := s.data.toList
theorem lst_bs (l : List UInt8) : lst (bs l) = l := by simp [lst, bs]
theorem bs_lst (s : ByteArray) : bs (lst s) = s := by apply ByteArray.ext; simp [lst, bs]
theorem lst_len (s : ByteArray) : (lst s).length = s.size := by simp [lst]
theorem lst_at (s : ByteArray) (k : Nat) (h : k < s.size) : (lst s)[k]? = some s[k] := by
  rw [List.getElem?_eq_getElem (by rw [lst_len]; exact h)]; rfl
theorem take_dig (s : ByteArray) (k : Nat) (h : k < s.size) (g : digs ((lst s).take k) = true) (d : isD s[k] = true) : digs ((lst s).take (k + 1)) = true := by
  unfold digs at *
  rw [List.take_add_one, lst_at s k h, List.all_append, g]; simpa using d
theorem not_dig (s : ByteArray) (k : Nat) (h : k < s.size) (d : isD s[k] = false) : digs (lst s) = false := by
  unfold digs
  rw [List.all_eq_false]
  exact ⟨s[k], List.mem_of_getElem? (lst_at s k h), by rw [d]; simp⟩

set_option maxHeartbeats 400000 in
theorem areDigits_c (s : ByteArray) (hs : s.size ≤ 1000) (w : World) : Calls Tryd.prog 50 #[.string s] w fun e w' => e = .returned (.bool (digs (lst s))) ∧ w = w' := by
  go_enter Tryd.func50, Tryd.ntmps50
  go_wp2_with fail
  go_loop [6] (fun i => ∃ k : Nat, k ≤ s.size ∧ i = .int .i64 k ∧ Hid (digs ((lst s).take k) = true)) (fun i => s.size - (intOf i).toNat)
  case atStart => exact ⟨0, Nat.zero_le _, rfl, rfl⟩
  case round =>
    obtain ⟨k, hk, rfl, HO⟩ := hrel
    by_cases hlt : k < s.size
    · by_cases h1 : (s[k].toNat : Int) < 48
      · have HN := Lib.hid (not_dig s k hlt (by unfold isD; simp; omega))
        go_wp2_with fail
        go_ret
        exact ⟨ret_bool HN.out.symm, rfl⟩
      · by_cases h2 : (57 : Int) < (s[k].toNat : Int)
        · have HN := Lib.hid (not_dig s k hlt (by unfold isD; simp; omega))
          go_wp2_with fail
          go_ret
          exact ⟨ret_bool HN.out.symm, rfl⟩
        · have HN := Lib.hid (take_dig s k hlt HO.out (by unfold isD; simp; omega))
          go_wp2_with fail
          go_round
          case rel => exact ⟨k + 1, by omega, by go_num, HN⟩
          case measure => simp [intOf]; omega
    · obtain rfl : k = s.size := by omega
      have HN := Lib.hid (show digs (lst s) = true by have := HO.out; rwa [List.take_of_length_le (by rw [lst_len]; omega)] at this)
      go_wp2_with fail
      go_ret
      exact ⟨ret_bool HN.out.symm, rfl⟩

/-- what stands ahead of the first point and behind it -/
def ctI (l : List UInt8) : List UInt8 × List UInt8 := if 0 ≤ Lib.indexByte l 46 then (l.take (Lib.indexByte l 46).toNat, l.drop ((Lib.indexByte l 46).toNat + 1)) else (l, [])
theorem idx_lt {l : List UInt8} {i : Nat} (h : Lib.indexByte l 46 = (i : Int)) : i < l.length := by
  have := (Lib.indexByte_some h).1
  rcases Nat.lt_or_ge i l.length with g | g
  · exact g
  · rw [List.getElem?_eq_none g] at this; cases this
theorem Index_is (s : ByteArray) (v : Int) (h : Hid (Lib.indexByte (lst s) 46 = v)) (w : World) :
    Calls Tryd.prog 77 #[.string s, .string ⟨#[46]⟩] w fun e w' => e = .returned (.int .i64 v) ∧ w = w' :=
  (Tryd.stringslite_Index_one s 46 w).mono fun _ _ ⟨a, b⟩ => ⟨by rw [a, ← h.out]; rfl, b.symm⟩
theorem ret_ssb {a a' b b' : ByteArray} {c c' : Bool} (h : a = a') (g : b = b') (k : c = c') : Ending.returned (.tuple #[.string a, .string b, .bool c]) = .returned (.tuple #[.string a', .string b', .bool c']) := by rw [h, g, k]
/-- 'true' or 'false': whether there is a point -/
def ctB (l : List UInt8) : Bool := decide (0 ≤ Lib.indexByte l 46)
set_option maxHeartbeats 400000 in
theorem CutIn_c (s : ByteArray) (hs : s.size ≤ 1000) (w : World) : Calls Tryd.prog 63 #[.string s, .string ⟨#[46]⟩] w fun e w' =>
    e = .returned (.tuple #[.string (bs (ctI (lst s)).1), .string (bs (ctI (lst s)).2), .bool (ctB (lst s))]) ∧ Q w w' := by
  by_cases h : 0 ≤ Lib.indexByte (lst s) 46
  · obtain ⟨i, hi⟩ := Int.eq_ofNat_of_zero_le h
    have hlt : i < s.size := by rw [← lst_len]; exact idx_lt hi
    have HI := Lib.hid hi
    have H1 := Lib.hid (show bs (ctI (lst s)).1 = s.extract 0 i by
      unfold ctI; rw [if_pos h, hi, Int.toNat_natCast]
      rw [← bs_lst s, bs_take _ _ (by rw [lst_len]; omega), bs_lst])
    have H2 := Lib.hid (show bs (ctI (lst s)).2 = s.extract (i + 1) s.size by
      unfold ctI; rw [if_pos h, hi, Int.toNat_natCast]
      have := bs_drop (lst s) (i + 1) (by rw [lst_len]; omega)
      rw [bs_lst] at this; exact this.symm)
    have H3 := Lib.hid (show ctB (lst s) = true by unfold ctB; exact decide_eq_true h)
    have i1 : (i : Int) + 1 ≤ (s.size : Int) := by omega
    have i2 : (i : Int) ≤ (s.size : Int) := by omega
    have i3 : 0 ≤ (i : Int) + 1 := by omega
    clear h hi
    go_enter Tryd.func63, Tryd.ntmps63
    go_wp2_with fail
    refine (Index_is s i HI _).mono ?_; rintro e w' ⟨rfl, rfl⟩
    go_wp2_with fail
    go_quiet (fail)
    go_wp2_with fail
    go_ret3
    exact ⟨ret_ssb H1.out.symm H2.out.symm H3.out.symm, Q.drewN (Q.refl _) _⟩
  · obtain ⟨v, hv⟩ : ∃ v, Lib.indexByte (lst s) 46 = v := ⟨_, rfl⟩
    have HV := Lib.hid hv
    have H1 := Lib.hid (show bs (ctI (lst s)).1 = s by unfold ctI; rw [if_neg h, bs_lst])
    have H2 := Lib.hid (show bs (ctI (lst s)).2 = ⟨#[]⟩ by unfold ctI; rw [if_neg h]; rfl)
    have H3 := Lib.hid (show ctB (lst s) = false by unfold ctB; exact decide_eq_false h)
    have i1 : ¬ 0 ≤ v := by rw [← hv]; exact h
    clear h hv
    go_enter Tryd.func63, Tryd.ntmps63
    go_wp2_with fail
    refine (Index_is s v HV _).mono ?_; rintro e w' ⟨rfl, rfl⟩
    go_wp2_with fail
    go_ret3
    exact ⟨ret_ssb H1.out.symm H2.out.symm H3.out.symm, Q.refl _⟩
theorem Cut_c (s : ByteArray) (hs : s.size ≤ 1000) (w : World) : Calls Tryd.prog 49 #[.string s, .string ⟨#[46]⟩] w fun e w' =>
    e = .returned (.tuple #[.string (bs (ctI (lst s)).1), .string (bs (ctI (lst s)).2), .bool (ctB (lst s))]) ∧ Q w w' := by
  go_enter Tryd.func49, Tryd.ntmps49
  go_wp2_with fail
  refine (CutIn_c s hs _).mono ?_; rintro e w' ⟨rfl, hq⟩
  go_wp2_with fail
  go_ret3
  exact ⟨rfl, hq⟩
end Go.Proofs.YtedcimjhhcepmaaDoor
