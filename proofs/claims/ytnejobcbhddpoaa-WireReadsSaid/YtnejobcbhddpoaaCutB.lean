/- The contracts of cutInt, cutCount, cutText and of the reference's signed, over a string and a place. -/
import Derived.Test.YtnejobcbhddpoaaCut
set_option linter.unusedVariables false
set_option linter.unusedSimpArgs false
namespace Go.Proofs.Ytnejobcbhddpoaa
open Go.ChangeShapes Go.WideShapes Go.ChangeAt Go.RowKit Wm

/-- the rest of a string from a place on -/
def rs (s : ByteArray) (p : Nat) : ByteArray := s.extract p s.size
theorem rs_size (s : ByteArray) (p : Nat) : (rs s p).size = s.size - p := by unfold rs; rw [ByteArray.size_extract]; omega
theorem rs_zero (s : ByteArray) : rs s 0 = s := whole s
theorem rs_rs (s : ByteArray) (p q : Nat) : (rs s p).extract q (rs s p).size = rs s (p + q) := by
  rw [rs_size]; unfold rs; rw [ByteArray.extract_extract]; congr 1; omega
theorem bt_rs (s : ByteArray) (p i : Nat) : bt (rs s p) i = bt s (p + i) := by
  unfold bt gl rs
  rw [List.getD_eq_getElem?_getD, List.getD_eq_getElem?_getD, ByteArray.data_extract, Array.getElem?_toList, Array.getElem?_toList, Array.getElem?_extract]
  by_cases h : i < min s.size s.data.size - p
  · rw [if_pos h]
  · rw [if_neg h, Array.getElem?_eq_none (by have : s.size = s.data.size := rfl
                                             omega)]
/-- a number at a place: its error, its value, its bytes -/
def eU (s : ByteArray) (p : Nat) : Nat := nE (fr s p) (s.size - p)
def vU (s : ByteArray) (p : Nat) : Nat := nV (fr s p) (s.size - p)
def lU (s : ByteArray) (p : Nat) : Nat := nL (fr s p) (s.size - p)
theorem lU_le (s : ByteArray) (p : Nat) : lU s p ≤ s.size - p := nL_le _ _
theorem vU_lt (s : ByteArray) (p : Nat) : vU s p < 18446744073709551616 := nV_lt _ _
theorem eU_cases (s : ByteArray) (p : Nat) : eU s p = 0 ∨ eU s p = 3 ∨ eU s p = 5 := nE_cases _ _
theorem bad_U {s : ByteArray} {p : Nat} (h : eU s p ≠ 0) : vU s p = 0 ∧ lU s p = 0 := by
  unfold eU at h; unfold vU lU nV nL; rw [if_neg h, if_neg h]; exact ⟨rfl, rfl⟩
def NU (s : ByteArray) (p v l e : Nat) : Prop := vU s p = v ∧ lU s p = l ∧ eU s p = e
theorem NU.self (s : ByteArray) (p : Nat) : NU s p (vU s p) (lU s p) (eU s p) := ⟨rfl, rfl, rfl⟩
theorem NU_rs (s : ByteArray) (p : Nat) : nV (bt (rs s p)) (rs s p).size = vU s p ∧ nL (bt (rs s p)) (rs s p).size = lU s p ∧ nE (bt (rs s p)) (rs s p).size = eU s p := by
  have e : bt (rs s p) = fr s p := by funext i; exact bt_rs s p i
  rw [e, rs_size]; exact ⟨rfl, rfl, rfl⟩
theorem cutUint_at (s : ByteArray) (p v l e : Nat) (hs : s.size ≤ 1000000) (h : Hid (NU s p v l e)) (w : World) : Calls Try.prog 51 #[.string (rs s p)] w fun E w' => E = .returned (.tuple #[.int .u64 v, .string (rs s (p + l)), .int .i64 e]) ∧ Q w w' := by
  obtain ⟨rfl, rfl, rfl⟩ := h.out
  obtain ⟨e1, e2, e3⟩ := NU_rs s p
  refine (cutUint_c (rs s p) w (by rw [rs_size]; unfold maxLen; omega)).mono fun E w' ⟨h1, h2⟩ => ⟨?_, h2⟩
  rw [h1, e1, e2, e3, rs_rs]
theorem number_at (s : ByteArray) (p v l e : Nat) (hs : s.size ≤ 1000000) (hp : p ≤ s.size) (h : Hid (NU s p v l e)) (w : World) : Calls Try.prog 46 #[.string s, .int .i64 p] w fun E w' => E = .returned (.tuple #[.int .u64 v, .int .i64 (p + l : Nat), .int .i64 e]) ∧ w = w' := by
  obtain ⟨rfl, rfl, rfl⟩ := h.out
  exact number_c s p w hs hp
/-- a signed number at a place -/
def eI (s : ByteArray) (p : Nat) (lo hi : Int) : Nat := if eU s p = 0 then (if unzz (vU s p) < lo ∨ hi < unzz (vU s p) then 9 else 0) else eU s p
def vI (s : ByteArray) (p : Nat) (lo hi : Int) : Int := if eI s p lo hi = 0 then unzz (vU s p) else 0
def lI (s : ByteArray) (p : Nat) (lo hi : Int) : Nat := if eI s p lo hi = 0 then lU s p else 0
def NI (s : ByteArray) (p : Nat) (lo hi : Int) (v : Int) (l e : Nat) : Prop := vI s p lo hi = v ∧ lI s p lo hi = l ∧ eI s p lo hi = e
theorem ret_i {a b c d : Int} {s t : ByteArray} (h1 : a = b) (h2 : s = t) (h3 : c = d) : Ending.returned (.tuple #[.int .i64 a, .string s, .int .i64 c]) = .returned (.tuple #[.int .i64 b, .string t, .int .i64 d]) := by rw [h1, h2, h3]
theorem ret_j {a b c d e f : Int} (h1 : a = b) (h2 : c = d) (h3 : e = f) : Ending.returned (.tuple #[.int .i64 a, .int .i64 c, .int .i64 e]) = .returned (.tuple #[.int .i64 b, .int .i64 d, .int .i64 f]) := by rw [h1, h2, h3]
theorem NI_bad {s : ByteArray} {p : Nat} {lo hi v : Int} {l e : Nat} (h : NI s p lo hi v l e) (h0 : eU s p ≠ 0) : v = 0 ∧ l = 0 ∧ e = eU s p := by
  obtain ⟨rfl, rfl, rfl⟩ := h
  have e1 : eI s p lo hi = eU s p := by unfold eI; rw [if_neg h0]
  refine ⟨?_, ?_, e1⟩
  · unfold vI; rw [e1, if_neg h0]
  · unfold lI; rw [e1, if_neg h0]
theorem NI_out {s : ByteArray} {p : Nat} {lo hi v : Int} {l e : Nat} (h : NI s p lo hi v l e) (h0 : eU s p = 0) (h1 : unzz (vU s p) < lo ∨ hi < unzz (vU s p)) : v = 0 ∧ l = 0 ∧ e = 9 := by
  obtain ⟨rfl, rfl, rfl⟩ := h
  have e1 : eI s p lo hi = 9 := by unfold eI; rw [if_pos h0, if_pos h1]
  refine ⟨?_, ?_, e1⟩
  · unfold vI; rw [e1]; rfl
  · unfold lI; rw [e1]; rfl
theorem NI_ok {s : ByteArray} {p : Nat} {lo hi v : Int} {l e : Nat} (h : NI s p lo hi v l e) (h0 : eU s p = 0) (h1 : ¬ (unzz (vU s p) < lo ∨ hi < unzz (vU s p))) : v = unzz (vU s p) ∧ l = lU s p ∧ e = 0 := by
  obtain ⟨rfl, rfl, rfl⟩ := h
  have e1 : eI s p lo hi = 0 := by unfold eI; rw [if_pos h0, if_neg h1]
  refine ⟨?_, ?_, e1⟩
  · unfold vI; rw [e1]; rfl
  · unfold lI; rw [e1]; rfl
set_option maxRecDepth 100000 in
set_option maxHeartbeats 1600000 in
theorem cutInt_at (s : ByteArray) (p : Nat) (lo hi v : Int) (l e : Nat) (hs : s.size ≤ 1000000) (h : Hid (NI s p lo hi v l e)) (w : World) : Calls Try.prog 49 #[.string (rs s p), .int .i64 lo, .int .i64 hi] w fun E w' => E = .returned (.tuple #[.int .i64 v, .string (rs s (p + l)), .int .i64 e]) ∧ Q w w' := by
  have HS := Lib.hid hs; clear hs
  obtain ⟨u, hu⟩ : ∃ u, vU s p = u := ⟨_, rfl⟩
  obtain ⟨k, hk⟩ : ∃ k, lU s p = k := ⟨_, rfl⟩
  obtain ⟨x, hx⟩ : ∃ x, eU s p = x := ⟨_, rfl⟩
  have HN := Lib.hid (show NU s p u k x from ⟨hu, hk, hx⟩)
  by_cases h0 : x = 0
  · have hub : u < 18446744073709551616 := by rw [← hu]; exact vU_lt _ _
    have t0 : ((x : Int) != 0) = false := by simp; omega
    have t0' : ((x : Int) == 0) = true := by simp; omega
    obtain ⟨z, hz⟩ : ∃ z, unzz u = z := ⟨_, rfl⟩
    obtain ⟨y, hy⟩ : ∃ y, u / 2 = y := ⟨_, rfl⟩
    have hub2 : (u : Int) ≤ 18446744073709551615 := by omega
    have t1 : (u : Int) / 2 = (y : Int) := by omega
    have hyb : (y : Int) ≤ 9223372036854775807 := by omega
    have HX := Lib.hid (xor_all (y : Int) (by unfold Fit; omega))
    have hcase : (z < lo ∧ Hid (v = 0 ∧ l = 0 ∧ e = 9)) ∨ (¬ z < lo ∧ hi < z ∧ Hid (v = 0 ∧ l = 0 ∧ e = 9)) ∨ (¬ z < lo ∧ ¬ hi < z ∧ Hid (v = z ∧ l = k ∧ e = 0)) := by
      by_cases c1 : z < lo
      · exact .inl ⟨c1, NI_out h.out (by rw [hx]; exact h0) (by rw [hu, hz]; exact .inl c1)⟩
      · by_cases c2 : hi < z
        · exact .inr (.inl ⟨c1, c2, NI_out h.out (by rw [hx]; exact h0) (by rw [hu, hz]; exact .inr c2)⟩)
        · obtain ⟨a, b, c⟩ := NI_ok h.out (by rw [hx]; exact h0) (by rw [hu, hz]; omega)
          rw [hu, hz] at a; rw [hk] at b; exact .inr (.inr ⟨c1, c2, a, b, c⟩)
    have hpar : (((u : Int) % 2 == 1) = true ∧ -(y : Int) - 1 = z) ∨ (((u : Int) % 2 == 1) = false ∧ (y : Int) = z) := by
      unfold unzz at hz
      by_cases g : u % 2 = 1
      · rw [if_pos g] at hz; exact .inl ⟨by simp; omega, by omega⟩
      · rw [if_neg g] at hz; exact .inr ⟨by simp; omega, by omega⟩
    clear hu hk hx hub hz hy h h0
    rcases hpar with ⟨t2, hz⟩ | ⟨t2, hz⟩
    · have hx1 := HX.out
      rw [hz] at hx1
      clear hz
      rcases hcase with ⟨c1, HV⟩ | ⟨c1, c2, HV⟩ | ⟨c1, c2, HV⟩
      all_goals
        go_enter Try.func49, Try.ntmps49
        go_wp2_with fail
        refine (cutUint_at s p u k x HS.out HN _).mono ?_; rintro E w1 ⟨rfl, hq1⟩
        go_wp2_with fail
        go_ret3
        obtain ⟨r1, r2, r3⟩ := HV.out
        exact ⟨ret_i (by rw [r1]) (by subst r2; rfl) (by rw [r3]; rfl), hq1⟩
    · rw [hz] at t1
      clear hz
      rcases hcase with ⟨c1, HV⟩ | ⟨c1, c2, HV⟩ | ⟨c1, c2, HV⟩
      all_goals
        go_enter Try.func49, Try.ntmps49
        go_wp2_with fail
        refine (cutUint_at s p u k x HS.out HN _).mono ?_; rintro E w1 ⟨rfl, hq1⟩
        go_wp2_with fail
        go_ret3
        obtain ⟨r1, r2, r3⟩ := HV.out
        exact ⟨ret_i (by rw [r1]) (by subst r2; rfl) (by rw [r3]; rfl), hq1⟩
  · have t0 : ((x : Int) != 0) = true := by simp; omega
    have t0' : ((x : Int) == 0) = false := by simp; omega
    obtain ⟨r1, r2, r3⟩ := NI_bad h.out (by rw [hx]; exact h0)
    rw [hx] at r3
    subst r1 r2 r3
    clear hu hk hx h h0
    go_enter Try.func49, Try.ntmps49
    go_wp2_with fail
    refine (cutUint_at s p u k _ HS.out HN _).mono ?_; rintro E w1 ⟨rfl, hq1⟩
    go_wp2_with fail
    go_ret3
    exact ⟨rfl, hq1⟩
set_option maxRecDepth 100000 in
set_option maxHeartbeats 1600000 in
theorem signed_at (s : ByteArray) (p : Nat) (lo hi v : Int) (l e : Nat) (hs : s.size ≤ 1000000) (hp : p ≤ s.size) (h : Hid (NI s p lo hi v l e)) (w : World) : Calls Try.prog 48 #[.string s, .int .i64 p, .int .i64 lo, .int .i64 hi] w fun E w' => E = .returned (.tuple #[.int .i64 v, .int .i64 (p + l : Nat), .int .i64 e]) ∧ w = w' := by
  have HS := Lib.hid hs; clear hs
  have HP := Lib.hid hp; clear hp
  obtain ⟨u, hu⟩ : ∃ u, vU s p = u := ⟨_, rfl⟩
  obtain ⟨k, hk⟩ : ∃ k, lU s p = k := ⟨_, rfl⟩
  obtain ⟨x, hx⟩ : ∃ x, eU s p = x := ⟨_, rfl⟩
  have HN := Lib.hid (show NU s p u k x from ⟨hu, hk, hx⟩)
  by_cases h0 : x = 0
  · have hub : u < 18446744073709551616 := by rw [← hu]; exact vU_lt _ _
    have t0 : ((x : Int) != 0) = false := by simp; omega
    have t0' : ((x : Int) == 0) = true := by simp; omega
    obtain ⟨z, hz⟩ : ∃ z, unzz u = z := ⟨_, rfl⟩
    obtain ⟨y, hy⟩ : ∃ y, u / 2 = y := ⟨_, rfl⟩
    have hub2 : (u : Int) ≤ 18446744073709551615 := by omega
    have t1 : (u : Int) / 2 = (y : Int) := by omega
    have hyb : (y : Int) ≤ 9223372036854775807 := by omega
    have hcase : (z < lo ∧ Hid (v = 0 ∧ l = 0 ∧ e = 9)) ∨ (¬ z < lo ∧ hi < z ∧ Hid (v = 0 ∧ l = 0 ∧ e = 9)) ∨ (¬ z < lo ∧ ¬ hi < z ∧ Hid (v = z ∧ l = k ∧ e = 0)) := by
      by_cases c1 : z < lo
      · exact .inl ⟨c1, NI_out h.out (by rw [hx]; exact h0) (by rw [hu, hz]; exact .inl c1)⟩
      · by_cases c2 : hi < z
        · exact .inr (.inl ⟨c1, c2, NI_out h.out (by rw [hx]; exact h0) (by rw [hu, hz]; exact .inr c2)⟩)
        · obtain ⟨a, b, c⟩ := NI_ok h.out (by rw [hx]; exact h0) (by rw [hu, hz]; omega)
          rw [hu, hz] at a; rw [hk] at b; exact .inr (.inr ⟨c1, c2, a, b, c⟩)
    have hpar : (((u : Int) % 2 == 1) = true ∧ -(y : Int) - 1 = z) ∨ (((u : Int) % 2 == 1) = false ∧ (y : Int) = z) := by
      unfold unzz at hz
      by_cases g : u % 2 = 1
      · rw [if_pos g] at hz; exact .inl ⟨by simp; omega, by omega⟩
      · rw [if_neg g] at hz; exact .inr ⟨by simp; omega, by omega⟩
    clear hu hk hx hub hz hy h h0
    rcases hpar with ⟨t2, hz⟩ | ⟨t2, hz⟩
    · rcases hcase with ⟨c1, HV⟩ | ⟨c1, c2, HV⟩ | ⟨c1, c2, HV⟩
      all_goals
        go_enter Try.func48, Try.ntmps48
        go_wp2_with fail
        refine (number_at s p u k x HS.out HP.out HN _).mono ?_; rintro E w1 ⟨rfl, rfl⟩
        go_wp2_with fail
        go_ret3
        obtain ⟨r1, r2, r3⟩ := HV.out
        exact ⟨ret_j (by rw [r1]) (by subst r2; rfl) (by rw [r3]; rfl), rfl⟩
    · rw [hz] at t1
      clear hz
      rcases hcase with ⟨c1, HV⟩ | ⟨c1, c2, HV⟩ | ⟨c1, c2, HV⟩
      all_goals
        go_enter Try.func48, Try.ntmps48
        go_wp2_with fail
        refine (number_at s p u k x HS.out HP.out HN _).mono ?_; rintro E w1 ⟨rfl, rfl⟩
        go_wp2_with fail
        go_ret3
        obtain ⟨r1, r2, r3⟩ := HV.out
        exact ⟨ret_j (by rw [r1]) (by subst r2; rfl) (by rw [r3]; rfl), rfl⟩
  · have t0 : ((x : Int) != 0) = true := by simp; omega
    have t0' : ((x : Int) == 0) = false := by simp; omega
    obtain ⟨r1, r2, r3⟩ := NI_bad h.out (by rw [hx]; exact h0)
    rw [hx] at r3
    subst r1 r2 r3
    clear hu hk hx h h0
    go_enter Try.func48, Try.ntmps48
    go_wp2_with fail
    refine (number_at s p u k _ HS.out HP.out HN _).mono ?_; rintro E w1 ⟨rfl, rfl⟩
    go_wp2_with fail
    go_ret3
    exact ⟨rfl, rfl⟩
/-- a count at a place, and a string -/
def eC (s : ByteArray) (p : Nat) (most : Int) : Nat := if eU s p = 0 then (if most < 0 ∨ most < (vU s p : Int) then 4 else 0) else eU s p
def vC (s : ByteArray) (p : Nat) (most : Int) : Nat := if eC s p most = 0 then vU s p else 0
def lC (s : ByteArray) (p : Nat) (most : Int) : Nat := if eC s p most = 0 then lU s p else 0
def NC (s : ByteArray) (p : Nat) (most : Int) (v l e : Nat) : Prop := vC s p most = v ∧ lC s p most = l ∧ eC s p most = e
theorem NC_bad {s : ByteArray} {p : Nat} {most : Int} {v l e : Nat} (h : NC s p most v l e) (h0 : eU s p ≠ 0) : v = 0 ∧ l = 0 ∧ e = eU s p := by
  obtain ⟨rfl, rfl, rfl⟩ := h
  have e1 : eC s p most = eU s p := by unfold eC; rw [if_neg h0]
  refine ⟨?_, ?_, e1⟩
  · unfold vC; rw [e1, if_neg h0]
  · unfold lC; rw [e1, if_neg h0]
theorem NC_out {s : ByteArray} {p : Nat} {most : Int} {v l e : Nat} (h : NC s p most v l e) (h0 : eU s p = 0) (h1 : most < 0 ∨ most < (vU s p : Int)) : v = 0 ∧ l = 0 ∧ e = 4 := by
  obtain ⟨rfl, rfl, rfl⟩ := h
  have e1 : eC s p most = 4 := by unfold eC; rw [if_pos h0, if_pos h1]
  refine ⟨?_, ?_, e1⟩
  · unfold vC; rw [e1]; rfl
  · unfold lC; rw [e1]; rfl
theorem NC_ok {s : ByteArray} {p : Nat} {most : Int} {v l e : Nat} (h : NC s p most v l e) (h0 : eU s p = 0) (h1 : ¬ (most < 0 ∨ most < (vU s p : Int))) : v = vU s p ∧ l = lU s p ∧ e = 0 := by
  obtain ⟨rfl, rfl, rfl⟩ := h
  have e1 : eC s p most = 0 := by unfold eC; rw [if_pos h0, if_neg h1]
  refine ⟨?_, ?_, e1⟩
  · unfold vC; rw [e1]; rfl
  · unfold lC; rw [e1]; rfl
set_option maxRecDepth 100000 in
set_option maxHeartbeats 1600000 in
theorem cutCount_at (s : ByteArray) (p : Nat) (most : Int) (v l e : Nat) (hs : s.size ≤ 1000000) (hm : Fit most) (h : Hid (NC s p most v l e)) (w : World) : Calls Try.prog 54 #[.string (rs s p), .int .i64 most] w fun E w' => E = .returned (.tuple #[.int .u64 v, .string (rs s (p + l)), .int .i64 e]) ∧ Q w w' := by
  have HS := Lib.hid hs; clear hs
  obtain ⟨u, hu⟩ : ∃ u, vU s p = u := ⟨_, rfl⟩
  obtain ⟨k, hk⟩ : ∃ k, lU s p = k := ⟨_, rfl⟩
  obtain ⟨x, hx⟩ : ∃ x, eU s p = x := ⟨_, rfl⟩
  have HN := Lib.hid (show NU s p u k x from ⟨hu, hk, hx⟩)
  by_cases h0 : x = 0
  · have hub : u < 18446744073709551616 := by rw [← hu]; exact vU_lt _ _
    have t0 : ((x : Int) != 0) = false := by simp; omega
    have t0' : ((x : Int) == 0) = true := by simp; omega
    have hub2 : (u : Int) ≤ 18446744073709551615 := by omega
    obtain ⟨m1, m2⟩ := hm
    have hcase : (most < 0 ∧ Hid (v = 0 ∧ l = 0 ∧ e = 4)) ∨ (0 ≤ most ∧ most < (u : Int) ∧ Hid (v = 0 ∧ l = 0 ∧ e = 4)) ∨ (0 ≤ most ∧ ¬ most < (u : Int) ∧ Hid (v = u ∧ l = k ∧ e = 0)) := by
      by_cases c1 : most < 0
      · exact .inl ⟨c1, NC_out h.out (by rw [hx]; exact h0) (.inl c1)⟩
      · by_cases c2 : most < (u : Int)
        · exact .inr (.inl ⟨by omega, c2, NC_out h.out (by rw [hx]; exact h0) (.inr (by rw [hu]; exact c2))⟩)
        · obtain ⟨a, b, c⟩ := NC_ok h.out (by rw [hx]; exact h0) (by rw [hu]; omega)
          rw [hu] at a; rw [hk] at b; exact .inr (.inr ⟨by omega, c2, a, b, c⟩)
    clear hu hk hx hub h h0
    rcases hcase with ⟨c1, HV⟩ | ⟨c1, c2, HV⟩ | ⟨c1, c2, HV⟩
    all_goals
      go_enter Try.func54, Try.ntmps54
      go_wp2_with fail
      refine (cutUint_at s p u k x HS.out HN _).mono ?_; rintro E w1 ⟨rfl, hq1⟩
      go_wp2_with fail
      go_ret3
      obtain ⟨r1, r2, r3⟩ := HV.out
      exact ⟨ret_cut (by subst r1; rfl) (by subst r2; rfl) (by rw [r3]; rfl), hq1⟩
  · have t0 : ((x : Int) != 0) = true := by simp; omega
    have t0' : ((x : Int) == 0) = false := by simp; omega
    obtain ⟨r1, r2, r3⟩ := NC_bad h.out (by rw [hx]; exact h0)
    rw [hx] at r3
    subst r1 r2 r3
    clear hu hk hx h h0
    go_enter Try.func54, Try.ntmps54
    go_wp2_with fail
    refine (cutUint_at s p u k _ HS.out HN _).mono ?_; rintro E w1 ⟨rfl, hq1⟩
    go_wp2_with fail
    go_ret3
    exact ⟨rfl, hq1⟩
end Go.Proofs.Ytnejobcbhddpoaa
