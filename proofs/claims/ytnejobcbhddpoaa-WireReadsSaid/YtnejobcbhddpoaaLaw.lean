/- The contracts of the laws' helpers: write, zero, Same, same, small. -/
import Derived.Test.YtnejobcbhddpoaaBuild
set_option linter.unusedVariables false
set_option linter.unusedSimpArgs false
namespace Go.Proofs.Ytnejobcbhddpoaa
open Go.ChangeShapes Go.WideShapes Go.ChangeAt Go.RowKit Wm

/-- the encoding of a field -/
def encF (k n : Nat) (i : Int) (t : ByteArray) (l : List Int) : ByteArray := if k = 0 then bs (uv n) else if k = 1 then bs (uv (zz i)) else if k = 2 then txS t else bs (insL l)
set_option maxRecDepth 100000 in
set_option maxHeartbeats 1000000 in
theorem write_c (k n : Nat) (i : Int) (t : ByteArray) (v : Value) (l : List Int) (w : World) (hn : n < 18446744073709551616) (hi : Fit i) (ht : t.size ≤ 1000000) (hr : RdI w v l) (hl : l.length ≤ 100000) (hf : FitI l) :
    Calls Try.prog 35 #[fv k n i t v] w fun e w' => e = .returned (.string (encF k n i t l)) ∧ Q w w' := by
  unfold fv
  have hr2 := hr
  obtain ⟨sA, sc, rfl, _, _⟩ := hr2
  have HQ := Lib.hid ((Q.refl w).alloc (.cells #[.int .u8 k, .int .u64 n, .int .i64 i, .string t, .slice sA l.length sc] 41))
  by_cases hk0 : k = 0
  · subst hk0
    have HC := Lib.hid (fun w => Uint_c n w hn)
    clear hn hi ht hr hl hf
    go_enter Try.func35, Try.ntmps35
    go_wp2_with fail
    refine (HC.out _).mono ?_; rintro e w1 ⟨rfl, hq1⟩
    go_wp2_with fail
    go_ret
    exact ⟨rfl, HQ.out.trans hq1⟩
  · by_cases hk1 : k = 1
    · subst hk1
      have HC := Lib.hid (fun w => Int_c i w hi)
      clear hn hi ht hr hl hf
      go_enter Try.func35, Try.ntmps35
      go_wp2_with fail
      refine (HC.out _).mono ?_; rintro e w1 ⟨rfl, hq1⟩
      go_wp2_with fail
      go_ret
      exact ⟨rfl, HQ.out.trans hq1⟩
    · by_cases hk2 : k = 2
      · subst hk2
        have HC := Lib.hid (fun w => Text_c t w ht)
        clear hn hi ht hr hl hf
        go_enter Try.func35, Try.ntmps35
        go_wp2_with fail
        refine (HC.out _).mono ?_; rintro e w1 ⟨rfl, hq1⟩
        go_wp2_with fail
        go_ret
        exact ⟨rfl, HQ.out.trans hq1⟩
      · have t0 : ((k : Int) == 0) = false := by simp; omega
        have t1 : ((k : Int) == 1) = false := by simp; omega
        have t2 : ((k : Int) == 2) = false := by simp; omega
        have HE := Lib.hid (show bs (insL l) = encF k n i t l by unfold encF; rw [if_neg hk0, if_neg hk1, if_neg hk2])
        have HC := Lib.hid (Ints_c _ l _ (hr.q HQ.out) hl hf)
        clear hn hi ht hr hl hf hk0 hk1 hk2
        go_enter Try.func35, Try.ntmps35
        go_wp2_with fail
        refine HC.out.mono ?_; rintro e w1 ⟨rfl, hq1⟩
        go_wp2_with fail
        go_ret
        exact ⟨ret_str HE.out, HQ.out.trans hq1⟩
theorem zero_c (k : Nat) (v : Value) (w : World) (hr : RdI w v []) : Calls Try.prog 38 #[fv k 0 0 ByteArray.empty v] w fun e w' => e = .returned (.bool true) ∧ Q w w' := by
  unfold fv
  obtain ⟨sA, sc, rfl, _, _⟩ := hr
  have he : (ByteArray.empty.toList == (ByteArray.mk #[]).toList) = true := by rw [beq_iff_eq]; rfl
  go_enter Try.func38, Try.ntmps38
  go_wp2_with fail
  go_ret
  exact ⟨rfl, (Q.refl w).alloc _⟩
theorem small_c (k n : Nat) (i : Int) (t : ByteArray) (v : Value) (l : List Int) (b : Bool) (w : World) (ht : t.size ≤ maxLen) (hr : RdI w v l) (hl : l.length ≤ maxLen) (h : Hid (decide (t.size ≤ 3000 ∧ l.length ≤ 300) = b)) :
    Calls Try.prog 34 #[fv k n i t v] w fun e w' => e = .returned (.bool b) ∧ Q w w' := by
  unfold fv
  unfold maxLen at ht hl
  obtain ⟨sA, sc, rfl, _, _⟩ := hr
  by_cases h1 : t.size ≤ 3000
  · have g1 : (t.size : Int) ≤ 3000 := by omega
    go_enter Try.func34, Try.ntmps34
    go_wp2_with fail
    go_ret
    exact ⟨ret_bool (by rw [← h.out]; simp [h1]; omega), (Q.refl w).alloc _⟩
  · have g1 : ¬ (t.size : Int) ≤ 3000 := by omega
    go_enter Try.func34, Try.ntmps34
    go_wp2_with fail
    go_ret
    exact ⟨ret_bool (by rw [← h.out]; simp [h1]), (Q.refl w).alloc _⟩
set_option maxRecDepth 100000 in
set_option maxHeartbeats 1000000 in
theorem Same_c (v u : Value) (l : List Int) (w : World) (hr : RdI w v l) (hu : RdI w u l) (hl : l.length ≤ 1000000) : Calls Try.prog 37 #[v, u] w fun e w' => e = .returned (.bool true) ∧ Q w w' := by
  have hr2 := hr
  obtain ⟨sA, sc, rfl, hle1, _⟩ := hr2
  have hu2 := hu
  obtain ⟨uA, uc, rfl, hle2, _⟩ := hu2
  have HR := Lib.hid hr
  have HU := Lib.hid hu
  obtain ⟨n, hn⟩ : ∃ n, l.length = n := ⟨_, rfl⟩
  have HN := Lib.hid hn
  rw [hn] at hl hle1 hle2
  rw [hn]
  clear hr hu hn
  go_enter Try.func37, Try.ntmps37
  go_wp2_with fail
  go_loopw [5] (fun i wr => ∃ k : Nat, k ≤ n ∧ i = .int .i64 k ∧ Hid (Q w wr)) (fun i _ => n - (intOf i).toNat)
  case atStart => exact ⟨0, by omega, rfl, Q.refl _⟩
  case round =>
    obtain ⟨k, hk, rfl, HI⟩ := hrel
    by_cases hlt : k < n
    · have hkl : k < l.length := by rw [HN.out]; exact hlt
      obtain ⟨sA2, sc2, e1, _, h3⟩ := HR.out
      injection e1 with e1 e2 e3
      obtain ⟨rb, ro, e4, hrb, hrc⟩ := h3 (by omega)
      rw [e4] at e1
      subst e1
      obtain ⟨uA2, uc2, f1, _, g3⟩ := HU.out
      injection f1 with f1 f2 f3
      obtain ⟨ub, uo, f4, hub, huc⟩ := g3 (by omega)
      rw [f4] at f1
      subst f1
      obtain ⟨z, hz⟩ : ∃ z, l[k] = z := ⟨_, rfl⟩
      have hc := HI.out.cell (p := ⟨rb, ro + k, none⟩) hrb
      rw [hrc k l[k] (List.getElem?_eq_getElem hkl), hz] at hc
      have hd := HI.out.cell (p := ⟨ub, uo + k, none⟩) hub
      rw [huc k l[k] (List.getElem?_eq_getElem hkl), hz] at hd
      have i1 : (0 : Int) ≤ (k : Int) := by omega
      have i2 : (k : Int) < (n : Int) := by omega
      clear h3 hrc e2 e3 hz hrb e4 g3 huc f2 f3 hub f4
      go_wp2_with fail
      go_quiet (fail)
      go_wp2_with fail
      go_roundw
      case rel => exact ⟨k + 1, by omega, by go_num, HI.out.drewN _⟩
      case measure => simp [intOf] <;> omega
    · obtain rfl : k = n := by omega
      go_wp2_with fail
      go_ret
      exact ⟨rfl, HI.out⟩
end Go.Proofs.Ytnejobcbhddpoaa
