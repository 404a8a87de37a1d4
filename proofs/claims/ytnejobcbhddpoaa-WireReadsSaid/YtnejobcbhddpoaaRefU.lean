/- The reference's reads, by what a read answers; and same. -/
import Derived.Test.YtnejobcbhddpoaaRefT
set_option linter.unusedVariables false
set_option linter.unusedSimpArgs false
namespace Go.Proofs.Ytnejobcbhddpoaa
open Go.ChangeShapes Go.WideShapes Go.ChangeAt Go.RowKit Wm

theorem rUint_r (s : ByteArray) (p e : Nat) (lo hi most : Int) {n : Nat} {i : Int} {t : ByteArray} {l : List Int} {c e' : Nat} (w : World) (hs : s.size ≤ 1000000) (hp : p ≤ s.size) (ho : outR s p e 0 lo hi most = (n, i, t, l, c, e')) : Calls Try.prog 24 #[rv s p e] w fun E w' => E = .returned (.tuple #[rv s (p + c) e', .int .u64 n]) ∧ i = 0 ∧ t = ByteArray.empty ∧ l = [] ∧ Q w w' := by
  unfold outR at ho
  by_cases he : e = 0
  · subst he
    rw [if_pos rfl, if_pos rfl] at ho
    simp only [Prod.mk.injEq] at ho
    obtain ⟨rfl, rfl, rfl, rfl, rfl, rfl⟩ := ho
    exact (rReadUint_ok s p _ _ _ w hs hp (fun h => bad_U h) (Lib.hid ⟨rfl, rfl, rfl⟩)).mono fun E w' ⟨a, b⟩ => ⟨a, rfl, rfl, rfl, b⟩
  · rw [if_neg he] at ho
    simp only [Prod.mk.injEq] at ho
    obtain ⟨rfl, rfl, rfl, rfl, rfl, rfl⟩ := ho
    exact (rReadUint_stop s p e w he).mono fun E w' ⟨a, b⟩ => ⟨a, rfl, rfl, rfl, b⟩
theorem rInt_r (s : ByteArray) (p e : Nat) (lo hi most : Int) {n : Nat} {i : Int} {t : ByteArray} {l : List Int} {c e' : Nat} (w : World) (hs : s.size ≤ 1000000) (hp : p ≤ s.size) (ho : outR s p e 1 lo hi most = (n, i, t, l, c, e')) : Calls Try.prog 25 #[rv s p e, .int .i64 lo, .int .i64 hi] w fun E w' => E = .returned (.tuple #[rv s (p + c) e', .int .i64 i]) ∧ n = 0 ∧ t = ByteArray.empty ∧ l = [] ∧ Q w w' := by
  unfold outR at ho
  by_cases he : e = 0
  · subst he
    rw [if_pos rfl, if_neg (by omega), if_pos rfl] at ho
    simp only [Prod.mk.injEq] at ho
    obtain ⟨rfl, rfl, rfl, rfl, rfl, rfl⟩ := ho
    exact (rReadInt_ok s p lo hi _ _ _ w hs hp (fun h => ⟨by unfold vI; rw [if_neg h], by unfold lI; rw [if_neg h]⟩) (Lib.hid ⟨rfl, rfl, rfl⟩)).mono fun E w' ⟨a, b⟩ => ⟨a, rfl, rfl, rfl, b⟩
  · rw [if_neg he] at ho
    simp only [Prod.mk.injEq] at ho
    obtain ⟨rfl, rfl, rfl, rfl, rfl, rfl⟩ := ho
    exact (rReadInt_stop s p e lo hi w he).mono fun E w' ⟨a, b⟩ => ⟨a, rfl, rfl, rfl, b⟩
theorem rText_r (s : ByteArray) (p e : Nat) (lo hi most : Int) {n : Nat} {i : Int} {t : ByteArray} {l : List Int} {c e' : Nat} (w : World) (hs : s.size ≤ 1000000) (hp : p ≤ s.size) (hm : Fit most) (ho : outR s p e 2 lo hi most = (n, i, t, l, c, e')) : Calls Try.prog 26 #[rv s p e, .int .i64 most] w fun E w' => E = .returned (.tuple #[rv s (p + c) e', .string t]) ∧ n = 0 ∧ i = 0 ∧ l = [] ∧ Q w w' := by
  unfold outR at ho
  by_cases he : e = 0
  · subst he
    rw [if_pos rfl, if_neg (by omega), if_neg (by omega), if_pos rfl] at ho
    simp only [Prod.mk.injEq] at ho
    obtain ⟨rfl, rfl, rfl, rfl, rfl, rfl⟩ := ho
    exact (rReadText_ok s p most _ _ _ w hs hp hm (Lib.hid ⟨rfl, rfl, rfl⟩)).mono fun E w' ⟨a, b⟩ => ⟨a, rfl, rfl, rfl, b⟩
  · rw [if_neg he] at ho
    simp only [Prod.mk.injEq] at ho
    obtain ⟨rfl, rfl, rfl, rfl, rfl, rfl⟩ := ho
    exact (rReadText_stop s p e most w he).mono fun E w' ⟨a, b⟩ => ⟨a, rfl, rfl, rfl, b⟩
def JPost (s : ByteArray) (p : Nat) (w : World) (n : Nat) (i : Int) (t : ByteArray) (l : List Int) (c e : Nat) (E : Ending) (w' : World) : Prop := ∃ v, E = .returned (.tuple #[rv s (p + c) e, v]) ∧ n = 0 ∧ i = 0 ∧ t = ByteArray.empty ∧ RdI w' v l ∧ NB w.heap.size v ∧ Q w w'
theorem rInts_r (s : ByteArray) (p e k : Nat) (lo hi most : Int) {n : Nat} {i : Int} {t : ByteArray} {l : List Int} {c e' : Nat} (w : World) (hk : 2 < k) (hs : s.size ≤ 1000000) (hp : p ≤ s.size) (hm : Fit most) (ho : outR s p e k lo hi most = (n, i, t, l, c, e')) : Calls Try.prog 27 #[rv s p e, .int .i64 most, .int .i64 lo, .int .i64 hi] w (JPost s p w n i t l c e') := by
  unfold outR at ho
  by_cases he : e = 0
  · subst he
    rw [if_pos rfl, if_neg (by omega), if_neg (by omega), if_neg (by omega)] at ho
    simp only [Prod.mk.injEq] at ho
    obtain ⟨rfl, rfl, rfl, rfl, rfl, rfl⟩ := ho
    exact (rReadInts_ok s p most lo hi _ _ _ w hs hp hm (Lib.hid rfl)).mono fun E w' ⟨v, a, b, c, d⟩ => ⟨v, a, rfl, rfl, rfl, b, c, d⟩
  · rw [if_neg he] at ho
    simp only [Prod.mk.injEq] at ho
    obtain ⟨rfl, rfl, rfl, rfl, rfl, rfl⟩ := ho
    exact (rReadInts_stop s p e most lo hi w he).mono fun E w' ⟨a, b⟩ => ⟨_, a, rfl, rfl, rfl, RdI.nil _, NB.nil _, b⟩
theorem same_c (k n : Nat) (i : Int) (t : ByteArray) (v u : Value) (l : List Int) (w : World) (hr : RdI w v l) (hu : RdI w u l) (hl : l.length ≤ 1000000) : Calls Try.prog 28 #[fv k n i t v, fv k n i t u] w fun e w' => e = .returned (.bool true) ∧ Q w w' := by
  unfold fv
  have HQ := Lib.hid (((Q.refl w).alloc (.cells #[.int .u8 k, .int .u64 n, .int .i64 i, .string t, v] 41)).alloc (.cells #[.int .u8 k, .int .u64 n, .int .i64 i, .string t, u] 41))
  have HS := Lib.hid (Same_c v u l _ (hr.q HQ.out) (hu.q HQ.out) hl)
  obtain ⟨sA, sc, rfl, _, _⟩ := hr
  obtain ⟨uA, uc, rfl, _, _⟩ := hu
  have e1 : ((k : Int) == (k : Int)) = true := by simp
  have e2 : ((n : Int) == (n : Int)) = true := by simp
  have e3 : (i == i) = true := by simp
  have e4 : (t.toList == t.toList) = true := by simp
  go_enter Try.func28, Try.ntmps28
  go_wp2_with fail
  refine HS.out.mono ?_; rintro E w1 ⟨rfl, hq1⟩
  go_wp2_with fail
  go_ret
  exact ⟨rfl, HQ.out.trans hq1⟩
end Go.Proofs.Ytnejobcbhddpoaa
