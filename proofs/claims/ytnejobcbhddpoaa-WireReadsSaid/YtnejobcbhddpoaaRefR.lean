/- The contracts of the reference's reader. -/
import Derived.Test.YtnejobcbhddpoaaArgs
import Derived.BigRegion
set_option linter.unusedVariables false
set_option linter.unusedSimpArgs false
namespace Go.Proofs.Ytnejobcbhddpoaa
open Go.ChangeShapes Go.WideShapes Go.ChangeAt Go.RowKit Wm

def rv (s : ByteArray) (p e : Nat) : Value := .agg #[.string s, .int .i64 p, .int .i64 e]
theorem twoA (w : World) (c1 c2 : Array Value) (t1 t2 : TypeId) : ((w.alloc (.cells c1 t1)).alloc (.cells c2 t2)).heap[w.heap.size]? = some (.cells c1 t1 (0, 0)) ∧ ((w.alloc (.cells c1 t1)).alloc (.cells c2 t2)).heap[w.heap.size + 1]? = some (.cells c2 t2 (0, 0)) := by
  show ((w.heap.push _).push _)[_]? = _ ∧ ((w.heap.push _).push _)[_]? = _
  refine ⟨?_, ?_⟩
  · simp [Array.getElem?_push]
  · simp [Array.getElem?_push, Array.getElem_push]
theorem tri {w : World} {b : Nat} {c0 c1 c2 : Value} {T : TypeId} (h : w.heap[b]? = some (.cells #[c0, c1, c2] T (0, 0))) : w.cell? ⟨b, 0, none⟩ = some c0 ∧ w.cell? ⟨b, 1, none⟩ = some c1 ∧ w.cell? ⟨b, 2, none⟩ = some c2 ∧ ∀ i, w.frozen? ⟨b, i, none⟩ = false :=
  ⟨cell_blk h 0, cell_blk h 1, cell_blk h 2, free_blk h⟩
theorem fail_c (s : ByteArray) (p e e' : Nat) (w : World) : Calls Try.prog 47 #[rv s p e, .int .i64 e'] w fun E w' => E = .returned (rv s p e') ∧ Q w w' := by
  unfold rv
  go_enter Try.func47, Try.ntmps47
  go_wp2_with fail
  refine bodyPost_ret (v := .agg #[.string s, .int .i64 p, .int .i64 e']) (by simp [results, Try.results47, go_sem]) rfl ⟨rfl, ?_⟩
  repeat (first | exact Q.refl _ | refine Q.alloc ?_ _ | refine Q.setA ?_ (by simp; try omega) _)
theorem rNew_c (s : ByteArray) (w : World) : Calls Try.prog 22 #[.string s] w fun E w' => E = .returned (rv s 0 0) ∧ Q w w' := by
  go_enter Try.func22, Try.ntmps22
  go_wp2_with fail
  refine bodyPost_ret (v := .agg #[.string s, .int .i64 0, .int .i64 0]) (by simp [results, Try.results22, go_sem]) rfl ⟨rfl, ?_⟩
  repeat (first | exact Q.refl _ | refine Q.alloc ?_ _ | refine Q.setA ?_ (by simp; try omega) _)
theorem rLeft_c (s : ByteArray) (p e : Nat) (w : World) (hs : s.size ≤ 1000000) (hp : p ≤ s.size) : Calls Try.prog 30 #[rv s p e] w fun E w' => E = .returned (.int .i64 (s.size - p : Nat)) ∧ Q w w' := by
  unfold rv
  have HE := Lib.hid (show (s.size : Int) - (p : Int) = ((s.size - p : Nat) : Int) by omega)
  go_enter Try.func30, Try.ntmps30
  go_wp2_with fail
  go_ret
  exact ⟨ret_int HE.out, (Q.refl w).alloc _⟩
set_option maxRecDepth 100000 in
set_option maxHeartbeats 1600000 in
theorem rEnd_c (s : ByteArray) (p e : Nat) (w : World) (hs : s.size ≤ 1000000) (hp : p ≤ s.size) : Calls Try.prog 33 #[rv s p e] w fun E w' => E = .returned (.int .i64 (endE s p e)) ∧ Q w w' := by
  have HL := Lib.hid (fun e w => rLeft_c s p e w hs hp)
  unfold rv
  have HB := Lib.hid (heap_alloc_new w (.cells #[.string s, .int .i64 p, .int .i64 e] 36))
  by_cases h0 : e = 0
  · subst h0
    obtain ⟨m, hm⟩ : ∃ m, s.size - p = m := ⟨_, rfl⟩
    rw [hm] at HL
    have hmb : (m : Int) ≤ 1000000 := by omega
    have HE := Lib.hid (show endE s p 0 = if 0 < m then 4 else 0 by unfold endE; rw [if_pos rfl, hm])
    by_cases h1 : 0 < m
    · have t1 : 0 < (m : Int) := by omega
      clear hm hs hp
      go_enter Try.func33, Try.ntmps33
      go_wp2_with fail
      refine (HL.out 0 _).mono ?_; rintro E w1 ⟨rfl, hq1⟩
      have hb1 := (hq1.block _ (lt_of_block HB.out)).trans HB.out
      obtain ⟨x0, x1, x2, xf⟩ := tri hb1
      clear hb1
      go_wp2_with fail
      go_ret
      exact ⟨ret_int (by rw [HE.out, if_pos h1]; rfl), ((Q.refl w).alloc _).trans hq1⟩
    · have t1 : ¬ 0 < (m : Int) := by omega
      clear hm hs hp
      go_enter Try.func33, Try.ntmps33
      go_wp2_with fail
      refine (HL.out 0 _).mono ?_; rintro E w1 ⟨rfl, hq1⟩
      have hb1 := (hq1.block _ (lt_of_block HB.out)).trans HB.out
      obtain ⟨x0, x1, x2, xf⟩ := tri hb1
      clear hb1
      go_wp2_with fail
      go_ret
      exact ⟨ret_int (by rw [HE.out, if_neg h1]; rfl), ((Q.refl w).alloc _).trans hq1⟩
  · have t0 : ((e : Int) != 0) = true := by simp; omega
    have t0' : ((e : Int) == 0) = false := by simp; omega
    have HE := Lib.hid (show endE s p e = e by unfold endE; rw [if_neg h0])
    clear h0
    go_enter Try.func33, Try.ntmps33
    go_wp2_with fail
    go_ret
    exact ⟨ret_int (by rw [HE.out]), (Q.refl w).alloc _⟩

theorem rReadUint_stop (s : ByteArray) (p e : Nat) (w : World) (h0 : e ≠ 0) : Calls Try.prog 24 #[rv s p e] w fun E w' => E = .returned (.tuple #[rv s p e, .int .u64 0]) ∧ Q w w' := by
  unfold rv
  have t0 : ((e : Int) != 0) = true := by simp; omega
  have t0' : ((e : Int) == 0) = false := by simp; omega
  clear h0
  go_enter Try.func24, Try.ntmps24
  go_wp2_with fail
  refine bodyPost_ret (v := .tuple #[.agg #[.string s, .int .i64 p, .int .i64 e], .int .u64 0]) (by simp [results, Try.results24, go_sem]) rfl ⟨rfl, ?_⟩
  repeat (first | exact Q.refl _ | refine Q.alloc ?_ _ | refine Q.setA ?_ (by simp; try omega) _)
set_option maxRecDepth 100000 in
set_option maxHeartbeats 1600000 in
theorem rReadUint_ok (s : ByteArray) (p : Nat) (v l x : Nat) (w : World) (hs : s.size ≤ 1000000) (hp : p ≤ s.size) (hz : x ≠ 0 → v = 0 ∧ l = 0) (hn : Hid (NU s p v l x)) : Calls Try.prog 24 #[rv s p 0] w fun E w' => E = .returned (.tuple #[rv s (p + l) x, .int .u64 v]) ∧ Q w w' := by
  have HC := Lib.hid (fun w => number_at s p v l x hs hp hn w)
  have hf := fun w => fail_c s p 0 x w
  unfold rv at hf ⊢
  have HF := Lib.hid hf
  have HB := Lib.hid (twoA w #[.string s, .int .i64 p, .int .i64 0] #[.string ⟨#[]⟩, .int .i64 0, .int .i64 0] 36 36)
  have HQ := Lib.hid (((Q.refl w).alloc (.cells #[.string s, .int .i64 p, .int .i64 0] 36)).alloc (.cells #[.string ⟨#[]⟩, .int .i64 0, .int .i64 0] 36))
  clear hf
  by_cases h0 : x = 0
  · subst h0
    clear hz hn hs hp
    go_enter Try.func24, Try.ntmps24
    go_wp2_with fail
    refine (HC.out _).mono ?_; rintro E w1 ⟨rfl, rfl⟩
    go_wp2_with fail
    refine bodyPost_ret (v := .tuple #[.agg #[.string s, .int .i64 ((p + l : Nat) : Int), .int .i64 0], .int .u64 v]) (by simp [results, Try.results24, go_sem]) rfl ⟨rfl, ?_⟩
    repeat (first | exact Q.refl _ | refine Q.alloc ?_ _ | refine Q.setA ?_ (by simp; try omega) _)
  · have t0 : ((x : Int) != 0) = true := by simp; omega
    have t0' : ((x : Int) == 0) = false := by simp; omega
    obtain ⟨rfl, rfl⟩ := hz h0
    clear hn hs hp h0 hz
    go_enter Try.func24, Try.ntmps24
    go_wp2_with fail
    refine (HC.out _).mono ?_; rintro E w1 ⟨rfl, rfl⟩
    go_wp2_with fail
    refine (HF.out _).mono ?_; rintro E w2 ⟨rfl, hq2⟩
    have hb2 := (hq2.block _ (lt_of_block HB.out.2)).trans HB.out.2
    obtain ⟨x0, x1, x2, xf⟩ := tri hb2
    have Q2 := Lib.hid (HQ.out.trans hq2)
    clear hb2 hq2
    go_wp2_with fail
    refine bodyPost_ret (v := .tuple #[.agg #[.string s, .int .i64 p, .int .i64 x], .int .u64 0]) (by simp [results, Try.results24, go_sem, x0, x1, x2]) rfl ⟨rfl, ?_⟩
    repeat (first | with_reducible exact Q2.out | refine Q.setA ?_ (by omega) _)

theorem rReadInt_stop (s : ByteArray) (p e : Nat) (lo hi : Int) (w : World) (h0 : e ≠ 0) : Calls Try.prog 25 #[rv s p e, .int .i64 lo, .int .i64 hi] w fun E w' => E = .returned (.tuple #[rv s p e, .int .i64 0]) ∧ Q w w' := by
  unfold rv
  have t0 : ((e : Int) != 0) = true := by simp; omega
  have t0' : ((e : Int) == 0) = false := by simp; omega
  clear h0
  go_enter Try.func25, Try.ntmps25
  go_wp2_with fail
  refine bodyPost_ret (v := .tuple #[.agg #[.string s, .int .i64 p, .int .i64 e], .int .i64 0]) (by simp [results, Try.results25, go_sem]) rfl ⟨rfl, ?_⟩
  repeat (first | exact Q.refl _ | refine Q.alloc ?_ _ | refine Q.setA ?_ (by simp; try omega) _)
set_option maxRecDepth 100000 in
set_option maxHeartbeats 1600000 in
theorem rReadInt_ok (s : ByteArray) (p : Nat) (lo hi : Int) (v : Int) (l x : Nat) (w : World) (hs : s.size ≤ 1000000) (hp : p ≤ s.size) (hz : x ≠ 0 → v = 0 ∧ l = 0) (hn : Hid (NI s p lo hi v l x)) : Calls Try.prog 25 #[rv s p 0, .int .i64 lo, .int .i64 hi] w fun E w' => E = .returned (.tuple #[rv s (p + l) x, .int .i64 v]) ∧ Q w w' := by
  have HC := Lib.hid (fun w => signed_at s p lo hi v l x hs hp hn w)
  have hf := fun w => fail_c s p 0 x w
  unfold rv at hf ⊢
  have HF := Lib.hid hf
  have HB := Lib.hid (twoA w #[.string s, .int .i64 p, .int .i64 0] #[.string ⟨#[]⟩, .int .i64 0, .int .i64 0] 36 36)
  have HQ := Lib.hid (((Q.refl w).alloc (.cells #[.string s, .int .i64 p, .int .i64 0] 36)).alloc (.cells #[.string ⟨#[]⟩, .int .i64 0, .int .i64 0] 36))
  clear hf
  by_cases h0 : x = 0
  · subst h0
    clear hz hn hs hp
    go_enter Try.func25, Try.ntmps25
    go_wp2_with fail
    refine (HC.out _).mono ?_; rintro E w1 ⟨rfl, rfl⟩
    go_wp2_with fail
    refine bodyPost_ret (v := .tuple #[.agg #[.string s, .int .i64 ((p + l : Nat) : Int), .int .i64 0], .int .i64 v]) (by simp [results, Try.results25, go_sem]) rfl ⟨rfl, ?_⟩
    repeat (first | exact Q.refl _ | refine Q.alloc ?_ _ | refine Q.setA ?_ (by simp; try omega) _)
  · have t0 : ((x : Int) != 0) = true := by simp; omega
    have t0' : ((x : Int) == 0) = false := by simp; omega
    obtain ⟨rfl, rfl⟩ := hz h0
    clear hn hs hp h0 hz
    go_enter Try.func25, Try.ntmps25
    go_wp2_with fail
    refine (HC.out _).mono ?_; rintro E w1 ⟨rfl, rfl⟩
    go_wp2_with fail
    refine (HF.out _).mono ?_; rintro E w2 ⟨rfl, hq2⟩
    have hb2 := (hq2.block _ (lt_of_block HB.out.2)).trans HB.out.2
    obtain ⟨x0, x1, x2, xf⟩ := tri hb2
    have Q2 := Lib.hid (HQ.out.trans hq2)
    clear hb2 hq2
    go_wp2_with fail
    refine bodyPost_ret (v := .tuple #[.agg #[.string s, .int .i64 p, .int .i64 x], .int .i64 0]) (by simp [results, Try.results25, go_sem, x0, x1, x2]) rfl ⟨rfl, ?_⟩
    repeat (first | with_reducible exact Q2.out | refine Q.setA ?_ (by omega) _)
end Go.Proofs.Ytnejobcbhddpoaa
