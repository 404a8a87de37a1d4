/- The contract of Has, whatever the points are. -/
import Derived.Test.YtkkghejbdakmpaaHas
set_option linter.unusedVariables false
set_option linter.unusedSimpArgs false
namespace Go.Proofs.Ytkkghejbdakmpaa
open Go.ChangeShapes Go.WideShapes Go.ChangeAt Go.RowKit Go.Shelf Pm

theorem has_bad {l : List P} {q : P} (h : chk l ≠ 0) : has l q = false := by unfold has; rw [decide_eq_false h]; rfl
theorem has_far {l : List P} {q : P} (h : inP q = false) : has l q = false := by unfold has; rw [h, Bool.and_false]; rfl
set_option maxRecDepth 100000 in
set_option maxHeartbeats 3200000 in
theorem Has_c (v : Value) (l : List P) (q : P) (r : Bool) (h : Hid (has l q = r)) (w : World) (hr : RdP w v l) (hl : l.length ≤ maxLen) : Calls Try.prog 25 #[v, pv q] w fun e w' => e = .returned (.bool r) ∧ Q w w' := by
  obtain ⟨e, he⟩ : ∃ e, chk l = e := ⟨_, rfl⟩
  obtain ⟨i, hi⟩ : ∃ i, inP q = i := ⟨_, rfl⟩
  by_cases h0 : e = 0
  · subst h0
    cases i with
    | true => exact Has_in v l q r h (Lib.hid he) (Lib.hid hi) w hr
    | false =>
      have HR := Lib.hid hr
      have HL := Lib.hid hl
      have HE := Lib.hid he
      have HI := Lib.hid hi
      obtain rfl : r = false := by rw [← h.out]; exact has_far hi
      obtain ⟨A, c, rfl, _⟩ := hr
      obtain ⟨qx, qy⟩ := q
      unfold pv
      dsimp only
      clear he hi hl h
      go_enter Try.func25, Try.ntmps25
      go_wp2_with fail
      obtain ⟨V0, hV0⟩ : ∃ V, (w.alloc (.cells #[.int .i64 qx, .int .i64 qy] 38)).alloc (.cells #[.bool false] 4) = V := ⟨_, rfl⟩
      have bQ0 : BoxP V0 w.heap.size (qx, qy) := by rw [← hV0]; exact (BoxP.new w (qx, qy)).alloc _
      have bR0 : Boxed V0 (w.heap.size + 1) 4 (.bool false) := by
        rw [← hV0]; have := Boxed.new (w.alloc (.cells #[.int .i64 qx, .int .i64 qy] 38)) 4 (.bool false); rw [World.size_alloc] at this; exact this
      have hQ0 := Lib.hid (show Q w V0 by rw [← hV0]; exact ((Q.refl w).alloc _).alloc _)
      rw [hV0]
      clear hV0
      refine (Check_c _ l 0 HE _ (RdG.q HR.out hQ0.out) HL.out).mono ?_
      rintro e w1 ⟨rfl, hq1⟩
      have bQ1 := bQ0.q hq1
      have bR1 := Boxed.q bR0 hq1
      have HQ1 := Lib.hid (hQ0.out.trans hq1)
      have c0 := bQ1.c0
      have c1 := bQ1.c1
      clear hq1 bQ0 bR0 hQ0
      go_wp2_with fail
      refine (inRange_c qx qy false HI _).mono ?_
      rintro e w2 ⟨rfl, hq2⟩
      have bR2 := Boxed.q bR1 hq2
      have HQ2 := Lib.hid (HQ1.out.trans hq2)
      have k0 := bR2.cell
      have k1 := bR2.frozen
      clear hq2 bQ1 bR1 HQ1 c0 c1 bR2
      go_wp2_with fail
      have hs := HQ2.out.size
      refine bodyPost_ret (v := .bool false) (by simp [results, Try.results25, go_sem, k0]) rfl ⟨rfl, HQ2.out.setA (by omega) _⟩
  · have HR := Lib.hid hr
    have HL := Lib.hid hl
    have HE := Lib.hid he
    obtain rfl : r = false := by rw [← h.out]; exact has_bad (by rw [he]; exact h0)
    obtain ⟨A, c, rfl, _⟩ := hr
    obtain ⟨qx, qy⟩ := q
    unfold pv
    dsimp only
    have t : ((e : Int) != 0) = true := by rw [bne_iff_ne]; omega
    clear he hi hl h h0
    go_enter Try.func25, Try.ntmps25
    go_wp2_with fail
    obtain ⟨V0, hV0⟩ : ∃ V, (w.alloc (.cells #[.int .i64 qx, .int .i64 qy] 38)).alloc (.cells #[.bool false] 4) = V := ⟨_, rfl⟩
    have bR0 : Boxed V0 (w.heap.size + 1) 4 (.bool false) := by
      rw [← hV0]; have := Boxed.new (w.alloc (.cells #[.int .i64 qx, .int .i64 qy] 38)) 4 (.bool false); rw [World.size_alloc] at this; exact this
    have hQ0 := Lib.hid (show Q w V0 by rw [← hV0]; exact ((Q.refl w).alloc _).alloc _)
    rw [hV0]
    clear hV0
    refine (Check_c _ l e HE _ (RdG.q HR.out hQ0.out) HL.out).mono ?_
    rintro E w1 ⟨rfl, hq1⟩
    have bR2 := Boxed.q bR0 hq1
    have HQ2 := Lib.hid (hQ0.out.trans hq1)
    have k0 := bR2.cell
    have k1 := bR2.frozen
    clear hq1 bR0 hQ0 bR2
    go_wp2_with fail
    have hs := HQ2.out.size
    refine bodyPost_ret (v := .bool false) (by simp [results, Try.results25, go_sem, k0]) rfl ⟨rfl, HQ2.out.setA (by omega) _⟩
end Go.Proofs.Ytkkghejbdakmpaa
