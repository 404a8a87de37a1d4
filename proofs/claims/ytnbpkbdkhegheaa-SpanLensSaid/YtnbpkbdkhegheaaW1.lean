/- The walk of the law SpanLens. -/
import Derived.Test.YtnbpkbdkhegheaaOpen
import Derived.Test.YtnbpkbdkhegheaaRead
import Derived.OpenShut
import Derived.Lib.SmallJoins
import Derived.ShutString
import Derived.RegionTactic
import Derived.BigRegion
import Derived.Deep.RegionHeld3
set_option linter.unusedVariables false
set_option linter.unusedSimpArgs false
namespace Go.Proofs.Ytnbpkbdkhegheaa
open Go.ChangeShapes Go.WideShapes Go.ChangeAt Go.RowKit Sm

theorem lensK {w W W' : World} {a b c d : Value} (h : W.cell? ⟨w.heap.size, 0, none⟩ = some a ∧ W.cell? ⟨w.heap.size, 1, none⟩ = some b ∧ W.cell? ⟨w.heap.size + 1, 0, none⟩ = some c ∧ W.cell? ⟨w.heap.size + 1, 1, none⟩ = some d ∧ w.heap.size + 1 < W.heap.size ∧ Q w W) (hq : Q W W') :
    W'.cell? ⟨w.heap.size, 0, none⟩ = some a ∧ W'.cell? ⟨w.heap.size, 1, none⟩ = some b ∧ W'.cell? ⟨w.heap.size + 1, 0, none⟩ = some c ∧ W'.cell? ⟨w.heap.size + 1, 1, none⟩ = some d ∧ w.heap.size + 1 < W'.heap.size ∧ Q w W' := by
  obtain ⟨h1, h2, h3, h4, h5, h6⟩ := h
  exact ⟨(hq.cell (p := ⟨w.heap.size, 0, none⟩) (Nat.lt_of_succ_lt h5)).trans h1, (hq.cell (p := ⟨w.heap.size, 1, none⟩) (Nat.lt_of_succ_lt h5)).trans h2, (hq.cell (p := ⟨w.heap.size + 1, 0, none⟩) h5).trans h3, (hq.cell (p := ⟨w.heap.size + 1, 1, none⟩) h5).trans h4, Nat.lt_of_lt_of_le h5 hq.size, h6.trans hq⟩
theorem lensQ {w W : World} {a b c d : Value} (h : W.cell? ⟨w.heap.size, 0, none⟩ = some a ∧ W.cell? ⟨w.heap.size, 1, none⟩ = some b ∧ W.cell? ⟨w.heap.size + 1, 0, none⟩ = some c ∧ W.cell? ⟨w.heap.size + 1, 1, none⟩ = some d ∧ w.heap.size + 1 < W.heap.size ∧ Q w W) : Q w W := h.2.2.2.2.2
theorem Len_is (a b x : Int) (w : World) (hf : Hid (FitS (a, b))) (h : Hid (lenS (a, b) = x)) : Calls Try.prog 11 #[.agg #[.int .i64 a, .int .i64 b]] w fun e w' => e = .returned (.int .i64 x) ∧ Q w w' :=
  (Len_c a b w hf.out).mono fun _ _ ⟨p, q⟩ => ⟨by rw [p, ← h.out], q⟩
theorem rLen_is (a b x : Int) (w : World) (hf : Hid (FitS (a, b))) (h : Hid (lenS (a, b) = x)) : Calls Try.prog 12 #[.agg #[.int .i64 a, .int .i64 b]] w fun e w' => e = .returned (.int .i64 x) ∧ Q w w' :=
  (rLen_c a b w hf.out).mono fun _ _ ⟨p, q⟩ => ⟨by rw [p, ← h.out], q⟩
theorem Meet_is (a b c d : Int) (m : S) (w : World) (h : Hid (meetS (a, b) (c, d) = m)) : Calls Try.prog 13 #[.agg #[.int .i64 a, .int .i64 b], .agg #[.int .i64 c, .int .i64 d]] w fun e w' => e = .returned (.agg #[.int .i64 m.1, .int .i64 m.2]) ∧ Q w w' :=
  (Meet_c (a, b) (c, d) w).mono fun _ _ ⟨p, q⟩ => ⟨by rw [p, h.out]; rfl, q⟩
theorem rMeet_is (a b c d : Int) (m : S) (w : World) (h : Hid (meetS (a, b) (c, d) = m)) : Calls Try.prog 14 #[.agg #[.int .i64 a, .int .i64 b], .agg #[.int .i64 c, .int .i64 d]] w fun e w' => e = .returned (.agg #[.int .i64 m.1, .int .i64 m.2]) ∧ Q w w' :=
  (rMeet_c (a, b) (c, d) w).mono fun _ _ ⟨p, q⟩ => ⟨by rw [p, h.out]; rfl, q⟩
set_option maxRecDepth 100000 in
set_option maxHeartbeats 1600000 in
theorem lens_walk (w : World) (AW : Awk) (a b : Int) (h1 : FitS (a, b)) (c d : Int) (h2 : FitS (c, d)) : Calls Try.prog 3 #[.agg #[.int .i64 a, .int .i64 b], .agg #[.int .i64 c, .int .i64 d]] w fun e w' => e = .returned (.bool true) ∧ Below w.heap.size w w' := by
  have H1 := Lib.hid h1
  obtain ⟨x, hx⟩ : ∃ x, lenS (a, b) = x := ⟨_, rfl⟩
  obtain ⟨m, hm⟩ : ∃ m, meetS (a, b) (c, d) = m := ⟨_, rfl⟩
  have HX := Lib.hid hx
  have HM := Lib.hid hm
  have heq1 : ∀ w, (Op.equalIn 10000 23 (.agg #[.int .i64 m.1, .int .i64 m.2]) (.agg #[.int .i64 m.1, .int .i64 m.2])).run Try.prog w = .ok true w := fun w => by rw [eqIn]; simp
  have hgd := eqGd
  clear h1 h2 hx hm
  go_enter Try.func3, Try.ntmps3
  go_wp2_with fail
  have hs0 : ((w.alloc (.cells #[.int .i64 a, .int .i64 b] 23)).alloc (.cells #[.int .i64 c, .int .i64 d] 23)).cell? ⟨w.heap.size, 0, none⟩ = some (.int .i64 a) := by simp [go_sem]
  have hs1 : ((w.alloc (.cells #[.int .i64 a, .int .i64 b] 23)).alloc (.cells #[.int .i64 c, .int .i64 d] 23)).cell? ⟨w.heap.size, 1, none⟩ = some (.int .i64 b) := by simp [go_sem]
  have hs2 : ((w.alloc (.cells #[.int .i64 a, .int .i64 b] 23)).alloc (.cells #[.int .i64 c, .int .i64 d] 23)).cell? ⟨w.heap.size + 1, 0, none⟩ = some (.int .i64 c) := by simp [go_sem]
  have hs3 : ((w.alloc (.cells #[.int .i64 a, .int .i64 b] 23)).alloc (.cells #[.int .i64 c, .int .i64 d] 23)).cell? ⟨w.heap.size + 1, 1, none⟩ = some (.int .i64 d) := by simp [go_sem]
  have hs4 : w.heap.size + 1 < ((w.alloc (.cells #[.int .i64 a, .int .i64 b] 23)).alloc (.cells #[.int .i64 c, .int .i64 d] 23)).heap.size := by simp
  have hs5 : Q w ((w.alloc (.cells #[.int .i64 a, .int .i64 b] 23)).alloc (.cells #[.int .i64 c, .int .i64 d] 23)) := ((Q.refl w).alloc _).alloc _
  generalize ((w.alloc (.cells #[.int .i64 a, .int .i64 b] 23)).alloc (.cells #[.int .i64 c, .int .i64 d] 23)) = W0 at hs0 hs1 hs2 hs3 hs4 hs5 ⊢
  have hd : Q W0 W0.drew := (Q.refl W0).drew
  go_region_held3 (fun W => W.cell? ⟨w.heap.size, 0, none⟩ = some (.int .i64 a) ∧ W.cell? ⟨w.heap.size, 1, none⟩ = some (.int .i64 b) ∧ W.cell? ⟨w.heap.size + 1, 0, none⟩ = some (.int .i64 c) ∧ W.cell? ⟨w.heap.size + 1, 1, none⟩ = some (.int .i64 d) ∧ w.heap.size + 1 < W.heap.size ∧ Q w W)
    (first | exact lensK ⟨hs0, hs1, hs2, hs3, hs4, hs5⟩ hd | exact lensK (by assumption) (by assumption))
    (first
      | (go_at_call 11; refine (Len_is a b x _ H1 HX).mono ?_; rintro e w2 ⟨rfl, hq2⟩)
      | (go_at_call 12; refine (rLen_is a b x _ H1 HX).mono ?_; rintro e w2 ⟨rfl, hq2⟩)
      | (go_at_call 13; refine (Meet_is a b c d m _ HM).mono ?_; rintro e w2 ⟨rfl, hq2⟩)
      | (go_at_call 14; refine (rMeet_is a b c d m _ HM).mono ?_; rintro e w2 ⟨rfl, hq2⟩)
      | (go_at_call 15; refine (AW.out _).mono ?_; rintro e w2 ⟨rfl, hq2⟩))
  all_goals go_wp2_with fail
  all_goals go_ret
  all_goals exact ⟨rfl, lensQ (w := w) (W := w2) (a := .int .i64 a) (b := .int .i64 b) (c := .int .i64 c) (d := .int .i64 d) (by assumption)⟩
end Go.Proofs.Ytnbpkbdkhegheaa
