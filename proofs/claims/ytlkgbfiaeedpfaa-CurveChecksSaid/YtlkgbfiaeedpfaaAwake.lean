/- The examples of the chapter. -/
import Derived.Test.YtlkgbfiaeedpfaaRValue
import Derived.Test.YtlkgbfiaeedpfaaReach
import Derived.Test.YtlkgbfiaeedpfaaRise
set_option linter.unusedVariables false
set_option linter.unusedSimpArgs false
namespace Go.Proofs.Ytlkgbfiaeedpfaa
open Go.ChangeShapes Go.WideShapes Go.ChangeAt Go.RowKit Cm

theorem pts_two (w : World) (a b c d : Int) (T : TypeId) : RdP (w.alloc (.cells #[.int .i64 a, .int .i64 b, .int .i64 c, .int .i64 d] T)) (.slice (some ⟨w.heap.size, 0, none⟩) 2 2) [(a, b), (c, d)] :=
  ⟨_, _, rfl, Nat.le_refl _, fun _ => ⟨w.heap.size, 0, rfl, by show w.heap.size < (w.heap.push _).size; simp, fun i x hx j u hu => by
    match i, hx with
    | 0, hx =>
      simp at hx; subst hx
      match j, hu with
      | 0, hu => have e : Value.int .i64 a = u := Option.some.inj hu; rw [← e]; exact World.cell?_alloc_at _ _ _ _ rfl
      | 1, hu => have e : Value.int .i64 b = u := Option.some.inj hu; rw [← e]; exact World.cell?_alloc_at _ _ _ _ rfl
    | 1, hx =>
      simp at hx; subst hx
      match j, hu with
      | 0, hu => have e : Value.int .i64 c = u := Option.some.inj hu; rw [← e]; exact World.cell?_alloc_at _ _ _ _ rfl
      | 1, hu => have e : Value.int .i64 d = u := Option.some.inj hu; rw [← e]; exact World.cell?_alloc_at _ _ _ _ rfl⟩⟩
theorem ints_two (w : World) (a b : Int) (T : TypeId) : RdI (w.alloc (.cells #[.int .i64 a, .int .i64 b] T)) (.slice (some ⟨w.heap.size, 0, none⟩) 2 2) [a, b] :=
  ⟨_, _, rfl, Nat.le_refl _, fun _ => ⟨w.heap.size, 0, rfl, by show w.heap.size < (w.heap.push _).size; simp, fun i x hx j u hu => by
    match i, hx with
    | 0, hx =>
      simp at hx; subst hx
      match j, hu with
      | 0, hu => have e : Value.int .i64 a = u := Option.some.inj hu; rw [← e]; exact World.cell?_alloc_at _ _ _ _ rfl
    | 1, hx =>
      simp at hx; subst hx
      match j, hu with
      | 0, hu => have e : Value.int .i64 b = u := Option.some.inj hu; rw [← e]; exact World.cell?_alloc_at _ _ _ _ rfl⟩⟩
def c1 : List P := [(0, 0), (10, 5)]
theorem e1 : reS c1 3 = (6, true) := by decide +kernel
theorem e2 : reS c1 6 = (0, false) := by decide +kernel
theorem e3 : atS c1 3 = 1 := by decide +kernel
theorem e4 : atS c1 (-4) = 0 := by decide +kernel
theorem e5 : atS c1 20 = 5 := by decide +kernel
theorem e6 : atS [(0, 10), (4, 0)] 1 = 7 := by decide +kernel
theorem e7 : riS c1 = true := by decide +kernel
theorem e8 : vaS [0, 10] [0, 100] [[0, 10], [20, 30]] 5 50 = 15 := by decide +kernel
theorem e9 : chk [] = 3 := by decide +kernel
theorem e10 : chkG [0, 10] [0, 100] [[0, 10], [20, 30]] = 0 := by decide +kernel
theorem gl : GrL [0, 10] [0, 100] [[0, 10], [20, 30]] := ⟨by decide, by decide, by decide, fun i => by
  match i with
  | 0 => decide
  | 1 => decide
  | i + 2 => show ([] : List Int).length ≤ _; decide⟩
theorem val_two (w : World) (a b : Value) (T : TypeId) : RdG 1 (fun u => [u]) (w.alloc (.cells #[a, b] T)) (.slice (some ⟨w.heap.size, 0, none⟩) 2 2) [a, b] :=
  ⟨_, _, rfl, Nat.le_refl _, fun _ => ⟨w.heap.size, 0, rfl, by show w.heap.size < (w.heap.push _).size; simp, fun i x hx j u hu => by
    match i, hx with
    | 0, hx =>
      simp at hx; subst hx
      match j, hu with
      | 0, hu => have e : a = u := Option.some.inj hu; rw [← e]; exact World.cell?_alloc_at _ _ _ _ rfl
    | 1, hx =>
      simp at hx; subst hx
      match j, hu with
      | 0, hu => have e : b = u := Option.some.inj hu; rw [← e]; exact World.cell?_alloc_at _ _ _ _ rfl⟩⟩
structure GNew (w : World) (g0 g1 g4 g5 : Nat) (W : World) : Prop where
  x : RdI W (.slice (some ⟨g0, 0, none⟩) 2 2) [0, 10]
  y : RdI W (.slice (some ⟨g1, 0, none⟩) 2 2) [0, 100]
  v : RdV W (.slice (some ⟨g4, 0, none⟩) 2 2) [[0, 10], [20, 30]]
  b : box3 W g5 (.slice (some ⟨g0, 0, none⟩) 2 2) (.slice (some ⟨g1, 0, none⟩) 2 2) (.slice (some ⟨g4, 0, none⟩) 2 2)
  q : Q w W
theorem GNew.mono {w W W' : World} {g0 g1 g4 g5 : Nat} (h : GNew w g0 g1 g4 g5 W) (hq : Q W W') : GNew w g0 g1 g4 g5 W' := ⟨RdG.q h.x hq, RdG.q h.y hq, h.v.q hq, h.b.q hq, h.q.trans hq⟩
theorem grid_new {w W1 W2 W3 W4 W5 W6 : World} {T1 T2 T3 : TypeId} (h1 : w.alloc (.cells #[.int .i64 0, .int .i64 10] T1) = W1) (h2 : W1.alloc (.cells #[.int .i64 0, .int .i64 100] T1) = W2) (h3 : W2.alloc (.cells #[.int .i64 0, .int .i64 10] T1) = W3) (h4 : W3.alloc (.cells #[.int .i64 20, .int .i64 30] T1) = W4)
    (h5 : W4.alloc (.cells #[.slice (some ⟨W2.heap.size, 0, none⟩) 2 2, .slice (some ⟨W3.heap.size, 0, none⟩) 2 2] T2) = W5) (h6 : W5.alloc (.cells #[.slice (some ⟨w.heap.size, 0, none⟩) 2 2, .slice (some ⟨W1.heap.size, 0, none⟩) 2 2, .slice (some ⟨W4.heap.size, 0, none⟩) 2 2] T3) = W6) : GNew w w.heap.size W1.heap.size W4.heap.size W5.heap.size W6 := by
  have q1 : Q w W1 := by rw [← h1]; exact (Q.refl _).alloc _
  have q2 : Q W1 W2 := by rw [← h2]; exact (Q.refl _).alloc _
  have q3 : Q W2 W3 := by rw [← h3]; exact (Q.refl _).alloc _
  have q4 : Q W3 W4 := by rw [← h4]; exact (Q.refl _).alloc _
  have q5 : Q W4 W5 := by rw [← h5]; exact (Q.refl _).alloc _
  have q6 : Q W5 W6 := by rw [← h6]; exact (Q.refl _).alloc _
  have q26 : Q W2 W6 := q3.trans (q4.trans (q5.trans q6))
  have r1 : RdI W1 (.slice (some ⟨w.heap.size, 0, none⟩) 2 2) [0, 10] := by rw [← h1]; exact ints_two _ _ _ _
  have r2 : RdI W2 (.slice (some ⟨W1.heap.size, 0, none⟩) 2 2) [0, 100] := by rw [← h2]; exact ints_two _ _ _ _
  have r3 : RdI W3 (.slice (some ⟨W2.heap.size, 0, none⟩) 2 2) [0, 10] := by rw [← h3]; exact ints_two _ _ _ _
  have r4 : RdI W4 (.slice (some ⟨W3.heap.size, 0, none⟩) 2 2) [20, 30] := by rw [← h4]; exact ints_two _ _ _ _
  refine ⟨RdG.q r1 (q2.trans q26), RdG.q r2 q26, ⟨[.slice (some ⟨W2.heap.size, 0, none⟩) 2 2, .slice (some ⟨W3.heap.size, 0, none⟩) 2 2], ?_, rfl, ?_⟩, ?_, q1.trans (q2.trans q26)⟩
  · refine RdG.q ?_ q6
    rw [← h5]; exact val_two _ _ _ _
  · intro i u hu
    match i, hu with
    | 0, hu => simp at hu; subst hu; exact RdG.q r3 (q4.trans (q5.trans q6))
    | 1, hu => simp at hu; subst hu; exact RdG.q r4 (q5.trans q6)
  · rw [← h6]; exact box3_new _ _ _ _ _
set_option maxRecDepth 100000 in
set_option maxHeartbeats 1600000 in
theorem awake_c (w : World) : Calls Try.prog 12 #[] w fun e w' => e = .returned (.bool true) ∧ Q w w' := by
  have C0 := Lib.hid (pts_two w 0 0 10 5 40)
  go_enter Try.func12, Try.ntmps12
  go_wp2_with fail
  refine (Reach_c _ c1 3 6 true (Lib.hid e1) _ C0.out (by decide)).mono ?_; rintro E w1 ⟨rfl, hq1⟩
  have C1 := Lib.hid (RdG.q C0.out hq1)
  have Q1 := Lib.hid (show Q w w1 from ((Q.refl w).alloc _).trans hq1)
  clear hq1
  go_wp2_with fail
  refine (Reach_c _ c1 6 0 false (Lib.hid e2) _ C1.out (by decide)).mono ?_; rintro E w2 ⟨rfl, hq2⟩
  have C2 := Lib.hid (RdG.q C1.out hq2)
  have Q2 := Lib.hid (Q1.out.trans hq2)
  clear hq2
  obtain ⟨V1, k1⟩ : ∃ W, w2.alloc (.cells #[.int .i64 0, .int .i64 10] 3) = W := ⟨_, rfl⟩
  obtain ⟨V2, k2⟩ : ∃ W, V1.alloc (.cells #[.int .i64 0, .int .i64 100] 3) = W := ⟨_, rfl⟩
  obtain ⟨V3, k3⟩ : ∃ W, V2.alloc (.cells #[.int .i64 0, .int .i64 10] 3) = W := ⟨_, rfl⟩
  obtain ⟨V4, k4⟩ : ∃ W, V3.alloc (.cells #[.int .i64 20, .int .i64 30] 3) = W := ⟨_, rfl⟩
  obtain ⟨V5, k5⟩ : ∃ W, V4.alloc (.cells #[.slice (some ⟨V2.heap.size, 0, none⟩) 2 2, .slice (some ⟨V3.heap.size, 0, none⟩) 2 2] 31) = W := ⟨_, rfl⟩
  obtain ⟨V6, k6⟩ : ∃ W, V5.alloc (.cells #[.slice (some ⟨w2.heap.size, 0, none⟩) 2 2, .slice (some ⟨V1.heap.size, 0, none⟩) 2 2, .slice (some ⟨V4.heap.size, 0, none⟩) 2 2] 34) = W := ⟨_, rfl⟩
  have G6 := Lib.hid (grid_new k1 k2 k3 k4 k5 k6)
  go_wp2_with fail
  clear k1 k2 k3 k4 k5 k6
  have C6 := Lib.hid (RdG.q C2.out G6.out.q)
  have Q6 := Lib.hid (Q2.out.trans G6.out.q)
  refine (At_c _ c1 3 1 (Lib.hid e3) _ C6.out (by decide)).mono ?_; rintro E w7 ⟨rfl, hq⟩
  have C7 := Lib.hid (RdG.q C6.out hq)
  have Q7 := Lib.hid (Q6.out.trans hq)
  have G7 := Lib.hid (G6.out.mono hq)
  clear hq
  go_wp2_with fail
  refine (At_c _ c1 (-4) 0 (Lib.hid e4) _ C7.out (by decide)).mono ?_; rintro E w8 ⟨rfl, hq⟩
  have C8 := Lib.hid (RdG.q C7.out hq)
  have Q8 := Lib.hid (Q7.out.trans hq)
  have G8 := Lib.hid (G7.out.mono hq)
  clear hq
  go_wp2_with fail
  refine (At_c _ c1 20 5 (Lib.hid e5) _ C8.out (by decide)).mono ?_; rintro E w9 ⟨rfl, hq⟩
  have C9 := Lib.hid (RdG.q C8.out hq)
  have Q9 := Lib.hid (Q8.out.trans hq)
  have G9 := Lib.hid (G8.out.mono hq)
  have D9 := Lib.hid (pts_two w9 0 10 4 0 40)
  clear hq
  go_wp2_with fail
  refine (At_c _ [(0, 10), (4, 0)] 1 7 (Lib.hid e6) _ D9.out (by decide)).mono ?_; rintro E w10 ⟨rfl, hq⟩
  have hq' : Q w9 w10 := ((Q.refl _).alloc _).trans hq
  have C10 := Lib.hid (RdG.q C9.out hq')
  have Q10 := Lib.hid (Q9.out.trans hq')
  have G10 := Lib.hid (G9.out.mono hq')
  clear hq hq'
  go_wp2_with fail
  refine (Rising_c _ c1 true (Lib.hid e7) _ C10.out (by decide)).mono ?_; rintro E w11 ⟨rfl, hq⟩
  have Q11 := Lib.hid (Q10.out.trans hq)
  have G11 := Lib.hid (G10.out.mono hq)
  obtain ⟨b0, b1, b2, b3⟩ := G11.out.b
  clear hq
  go_wp2_with fail
  refine (Value_c _ _ _ [0, 10] [0, 100] [[0, 10], [20, 30]] 5 50 15 (Lib.hid e8) _ G11.out.x G11.out.y G11.out.v (Lib.hid gl)).mono ?_; rintro E w12 ⟨rfl, hq⟩
  have Q12 := Lib.hid (Q11.out.trans hq)
  have G12 := Lib.hid (G11.out.mono hq)
  clear hq b0 b1 b2 b3
  go_wp2_with fail
  refine (Check_c _ [] 3 (Lib.hid e9) _ (RdG.nil _ _ _) (by decide)).mono ?_; rintro E w13 ⟨rfl, hq⟩
  have Q13 := Lib.hid (Q12.out.trans hq)
  have G13 := Lib.hid (G12.out.mono hq)
  obtain ⟨b0, b1, b2, b3⟩ := G13.out.b
  clear hq
  go_wp2_with fail
  refine (CheckGrid_c _ _ _ [0, 10] [0, 100] [[0, 10], [20, 30]] 0 (Lib.hid e10) _ G13.out.x G13.out.y G13.out.v (Lib.hid gl)).mono ?_; rintro E w14 ⟨rfl, hq⟩
  have Q14 := Lib.hid (Q13.out.trans hq)
  clear hq b0 b1 b2 b3
  go_wp2_with fail
  go_ret
  exact ⟨rfl, Q14.out⟩
end Go.Proofs.Ytlkgbfiaeedpfaa
