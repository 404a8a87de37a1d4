/- The examples of the chapter (printed by tools/genawpoly.py). -/
import Derived.Test.YtkkghejbdakmpaaChord
import Derived.Test.YtkkghejbdakmpaaTurnB
import Derived.Test.YtkkghejbdakmpaaBounds
import Derived.Test.YtkkghejbdakmpaaHasB
import Derived.Test.YtkkghejbdakmpaaSame
set_option linter.unusedVariables false
set_option linter.unusedSimpArgs false
namespace Go.Proofs.Ytkkghejbdakmpaa
open Go.ChangeShapes Go.WideShapes Go.ChangeAt Go.RowKit Go.Shelf Pm

theorem pt_q (x y : Int) (w : World) : Calls Try.prog 36 #[.int .i64 x, .int .i64 y] w fun e w' => e = .returned (.agg #[.int .i64 x, .int .i64 y]) ∧ Q w w' := (pt_c x y w).mono fun e w' ⟨h1, h2⟩ => ⟨h1, by rw [← h2]; exact (Q.refl w).alloc _⟩
theorem pts_new (w : World) (l : List P) (h : 0 < l.length) : RdP (w.alloc (.cells (cellsL l).toArray 38)) (.slice (some ⟨w.heap.size, 0, none⟩) l.length l.length) l :=
  ⟨_, _, rfl, Nat.le_refl _, fun _ => ⟨w.heap.size, 0, rfl, by simp, fun i s hs j u hu => by
    obtain ⟨c1, c2⟩ := cellsL_at l i s hs
    have hb : (w.alloc (.cells (cellsL l).toArray 38)).heap[w.heap.size]? = some (.cells (cellsL l).toArray 38 (0, 0)) := World.alloc_heap_new w _
    rw [Nat.zero_add, cell_of_row _ _ _ _ _ _ hb]
    match j, hu with
    | 0, hu => have e : Value.int .i64 s.1 = u := Option.some.inj hu; rw [← e]; simpa using c1
    | 1, hu => have e : Value.int .i64 s.2 = u := Option.some.inj hu; rw [← e]; simpa using c2⟩⟩
theorem rd_take {w : World} {A : Option Addr} {n c k : Nat} {l l' : List P} (h : RdP w (.slice A n c) l) (hk : k ≤ l.length) (e : l' = l.take k) : RdP w (.slice A k c) l' := by
  subst e
  obtain ⟨A', c', h1, h2, h3⟩ := h
  injection h1 with e1 e2 e3
  subst e1 e2 e3
  have hl : (l.take k).length = k := by simp; omega
  refine ⟨A, c, by rw [hl], by omega, fun h0 => ?_⟩
  obtain ⟨b, off, e, hb, hc⟩ := h3 (by omega)
  refine ⟨b, off, e, hb, fun i x hx j u hu => hc i x ?_ j u hu⟩
  rw [List.getElem?_take] at hx
  split at hx
  · exact hx
  · cases hx
theorem hull_w (v : Value) (l L : List P) (h : Hid (hull l = L)) (w : World) (hr : RdP w v l) (hl : l.length ≤ maxLen) : Calls Try.prog 27 #[v] w (ListPost L w) := by rw [← h.out]; exact Hull_c v l w hr hl
theorem bounds_w (v : Value) (l : List P) (a b c d : Int) (h : Hid (bnd l = ((a, b), c, d))) (w : World) (hr : RdP w v l) (hl : l.length ≤ maxLen) : Calls Try.prog 18 #[v] w fun e w' => e = .returned (.agg #[.int .i64 a, .int .i64 b, .int .i64 c, .int .i64 d]) ∧ Q w w' := Bounds_c v l ((a, b), c, d) h w hr hl
instance (n : Int) : Decidable (Fit n) := inferInstanceAs (Decidable (_ ∧ _))
theorem e1 : chk [(0, 0), (4, 0), (0, 4)] = 0 := by decide +kernel
theorem e2 : chk [(0, 0), (4, 0)] = 3 := by decide +kernel
theorem e3 : ar2 [(0, 0), (0, 3), (4, 0)] = -12 := by decide +kernel
theorem e4 : bnd [(0, 0), (10, 0), (10, 10), (0, 10), (5, 15)] = ((0, 10), 0, 15) := by decide +kernel
theorem e5 : turn [(3, 1)] (-1) = [(1, -3)] := by decide +kernel
theorem e6 : mir [(0, 0), (0, 3), (4, 0)] = [(-4, 0), (0, 3), (0, 0)] := by decide +kernel
theorem e7 : has [(0, 0), (4, 0), (0, 4)] (2, 2) = true := by decide +kernel
theorem e8 : has [(0, 0), (4, 0), (0, 4)] (1, 1) = true := by decide +kernel
theorem e9 : has [(0, 0), (4, 0), (0, 4)] (3, 2) = false := by decide +kernel
theorem e10 : hull [(0, 0), (2, 0), (4, 0), (1, 1), (4, 4)] = [(0, 0), (4, 0), (4, 4)] := by decide +kernel
theorem e11 : Pm.chord [(0, 0), (10, 0), (10, 10), (0, 10), (5, 15)] 5 12 = (2, 8) := by decide +kernel
theorem ft1 : FitL [(3, 1)] := fun x hx => by
  rw [List.mem_singleton.1 hx]; exact ⟨by decide, by decide⟩
theorem ft2 : FitL [(0, 0), (0, 3), (4, 0)] := fun x hx => by
  simp at hx
  rcases hx with rfl | rfl | rfl <;> exact ⟨by decide, by decide⟩
theorem eqRect : ∀ w, (Op.equalIn 10000 31 (.agg #[.int .i64 0, .int .i64 10, .int .i64 0, .int .i64 15]) (.agg #[.int .i64 0, .int .i64 10, .int .i64 0, .int .i64 15])).run Try.prog w = .ok true w := fun w => by kernel_rfl
theorem eqGr : Try.prog.eqGuardType Try.prog.depth 31 = false := by kernel_rfl
set_option maxRecDepth 100000 in
set_option maxHeartbeats 8000000 in
theorem awake_c (w : World) : Calls Try.prog 13 #[] w fun e w' => e = .returned (.bool true) ∧ Q w w' := by
  have q1 := eqRect
  have q2 := eqGr
  have q3 := eqGs
  have q4 : ∀ w, (Op.equalIn 10000 29 (.agg #[.int .i64 2, .int .i64 8]) (.agg #[.int .i64 2, .int .i64 8])).run Try.prog w = .ok true w := fun w => by rw [eqSpan]; rfl
  have HQw := Lib.hid (Q.refl w)
  go_enter Try.func13, Try.ntmps13
  go_wp2_with fail
  refine (pt_q 0 0 _).mono ?_; rintro E w1 ⟨rfl, hq⟩
  have HQw1 := Lib.hid (HQw.out.trans hq)
  clear hq HQw
  go_wp2_with fail
  refine (pt_q 4 0 _).mono ?_; rintro E w2 ⟨rfl, hq⟩
  have HQw2 := Lib.hid (HQw1.out.trans hq)
  clear hq HQw1
  go_wp2_with fail
  refine (pt_q 0 4 _).mono ?_; rintro E w3 ⟨rfl, hq⟩
  have HQw3 := Lib.hid (HQw2.out.trans hq)
  clear hq HQw2
  obtain ⟨w4, hw4⟩ : ∃ W, w3.alloc (.cells #[.int .i64 0, .int .i64 0, .int .i64 4, .int .i64 0, .int .i64 0, .int .i64 4] 38) = W := ⟨_, rfl⟩
  have hq : Q w3 w4 := by rw [← hw4]; exact (Q.refl _).alloc _
  have Na := Lib.hid (show RdP w4 (.slice (some ⟨w3.heap.size, 0, none⟩) 3 3) [(0, 0), (4, 0), (0, 4)] by rw [← hw4]; exact pts_new _ [(0, 0), (4, 0), (0, 4)] (by decide))
  have HQw4 := Lib.hid (HQw3.out.trans hq)
  clear hq HQw3
  go_wp2_with fail
  clear hw4
  have Raw4 := Na
  clear Na
  refine (pt_q 0 0 _).mono ?_; rintro E w5 ⟨rfl, hq⟩
  have HQw5 := Lib.hid (HQw4.out.trans hq)
  have Raw5 := Lib.hid (RdG.q Raw4.out hq)
  clear hq HQw4 Raw4
  go_wp2_with fail
  refine (pt_q 0 3 _).mono ?_; rintro E w6 ⟨rfl, hq⟩
  have HQw6 := Lib.hid (HQw5.out.trans hq)
  have Raw6 := Lib.hid (RdG.q Raw5.out hq)
  clear hq HQw5 Raw5
  go_wp2_with fail
  refine (pt_q 4 0 _).mono ?_; rintro E w7 ⟨rfl, hq⟩
  have HQw7 := Lib.hid (HQw6.out.trans hq)
  have Raw7 := Lib.hid (RdG.q Raw6.out hq)
  clear hq HQw6 Raw6
  obtain ⟨w8, hw8⟩ : ∃ W, w7.alloc (.cells #[.int .i64 0, .int .i64 0, .int .i64 0, .int .i64 3, .int .i64 4, .int .i64 0] 38) = W := ⟨_, rfl⟩
  have hq : Q w7 w8 := by rw [← hw8]; exact (Q.refl _).alloc _
  have Nb := Lib.hid (show RdP w8 (.slice (some ⟨w7.heap.size, 0, none⟩) 3 3) [(0, 0), (0, 3), (4, 0)] by rw [← hw8]; exact pts_new _ [(0, 0), (0, 3), (4, 0)] (by decide))
  have HQw8 := Lib.hid (HQw7.out.trans hq)
  have Raw8 := Lib.hid (RdG.q Raw7.out hq)
  clear hq HQw7 Raw7
  go_wp2_with fail
  clear hw8
  have Rbw8 := Nb
  clear Nb
  refine (pt_q 0 0 _).mono ?_; rintro E w9 ⟨rfl, hq⟩
  have HQw9 := Lib.hid (HQw8.out.trans hq)
  have Raw9 := Lib.hid (RdG.q Raw8.out hq)
  have Rbw9 := Lib.hid (RdG.q Rbw8.out hq)
  clear hq HQw8 Raw8 Rbw8
  go_wp2_with fail
  refine (pt_q 2 0 _).mono ?_; rintro E w10 ⟨rfl, hq⟩
  have HQw10 := Lib.hid (HQw9.out.trans hq)
  have Raw10 := Lib.hid (RdG.q Raw9.out hq)
  have Rbw10 := Lib.hid (RdG.q Rbw9.out hq)
  clear hq HQw9 Raw9 Rbw9
  go_wp2_with fail
  refine (pt_q 4 0 _).mono ?_; rintro E w11 ⟨rfl, hq⟩
  have HQw11 := Lib.hid (HQw10.out.trans hq)
  have Raw11 := Lib.hid (RdG.q Raw10.out hq)
  have Rbw11 := Lib.hid (RdG.q Rbw10.out hq)
  clear hq HQw10 Raw10 Rbw10
  go_wp2_with fail
  refine (pt_q 1 1 _).mono ?_; rintro E w12 ⟨rfl, hq⟩
  have HQw12 := Lib.hid (HQw11.out.trans hq)
  have Raw12 := Lib.hid (RdG.q Raw11.out hq)
  have Rbw12 := Lib.hid (RdG.q Rbw11.out hq)
  clear hq HQw11 Raw11 Rbw11
  go_wp2_with fail
  refine (pt_q 4 4 _).mono ?_; rintro E w13 ⟨rfl, hq⟩
  have HQw13 := Lib.hid (HQw12.out.trans hq)
  have Raw13 := Lib.hid (RdG.q Raw12.out hq)
  have Rbw13 := Lib.hid (RdG.q Rbw12.out hq)
  clear hq HQw12 Raw12 Rbw12
  obtain ⟨w14, hw14⟩ : ∃ W, w13.alloc (.cells #[.int .i64 0, .int .i64 0, .int .i64 2, .int .i64 0, .int .i64 4, .int .i64 0, .int .i64 1, .int .i64 1, .int .i64 4, .int .i64 4] 38) = W := ⟨_, rfl⟩
  have hq : Q w13 w14 := by rw [← hw14]; exact (Q.refl _).alloc _
  have Nc := Lib.hid (show RdP w14 (.slice (some ⟨w13.heap.size, 0, none⟩) 5 5) [(0, 0), (2, 0), (4, 0), (1, 1), (4, 4)] by rw [← hw14]; exact pts_new _ [(0, 0), (2, 0), (4, 0), (1, 1), (4, 4)] (by decide))
  have HQw14 := Lib.hid (HQw13.out.trans hq)
  have Raw14 := Lib.hid (RdG.q Raw13.out hq)
  have Rbw14 := Lib.hid (RdG.q Rbw13.out hq)
  clear hq HQw13 Raw13 Rbw13
  go_wp2_with fail
  clear hw14
  have Rcw14 := Nc
  clear Nc
  refine (pt_q 0 0 _).mono ?_; rintro E w15 ⟨rfl, hq⟩
  have HQw15 := Lib.hid (HQw14.out.trans hq)
  have Raw15 := Lib.hid (RdG.q Raw14.out hq)
  have Rbw15 := Lib.hid (RdG.q Rbw14.out hq)
  have Rcw15 := Lib.hid (RdG.q Rcw14.out hq)
  clear hq HQw14 Raw14 Rbw14 Rcw14
  go_wp2_with fail
  refine (pt_q 10 0 _).mono ?_; rintro E w16 ⟨rfl, hq⟩
  have HQw16 := Lib.hid (HQw15.out.trans hq)
  have Raw16 := Lib.hid (RdG.q Raw15.out hq)
  have Rbw16 := Lib.hid (RdG.q Rbw15.out hq)
  have Rcw16 := Lib.hid (RdG.q Rcw15.out hq)
  clear hq HQw15 Raw15 Rbw15 Rcw15
  go_wp2_with fail
  refine (pt_q 10 10 _).mono ?_; rintro E w17 ⟨rfl, hq⟩
  have HQw17 := Lib.hid (HQw16.out.trans hq)
  have Raw17 := Lib.hid (RdG.q Raw16.out hq)
  have Rbw17 := Lib.hid (RdG.q Rbw16.out hq)
  have Rcw17 := Lib.hid (RdG.q Rcw16.out hq)
  clear hq HQw16 Raw16 Rbw16 Rcw16
  go_wp2_with fail
  refine (pt_q 0 10 _).mono ?_; rintro E w18 ⟨rfl, hq⟩
  have HQw18 := Lib.hid (HQw17.out.trans hq)
  have Raw18 := Lib.hid (RdG.q Raw17.out hq)
  have Rbw18 := Lib.hid (RdG.q Rbw17.out hq)
  have Rcw18 := Lib.hid (RdG.q Rcw17.out hq)
  clear hq HQw17 Raw17 Rbw17 Rcw17
  go_wp2_with fail
  refine (pt_q 5 15 _).mono ?_; rintro E w19 ⟨rfl, hq⟩
  have HQw19 := Lib.hid (HQw18.out.trans hq)
  have Raw19 := Lib.hid (RdG.q Raw18.out hq)
  have Rbw19 := Lib.hid (RdG.q Rbw18.out hq)
  have Rcw19 := Lib.hid (RdG.q Rcw18.out hq)
  clear hq HQw18 Raw18 Rbw18 Rcw18
  obtain ⟨w20, hw20⟩ : ∃ W, w19.alloc (.cells #[.int .i64 0, .int .i64 0, .int .i64 10, .int .i64 0, .int .i64 10, .int .i64 10, .int .i64 0, .int .i64 10, .int .i64 5, .int .i64 15] 38) = W := ⟨_, rfl⟩
  have hq : Q w19 w20 := by rw [← hw20]; exact (Q.refl _).alloc _
  have Nd := Lib.hid (show RdP w20 (.slice (some ⟨w19.heap.size, 0, none⟩) 5 5) [(0, 0), (10, 0), (10, 10), (0, 10), (5, 15)] by rw [← hw20]; exact pts_new _ [(0, 0), (10, 0), (10, 10), (0, 10), (5, 15)] (by decide))
  have HQw20 := Lib.hid (HQw19.out.trans hq)
  have Raw20 := Lib.hid (RdG.q Raw19.out hq)
  have Rbw20 := Lib.hid (RdG.q Rbw19.out hq)
  have Rcw20 := Lib.hid (RdG.q Rcw19.out hq)
  clear hq HQw19 Raw19 Rbw19 Rcw19
  go_wp2_with fail
  clear hw20
  have Rdw20 := Nd
  clear Nd
  refine (Check_c _ [(0, 0), (4, 0), (0, 4)] 0 (Lib.hid e1) _ Raw20.out (by decide)).mono ?_; rintro E w21 ⟨rfl, hq⟩
  have HQw21 := Lib.hid (HQw20.out.trans hq)
  have Raw21 := Lib.hid (RdG.q Raw20.out hq)
  have Rbw21 := Lib.hid (RdG.q Rbw20.out hq)
  have Rcw21 := Lib.hid (RdG.q Rcw20.out hq)
  have Rdw21 := Lib.hid (RdG.q Rdw20.out hq)
  clear hq HQw20 Raw20 Rbw20 Rcw20 Rdw20
  go_wp2_with fail
  refine (Check_c _ [(0, 0), (4, 0)] 3 (Lib.hid e2) _ (rd_take Raw21.out (by decide) rfl) (by decide)).mono ?_; rintro E w22 ⟨rfl, hq⟩
  have HQw22 := Lib.hid (HQw21.out.trans hq)
  have Raw22 := Lib.hid (RdG.q Raw21.out hq)
  have Rbw22 := Lib.hid (RdG.q Rbw21.out hq)
  have Rcw22 := Lib.hid (RdG.q Rcw21.out hq)
  have Rdw22 := Lib.hid (RdG.q Rdw21.out hq)
  clear hq HQw21 Raw21 Rbw21 Rcw21 Rdw21
  go_wp2_with fail
  refine (Area2_c _ [(0, 0), (0, 3), (4, 0)] (-12) (Lib.hid e3) _ Rbw22.out (by decide)).mono ?_; rintro E w23 ⟨rfl, hq⟩
  have HQw23 := Lib.hid (HQw22.out.trans hq)
  have Raw23 := Lib.hid (RdG.q Raw22.out hq)
  have Rbw23 := Lib.hid (RdG.q Rbw22.out hq)
  have Rcw23 := Lib.hid (RdG.q Rcw22.out hq)
  have Rdw23 := Lib.hid (RdG.q Rdw22.out hq)
  clear hq HQw22 Raw22 Rbw22 Rcw22 Rdw22
  go_wp2_with fail
  refine (bounds_w _ [(0, 0), (10, 0), (10, 10), (0, 10), (5, 15)] 0 10 0 15 (Lib.hid e4) _ Rdw23.out (by decide)).mono ?_; rintro E w24 ⟨rfl, hq⟩
  have HQw24 := Lib.hid (HQw23.out.trans hq)
  have Raw24 := Lib.hid (RdG.q Raw23.out hq)
  have Rbw24 := Lib.hid (RdG.q Rbw23.out hq)
  have Rcw24 := Lib.hid (RdG.q Rcw23.out hq)
  have Rdw24 := Lib.hid (RdG.q Rdw23.out hq)
  clear hq HQw23 Raw23 Rbw23 Rcw23 Rdw23
  go_wp2_with fail
  refine (pt_q 3 1 _).mono ?_; rintro E w25 ⟨rfl, hq⟩
  have HQw25 := Lib.hid (HQw24.out.trans hq)
  have Raw25 := Lib.hid (RdG.q Raw24.out hq)
  have Rbw25 := Lib.hid (RdG.q Rbw24.out hq)
  have Rcw25 := Lib.hid (RdG.q Rcw24.out hq)
  have Rdw25 := Lib.hid (RdG.q Rdw24.out hq)
  clear hq HQw24 Raw24 Rbw24 Rcw24 Rdw24
  obtain ⟨w26, hw26⟩ : ∃ W, w25.alloc (.cells #[.int .i64 3, .int .i64 1] 38) = W := ⟨_, rfl⟩
  have hq : Q w25 w26 := by rw [← hw26]; exact (Q.refl _).alloc _
  have Ns := Lib.hid (show RdP w26 (.slice (some ⟨w25.heap.size, 0, none⟩) 1 1) [(3, 1)] by rw [← hw26]; exact pts_new _ [(3, 1)] (by decide))
  have HQw26 := Lib.hid (HQw25.out.trans hq)
  have Raw26 := Lib.hid (RdG.q Raw25.out hq)
  have Rbw26 := Lib.hid (RdG.q Rbw25.out hq)
  have Rcw26 := Lib.hid (RdG.q Rcw25.out hq)
  have Rdw26 := Lib.hid (RdG.q Rdw25.out hq)
  clear hq HQw25 Raw25 Rbw25 Rcw25 Rdw25
  go_wp2_with fail
  clear hw26
  have Rsw26 := Ns
  clear Ns
  refine (Turn_c _ [(3, 1)] (-1) [(1, -3)] (Lib.hid e5) _ Rsw26.out (by decide) (by decide) ft1).mono ?_; rintro E w27 ⟨xt, rfl, hr, hq⟩
  have Nt := Lib.hid hr; clear hr
  have HQw27 := Lib.hid (HQw26.out.trans hq)
  have Raw27 := Lib.hid (RdG.q Raw26.out hq)
  have Rbw27 := Lib.hid (RdG.q Rbw26.out hq)
  have Rcw27 := Lib.hid (RdG.q Rcw26.out hq)
  have Rdw27 := Lib.hid (RdG.q Rdw26.out hq)
  have Rsw27 := Lib.hid (RdG.q Rsw26.out hq)
  clear hq HQw26 Raw26 Rbw26 Rcw26 Rdw26 Rsw26
  have Rtw27 := Nt; clear Nt
  obtain ⟨At, ct, rfl, _⟩ := Rtw27.out
  go_wp2_with fail
  clear Rsw27
  refine (pt_q 1 (-3) _).mono ?_; rintro E w28 ⟨rfl, hq⟩
  have HQw28 := Lib.hid (HQw27.out.trans hq)
  have Raw28 := Lib.hid (RdG.q Raw27.out hq)
  have Rbw28 := Lib.hid (RdG.q Rbw27.out hq)
  have Rcw28 := Lib.hid (RdG.q Rcw27.out hq)
  have Rdw28 := Lib.hid (RdG.q Rdw27.out hq)
  have Rtw28 := Lib.hid (RdG.q Rtw27.out hq)
  clear hq HQw27 Raw27 Rbw27 Rcw27 Rdw27 Rtw27
  obtain ⟨w29, hw29⟩ : ∃ W, w28.alloc (.cells #[.int .i64 1, .int .i64 (-3)] 38) = W := ⟨_, rfl⟩
  have hq : Q w28 w29 := by rw [← hw29]; exact (Q.refl _).alloc _
  have Ns := Lib.hid (show RdP w29 (.slice (some ⟨w28.heap.size, 0, none⟩) 1 1) [(1, -3)] by rw [← hw29]; exact pts_new _ [(1, -3)] (by decide))
  have HQw29 := Lib.hid (HQw28.out.trans hq)
  have Raw29 := Lib.hid (RdG.q Raw28.out hq)
  have Rbw29 := Lib.hid (RdG.q Rbw28.out hq)
  have Rcw29 := Lib.hid (RdG.q Rcw28.out hq)
  have Rdw29 := Lib.hid (RdG.q Rdw28.out hq)
  have Rtw29 := Lib.hid (RdG.q Rtw28.out hq)
  clear hq HQw28 Raw28 Rbw28 Rcw28 Rdw28 Rtw28
  go_wp2_with fail
  clear hw29
  have Rsw29 := Ns
  clear Ns
  refine (Same_c _ _ [(1, -3)] [(1, -3)] true (Lib.hid (by decide)) _ Rtw29.out Rsw29.out (by decide) (by decide)).mono ?_; rintro E w30 ⟨rfl, hq⟩
  have HQw30 := Lib.hid (HQw29.out.trans hq)
  have Raw30 := Lib.hid (RdG.q Raw29.out hq)
  have Rbw30 := Lib.hid (RdG.q Rbw29.out hq)
  have Rcw30 := Lib.hid (RdG.q Rcw29.out hq)
  have Rdw30 := Lib.hid (RdG.q Rdw29.out hq)
  have Rtw30 := Lib.hid (RdG.q Rtw29.out hq)
  have Rsw30 := Lib.hid (RdG.q Rsw29.out hq)
  clear hq HQw29 Raw29 Rbw29 Rcw29 Rdw29 Rtw29 Rsw29
  go_wp2_with fail
  clear Rsw30
  clear Rtw30
  refine (Mirror_c _ [(0, 0), (0, 3), (4, 0)] [(-4, 0), (0, 3), (0, 0)] (Lib.hid e6) _ Rbw30.out (by decide) (Lib.hid ft2)).mono ?_; rintro E w31 ⟨xt, rfl, hr, hq⟩
  have Nt := Lib.hid hr; clear hr
  have HQw31 := Lib.hid (HQw30.out.trans hq)
  have Raw31 := Lib.hid (RdG.q Raw30.out hq)
  have Rbw31 := Lib.hid (RdG.q Rbw30.out hq)
  have Rcw31 := Lib.hid (RdG.q Rcw30.out hq)
  have Rdw31 := Lib.hid (RdG.q Rdw30.out hq)
  clear hq HQw30 Raw30 Rbw30 Rcw30 Rdw30
  have Rtw31 := Nt; clear Nt
  obtain ⟨At, ct, rfl, _⟩ := Rtw31.out
  go_wp2_with fail
  clear Rbw31
  refine (pt_q (-4) 0 _).mono ?_; rintro E w32 ⟨rfl, hq⟩
  have HQw32 := Lib.hid (HQw31.out.trans hq)
  have Raw32 := Lib.hid (RdG.q Raw31.out hq)
  have Rcw32 := Lib.hid (RdG.q Rcw31.out hq)
  have Rdw32 := Lib.hid (RdG.q Rdw31.out hq)
  have Rtw32 := Lib.hid (RdG.q Rtw31.out hq)
  clear hq HQw31 Raw31 Rcw31 Rdw31 Rtw31
  go_wp2_with fail
  refine (pt_q 0 3 _).mono ?_; rintro E w33 ⟨rfl, hq⟩
  have HQw33 := Lib.hid (HQw32.out.trans hq)
  have Raw33 := Lib.hid (RdG.q Raw32.out hq)
  have Rcw33 := Lib.hid (RdG.q Rcw32.out hq)
  have Rdw33 := Lib.hid (RdG.q Rdw32.out hq)
  have Rtw33 := Lib.hid (RdG.q Rtw32.out hq)
  clear hq HQw32 Raw32 Rcw32 Rdw32 Rtw32
  go_wp2_with fail
  refine (pt_q 0 0 _).mono ?_; rintro E w34 ⟨rfl, hq⟩
  have HQw34 := Lib.hid (HQw33.out.trans hq)
  have Raw34 := Lib.hid (RdG.q Raw33.out hq)
  have Rcw34 := Lib.hid (RdG.q Rcw33.out hq)
  have Rdw34 := Lib.hid (RdG.q Rdw33.out hq)
  have Rtw34 := Lib.hid (RdG.q Rtw33.out hq)
  clear hq HQw33 Raw33 Rcw33 Rdw33 Rtw33
  obtain ⟨w35, hw35⟩ : ∃ W, w34.alloc (.cells #[.int .i64 (-4), .int .i64 0, .int .i64 0, .int .i64 3, .int .i64 0, .int .i64 0] 38) = W := ⟨_, rfl⟩
  have hq : Q w34 w35 := by rw [← hw35]; exact (Q.refl _).alloc _
  have Ns := Lib.hid (show RdP w35 (.slice (some ⟨w34.heap.size, 0, none⟩) 3 3) [(-4, 0), (0, 3), (0, 0)] by rw [← hw35]; exact pts_new _ [(-4, 0), (0, 3), (0, 0)] (by decide))
  have HQw35 := Lib.hid (HQw34.out.trans hq)
  have Raw35 := Lib.hid (RdG.q Raw34.out hq)
  have Rcw35 := Lib.hid (RdG.q Rcw34.out hq)
  have Rdw35 := Lib.hid (RdG.q Rdw34.out hq)
  have Rtw35 := Lib.hid (RdG.q Rtw34.out hq)
  clear hq HQw34 Raw34 Rcw34 Rdw34 Rtw34
  go_wp2_with fail
  clear hw35
  have Rsw35 := Ns
  clear Ns
  refine (Same_c _ _ [(-4, 0), (0, 3), (0, 0)] [(-4, 0), (0, 3), (0, 0)] true (Lib.hid (by decide)) _ Rtw35.out Rsw35.out (by decide) (by decide)).mono ?_; rintro E w36 ⟨rfl, hq⟩
  have HQw36 := Lib.hid (HQw35.out.trans hq)
  have Raw36 := Lib.hid (RdG.q Raw35.out hq)
  have Rcw36 := Lib.hid (RdG.q Rcw35.out hq)
  have Rdw36 := Lib.hid (RdG.q Rdw35.out hq)
  have Rtw36 := Lib.hid (RdG.q Rtw35.out hq)
  have Rsw36 := Lib.hid (RdG.q Rsw35.out hq)
  clear hq HQw35 Raw35 Rcw35 Rdw35 Rtw35 Rsw35
  go_wp2_with fail
  clear Rsw36
  clear Rtw36
  refine (pt_q 2 2 _).mono ?_; rintro E w37 ⟨rfl, hq⟩
  have HQw37 := Lib.hid (HQw36.out.trans hq)
  have Raw37 := Lib.hid (RdG.q Raw36.out hq)
  have Rcw37 := Lib.hid (RdG.q Rcw36.out hq)
  have Rdw37 := Lib.hid (RdG.q Rdw36.out hq)
  clear hq HQw36 Raw36 Rcw36 Rdw36
  go_wp2_with fail
  refine (Has_c _ [(0, 0), (4, 0), (0, 4)] (2, 2) true (Lib.hid e7) _ Raw37.out (by decide)).mono ?_; rintro E w38 ⟨rfl, hq⟩
  have HQw38 := Lib.hid (HQw37.out.trans hq)
  have Raw38 := Lib.hid (RdG.q Raw37.out hq)
  have Rcw38 := Lib.hid (RdG.q Rcw37.out hq)
  have Rdw38 := Lib.hid (RdG.q Rdw37.out hq)
  clear hq HQw37 Raw37 Rcw37 Rdw37
  go_wp2_with fail
  refine (pt_q 1 1 _).mono ?_; rintro E w39 ⟨rfl, hq⟩
  have HQw39 := Lib.hid (HQw38.out.trans hq)
  have Raw39 := Lib.hid (RdG.q Raw38.out hq)
  have Rcw39 := Lib.hid (RdG.q Rcw38.out hq)
  have Rdw39 := Lib.hid (RdG.q Rdw38.out hq)
  clear hq HQw38 Raw38 Rcw38 Rdw38
  go_wp2_with fail
  refine (Has_c _ [(0, 0), (4, 0), (0, 4)] (1, 1) true (Lib.hid e8) _ Raw39.out (by decide)).mono ?_; rintro E w40 ⟨rfl, hq⟩
  have HQw40 := Lib.hid (HQw39.out.trans hq)
  have Raw40 := Lib.hid (RdG.q Raw39.out hq)
  have Rcw40 := Lib.hid (RdG.q Rcw39.out hq)
  have Rdw40 := Lib.hid (RdG.q Rdw39.out hq)
  clear hq HQw39 Raw39 Rcw39 Rdw39
  go_wp2_with fail
  refine (pt_q 3 2 _).mono ?_; rintro E w41 ⟨rfl, hq⟩
  have HQw41 := Lib.hid (HQw40.out.trans hq)
  have Raw41 := Lib.hid (RdG.q Raw40.out hq)
  have Rcw41 := Lib.hid (RdG.q Rcw40.out hq)
  have Rdw41 := Lib.hid (RdG.q Rdw40.out hq)
  clear hq HQw40 Raw40 Rcw40 Rdw40
  go_wp2_with fail
  refine (Has_c _ [(0, 0), (4, 0), (0, 4)] (3, 2) false (Lib.hid e9) _ Raw41.out (by decide)).mono ?_; rintro E w42 ⟨rfl, hq⟩
  have HQw42 := Lib.hid (HQw41.out.trans hq)
  have Raw42 := Lib.hid (RdG.q Raw41.out hq)
  have Rcw42 := Lib.hid (RdG.q Rcw41.out hq)
  have Rdw42 := Lib.hid (RdG.q Rdw41.out hq)
  clear hq HQw41 Raw41 Rcw41 Rdw41
  go_wp2_with fail
  clear Raw42
  refine (hull_w _ [(0, 0), (2, 0), (4, 0), (1, 1), (4, 4)] [(0, 0), (4, 0), (4, 4)] (Lib.hid e10) _ Rcw42.out (by decide)).mono ?_; rintro E w43 ⟨xt, rfl, hr, hq⟩
  have Nt := Lib.hid hr; clear hr
  have HQw43 := Lib.hid (HQw42.out.trans hq)
  have Rcw43 := Lib.hid (RdG.q Rcw42.out hq)
  have Rdw43 := Lib.hid (RdG.q Rdw42.out hq)
  clear hq HQw42 Rcw42 Rdw42
  have Rtw43 := Nt; clear Nt
  obtain ⟨At, ct, rfl, _⟩ := Rtw43.out
  go_wp2_with fail
  clear Rcw43
  refine (pt_q 0 0 _).mono ?_; rintro E w44 ⟨rfl, hq⟩
  have HQw44 := Lib.hid (HQw43.out.trans hq)
  have Rdw44 := Lib.hid (RdG.q Rdw43.out hq)
  have Rtw44 := Lib.hid (RdG.q Rtw43.out hq)
  clear hq HQw43 Rdw43 Rtw43
  go_wp2_with fail
  refine (pt_q 4 0 _).mono ?_; rintro E w45 ⟨rfl, hq⟩
  have HQw45 := Lib.hid (HQw44.out.trans hq)
  have Rdw45 := Lib.hid (RdG.q Rdw44.out hq)
  have Rtw45 := Lib.hid (RdG.q Rtw44.out hq)
  clear hq HQw44 Rdw44 Rtw44
  go_wp2_with fail
  refine (pt_q 4 4 _).mono ?_; rintro E w46 ⟨rfl, hq⟩
  have HQw46 := Lib.hid (HQw45.out.trans hq)
  have Rdw46 := Lib.hid (RdG.q Rdw45.out hq)
  have Rtw46 := Lib.hid (RdG.q Rtw45.out hq)
  clear hq HQw45 Rdw45 Rtw45
  obtain ⟨w47, hw47⟩ : ∃ W, w46.alloc (.cells #[.int .i64 0, .int .i64 0, .int .i64 4, .int .i64 0, .int .i64 4, .int .i64 4] 38) = W := ⟨_, rfl⟩
  have hq : Q w46 w47 := by rw [← hw47]; exact (Q.refl _).alloc _
  have Ns := Lib.hid (show RdP w47 (.slice (some ⟨w46.heap.size, 0, none⟩) 3 3) [(0, 0), (4, 0), (4, 4)] by rw [← hw47]; exact pts_new _ [(0, 0), (4, 0), (4, 4)] (by decide))
  have HQw47 := Lib.hid (HQw46.out.trans hq)
  have Rdw47 := Lib.hid (RdG.q Rdw46.out hq)
  have Rtw47 := Lib.hid (RdG.q Rtw46.out hq)
  clear hq HQw46 Rdw46 Rtw46
  go_wp2_with fail
  clear hw47
  have Rsw47 := Ns
  clear Ns
  refine (Same_c _ _ [(0, 0), (4, 0), (4, 4)] [(0, 0), (4, 0), (4, 4)] true (Lib.hid (by decide)) _ Rtw47.out Rsw47.out (by decide) (by decide)).mono ?_; rintro E w48 ⟨rfl, hq⟩
  have HQw48 := Lib.hid (HQw47.out.trans hq)
  have Rdw48 := Lib.hid (RdG.q Rdw47.out hq)
  have Rtw48 := Lib.hid (RdG.q Rtw47.out hq)
  have Rsw48 := Lib.hid (RdG.q Rsw47.out hq)
  clear hq HQw47 Rdw47 Rtw47 Rsw47
  go_wp2_with fail
  clear Rsw48
  clear Rtw48
  refine (Chord_c _ [(0, 0), (10, 0), (10, 10), (0, 10), (5, 15)] 5 12 (2, 8) (Lib.hid e11) (by decide) (by decide) _ Rdw48.out (by decide)).mono ?_; rintro E w49 ⟨rfl, hq⟩
  have HQw49 := Lib.hid (HQw48.out.trans hq)
  have Rdw49 := Lib.hid (RdG.q Rdw48.out hq)
  clear hq HQw48 Rdw48
  go_wp2_with fail
  go_ret
  exact ⟨rfl, HQw49.out⟩
end Go.Proofs.Ytkkghejbdakmpaa
