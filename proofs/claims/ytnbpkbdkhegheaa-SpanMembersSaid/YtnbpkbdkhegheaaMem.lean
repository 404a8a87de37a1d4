/- Slices of spans in memory, and the contracts of the functions of one span or two. -/
import Derived.Test.YtnbpkbdkhegheaaMath
import Derived.Test.YtnbpkbdkhegheaaRows
import Derived.Test.YtnbpkbdkhegheaaShelf
import Derived.WalkSpells
import Derived.WalkLawsBesides
import Derived.Lib.Hide
import Derived.IntWalk
import Derived.Outline
import Derived.OwnWalk
import Derived.LoopTactic
import Derived.Laws.AppendOwn
import Derived.Laws.OwnMore
import Derived.Laws.NewBlocks
import Derived.Deep.QuietTactic
import Derived.BigQuiet
import Derived.Handy
import Derived.Deep.RegionWith
import Derived.Deep.DeepCutAuto
set_option linter.unusedVariables false
set_option linter.unusedSimpArgs false
namespace Go.Proofs.Ytnbpkbdkhegheaa
open Go.ChangeShapes Go.WideShapes Go.ChangeAt Go.RowKit Sm

theorem ret_bool {a b : Bool} (h : a = b) : Ending.returned (.bool a) = .returned (.bool b) := by rw [h]
theorem ret_int {k : IntKind} {a b : Int} (h : a = b) : Ending.returned (.int k a) = .returned (.int k b) := by rw [h]
/-- what stood in memory stands as it was -/
def Q (w w' : World) : Prop := Below w.heap.size w w'
theorem Q.refl (w : World) : Q w w := Below.refl _ _
theorem Q.trans {a b c : World} (h : Q a b) (k : Q b c) : Q a c := Below.trans h (Below.mono k h.size)
theorem Q.drew {a b : World} (h : Q a b) : Q a b.drew := Below.drew h
theorem Q.drewN {a b : World} (h : Q a b) (n : Nat) : Q a (b.drewN n) := ⟨h.os, h.tape, h.output, h.size, h.block⟩
theorem Q.alloc {a b : World} (h : Q a b) (o : Obj) : Q a (b.alloc o) := Below.alloc h h.size o
theorem Q.of {a b : World} (h : Below a.heap.size a b) : Q a b := h
/-- an int of 64 bits -/
def Fit (n : Int) : Prop := -9223372036854775808 ≤ n ∧ n ≤ 9223372036854775807
def FitS (s : S) : Prop := Fit s.1 ∧ Fit s.2
def FitL (l : List S) : Prop := ∀ s ∈ l, FitS s
def sv (s : S) : Value := .agg #[.int .i64 s.1, .int .i64 s.2]
def lenS (s : S) : Int := if s.2 ≤ s.1 then 0 else min (s.2 - s.1) 9223372036854775807
def meetS (s t : S) : S := if min s.2 t.2 ≤ max s.1 t.1 then (0, 0) else (max s.1 t.1, min s.2 t.2)
theorem wrap_u64 (n : Int) : IntKind.u64.wrap n = n % 18446744073709551616 := by simp [IntKind.wrap, IntKind.bits, IntKind.signed]
theorem wrap_i64 (n : Int) (h : Fit n) : IntKind.i64.wrap n = n := IntWalk.i64_in _ (by obtain ⟨a, b⟩ := h; omega)

theorem isEmpty_c (a b : Int) (w : World) : Calls Try.prog 35 #[.agg #[.int .i64 a, .int .i64 b]] w fun e w' => e = .returned (.bool (decide (b ≤ a))) ∧ Q w w' := by
  go_enter Try.func35, Try.ntmps35
  go_wp2
  go_ret
  exact ⟨rfl, (Q.refl w).alloc _⟩
theorem isEmpty_w (a b : Int) (x : Bool) (h : Hid (decide (b ≤ a) = x)) (w : World) : Calls Try.prog 35 #[.agg #[.int .i64 a, .int .i64 b]] w fun e w' => e = .returned (.bool x) ∧ w.alloc (.cells #[.int .i64 a, .int .i64 b] 23) = w' := by
  go_enter Try.func35, Try.ntmps35
  go_wp2
  go_ret
  exact ⟨ret_bool h.out, rfl⟩
theorem isEmpty_is (a b : Int) (x : Bool) (h : Hid (decide (b ≤ a) = x)) (w : World) : Calls Try.prog 35 #[.agg #[.int .i64 a, .int .i64 b]] w fun e w' => e = .returned (.bool x) ∧ Q w w' :=
  (isEmpty_c a b w).mono fun _ _ ⟨h1, h2⟩ => ⟨by rw [h1, h.out], h2⟩
set_option maxHeartbeats 800000 in
theorem Len_c (a b : Int) (w : World) (hf : FitS (a, b)) : Calls Try.prog 11 #[.agg #[.int .i64 a, .int .i64 b]] w fun e w' => e = .returned (.int .i64 (lenS (a, b))) ∧ Q w w' := by
  have HF := Lib.hid hf; clear hf
  cases he : decide (b ≤ a) with
  | true =>
    have HE := Lib.hid he
    have HL := Lib.hid (show lenS (a, b) = 0 by unfold lenS; rw [if_pos (of_decide_eq_true he)])
    clear he
    go_enter Try.func11, Try.ntmps11
    go_wp2_with fail
    refine (isEmpty_is a b true HE _).mono ?_; rintro e w1 ⟨rfl, hq1⟩
    go_wp2_with fail
    go_ret
    exact ⟨ret_int HL.out.symm, ((Q.refl w).alloc _).trans hq1⟩
  | false =>
    have HE := Lib.hid he
    have hn := of_decide_eq_false he
    obtain ⟨d, hd⟩ : ∃ d : Nat, b - a = d := ⟨(b - a).toNat, by omega⟩
    have hw : IntKind.u64.wrap (IntKind.u64.wrap b - IntKind.u64.wrap a) = (d : Int) := by
      obtain ⟨⟨h1, h2⟩, h3, h4⟩ := HF.out
      simp only at h1 h2 h3 h4
      rw [wrap_u64, wrap_u64, wrap_u64]; omega
    clear he hn
    go_enter Try.func11, Try.ntmps11
    go_wp2_with fail
    refine (isEmpty_is a b false HE _).mono ?_; rintro e w1 ⟨rfl, hq1⟩
    have hz : (w.heap.push (Obj.cells #[.int .i64 a, .int .i64 b] 23)).size ≤ w1.heap.size := hq1.size
    have hc0 : w1.cell? ⟨w.heap.size, 0, none⟩ = some (.int .i64 a) := (hq1.cell (p := ⟨w.heap.size, 0, none⟩) (by show w.heap.size < (w.heap.push _).size; simp)).trans (World.cell?_alloc_at _ _ _ _ rfl)
    have hc1 : w1.cell? ⟨w.heap.size, 1, none⟩ = some (.int .i64 b) := (hq1.cell (p := ⟨w.heap.size, 1, none⟩) (by show w.heap.size < (w.heap.push _).size; simp)).trans (World.cell?_alloc_at _ _ _ _ rfl)
    have HL := Lib.hid (show lenS (a, b) = min (d : Int) 9223372036854775807 by unfold lenS; rw [if_neg (of_decide_eq_false HE.out), ← hd])
    clear hz hd
    go_wp2_with fail
    go_ret
    exact ⟨ret_int HL.out.symm, ((Q.refl w).alloc _).trans hq1⟩
set_option maxHeartbeats 800000 in
theorem rLen_c (a b : Int) (w : World) (hf : FitS (a, b)) : Calls Try.prog 12 #[.agg #[.int .i64 a, .int .i64 b]] w fun e w' => e = .returned (.int .i64 (lenS (a, b))) ∧ Q w w' := by
  have HF := Lib.hid hf; clear hf
  by_cases he : b ≤ a
  · have HL := Lib.hid (show lenS (a, b) = 0 by unfold lenS; rw [if_pos he])
    go_enter Try.func12, Try.ntmps12
    go_wp2_with fail
    go_ret
    exact ⟨ret_int HL.out.symm, (Q.refl w).alloc _⟩
  · by_cases ha : a < 0
    · obtain ⟨c, hc⟩ : ∃ c, 9223372036854775807 + a = c := ⟨_, rfl⟩
      have hw : IntKind.i64.wrap (9223372036854775807 + a) = c := by
        rw [hc]; apply wrap_i64
        obtain ⟨⟨h1, h2⟩, h3, h4⟩ := HF.out
        unfold Fit; simp only at h1 h2 h3 h4; omega
      by_cases hb : c < b
      · have HL := Lib.hid (show lenS (a, b) = 9223372036854775807 by unfold lenS; rw [if_neg he]; show min (b - a) _ = _; omega)
        clear hc
        go_enter Try.func12, Try.ntmps12
        go_wp2_with fail
        go_ret
        exact ⟨ret_int HL.out.symm, (Q.refl w).alloc _⟩
      · obtain ⟨d, hd⟩ : ∃ d, b - a = d := ⟨_, rfl⟩
        have hw2 : IntKind.i64.wrap (b - a) = d := by
          rw [hd]; apply wrap_i64
          obtain ⟨⟨h1, h2⟩, h3, h4⟩ := HF.out
          unfold Fit; simp only at h1 h2 h3 h4; omega
        have HL := Lib.hid (show lenS (a, b) = d by unfold lenS; rw [if_neg he]; show min (b - a) _ = _; omega)
        clear hc hd
        go_enter Try.func12, Try.ntmps12
        go_wp2_with fail
        go_ret
        exact ⟨ret_int HL.out.symm, (Q.refl w).alloc _⟩
    · obtain ⟨d, hd⟩ : ∃ d, b - a = d := ⟨_, rfl⟩
      have hw2 : IntKind.i64.wrap (b - a) = d := by
        rw [hd]; apply wrap_i64
        obtain ⟨⟨h1, h2⟩, h3, h4⟩ := HF.out
        unfold Fit; simp only at h1 h2 h3 h4; omega
      have HL := Lib.hid (show lenS (a, b) = d by
        unfold lenS; rw [if_neg he]; show min (b - a) _ = _
        obtain ⟨⟨h1, h2⟩, h3, h4⟩ := HF.out
        simp only at h1 h2 h3 h4; omega)
      clear hd
      go_enter Try.func12, Try.ntmps12
      go_wp2_with fail
      go_ret
      exact ⟨ret_int HL.out.symm, (Q.refl w).alloc _⟩
theorem Q.setA {a b : World} (h : Q a b) {g i : Nat} (hg : a.heap.size ≤ g) (u : Value) : Q a (b.setCell ⟨g, i, none⟩ u) := Below.setCell h hg u
set_option maxHeartbeats 1600000 in
theorem Meet_c (s t : S) (w : World) : Calls Try.prog 13 #[sv s, sv t] w fun e w' => e = .returned (sv (meetS s t)) ∧ Q w w' := by
  obtain ⟨a, b⟩ := s
  obtain ⟨c, d⟩ := t
  unfold sv
  obtain ⟨x, hx⟩ : ∃ x, max a c = x := ⟨_, rfl⟩
  obtain ⟨y, hy⟩ : ∃ y, min b d = y := ⟨_, rfl⟩
  have HM := Lib.hid (show meetS (a, b) (c, d) = if y ≤ x then (0, 0) else (x, y) by unfold meetS; rw [← hx, ← hy])
  cases he : decide (y ≤ x) with
  | true =>
    have HE := Lib.hid he; clear he
    have HV := Lib.hid (show meetS (a, b) (c, d) = (0, 0) by rw [HM.out, if_pos (of_decide_eq_true HE.out)])
    go_enter Try.func13, Try.ntmps13
    go_wp2_with fail
    refine (isEmpty_w x y true HE _).mono ?_; rintro e w1 ⟨rfl, rfl⟩
    go_wp2_with fail
    refine bodyPost_ret (v := .agg #[.int .i64 0, .int .i64 0]) (by simp [results, Try.results13, go_sem]) rfl ⟨by rw [HV.out], ?_⟩
    repeat (first | exact Q.refl _ | refine Q.alloc ?_ _ | refine Q.setA ?_ (by simp; try omega) _)
  | false =>
    have HE := Lib.hid he; clear he
    have HV := Lib.hid (show meetS (a, b) (c, d) = (x, y) by rw [HM.out, if_neg (of_decide_eq_false HE.out)])
    go_enter Try.func13, Try.ntmps13
    go_wp2_with fail
    refine (isEmpty_w x y false HE _).mono ?_; rintro e w1 ⟨rfl, rfl⟩
    go_wp2_with fail
    refine bodyPost_ret (v := .agg #[.int .i64 x, .int .i64 y]) (by simp [results, Try.results13, go_sem]) rfl ⟨by rw [HV.out], ?_⟩
    repeat (first | exact Q.refl _ | refine Q.alloc ?_ _ | refine Q.setA ?_ (by simp; try omega) _)
set_option maxHeartbeats 1600000 in
theorem rMeet_c (s t : S) (w : World) : Calls Try.prog 14 #[sv s, sv t] w fun e w' => e = .returned (sv (meetS s t)) ∧ Q w w' := by
  obtain ⟨a, b⟩ := s
  obtain ⟨c, d⟩ := t
  unfold sv
  obtain ⟨x, hx⟩ : ∃ x, max a c = x := ⟨_, rfl⟩
  obtain ⟨y, hy⟩ : ∃ y, min b d = y := ⟨_, rfl⟩
  have HM := Lib.hid (show meetS (a, b) (c, d) = if y ≤ x then (0, 0) else (x, y) by unfold meetS; rw [← hx, ← hy])
  by_cases he : y ≤ x
  · have HV := Lib.hid (show meetS (a, b) (c, d) = (0, 0) by rw [HM.out, if_pos he])
    go_enter Try.func14, Try.ntmps14
    go_wp2_with fail
    refine bodyPost_ret (v := .agg #[.int .i64 0, .int .i64 0]) (by simp [results, Try.results14, go_sem]) rfl ⟨by rw [HV.out], ?_⟩
    repeat (first | exact Q.refl _ | refine Q.alloc ?_ _ | refine Q.setA ?_ (by simp; try omega) _)
  · have HV := Lib.hid (show meetS (a, b) (c, d) = (x, y) by rw [HM.out, if_neg he])
    go_enter Try.func14, Try.ntmps14
    go_wp2_with fail
    refine bodyPost_ret (v := .agg #[.int .i64 x, .int .i64 y]) (by simp [results, Try.results14, go_sem]) rfl ⟨by rw [HV.out], ?_⟩
    repeat (first | exact Q.refl _ | refine Q.alloc ?_ _ | refine Q.setA ?_ (by simp; try omega) _)

/-! slices of spans -/
def sp (s : S) : List Value := [.int .i64 s.1, .int .i64 s.2]
def cellsL (l : List S) : List Value := l.flatMap sp
/-- a slice that reads as a list of spans -/
def Rd (w : World) (v : Value) (l : List S) : Prop := ∃ A c, v = .slice A l.length c ∧ l.length ≤ c ∧ (0 < l.length → ∃ b off, A = some ⟨b, off, none⟩ ∧ b < w.heap.size ∧ ∀ i s, l[i]? = some s → w.cell? ⟨b, off + i * 2, none⟩ = some (.int .i64 s.1) ∧ w.cell? ⟨b, off + i * 2 + 1, none⟩ = some (.int .i64 s.2))
theorem Rd.nil (w : World) : Rd w (.slice none 0 0) [] := ⟨none, 0, rfl, Nat.le_refl _, fun h => absurd h (by decide)⟩
theorem Rd.q {w w' : World} {v : Value} {l : List S} (h : Rd w v l) (hq : Q w w') : Rd w' v l := by
  obtain ⟨A, c, h1, h2, h3⟩ := h
  refine ⟨A, c, h1, h2, fun h0 => ?_⟩
  obtain ⟨b, off, e, hb, hc⟩ := h3 h0
  refine ⟨b, off, e, Nat.lt_of_lt_of_le hb hq.size, fun i s hs => ?_⟩
  obtain ⟨c1, c2⟩ := hc i s hs
  exact ⟨(hq.cell (p := ⟨b, off + i * 2, none⟩) hb).trans c1, (hq.cell (p := ⟨b, off + i * 2 + 1, none⟩) hb).trans c2⟩
theorem Rd.cons {w : World} {v : Value} {l : List S} (h : Rd w v l) {i : Nat} (hi : i < l.length) : ∃ b off c, v = .slice (some ⟨b, off, none⟩) l.length c ∧ l.length ≤ c ∧ b < w.heap.size ∧ w.cell? ⟨b, off + i * 2, none⟩ = some (.int .i64 l[i].1) ∧ w.cell? ⟨b, off + i * 2 + 1, none⟩ = some (.int .i64 l[i].2) := by
  obtain ⟨A, c, h1, h2, h3⟩ := h
  obtain ⟨b, off, rfl, hb, hc⟩ := h3 (by omega)
  obtain ⟨c1, c2⟩ := hc i l[i] (List.getElem?_eq_getElem hi)
  exact ⟨b, off, c, h1, h2, hb, c1, c2⟩
/-- the slice without its first span -/
theorem Rd.tail {w : World} {b off c : Nat} {s : S} {l : List S} {n : Nat} (h : Rd w (.slice (some ⟨b, off, none⟩) n c) (s :: l)) : Rd w (.slice (if c = 1 then some ⟨b, off, none⟩ else some ⟨b, off + 2, none⟩) l.length (c - 1)) l := by
  obtain ⟨A, c', h1, h2, h3⟩ := h
  injection h1 with e1 e2 e3
  subst e1 e3
  obtain ⟨b', off', e, hb, hc⟩ := h3 (by simp)
  injection e with e; injection e with e4 e5
  subst e4 e5
  rw [List.length_cons] at h2
  refine ⟨_, _, rfl, by omega, fun h0 => ?_⟩
  rw [if_neg (by omega)]
  refine ⟨b, off + 2, rfl, hb, fun i t ht => ?_⟩
  have := hc (i + 1) t (by simpa using ht)
  rw [show off + (i + 1) * 2 = off + 2 + i * 2 by omega] at this
  exact this
/-- a row of spans of the call's own -/
def Own (B : Nat) (v : Value) (l : List S) (w : World) : Prop := w.ownsRow B 23 2 v l.length (cellsL l)
theorem infoS : (Try.prog.info? 23).map (fun i => (i.zero, i.size, i.bytes)) = some (some (.agg #[.int .i64 0, .int .i64 0]), 2, 16) := by kernel_rfl
theorem own_nil (B : Nat) (w : World) : Own B (.slice none 0 0) [] w := World.ownsRow_nil _ _ _ _
theorem cellsL_at : ∀ (l : List S) (i : Nat) (s : S), l[i]? = some s → (cellsL l)[i * 2]? = some (.int .i64 s.1) ∧ (cellsL l)[i * 2 + 1]? = some (.int .i64 s.2)
  | [], i, s, h => by simp at h
  | t :: l, 0, s, h => by simp at h; subst h; exact ⟨rfl, rfl⟩
  | t :: l, i + 1, s, h => by
    have := cellsL_at l i s (by simpa using h)
    show (sp t ++ cellsL l)[(i + 1) * 2]? = _ ∧ (sp t ++ cellsL l)[(i + 1) * 2 + 1]? = _
    rw [List.getElem?_append_right (by show 2 ≤ _; omega), List.getElem?_append_right (by show 2 ≤ _; omega), show (i + 1) * 2 - (sp t).length = i * 2 by show (i + 1) * 2 - 2 = _; omega, show (i + 1) * 2 + 1 - (sp t).length = i * 2 + 1 by show (i + 1) * 2 + 1 - 2 = _; omega]
    exact this
theorem cellsL_len : ∀ l : List S, (cellsL l).length = l.length * 2
  | [] => rfl
  | t :: l => by show (sp t ++ cellsL l).length = _; rw [List.length_append, cellsL_len l, List.length_cons]; show 2 + _ = _; omega
theorem cellsL_app (a b : List S) : cellsL (a ++ b) = cellsL a ++ cellsL b := by unfold cellsL; rw [List.flatMap_append]
theorem cellsL_one (l : List S) : ∀ u ∈ cellsL l, u.oneCell' = true := by
  intro u hu
  unfold cellsL at hu
  obtain ⟨s, _, hs⟩ := List.mem_flatMap.1 hu
  simp [sp] at hs
  rcases hs with rfl | rfl <;> rfl
theorem Own.form {B : Nat} {v : Value} {l : List S} {w : World} (h : Own B v l w) (h0 : 0 < l.length) : ∃ g cap, v = .slice (some ⟨g, 0, none⟩) l.length cap ∧ l.length ≤ cap ∧ B ≤ g ∧ g < w.heap.size := by
  obtain ⟨_, ⟨_, h3⟩ | ⟨g, cap, cur, rfl, hb, hg, hn, _⟩⟩ := h
  · omega
  · refine ⟨g, cap, rfl, hn, hb, ?_⟩
    rcases Nat.lt_or_ge g w.heap.size with k | k
    · exact k
    · rw [Array.getElem?_eq_none k] at hg; cases hg
theorem Own.rd {B : Nat} {v : Value} {l : List S} {w : World} (h : Own B v l w) : Rd w v l := by
  by_cases h0 : 0 < l.length
  · obtain ⟨g, cap, rfl, hn, hb, hg⟩ := h.form h0
    refine ⟨_, _, rfl, hn, fun _ => ⟨g, 0, rfl, hg, fun i s hs => ?_⟩⟩
    have hi : i < l.length := by
      rcases Nat.lt_or_ge i l.length with k | k
      · exact k
      · rw [List.getElem?_eq_none k] at hs; cases hs
    obtain ⟨c1, c2⟩ := cellsL_at l i s hs
    rw [Nat.zero_add]
    exact ⟨(h.cellAt (i * 2) (by omega)).trans c1, (h.cellAt (i * 2 + 1) (by omega)).trans c2⟩
  · have hl : l = [] := List.eq_nil_of_length_eq_zero (by omega)
    subst hl
    obtain ⟨_, ⟨rfl, _⟩ | ⟨g, cap, cur, rfl, _, _, hn, _⟩⟩ := h
    · exact Rd.nil w
    · exact ⟨_, cap, rfl, hn, fun h => absurd h (by simp)⟩
theorem Own.frozen {B : Nat} {g cap n : Nat} {l : List S} {w : World} (h : Own B (.slice (some ⟨g, 0, none⟩) n cap) l w) (hn : n = l.length) (j : Nat) : w.frozen? ⟨g, j, none⟩ = false := by
  subst hn; exact h.frozenAt j
end Go.Proofs.Ytnbpkbdkhegheaa
