/- Rows of points of the call's own; the contract of the reference's Row. -/
import Derived.Test.YtlkgbfiaeedpfaaRGrid
import Derived.Test.YtlkgbfiaeedpfaaRAt
import Derived.Test.YtlkgbfiaeedpfaaValue
import Derived.Deep.RegionLaw
import Derived.Deep.AppendLies
set_option linter.unusedVariables false
set_option linter.unusedSimpArgs false
namespace Go.Proofs.Ytlkgbfiaeedpfaa
open Go.ChangeShapes Go.WideShapes Go.ChangeAt Go.RowKit Cm

def cellsL (l : List P) : List Value := l.flatMap pc
/-- a row of points of the call's own -/
def Own (B : Nat) (v : Value) (l : List P) (w : World) : Prop := w.ownsRow B 40 2 v l.length (cellsL l)
theorem infoP : (Try.prog.info? 40).map (fun i => (i.zero, i.size, i.bytes)) = some (some (.agg #[.int .i64 0, .int .i64 0]), 2, 16) := by kernel_rfl
theorem own_nil (B : Nat) (w : World) : Own B (.slice none 0 0) [] w := World.ownsRow_nil _ _ _ _
theorem cellsL_at : ∀ (l : List P) (i : Nat) (s : P), l[i]? = some s → (cellsL l)[i * 2]? = some (.int .i64 s.1) ∧ (cellsL l)[i * 2 + 1]? = some (.int .i64 s.2)
  | [], i, s, h => by simp at h
  | t :: l, 0, s, h => by simp at h; subst h; exact ⟨rfl, rfl⟩
  | t :: l, i + 1, s, h => by
    have := cellsL_at l i s (by simpa using h)
    show (pc t ++ cellsL l)[(i + 1) * 2]? = _ ∧ (pc t ++ cellsL l)[(i + 1) * 2 + 1]? = _
    rw [List.getElem?_append_right (by show 2 ≤ _; omega), List.getElem?_append_right (by show 2 ≤ _; omega), show (i + 1) * 2 - (pc t).length = i * 2 by show (i + 1) * 2 - 2 = _; omega, show (i + 1) * 2 + 1 - (pc t).length = i * 2 + 1 by show (i + 1) * 2 + 1 - 2 = _; omega]
    exact this
theorem cellsL_len : ∀ l : List P, (cellsL l).length = l.length * 2
  | [] => rfl
  | t :: l => by show (pc t ++ cellsL l).length = _; rw [List.length_append, cellsL_len l, List.length_cons]; show 2 + _ = _; omega
theorem cellsL_app (a b : List P) : cellsL (a ++ b) = cellsL a ++ cellsL b := by unfold cellsL; rw [List.flatMap_append]
theorem Own.form {B : Nat} {v : Value} {l : List P} {w : World} (h : Own B v l w) (h0 : 0 < l.length) : ∃ g cap, v = .slice (some ⟨g, 0, none⟩) l.length cap ∧ l.length ≤ cap ∧ B ≤ g ∧ g < w.heap.size := by
  obtain ⟨_, ⟨_, h3⟩ | ⟨g, cap, cur, rfl, hb, hg, hn, _⟩⟩ := h
  · omega
  · refine ⟨g, cap, rfl, hn, hb, ?_⟩
    rcases Nat.lt_or_ge g w.heap.size with k | k
    · exact k
    · rw [Array.getElem?_eq_none k] at hg; cases hg
theorem Own.rd {B : Nat} {v : Value} {l : List P} {w : World} (h : Own B v l w) : RdP w v l := by
  by_cases h0 : 0 < l.length
  · obtain ⟨g, cap, rfl, hn, hb, hg⟩ := h.form h0
    refine ⟨_, _, rfl, hn, fun _ => ⟨g, 0, rfl, hg, fun i s hs j u hu => ?_⟩⟩
    have hi : i < l.length := by
      rcases Nat.lt_or_ge i l.length with k | k
      · exact k
      · rw [List.getElem?_eq_none k] at hs; cases hs
    obtain ⟨c1, c2⟩ := cellsL_at l i s hs
    rw [Nat.zero_add]
    match j, hu with
    | 0, hu => have e : Value.int .i64 s.1 = u := Option.some.inj hu; rw [← e]; exact (h.cellAt (i * 2) (by omega)).trans c1
    | 1, hu => have e : Value.int .i64 s.2 = u := Option.some.inj hu; rw [← e]; exact (h.cellAt (i * 2 + 1) (by omega)).trans c2
  · have hl : l = [] := List.eq_nil_of_length_eq_zero (by omega)
    subst hl
    obtain ⟨_, ⟨rfl, _⟩ | ⟨g, cap, cur, rfl, _, _, hn, _⟩⟩ := h
    · exact RdG.nil _ _ w
    · exact ⟨_, cap, rfl, hn, fun h => absurd h (by simp)⟩
theorem Own.alloc {B : Nat} {v : Value} {l : List P} {w : World} (h : Own B v l w) (o : Obj) : Own B v l (w.alloc o) := World.ownsRow.alloc h o
theorem Own.drewN {B : Nat} {v : Value} {l : List P} {w : World} (h : Own B v l w) (n : Nat) : Own B v l (w.drewN n) := h
theorem pair_at (w : World) (a b : Value) (t : TypeId) : ∀ j u, ([a, b] : List Value)[j]? = some u → (w.alloc (.cells #[a, b] t)).cell? ((⟨w.heap.size, 0, none⟩ : Addr).add j) = some u := by
  intro j u hj
  match j, hj with
  | 0, hj => simp at hj; subst hj; simp [Addr.add]
  | 1, hj => simp at hj; subst hj; simp [Addr.add]
theorem pair_cell (a b : Int) : ∀ u ∈ ([.int .i64 a, .int .i64 b] : List Value), u.oneCell' = true := by
  intro u hu; simp at hu; rcases hu with rfl | rfl <;> rfl
theorem alloc_le {B : Nat} {w : World} (h : B ≤ w.heap.size) (o : Obj) : B ≤ (w.alloc o).heap.size := by simp; omega
def Room (n : Nat) : Prop := n + 1 ≤ maxLen ∧ (n + 1) * 16 ≤ 140737488355328
theorem room_of {n : Nat} (h : n ≤ 1000000) : Room n := by unfold Room maxLen; omega
theorem own_next {B : Nat} {w0 w w1 : World} {v v' : Value} {l : List P} {s : P} {o : Obj} (h : Own B v l w) (hb : Below B w0 w) (hB : B ≤ w.heap.size)
    (h' : w1.ownsRow B 40 2 v' (l.length + 1) (cellsL l ++ [.int .i64 s.1, .int .i64 s.2])) (hg : (w.alloc o).grownBy w1 v.ownBlock) : Own B v' (l ++ [s]) w1 ∧ Below B w0 w1 :=
  ⟨by unfold Own; rw [List.length_append, cellsL_app]; exact h', (hb.alloc hB o).grown hg (by simp; omega) (fun j hj => (h.lt j hj).1)⟩
set_option maxRecDepth 100000 in
set_option maxHeartbeats 1600000 in
theorem rRow_c (v1 v2 v3 : Value) (xs ys : List Int) (vs : List (List Int)) (i : Nat) (w : World) (h1 : RdI w v1 xs) (h2 : RdI w v2 ys) (h3 : RdV w v3 vs) (hl : Hid (GrL xs ys vs)) (hi : i < vs.length) (hrow : (R vs i).length = ys.length) :
    Calls Try.prog 35 #[.agg #[v1, v2, v3], .int .i64 i] w fun e w' => ∃ v', e = .returned v' ∧ RdP w' v' (zipC (N ys) (N (R vs i)) ys.length) ∧ Q w w' := by
  obtain ⟨i0, hif, hz0, hz1, hz2⟩ := info_parts infoP
  have R1 := Lib.hid h1
  have R2 := Lib.hid h2
  have R3 := Lib.hid h3
  obtain ⟨A1, c1, rfl, hc1, _⟩ := h1
  obtain ⟨A2, c2, rfl, hc2, _⟩ := h2
  obtain ⟨A3, c3, rfl, hc3⟩ := h3.len
  obtain ⟨n, hn⟩ : ∃ n, xs.length = n := ⟨_, rfl⟩
  obtain ⟨m, hm⟩ : ∃ n, ys.length = n := ⟨_, rfl⟩
  obtain ⟨k, hk⟩ : ∃ n, vs.length = n := ⟨_, rfl⟩
  have HN := Lib.hid hn
  have HM := Lib.hid hm
  have HK := Lib.hid hk
  rw [hn] at R1 hc1
  rw [hm] at R2 hc2 hrow
  rw [hk] at R3 hc3
  rw [hn, hm, hk]
  have lm : m ≤ 1000000 := by rw [← hm]; exact hl.out.ly
  have lk : k ≤ 1000000 := by rw [← hk]; exact hl.out.lv
  clear h3
  obtain ⟨W0, hW0⟩ : ∃ W, w.alloc (.cells #[.slice A1 n c1, .slice A2 m c2, .slice A3 k c3] 34) = W := ⟨_, rfl⟩
  have hQ0 : Q w W0 := by rw [← hW0]; exact (Q.refl w).alloc _
  have HQ0 := Lib.hid hQ0
  have B0 := Lib.hid (show box3 W0 w.heap.size (.slice A1 n c1) (.slice A2 m c2) (.slice A3 k c3) by rw [← hW0]; exact box3_new w (.slice A1 n c1) (.slice A2 m c2) (.slice A3 k c3) 34)
  obtain ⟨rb, ro, Ar, cr, rfl, hrb, hcc, cj, hlc, hri⟩ := R3.out.at (Q.refl w) hi
  rw [hrow] at cj hlc hri
  have CJ := Lib.hid cj
  have HRB := Lib.hid hrb
  have HRI := Lib.hid hri
  have hik : (i : Int) < (k : Int) := by omega
  have HHR := Lib.hid hrow
  clear hQ0 hn hm hk hc1 hc2 hi hrow cj hrb hri hlc
  go_enter Try.func35, Try.ntmps35
  go_wp2_with fail
  clear hW0
  go_loopw [5, 6] (fun u5 u6 wr => ∃ t : Nat, t ≤ m ∧ u6 = .int .i64 t ∧ Hid (Own W0.heap.size u5 (zipC (N ys) (N (R vs i)) t) wr ∧ Q W0 wr)) (fun _ u6 _ => m - (intOf u6).toNat)
  case atStart => exact ⟨0, Nat.zero_le _, rfl, own_nil _ _, Q.refl _⟩
  case round =>
    obtain ⟨t, ht, rfl, HI⟩ := hrel
    obtain ⟨d0, d1, d2, d3⟩ := B0.out.q HI.out.2
    by_cases hlt : t < m
    · have QW := Lib.hid (HQ0.out.trans HI.out.2)
      have htl : t < ys.length := by rw [HM.out]; exact hlt
      have htr : t < (R vs i).length := by rw [HHR.out]; exact hlt
      obtain ⟨yb, yo, rfl, hyb, hyc, cy⟩ := R2.out.at QW.out htl
      obtain ⟨zb, zo, rfl, hzb, hzc, cz⟩ := HRI.out.at QW.out htr
      have cj := (QW.out.cell (p := ⟨rb, ro + i, none⟩) HRB.out).trans CJ.out
      obtain ⟨p, hp⟩ : ∃ z, N ys t = z := ⟨_, rfl⟩
      obtain ⟨q, hq⟩ : ∃ z, N (R vs i) t = z := ⟨_, rfl⟩
      rw [hp] at cy
      rw [hq] at cz
      have HZ := Lib.hid (show zipC (N ys) (N (R vs i)) (t + 1) = zipC (N ys) (N (R vs i)) t ++ [(p, q)] by rw [zip_next, hp, hq])
      obtain ⟨L, hL⟩ : ∃ L, zipC (N ys) (N (R vs i)) t = L := ⟨_, rfl⟩
      have hLl : L.length = t := by rw [← hL, zip_len]
      rw [hL] at HZ
      have HO := Lib.hid (show Own W0.heap.size u5 L wr by rw [← hL]; exact HI.out.1)
      have RM := Lib.hid (show Room L.length from room_of (by omega))
      have HIQ := Lib.hid HI.out.2
      have htm : (t : Int) < (m : Int) := by omega
      have i1 : (0 : Int) ≤ (t : Int) := by omega
      have i2 : (0 : Int) ≤ (i : Int) := by omega
      clear htl htr hp hq hL HI hLl
      go_wp2_with fail
      have O1 : wr.drew.ownsRow W0.heap.size 40 2 u5 L.length (cellsL L) := HO.out
      have Q1 : Below W0.heap.size W0 wr.drew := HIQ.out.drew
      have hnw := pair_at wr.drew (.int .i64 p) (.int .i64 q) 40
      have hsz : (wr.drew.alloc (.cells #[.int .i64 p, .int .i64 q] 40)).heap.size = wr.heap.size + 1 := by show (wr.heap.push _).size = _; simp
      have hO1 := Lib.hid O1
      have hQ1 := Lib.hid Q1
      have hNW := Lib.hid hnw
      have hSZ := Lib.hid hsz
      clear O1 Q1 hnw hsz
      go_region_law (refine step_append_lies _ rfl (.tmp 14) (.tmp 29) 22 rfl W0.heap.size 40 i0 (.agg #[.int .i64 0, .int .i64 0]) 2 16 Try.underlying22 hif hz0 hz1 hz2 rfl (by decide) u5 L.length (cellsL L) (by simp [Act.eval, Act.put]) (World.ownsRow.alloc hO1.out _) ⟨wr.heap.size, 0, none⟩ 1 1 [.int .i64 p, .int .i64 q] (by simp [Act.eval, Act.put]) rfl hNW.out (pair_cell _ _) (by decide) RM.out.1 RM.out.2 (alloc_le hQ1.out.size _) (wr.heap.size + 1) hSZ.out ?_; intro g cap w7 hown' hgrow hat hlt)
      all_goals have N := Lib.hid (own_next (s := (p, q)) hO1.out hQ1.out hQ1.out.size hown' hgrow)
      all_goals clear hown' hgrow
      all_goals go_wp2_with fail
      all_goals exact ⟨⟨t + 1, by omega, by go_num, by rw [HZ.out]; exact N.out.1, N.out.2⟩, by simp [intOf] <;> omega⟩
    · obtain rfl : t = m := by omega
      go_wp2_with fail
      go_ret
      refine ⟨u5, rfl, ?_, HQ0.out.trans HI.out.2⟩
      exact HI.out.1.rd
end Go.Proofs.Ytlkgbfiaeedpfaa
