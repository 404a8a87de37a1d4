/- The contracts of isOutlier and Clean. -/
import Derived.Test.YtlcgbeocdimboaaDoorNeigh
set_option linter.unusedVariables false
set_option linter.unusedSimpArgs false
namespace Go.Proofs.YtlcgbeocdimboaaDoor
open Go.ChangeShapes Go.WideShapes Go.ChangeAt Go.RowKit Pm

def ptR (d : RD) : P := (d.x, d.y)
def ptN (a : Int × Int × Int) : P := (a.1, a.2.1)
/-- whether the reading i is too far from both of its neighbors -/
def outB (l : List RD) (i : Nat) (lim : Int) : Bool := farB (ptR (gr l i)) (ptN (nbV l i false)) lim && farB (ptR (gr l i)) (ptN (nbV l i true)) lim
/-- all readings are in range -/
def RdL (l : List RD) : Prop := ∀ d ∈ l, inP (d.x, d.y) = true
theorem rdl_gr {l : List RD} (h : RdL l) (i : Nat) : inP (ptR (gr l i)) = true := by
  by_cases hi : i < l.length
  · exact h _ (gr_mem hi)
  · rw [gr_over hi]; rfl
theorem rdl_nb {l : List RD} (h : RdL l) (i : Nat) (d : Bool) : inP (ptN (nbV l i d)) = true := by
  unfold nbV
  split
  · rfl
  · exact rdl_gr h _
theorem nidx0 (a1 a2 a3 c1 c2 c3 : Int) (W : World) : (Instr.index 61 (.agg #[.int .i64 a1, .int .i64 a2, .int .i64 a3, .int .i64 c1, .int .i64 c2, .int .i64 c3]) (.int .i64 0)).run Tryd.prog W = .ok (.agg #[.int .i64 a1, .int .i64 a2, .int .i64 a3]) W := by
  have z := Tryd.sizeOf60
  have g := Tryd.isAgg60
  simp [Instr.index, run_underlying Tryd.underlying61, asIntOf, go_sem, z, g]
theorem nidx1 (a1 a2 a3 c1 c2 c3 : Int) (W : World) : (Instr.index 61 (.agg #[.int .i64 a1, .int .i64 a2, .int .i64 a3, .int .i64 c1, .int .i64 c2, .int .i64 c3]) (.int .i64 1)).run Tryd.prog W = .ok (.agg #[.int .i64 c1, .int .i64 c2, .int .i64 c3]) W := by
  have z := Tryd.sizeOf60
  have g := Tryd.isAgg60
  simp [Instr.index, run_underlying Tryd.underlying61, asIntOf, go_sem, z, g]
set_option maxRecDepth 100000 in
set_option maxHeartbeats 1600000 in
theorem isOut_c (v : Value) (l : List RD) (i : Nat) (lim : Int) (r : Bool) (h : Hid (outB l i lim = r)) (w : World) (hr : RdR w v l) (hl : l.length ≤ 1000000) (hi : i < l.length) (hR : RdL l) (hD : Dir w) : Calls Tryd.prog 29 #[v, .int .i64 i, .int .i64 lim] w fun e w' => e = .returned (.bool r) ∧ Q w w' := by
  have HR := Lib.hid hr
  have HN := Lib.hid (neigh_c v l i w hr hl hi hD)
  obtain ⟨A, c, rfl, hc, _⟩ := hr
  obtain ⟨n, hn⟩ : ∃ n, l.length = n := ⟨_, rfl⟩
  rw [hn] at HR hc hl HN
  rw [hn]
  obtain ⟨a, ha⟩ : ∃ a, nbV l i false = a := ⟨_, rfl⟩
  obtain ⟨b, hb⟩ : ∃ b, nbV l i true = b := ⟨_, rfl⟩
  have I0 := Lib.hid (rdl_gr hR i)
  have I1 := Lib.hid (rdl_nb hR i false)
  have I2 := Lib.hid (rdl_nb hR i true)
  have HO := h
  unfold outB at HO
  rw [ha, hb] at HO
  rw [ha] at I1
  rw [hb] at I2
  rw [ha, hb] at HN
  obtain ⟨b1, hb1⟩ : ∃ x, farB (ptR (gr l i)) (ptN a) lim = x := ⟨_, rfl⟩
  obtain ⟨b2, hb2⟩ : ∃ x, farB (ptR (gr l i)) (ptN b) lim = x := ⟨_, rfl⟩
  rw [hb1, hb2] at HO
  have F1 := Lib.hid hb1
  have F2 := Lib.hid hb2
  have k1 : (i : Int) < (n : Int) := by omega
  have k0 : (0 : Int) ≤ (i : Int) := by omega
  obtain ⟨a1, a2, a3⟩ := a
  obtain ⟨c1, c2, c3⟩ := b
  unfold nbW nbC at HN
  have HIL := Lib.hid (show i < l.length from hi)
  clear h hn ha hb hb1 hb2
  go_enter Tryd.func29, Tryd.ntmps29
  go_wp2_with fail
  refine HN.out.mono ?_; rintro E w1 ⟨rfl, hq1⟩
  have Q1 := Lib.hid hq1
  clear hq1
  have n0 := nidx0 a1 a2 a3 c1 c2 c3
  have n1 := nidx1 a1 a2 a3 c1 c2 c3
  go_wp2_with fail
  go_loopw [12] (fun v12 wr => ∃ s : Nat, s ≤ 2 ∧ v12 = .int .i64 s ∧ Hid (Q w1 wr ∧ (1 ≤ s → b1 = true) ∧ (2 ≤ s → b2 = true))) (fun v12 _ => 2 - (intOf v12).toNat)
  case atStart => exact ⟨0, by omega, rfl, Q.refl _, fun h => by omega, fun h => by omega⟩
  case round =>
    obtain ⟨s, hs2, rfl, HI⟩ := hrel
    rcases (show s = 0 ∨ s = 1 ∨ s = 2 by omega) with rfl | rfl | rfl
    · have N1 := Lib.hid (HI.out.1.alloc (.cells #[.int .i64 a1, .int .i64 a2, .int .i64 a3] 60))
      obtain ⟨bb, off, rfl, hbb, _, e0, e1, e2⟩ := HR.out.at (Q1.out.trans HI.out.1) HIL.out
      obtain ⟨W2, hW2⟩ : ∃ W, wr.alloc (.cells #[.int .i64 a1, .int .i64 a2, .int .i64 a3] 60) = W := ⟨_, rfl⟩
      have hq2 : Q wr W2 := by rw [← hW2]; exact (Q.refl wr).alloc _
      have hbw : bb < wr.heap.size := Nat.lt_of_lt_of_le hbb (Q1.out.trans HI.out.1).size
      have e0' := (hq2.cell (p := ⟨bb, off + i * 3, none⟩) hbw).trans e0
      have e1' := (hq2.cell (p := ⟨bb, off + i * 3 + 1, none⟩) hbw).trans e1
      have y0 : W2.cell? ⟨wr.heap.size, 0, none⟩ = some (.int .i64 a1) := by rw [← hW2]; exact World.cell?_alloc_at _ _ _ _ rfl
      have y1 : W2.cell? ⟨wr.heap.size, 1, none⟩ = some (.int .i64 a2) := by rw [← hW2]; exact World.cell?_alloc_at _ _ _ _ rfl
      have hsz : wr.heap.size < W2.heap.size := by rw [← hW2]; simp
      have hbw2 : bb < W2.heap.size := by omega
      rw [hW2] at N1
      obtain ⟨px, hpx⟩ : ∃ x, (gr l i).x = x := ⟨_, rfl⟩
      obtain ⟨py, hpy⟩ : ∃ x, (gr l i).y = x := ⟨_, rfl⟩
      rw [hpx] at e0'
      rw [hpy] at e1'
      have HK := Lib.hid (show ∀ W, Q W2 W → Hid (Q W2 W) ∧ W.cell? ⟨bb, off + i * 3, none⟩ = some (.int .i64 px) ∧ W.cell? ⟨bb, off + i * 3 + 1, none⟩ = some (.int .i64 py) ∧ W.cell? ⟨wr.heap.size, 0, none⟩ = some (.int .i64 a1) ∧ W.cell? ⟨wr.heap.size, 1, none⟩ = some (.int .i64 a2) from fun W h => ⟨Lib.hid h, (h.cell (p := ⟨bb, off + i * 3, none⟩) hbw2).trans e0', (h.cell (p := ⟨bb, off + i * 3 + 1, none⟩) hbw2).trans e1', (h.cell (p := ⟨wr.heap.size, 0, none⟩) hsz).trans y0, (h.cell (p := ⟨wr.heap.size, 1, none⟩) hsz).trans y1⟩)
      have CF := Lib.hid (show ∀ W, Calls Tryd.prog 42 #[.agg #[.int .i64 px, .int .i64 py], .agg #[.int .i64 a1, .int .i64 a2], .int .i64 lim] W fun e w' => e = .returned (.bool b1) ∧ Q W w' from fun W => by rw [← hpx, ← hpy]; exact isFar_c (ptR (gr l i)) (a1, a2) lim b1 F1 I0.out I1.out W)
      clear e0 e1 e2 e0' e1' y0 y1 hq2 hpx hpy hbb
      cases b1 with
      | false =>
        have HX := Lib.hid (show false = r by rw [← HO.out]; rfl)
        go_wp2_with fail
        go_region_held3 (fun W => Hid (Q W2 W) ∧ W.cell? ⟨bb, off + i * 3, none⟩ = some (.int .i64 px) ∧ W.cell? ⟨bb, off + i * 3 + 1, none⟩ = some (.int .i64 py) ∧ W.cell? ⟨wr.heap.size, 0, none⟩ = some (.int .i64 a1) ∧ W.cell? ⟨wr.heap.size, 1, none⟩ = some (.int .i64 a2)) (first | exact HK.out _ ((Q.refl W2).drew) | exact HK.out _ (((Q.refl W2).drew).trans hq5)) (first | (go_at_call 42; refine (CF.out _).mono ?_; rintro e w5 ⟨rfl, hq5⟩))
        have Q5 := Lib.hid (Q1.out.trans (N1.out.trans (((Q.refl W2).drew).trans hq5)))
        go_wp2_with fail
        go_ret
        exact ⟨ret_bool HX.out, Q5.out⟩
      | true =>
        go_wp2_with fail
        go_region_held3 (fun W => Hid (Q W2 W) ∧ W.cell? ⟨bb, off + i * 3, none⟩ = some (.int .i64 px) ∧ W.cell? ⟨bb, off + i * 3 + 1, none⟩ = some (.int .i64 py) ∧ W.cell? ⟨wr.heap.size, 0, none⟩ = some (.int .i64 a1) ∧ W.cell? ⟨wr.heap.size, 1, none⟩ = some (.int .i64 a2)) (first | exact HK.out _ ((Q.refl W2).drew) | exact HK.out _ (((Q.refl W2).drew).trans hq5)) (first | (go_at_call 42; refine (CF.out _).mono ?_; rintro e w5 ⟨rfl, hq5⟩))
        have Q5 := Lib.hid (N1.out.trans (((Q.refl W2).drew).trans hq5))
        go_wp2_with fail
        go_roundw
        case rel => exact ⟨1, by omega, by go_num, Q5.out, fun _ => trivial, fun h => absurd h (by omega)⟩
        case measure => simp [intOf] <;> omega
    · have N1 := Lib.hid (HI.out.1.alloc (.cells #[.int .i64 c1, .int .i64 c2, .int .i64 c3] 60))
      obtain ⟨bb, off, rfl, hbb, _, e0, e1, e2⟩ := HR.out.at (Q1.out.trans HI.out.1) HIL.out
      obtain ⟨W2, hW2⟩ : ∃ W, wr.alloc (.cells #[.int .i64 c1, .int .i64 c2, .int .i64 c3] 60) = W := ⟨_, rfl⟩
      have hq2 : Q wr W2 := by rw [← hW2]; exact (Q.refl wr).alloc _
      have hbw : bb < wr.heap.size := Nat.lt_of_lt_of_le hbb (Q1.out.trans HI.out.1).size
      have e0' := (hq2.cell (p := ⟨bb, off + i * 3, none⟩) hbw).trans e0
      have e1' := (hq2.cell (p := ⟨bb, off + i * 3 + 1, none⟩) hbw).trans e1
      have y0 : W2.cell? ⟨wr.heap.size, 0, none⟩ = some (.int .i64 c1) := by rw [← hW2]; exact World.cell?_alloc_at _ _ _ _ rfl
      have y1 : W2.cell? ⟨wr.heap.size, 1, none⟩ = some (.int .i64 c2) := by rw [← hW2]; exact World.cell?_alloc_at _ _ _ _ rfl
      have hsz : wr.heap.size < W2.heap.size := by rw [← hW2]; simp
      have hbw2 : bb < W2.heap.size := by omega
      rw [hW2] at N1
      obtain ⟨px, hpx⟩ : ∃ x, (gr l i).x = x := ⟨_, rfl⟩
      obtain ⟨py, hpy⟩ : ∃ x, (gr l i).y = x := ⟨_, rfl⟩
      rw [hpx] at e0'
      rw [hpy] at e1'
      have HK := Lib.hid (show ∀ W, Q W2 W → Hid (Q W2 W) ∧ W.cell? ⟨bb, off + i * 3, none⟩ = some (.int .i64 px) ∧ W.cell? ⟨bb, off + i * 3 + 1, none⟩ = some (.int .i64 py) ∧ W.cell? ⟨wr.heap.size, 0, none⟩ = some (.int .i64 c1) ∧ W.cell? ⟨wr.heap.size, 1, none⟩ = some (.int .i64 c2) from fun W h => ⟨Lib.hid h, (h.cell (p := ⟨bb, off + i * 3, none⟩) hbw2).trans e0', (h.cell (p := ⟨bb, off + i * 3 + 1, none⟩) hbw2).trans e1', (h.cell (p := ⟨wr.heap.size, 0, none⟩) hsz).trans y0, (h.cell (p := ⟨wr.heap.size, 1, none⟩) hsz).trans y1⟩)
      have CF := Lib.hid (show ∀ W, Calls Tryd.prog 42 #[.agg #[.int .i64 px, .int .i64 py], .agg #[.int .i64 c1, .int .i64 c2], .int .i64 lim] W fun e w' => e = .returned (.bool b2) ∧ Q W w' from fun W => by rw [← hpx, ← hpy]; exact isFar_c (ptR (gr l i)) (c1, c2) lim b2 F2 I0.out I2.out W)
      clear e0 e1 e2 e0' e1' y0 y1 hq2 hpx hpy hbb
      cases b2 with
      | false =>
        have HX := Lib.hid (show false = r by rw [← HO.out]; simp)
        go_wp2_with fail
        go_region_held3 (fun W => Hid (Q W2 W) ∧ W.cell? ⟨bb, off + i * 3, none⟩ = some (.int .i64 px) ∧ W.cell? ⟨bb, off + i * 3 + 1, none⟩ = some (.int .i64 py) ∧ W.cell? ⟨wr.heap.size, 0, none⟩ = some (.int .i64 c1) ∧ W.cell? ⟨wr.heap.size, 1, none⟩ = some (.int .i64 c2)) (first | exact HK.out _ ((Q.refl W2).drew) | exact HK.out _ (((Q.refl W2).drew).trans hq5)) (first | (go_at_call 42; refine (CF.out _).mono ?_; rintro e w5 ⟨rfl, hq5⟩))
        have Q5 := Lib.hid (Q1.out.trans (N1.out.trans (((Q.refl W2).drew).trans hq5)))
        go_wp2_with fail
        go_ret
        exact ⟨ret_bool HX.out, Q5.out⟩
      | true =>
        go_wp2_with fail
        go_region_held3 (fun W => Hid (Q W2 W) ∧ W.cell? ⟨bb, off + i * 3, none⟩ = some (.int .i64 px) ∧ W.cell? ⟨bb, off + i * 3 + 1, none⟩ = some (.int .i64 py) ∧ W.cell? ⟨wr.heap.size, 0, none⟩ = some (.int .i64 c1) ∧ W.cell? ⟨wr.heap.size, 1, none⟩ = some (.int .i64 c2)) (first | exact HK.out _ ((Q.refl W2).drew) | exact HK.out _ (((Q.refl W2).drew).trans hq5)) (first | (go_at_call 42; refine (CF.out _).mono ?_; rintro e w5 ⟨rfl, hq5⟩))
        have Q5 := Lib.hid (N1.out.trans (((Q.refl W2).drew).trans hq5))
        go_wp2_with fail
        go_roundw
        case rel => exact ⟨2, by omega, by go_num, Q5.out, fun _ => HI.out.2.1 (by omega), fun _ => trivial⟩
        case measure => simp [intOf] <;> omega
    · have HX := Lib.hid (show true = r by rw [← HO.out, HI.out.2.1 (by omega), HI.out.2.2 (by omega)]; rfl)
      go_wp2_with fail
      go_ret
      exact ⟨ret_bool HX.out, Q1.out.trans HI.out.1⟩
/-! Clean -/
def clnF (l : List RD) (lim : Int) (i : Nat) : RD := if ((gr l i).o && outB l i lim) = true then ⟨0, 0, false⟩ else gr l i
/-- the list whose first k readings are cleaned -/
def clU (l : List RD) (lim : Int) (k : Nat) : List RD := (List.range l.length).map fun i => if i < k then clnF l lim i else gr l i
/-- what Clean answers -/
def clnL (z : Int) (l : List RD) (lim : Int) : List RD := if lim < 0 ∨ l.length - gN l < 2 ∨ chkR z l ≠ 0 then l else clU l lim l.length
theorem clU_len (l : List RD) (lim : Int) (k : Nat) : (clU l lim k).length = l.length := by unfold clU; simp
theorem clU_at (l : List RD) (lim : Int) (k : Nat) {i : Nat} (h : i < l.length) : gr (clU l lim k) i = if i < k then clnF l lim i else gr l i := by
  rw [gr_at (by rw [clU_len]; exact h)]
  unfold clU
  simp
theorem gr_ext {a b : List RD} (h : a.length = b.length) (k : ∀ i, i < a.length → gr a i = gr b i) : a = b := List.ext_getElem h fun i h1 h2 => by rw [← gr_at h1, ← gr_at h2]; exact k i h1
theorem clU_zero (l : List RD) (lim : Int) : clU l lim 0 = l := gr_ext (clU_len _ _ _) fun i hi => by rw [clU_len] at hi; rw [clU_at _ _ _ hi, if_neg (by omega)]
theorem gr_set {l : List RD} {i j : Nat} {d : RD} (hj : j < l.length) : gr (l.set i d) j = if i = j then d else gr l j := by
  rw [gr_at (by simpa using hj), List.getElem_set, gr_at hj]
theorem clU_keep {l : List RD} {lim : Int} {k : Nat} (hk : k < l.length) (h : ((gr l k).o && outB l k lim) = false) : clU l lim (k + 1) = clU l lim k := gr_ext (by rw [clU_len, clU_len]) fun i hi => by
  rw [clU_len] at hi
  rw [clU_at _ _ _ hi, clU_at _ _ _ hi]
  by_cases e : i = k
  · subst e; rw [if_pos (by omega), if_neg (by omega)]; unfold clnF; rw [h]; simp
  · by_cases g : i < k
    · rw [if_pos (by omega), if_pos g]
    · rw [if_neg (by omega), if_neg g]
theorem clU_set {l : List RD} {lim : Int} {k : Nat} (hk : k < l.length) (h : ((gr l k).o && outB l k lim) = true) : clU l lim (k + 1) = (clU l lim k).set k ⟨0, 0, false⟩ := gr_ext (by rw [List.length_set, clU_len, clU_len]) fun i hi => by
  rw [clU_len] at hi
  rw [clU_at _ _ _ hi, gr_set (by rw [clU_len]; exact hi), clU_at _ _ _ hi]
  by_cases e : k = i
  · subst e; rw [if_pos (by omega), if_pos rfl]; unfold clnF; rw [h]; simp
  · rw [if_neg e]
    by_cases g : i < k
    · rw [if_pos (by omega), if_pos g]
    · rw [if_neg (by omega), if_neg g]
end Go.Proofs.YtlcgbeocdimboaaDoor
