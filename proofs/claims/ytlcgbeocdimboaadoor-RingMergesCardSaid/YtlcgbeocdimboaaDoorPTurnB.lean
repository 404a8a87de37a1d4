/- The contracts of Turn and Mirror. -/
import Derived.Test.YtlcgbeocdimboaaDoorPTurn
set_option linter.unusedVariables false
set_option linter.unusedSimpArgs false
namespace Go.Proofs.YtlcgbeocdimboaaDoor
open Go.ChangeShapes Go.WideShapes Go.ChangeAt Go.RowKit Go.Shelf Pm

def ListPost (L : List P) (w : World) (e : Ending) (w' : World) : Prop := ∃ v', e = .returned v' ∧ RdP w' v' L ∧ Q w w'
theorem neg_at {l : List P} (h : negL l = true) {i : Nat} (hi : i < l.length) : ¬ (g l i).1 = -9223372036854775808 ∧ ¬ (g l i).2 = -9223372036854775808 := by
  have := allN_at h i hi
  unfold negP least at this
  rw [Bool.not_eq_true', Bool.or_eq_false_iff] at this
  exact ⟨of_decide_eq_false this.1, of_decide_eq_false this.2⟩
theorem and3 (q : Int) (hq : Fit q) : (BitVec.ofInt 64 q &&& BitVec.ofInt 64 3).toNat = (q % 4).toNat := by
  obtain ⟨h1, h2⟩ := hq
  have e : (BitVec.ofInt 64 q &&& BitVec.ofInt 64 3).toNat = (BitVec.ofInt 64 q).toNat % 4 := by
    rw [BitVec.toNat_and]
    show (BitVec.ofInt 64 q).toNat &&& 3 = _
    exact Nat.and_two_pow_sub_one_eq_mod _ 2
  rw [e, BitVec.toNat_ofInt]
  omega
/-- Go's quarters & 3 -/
theorem and_three (q : Int) (hq : Fit q) : bits BinOp.and IntKind.i64 q 3 = q % 4 := by
  show IntKind.i64.wrap (((BitVec.ofInt 64 q &&& BitVec.ofInt 64 3).toNat : Nat) : Int) = q % 4
  rw [and3 q hq]
  have h1 : ((q % 4).toNat : Int) = q % 4 := Int.toNat_of_nonneg (by omega)
  rw [h1]
  exact IntWalk.i64_in _ (by omega)
theorem negFit {x : Int} (h : Fit x) (h1 : ¬ x = -9223372036854775808) : IntKind.i64.wrap (-x) = -x := by
  obtain ⟨a, b⟩ := h
  exact IntWalk.i64_in _ (by omega)
/-- all numbers of the points are ints -/
def FitL (l : List P) : Prop := ∀ x, x ∈ l → Fit x.1 ∧ Fit x.2
theorem fit_g {l : List P} (h : FitL l) (i : Nat) : Fit (g l i).1 ∧ Fit (g l i).2 := by
  by_cases hi : i < l.length
  · rw [g_at hi]; exact h _ (List.getElem_mem hi)
  · have e : g l i = (0, 0) := by unfold g; rw [List.getD_eq_getElem?_getD, List.getElem?_eq_none (by omega)]; rfl
    rw [e]; unfold Fit; decide
def TuI (gb : Nat) (f : P → P) (l : List P) (k : Nat) (w wr : World) : Prop := Wr wr gb (up f l k) ∧ Below w.heap.size w wr
theorem turn_next {gb : Nat} {f : P → P} {l : List P} {k : Nat} {w wr : World} {x y a b : Int} {o : Obj} (h : TuI gb f l k w wr) (hk : k < l.length) (hx : g l k = (x, y)) (hf : f (x, y) = (a, b)) (hg : w.heap.size ≤ gb) (hs : w.heap.size ≤ wr.heap.size) :
    TuI gb f l (k + 1) w (((wr.setCell ⟨gb, k * 2, none⟩ (.int .i64 a)).setCell ⟨gb, k * 2 + 1, none⟩ (.int .i64 b)).alloc o) := by
  have h1 := h.1.set (i := k) (by rw [up_len]; exact hk) (a, b)
  rw [← hf, ← hx, up_set f l hk] at h1
  rw [hx, hf] at h1
  have hb : Below w.heap.size w ((wr.setCell ⟨gb, k * 2, none⟩ (.int .i64 a)).setCell ⟨gb, k * 2 + 1, none⟩ (.int .i64 b)) := (h.2.setCell (p := ⟨gb, k * 2, none⟩) hg _).setCell (p := ⟨gb, k * 2 + 1, none⟩) hg _
  exact ⟨h1.q ((Q.refl _).alloc o), Below.alloc hb hb.size o⟩
theorem turn_same {gb : Nat} {l : List P} {k : Nat} {w wr : World} {o : Obj} (h : TuI gb (fun q => q) l k w wr) (hk : k < l.length) (hs : w.heap.size ≤ wr.heap.size) : TuI gb (fun q => q) l (k + 1) w (wr.alloc o) := by
  have e : ∀ j, up (fun q => q) l j = l := fun j => by unfold up; rw [List.map_id', List.take_append_drop]
  refine ⟨?_, Below.alloc h.2 hs o⟩
  have := h.1
  rw [e] at this ⊢
  exact this.q ((Q.refl wr).alloc o)
theorem old_row {w : World} {b j : Nat} {u : Value} (o : Obj) (hb : b < w.heap.size) (h : w.cell? ⟨b, j, none⟩ = some u) : (w.alloc o).cell? ⟨b, j, none⟩ = some u :=
  (((Q.refl w).alloc o).cell (p := ⟨b, j, none⟩) hb).trans h
theorem old_free {w : World} {b j : Nat} (o : Obj) (hb : b < w.heap.size) (h : w.frozen? ⟨b, j, none⟩ = false) : (w.alloc o).frozen? ⟨b, j, none⟩ = false :=
  (((Q.refl w).alloc o).frozen (p := ⟨b, j, none⟩) hb).trans h
set_option maxRecDepth 100000 in
set_option maxHeartbeats 1600000 in
theorem Turn_0 (v : Value) (l : List P) (q : Int) (w : World) (hr : RdP w v l) (hl : l.length ≤ 1000000) (hn : Hid (negL l = true)) (h0 : l ≠ []) (hq : Hid (bits BinOp.and IntKind.i64 q 3 = 0)) (hf : Hid (FitL l)) : Calls Tryd.prog 33 #[v, .int .i64 q] w (ListPost (l.map (fun q => q)) w) := by
  have HR := Lib.hid hr
  have HL := Lib.hid hl
  have HLM := Lib.hid (show l.length ≤ maxLen by unfold maxLen; omega)
  have HNE := Lib.hid h0
  have hq3 := hq.out
  obtain ⟨A, c, rfl, hc, _⟩ := hr
  obtain ⟨n, hn'⟩ : ∃ n, l.length = n := ⟨_, rfl⟩
  have HN := Lib.hid hn'
  rw [hn'] at HR hl
  rw [hn']
  clear hc h0 hn'
  go_enter Tryd.func33, Tryd.ntmps33
  go_wp2_with fail
  refine (canNeg_c _ l true hn _ HR.out HLM.out).mono ?_; rintro e w1 ⟨rfl, hq1⟩
  have HQ1 := Lib.hid hq1
  clear hq1
  go_wp2_with fail
  refine (clone_c _ l _ (RdG.q HR.out HQ1.out) HL.out).mono ?_
  rintro e w2 (⟨h0, _, _⟩ | ⟨gb, cap, rfl, ho2, hq2⟩)
  · exact absurd h0 HNE.out
  rw [HN.out] at ho2 ⊢
  have hgf := ho2.form (by rw [HN.out]; have := List.length_pos_iff.2 HNE.out; rw [HN.out] at this; omega)
  obtain ⟨gb', cap', ev, hcap, hgB, hgw⟩ := hgf
  obtain ⟨rfl, rfl⟩ : gb = gb' ∧ cap = cap' := by injection ev with e1 e2 e3; injection e1 with e1; injection e1 with e1; exact ⟨e1, e3⟩
  clear ev
  rw [HN.out] at hcap
  have HG := Lib.hid (show w1.heap.size ≤ gb from hgB)
  have HI0 := Lib.hid (show TuI gb (fun q => q) l 0 w1 w2 from ⟨by rw [up_zero]; exact wr_own ho2 HN.out.symm hgw, hq2⟩)
  clear ho2 hq2 hgB hgw
  go_wp2_with fail
  go_loopw [15] (fun u wr => ∃ k : Nat, k ≤ n ∧ u = .int .i64 k ∧ Hid (TuI gb (fun q => q) l k w1 wr)) (fun u _ => n - (intOf u).toNat)
  case atStart => exact ⟨0, Nat.zero_le _, rfl, HI0⟩
  case round =>
    obtain ⟨k, hk, rfl, HI⟩ := hrel
    by_cases hlt : k < n
    · have hkl : k < l.length := by rw [HN.out]; exact hlt
      have HKL := Lib.hid hkl
      obtain ⟨⟨c0, c1⟩, f0, f1⟩ := HI.out.1.at (i := k) (by rw [up_len]; exact hkl)
      rw [up_at _ l hkl] at c0 c1
      have hng := neg_at hn.out hkl
      have hft := fit_g hf.out k
      obtain ⟨⟨x, y⟩, hx⟩ : ∃ q, g l k = q := ⟨_, rfl⟩
      rw [hx] at c0 c1 hng hft
      have HX := Lib.hid hx
      dsimp only at c0 c1 hng hft
      have nx := negFit hft.1 hng.1
      have ny := negFit hft.2 hng.2
      have hsz := HI.out.1.1
      have hss := HI.out.2.size
      have HS := Lib.hid hss
      have HT := Lib.hid (turn_same (o := .cells #[.int .i64 x, .int .i64 y] 38) HI.out hkl hss)
      clear hx hng hft hkl hss nx ny
      go_wp2_with fail
      go_roundw
      case rel => exact ⟨k + 1, by omega, by go_num, HT⟩
      case measure => simp [intOf] <;> omega
    · obtain rfl : k = n := by omega
      have HE := Lib.hid (show Wr wr gb (l.map (fun q => q)) by have := HI.out.1; rw [← HN.out, up_all] at this; exact this)
      go_wp2_with fail
      go_ret
      exact ⟨_, rfl, HE.out.rd (by rw [List.length_map, HN.out]) hcap, HQ1.out.trans HI.out.2⟩
set_option maxRecDepth 100000 in
set_option maxHeartbeats 1600000 in
theorem Turn_1 (v : Value) (l : List P) (q : Int) (w : World) (hr : RdP w v l) (hl : l.length ≤ 1000000) (hn : Hid (negL l = true)) (h0 : l ≠ []) (hq : Hid (bits BinOp.and IntKind.i64 q 3 = 1)) (hf : Hid (FitL l)) : Calls Tryd.prog 33 #[v, .int .i64 q] w (ListPost (l.map (fun q => (-q.2, q.1))) w) := by
  have HR := Lib.hid hr
  have HL := Lib.hid hl
  have HLM := Lib.hid (show l.length ≤ maxLen by unfold maxLen; omega)
  have HNE := Lib.hid h0
  have hq3 := hq.out
  obtain ⟨A, c, rfl, hc, _⟩ := hr
  obtain ⟨n, hn'⟩ : ∃ n, l.length = n := ⟨_, rfl⟩
  have HN := Lib.hid hn'
  rw [hn'] at HR hl
  rw [hn']
  clear hc h0 hn'
  go_enter Tryd.func33, Tryd.ntmps33
  go_wp2_with fail
  refine (canNeg_c _ l true hn _ HR.out HLM.out).mono ?_; rintro e w1 ⟨rfl, hq1⟩
  have HQ1 := Lib.hid hq1
  clear hq1
  go_wp2_with fail
  refine (clone_c _ l _ (RdG.q HR.out HQ1.out) HL.out).mono ?_
  rintro e w2 (⟨h0, _, _⟩ | ⟨gb, cap, rfl, ho2, hq2⟩)
  · exact absurd h0 HNE.out
  rw [HN.out] at ho2 ⊢
  have hgf := ho2.form (by rw [HN.out]; have := List.length_pos_iff.2 HNE.out; rw [HN.out] at this; omega)
  obtain ⟨gb', cap', ev, hcap, hgB, hgw⟩ := hgf
  obtain ⟨rfl, rfl⟩ : gb = gb' ∧ cap = cap' := by injection ev with e1 e2 e3; injection e1 with e1; injection e1 with e1; exact ⟨e1, e3⟩
  clear ev
  rw [HN.out] at hcap
  have HG := Lib.hid (show w1.heap.size ≤ gb from hgB)
  have HI0 := Lib.hid (show TuI gb (fun q => (-q.2, q.1)) l 0 w1 w2 from ⟨by rw [up_zero]; exact wr_own ho2 HN.out.symm hgw, hq2⟩)
  clear ho2 hq2 hgB hgw
  go_wp2_with fail
  go_loopw [15] (fun u wr => ∃ k : Nat, k ≤ n ∧ u = .int .i64 k ∧ Hid (TuI gb (fun q => (-q.2, q.1)) l k w1 wr)) (fun u _ => n - (intOf u).toNat)
  case atStart => exact ⟨0, Nat.zero_le _, rfl, HI0⟩
  case round =>
    obtain ⟨k, hk, rfl, HI⟩ := hrel
    by_cases hlt : k < n
    · have hkl : k < l.length := by rw [HN.out]; exact hlt
      have HKL := Lib.hid hkl
      obtain ⟨⟨c0, c1⟩, f0, f1⟩ := HI.out.1.at (i := k) (by rw [up_len]; exact hkl)
      rw [up_at _ l hkl] at c0 c1
      have hng := neg_at hn.out hkl
      have hft := fit_g hf.out k
      obtain ⟨⟨x, y⟩, hx⟩ : ∃ q, g l k = q := ⟨_, rfl⟩
      rw [hx] at c0 c1 hng hft
      have HX := Lib.hid hx
      dsimp only at c0 c1 hng hft
      have nx := negFit hft.1 hng.1
      have ny := negFit hft.2 hng.2
      have hsz := HI.out.1.1
      have hss := HI.out.2.size
      have HS := Lib.hid hss
      have HT := Lib.hid (turn_next (o := .cells #[.int .i64 x, .int .i64 y] 38) HI.out hkl hx (show _ = (-y, x) from rfl) HG.out hss)
      have a0 := old_row (.cells #[.int .i64 x, .int .i64 y] 38) hsz c0
      have a1 := old_row (.cells #[.int .i64 x, .int .i64 y] 38) hsz c1
      have b0 := old_free (.cells #[.int .i64 x, .int .i64 y] 38) hsz f0
      have b1 := old_free (.cells #[.int .i64 x, .int .i64 y] 38) hsz f1
      have a2 := cell_far (u := .int .i64 (-y)) (show k * 2 ≠ k * 2 + 1 by omega) a1
      clear hx hng hft hkl hss
      go_wp2_with fail
      go_roundw
      case rel => exact ⟨k + 1, by omega, by go_num, HT⟩
      case measure => simp [intOf] <;> omega
    · obtain rfl : k = n := by omega
      have HE := Lib.hid (show Wr wr gb (l.map (fun q => (-q.2, q.1))) by have := HI.out.1; rw [← HN.out, up_all] at this; exact this)
      go_wp2_with fail
      go_ret
      exact ⟨_, rfl, HE.out.rd (by rw [List.length_map, HN.out]) hcap, HQ1.out.trans HI.out.2⟩
set_option maxRecDepth 100000 in
set_option maxHeartbeats 1600000 in
theorem Turn_2 (v : Value) (l : List P) (q : Int) (w : World) (hr : RdP w v l) (hl : l.length ≤ 1000000) (hn : Hid (negL l = true)) (h0 : l ≠ []) (hq : Hid (bits BinOp.and IntKind.i64 q 3 = 2)) (hf : Hid (FitL l)) : Calls Tryd.prog 33 #[v, .int .i64 q] w (ListPost (l.map (fun q => (-q.1, -q.2))) w) := by
  have HR := Lib.hid hr
  have HL := Lib.hid hl
  have HLM := Lib.hid (show l.length ≤ maxLen by unfold maxLen; omega)
  have HNE := Lib.hid h0
  have hq3 := hq.out
  obtain ⟨A, c, rfl, hc, _⟩ := hr
  obtain ⟨n, hn'⟩ : ∃ n, l.length = n := ⟨_, rfl⟩
  have HN := Lib.hid hn'
  rw [hn'] at HR hl
  rw [hn']
  clear hc h0 hn'
  go_enter Tryd.func33, Tryd.ntmps33
  go_wp2_with fail
  refine (canNeg_c _ l true hn _ HR.out HLM.out).mono ?_; rintro e w1 ⟨rfl, hq1⟩
  have HQ1 := Lib.hid hq1
  clear hq1
  go_wp2_with fail
  refine (clone_c _ l _ (RdG.q HR.out HQ1.out) HL.out).mono ?_
  rintro e w2 (⟨h0, _, _⟩ | ⟨gb, cap, rfl, ho2, hq2⟩)
  · exact absurd h0 HNE.out
  rw [HN.out] at ho2 ⊢
  have hgf := ho2.form (by rw [HN.out]; have := List.length_pos_iff.2 HNE.out; rw [HN.out] at this; omega)
  obtain ⟨gb', cap', ev, hcap, hgB, hgw⟩ := hgf
  obtain ⟨rfl, rfl⟩ : gb = gb' ∧ cap = cap' := by injection ev with e1 e2 e3; injection e1 with e1; injection e1 with e1; exact ⟨e1, e3⟩
  clear ev
  rw [HN.out] at hcap
  have HG := Lib.hid (show w1.heap.size ≤ gb from hgB)
  have HI0 := Lib.hid (show TuI gb (fun q => (-q.1, -q.2)) l 0 w1 w2 from ⟨by rw [up_zero]; exact wr_own ho2 HN.out.symm hgw, hq2⟩)
  clear ho2 hq2 hgB hgw
  go_wp2_with fail
  go_loopw [15] (fun u wr => ∃ k : Nat, k ≤ n ∧ u = .int .i64 k ∧ Hid (TuI gb (fun q => (-q.1, -q.2)) l k w1 wr)) (fun u _ => n - (intOf u).toNat)
  case atStart => exact ⟨0, Nat.zero_le _, rfl, HI0⟩
  case round =>
    obtain ⟨k, hk, rfl, HI⟩ := hrel
    by_cases hlt : k < n
    · have hkl : k < l.length := by rw [HN.out]; exact hlt
      have HKL := Lib.hid hkl
      obtain ⟨⟨c0, c1⟩, f0, f1⟩ := HI.out.1.at (i := k) (by rw [up_len]; exact hkl)
      rw [up_at _ l hkl] at c0 c1
      have hng := neg_at hn.out hkl
      have hft := fit_g hf.out k
      obtain ⟨⟨x, y⟩, hx⟩ : ∃ q, g l k = q := ⟨_, rfl⟩
      rw [hx] at c0 c1 hng hft
      have HX := Lib.hid hx
      dsimp only at c0 c1 hng hft
      have nx := negFit hft.1 hng.1
      have ny := negFit hft.2 hng.2
      have hsz := HI.out.1.1
      have hss := HI.out.2.size
      have HS := Lib.hid hss
      have HT := Lib.hid (turn_next (o := .cells #[.int .i64 x, .int .i64 y] 38) HI.out hkl hx (show _ = (-x, -y) from rfl) HG.out hss)
      have a0 := old_row (.cells #[.int .i64 x, .int .i64 y] 38) hsz c0
      have a1 := old_row (.cells #[.int .i64 x, .int .i64 y] 38) hsz c1
      have b0 := old_free (.cells #[.int .i64 x, .int .i64 y] 38) hsz f0
      have b1 := old_free (.cells #[.int .i64 x, .int .i64 y] 38) hsz f1
      have a2 := cell_far (u := .int .i64 (-x)) (show k * 2 ≠ k * 2 + 1 by omega) a1
      clear hx hng hft hkl hss
      go_wp2_with fail
      go_roundw
      case rel => exact ⟨k + 1, by omega, by go_num, HT⟩
      case measure => simp [intOf] <;> omega
    · obtain rfl : k = n := by omega
      have HE := Lib.hid (show Wr wr gb (l.map (fun q => (-q.1, -q.2))) by have := HI.out.1; rw [← HN.out, up_all] at this; exact this)
      go_wp2_with fail
      go_ret
      exact ⟨_, rfl, HE.out.rd (by rw [List.length_map, HN.out]) hcap, HQ1.out.trans HI.out.2⟩
set_option maxRecDepth 100000 in
set_option maxHeartbeats 1600000 in
theorem Turn_3 (v : Value) (l : List P) (q : Int) (w : World) (hr : RdP w v l) (hl : l.length ≤ 1000000) (hn : Hid (negL l = true)) (h0 : l ≠ []) (hq : Hid (bits BinOp.and IntKind.i64 q 3 = 3)) (hf : Hid (FitL l)) : Calls Tryd.prog 33 #[v, .int .i64 q] w (ListPost (l.map (fun q => (q.2, -q.1))) w) := by
  have HR := Lib.hid hr
  have HL := Lib.hid hl
  have HLM := Lib.hid (show l.length ≤ maxLen by unfold maxLen; omega)
  have HNE := Lib.hid h0
  have hq3 := hq.out
  obtain ⟨A, c, rfl, hc, _⟩ := hr
  obtain ⟨n, hn'⟩ : ∃ n, l.length = n := ⟨_, rfl⟩
  have HN := Lib.hid hn'
  rw [hn'] at HR hl
  rw [hn']
  clear hc h0 hn'
  go_enter Tryd.func33, Tryd.ntmps33
  go_wp2_with fail
  refine (canNeg_c _ l true hn _ HR.out HLM.out).mono ?_; rintro e w1 ⟨rfl, hq1⟩
  have HQ1 := Lib.hid hq1
  clear hq1
  go_wp2_with fail
  refine (clone_c _ l _ (RdG.q HR.out HQ1.out) HL.out).mono ?_
  rintro e w2 (⟨h0, _, _⟩ | ⟨gb, cap, rfl, ho2, hq2⟩)
  · exact absurd h0 HNE.out
  rw [HN.out] at ho2 ⊢
  have hgf := ho2.form (by rw [HN.out]; have := List.length_pos_iff.2 HNE.out; rw [HN.out] at this; omega)
  obtain ⟨gb', cap', ev, hcap, hgB, hgw⟩ := hgf
  obtain ⟨rfl, rfl⟩ : gb = gb' ∧ cap = cap' := by injection ev with e1 e2 e3; injection e1 with e1; injection e1 with e1; exact ⟨e1, e3⟩
  clear ev
  rw [HN.out] at hcap
  have HG := Lib.hid (show w1.heap.size ≤ gb from hgB)
  have HI0 := Lib.hid (show TuI gb (fun q => (q.2, -q.1)) l 0 w1 w2 from ⟨by rw [up_zero]; exact wr_own ho2 HN.out.symm hgw, hq2⟩)
  clear ho2 hq2 hgB hgw
  go_wp2_with fail
  go_loopw [15] (fun u wr => ∃ k : Nat, k ≤ n ∧ u = .int .i64 k ∧ Hid (TuI gb (fun q => (q.2, -q.1)) l k w1 wr)) (fun u _ => n - (intOf u).toNat)
  case atStart => exact ⟨0, Nat.zero_le _, rfl, HI0⟩
  case round =>
    obtain ⟨k, hk, rfl, HI⟩ := hrel
    by_cases hlt : k < n
    · have hkl : k < l.length := by rw [HN.out]; exact hlt
      have HKL := Lib.hid hkl
      obtain ⟨⟨c0, c1⟩, f0, f1⟩ := HI.out.1.at (i := k) (by rw [up_len]; exact hkl)
      rw [up_at _ l hkl] at c0 c1
      have hng := neg_at hn.out hkl
      have hft := fit_g hf.out k
      obtain ⟨⟨x, y⟩, hx⟩ : ∃ q, g l k = q := ⟨_, rfl⟩
      rw [hx] at c0 c1 hng hft
      have HX := Lib.hid hx
      dsimp only at c0 c1 hng hft
      have nx := negFit hft.1 hng.1
      have ny := negFit hft.2 hng.2
      have hsz := HI.out.1.1
      have hss := HI.out.2.size
      have HS := Lib.hid hss
      have HT := Lib.hid (turn_next (o := .cells #[.int .i64 x, .int .i64 y] 38) HI.out hkl hx (show _ = (y, -x) from rfl) HG.out hss)
      have a0 := old_row (.cells #[.int .i64 x, .int .i64 y] 38) hsz c0
      have a1 := old_row (.cells #[.int .i64 x, .int .i64 y] 38) hsz c1
      have b0 := old_free (.cells #[.int .i64 x, .int .i64 y] 38) hsz f0
      have b1 := old_free (.cells #[.int .i64 x, .int .i64 y] 38) hsz f1
      have a2 := cell_far (u := .int .i64 (y)) (show k * 2 ≠ k * 2 + 1 by omega) a1
      clear hx hng hft hkl hss
      go_wp2_with fail
      go_roundw
      case rel => exact ⟨k + 1, by omega, by go_num, HT⟩
      case measure => simp [intOf] <;> omega
    · obtain rfl : k = n := by omega
      have HE := Lib.hid (show Wr wr gb (l.map (fun q => (q.2, -q.1))) by have := HI.out.1; rw [← HN.out, up_all] at this; exact this)
      go_wp2_with fail
      go_ret
      exact ⟨_, rfl, HE.out.rd (by rw [List.length_map, HN.out]) hcap, HQ1.out.trans HI.out.2⟩
set_option maxRecDepth 100000 in
set_option maxHeartbeats 1600000 in
theorem Turn_no (v : Value) (l : List P) (q : Int) (w : World) (hr : RdP w v l) (hl : l.length ≤ maxLen) (hn : Hid (negL l = false)) : Calls Tryd.prog 33 #[v, .int .i64 q] w (ListPost [] w) := by
  have HR := Lib.hid hr
  have HL := Lib.hid hl
  obtain ⟨A, c, rfl, hc, _⟩ := hr
  clear hc hl
  go_enter Tryd.func33, Tryd.ntmps33
  go_wp2_with fail
  refine (canNeg_c _ l false hn _ HR.out HL.out).mono ?_; rintro e w1 ⟨rfl, hq1⟩
  go_wp2_with fail
  go_ret
  exact ⟨_, rfl, RdG.nil _ _ _, hq1⟩
set_option maxRecDepth 100000 in
set_option maxHeartbeats 1600000 in
theorem Turn_nil (v : Value) (q : Int) (w : World) (hr : RdP w v []) : Calls Tryd.prog 33 #[v, .int .i64 q] w (ListPost [] w) := by
  have HR := Lib.hid hr
  obtain ⟨A, c, rfl, hc, _⟩ := hr
  clear hc
  go_enter Tryd.func33, Tryd.ntmps33
  go_wp2_with fail
  refine (canNeg_c _ [] true (Lib.hid rfl) _ HR.out (by decide)).mono ?_; rintro e w1 ⟨rfl, hq1⟩
  have HQ1 := Lib.hid hq1
  clear hq1
  go_wp2_with fail
  refine (clone_c _ [] _ (RdG.q HR.out HQ1.out) (by decide)).mono ?_
  rintro e w2 (⟨_, rfl, rfl⟩ | ⟨gb, cap, rfl, ho2, hq2⟩)
  · go_wp2_with fail
    refine wp_loop_rounds 1 ?_
    rw [rounds_succ]
    go_wp2_with fail
    go_ret
    exact ⟨_, rfl, RdG.nil _ _ _, HQ1.out⟩
  · have HO := Lib.hid ho2.rd
    have HQ2 := Lib.hid (HQ1.out.trans hq2)
    clear ho2 hq2
    go_wp2_with fail
    refine wp_loop_rounds 1 ?_
    rw [rounds_succ]
    go_wp2_with fail
    go_ret
    exact ⟨_, rfl, HO.out, HQ2.out⟩
theorem rot_of (q : P) : rot q 0 = q ∧ rot q 1 = (-q.2, q.1) ∧ rot q 2 = (-q.1, -q.2) ∧ rot q 3 = (q.2, -q.1) := by
  refine ⟨rfl, rfl, rfl, ?_⟩
  show (-(-q.2), -q.1) = _
  rw [Int.neg_neg]
theorem Turn_c (v : Value) (l : List P) (q : Int) (L : List P) (h : Hid (turn l q = L)) (w : World) (hr : RdP w v l) (hl : l.length ≤ 1000000) (hq : Fit q) (hf : FitL l) : Calls Tryd.prog 33 #[v, .int .i64 q] w (ListPost L w) := by
  rw [← h.out]
  obtain ⟨b, hb⟩ : ∃ b, negL l = b := ⟨_, rfl⟩
  unfold turn
  rw [hb]
  cases b with
  | false => exact Turn_no v l q w hr (by unfold maxLen; omega) (Lib.hid hb)
  | true =>
    rw [if_pos rfl]
    by_cases h0 : l = []
    · subst h0; exact Turn_nil v q w hr
    · have h4 : q % 4 = 0 ∨ q % 4 = 1 ∨ q % 4 = 2 ∨ q % 4 = 3 := by omega
      have hb4 := and_three q hq
      rcases h4 with e | e | e | e
      · have : l.map (fun z => rot z (qt q)) = l.map fun z => z := by unfold qt; rw [e]; rfl
        rw [this]; exact Turn_0 v l q w hr hl (Lib.hid hb) h0 (Lib.hid (by rw [hb4, e])) (Lib.hid hf)
      · have : l.map (fun z => rot z (qt q)) = l.map fun z => (-z.2, z.1) := by unfold qt; rw [e]; rfl
        rw [this]; exact Turn_1 v l q w hr hl (Lib.hid hb) h0 (Lib.hid (by rw [hb4, e])) (Lib.hid hf)
      · have : l.map (fun z => rot z (qt q)) = l.map fun z => (-z.1, -z.2) := by unfold qt; rw [e]; rfl
        rw [this]; exact Turn_2 v l q w hr hl (Lib.hid hb) h0 (Lib.hid (by rw [hb4, e])) (Lib.hid hf)
      · have : l.map (fun z => rot z (qt q)) = l.map fun z => (z.2, -z.1) := by unfold qt; rw [e]; exact List.map_congr_left fun z _ => (rot_of z).2.2.2
        rw [this]; exact Turn_3 v l q w hr hl (Lib.hid hb) h0 (Lib.hid (by rw [hb4, e])) (Lib.hid hf)
/-! Mirror -/
theorem mir_is {l : List P} (h : negL l = true) : mir l = l.reverse.map fun q => (-q.1, q.2) := by unfold mir; rw [if_pos h, List.map_reverse]
theorem mir_next {gb : Nat} {l : List P} {k : Nat} {w wr : World} {x y : Int} (h : TuI gb (fun q => (-q.1, q.2)) l k w wr) (hk : k < l.length) (hx : g l k = (x, y)) (hg : w.heap.size ≤ gb) :
    TuI gb (fun q => (-q.1, q.2)) l (k + 1) w (wr.setCell ⟨gb, k * 2, none⟩ (.int .i64 (-x))) := by
  have h1 := WrC.set h.1 (k * 2) (.int .i64 (-x))
  refine ⟨?_, h.2.setCell (p := ⟨gb, k * 2, none⟩) hg _⟩
  unfold Wr
  rw [← up_set _ l hk, cellsL_set _ k _ (by rw [up_len]; exact hk), hx]
  dsimp only
  have e : ((cellsL (up (fun q => (-q.1, q.2)) l k)).set (k * 2) (.int .i64 (-x)))[k * 2 + 1]? = some (.int .i64 y) := by
    rw [List.getElem?_set, if_neg (by omega)]
    have c := (cellsL_at (up (fun q => (-q.1, q.2)) l k) k (x, y) (by rw [g_some (by rw [up_len]; exact hk), up_at _ l hk, hx])).2
    exact c
  obtain ⟨hlt, e2⟩ := List.getElem?_eq_some_iff.1 e
  rw [show ((cellsL (up (fun q => (-q.1, q.2)) l k)).set (k * 2) (.int .i64 (-x))).set (k * 2 + 1) (.int .i64 y) = (cellsL (up (fun q => (-q.1, q.2)) l k)).set (k * 2) (.int .i64 (-x)) by rw [← e2]; exact List.set_getElem_self hlt]
  exact h1
end Go.Proofs.YtlcgbeocdimboaaDoor
