/- The contract of poly's Turn once more: the answer lies in a block of its own. -/
import Derived.Test.YtlcgbeocdimboaaDoorPTurnB
set_option linter.unusedVariables false
set_option linter.unusedSimpArgs false
namespace Go.Proofs.YtlcgbeocdimboaaDoor
open Go.ChangeShapes Go.WideShapes Go.ChangeAt Go.RowKit Go.Shelf Pm

def FreshP (L : List P) (w : World) (e : Ending) (w' : World) : Prop := ∃ g m c, e = .returned (.slice (some ⟨g, 0, none⟩) m c) ∧ RdP w' (.slice (some ⟨g, 0, none⟩) m c) L ∧ Q w w' ∧ w.heap.size ≤ g
set_option maxRecDepth 100000 in
set_option maxHeartbeats 1600000 in
theorem TurnF_0 (v : Value) (l : List P) (q : Int) (w : World) (hr : RdP w v l) (hl : l.length ≤ 1000000) (hn : Hid (negL l = true)) (h0 : l ≠ []) (hq : Hid (bits BinOp.and IntKind.i64 q 3 = 0)) (hf : Hid (FitL l)) : Calls Tryd.prog 33 #[v, .int .i64 q] w (FreshP (l.map (fun q => q)) w) := by
  have HR := Lib.hid hr
  have HL := Lib.hid hl
  have HLM := Lib.hid (show l.length ≤ maxLen by unfold maxLen; omega)
  have HNE := Lib.hid h0
  have hq3 := hq.out
  obtain ⟨A, c, rfl, hc, _⟩ := hr
  obtain ⟨n, hn'⟩ : ∃ n, l.length = n := ⟨_, rfl⟩
  have HN := Lib.hid hn'
  rw [hn'] at HR hl
  rw [hn']
  clear hc h0 hn'
  go_enter Tryd.func33, Tryd.ntmps33
  go_wp2_with fail
  refine (canNeg_c _ l true hn _ HR.out HLM.out).mono ?_; rintro e w1 ⟨rfl, hq1⟩
  have HQ1 := Lib.hid hq1
  clear hq1
  go_wp2_with fail
  refine (clone_c _ l _ (RdG.q HR.out HQ1.out) HL.out).mono ?_
  rintro e w2 (⟨h0, _, _⟩ | ⟨gb, cap, rfl, ho2, hq2⟩)
  · exact absurd h0 HNE.out
  rw [HN.out] at ho2 ⊢
  have hgf := ho2.form (by rw [HN.out]; have := List.length_pos_iff.2 HNE.out; rw [HN.out] at this; omega)
  obtain ⟨gb', cap', ev, hcap, hgB, hgw⟩ := hgf
  obtain ⟨rfl, rfl⟩ : gb = gb' ∧ cap = cap' := by injection ev with e1 e2 e3; injection e1 with e1; injection e1 with e1; exact ⟨e1, e3⟩
  clear ev
  rw [HN.out] at hcap
  have HG := Lib.hid (show w1.heap.size ≤ gb from hgB)
  have HI0 := Lib.hid (show TuI gb (fun q => q) l 0 w1 w2 from ⟨by rw [up_zero]; exact wr_own ho2 HN.out.symm hgw, hq2⟩)
  clear ho2 hq2 hgB hgw
  go_wp2_with fail
  go_loopw [15] (fun u wr => ∃ k : Nat, k ≤ n ∧ u = .int .i64 k ∧ Hid (TuI gb (fun q => q) l k w1 wr)) (fun u _ => n - (intOf u).toNat)
  case atStart => exact ⟨0, Nat.zero_le _, rfl, HI0⟩
  case round =>
    obtain ⟨k, hk, rfl, HI⟩ := hrel
    by_cases hlt : k < n
    · have hkl : k < l.length := by rw [HN.out]; exact hlt
      have HKL := Lib.hid hkl
      obtain ⟨⟨c0, c1⟩, f0, f1⟩ := HI.out.1.at (i := k) (by rw [up_len]; exact hkl)
      rw [up_at _ l hkl] at c0 c1
      have hng := neg_at hn.out hkl
      have hft := fit_g hf.out k
      obtain ⟨⟨x, y⟩, hx⟩ : ∃ q, g l k = q := ⟨_, rfl⟩
      rw [hx] at c0 c1 hng hft
      have HX := Lib.hid hx
      dsimp only at c0 c1 hng hft
      have nx := negFit hft.1 hng.1
      have ny := negFit hft.2 hng.2
      have hsz := HI.out.1.1
      have hss := HI.out.2.size
      have HS := Lib.hid hss
      have HT := Lib.hid (turn_same (o := .cells #[.int .i64 x, .int .i64 y] 38) HI.out hkl hss)
      clear hx hng hft hkl hss nx ny
      go_wp2_with fail
      go_roundw
      case rel => exact ⟨k + 1, by omega, by go_num, HT⟩
      case measure => simp [intOf] <;> omega
    · obtain rfl : k = n := by omega
      have HE := Lib.hid (show Wr wr gb (l.map (fun q => q)) by have := HI.out.1; rw [← HN.out, up_all] at this; exact this)
      go_wp2_with fail
      go_ret
      exact ⟨_, _, _, rfl, HE.out.rd (by rw [List.length_map, HN.out]) hcap, HQ1.out.trans HI.out.2, Nat.le_trans HQ1.out.size HG.out⟩
set_option maxRecDepth 100000 in
set_option maxHeartbeats 1600000 in
theorem TurnF_1 (v : Value) (l : List P) (q : Int) (w : World) (hr : RdP w v l) (hl : l.length ≤ 1000000) (hn : Hid (negL l = true)) (h0 : l ≠ []) (hq : Hid (bits BinOp.and IntKind.i64 q 3 = 1)) (hf : Hid (FitL l)) : Calls Tryd.prog 33 #[v, .int .i64 q] w (FreshP (l.map (fun q => (-q.2, q.1))) w) := by
  have HR := Lib.hid hr
  have HL := Lib.hid hl
  have HLM := Lib.hid (show l.length ≤ maxLen by unfold maxLen; omega)
  have HNE := Lib.hid h0
  have hq3 := hq.out
  obtain ⟨A, c, rfl, hc, _⟩ := hr
  obtain ⟨n, hn'⟩ : ∃ n, l.length = n := ⟨_, rfl⟩
  have HN := Lib.hid hn'
  rw [hn'] at HR hl
  rw [hn']
  clear hc h0 hn'
  go_enter Tryd.func33, Tryd.ntmps33
  go_wp2_with fail
  refine (canNeg_c _ l true hn _ HR.out HLM.out).mono ?_; rintro e w1 ⟨rfl, hq1⟩
  have HQ1 := Lib.hid hq1
  clear hq1
  go_wp2_with fail
  refine (clone_c _ l _ (RdG.q HR.out HQ1.out) HL.out).mono ?_
  rintro e w2 (⟨h0, _, _⟩ | ⟨gb, cap, rfl, ho2, hq2⟩)
  · exact absurd h0 HNE.out
  rw [HN.out] at ho2 ⊢
  have hgf := ho2.form (by rw [HN.out]; have := List.length_pos_iff.2 HNE.out; rw [HN.out] at this; omega)
  obtain ⟨gb', cap', ev, hcap, hgB, hgw⟩ := hgf
  obtain ⟨rfl, rfl⟩ : gb = gb' ∧ cap = cap' := by injection ev with e1 e2 e3; injection e1 with e1; injection e1 with e1; exact ⟨e1, e3⟩
  clear ev
  rw [HN.out] at hcap
  have HG := Lib.hid (show w1.heap.size ≤ gb from hgB)
  have HI0 := Lib.hid (show TuI gb (fun q => (-q.2, q.1)) l 0 w1 w2 from ⟨by rw [up_zero]; exact wr_own ho2 HN.out.symm hgw, hq2⟩)
  clear ho2 hq2 hgB hgw
  go_wp2_with fail
  go_loopw [15] (fun u wr => ∃ k : Nat, k ≤ n ∧ u = .int .i64 k ∧ Hid (TuI gb (fun q => (-q.2, q.1)) l k w1 wr)) (fun u _ => n - (intOf u).toNat)
  case atStart => exact ⟨0, Nat.zero_le _, rfl, HI0⟩
  case round =>
    obtain ⟨k, hk, rfl, HI⟩ := hrel
    by_cases hlt : k < n
    · have hkl : k < l.length := by rw [HN.out]; exact hlt
      have HKL := Lib.hid hkl
      obtain ⟨⟨c0, c1⟩, f0, f1⟩ := HI.out.1.at (i := k) (by rw [up_len]; exact hkl)
      rw [up_at _ l hkl] at c0 c1
      have hng := neg_at hn.out hkl
      have hft := fit_g hf.out k
      obtain ⟨⟨x, y⟩, hx⟩ : ∃ q, g l k = q := ⟨_, rfl⟩
      rw [hx] at c0 c1 hng hft
      have HX := Lib.hid hx
      dsimp only at c0 c1 hng hft
      have nx := negFit hft.1 hng.1
      have ny := negFit hft.2 hng.2
      have hsz := HI.out.1.1
      have hss := HI.out.2.size
      have HS := Lib.hid hss
      have HT := Lib.hid (turn_next (o := .cells #[.int .i64 x, .int .i64 y] 38) HI.out hkl hx (show _ = (-y, x) from rfl) HG.out hss)
      have a0 := old_row (.cells #[.int .i64 x, .int .i64 y] 38) hsz c0
      have a1 := old_row (.cells #[.int .i64 x, .int .i64 y] 38) hsz c1
      have b0 := old_free (.cells #[.int .i64 x, .int .i64 y] 38) hsz f0
      have b1 := old_free (.cells #[.int .i64 x, .int .i64 y] 38) hsz f1
      have a2 := cell_far (u := .int .i64 (-y)) (show k * 2 ≠ k * 2 + 1 by omega) a1
      clear hx hng hft hkl hss
      go_wp2_with fail
      go_roundw
      case rel => exact ⟨k + 1, by omega, by go_num, HT⟩
      case measure => simp [intOf] <;> omega
    · obtain rfl : k = n := by omega
      have HE := Lib.hid (show Wr wr gb (l.map (fun q => (-q.2, q.1))) by have := HI.out.1; rw [← HN.out, up_all] at this; exact this)
      go_wp2_with fail
      go_ret
      exact ⟨_, _, _, rfl, HE.out.rd (by rw [List.length_map, HN.out]) hcap, HQ1.out.trans HI.out.2, Nat.le_trans HQ1.out.size HG.out⟩
set_option maxRecDepth 100000 in
set_option maxHeartbeats 1600000 in
theorem TurnF_2 (v : Value) (l : List P) (q : Int) (w : World) (hr : RdP w v l) (hl : l.length ≤ 1000000) (hn : Hid (negL l = true)) (h0 : l ≠ []) (hq : Hid (bits BinOp.and IntKind.i64 q 3 = 2)) (hf : Hid (FitL l)) : Calls Tryd.prog 33 #[v, .int .i64 q] w (FreshP (l.map (fun q => (-q.1, -q.2))) w) := by
  have HR := Lib.hid hr
  have HL := Lib.hid hl
  have HLM := Lib.hid (show l.length ≤ maxLen by unfold maxLen; omega)
  have HNE := Lib.hid h0
  have hq3 := hq.out
  obtain ⟨A, c, rfl, hc, _⟩ := hr
  obtain ⟨n, hn'⟩ : ∃ n, l.length = n := ⟨_, rfl⟩
  have HN := Lib.hid hn'
  rw [hn'] at HR hl
  rw [hn']
  clear hc h0 hn'
  go_enter Tryd.func33, Tryd.ntmps33
  go_wp2_with fail
  refine (canNeg_c _ l true hn _ HR.out HLM.out).mono ?_; rintro e w1 ⟨rfl, hq1⟩
  have HQ1 := Lib.hid hq1
  clear hq1
  go_wp2_with fail
  refine (clone_c _ l _ (RdG.q HR.out HQ1.out) HL.out).mono ?_
  rintro e w2 (⟨h0, _, _⟩ | ⟨gb, cap, rfl, ho2, hq2⟩)
  · exact absurd h0 HNE.out
  rw [HN.out] at ho2 ⊢
  have hgf := ho2.form (by rw [HN.out]; have := List.length_pos_iff.2 HNE.out; rw [HN.out] at this; omega)
  obtain ⟨gb', cap', ev, hcap, hgB, hgw⟩ := hgf
  obtain ⟨rfl, rfl⟩ : gb = gb' ∧ cap = cap' := by injection ev with e1 e2 e3; injection e1 with e1; injection e1 with e1; exact ⟨e1, e3⟩
  clear ev
  rw [HN.out] at hcap
  have HG := Lib.hid (show w1.heap.size ≤ gb from hgB)
  have HI0 := Lib.hid (show TuI gb (fun q => (-q.1, -q.2)) l 0 w1 w2 from ⟨by rw [up_zero]; exact wr_own ho2 HN.out.symm hgw, hq2⟩)
  clear ho2 hq2 hgB hgw
  go_wp2_with fail
  go_loopw [15] (fun u wr => ∃ k : Nat, k ≤ n ∧ u = .int .i64 k ∧ Hid (TuI gb (fun q => (-q.1, -q.2)) l k w1 wr)) (fun u _ => n - (intOf u).toNat)
  case atStart => exact ⟨0, Nat.zero_le _, rfl, HI0⟩
  case round =>
    obtain ⟨k, hk, rfl, HI⟩ := hrel
    by_cases hlt : k < n
    · have hkl : k < l.length := by rw [HN.out]; exact hlt
      have HKL := Lib.hid hkl
      obtain ⟨⟨c0, c1⟩, f0, f1⟩ := HI.out.1.at (i := k) (by rw [up_len]; exact hkl)
      rw [up_at _ l hkl] at c0 c1
      have hng := neg_at hn.out hkl
      have hft := fit_g hf.out k
      obtain ⟨⟨x, y⟩, hx⟩ : ∃ q, g l k = q := ⟨_, rfl⟩
      rw [hx] at c0 c1 hng hft
      have HX := Lib.hid hx
      dsimp only at c0 c1 hng hft
      have nx := negFit hft.1 hng.1
      have ny := negFit hft.2 hng.2
      have hsz := HI.out.1.1
      have hss := HI.out.2.size
      have HS := Lib.hid hss
      have HT := Lib.hid (turn_next (o := .cells #[.int .i64 x, .int .i64 y] 38) HI.out hkl hx (show _ = (-x, -y) from rfl) HG.out hss)
      have a0 := old_row (.cells #[.int .i64 x, .int .i64 y] 38) hsz c0
      have a1 := old_row (.cells #[.int .i64 x, .int .i64 y] 38) hsz c1
      have b0 := old_free (.cells #[.int .i64 x, .int .i64 y] 38) hsz f0
      have b1 := old_free (.cells #[.int .i64 x, .int .i64 y] 38) hsz f1
      have a2 := cell_far (u := .int .i64 (-x)) (show k * 2 ≠ k * 2 + 1 by omega) a1
      clear hx hng hft hkl hss
      go_wp2_with fail
      go_roundw
      case rel => exact ⟨k + 1, by omega, by go_num, HT⟩
      case measure => simp [intOf] <;> omega
    · obtain rfl : k = n := by omega
      have HE := Lib.hid (show Wr wr gb (l.map (fun q => (-q.1, -q.2))) by have := HI.out.1; rw [← HN.out, up_all] at this; exact this)
      go_wp2_with fail
      go_ret
      exact ⟨_, _, _, rfl, HE.out.rd (by rw [List.length_map, HN.out]) hcap, HQ1.out.trans HI.out.2, Nat.le_trans HQ1.out.size HG.out⟩
set_option maxRecDepth 100000 in
set_option maxHeartbeats 1600000 in
theorem TurnF_3 (v : Value) (l : List P) (q : Int) (w : World) (hr : RdP w v l) (hl : l.length ≤ 1000000) (hn : Hid (negL l = true)) (h0 : l ≠ []) (hq : Hid (bits BinOp.and IntKind.i64 q 3 = 3)) (hf : Hid (FitL l)) : Calls Tryd.prog 33 #[v, .int .i64 q] w (FreshP (l.map (fun q => (q.2, -q.1))) w) := by
  have HR := Lib.hid hr
  have HL := Lib.hid hl
  have HLM := Lib.hid (show l.length ≤ maxLen by unfold maxLen; omega)
  have HNE := Lib.hid h0
  have hq3 := hq.out
  obtain ⟨A, c, rfl, hc, _⟩ := hr
  obtain ⟨n, hn'⟩ : ∃ n, l.length = n := ⟨_, rfl⟩
  have HN := Lib.hid hn'
  rw [hn'] at HR hl
  rw [hn']
  clear hc h0 hn'
  go_enter Tryd.func33, Tryd.ntmps33
  go_wp2_with fail
  refine (canNeg_c _ l true hn _ HR.out HLM.out).mono ?_; rintro e w1 ⟨rfl, hq1⟩
  have HQ1 := Lib.hid hq1
  clear hq1
  go_wp2_with fail
  refine (clone_c _ l _ (RdG.q HR.out HQ1.out) HL.out).mono ?_
  rintro e w2 (⟨h0, _, _⟩ | ⟨gb, cap, rfl, ho2, hq2⟩)
  · exact absurd h0 HNE.out
  rw [HN.out] at ho2 ⊢
  have hgf := ho2.form (by rw [HN.out]; have := List.length_pos_iff.2 HNE.out; rw [HN.out] at this; omega)
  obtain ⟨gb', cap', ev, hcap, hgB, hgw⟩ := hgf
  obtain ⟨rfl, rfl⟩ : gb = gb' ∧ cap = cap' := by injection ev with e1 e2 e3; injection e1 with e1; injection e1 with e1; exact ⟨e1, e3⟩
  clear ev
  rw [HN.out] at hcap
  have HG := Lib.hid (show w1.heap.size ≤ gb from hgB)
  have HI0 := Lib.hid (show TuI gb (fun q => (q.2, -q.1)) l 0 w1 w2 from ⟨by rw [up_zero]; exact wr_own ho2 HN.out.symm hgw, hq2⟩)
  clear ho2 hq2 hgB hgw
  go_wp2_with fail
  go_loopw [15] (fun u wr => ∃ k : Nat, k ≤ n ∧ u = .int .i64 k ∧ Hid (TuI gb (fun q => (q.2, -q.1)) l k w1 wr)) (fun u _ => n - (intOf u).toNat)
  case atStart => exact ⟨0, Nat.zero_le _, rfl, HI0⟩
  case round =>
    obtain ⟨k, hk, rfl, HI⟩ := hrel
    by_cases hlt : k < n
    · have hkl : k < l.length := by rw [HN.out]; exact hlt
      have HKL := Lib.hid hkl
      obtain ⟨⟨c0, c1⟩, f0, f1⟩ := HI.out.1.at (i := k) (by rw [up_len]; exact hkl)
      rw [up_at _ l hkl] at c0 c1
      have hng := neg_at hn.out hkl
      have hft := fit_g hf.out k
      obtain ⟨⟨x, y⟩, hx⟩ : ∃ q, g l k = q := ⟨_, rfl⟩
      rw [hx] at c0 c1 hng hft
      have HX := Lib.hid hx
      dsimp only at c0 c1 hng hft
      have nx := negFit hft.1 hng.1
      have ny := negFit hft.2 hng.2
      have hsz := HI.out.1.1
      have hss := HI.out.2.size
      have HS := Lib.hid hss
      have HT := Lib.hid (turn_next (o := .cells #[.int .i64 x, .int .i64 y] 38) HI.out hkl hx (show _ = (y, -x) from rfl) HG.out hss)
      have a0 := old_row (.cells #[.int .i64 x, .int .i64 y] 38) hsz c0
      have a1 := old_row (.cells #[.int .i64 x, .int .i64 y] 38) hsz c1
      have b0 := old_free (.cells #[.int .i64 x, .int .i64 y] 38) hsz f0
      have b1 := old_free (.cells #[.int .i64 x, .int .i64 y] 38) hsz f1
      have a2 := cell_far (u := .int .i64 (y)) (show k * 2 ≠ k * 2 + 1 by omega) a1
      clear hx hng hft hkl hss
      go_wp2_with fail
      go_roundw
      case rel => exact ⟨k + 1, by omega, by go_num, HT⟩
      case measure => simp [intOf] <;> omega
    · obtain rfl : k = n := by omega
      have HE := Lib.hid (show Wr wr gb (l.map (fun q => (q.2, -q.1))) by have := HI.out.1; rw [← HN.out, up_all] at this; exact this)
      go_wp2_with fail
      go_ret
      exact ⟨_, _, _, rfl, HE.out.rd (by rw [List.length_map, HN.out]) hcap, HQ1.out.trans HI.out.2, Nat.le_trans HQ1.out.size HG.out⟩
theorem TurnF_c (v : Value) (l : List P) (q : Int) (w : World) (hr : RdP w v l) (hl : l.length ≤ 1000000) (hq : Fit q) (hf : FitL l) (hb : negL l = true) (h0 : l ≠ []) : Calls Tryd.prog 33 #[v, .int .i64 q] w (FreshP (turn l q) w) := by
  unfold turn
  rw [hb, if_pos rfl]
  have h4 : q % 4 = 0 ∨ q % 4 = 1 ∨ q % 4 = 2 ∨ q % 4 = 3 := by omega
  have hb4 := and_three q hq
  rcases h4 with e | e | e | e
  · have : l.map (fun z => rot z (qt q)) = l.map fun z => z := by unfold qt; rw [e]; rfl
    rw [this]; exact TurnF_0 v l q w hr hl (Lib.hid hb) h0 (Lib.hid (by rw [hb4, e])) (Lib.hid hf)
  · have : l.map (fun z => rot z (qt q)) = l.map fun z => (-z.2, z.1) := by unfold qt; rw [e]; rfl
    rw [this]; exact TurnF_1 v l q w hr hl (Lib.hid hb) h0 (Lib.hid (by rw [hb4, e])) (Lib.hid hf)
  · have : l.map (fun z => rot z (qt q)) = l.map fun z => (-z.1, -z.2) := by unfold qt; rw [e]; rfl
    rw [this]; exact TurnF_2 v l q w hr hl (Lib.hid hb) h0 (Lib.hid (by rw [hb4, e])) (Lib.hid hf)
  · have : l.map (fun z => rot z (qt q)) = l.map fun z => (z.2, -z.1) := by unfold qt; rw [e]; exact List.map_congr_left fun z _ => (rot_of z).2.2.2
    rw [this]; exact TurnF_3 v l q w hr hl (Lib.hid hb) h0 (Lib.hid (by rw [hb4, e])) (Lib.hid hf)
end Go.Proofs.YtlcgbeocdimboaaDoor
