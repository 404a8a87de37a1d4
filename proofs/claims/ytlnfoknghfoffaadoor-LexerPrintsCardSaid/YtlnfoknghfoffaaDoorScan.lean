/- The contract of Scan. -/
import Derived.Test.YtlnfoknghfoffaaDoorScanM
set_option linter.unusedVariables false
set_option linter.unusedSimpArgs false
namespace Go.Proofs.YtlnfoknghfoffaaDoor
open Go.ChangeShapes Go.WideShapes Go.ChangeAt Go.RowKit Lm

theorem w64 {r : Nat} (h : r ≤ 1000000) : wrap64 (r : Int) = (r : Int) := by unfold wrap64; omega
theorem Below.q {B : Nat} {w0 a b : World} (h : Below B w0 a) (hB : B ≤ w0.heap.size) (hq : Q a b) : Below B w0 b := Below.trans h (Below.mono hq (Nat.le_trans hB h.size))
theorem blk_s {w : World} {b : Nat} {c0 c1 c2 c3 x : Value} {T : TypeId} (h : w.heap[b]? = some (.cells #[c0, c1, c2, c3] T (0, 0))) : (w.setCell ⟨b, 3, none⟩ x).heap[b]? = some (.cells #[c0, c1, c2, x] T (0, 0)) := by
  have hlt := lt_blk h
  have h' : w.heap[b] = .cells #[c0, c1, c2, c3] T (0, 0) := by simpa [Array.getElem?_eq_getElem hlt] using h
  show (w.heap.modify b _)[b]? = _
  rw [Array.getElem?_eq_getElem (by simpa using hlt), Array.getElem_modify_self, h']
  rfl
def ScPost (s : ByteArray) (w : World) (E : Ending) (w' : World) : Prop := ∃ v, E = .returned (.tuple #[v, .int .i64 (scan s).2.1, .int .i64 (scan s).2.2]) ∧ Own w.heap.size v (scan s).1 w' ∧ Q w w'
theorem fin_zero {acc : List LT} {r : Sc} {a : Int} (h : r = ([⟨0, ⟨#[]⟩, 0, a⟩], 0, 0)) : finS acc r = (acc ++ [⟨0, ⟨#[]⟩, 0, a⟩], 0, 0) := by rw [h]; rfl
theorem fin_bad {acc : List LT} {r : Sc} {e p : Nat} (h : r = ([], e, p)) (he : e ≠ 0) : finS acc r = ([], e, p) := by rw [h]; unfold finS; rw [if_neg he]
set_option maxRecDepth 100000 in
set_option maxHeartbeats 3200000 in
theorem Scan_c (s : ByteArray) (w : World) (hL : Laid w) (hs : s.size ≤ 1000000) : Calls Tryd.prog 11 #[.string s] w (ScPost s w) := by
  obtain ⟨i0, hi, hz0, hz1, hz2⟩ := info_parts infoL
  by_cases h8 : 8000 < s.size
  · have i1 : 8000 < (s.size : Int) := by omega
    have HE := Lib.hid (show scan s = ([], 4, 0) by unfold scan; rw [if_pos h8])
    go_enter Tryd.func11, Tryd.ntmps11
    go_wp2_with fail
    go_ret3
    exact ⟨_, by rw [HE.out]; rfl, by rw [HE.out]; exact own_nil _ _, Q.refl _⟩
  · have i1 : ¬ 8000 < (s.size : Int) := by omega
    obtain ⟨LL, EE, PP, hres⟩ : ∃ a b c, scan s = (a, b, c) := ⟨_, _, _, rfl⟩
    have HRES := Lib.hid hres
    have HFIN := Lib.hid (show finS [] (scS s (skS s false 0)) = (LL, EE, PP) by unfold scan at hres; rwa [if_neg h8] at hres)
    have HL := Lib.hid hL
    clear hres hL
    go_enter Tryd.func11, Tryd.ntmps11
    go_wp2_with fail
    refine (gap_c s _ (by unfold maxLen; omega)).mono ?_; rintro E w1 ⟨rfl, hq1⟩
    have Q1 := Lib.hid hq1
    have HSK := Lib.hid (skS_le (s := s) false (Nat.zero_le _))
    obtain ⟨p0, hp0⟩ : ∃ p, skS s false 0 = p := ⟨_, rfl⟩
    rw [hp0] at HFIN HSK ⊢
    clear hq1 hp0
    go_wp2_with fail
    go_loopw [5, 6] (fun v5 v6 wr => ∃ (acc : List LT) (p : Nat), (p ≤ s.size ∧ acc.length ≤ p) ∧ v6 = .int .i64 p ∧ Hid (finS acc (scS s p) = (LL, EE, PP)) ∧ Hid (Own w.heap.size v5 acc wr ∧ Below w.heap.size w wr)) (fun _ v6 _ => s.size - (intOf v6).toNat)
    case atStart => exact ⟨[], p0, ⟨HSK.out, Nat.zero_le _⟩, rfl, HFIN, own_nil _ _, Q1.out⟩
    case round =>
      obtain ⟨acc, p, ⟨hp, hacc⟩, rfl, HF, HO⟩ := hrel
      by_cases hlt : p < s.size
      · have HR := Lib.hid (rs_size s p)
        have i2 : (0 : Int) ≤ (p : Int) := by omega
        have i3 : (p : Int) ≤ (s.size : Int) := by omega
        obtain ⟨k, t, n, e, hf⟩ : ∃ k t n e, frT (rs s p) = (k, t, n, e) := ⟨_, _, _, _, rfl⟩
        have HFR := Lib.hid hf
        have HC := Lib.hid (first_c (rs s p) wr (by obtain ⟨a, b, r⟩ := HL.out; exact ⟨a, b, Joins.var_stays gRng r HO.out.2 (Nat.le_refl _)⟩) (by have := HR.out; omega) (by have := HR.out; omega))
        rw [hf] at HC
        unfold lxT rs at HC
        clear hf
        go_wp2_with fail
        refine HC.out.mono ?_; rintro E w2 ⟨rfl, hq2⟩
        have O2 := Lib.hid (own_other HO.out.1 hq2)
        have B2 := Lib.hid (Below.q HO.out.2 (Nat.le_refl _) hq2)
        clear hq2
        by_cases he : e = 0
        · subst he
          obtain ⟨ng1, ng2, ng3, ng4, _⟩ := next_gt hlt (by rw [HFR.out])
          rw [HFR.out] at ng1 ng2 ng3 ng4
          simp only at ng1 ng2 ng3 ng4
          have HS := Lib.hid (scS_go acc hlt HFR.out rfl)
          obtain ⟨q, hq⟩ : ∃ q, p + t.size = q := ⟨_, rfl⟩
          rw [hq] at ng1 ng2 ng3 HS
          have hpq : (p : Int) + (t.size : Int) = (q : Int) := by omega
          have i4 : (0 : Int) ≤ (q : Int) := by omega
          have i5 : (q : Int) ≤ (s.size : Int) := by omega
          have HG := Lib.hid (skS_rs (s := s) q ng3 _ false 0 rfl)
          have HGC := Lib.hid (fun w => gap_c (rs s q) w (by rw [rs_size]; unfold maxLen; omega))
          unfold rs at HGC
          obtain ⟨g, hg⟩ : ∃ g, skS (s.extract q s.size) false 0 = g := ⟨_, rfl⟩
          rw [hg] at HGC
          have HGG := Lib.hid (show q + g = skS s false q by rw [← hg]; exact HG.out)
          obtain ⟨r, hr⟩ : ∃ r, skS s false q = r := ⟨_, rfl⟩
          rw [hr] at HS HGG ng1 ng2
          have hqr : (q : Int) + (g : Int) = (r : Int) := by have := HGG.out; omega
          have NG := Lib.hid (And.intro ng1 ng2)
          have HW := Lib.hid (w64 (r := r) (by omega))
          have HACC := Lib.hid hacc
          have RM := Lib.hid (room_of (n := acc.length) (by omega))
          obtain ⟨W3, hW3⟩ : ∃ W, w2.alloc (.cells #[.int .i64 k, .string t, .int .i64 n, .int .i64 p] 32) = W := ⟨_, rfl⟩
          have X3 := Lib.hid (show W3.heap[w2.heap.size]? = some (.cells #[.int .i64 k, .string t, .int .i64 n, .int .i64 p] 32 (0, 0)) by rw [← hW3]; exact new_blk w2 _ _)
          have O3 := Lib.hid (show Own w.heap.size u5 acc W3 by rw [← hW3]; exact O2.out.alloc _)
          have B3 := Lib.hid (show Below w.heap.size w W3 by rw [← hW3]; exact B2.out.alloc B2.out.size _)
          obtain ⟨x0, x1, x2, x3, xf⟩ := blk4 X3.out
          have hown1 : W3.ownsRow w.heap.size 32 4 u5 acc.length (cellsL acc) := O3.out
          clear hq hg hr ng1 ng2 ng3 ng4 hacc
          go_wp2_with (first
            | (at_builtin; refine wpList_append_own _ rfl _ _ 23 rfl w.heap.size 32 i0 (.agg #[.int .i64 0, .string ⟨#[]⟩, .int .i64 0, .int .i64 0]) 4 40 Tryd.underlying23 hi hz0 hz1 hz2 rfl (by decide) _ _ _ rfl (hown1.alloc _) ⟨W3.heap.size, 0, none⟩ 1 1 [.int .i64 k, .string t, .int .i64 n, .int .i64 p] rfl rfl (one_at _ ⟨k, t, n, p⟩ _) (cellsL_one ⟨k, t, n, p⟩) RM.out.1 RM.out.2 (alloc_le B3.out.size _) ?_)
            | go_in)
          intro v' w4 hown' hgrow _
          have N := Lib.hid (own_next (x := ⟨k, t, n, p⟩) O3.out B3.out B3.out.size hown' hgrow)
          have X4 := (hgrow.block _ (Nat.lt_of_lt_of_le (lt_blk X3.out) (alloc_le (Nat.le_refl _) _)) (fun e => Nat.lt_irrefl _ (O2.out.lt _ e.symm).2)).trans ((Lib.alloc_old W3 _ _ (lt_blk X3.out)).trans X3.out)
          obtain ⟨y0, y1, y2, y3, yf⟩ := blk4 X4
          clear hown' hgrow hown1 hW3 x0 x1 x2 x3 xf X4
          go_wp2_with fail
          refine (HGC.out _).mono ?_; rintro E w6 ⟨rfl, hq6⟩
          go_wp2_with fail
          go_roundw
          case rel => exact ⟨acc ++ [⟨k, t, n, p⟩], r, ⟨NG.out.2, by rw [List.length_append]; have := HACC.out; have := NG.out.1; simp; omega⟩, by rw [HW.out], by rw [← HS.out]; exact HF.out, own_other N.out.1 hq6, Below.q N.out.2 (Nat.le_refl _) hq6⟩
          case measure =>
            rw [HW.out]
            have h1 := NG.out
            clear HW HS HG HGG
            simp [intOf] <;> omega
        · have t0 : ((e : Int) != 0) = true := by simp; omega
          have HE := Lib.hid (show (LL, EE, PP) = ([], e, p) by
            rw [← HF.out]
            exact fin_bad (by rw [scS_bad hlt (by rw [HFR.out]; exact he), HFR.out]) he)
          clear he
          go_wp2_with fail
          go_ret3
          exact ⟨_, by rw [HRES.out, HE.out]; rfl, by rw [HRES.out, HE.out]; exact own_nil _ _, (B2.out.alloc B2.out.size _)⟩
      · obtain rfl : p = s.size := by omega
        have HE := Lib.hid (show (LL, EE, PP) = (acc ++ [⟨0, ⟨#[]⟩, 0, s.size⟩], 0, 0) by rw [← HF.out]; exact fin_zero (scS_end hlt))
        have O2 := Lib.hid HO.out.1
        have B2 := Lib.hid HO.out.2
        have RM := Lib.hid (room_of (n := acc.length) (by omega))
        have hown1 : wr.ownsRow w.heap.size 32 4 u5 acc.length (cellsL acc) := O2.out
        go_wp2_with (first
          | (at_builtin; refine wpList_append_own _ rfl _ _ 23 rfl w.heap.size 32 i0 (.agg #[.int .i64 0, .string ⟨#[]⟩, .int .i64 0, .int .i64 0]) 4 40 Tryd.underlying23 hi hz0 hz1 hz2 rfl (by decide) _ _ _ rfl (hown1.alloc _) ⟨wr.heap.size, 0, none⟩ 1 1 [.int .i64 0, .string ⟨#[]⟩, .int .i64 0, .int .i64 s.size] rfl rfl (one_at _ ⟨0, ⟨#[]⟩, 0, s.size⟩ _) (cellsL_one ⟨0, ⟨#[]⟩, 0, s.size⟩) RM.out.1 RM.out.2 (alloc_le B2.out.size _) ?_)
          | go_in)
        intro v' w4 hown' hgrow _
        have N := Lib.hid (own_next (x := ⟨0, ⟨#[]⟩, 0, s.size⟩) O2.out B2.out B2.out.size hown' hgrow)
        clear hown' hgrow hown1
        go_wp2_with fail
        go_ret3
        exact ⟨_, by rw [HRES.out, HE.out]; rfl, by rw [HRES.out, HE.out]; exact N.out.1, N.out.2⟩
end Go.Proofs.YtlnfoknghfoffaaDoor
