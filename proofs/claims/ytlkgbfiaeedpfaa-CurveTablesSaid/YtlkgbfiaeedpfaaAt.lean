/- The contract of At. -/
import Derived.Test.YtlkgbfiaeedpfaaAlong
import Derived.Test.YtlkgbfiaeedpfaaRCheck
set_option linter.unusedVariables false
set_option linter.unusedSimpArgs false
namespace Go.Proofs.Ytlkgbfiaeedpfaa
open Go.ChangeShapes Go.WideShapes Go.ChangeAt Go.RowKit Cm

/-- ints at the head of block b, not frozen -/
def Ints (W : World) (b n : Nat) (f : Nat → Int) : Prop := ∀ j, j < n → W.cell? ⟨b, j, none⟩ = some (.int .i64 (f j)) ∧ W.frozen? ⟨b, j, none⟩ = false
theorem ints_set {W : World} {b n : Nat} {f : Nat → Int} {i : Nat} (hB : Ints W b n f) (hi : i < n) (y : Int) : Ints (W.setCell ⟨b, i, none⟩ (.int .i64 y)) b n (fun j => if j = i then y else f j) := by
  intro j hj
  refine ⟨?_, by rw [World.frozen?_setCell]; exact (hB j hj).2⟩
  by_cases h : j = i
  · subst h
    simp only [if_true]
    exact World.cell?_setCell_same _ _ _ (hB j hj).1
  · simp only [h, if_false]
    exact (World.cell?_setCell_other W ⟨b, i, none⟩ ⟨b, j, none⟩ (.int .i64 y) (by intro g; injection g with g1 g2; omega)).trans (hB j hj).1
theorem ints_other {W : World} {b n : Nat} {f : Nat → Int} {g i : Nat} (hB : Ints W b n f) (hg : g ≠ b) (u : Value) : Ints (W.setCell ⟨g, i, none⟩ u) b n f := fun j hj =>
  ⟨(World.cell?_setCell_other W ⟨g, i, none⟩ ⟨b, j, none⟩ u (by intro e; injection e with e1 e2; omega)).trans (hB j hj).1, by rw [World.frozen?_setCell]; exact (hB j hj).2⟩
theorem ints_below {W W' : World} {b n : Nat} {f : Nat → Int} (hB : Ints W b n f) (h : Q W W') (hb : b < W.heap.size) : Ints W' b n f := fun j hj =>
  ⟨(h.cell (p := ⟨b, j, none⟩) hb).trans (hB j hj).1, (h.frozen (p := ⟨b, j, none⟩) hb).trans (hB j hj).2⟩
def fil (f : Nat → Int) (k j : Nat) : Int := if j < k then f j else 0
theorem fil_next {W : World} {b : Nat} {f : Nat → Int} {k : Nat} (h : Ints W b 16 (fun j => if j = k then f k else fil f k j)) : Ints W b 16 (fil f (k + 1)) := fun j hj => by
  refine ⟨(h j hj).1.trans (congrArg (fun z => some (Value.int .i64 z)) ?_), (h j hj).2⟩
  show (if j = k then f k else fil f k j) = fil f (k + 1) j
  unfold fil
  by_cases e : j = k
  · rw [if_pos e, if_pos (by omega), e]
  · rw [if_neg e]
    by_cases g : j < k
    · rw [if_pos g, if_pos (by omega)]
    · rw [if_neg g, if_neg (by omega)]
theorem asz (w : World) (o : Obj) : (w.alloc o).heap.size = w.heap.size + 1 := by show (w.heap.push _).size = _; simp
theorem ints_new (w : World) (T : TypeId) (f : Nat → Int) : Ints (w.alloc (.cells #[.int .i64 0, .int .i64 0, .int .i64 0, .int .i64 0, .int .i64 0, .int .i64 0, .int .i64 0, .int .i64 0, .int .i64 0, .int .i64 0, .int .i64 0, .int .i64 0, .int .i64 0, .int .i64 0, .int .i64 0, .int .i64 0] T)) w.heap.size 16 (fil f 0) := fun j hj => by
  refine ⟨?_, ?_⟩
  · rw [World.cell?_alloc_at _ _ _ _ rfl]
    unfold fil
    rw [if_neg (by omega)]
    rcases (show j = 0 ∨ j = 1 ∨ j = 2 ∨ j = 3 ∨ j = 4 ∨ j = 5 ∨ j = 6 ∨ j = 7 ∨ j = 8 ∨ j = 9 ∨ j = 10 ∨ j = 11 ∨ j = 12 ∨ j = 13 ∨ j = 14 ∨ j = 15 by omega) with rfl | rfl | rfl | rfl | rfl | rfl | rfl | rfl | rfl | rfl | rfl | rfl | rfl | rfl | rfl | rfl <;> rfl
  · exact World.frozen?_alloc_new (w := w) _ _ j
set_option maxRecDepth 100000 in
set_option maxHeartbeats 1600000 in
theorem At_c (v : Value) (l : List P) (x r : Int) (h : Hid (atS l x = r)) (w : World) (hr : RdP w v l) (hl : l.length ≤ maxLen) : Calls Try.prog 17 #[v, .int .i64 x] w fun e w' => e = .returned (.int .i64 r) ∧ Q w w' := by
  have HR := Lib.hid hr
  have HL := Lib.hid hl
  obtain ⟨A, c, rfl, hc, _⟩ := hr
  obtain ⟨n, hn⟩ : ∃ n, l.length = n := ⟨_, rfl⟩
  have HN := Lib.hid hn
  rw [hn] at HR
  rw [hn]
  unfold maxLen at hl
  obtain ⟨e, he⟩ : ∃ e, chk l = e := ⟨_, rfl⟩
  have HC := Lib.hid he
  by_cases h0 : e = 0
  · have HO := Lib.hid (chk_zero (he.trans h0))
    have HU := Lib.hid (show alS (X l) (Y l) n x = r by rw [← h.out]; unfold atS; rw [he, if_pos h0, hn])
    have hn0 : 1 ≤ n ∧ n ≤ 16 := by have g := HO.out; have g1 := g.one; have g2 := g.few; omega
    obtain ⟨hn1, hn16⟩ := hn0
    have h0' : ((e : Int) != 0) = false := by subst h0; rfl
    clear hc hn hl he h0
    go_enter Try.func17, Try.ntmps17
    go_wp2_with fail
    refine (Check_c _ l e HC _ HR.out HL.out).mono ?_; rintro E w1 ⟨rfl, hq1⟩
    have Q1 := Lib.hid hq1
    clear hq1
    have I0 := Lib.hid (ints_below (ints_new w1 43 (X l)) ((Q.refl _).alloc (.cells #[.int .i64 0, .int .i64 0, .int .i64 0, .int .i64 0, .int .i64 0, .int .i64 0, .int .i64 0, .int .i64 0, .int .i64 0, .int .i64 0, .int .i64 0, .int .i64 0, .int .i64 0, .int .i64 0, .int .i64 0, .int .i64 0] 43)) (by rw [asz]; exact Nat.lt_succ_self _))
    have I1 := Lib.hid (ints_new (w1.alloc (.cells #[.int .i64 0, .int .i64 0, .int .i64 0, .int .i64 0, .int .i64 0, .int .i64 0, .int .i64 0, .int .i64 0, .int .i64 0, .int .i64 0, .int .i64 0, .int .i64 0, .int .i64 0, .int .i64 0, .int .i64 0, .int .i64 0] 43)) 43 (Y l))
    go_wp2_with fail
    go_loopw [14] (fun u14 wr => ∃ k : Nat, k ≤ n ∧ u14 = .int .i64 k ∧ Hid (Ints wr w1.heap.size 16 (fil (X l) k) ∧ Ints wr (w1.heap.size + 1) 16 (fil (Y l) k) ∧ Q w1 wr ∧ w1.heap.size + 2 ≤ wr.heap.size)) (fun u14 _ => n - (intOf u14).toNat)
    case atStart => exact ⟨0, Nat.zero_le _, rfl, I0.out, (by have := I1.out; rw [asz] at this; exact this), ((Q.refl _).alloc _).alloc _, by rw [asz, asz]; omega⟩
    case round =>
      obtain ⟨k, hk, rfl, HI⟩ := hrel
      by_cases hlt : k < n
      · have hkl : k < l.length := by rw [HN.out]; exact hlt
        obtain ⟨b, off, rfl, hb, hc, c0, c1⟩ := HR.out.at (Q1.out.trans HI.out.2.2.1) hkl
        obtain ⟨px, hx⟩ : ∃ x, X l k = x := ⟨_, rfl⟩
        obtain ⟨py, hy⟩ : ∃ y, Y l k = y := ⟨_, rfl⟩
        rw [hx] at c0
        rw [hy] at c1
        obtain ⟨IX, IY, qw, sz⟩ := HI.out
        have hkn : (k : Int) < (n : Int) := by omega
        have hk16 : (k : Int) < 16 := by omega
        have hk16n : k < 16 := by omega
        obtain ⟨Wa, hWa⟩ : ∃ W, wr.alloc (.cells #[.int .i64 px, .int .i64 py] 40) = W := ⟨_, rfl⟩
        have qa : Q wr Wa := hWa ▸ (Q.refl wr).alloc _
        have b0 : Wa.cell? ⟨wr.heap.size, 0, none⟩ = some (.int .i64 px) := by rw [← hWa]; exact World.cell?_alloc_at _ _ _ _ rfl
        have b1 : Wa.cell? ⟨wr.heap.size, 1, none⟩ = some (.int .i64 py) := by rw [← hWa]; exact World.cell?_alloc_at _ _ _ _ rfl
        have JX := ints_below IX qa (by omega)
        have JY := ints_below IY qa (by omega)
        obtain ⟨Wb, hWb⟩ : ∃ W, Wa.setCell ⟨w1.heap.size, k, none⟩ (.int .i64 px) = W := ⟨_, rfl⟩
        have KX := ints_set JX hk16n px
        have KY := ints_other (g := w1.heap.size) (i := k) JY (by omega) (.int .i64 px)
        have d0 : Wb.cell? ⟨wr.heap.size, 0, none⟩ = some (.int .i64 px) := by rw [← hWb]; exact (World.cell?_setCell_other _ _ _ _ (by intro e; injection e with e1 e2; omega)).trans b0
        have d1 : Wb.cell? ⟨wr.heap.size, 1, none⟩ = some (.int .i64 py) := by rw [← hWb]; exact (World.cell?_setCell_other _ _ _ _ (by intro e; injection e with e1 e2; omega)).trans b1
        rw [hWb] at KX KY
        have LX := ints_other (g := w1.heap.size + 1) (i := k) KX (by omega) (.int .i64 py)
        have LY := ints_set KY hk16n py
        have HW := Lib.hid (show Ints (Wb.setCell ⟨w1.heap.size + 1, k, none⟩ (.int .i64 py)) w1.heap.size 16 (fil (X l) (k + 1)) ∧ Ints (Wb.setCell ⟨w1.heap.size + 1, k, none⟩ (.int .i64 py)) (w1.heap.size + 1) 16 (fil (Y l) (k + 1)) ∧ Q w1 (Wb.setCell ⟨w1.heap.size + 1, k, none⟩ (.int .i64 py)) ∧ w1.heap.size + 2 ≤ (Wb.setCell ⟨w1.heap.size + 1, k, none⟩ (.int .i64 py)).heap.size from
          ⟨fil_next (by rw [hx]; exact LX), fil_next (by rw [hy]; exact LY), Q.setA (by rw [← hWb]; exact Q.setA (qw.trans qa) (Nat.le_refl _) _) (Nat.le_succ _) _, by rw [← hWb]; simp [World.setCell]; have := qa.size; omega⟩)
        obtain ⟨z1, hz1⟩ : ∃ z, fil (X l) k k = z := ⟨_, rfl⟩
        obtain ⟨z2, hz2⟩ : ∃ z, fil (Y l) k k = z := ⟨_, rfl⟩
        have m1 := JX k hk16n
        have m2 := KY k hk16n
        rw [hz1] at m1
        rw [hz2] at m2
        obtain ⟨m1, m1f⟩ := m1
        obtain ⟨m2, m2f⟩ := m2
        clear IX IY qw sz JX JY KX KY LX LY hz1 hz2 hx hy qa
        go_wp2_with fail
        go_region
        clear b0 b1 d0 d1 m1 m2 m1f m2f
        go_wp2_with fail
        go_roundw
        case rel => exact ⟨k + 1, by omega, by go_num, fun j hj => HW.out.1 j hj, fun j hj => HW.out.2.1 j hj, HW.out.2.2.1.drew, HW.out.2.2.2⟩
        case measure => simp [intOf] <;> omega
      · obtain rfl : k = n := by omega
        have HI1 := Lib.hid HI.out
        have hk16' : (k : Int) ≤ 16 := by omega
        have HAL := Lib.hid (fun (W : World) (hq : Q wr W) => along_c (.slice (some ⟨w1.heap.size, 0, none⟩) k 16) (.slice (some ⟨w1.heap.size + 1, 0, none⟩) 16 16) 16 k (X l) (Y l) x r HU W
          ⟨w1.heap.size, 0, 16, rfl, hn16, Nat.le_refl _, by have := HI1.out.2.2.2; have := hq.size; omega, fun i hi => by
            have h1 := (HI1.out.1 i (by omega)).1
            rw [Nat.zero_add]
            refine (hq.cell (p := ⟨w1.heap.size, i, none⟩) (by have := HI1.out.2.2.2; show w1.heap.size < _; omega)).trans (h1.trans ?_)
            unfold fil; rw [if_pos hi]⟩
          ⟨w1.heap.size + 1, 0, 16, rfl, Nat.le_refl _, hn16, by have := HI1.out.2.2.2; have := hq.size; omega, fun i hi => by
            have h1 := (HI1.out.2.1 i (by omega)).1
            rw [Nat.zero_add]
            refine (hq.cell (p := ⟨w1.heap.size + 1, i, none⟩) (by have := HI1.out.2.2.2; show w1.heap.size + 1 < _; omega)).trans (h1.trans ?_)
            unfold fil; rw [if_pos hi]⟩
          (by omega) hn16 (by omega) (fun i h0 hi => HO.out.up i h0 (by rw [HN.out]; exact hi)) (fun i hi => HO.out.inx i (by rw [HN.out]; exact hi)) (fun i hi => HO.out.iny i (by rw [HN.out]; exact hi)))
        have HQ := Lib.hid (Q1.out.trans HI1.out.2.2.1)
        clear HI HI1
        go_wp2_with fail
        go_region_with (go_at_call 28; refine (HAL.out _ (by repeat (first | exact Q.refl _ | refine Q.drewN ?_ _ | refine Q.drew ?_))).mono ?_; rintro E w3 ⟨rfl, hq3⟩)
        all_goals go_wp2_with fail
        all_goals go_ret
        all_goals exact ⟨rfl, Q.trans (by repeat (first | exact HQ.out | refine Q.drewN ?_ _ | refine Q.drew ?_)) hq3⟩
  · have HE := Lib.hid (show 0 = r by rw [← h.out]; unfold atS; rw [he, if_neg h0])
    have h0' : ((e : Int) != 0) = true := by simp; omega
    clear hc hn hl he h0
    go_enter Try.func17, Try.ntmps17
    go_wp2_with fail
    refine (Check_c _ l e HC _ HR.out HL.out).mono ?_; rintro E w1 ⟨rfl, hq1⟩
    have Q1 := Lib.hid hq1
    clear hq1
    go_wp2_with fail
    go_ret
    exact ⟨ret_int HE.out, Q1.out⟩
end Go.Proofs.Ytlkgbfiaeedpfaa
