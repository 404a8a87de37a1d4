/- The contract of Longest. -/
import Derived.Test.YtnbpkbdkhegheaaTotal
import Derived.Test.YtnbpkbdkhegheaaCommon
import Derived.Deep.AppendLies
set_option linter.unusedVariables false
set_option linter.unusedSimpArgs false
namespace Go.Proofs.Ytnbpkbdkhegheaa
open Go.ChangeShapes Go.WideShapes Go.ChangeAt Go.RowKit Sm

def stepB (b s : S) : S := if lenS b < lenS s then s else b
def bestL (l : List S) : S := l.foldl stepB (0, 0)
theorem best_take {l : List S} {k : Nat} {s : S} (h : l[k]? = some s) : bestL (l.take (k + 1)) = stepB (bestL (l.take k)) s := by
  obtain ⟨hk, e⟩ := List.getElem?_eq_some_iff.1 h
  unfold bestL; rw [List.take_succ_eq_append_getElem hk, List.foldl_append, e]; rfl
theorem best_fit {l : List S} : FitL l → FitS (bestL l) := by
  refine snoc_ind (p := fun l => FitL l → FitS (bestL l)) (fun _ => by unfold FitS Fit bestL; simp) (fun l s ih h => ?_) l
  unfold bestL at *
  rw [List.foldl_append]
  show FitS (stepB _ s)
  unfold stepB
  split
  · exact h s (by simp)
  · exact ih fun t ht => h t (List.mem_append_left _ ht)
theorem step_yes {b s : S} (h : lenS b < lenS s) : stepB b s = s := if_pos h
theorem step_no {b s : S} (h : ¬ lenS b < lenS s) : stepB b s = b := if_neg h
/-- what stands in the box of the best span, and beside it -/
def Bx (g : Nat) (t : S) (w : World) : Prop := w.cell? ⟨g, 0, none⟩ = some (.int .i64 t.1) ∧ w.cell? ⟨g, 1, none⟩ = some (.int .i64 t.2) ∧ w.frozen? ⟨g, 0, none⟩ = false ∧ w.frozen? ⟨g, 1, none⟩ = false ∧ g < w.heap.size
theorem Bx.q {g : Nat} {t : S} {w w' : World} (h : Bx g t w) (hq : Q w w') : Bx g t w' := by
  obtain ⟨a, b, c, d, e⟩ := h
  exact ⟨(hq.cell (p := ⟨g, 0, none⟩) e).trans a, (hq.cell (p := ⟨g, 1, none⟩) e).trans b, (hq.frozen (p := ⟨g, 0, none⟩) e).trans c, (hq.frozen (p := ⟨g, 1, none⟩) e).trans d, Nat.lt_of_lt_of_le e hq.size⟩
theorem Bx.new (w : World) (s : S) : Bx w.heap.size s (w.alloc (.cells #[.int .i64 s.1, .int .i64 s.2] 23)) :=
  ⟨World.cell?_alloc_at _ _ _ _ rfl, World.cell?_alloc_at _ _ _ _ rfl, World.frozen?_alloc_at _ _ _ _ rfl, World.frozen?_alloc_at _ _ _ _ rfl, by simp⟩
def LI (B g h : Nat) (t s : S) (w w1 w' : World) : Prop := Bx g t w' ∧ Bx h s w' ∧ w1.grownBy w' (some g) ∧ Below B w w'
theorem LI.q {B g h : Nat} {t s : S} {w w1 a b : World} (k : LI B g h t s w w1 a) (hq : Q a b) (hB : B ≤ a.heap.size) : LI B g h t s w w1 b :=
  ⟨k.1.q hq, k.2.1.q hq, grown_trans k.2.2.1 (grown_q hq _), Below.trans k.2.2.2 (Below.mono hq hB)⟩
theorem LI.qq {B g h : Nat} {t s : S} {w w1 a b : World} (k : LI B g h t s w w1 a) (hq : Q a b) (hB : Hid (B ≤ g)) : LI B g h t s w w1 b :=
  k.q hq (Nat.le_of_lt (Nat.lt_of_le_of_lt hB.out k.1.2.2.2.2))
theorem Bx.set {g : Nat} {t : S} {w : World} (h : Bx g t w) (s : S) : Bx g s ((w.setCell ⟨g, 0, none⟩ (.int .i64 s.1)).setCell ⟨g, 1, none⟩ (.int .i64 s.2)) := by
  have n1 : (⟨g, 0, none⟩ : Addr) ≠ ⟨g, 1, none⟩ := by intro e; injection e with _ e; cases e
  have n2 : (⟨g, 1, none⟩ : Addr) ≠ ⟨g, 0, none⟩ := fun e => n1 e.symm
  refine ⟨(World.cell?_setCell_other _ _ _ _ n2).trans (World.cell?_setCell_same _ _ _ h.1), World.cell?_setCell_same _ _ _ ((World.cell?_setCell_other _ _ _ _ n1).trans h.2.1), ?_, ?_, ?_⟩
  · rw [World.frozen?_setCell, World.frozen?_setCell]; exact h.2.2.1
  · rw [World.frozen?_setCell, World.frozen?_setCell]; exact h.2.2.2.1
  · rw [World.size_setCell, World.size_setCell]; exact h.2.2.2.2
theorem bx_far {g b : Nat} {t : S} {w w' : World} (h : Bx b t w) (hg : w.grownBy w' (some g)) (hne : b ≠ g) : Bx b t w' :=
  have hne' : some b ≠ some g := fun e => hne (by injection e)
  ⟨hg.cell h.1 hne', hg.cell h.2.1 hne', (hg.frozen_far ⟨b, 0, none⟩ h.2.2.2.2 hne').trans h.2.2.1, (hg.frozen_far ⟨b, 1, none⟩ h.2.2.2.2 hne').trans h.2.2.2.1, Nat.lt_of_lt_of_le h.2.2.2.2 hg.size⟩
theorem grown_two (w : World) (g : Nat) (a b : Value) : w.grownBy ((w.setCell ⟨g, 0, none⟩ a).setCell ⟨g, 1, none⟩ b) (some g) := by
  have h1 : ∀ (w : World) (p : Addr) (v : Value), p.block = g → w.grownBy (w.setCell p v) (some g) := fun w p v hp =>
    ⟨rfl, rfl, rfl, by simp, fun k _ hne => heap_setCell_other w p k v (fun e => hne (by rw [← hp, e]))⟩
  exact grown_trans (h1 w _ a rfl) (h1 _ _ b rfl)
def someB (s : S) : Bool := decide (s.1 < s.2)
set_option maxRecDepth 100000 in
set_option maxHeartbeats 3200000 in
theorem Longest_c (v : Value) (l : List S) (w : World) (hr : Rd w v l) (hl : l.length ≤ 1000000) (hf : FitL l) : Calls Try.prog 28 #[v] w fun e w' => e = .returned (.tuple #[sv (bestL (canonL l)), .bool (someB (bestL (canonL l)))]) ∧ Q w w' := by
  have HR := Lib.hid hr
  have HL := Lib.hid hl
  have HF := Lib.hid hf.canon
  have HCL := Lib.hid (Nat.le_trans (canon_spec l).2.2 hl)
  clear hr hl hf
  generalize hX : canonL l = X at HF HCL
  have HX := Lib.hid hX
  clear hX
  go_enter Try.func28, Try.ntmps28
  go_wp2_with fail
  refine (Canon_c v l _ (HR.out.q (((Q.refl _).alloc _).alloc _)) HL.out).mono ?_
  rintro e w1 ⟨x1, rfl, ho1, hq1⟩
  rw [HX.out] at ho1
  have HR1 := Lib.hid ho1.rd
  obtain ⟨A, c, rfl⟩ := ho1.len
  obtain ⟨n, hn⟩ : ∃ n, X.length = n := ⟨_, rfl⟩
  have HN := Lib.hid hn
  have hn6 : n ≤ 1000000 := by have := HCL.out; omega
  obtain ⟨g, hg⟩ : ∃ g, w.heap.size + 1 = g := ⟨_, rfl⟩
  have HG := Lib.hid hg
  have hsz : g < w1.heap.size := by
    have : ((w.heap.push (Obj.cells #[.int .i64 0, .int .i64 0] 23)).push (Obj.cells #[.int .i64 0, .int .i64 0] 23)).size ≤ w1.heap.size := hq1.size
    rw [Array.size_push, Array.size_push] at this; omega
  have hbg : ∀ b off, A = some ⟨b, off, none⟩ → 0 < n → b ≠ g := fun b off e h0 => by
    obtain ⟨g', cap, h1, _, h2, _⟩ := ho1.form (by omega)
    injection h1 with h1; rw [e] at h1; injection h1 with h1; injection h1 with h1
    have : ((w.heap.push (Obj.cells #[.int .i64 0, .int .i64 0] 23)).push (Obj.cells #[.int .i64 0, .int .i64 0] 23)).size ≤ g' := h2
    rw [Array.size_push, Array.size_push] at this; omega
  have hl0 : Bx g (0, 0) w1 := by
    have h2 := Bx.new (w.alloc (.cells #[.int .i64 0, .int .i64 0] 23)) (0, 0)
    have e : (w.alloc (.cells #[.int .i64 0, .int .i64 0] 23)).heap.size = g := by rw [← hg]; simp
    rw [e] at h2
    exact h2.q hq1
  have hb0 : Bx w.heap.size (0, 0) w1 := ((Bx.new w (0, 0)).q ((Q.refl _).alloc _)).q hq1
  have HB0 := Lib.hid hb0
  have HNG := Lib.hid (show w.heap.size ≠ g by omega)
  clear hb0
  have HQ1 := Lib.hid (show Below w.heap.size w w1 from (((Q.refl w).alloc _).alloc _).trans hq1)
  have HWG := Lib.hid (show w.heap.size ≤ g by omega)
  have HBG := Lib.hid hbg
  have HL0 := Lib.hid hl0
  rw [hn]
  rw [hg]
  clear hn ho1 hq1 hg hbg hl0 hsz
  go_wp2_with fail
  go_loopw [11] (fun u11 wr => ∃ k : Nat, k ≤ n ∧ u11 = .int .i64 k ∧ Hid (∃ t, bestL (X.take k) = t ∧ Bx g t wr ∧ w1.grownBy wr (some g) ∧ Below w.heap.size w wr)) (fun u11 _ => n - (intOf u11).toNat)
  case atStart => exact ⟨0, Nat.zero_le _, rfl, _, rfl, HL0.out, World.grownBy.refl _ _, HQ1.out⟩
  case round =>
    obtain ⟨k, hk, rfl, HI⟩ := hrel
    obtain ⟨t, ht, hbx, hgr, hbel⟩ := HI.out
    have HT := Lib.hid ht
    have HBX := Lib.hid hbx
    have HGR := Lib.hid hgr
    have HBE := Lib.hid hbel
    clear HI ht
    by_cases hlt : k < n
    · have hkl : k < X.length := by rw [HN.out]; exact hlt
      obtain ⟨b, off, c', hv', hc', hb', hx0, hx1⟩ := HR1.out.cons (i := k) hkl
      obtain ⟨rfl, _, rfl⟩ : A = some ⟨b, off, none⟩ ∧ X.length = X.length ∧ c = c' := by injection hv' with e1 e2 e3; exact ⟨e1, e2, e3⟩
      have hne : some b ≠ some g := fun e => HBG.out b off rfl (by omega) (by injection e)
      have hp0 := hgr.cell (a := ⟨b, off + k * 2, none⟩) hx0 hne
      have hp1 := hgr.cell (a := ⟨b, off + k * 2 + 1, none⟩) hx1 hne
      obtain ⟨s, hs⟩ : ∃ s, X[k] = s := ⟨_, rfl⟩
      rw [hs] at hp0 hp1
      have hs2 : X[k]? = some s := by rw [List.getElem?_eq_getElem hkl, hs]
      have HFS := Lib.hid (HF.out.at hs2)
      have HFT := Lib.hid (show FitS t by rw [← HT.out]; exact best_fit fun u hu => HF.out u (List.mem_of_mem_take hu))
      obtain ⟨x, hx⟩ : ∃ x, lenS s = x := ⟨_, rfl⟩
      obtain ⟨y, hy⟩ : ∃ y, lenS t = y := ⟨_, rfl⟩
      have HX1 := Lib.hid hx
      have HY1 := Lib.hid hy
      have HST := Lib.hid (show bestL (X.take (k + 1)) = if y < x then s else t by rw [best_take hs2, HT.out]; unfold stepB; rw [hx, hy])
      have HP := Lib.hid (show LI w.heap.size g wr.heap.size t s w w1 (wr.alloc (.cells #[.int .i64 s.1, .int .i64 s.2] 23)).drew from
        LI.qq (a := wr.alloc (.cells #[.int .i64 s.1, .int .i64 s.2] 23)) ⟨hbx.q ((Q.refl _).alloc _), Bx.new _ _, grown_trans hgr (grown_q ((Q.refl _).alloc _) _), Below.trans hbel (Below.mono ((Q.refl _).alloc _) hbel.size)⟩ (Q.refl _).drew HWG)
      clear hx0 hx1 hv' hc' hs hs2 hkl hx hy hgr hbel hne
      obtain ⟨hg0, hg1, _, _, hgs⟩ := hbx
      go_wp2_with fail
      go_cut [19] (fun v19 wx => v19 = .bool (decide (y < x)) ∧ LI w.heap.size g wr.heap.size t s w w1 wx)
      case first =>
        go_region_with (first
          | (go_at_call_of 11 (s.1); refine (Len_at s x _ HFS HX1).mono ?_; rintro e w2 ⟨rfl, hq2⟩; have HP := Lib.hid (HP.out.qq hq2 HWG); obtain ⟨⟨hz0, hz1, _, _⟩, ⟨hz2, hz3, _, _⟩, _⟩ := HP.out)
          | (go_at_call_of 11 (t.1); refine (Len_at t y _ HFT HY1).mono ?_; rintro e w2 ⟨rfl, hq2⟩; have HP := Lib.hid (HP.out.qq hq2 HWG); obtain ⟨⟨hz0, hz1, _, _⟩, ⟨hz2, hz3, _, _⟩, _⟩ := HP.out))
        all_goals go_wp2_with fail
        all_goals go_meet
        all_goals exact ⟨rfl, HP.out⟩
      case rest =>
        obtain ⟨rfl, hli⟩ := hcut
        have HLI := Lib.hid hli
        obtain ⟨⟨hy0, hy1, hy2, hy3, hy4⟩, ⟨hz0, hz1, hz2, hz3, hz4⟩, _⟩ := hli
        clear hg0 hg1 hgs hp0 hp1
        by_cases hyx : y < x
        · have hyx' : decide (y < x) = true := decide_eq_true hyx
          have HS2 := Lib.hid (show bestL (X.take (k + 1)) = s by rw [HST.out, if_pos hyx])
          have HW2 := Lib.hid (show Bx g s ((wc.setCell ⟨g, 0, none⟩ (.int .i64 s.1)).setCell ⟨g, 1, none⟩ (.int .i64 s.2)) ∧ w1.grownBy ((wc.setCell ⟨g, 0, none⟩ (.int .i64 s.1)).setCell ⟨g, 1, none⟩ (.int .i64 s.2)) (some g) ∧ Below w.heap.size w ((wc.setCell ⟨g, 0, none⟩ (.int .i64 s.1)).setCell ⟨g, 1, none⟩ (.int .i64 s.2)) from
            ⟨Bx.set HLI.out.1 s, grown_trans HLI.out.2.2.1 (grown_two wc g _ _), (Below.setCell HLI.out.2.2.2 HWG.out _).setCell HWG.out _⟩)
          rw [hyx']
          go_wp2_with fail
          go_roundw
          case rel => exact ⟨k + 1, by omega, by go_num, _, HS2.out, HW2.out⟩
          case measure => simp [intOf] <;> omega
        · have hyx' : decide (y < x) = false := decide_eq_false hyx
          have HS2 := Lib.hid (show bestL (X.take (k + 1)) = t by rw [HST.out, if_neg hyx])
          rw [hyx']
          go_wp2_with fail
          go_roundw
          case rel => exact ⟨k + 1, by omega, by go_num, _, HS2.out, HLI.out.1, HLI.out.2.2.1, HLI.out.2.2.2⟩
          case measure => simp [intOf] <;> omega
    · obtain rfl : k = n := by omega
      have HE := Lib.hid (show bestL X = t by rw [← HT.out, List.take_of_length_le (by rw [HN.out]; exact Nat.le_refl _)])
      obtain ⟨hg0, hg1, _, _, hgs⟩ := hbx
      obtain ⟨z, hz⟩ : ∃ z, decide (t.2 ≤ t.1) = z := ⟨_, rfl⟩
      have HZ := Lib.hid hz
      have HSB := Lib.hid (show someB t = !z by rw [← hz]; unfold someB; by_cases h : t.1 < t.2 <;> simp [h] <;> omega)
      obtain ⟨k0, k1, k2, k3, k4⟩ := bx_far HB0.out hgr HNG.out
      clear hgr hbel hz
      go_wp2_with fail
      go_region_with (go_at_call 35; refine (isEmpty_w t.1 t.2 z HZ _).mono ?_; rintro e w2 ⟨rfl, rfl⟩)
      all_goals go_wp2_with fail
      all_goals refine bodyPost_ret (v := .tuple #[.agg #[.int .i64 t.1, .int .i64 t.2], .bool (!z)]) (by simp [results, Try.results28, go_sem, k0, k1, k2, k3, k4]) rfl ⟨by rw [HE.out, HSB.out]; rfl, ?_⟩
      all_goals repeat (first | exact HBE.out | refine Q.alloc ?_ _ | refine Q.setA ?_ (by simp; try omega) _ | refine Q.drew ?_)
end Go.Proofs.Ytnbpkbdkhegheaa
