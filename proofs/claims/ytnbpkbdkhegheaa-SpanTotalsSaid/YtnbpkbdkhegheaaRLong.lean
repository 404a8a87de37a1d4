/- The contract of the reference's Longest; what the longest span is. -/
import Derived.Test.YtnbpkbdkhegheaaLongest
import Derived.Test.YtnbpkbdkhegheaaRCanon
set_option linter.unusedVariables false
set_option linter.unusedSimpArgs false
namespace Go.Proofs.Ytnbpkbdkhegheaa
open Go.ChangeShapes Go.WideShapes Go.ChangeAt Go.RowKit Sm

theorem len_pos {s : S} (h : s.1 < s.2) : 0 < lenS s := by rw [len_len0]; unfold len0; omega
theorem len_zero2 : lenS (0, 0) = 0 := rfl
theorem best_snoc (l : List S) (s : S) : bestL (l ++ [s]) = stepB (bestL l) s := by unfold bestL; rw [List.foldl_append]; rfl
/-- the first of the longest spans -/
theorem best_spec : ∀ l : List S, (∀ s ∈ l, s.1 < s.2) → (∀ s ∈ l, lenS s ≤ lenS (bestL l)) ∧ ((l = [] ∧ bestL l = (0, 0)) ∨ ∃ j : Nat, l[j]? = some (bestL l) ∧ ∀ i, i < j → ∀ s, l[i]? = some s → lenS s < lenS (bestL l)) := by
  intro l
  refine snoc_ind (p := fun l => (∀ s ∈ l, s.1 < s.2) → (∀ s ∈ l, lenS s ≤ lenS (bestL l)) ∧ ((l = [] ∧ bestL l = (0, 0)) ∨ ∃ j : Nat, l[j]? = some (bestL l) ∧ ∀ i, i < j → ∀ s, l[i]? = some s → lenS s < lenS (bestL l))) (fun _ => ⟨fun s hs => (List.not_mem_nil hs).elim, .inl ⟨rfl, rfl⟩⟩) (fun l s ih h => ?_) l
  obtain ⟨i1, i2⟩ := ih fun t ht => h t (List.mem_append_left _ ht)
  have hs := len_pos (h s (by simp))
  rw [best_snoc]
  by_cases hlt : lenS (bestL l) < lenS s
  · rw [step_yes hlt]
    refine ⟨fun t ht => ?_, .inr ⟨l.length, by simp, fun i hi t ht => ?_⟩⟩
    · rcases List.mem_append.1 ht with g | g
      · have := i1 t g; omega
      · rw [List.mem_singleton] at g; rw [g]; exact Int.le_refl _
    · rw [List.getElem?_append_left hi] at ht
      have := i1 t (List.mem_of_getElem? ht); omega
  · rw [step_no hlt]
    refine ⟨fun t ht => ?_, ?_⟩
    · rcases List.mem_append.1 ht with g | g
      · exact i1 t g
      · rw [List.mem_singleton] at g; rw [g]; omega
    · rcases i2 with ⟨rfl, e⟩ | ⟨j, hj, hb⟩
      · rw [e, len_zero2] at hlt; omega
      · obtain ⟨hjl, _⟩ := List.getElem?_eq_some_iff.1 hj
        refine .inr ⟨j, by rw [List.getElem?_append_left hjl]; exact hj, fun i hi t ht => hb i hi t ?_⟩
        rw [List.getElem?_append_left (by omega)] at ht; exact ht
theorem best_in {X : List S} (h : can X) (hne : X ≠ []) : bestL X ∈ X := by
  rcases (best_spec X h.1).2 with ⟨e, _⟩ | ⟨j, hj, _⟩
  · exact (hne e).elim
  · exact List.mem_of_getElem? hj
theorem best_one {s : S} (h : s.1 < s.2) : bestL [s] = s := by
  have : lenS (0, 0) < lenS s := by rw [len_zero2]; exact len_pos h
  exact step_yes this
def LR (h b o : Nat) (t s : S) (w1 w' : World) : Prop := Bx h t w' ∧ w'.cell? ⟨b, o, none⟩ = some (.int .i64 s.1) ∧ w'.cell? ⟨b, o + 1, none⟩ = some (.int .i64 s.2) ∧ b < w'.heap.size ∧ Q w1 w'
theorem LR.q {h b o : Nat} {t s : S} {w1 a c : World} (k : LR h b o t s w1 a) (hq : Q a c) : LR h b o t s w1 c :=
  ⟨k.1.q hq, (hq.cell (p := ⟨b, o, none⟩) k.2.2.2.1).trans k.2.1, (hq.cell (p := ⟨b, o + 1, none⟩) k.2.2.2.1).trans k.2.2.1, Nat.lt_of_lt_of_le k.2.2.2.1 hq.size, k.2.2.2.2.trans hq⟩
set_option maxRecDepth 100000 in
set_option maxHeartbeats 3200000 in
theorem rLongest_c (v : Value) (l : List S) (w : World) (hr : Rd w v l) (hl : l.length ≤ 100000) (hf : FitL l) : Calls Try.prog 29 #[v] w fun e w' => e = .returned (.tuple #[sv (bestL (canonL l)), .bool (someB (bestL (canonL l)))]) ∧ Q w w' := by
  have HR := Lib.hid hr
  have HL := Lib.hid hl
  have HF := Lib.hid hf.canon
  have HCL := Lib.hid (Nat.le_trans (canon_spec l).2.2 hl)
  have HC := Lib.hid (canon_spec l).1
  clear hr hl hf
  generalize hX : canonL l = X at HF HCL HC
  have HX := Lib.hid hX
  clear hX
  go_enter Try.func29, Try.ntmps29
  go_wp2_with fail
  refine (rCanon_c v l _ (HR.out.q ((Q.refl _).alloc _)) HL.out).mono ?_
  rintro e w1 ⟨x1, rfl, ho1, hq1⟩
  rw [HX.out] at ho1
  have HR1 := Lib.hid ho1.rd
  obtain ⟨A, c, rfl⟩ := ho1.len
  obtain ⟨n, hn⟩ : ∃ n, X.length = n := ⟨_, rfl⟩
  have HN := Lib.hid hn
  have hn6 : n ≤ 1000000 := by have := HCL.out; omega
  have hb0 : Bx w.heap.size (0, 0) w1 := (Bx.new w (0, 0)).q hq1
  have HQ1 := Lib.hid (show Below w.heap.size w w1 from ((Q.refl w).alloc _).trans hq1)
  rw [hn]
  by_cases h0 : n = 0
  · subst h0
    have HE := Lib.hid (show X = [] from List.eq_nil_of_length_eq_zero hn)
    obtain ⟨k0, k1, k2, k3, k4⟩ := hb0
    clear hn ho1 hq1
    go_wp2_with fail
    refine bodyPost_ret (v := .tuple #[.agg #[.int .i64 0, .int .i64 0], .bool false]) (by simp [results, Try.results29, go_sem, k0, k1, k2, k3, k4]) rfl ⟨by rw [HE.out]; rfl, ?_⟩
    repeat (first | exact HQ1.out | refine Q.alloc ?_ _ | refine Q.setA ?_ (by simp; try omega) _ | refine Q.drew ?_)
  · obtain ⟨m, hm⟩ : ∃ m, n = m + 1 := ⟨n - 1, by omega⟩
    subst hm
    have hkl : 0 < X.length := by omega
    obtain ⟨b, off, c', hv', hc', hb', hx0, hx1⟩ := HR1.out.cons (i := 0) hkl
    obtain ⟨rfl, _, rfl⟩ : A = some ⟨b, off, none⟩ ∧ X.length = X.length ∧ c = c' := by injection hv' with e1 e2 e3; exact ⟨e1, e2, e3⟩
    rw [Nat.zero_mul, Nat.add_zero] at hx0 hx1
    obtain ⟨s0, hs0⟩ : ∃ s, X[0] = s := ⟨_, rfl⟩
    rw [hs0] at hx0 hx1
    have hnz : (((m + 1 : Nat) : Int) == 0) = false := by simp; omega
    have hnp : (0 : Int) < ((m + 1 : Nat) : Int) := by omega
    have HB0 := Lib.hid hb0
    have HSP := Lib.hid (show s0.1 < s0.2 from HC.out.1 s0 (by rw [← hs0]; exact List.getElem_mem hkl))
    have HT1 := Lib.hid (show bestL (X.take 1) = s0 by
      rw [show X.take 1 = [s0] by rw [show (1 : Nat) = 0 + 1 from rfl, List.take_succ_eq_append_getElem hkl, hs0]; rfl]
      exact best_one HSP.out)
    clear hb0 hn ho1 hq1 hc' hv'
    go_wp2_with fail
    go_loopw [6] (fun u6 wr => ∃ k : Nat, 1 ≤ k ∧ k ≤ m + 1 ∧ u6 = .int .i64 k ∧ Hid (∃ t, bestL (X.take k) = t ∧ Bx w1.heap.size t wr ∧ Q w1 wr)) (fun u6 _ => m + 1 - (intOf u6).toNat)
    case atStart => exact ⟨1, Nat.le_refl _, by omega, rfl, _, HT1.out, Bx.new _ _, (Q.refl _).alloc _⟩
    case round =>
      obtain ⟨k, hk0, hk, rfl, HI⟩ := hrel
      obtain ⟨t, ht, hbx, hqr⟩ := HI.out
      have HT := Lib.hid ht
      have HBX := Lib.hid hbx
      have HQR := Lib.hid hqr
      clear HI ht
      by_cases hlt : k < m + 1
      · have hkl2 : k < X.length := by rw [HN.out]; exact hlt
        have hlti : (k : Int) < ((m + 1 : Nat) : Int) := by omega
        obtain ⟨b2, off2, c2, hv2, hc2, hb2, hy0, hy1⟩ := HR1.out.cons (i := k) hkl2
        obtain ⟨e1, e2⟩ : b = b2 ∧ off = off2 := by injection hv2 with e1; injection e1 with e1; injection e1 with e1 e2; exact ⟨e1, e2⟩
        subst e1 e2
        have hp0 := (hqr.cell (p := ⟨b, off + k * 2, none⟩) hb2).trans hy0
        have hp1 := (hqr.cell (p := ⟨b, off + k * 2 + 1, none⟩) hb2).trans hy1
        obtain ⟨s, hs⟩ : ∃ s, X[k] = s := ⟨_, rfl⟩
        rw [hs] at hp0 hp1
        have hs2 : X[k]? = some s := by rw [List.getElem?_eq_getElem hkl2, hs]
        have HFS := Lib.hid (HF.out.at hs2)
        have HFT := Lib.hid (show FitS t by rw [← HT.out]; exact best_fit fun u hu => HF.out u (List.mem_of_mem_take hu))
        obtain ⟨x, hx⟩ : ∃ x, lenS s = x := ⟨_, rfl⟩
        obtain ⟨y, hy⟩ : ∃ y, lenS t = y := ⟨_, rfl⟩
        have HX1 := Lib.hid hx
        have HY1 := Lib.hid hy
        have HST := Lib.hid (show bestL (X.take (k + 1)) = if y < x then s else t by rw [best_take hs2, HT.out]; unfold stepB; rw [hx, hy])
        have HP := Lib.hid (show LR w1.heap.size b (off + k * 2) t s w1 wr.drew from ⟨⟨hbx.1, hbx.2.1, hbx.2.2.1, hbx.2.2.2.1, hbx.2.2.2.2⟩, hp0, hp1, Nat.lt_of_lt_of_le hb2 hqr.size, hqr.drew⟩)
        clear hy0 hy1 hv2 hc2 hs hs2 hkl2 hx hy hqr
        obtain ⟨hg0, hg1, _, _, hgs⟩ := hbx
        go_wp2_with fail
        go_cut [29] (fun v29 wx => v29 = .bool (decide (y < x)) ∧ LR w1.heap.size b (off + k * 2) t s w1 wx)
        case first =>
          go_region_with (first
            | (go_at_call_of 12 (s.1); refine (rLen_at s x _ HFS HX1).mono ?_; rintro e w2 ⟨rfl, hq2⟩; have HP := Lib.hid (HP.out.q hq2); obtain ⟨⟨hz0, hz1, _, _⟩, hz2, hz3, _⟩ := HP.out)
            | (go_at_call_of 12 (t.1); refine (rLen_at t y _ HFT HY1).mono ?_; rintro e w2 ⟨rfl, hq2⟩; have HP := Lib.hid (HP.out.q hq2); obtain ⟨⟨hz0, hz1, _, _⟩, hz2, hz3, _⟩ := HP.out))
          all_goals go_wp2_with fail
          all_goals go_meet
          all_goals exact ⟨rfl, HP.out⟩
        case rest =>
          obtain ⟨rfl, hli⟩ := hcut
          have HLI := Lib.hid hli
          obtain ⟨⟨hy0, hy1, hy2, hy3, hy4⟩, hz2, hz3, hz4, _⟩ := hli
          clear hg0 hg1 hgs hp0 hp1
          by_cases hyx : y < x
          · have hyx' : decide (y < x) = true := decide_eq_true hyx
            have HS2 := Lib.hid (show bestL (X.take (k + 1)) = s by rw [HST.out, if_pos hyx])
            have HW2 := Lib.hid (show Bx w1.heap.size s ((wc.setCell ⟨w1.heap.size, 0, none⟩ (.int .i64 s.1)).setCell ⟨w1.heap.size, 1, none⟩ (.int .i64 s.2)) ∧ Q w1 ((wc.setCell ⟨w1.heap.size, 0, none⟩ (.int .i64 s.1)).setCell ⟨w1.heap.size, 1, none⟩ (.int .i64 s.2)) from
              ⟨Bx.set HLI.out.1 s, (Q.setA HLI.out.2.2.2.2 (Nat.le_refl _) _).setA (Nat.le_refl _) _⟩)
            rw [hyx']
            go_wp2_with fail
            go_roundw
            case rel => exact ⟨k + 1, by omega, by omega, by go_num, _, HS2.out, HW2.out.1, HW2.out.2⟩
            case measure => simp [intOf] <;> omega
          · have hyx' : decide (y < x) = false := decide_eq_false hyx
            have HS2 := Lib.hid (show bestL (X.take (k + 1)) = t by rw [HST.out, if_neg hyx])
            rw [hyx']
            go_wp2_with fail
            go_roundw
            case rel => exact ⟨k + 1, by omega, by omega, by go_num, _, HS2.out, HLI.out.1, HLI.out.2.2.2.2⟩
            case measure => simp [intOf] <;> omega
      · obtain rfl : k = m + 1 := by omega
        have HE := Lib.hid (show bestL X = t by rw [← HT.out, List.take_of_length_le (by rw [HN.out]; exact Nat.le_refl _)])
        have HSB := Lib.hid (show someB t = true by
          rw [← HE.out]; exact decide_eq_true (HC.out.1 _ (best_in HC.out fun e => by rw [e] at hkl; simp at hkl)))
        obtain ⟨k0, k1, k2, k3, k4⟩ := HB0.out.q hqr
        obtain ⟨hg0, hg1, _, _, hgs⟩ := hbx
        have HQW := Lib.hid (show Q w wr from Below.trans HQ1.out (Below.mono HQR.out HQ1.out.size))
        clear hqr
        go_wp2_with fail
        refine bodyPost_ret (v := .tuple #[.agg #[.int .i64 t.1, .int .i64 t.2], .bool true]) (by simp [results, Try.results29, go_sem, k0, k1, k2, k3, k4]) rfl ⟨by rw [HE.out, HSB.out]; rfl, ?_⟩
        repeat (first | exact HQW.out | refine Q.alloc ?_ _ | refine Q.setA ?_ (by simp; try omega) _ | refine Q.drew ?_)
end Go.Proofs.Ytnbpkbdkhegheaa
