/- The contracts of the reference's Canon and Union. -/
import Derived.Test.YtnbpkbdkhegheaaInsert
set_option linter.unusedVariables false
set_option linter.unusedSimpArgs false
namespace Go.Proofs.Ytnbpkbdkhegheaa
open Go.ChangeShapes Go.WideShapes Go.ChangeAt Go.RowKit Sm

theorem insN_yes {X : List S} {s : S} (h : s.1 < s.2) : insN X s = insL X s := by unfold insN; rw [if_pos h]
theorem insN_no {X : List S} {s : S} (h : ¬ s.1 < s.2) : insN X s = X := by unfold insN; rw [if_neg h]
theorem fold_next {X : List S} {l : List S} {k : Nat} (h : k < l.length) : (l.take (k + 1)).foldl insN X = insN ((l.take k).foldl insN X) l[k] := by
  rw [List.take_succ_eq_append_getElem h, List.foldl_append]; rfl
theorem insN_len {X : List S} {s : S} : (insN X s).length ≤ X.length + 1 := by
  unfold insN
  split
  · unfold insL
    have := insF_len (X := X) (s := s)
    rw [List.length_append, List.length_append, List.length_singleton]; omega
  · omega
theorem fold_len (X l : List S) : (l.foldl insN X).length ≤ X.length + l.length := by
  refine snoc_ind (p := fun l => (l.foldl insN X).length ≤ X.length + l.length) (Nat.le_refl _) (fun l s ih => ?_) l
  rw [List.foldl_append, List.length_append, List.length_singleton]
  have := insN_len (X := l.foldl insN X) (s := s)
  show (insN (l.foldl insN X) s).length ≤ _
  omega

set_option maxRecDepth 100000 in
set_option maxHeartbeats 1600000 in
theorem rCanon_c (v : Value) (l : List S) (w : World) (hr : Rd w v l) (hl : l.length ≤ 100000) : Calls Try.prog 19 #[v] w (SetPost (canonL l) w) := by
  have HR := Lib.hid hr
  have HL := Lib.hid hl
  obtain ⟨A, c, rfl, hc, h3⟩ := hr
  obtain ⟨n, hn⟩ : ∃ n, l.length = n := ⟨_, rfl⟩
  have HN := Lib.hid hn
  rw [hn]
  have hn6 : n ≤ 100000 := by omega
  clear hc h3 hn hl
  go_enter Try.func19, Try.ntmps19
  go_wp2_with fail
  go_loopw [3, 4] (fun u3 u4 wr => ∃ k : Nat, k ≤ n ∧ u4 = .int .i64 k ∧ Hid (Own w.heap.size u3 ((l.take k).foldl insN []) wr ∧ Q w wr)) (fun _ u4 _ => n - (intOf u4).toNat)
  case atStart => exact ⟨0, Nat.zero_le _, rfl, own_nil _ _, Q.refl _⟩
  case round =>
    obtain ⟨k, hk, rfl, HI⟩ := hrel
    by_cases hlt : k < n
    · have hkl : k < l.length := by rw [HN.out]; exact hlt
      obtain ⟨b, off, c', hv', hc', hb', hx0, hx1⟩ := HR.out.cons (i := k) hkl
      have HT := Lib.hid (fold_next (X := []) hkl)
      obtain ⟨s, hs⟩ : ∃ s, l[k] = s := ⟨_, rfl⟩
      rw [hs] at hx0 hx1 HT
      obtain ⟨e1, e2, e3⟩ : A = some ⟨b, off, none⟩ ∧ l.length = l.length ∧ c = c' := by injection hv' with e1 e2 e3; exact ⟨e1, e2, e3⟩
      subst e1 e3
      have hq := HI.out.2
      have hy0 : wr.cell? ⟨b, off + k * 2, none⟩ = some (.int .i64 s.1) := (hq.cell (p := ⟨b, off + k * 2, none⟩) hb').trans hx0
      have hy1 : wr.cell? ⟨b, off + k * 2 + 1, none⟩ = some (.int .i64 s.2) := (hq.cell (p := ⟨b, off + k * 2 + 1, none⟩) hb').trans hx1
      have HXN := Lib.hid (show ((l.take k).foldl insN []).length ≤ 1000000 by have := fold_len [] (l.take k); rw [List.length_take] at this; simp at this; omega)
      generalize (l.take k).foldl insN [] = X at HT HXN HI
      clear hx0 hx1 hv' hc' hs hq
      by_cases hlt2 : s.1 < s.2
      · have HE := Lib.hid (insN_yes (X := X) hlt2)
        go_wp2_with fail
        go_quiet (fail)
        obtain ⟨W1, hW1⟩ : ∃ W1, wr.drewN nq = W1 := ⟨_, rfl⟩
        have hz0 : W1.cell? ⟨b, off + k * 2, none⟩ = some (.int .i64 s.1) := by rw [← hW1]; exact hy0
        have hz1 : W1.cell? ⟨b, off + k * 2 + 1, none⟩ = some (.int .i64 s.2) := by rw [← hW1]; exact hy1
        have HO1 := Lib.hid (show Own w.heap.size u3 X W1 ∧ Q w W1 by rw [← hW1]; exact ⟨HI.out.1.drewN _, HI.out.2.drewN _⟩)
        rw [hW1]
        clear hW1 hy0 hy1
        go_wp2_with fail
        refine (insert_c u3 X s _ HO1.out.1.rd HXN.out).mono ?_
        rintro e w2 ⟨v2, rfl, ho2, hq2⟩
        have N := Lib.hid (show Own w.heap.size v2 (insL X s) w2 ∧ Q w w2 from ⟨ho2.mono HO1.out.2.size, HO1.out.2.trans hq2⟩)
        clear ho2 hq2
        go_wp2_with fail
        go_roundw
        case rel => exact ⟨k + 1, by omega, by go_num, by rw [HT.out, HE.out]; exact N.out⟩
        case measure => simp [intOf] <;> omega
      · have HE := Lib.hid (insN_no (X := X) hlt2)
        have hlt3 : decide (s.1 < s.2) = false := decide_eq_false hlt2
        go_wp2_with fail
        go_quiet (fail)
        go_wp2_with fail
        go_roundw
        case rel => exact ⟨k + 1, by omega, by go_num, by rw [HT.out, HE.out]; exact ⟨HI.out.1.drewN _, HI.out.2.drewN _⟩⟩
        case measure => simp [intOf] <;> omega
    · obtain rfl : k = n := by omega
      have HF := Lib.hid (show (l.take k).foldl insN [] = canonL l by rw [List.take_of_length_le (by rw [HN.out]; exact Nat.le_refl _)]; exact rcan_eq l)
      go_wp2_with fail
      go_ret
      exact ⟨_, rfl, by rw [← HF.out]; exact HI.out.1, HI.out.2⟩
set_option maxRecDepth 100000 in
set_option maxHeartbeats 1600000 in
theorem rUnion_c (v v1 : Value) (a l : List S) (w : World) (ha : Rd w v a) (hr : Rd w v1 l) (hal : a.length ≤ 100000) (hl : l.length ≤ 100000) : Calls Try.prog 23 #[v, v1] w (SetPost (uniS a l) w) := by
  have HA := Lib.hid ha
  have HR := Lib.hid hr
  have HAL := Lib.hid hal
  obtain ⟨A, c, rfl, hc, h3⟩ := hr
  obtain ⟨n, hn⟩ : ∃ n, l.length = n := ⟨_, rfl⟩
  have HN := Lib.hid hn
  rw [hn]
  have hn6 : n ≤ 100000 := by omega
  have HCL := Lib.hid (show (canonL a).length ≤ 100000 from Nat.le_trans (canon_spec a).2.2 hal)
  clear hc h3 hn hl ha hal
  go_enter Try.func23, Try.ntmps23
  go_wp2_with fail
  refine (rCanon_c v a _ HA.out HAL.out).mono ?_
  rintro e w0 ⟨v0, rfl, ho0, hq0⟩
  have HO0 := Lib.hid ho0
  have HQ0 := Lib.hid hq0
  clear ho0 hq0
  go_wp2_with fail
  go_loopw [5, 6] (fun u3 u4 wr => ∃ k : Nat, k ≤ n ∧ u4 = .int .i64 k ∧ Hid (Own w.heap.size u3 ((l.take k).foldl insN (canonL a)) wr ∧ Q w wr)) (fun _ u4 _ => n - (intOf u4).toNat)
  case atStart => exact ⟨0, Nat.zero_le _, rfl, HO0.out, HQ0.out⟩
  case round =>
    obtain ⟨k, hk, rfl, HI⟩ := hrel
    by_cases hlt : k < n
    · have hkl : k < l.length := by rw [HN.out]; exact hlt
      obtain ⟨b, off, c', hv', hc', hb', hx0, hx1⟩ := HR.out.cons (i := k) hkl
      have HT := Lib.hid (fold_next (X := canonL a) hkl)
      obtain ⟨s, hs⟩ : ∃ s, l[k] = s := ⟨_, rfl⟩
      rw [hs] at hx0 hx1 HT
      obtain ⟨e1, e2, e3⟩ : A = some ⟨b, off, none⟩ ∧ l.length = l.length ∧ c = c' := by injection hv' with e1 e2 e3; exact ⟨e1, e2, e3⟩
      subst e1 e3
      have hq := HI.out.2
      have hy0 : wr.cell? ⟨b, off + k * 2, none⟩ = some (.int .i64 s.1) := (hq.cell (p := ⟨b, off + k * 2, none⟩) hb').trans hx0
      have hy1 : wr.cell? ⟨b, off + k * 2 + 1, none⟩ = some (.int .i64 s.2) := (hq.cell (p := ⟨b, off + k * 2 + 1, none⟩) hb').trans hx1
      have HXN := Lib.hid (show ((l.take k).foldl insN (canonL a)).length ≤ 1000000 by have := fold_len (canonL a) (l.take k); have := HCL.out; rw [List.length_take] at *; omega)
      generalize (l.take k).foldl insN (canonL a) = X at HT HXN HI
      clear hx0 hx1 hv' hc' hs hq
      by_cases hlt2 : s.1 < s.2
      · have HE := Lib.hid (insN_yes (X := X) hlt2)
        go_wp2_with fail
        go_quiet (fail)
        obtain ⟨W1, hW1⟩ : ∃ W1, wr.drewN nq = W1 := ⟨_, rfl⟩
        have hz0 : W1.cell? ⟨b, off + k * 2, none⟩ = some (.int .i64 s.1) := by rw [← hW1]; exact hy0
        have hz1 : W1.cell? ⟨b, off + k * 2 + 1, none⟩ = some (.int .i64 s.2) := by rw [← hW1]; exact hy1
        have HO1 := Lib.hid (show Own w.heap.size u5 X W1 ∧ Q w W1 by rw [← hW1]; exact ⟨HI.out.1.drewN _, HI.out.2.drewN _⟩)
        rw [hW1]
        clear hW1 hy0 hy1
        go_wp2_with fail
        refine (insert_c u5 X s _ HO1.out.1.rd HXN.out).mono ?_
        rintro e w2 ⟨v2, rfl, ho2, hq2⟩
        have N := Lib.hid (show Own w.heap.size v2 (insL X s) w2 ∧ Q w w2 from ⟨ho2.mono HO1.out.2.size, HO1.out.2.trans hq2⟩)
        clear ho2 hq2
        go_wp2_with fail
        go_roundw
        case rel => exact ⟨k + 1, by omega, by go_num, by rw [HT.out, HE.out]; exact N.out⟩
        case measure => simp [intOf] <;> omega
      · have HE := Lib.hid (insN_no (X := X) hlt2)
        have hlt3 : decide (s.1 < s.2) = false := decide_eq_false hlt2
        go_wp2_with fail
        go_quiet (fail)
        go_wp2_with fail
        go_roundw
        case rel => exact ⟨k + 1, by omega, by go_num, by rw [HT.out, HE.out]; exact ⟨HI.out.1.drewN _, HI.out.2.drewN _⟩⟩
        case measure => simp [intOf] <;> omega
    · obtain rfl : k = n := by omega
      have HF := Lib.hid (show (l.take k).foldl insN (canonL a) = uniS a l by rw [List.take_of_length_le (by rw [HN.out]; exact Nat.le_refl _)]; exact ins_all a l)
      go_wp2_with fail
      go_ret
      exact ⟨_, rfl, by rw [← HF.out]; exact HI.out.1, HI.out.2⟩
end Go.Proofs.Ytnbpkbdkhegheaa
