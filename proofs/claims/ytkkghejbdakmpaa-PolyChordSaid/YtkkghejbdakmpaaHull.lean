/- The contract of Hull. -/
import Derived.Test.YtkkghejbdakmpaaChain
set_option linter.unusedVariables false
set_option linter.unusedSimpArgs false
namespace Go.Proofs.Ytkkghejbdakmpaa
open Go.ChangeShapes Go.WideShapes Go.ChangeAt Go.RowKit Go.Shelf Pm

theorem pop_ne (q : P) : ∀ {s : List P}, s ≠ [] → pop q s ≠ []
  | [], h => absurd rfl h
  | [a], _ => by simp [pop]
  | b :: a :: r, _ => by
    unfold pop; split
    · exact pop_ne q (by simp)
    · simp
theorem chn_two {l : List P} (h : 2 ≤ l.length) : 2 ≤ (chn l).length := by
  obtain ⟨m, q, rfl⟩ : ∃ m q, l = m ++ [q] := ⟨l.dropLast, l.getLast (by intro e; subst e; simp at h), (List.dropLast_concat_getLast _).symm⟩
  have hm : 0 < m.length := by simp at h; omega
  have h1 := chn_ne hm
  unfold chn at h1 ⊢
  rw [List.length_reverse] at h1 ⊢
  rw [chR_snoc, List.length_cons]
  have := List.length_pos_iff.2 (pop_ne q (s := chR m) (List.ne_nil_of_length_pos h1))
  omega
theorem RL_srt {l : List P} (h : RL l) : RL (srt l) := fun x hx => h x ((srt_perm l).mem_iff.1 hx)
theorem RL_rev {l : List P} (h : RL l) : RL l.reverse := fun x hx => h x (List.mem_reverse.1 hx)
theorem drop_split {l : List P} (h : l ≠ []) : ∃ x, l = l.dropLast ++ [x] := ⟨l.getLast h, (List.dropLast_concat_getLast h).symm⟩
def HuPost (L : List P) (w : World) (e : Ending) (w' : World) : Prop := ∃ v', e = .returned v' ∧ RdP w' v' L ∧ Q w w'
theorem hull_few {l : List P} (h : l.length < 3) : hull l = [] := by unfold hull; rw [if_pos h]
theorem hull_long {l : List P} (h : 32 < l.length) : hull l = [] := by unfold hull; rw [if_neg (by omega), if_pos h]
theorem hull_out {l : List P} (h : rng l = false) : hull l = [] := by unfold hull; rw [h]; split; rfl; split <;> rfl
theorem hull_in {l : List P} (h1 : ¬ l.length < 3) (h2 : ¬ 32 < l.length) (h : rng l = true) : hull l = if (hul l).length < 3 then [] else hul l := by unfold hull; rw [if_neg h1, if_neg h2, if_pos h]
set_option maxRecDepth 100000 in
set_option maxHeartbeats 3200000 in
theorem Hull_in (v : Value) (l : List P) (w : World) (hr : RdP w v l) (hb : Hid (rng l = true)) (h3 : 3 ≤ l.length) (h32 : l.length ≤ 32) : Calls Try.prog 27 #[v] w (HuPost (hull l) w) := by
  obtain ⟨i0, hi, hz0, hz1, hz2⟩ := info_parts infoP
  have HR := Lib.hid hr
  have HRL := Lib.hid (rng_mem hb.out)
  have HEQ := Lib.hid (hull_in (l := l) (by omega) (by omega) hb.out)
  have HL6 := Lib.hid (show l.length ≤ 1000000 by omega)
  have HLM := Lib.hid (show l.length ≤ maxLen by unfold maxLen; omega)
  have h0 : l ≠ [] := by intro e; rw [e] at h3; simp at h3
  have HNE := Lib.hid h0
  obtain ⟨A, c, rfl, hc, _⟩ := hr
  obtain ⟨n, hn⟩ : ∃ n, l.length = n := ⟨_, rfl⟩
  have HN := Lib.hid hn
  rw [hn] at h3 h32 HR
  rw [hn]
  have t1 : ¬ (n : Int) < 3 := by omega
  have t1' : decide ((n : Int) < 3) = false := decide_eq_false t1
  have t2 : ¬ (32 : Int) < (n : Int) := by omega
  have t2' : decide ((32 : Int) < (n : Int)) = false := decide_eq_false t2
  clear hc hn h0
  go_enter Try.func27, Try.ntmps27
  go_wp2_with fail
  refine (are_c _ l true hb _ HR.out HLM.out).mono ?_; rintro e w1 ⟨rfl, hq1⟩
  have HQ1 := Lib.hid hq1
  clear hq1
  go_wp2_with fail
  refine (clone_c _ l _ (RdG.q HR.out HQ1.out) HL6.out).mono ?_
  rintro e w2 (⟨h0, _, _⟩ | ⟨gb, cap, rfl, ho2, hq2⟩)
  · exact absurd h0 HNE.out
  have hgf := ho2.form (by have := HN.out; omega)
  obtain ⟨gb', cap', ev, hcap, hgB, hgw⟩ := hgf
  obtain ⟨rfl, rfl⟩ : gb = gb' ∧ cap = cap' := by injection ev with e1 e2 e3; injection e1 with e1; injection e1 with e1; exact ⟨e1, e3⟩
  clear ev
  have HO2 := Lib.hid ho2
  have HQ2 := Lib.hid hq2
  have HNN := Lib.hid (show l.length = n from HN.out)
  rw [HN.out] at hcap HO2
  rw [HN.out]
  clear ho2 hq2
  go_wp2_with fail
  have hso := sort_c w1.heap.size gb cap l w2 (by rw [HN.out]; exact HO2.out) HL6.out hgw (by rw [HN.out]; exact hcap)
  rw [HN.out] at hso
  refine hso.mono ?_
  clear hso
  rintro e w3 ⟨p, rfl, rfl, hwr, hbel⟩
  have HW3 := Lib.hid hwr
  have HB3 := Lib.hid (show Below w1.heap.size w1 w3 from Below.trans HQ2.out (hbel _ hgB HQ2.out.size))
  clear hbel hwr
  go_wp2_with fail
  refine (chain_c _ (srt l) _ (HW3.out.rd (by rw [srt_len, HN.out]) hcap) (RL_srt HRL.out) (by rw [srt_len, HN.out]; omega)).mono ?_
  rintro e w4 ⟨v4, rfl, ho4, hq4⟩
  have HO4 := Lib.hid ho4
  have HQ4 := Lib.hid hq4
  have HW4 := Lib.hid (HW3.out.q hq4)
  clear ho4 hq4
  go_wp2_with fail
  refine (rev_c gb cap n (srt l) _ HW4.out (by rw [srt_len, HN.out]) hcap (by omega)).mono ?_
  rintro e w5 ⟨rfl, hw5, hg5⟩
  have hgw3 : gb < w3.heap.size := HW3.out.1
  have HO5 := Lib.hid (show Own w3.heap.size v4 (chn (srt l)) w5 from World.ownsRow.kept HO4.out hg5 (.inr (by intro e; have := (World.ownsRow.lt HO4.out gb e).1; omega)))
  have HB4 := Lib.hid (show Below w1.heap.size w1 w4 from Below.trans HB3.out (HQ4.out.mono (HB3.out.size)))
  have HB5 := Lib.hid (show Below w1.heap.size w1 w5 from HB4.out.grown hg5 HB4.out.size (fun k e => by cases e; exact hgB))
  have HW5 := Lib.hid hw5
  have HS35 := Lib.hid (Nat.le_trans HQ4.out.size hg5.size)
  clear hg5 hw5
  go_wp2_with fail
  refine (chain_c _ (srt l).reverse _ (HW5.out.rd (by rw [List.length_reverse, srt_len, HN.out]) hcap) (RL_rev (RL_srt HRL.out)) (by rw [List.length_reverse, srt_len, HN.out]; omega)).mono ?_
  rintro e w6 ⟨v6, rfl, ho6, hq6⟩
  have HQ56 := Lib.hid hq6
  have HB6 := Lib.hid (show Below w1.heap.size w1 w6 from Below.trans HB5.out (hq6.mono HB5.out.size))
  have hlo := HO5.out.q hq6
  have hl2 := chn_two (l := srt l) (by rw [srt_len, HN.out]; omega)
  have hu2 := chn_two (l := (srt l).reverse) (by rw [List.length_reverse, srt_len, HN.out]; omega)
  have hl6 := chn_len (srt l)
  have hu6 := chn_len (srt l).reverse
  rw [List.length_reverse] at hu6
  rw [srt_len, HN.out] at hl6 hu6
  obtain ⟨x, hx⟩ := drop_split (l := chn (srt l)) (by intro e; rw [e] at hl2; simp at hl2)
  obtain ⟨y, hy⟩ := drop_split (l := chn (srt l).reverse) (by intro e; rw [e] at hu2; simp at hu2)
  have HHUL := Lib.hid (show hul l = (chn (srt l)).dropLast ++ (chn (srt l).reverse).dropLast from rfl)
  obtain ⟨LO, hLO⟩ : ∃ z, (chn (srt l)).dropLast = z := ⟨_, rfl⟩
  obtain ⟨UP, hUP⟩ : ∃ z, (chn (srt l).reverse).dropLast = z := ⟨_, rfl⟩
  rw [hLO] at hx HHUL
  rw [hUP] at hy HHUL
  rw [hx] at hlo hl2 hl6
  rw [hy] at ho6 hu2 hu6
  obtain ⟨g4, cap4, rfl, hc4, _, hg4⟩ := hlo.form (by omega)
  obtain ⟨g6, cap6, rfl, hc6, hg6B, hg6⟩ := ho6.form (by omega)
  have HLd := Lib.hid hlo.drop
  have HUd := Lib.hid ho6.drop
  rw [List.length_append, List.length_singleton] at hc4 hc6 hl2 hu2 hl6 hu6 ⊢
  rw [List.length_append, List.length_singleton]
  obtain ⟨m4, hm4⟩ : ∃ m, LO.length = m := ⟨_, rfl⟩
  obtain ⟨m6, hm6⟩ : ∃ m, UP.length = m := ⟨_, rfl⟩
  obtain ⟨k4, hk4⟩ : ∃ m, m4 + 1 = m := ⟨_, rfl⟩
  obtain ⟨k6, hk6⟩ : ∃ m, m6 + 1 = m := ⟨_, rfl⟩
  rw [hm4] at hc4 hl2 hl6 HLd ⊢
  rw [hm6] at hc6 hu2 hu6 HUd ⊢
  rw [hk4] at hc4 hl2 hl6 ⊢
  rw [hk6] at hc6 hu2 hu6 ⊢
  have s1 : IntKind.i64.wrap ((k4 : Int) - 1) = (m4 : Int) := by rw [IntWalk.i64_in _ (by omega)]; omega
  have s2 : IntKind.i64.wrap ((k6 : Int) - 1) = (m6 : Int) := by rw [IntWalk.i64_in _ (by omega)]; omega
  have s3 : m4 ≤ cap4 := by omega
  have s4 : m6 ≤ cap6 := by omega
  have hRd6 := Lib.hid (show RdP w6 (.slice (some ⟨g6, 0, none⟩) m6 cap6) UP by rw [← hm6]; have := HUd.out; rw [← hm6] at this; exact this.rd)
  have hne6 : 0 < m6 := by omega
  have hfit : m4 + m6 ≤ maxLen ∧ (m4 + m6) * 16 ≤ 140737488355328 := by unfold maxLen; omega
  have HFIT := Lib.hid hfit
  have HNEWS := Lib.hid (rdp_cells hRd6.out)
  have HM4 := Lib.hid hm4
  have HM6 := Lib.hid hm6
  clear hq6 hlo ho6 hx hy hLO hUP hm4 hm6 hk4 hk6 hc4 hc6 hl2 hu2 hl6 hu6 hg6B hfit
  have HLD2 := Lib.hid (show w6.drew.ownsRow w3.heap.size 38 2 (.slice (some ⟨g4, 0, none⟩) m4 cap4) m4 (cellsL LO) by have := HLd.out; unfold Own at this; rw [HM4.out] at this; exact this)
  have HNW := Lib.hid (show ∀ j u, (cellsL UP)[j]? = some u → w6.drew.cell? ((⟨g6, 0, none⟩ : Addr).add j) = some u from fun j u hj => by
    have := HNEWS.out j u hj
    rw [Nat.zero_add] at this
    rw [show (⟨g6, 0, none⟩ : Addr).add j = ⟨g6, j, none⟩ by unfold Addr.add; split <;> simp_all]
    exact this)
  have HLN := Lib.hid (show (cellsL UP).length = m6 * 2 by rw [cellsL_len, HM6.out])
  have HBS := Lib.hid (show w3.heap.size ≤ w6.drew.heap.size from Nat.le_trans HS35.out (Nat.le_trans (show w5.heap.size ≤ w6.heap.size from HQ56.out.size) (Nat.le_refl _)))
  have HB13 := Lib.hid (show w1.heap.size ≤ w3.heap.size from HB3.out.size)
  have HBB6 := Lib.hid (show Below w1.heap.size w1 w6.drew from HB6.out.drew)
  by_cases hlen : m4 + m6 < 3
  · have HH := Lib.hid (show hull l = [] by rw [HEQ.out, if_pos (by rw [HHUL.out, List.length_append, HM4.out, HM6.out]; exact hlen)])
    have t9 : ((m4 + m6 : Nat) : Int) < 3 := by omega
    have t9' : decide (m4 + m6 < 3) = true := decide_eq_true hlen
    clear hlen
    go_wp2_with fail
    go_region_law (refine step_append_lies _ rfl (.tmp 34) (.tmp 39) 22 rfl w3.heap.size 38 i0 (.agg #[.int .i64 0, .int .i64 0]) 2 16 Try.underlying22 hi hz0 hz1 hz2 rfl (by decide) (.slice (some ⟨g4, 0, none⟩) m4 cap4) m4 (cellsL LO) (by simp [Act.eval, Act.put]) HLD2.out ⟨g6, 0, none⟩ m6 cap6 (cellsL UP) (by simp [Act.eval, Act.put]) HLN.out HNW.out (cellsL_one _) hne6 HFIT.out.1 HFIT.out.2 HBS.out _ rfl ?_; intro g7 cap7 w7 hown' hgrow hat hlt)
    all_goals have HB7 := Lib.hid (show Below w1.heap.size w1 w7 from HBB6.out.grown hgrow HBB6.out.size (fun k e => by cases e; exact Nat.le_trans HB13.out (World.ownsRow.lt HLD2.out _ rfl).1))
    all_goals clear hown' hgrow hat hlt
    all_goals go_wp2_with fail
    all_goals go_ret
    all_goals exact ⟨_, rfl, by rw [HH.out]; exact RdG.nil _ _ _, HQ1.out.trans HB7.out⟩
  · have HH := Lib.hid (show hull l = LO ++ UP by rw [HEQ.out, if_neg (by rw [HHUL.out, List.length_append, HM4.out, HM6.out]; exact hlen), HHUL.out])
    have t9 : ¬ ((m4 + m6 : Nat) : Int) < 3 := by omega
    have t9' : decide (m4 + m6 < 3) = false := decide_eq_false hlen
    clear hlen
    go_wp2_with fail
    go_region_law (refine step_append_lies _ rfl (.tmp 34) (.tmp 39) 22 rfl w3.heap.size 38 i0 (.agg #[.int .i64 0, .int .i64 0]) 2 16 Try.underlying22 hi hz0 hz1 hz2 rfl (by decide) (.slice (some ⟨g4, 0, none⟩) m4 cap4) m4 (cellsL LO) (by simp [Act.eval, Act.put]) HLD2.out ⟨g6, 0, none⟩ m6 cap6 (cellsL UP) (by simp [Act.eval, Act.put]) HLN.out HNW.out (cellsL_one _) hne6 HFIT.out.1 HFIT.out.2 HBS.out _ rfl ?_; intro g7 cap7 w7 hown' hgrow hat hlt)
    all_goals have HB7 := Lib.hid (show Below w1.heap.size w1 w7 from HBB6.out.grown hgrow HBB6.out.size (fun k e => by cases e; exact Nat.le_trans HB13.out (World.ownsRow.lt HLD2.out _ rfl).1))
    all_goals have HRD := Lib.hid (show RdP w7 (.slice (some ⟨g7, 0, none⟩) (m4 + m6) cap7) (LO ++ UP) by
      have h : Own w3.heap.size (.slice (some ⟨g7, 0, none⟩) (m4 + m6) cap7) (LO ++ UP) w7 := by unfold Own; rw [List.length_append, HM4.out, HM6.out, cellsL_app]; exact hown'
      exact h.rd)
    all_goals clear hown' hgrow hat hlt
    all_goals go_wp2_with fail
    all_goals go_ret
    all_goals exact ⟨_, rfl, by rw [HH.out]; exact HRD.out, HQ1.out.trans HB7.out⟩
set_option maxRecDepth 100000 in
set_option maxHeartbeats 1600000 in
theorem Hull_c (v : Value) (l : List P) (w : World) (hr : RdP w v l) (hl : l.length ≤ maxLen) : Calls Try.prog 27 #[v] w (HuPost (hull l) w) := by
  have HR := Lib.hid hr
  have HL := Lib.hid hl
  by_cases h1 : l.length < 3
  · have HH := Lib.hid (hull_few h1)
    obtain ⟨A, c, rfl, hc, _⟩ := hr
    obtain ⟨n, hn⟩ : ∃ n, l.length = n := ⟨_, rfl⟩
    rw [hn]
    have t1 : (n : Int) < 3 := by omega
    clear hc hn hl h1
    go_enter Try.func27, Try.ntmps27
    go_wp2_with fail
    go_ret
    exact ⟨_, rfl, by rw [HH.out]; exact RdG.nil _ _ _, Q.refl _⟩
  · by_cases h2 : 32 < l.length
    · have HH := Lib.hid (hull_long h2)
      obtain ⟨A, c, rfl, hc, _⟩ := hr
      obtain ⟨n, hn⟩ : ∃ n, l.length = n := ⟨_, rfl⟩
      rw [hn]
      have t1' : decide ((n : Int) < 3) = false := decide_eq_false (by omega)
      have t2 : (32 : Int) < (n : Int) := by omega
      clear hc hn hl h1 h2
      go_enter Try.func27, Try.ntmps27
      go_wp2_with fail
      go_ret
      exact ⟨_, rfl, by rw [HH.out]; exact RdG.nil _ _ _, Q.refl _⟩
    · obtain ⟨b, hb⟩ : ∃ b, rng l = b := ⟨_, rfl⟩
      cases b with
      | true => exact Hull_in v l w hr (Lib.hid hb) (by omega) (by omega)
      | false =>
        have HH := Lib.hid (hull_out hb)
        have HB := Lib.hid hb
        obtain ⟨A, c, rfl, hc, _⟩ := hr
        obtain ⟨n, hn⟩ : ∃ n, l.length = n := ⟨_, rfl⟩
        rw [hn] at HR
        rw [hn]
        have t1' : decide ((n : Int) < 3) = false := decide_eq_false (by omega)
        have t2' : decide ((32 : Int) < (n : Int)) = false := decide_eq_false (by omega)
        clear hc hn hl h1 h2 hb
        go_enter Try.func27, Try.ntmps27
        go_wp2_with fail
        refine (are_c _ l false HB _ HR.out HL.out).mono ?_; rintro e w1 ⟨rfl, hq1⟩
        go_wp2_with fail
        go_ret
        exact ⟨_, rfl, by rw [HH.out]; exact RdG.nil _ _ _, hq1⟩
end Go.Proofs.Ytkkghejbdakmpaa
