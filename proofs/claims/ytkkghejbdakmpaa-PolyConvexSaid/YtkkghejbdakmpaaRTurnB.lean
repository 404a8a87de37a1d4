/- The contracts of the reference's Turn and Mirror. -/
import Derived.Test.YtkkghejbdakmpaaRTurn
import Derived.Test.YtkkghejbdakmpaaChain
set_option linter.unusedVariables false
set_option linter.unusedSimpArgs false
namespace Go.Proofs.Ytkkghejbdakmpaa
open Go.ChangeShapes Go.WideShapes Go.ChangeAt Go.RowKit Go.Shelf Pm

theorem take_map_next (f : P → P) (l : List P) {k : Nat} (hk : k < l.length) : (l.map f).take (k + 1) = (l.map f).take k ++ [f (g l k)] := by
  rw [List.take_succ_eq_append_getElem (by rw [List.length_map]; exact hk), List.getElem_map, g_at hk]
theorem g_rev {l : List P} {i k : Nat} (h : i + k + 1 = l.length) : g l.reverse k = g l i := by
  rw [g_at (by rw [List.length_reverse]; omega), g_at (show i < l.length by omega), List.getElem_reverse]
  congr 1; omega
theorem asz (w : World) (o : Obj) : (w.alloc o).heap.size = w.heap.size + 1 := by show (w.heap.push _).size = _; simp
set_option maxRecDepth 100000 in
set_option maxHeartbeats 1600000 in
theorem rTurn_yes (v : Value) (l : List P) (q : Int) (w : World) (hr : RdP w v l) (hl : l.length ≤ 1000000) (hn : Hid (negL l = true)) (hq : Fit q) (hf : Hid (FitL l)) : Calls Try.prog 22 #[v, .int .i64 q] w (ListPost (l.map fun z => rot z (qt q)) w) := by
  obtain ⟨i0, hif, hz0, hz1, hz2⟩ := info_parts infoP
  have HR := Lib.hid hr
  have HFQ := Lib.hid hq
  have HLM := Lib.hid (show l.length ≤ maxLen by unfold maxLen; omega)
  obtain ⟨A, c, rfl, hc, _⟩ := hr
  obtain ⟨n, hn'⟩ : ∃ n, l.length = n := ⟨_, rfl⟩
  have HN := Lib.hid hn'
  obtain ⟨t, ht⟩ : ∃ t, qt q = t := ⟨_, rfl⟩
  have HT := Lib.hid ht
  have HT3 := Lib.hid (show t ≤ 3 by rw [← ht]; unfold qt; omega)
  rw [hn'] at HR hl
  rw [hn', ht]
  clear hc hn' ht hq
  go_enter Try.func22, Try.ntmps22
  go_wp2_with fail
  refine (rneg_c _ l true hn _ HR.out HLM.out).mono ?_; rintro e w1 ⟨rfl, rfl⟩
  go_wp2_with fail
  go_loopw [5, 6] (fun u5 u6 wr => ∃ k : Nat, k ≤ n ∧ u6 = .int .i64 k ∧ Hid (Own w.heap.size u5 ((l.map fun z => rot z t).take k) wr ∧ Q w wr)) (fun _ u6 _ => n - (intOf u6).toNat)
  case atStart => exact ⟨0, Nat.zero_le _, rfl, own_nil _ _, Q.refl _⟩
  case round =>
    obtain ⟨k, hk, rfl, HI⟩ := hrel
    by_cases hlt : k < n
    · have hkl : k < l.length := by rw [HN.out]; exact hlt
      obtain ⟨bb, off, rfl, hb, hc, c0, c1⟩ := HR.out.at HI.out.2 hkl
      have hng := neg_at hn.out hkl
      have hft := fit_g hf.out k
      have hz := take_map_next (fun z => rot z t) l hkl
      obtain ⟨⟨x, y⟩, hx⟩ : ∃ q, g l k = q := ⟨_, rfl⟩
      rw [hx] at c0 c1 hng hft hz
      obtain ⟨⟨r1, r2⟩, hro⟩ : ∃ r, rot (x, y) t = r := ⟨_, rfl⟩
      have hz : (l.map fun z => rot z t).take (k + 1) = (l.map fun z => rot z t).take k ++ [(r1, r2)] := by rw [hz, ← hro]
      have HRO := Lib.hid hro
      have HTU := Lib.hid (fun W => show Calls Try.prog 42 #[.agg #[.int .i64 x, .int .i64 y], .int .i64 t] W fun e w' => e = .returned (.agg #[.int .i64 r1, .int .i64 r2]) ∧ Q W w' from rTurned_c (x, y) t (r1, r2) HRO HT3.out hft hng W)
      have HZ := Lib.hid hz
      obtain ⟨L, hL⟩ : ∃ L, (l.map fun z => rot z t).take k = L := ⟨_, rfl⟩
      have hLl : L.length = k := by rw [← hL, List.length_take, List.length_map, HN.out]; omega
      rw [hL] at HZ
      have HO1 := Lib.hid (show Own w.heap.size u5 L wr by rw [← hL]; exact HI.out.1)
      have HIQ := Lib.hid HI.out.2
      have RM := Lib.hid (show Room L.length from room_of (by omega))
      have hkn : (k : Int) < (n : Int) := by omega
      have k0 : (0 : Int) ≤ (k : Int) := by omega
      dsimp only at c0 c1
      clear hkl hng hft hz hx hro hL hLl HI hb
      go_wp2_with fail
      go_region_law (first
        | (refine step_append_lies _ rfl (.tmp 16) (.tmp 24) 22 rfl w.heap.size 38 i0 (.agg #[.int .i64 0, .int .i64 0]) 2 16 Try.underlying22 hif hz0 hz1 hz2 rfl (by decide) u5 L.length (cellsL L) (by simp [Act.eval, Act.put]) (World.ownsRow.alloc HO6.out _) ⟨w6.heap.size, 0, none⟩ 1 1 [.int .i64 r1, .int .i64 r2] (by simp [Act.eval, Act.put]) rfl (pair_at w6 _ _ _) (pair_cell _ _) (by decide) RM.out.1 RM.out.2 (alloc_le HB6.out.size _) (w6.heap.size + 1) (asz _ _) ?_; intro g cap w7 hown' hgrow hat hlt)
        | (go_simp; go_at_call 32; refine (rQuarters_c q t HT HFQ.out _).mono ?_; rintro E w5 ⟨rfl, rfl⟩)
        | (go_simp; go_at_call 42; refine (HTU.out _).mono ?_; rintro E w6 ⟨rfl, hq6⟩; have hQ6 : Q wr w6 := Q.trans (by repeat (first | exact Q.refl _ | refine Q.drewN ?_ _ | refine Q.drew ?_)) hq6; have HB6 := Lib.hid (show Below w.heap.size w w6 from HIQ.out.trans hQ6); have HO6 := Lib.hid (Own.q HO1.out hQ6); clear hq6 hQ6))
      all_goals have N := Lib.hid (own_next (s := (r1, r2)) HO6.out HB6.out HB6.out.size hown' hgrow)
      all_goals clear hown' hgrow
      all_goals go_wp2_with fail
      all_goals exact ⟨⟨k + 1, by omega, by go_num, by rw [HZ.out]; exact N.out.1, N.out.2⟩, by simp [intOf] <;> omega⟩
    · obtain rfl : k = n := by omega
      have HE := Lib.hid (show Own w.heap.size u5 (l.map fun z => rot z t) wr by
        have := HI.out.1
        rw [List.take_of_length_le (by rw [List.length_map, HN.out]; omega)] at this; exact this)
      have HQ := Lib.hid HI.out.2
      go_wp2_with fail
      go_ret
      exact ⟨_, rfl, HE.out.rd, HQ.out⟩
set_option maxHeartbeats 1600000 in
theorem rTurn_c (v : Value) (l : List P) (q : Int) (L : List P) (h : Hid (turn l q = L)) (w : World) (hr : RdP w v l) (hl : l.length ≤ 1000000) (hq : Fit q) (hf : FitL l) : Calls Try.prog 22 #[v, .int .i64 q] w (ListPost L w) := by
  rw [← h.out]
  obtain ⟨b, hb⟩ : ∃ b, negL l = b := ⟨_, rfl⟩
  unfold turn
  rw [hb]
  cases b with
  | true => rw [if_pos rfl]; exact rTurn_yes v l q w hr hl (Lib.hid hb) hq (Lib.hid hf)
  | false =>
    have HB := Lib.hid hb
    have HR := Lib.hid hr
    have HL := Lib.hid (show l.length ≤ maxLen by unfold maxLen; omega)
    rw [if_neg (by decide)]
    obtain ⟨A, c, rfl, hc, _⟩ := hr
    clear hc hl h hb hq hf
    go_enter Try.func22, Try.ntmps22
    go_wp2_with fail
    refine (rneg_c _ l false HB _ HR.out HL.out).mono ?_; rintro e w1 ⟨rfl, rfl⟩
    go_wp2_with fail
    go_ret
    exact ⟨_, rfl, RdG.nil _ _ _, Q.refl _⟩
set_option maxRecDepth 100000 in
set_option maxHeartbeats 1600000 in
theorem rMirror_yes (v : Value) (l : List P) (w : World) (hr : RdP w v l) (hl : l.length ≤ 1000000) (hn : Hid (negL l = true)) (hf : Hid (FitL l)) : Calls Try.prog 24 #[v] w (ListPost (l.reverse.map fun q => (-q.1, q.2)) w) := by
  obtain ⟨i0, hif, hz0, hz1, hz2⟩ := info_parts infoP
  have HR := Lib.hid hr
  have HLM := Lib.hid (show l.length ≤ maxLen by unfold maxLen; omega)
  obtain ⟨A, c, rfl, hc, _⟩ := hr
  obtain ⟨n, hn'⟩ : ∃ n, l.length = n := ⟨_, rfl⟩
  have HN := Lib.hid hn'
  rw [hn'] at HR hl
  rw [hn']
  clear hc hn'
  go_enter Try.func24, Try.ntmps24
  go_wp2_with fail
  refine (rneg_c _ l true hn _ HR.out HLM.out).mono ?_; rintro e w1 ⟨rfl, rfl⟩
  go_wp2_with fail
  go_loopw [3, 4] (fun u3 u4 wr => ∃ j k : Nat, j + k = n ∧ u4 = .int .i64 ((j : Int) - 1) ∧ Hid (Own w.heap.size u3 ((l.reverse.map fun q => (-q.1, q.2)).take k) wr ∧ Q w wr)) (fun _ u4 _ => (intOf u4 + 1).toNat)
  case atStart => exact ⟨n, 0, rfl, by go_num, own_nil _ _, Q.refl _⟩
  case round =>
    obtain ⟨j, k, hjk, rfl, HI⟩ := hrel
    match j, hjk with
    | i + 1, hjk =>
      have e : ((i + 1 : Nat) : Int) - 1 = (i : Int) := by omega
      rw [e]
      have hkl : i < l.length := by rw [HN.out]; omega
      obtain ⟨bb, off, rfl, hb, hc, c0, c1⟩ := HR.out.at HI.out.2 hkl
      have hng := neg_at hn.out hkl
      have hft := fit_g hf.out i
      have hz := take_map_next (fun q => (-q.1, q.2)) l.reverse (k := k) (by rw [List.length_reverse, HN.out]; omega)
      rw [g_rev (show i + k + 1 = l.length by rw [HN.out]; omega)] at hz
      obtain ⟨⟨x, y⟩, hx⟩ : ∃ q, g l i = q := ⟨_, rfl⟩
      rw [hx] at c0 c1 hng hft hz
      have HZ := Lib.hid hz
      obtain ⟨L, hL⟩ : ∃ L, (l.reverse.map fun q => (-q.1, q.2)).take k = L := ⟨_, rfl⟩
      have hLl : L.length = k := by rw [← hL, List.length_take, List.length_map, List.length_reverse, HN.out]; omega
      rw [hL] at HZ
      dsimp only at c0 c1 hng hft
      have nx := negFit hft.1 hng.1
      have HO1 := Lib.hid (show Own w.heap.size u3 L wr by rw [← hL]; exact HI.out.1)
      have HIQ := Lib.hid HI.out.2
      have RM := Lib.hid (show Room L.length from room_of (by omega))
      have hkn : (i : Int) < (n : Int) := by omega
      have k0 : (0 : Int) ≤ (i : Int) := by omega
      clear hkl hng hft hz hx hL hLl HI hb
      go_wp2_with fail
      have O1 : wr.drew.ownsRow w.heap.size 38 2 u3 L.length (cellsL L) := HO1.out
      have Q1 : Below w.heap.size w wr.drew := HIQ.out.drew
      have hO1 := Lib.hid O1
      have hQ1 := Lib.hid Q1
      clear O1 Q1
      go_region_law (refine step_append_lies _ rfl (.tmp 15) (.tmp 28) 22 rfl w.heap.size 38 i0 (.agg #[.int .i64 0, .int .i64 0]) 2 16 Try.underlying22 hif hz0 hz1 hz2 rfl (by decide) u3 L.length (cellsL L) (by simp [Act.eval, Act.put]) (World.ownsRow.alloc hO1.out _) ⟨wr.heap.size, 0, none⟩ 1 1 [.int .i64 (-x), .int .i64 y] (by simp [Act.eval, Act.put]) rfl (pair_at wr.drew _ _ _) (pair_cell _ _) (by decide) RM.out.1 RM.out.2 (alloc_le hQ1.out.size _) (wr.heap.size + 1) (asz _ _) ?_; intro g cap w7 hown' hgrow hat hlt)
      all_goals have N := Lib.hid (own_next (s := (-x, y)) hO1.out hQ1.out hQ1.out.size hown' hgrow)
      all_goals clear hown' hgrow
      all_goals go_wp2_with fail
      all_goals exact ⟨⟨i, k + 1, by omega, by go_num, by rw [HZ.out]; exact N.out.1, N.out.2⟩, by simp [intOf] <;> omega⟩
    | 0, hjk =>
      obtain rfl : k = n := by omega
      have HE := Lib.hid (show Own w.heap.size u3 (l.reverse.map fun q => (-q.1, q.2)) wr by
        have := HI.out.1
        rw [List.take_of_length_le (by rw [List.length_map, List.length_reverse, HN.out]; omega)] at this; exact this)
      have HQ := Lib.hid HI.out.2
      have e : ((0 : Nat) : Int) - 1 = -1 := by omega
      rw [e]
      go_wp2_with fail
      go_ret
      exact ⟨_, rfl, HE.out.rd, HQ.out⟩
set_option maxHeartbeats 1600000 in
theorem rMirror_c (v : Value) (l : List P) (L : List P) (h : Hid (mir l = L)) (w : World) (hr : RdP w v l) (hl : l.length ≤ 1000000) (hf : Hid (FitL l)) : Calls Try.prog 24 #[v] w (ListPost L w) := by
  rw [← h.out]
  obtain ⟨b, hb⟩ : ∃ b, negL l = b := ⟨_, rfl⟩
  cases b with
  | true => rw [mir_is hb]; exact rMirror_yes v l w hr hl (Lib.hid hb) hf
  | false =>
    have e : mir l = [] := by unfold mir; rw [hb]; rfl
    rw [e]
    have HB := Lib.hid hb
    have HR := Lib.hid hr
    have HL := Lib.hid (show l.length ≤ maxLen by unfold maxLen; omega)
    obtain ⟨A, c, rfl, hc, _⟩ := hr
    clear hc hl h hb hf e
    go_enter Try.func24, Try.ntmps24
    go_wp2_with fail
    refine (rneg_c _ l false HB _ HR.out HL.out).mono ?_; rintro e w1 ⟨rfl, rfl⟩
    go_wp2_with fail
    go_ret
    exact ⟨_, rfl, RdG.nil _ _ _, Q.refl _⟩
end Go.Proofs.Ytkkghejbdakmpaa
