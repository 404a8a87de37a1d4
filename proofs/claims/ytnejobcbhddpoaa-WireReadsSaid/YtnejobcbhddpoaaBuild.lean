/- The contracts of strings.Builder's copyCheck and WriteString at a builder of the call's own, and of Ints and its reference. -/
import Derived.Test.YtnejobcbhddpoaaRead
import Derived.Test.YtnejobcbhddpoaaShelf
import Derived.Lib.Builder
import Derived.Lib.AppendStr
import Derived.Lib.UnsafeStr
import Derived.Laws.Externs
set_option linter.unusedVariables false
set_option linter.unusedSimpArgs false
namespace Go.Proofs.Ytnejobcbhddpoaa
open Go.ChangeShapes Go.WideShapes Go.ChangeAt Go.RowKit Wm

theorem infoBd : (Try.prog.info? 74).map (·.size) = some 2 := by kernel_rfl
theorem liesBd : liesAt Try.prog Try.prog.depth 74 (2 / Try.prog.cellsOf 74) 0 74 1 = true := by kernel_rfl
abbrev IsB (B b : Nat) (l : List UInt8) (w : World) : Prop := Lib.IsBuilder 74 5 B b (Lib.byteCells l) w
set_option maxRecDepth 100000 in
set_option maxHeartbeats 1000000 in
theorem check_used (b : Nat) (w : World) (h0 : w.cell? ⟨b, 0, none⟩ = some (.pointer (some ⟨b, 0, none⟩))) : Calls Try.prog 52 #[.pointer (some ⟨b, 0, none⟩)] w fun e w' => e = .returned (.tuple #[]) ∧ w' = w := by
  obtain ⟨j, hj, _⟩ := Option.map_eq_some_iff.1 infoBd
  go_enter Try.func52, Try.ntmps52
  go_wp2_with fail
  rw [Lib.run_neq_ptr_same w _ Try.underlying72 hj]
  go_wp2_with fail
  go_end0
  exact ⟨rfl, rfl⟩
set_option maxRecDepth 100000 in
set_option maxHeartbeats 1000000 in
theorem check_fresh (b : Nat) (w : World) (h0 : w.cell? ⟨b, 0, none⟩ = some (.pointer none)) (hsh : w.shape? b = some (74, 2)) (hfz : w.frozen? ⟨b, 0, none⟩ = false) : Calls Try.prog 52 #[.pointer (some ⟨b, 0, none⟩)] w fun e w' => e = .returned (.tuple #[]) ∧ w' = w.setCell ⟨b, 0, none⟩ (.pointer (some ⟨b, 0, none⟩)) := by
  obtain ⟨j, hj, hjs⟩ := Option.map_eq_some_iff.1 infoBd
  go_enter Try.func52, Try.ntmps52
  go_wp2_with fail
  rw [Lib.run_to_unsafe w ⟨b, 0, none⟩ Try.underlying72 Try.underlying98 hj (by rw [hjs]; decide) hsh (Nat.zero_lt_succ 1)]
  simp only [Result.andThen]
  rw [Oper.upon_value]
  go_wp2_with fail
  rw [run_callFunc_extern Try.func55 (by kernel_rfl) (by kernel_rfl) (by kernel_rfl) (e := Extern.AbiNoEscape.same) (by kernel_rfl)]
  rw [Lib.run_noEscape]
  simp only [Result.andThen]
  rw [Oper.upon_value]
  go_wp2_with fail
  rw [Lib.run_from_unsafe w ⟨b, 0, none⟩ Try.underlying98 Try.underlying72 hj hsh liesBd]
  simp only [Result.andThen]
  rw [Oper.upon_value]
  go_wp2_with fail
  go_end0
  exact ⟨rfl, rfl⟩
theorem check_c (B b : Nat) (bs : List Value) (w : World) (h : Lib.IsBuilder 74 5 B b bs w) : Calls Try.prog 52 #[.pointer (some ⟨b, 0, none⟩)] w fun e w' => e = .returned (.tuple #[]) ∧ (Lib.BuilderAt 74 5 B b (.pointer (some ⟨b, 0, none⟩)) bs w' ∧ Below B w w') := by
  rcases h with h | h
  · refine (check_fresh b w h.cell0 h.shape h.frozen0).mono ?_
    rintro e w' ⟨rfl, rfl⟩
    exact ⟨rfl, h.used _, (Below.refl B w).setCell (p := ⟨b, 0, none⟩) h.1 _⟩
  · refine (check_used b w h.cell0).mono ?_
    rintro e w' ⟨rfl, rfl⟩
    exact ⟨rfl, h, Below.refl B _⟩
set_option maxRecDepth 100000 in
set_option maxHeartbeats 1000000 in
theorem WriteS_c (B b : Nat) (bs : List Value) (s : ByteArray) (w : World) (h : Lib.IsBuilder 74 5 B b bs w) (hlen : bs.length + s.size ≤ 140737488355328) (hBw : B ≤ w.heap.size) :
    Calls Try.prog 43 #[.pointer (some ⟨b, 0, none⟩), .string s] w fun e w' => e = .returned (.tuple #[.int .i64 s.size, .nilIface]) ∧ (Lib.IsBuilder 74 5 B b (bs ++ Lib.strCells s) w' ∧ Below B w w') := by
  obtain ⟨i0, hi, hz0, hz1, hz2⟩ := info_parts infoB
  go_enter Try.func43, Try.ntmps43
  go_wp2_with (go_at_call 52; refine (check_c B b bs _ h).mono ?_)
  rintro e w1 ⟨rfl, h1, hb1⟩
  obtain ⟨hB, v, hbk, hown, hne⟩ := h1
  have c0 : w1.cell? ⟨b, 0, none⟩ = some (.pointer (some ⟨b, 0, none⟩)) := by rw [Lib.cell_of_heap hbk]; rfl
  have c1 : w1.cell? ⟨b, 1, none⟩ = some v := by rw [Lib.cell_of_heap hbk]; rfl
  have hs1 := hb1.size
  go_wp2_with (at_builtin; refine Lib.wpList_append_own_string _ rfl _ _ 68 9 rfl B 5 i0 Try.underlying68 Try.underlying9 hi hz0 hz1 hz2 _ _ _ rfl hown s rfl ?c3 ?c4 ?c5 ?_)
  case c3 => unfold maxLen; omega
  case c4 => omega
  case c5 => omega
  intro v' w2 hown' hgrow _
  have hlt := lt_of_block hbk
  have hb2 : w2.heap[b]? = some (.cells #[.pointer (some ⟨b, 0, none⟩), v] 74 (0, 0)) := by
    rw [hgrow.block b hlt (fun e => hne e.symm)]
    exact hbk
  have d0 : w2.cell? ⟨b, 0, none⟩ = some (.pointer (some ⟨b, 0, none⟩)) := by rw [Lib.cell_of_heap hb2]; rfl
  have d1 : w2.cell? ⟨b, 1, none⟩ = some v := by rw [Lib.cell_of_heap hb2]; rfl
  have f1 : w2.frozen? ⟨b, 1, none⟩ = false := Lib.frozen_of_heap hb2 1
  obtain ⟨ao, n', cap, rfl⟩ : ∃ ao n' cap, v' = .slice ao n' cap := by
    rcases hown'.2 with ⟨hv, _⟩ | ⟨g, cap, cur, hv, _⟩
    · exact ⟨_, _, _, hv⟩
    · exact ⟨_, _, _, hv⟩
  go_wp2_with fail
  go_ret2
  refine ⟨rfl, ?_, ?_⟩
  · exact Or.inr (Lib.BuilderAt.put (T := 74) (e := 5) hB hb2 (bs' := bs ++ Lib.strCells s) (by simpa [Lib.strCells_length] using hown') (by decide))
  · exact ((hb1.grown hgrow (by have := hb1.size; omega) (fun k hk => (hown.lt k hk).1)).setCell (p := ⟨b, 1, none⟩) hB _)
theorem IsB.q {B b : Nat} {bs : List Value} {w w' : World} (h : Lib.IsBuilder 74 5 B b bs w) (hq : Q w w') : Lib.IsBuilder 74 5 B b bs w' := by
  have go : ∀ p, Lib.BuilderAt 74 5 B b p bs w → Lib.BuilderAt 74 5 B b p bs w' := by
    rintro p ⟨hB, v, hbk, hown, hne⟩
    exact ⟨hB, v, (hq.block b (lt_of_block hbk)).trans hbk, hown.kept (row := none) ⟨hq.os, hq.tape, hq.output, hq.size, fun k hk _ => hq.block k hk⟩ (by cases hv : v.ownBlock <;> simp), hne⟩
  exact h.imp (go _) (go _)
/-- the encoding of a list -/
def bodyI (l : List Int) : List UInt8 := l.flatMap fun z => uv (zz z)
def insL (l : List Int) : List UInt8 := uv l.length ++ bodyI l
theorem bodyI_snoc (l : List Int) (k : Nat) (h : k < l.length) : bodyI (l.take (k + 1)) = bodyI (l.take k) ++ uv (zz l[k]) := by
  rw [List.take_succ_eq_append_getElem h]; unfold bodyI; rw [List.flatMap_append]; simp
def FitI (l : List Int) : Prop := ∀ z ∈ l, Fit z
theorem bodyI_len (l : List Int) (h : FitI l) : (bodyI l).length ≤ 10 * l.length := by
  induction l with
  | nil => simp [bodyI]
  | cons a l ih =>
    have h1 := h a (by simp)
    have h2 := uv_len (zz_lt h1.1 h1.2)
    have h3 := ih (fun z hz => h z (List.mem_cons_of_mem _ hz))
    show (uv (zz a) ++ bodyI l).length ≤ _
    rw [List.length_append, List.length_cons]; omega
theorem FitI.take {l : List Int} (h : FitI l) (k : Nat) : FitI (l.take k) := fun z hz => h z (List.mem_of_mem_take hz)
theorem str_bs (l : List UInt8) : Lib.strCells (bs l) = Lib.byteCells l := rfl
theorem byteCells_app (a b : List UInt8) : Lib.byteCells a ++ Lib.byteCells b = Lib.byteCells (a ++ b) := by unfold Lib.byteCells; rw [List.map_append]
theorem byteCells_len (a : List UInt8) : (Lib.byteCells a).length = a.length := by unfold Lib.byteCells; rw [List.length_map]
set_option maxRecDepth 100000 in
set_option maxHeartbeats 1000000 in
theorem Ints_c (v : Value) (l : List Int) (w : World) (hr : RdI w v l) (hl : l.length ≤ 100000) (hf : FitI l) : Calls Try.prog 19 #[v] w fun e w' => e = .returned (.string (bs (insL l))) ∧ Q w w' := by
  have hr2 := hr
  obtain ⟨sA, sc, rfl, hle, _⟩ := hr2
  have HR := Lib.hid hr
  have HF := Lib.hid hf
  obtain ⟨n, hn⟩ : ∃ n, l.length = n := ⟨_, rfl⟩
  rw [hn] at hl hle
  have HU := Lib.hid (fun w => Uint_c n w (by omega))
  have HUL := Lib.hid (uv_len (n := n) (by omega))
  have HBL := Lib.hid (fun k => bodyI_len (l.take k) (hf.take k))
  have H0 := Lib.hid (Lib.fresh_isBuilder 74 5 w)
  have HZ := Lib.hid (show insL l = uv n ++ bodyI (l.take n) by unfold insL; rw [hn, ← hn, List.take_length])
  have HN := Lib.hid hn
  rw [hn]
  clear hr hf hn
  go_enter Try.func19, Try.ntmps19
  go_wp2_with fail
  refine (HU.out _).mono ?_; rintro e w1 ⟨rfl, hq1⟩
  have H1 := Lib.hid (IsB.q H0.out hq1)
  have Q1 := Lib.hid (((Q.refl w).alloc (.cells #[.pointer none, .slice none 0 0] 74)).trans hq1)
  clear hq1
  go_wp2_with fail
  refine (WriteS_c w.heap.size w.heap.size _ _ _ H1.out (by simp [size_bs]; have := HUL.out; omega) Q1.out.size).mono ?_
  rintro e w2 ⟨rfl, h2, hb2⟩
  have H2 := Lib.hid (show IsB w.heap.size w.heap.size (uv n ++ bodyI (l.take 0)) w2 by
    have h3 := h2
    rw [str_bs] at h3
    rw [show uv n ++ bodyI (l.take 0) = uv n by simp [bodyI]]
    exact h3)
  have Q2 := Lib.hid (Below.trans (show Below w.heap.size w w1 from Q1.out) hb2)
  clear h2 hb2
  go_wp2_with fail
  go_loopw [13] (fun i wr => ∃ k : Nat, k ≤ n ∧ i = .int .i64 k ∧ Hid (IsB w.heap.size w.heap.size (uv n ++ bodyI (l.take k)) wr ∧ Below w.heap.size w wr)) (fun i _ => n - (intOf i).toNat)
  case atStart => exact ⟨0, by omega, rfl, H2.out, Q2.out⟩
  case round =>
    obtain ⟨k, hk, rfl, HI⟩ := hrel
    by_cases hlt : k < n
    · have hkl : k < l.length := by rw [HN.out]; exact hlt
      obtain ⟨sA2, sc2, e1, _, h3⟩ := HR.out
      injection e1 with e1 e2 e3
      obtain ⟨rb, ro, e4, hrb, hrc⟩ := h3 (by omega)
      rw [e4] at e1
      subst e1
      obtain ⟨z, hz⟩ : ∃ z, l[k] = z := ⟨_, rfl⟩
      have hc := HI.out.2.cell (p := ⟨rb, ro + k, none⟩) hrb
      rw [hrc k l[k] (List.getElem?_eq_getElem hkl), hz] at hc
      have HFZ := Lib.hid (show Fit z from hz ▸ HF.out _ (List.getElem_mem hkl))
      have HS := Lib.hid (show bodyI (l.take (k + 1)) = bodyI (l.take k) ++ uv (zz z) by rw [bodyI_snoc l k hkl, hz])
      clear h3 hrc e2 e3 hz hrb e4
      go_wp2_with fail
      refine (Int_c z _ HFZ.out).mono ?_; rintro e w3 ⟨rfl, hq3⟩
      have B3 := Lib.hid (IsB.q HI.out.1 hq3)
      have Q3 := Lib.hid (HI.out.2.trans (Below.mono hq3 HI.out.2.size))
      clear hq3
      go_wp2_with fail
      refine (WriteS_c w.heap.size w.heap.size _ _ _ B3.out (by rw [byteCells_len, List.length_append, size_bs]; have a1 := HUL.out; have a2 := HBL.out k; have a3 := uv_len (zz_lt HFZ.out.1 HFZ.out.2); rw [List.length_take] at a2; omega) Q3.out.size).mono ?_
      rintro e w4 ⟨rfl, h4, hb4⟩
      have B4 := Lib.hid (show IsB w.heap.size w.heap.size (uv n ++ bodyI (l.take (k + 1))) w4 by
        rw [HS.out, ← List.append_assoc]
        rw [str_bs, byteCells_app] at h4
        exact h4)
      have Q4 := Lib.hid (Q3.out.trans hb4)
      clear h4 hb4
      go_wp2_with fail
      go_roundw
      case rel => exact ⟨k + 1, by omega, by go_num, B4.out, Q4.out⟩
      case measure => simp [intOf] <;> omega
    · obtain rfl : k = n := by omega
      have HT := Lib.hid (Try.Builder_String_any w.heap.size w.heap.size _ wr HI.out.1 HI.out.2.size)
      go_wp2_with fail
      refine HT.out.mono ?_; rintro e w5 ⟨rfl, hb5⟩
      go_wp2_with fail
      go_ret
      exact ⟨ret_str (by rw [HZ.out]; rfl), HI.out.2.trans hb5⟩
set_option maxRecDepth 100000 in
set_option maxHeartbeats 1000000 in
theorem rInts_c (v : Value) (l : List Int) (w : World) (hr : RdI w v l) (hl : l.length ≤ 100000) (hf : FitI l) : Calls Try.prog 20 #[v] w fun e w' => e = .returned (.string (bs (insL l))) ∧ Q w w' := by
  have hr2 := hr
  obtain ⟨sA, sc, rfl, hle, _⟩ := hr2
  have HR := Lib.hid hr
  have HF := Lib.hid hf
  obtain ⟨n, hn⟩ : ∃ n, l.length = n := ⟨_, rfl⟩
  rw [hn] at hl hle
  have HU := Lib.hid (fun w => rUint_is n w (by omega))
  have HUL := Lib.hid (uv_len (n := n) (by omega))
  have HBL := Lib.hid (fun k => bodyI_len (l.take k) (hf.take k))
  have HZ := Lib.hid (show bs (uv n ++ bodyI (l.take n)) = bs (insL l) by unfold insL; rw [hn, ← hn, List.take_length])
  have H00 := Lib.hid (show bs (uv n) = bs (uv n ++ bodyI (l.take 0)) by simp [bodyI])
  have HN := Lib.hid hn
  rw [hn]
  clear hr hf hn
  go_enter Try.func20, Try.ntmps20
  go_wp2_with fail
  refine (HU.out _).mono ?_; rintro e w1 ⟨rfl, hq1⟩
  have Q1 := Lib.hid hq1
  clear hq1
  go_wp2_with fail
  go_loopw [3, 4] (fun x i wr => ∃ (k : Nat) (S : ByteArray), k ≤ n ∧ i = .int .i64 k ∧ x = .string S ∧ Hid (S = bs (uv n ++ bodyI (l.take k)) ∧ Below w.heap.size w wr)) (fun _ i _ => n - (intOf i).toNat)
  case atStart => exact ⟨0, _, by omega, rfl, rfl, H00.out, Q1.out⟩
  case round =>
    obtain ⟨k, S, hk, rfl, rfl, HI⟩ := hrel
    by_cases hlt : k < n
    · have hkl : k < l.length := by rw [HN.out]; exact hlt
      obtain ⟨sA2, sc2, e1, _, h3⟩ := HR.out
      injection e1 with e1 e2 e3
      obtain ⟨rb, ro, e4, hrb, hrc⟩ := h3 (by omega)
      rw [e4] at e1
      subst e1
      obtain ⟨z, hz⟩ : ∃ z, l[k] = z := ⟨_, rfl⟩
      have hc := HI.out.2.cell (p := ⟨rb, ro + k, none⟩) hrb
      rw [hrc k l[k] (List.getElem?_eq_getElem hkl), hz] at hc
      have HFZ := Lib.hid (show Fit z from hz ▸ HF.out _ (List.getElem_mem hkl))
      have HS := Lib.hid (show bodyI (l.take (k + 1)) = bodyI (l.take k) ++ uv (zz z) by rw [bodyI_snoc l k hkl, hz])
      have hsz : S.size ≤ 1000100 := by
        rw [HI.out.1, size_bs, List.length_append]; have a1 := HUL.out; have a2 := HBL.out k; rw [List.length_take] at a2; omega
      obtain ⟨T, hT⟩ : ∃ T, bs (uv (zz z)) = T := ⟨_, rfl⟩
      have hTs : T.size ≤ 10 := by rw [← hT, size_bs]; exact uv_len (zz_lt HFZ.out.1 HFZ.out.2)
      have HC := Lib.hid (fun w => rInt_c z w HFZ.out)
      rw [hT] at HC
      have HNX := Lib.hid (show S ++ T = bs (uv n ++ bodyI (l.take (k + 1))) by rw [HI.out.1, ← hT, bs_app, HS.out, List.append_assoc])
      clear h3 hrc e2 e3 hz hrb e4 hT
      go_wp2_with fail
      refine (HC.out _).mono ?_; rintro e w3 ⟨rfl, hq3⟩
      have Q3 := Lib.hid (HI.out.2.trans (Below.mono hq3 HI.out.2.size))
      clear hq3
      go_wp2_with fail
      go_roundw
      case rel => exact ⟨k + 1, _, by omega, by go_num, rfl, HNX.out, Q3.out⟩
      case measure => simp [intOf] <;> omega
    · obtain rfl : k = n := by omega
      go_wp2_with fail
      go_ret
      exact ⟨ret_str (by rw [HI.out.1, HZ.out]), HI.out.2⟩
end Go.Proofs.Ytnejobcbhddpoaa
