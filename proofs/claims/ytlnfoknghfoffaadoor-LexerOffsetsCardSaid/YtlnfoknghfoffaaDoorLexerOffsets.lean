/- For every string the law LexerOffsets returns true: the texts of the lexemes stand at their offsets, in order, with blanks and remarks between them, and the last one is the end (asked for at most 3000 bytes), and the examples hold. The row's list gives the error variable. -/
import Derived.Test.YtlnfoknghfoffaaDoorLaid
import Derived.Test.YtlnfoknghfoffaaDoorTexts
set_option linter.unusedVariables false
set_option linter.unusedSimpArgs false
namespace Go.Proofs.YtlnfoknghfoffaaDoor
open Go.ChangeShapes Go.WideShapes Go.ChangeAt Go.RowKit Lm

set_option maxRecDepth 100000 in
set_option maxHeartbeats 1600000 in
theorem between_c (s : ByteArray) (w : World) (hs : s.size ≤ maxLen) (hB : Hid (skS s false 0 = s.size)) : Calls Tryd.prog 21 #[.string s] w fun E w' => E = .returned (.bool true) ∧ w = w' := by
  unfold maxLen at hs
  go_enter Tryd.func21, Tryd.ntmps21
  go_wp2_with fail
  go_loop [3, 4] (fun v3 v4 => ∃ (k : Nat) (r : Bool), k ≤ s.size ∧ v4 = .int .i64 k ∧ v3 = .bool r ∧ Hid (skS s r k = s.size)) (fun _ v4 => s.size - (intOf v4).toNat)
  case atStart => exact ⟨0, false, Nat.zero_le _, rfl, rfl, hB.out⟩
  case round =>
    obtain ⟨k, r, hk, rfl, rfl, HI⟩ := hrel
    by_cases hlt : k < s.size
    · have hb := bt_eq s k hlt
      obtain ⟨z, hz⟩ : ∃ z : Int, (s[k].toNat : Int) = z := ⟨_, rfl⟩
      rw [hz] at hb
      have HZ := Lib.hid hz
      have HK := Lib.hid hlt
      by_cases e1 : z = 10
      · have HE := Lib.hid (show skS s false (k + 1) = s.size by rw [← skS_nl hlt (r := r) (by omega)]; exact HI.out)
        subst e1
        clear hb
        go_wp2_with fail
        go_round
        case rel => exact ⟨k + 1, false, by omega, by go_num, rfl, HE⟩
        case measure => simp [intOf] <;> omega
      · have f1 : (z == 10) = false := by simp; omega
        by_cases e2 : z = 35
        · have HE := Lib.hid (show skS s true (k + 1) = s.size by rw [← skS_hash hlt (r := r) (by omega)]; exact HI.out)
          subst e2
          clear hb
          go_wp2_with fail
          go_round
          case rel => exact ⟨k + 1, true, by omega, by go_num, rfl, HE⟩
          case measure => simp [intOf] <;> omega
        · have f2 : (z == 35) = false := by simp; omega
          cases r with
          | true =>
            have HE := Lib.hid (show skS s true (k + 1) = s.size by rw [← skS_rem hlt (by omega)]; exact HI.out)
            clear hb e1 e2
            go_wp2_with fail
            go_round
            case rel => exact ⟨k + 1, true, by omega, by go_num, rfl, HE⟩
            case measure => simp [intOf] <;> omega
          | false =>
            by_cases e3 : z = 32
            · have HE := Lib.hid (show skS s false (k + 1) = s.size by rw [← skS_sp hlt (by omega)]; exact HI.out)
              subst e3
              clear hb
              go_wp2_with fail
              go_round
              case rel => exact ⟨k + 1, false, by omega, by go_num, rfl, HE⟩
              case measure => simp [intOf] <;> omega
            · exfalso
              have := HI.out
              rw [skS_stop hlt (by omega) (by omega) (by omega)] at this
              omega
    · obtain rfl : k = s.size := by omega
      go_wp2_with fail
      go_ret
      exact ⟨rfl, rfl⟩
theorem off_drop {s : ByteArray} {p : Nat} {l : List LT} {k : Nat} (h : offP s p (l.drop k)) (hk : k < l.length) : ∃ (kk n a : Nat), l[k].k = kk ∧ l[k].n = n ∧ l[k].a = a ∧ p ≤ a ∧ a + l[k].t.size ≤ s.size ∧ s.extract a (a + l[k].t.size) = l[k].t ∧ skS (s.extract p a) false 0 = a - p ∧ (kk = 0 ↔ k + 1 = l.length) ∧ (l[k].t.size = 0 ↔ kk = 0) ∧ offP s (a + l[k].t.size) (l.drop (k + 1)) := by
  rw [List.drop_eq_getElem_cons hk] at h
  obtain ⟨kk, n, a, h1, h2, h3, h4, h5, h6, h7, h8, h9, h10⟩ := h
  refine ⟨kk, n, a, h1, h2, h3, h4, h5, h6, h7, ?_, h9, h10⟩
  rw [h8, List.drop_eq_nil_iff]
  omega
theorem off_end {s : ByteArray} {p : Nat} {l : List LT} (h : offP s p (l.drop l.length)) : p = s.size := by
  rw [List.drop_length] at h; exact h
theorem str_emp {t : ByteArray} (b : Bool) (h : t.size = 0 ↔ b = true) : (t.toList == ([] : List UInt8)) = b := by
  have hl : t.toList.length = t.size := by rw [ByteArray.toList_eq]; simp
  cases b with
  | true =>
    have h0 : t.toList = [] := List.eq_nil_of_length_eq_zero (by rw [hl]; exact h.2 rfl)
    rw [h0]; rfl
  | false =>
    have : t.toList ≠ [] := fun g => by rw [g] at hl; exact absurd (h.1 (by simpa using hl.symm)) (by decide)
    simp [this]
theorem ext_sz {s : ByteArray} {p a : Nat} (h : a ≤ s.size) : (s.extract p a).size = a - p := by rw [ByteArray.size_extract]; omega
theorem ext_mx {s : ByteArray} {p a : Nat} (h : a ≤ s.size) (hs : s.size ≤ 3000) : (s.extract p a).size ≤ maxLen := by rw [ext_sz h]; unfold maxLen; omega
theorem g2_of {k n L kk : Nat} {b : Bool} (hh : L = n) (h8 : kk = 0 ↔ k + 1 = L) (hb : decide (kk = 0) = b) : ((k : Int) == (n : Int) - 1) = b := by
  rw [← hb]
  by_cases g : kk = 0
  · have := h8.1 g; simp [g]; omega
  · have : ¬ (k + 1 = L) := fun h => g (h8.2 h)
    simp [g]; omega
set_option maxRecDepth 100000 in
set_option maxHeartbeats 1600000 in
theorem offsets_walk (s : ByteArray) (w : World) (hs : s.size ≤ maxLen) (hL : Laid w) : Calls Tryd.prog 6 #[.string s] w fun e w' => e = .returned (.bool true) ∧ Below w.heap.size w w' := by
  unfold maxLen at hs
  have HL := Lib.hid hL
  clear hL
  by_cases h1 : 3000 < s.size
  · have i1 : 3000 < (s.size : Int) := by omega
    go_enter Tryd.func6, Tryd.ntmps6
    go_wp2_with fail
    refine (awake_c _ HL.out).mono ?_; rintro E w1 ⟨rfl, hq1⟩
    go_wp2_with fail
    go_ret
    exact ⟨rfl, hq1⟩
  · have i1 : ¬ 3000 < (s.size : Int) := by omega
    obtain ⟨l, e, p, hr⟩ : ∃ l e p, scan s = (l, e, p) := ⟨_, _, _, rfl⟩
    by_cases he : e = 0
    · subst he
      have HO := Lib.hid (scan_off (by omega) hr)
      obtain ⟨rfl, hl, hrun⟩ := scan_ok (by omega) hr
      have HA := Lib.hid (fun w h => sc_is s l 0 0 hr (by omega) w h)
      have hlen := (scan_again (by omega) hr).2.1
      have hpos := List.length_pos_iff.2 hl
      obtain ⟨n, hn⟩ : ∃ n, l.length = n := ⟨_, rfl⟩
      have HN := Lib.hid hn
      have t1 : 0 < (n : Int) := by omega
      have t2 : (n : Int) ≤ 3001 := by omega
      clear hr hl hrun
      go_enter Tryd.func6, Tryd.ntmps6
      go_wp2_with fail
      refine (HA.out _ HL.out).mono ?_; rintro E w1 ⟨v1, rfl, hr1, hq1⟩
      have L1 := Lib.hid (HL.out.stays hq1)
      have Q1 := Lib.hid hq1
      have R1 := Lib.hid hr1
      obtain ⟨A1, c1, rfl, hc1, _⟩ := hr1
      rw [hn] at R1 hc1 ⊢
      clear hq1 hn hlen hpos
      go_wp2_with fail
      go_loopw [6, 7] (fun v6 v7 wr => ∃ k p0 : Nat, k ≤ n ∧ v7 = .int .i64 k ∧ v6 = .int .i64 p0 ∧ Hid (offP s p0 (l.drop k) ∧ Q w1 wr)) (fun _ v7 _ => n - (intOf v7).toNat)
      case atStart => exact ⟨0, 0, by omega, rfl, rfl, HO.out, Q.refl _⟩
      case round =>
        obtain ⟨k, p0, hk, rfl, rfl, HI⟩ := hrel
        by_cases hlt : k < n
        · have hkl : k < l.length := by rw [HN.out]; exact hlt
          obtain ⟨kk, nn, a, y1, y2, y3, y4, y5, y6, y7, y8, y9, y10⟩ := off_drop HI.out.1 hkl
          obtain ⟨rb, ro, rfl, hrb, hlc, hnl, c0, c1', c2, c3⟩ := R1.out.at HI.out.2 hkl
          obtain ⟨x, hx⟩ : ∃ x, l[k] = x := ⟨_, rfl⟩
          rw [hx] at c0 c1' c2 c3 y1 y2 y3 y5 y6 y9 y10
          obtain ⟨xk, xt, xn, xa⟩ := x
          simp only at c0 c1' c2 c3 y1 y2 y3 y5 y6 y9 y10
          subst y1 y2 y3
          obtain ⟨m, hm⟩ : ∃ m, xt.size = m := ⟨_, rfl⟩
          obtain ⟨z, hz⟩ : ∃ z, a + m = z := ⟨_, rfl⟩
          rw [hm] at y5 y6 y9 y10
          rw [hz] at y5 y6 y10
          have HZ := Lib.hid hm
          have HY := Lib.hid y10
          have e4 : (xt.toList == xt.toList) = true := by simp
          have i1 : (0 : Int) ≤ (k : Int) := by omega
          have i2 : (k : Int) < (n : Int) := by omega
          have i3 : (a : Int) + (m : Int) = (z : Int) := by omega
          have i4 : ¬ (a : Int) < (p0 : Int) := by omega
          have i5 : ¬ (s.size : Int) < (z : Int) := by omega
          have i6 : (p0 : Int) ≤ (a : Int) := by omega
          have i7 : (a : Int) ≤ (z : Int) := by omega
          have i8 : (z : Int) ≤ (s.size : Int) := by omega
          have d4 : decide (a < p0) = false := by simp; omega
          have d5 : decide (s.size < z) = false := by simp; omega
          have ha : a ≤ s.size := by omega
          have HB := Lib.hid (show ∀ w, Calls Tryd.prog 21 #[.string (s.extract p0 a)] w fun E w' => E = .returned (.bool true) ∧ w' = w from fun w => (between_c (s.extract p0 a) w (ext_mx ha (Nat.not_lt.1 h1)) (y7.trans (ext_sz ha).symm)).mono fun E w' ⟨a, b⟩ => ⟨a, b.symm⟩)
          obtain ⟨b, hb⟩ : ∃ b, decide (kk = 0) = b := ⟨_, rfl⟩
          have g1 : ((kk : Int) == 0) = b := by rw [← hb]; by_cases g : kk = 0 <;> simp [g]
          have g2 : ((k : Int) == (n : Int) - 1) = b := g2_of HN.out y8 hb
          have g3 : (xt.toList == ([] : List UInt8)) = b := str_emp b (by rw [hm, y9, ← hb]; simp)
          have hsz := HI.out.2.size
          obtain ⟨W3, hW3⟩ : ∃ W, wr.alloc (.cells #[.int .i64 kk, .string xt, .int .i64 nn, .int .i64 a] 32) = W := ⟨_, rfl⟩
          have X3 := Lib.hid (show W3.heap[wr.heap.size]? = some (.cells #[.int .i64 kk, .string xt, .int .i64 nn, .int .i64 a] 32 (0, 0)) by rw [← hW3]; exact new_blk wr _ _)
          have Q3 := Lib.hid (show Q w1 W3 by rw [← hW3]; exact HI.out.2.alloc _)
          obtain ⟨x0, x1, x2, x3, xf⟩ := blk4 X3.out
          clear ha hx hlc hnl hz y4 y5 y7 y8 y9 y10 hb hkl
          cases b
          all_goals
            go_wp2_with fail
            go_quiet ((go_at_call 21; exact Calls.quiet_of_same (HB.out _)))
            go_wp2_with fail
            exact ⟨⟨k + 1, z, by omega, by go_num, rfl, HY.out, Q3.out.drewN _⟩, by simp [intOf] <;> omega⟩
        · obtain rfl : k = n := by omega
          have hp : p0 = s.size := by have := HI.out.1; rw [← HN.out] at this; exact off_end this
          subst hp
          have Q2 := Lib.hid (Q1.out.trans HI.out.2)
          have L2 := Lib.hid (L1.out.stays HI.out.2)
          clear HI
          go_wp2_with fail
          refine (awake_c _ L2.out).mono ?_; rintro E w2 ⟨rfl, hq2⟩
          go_wp2_with fail
          go_ret
          exact ⟨rfl, Q2.out.trans hq2⟩
    · have hl := (scan_err (by omega) hr he).1
      subst hl
      have HA := Lib.hid (fun w h => sc_is s [] e p hr (by omega) w h)
      have i4 : ((e : Int) == 0) = false := by simp; omega
      have i5 : ((e : Int) != 0) = true := by simp; omega
      clear hr
      go_enter Tryd.func6, Tryd.ntmps6
      go_wp2_with fail
      refine (HA.out _ HL.out).mono ?_; rintro E w1 ⟨v1, rfl, hr1, hq1⟩
      have L1 := Lib.hid (HL.out.stays hq1)
      have Q1 := Lib.hid hq1
      obtain ⟨A1, c1, rfl, hc1, _⟩ := hr1
      clear hq1 hc1
      go_wp2_with fail
      refine (awake_c _ L1.out).mono ?_; rintro E w2 ⟨rfl, hq2⟩
      go_wp2_with fail
      go_ret
      exact ⟨rfl, Q1.out.trans hq2⟩

open Go.ChangeMaps (open_string shut_string)
namespace lexerOffsets
theorem witness (os : Os) {H : Type} (enc : TypeId × Value → H) : (OpenSpec.ofChange Rows.lexerOffsetsSpec).preRow enc Tryd.prog Tryd.f6 Rows.lexerOffsetsRow.domain false Rows.lexerOffsetsRow.laid ((start os).forCall (fun _ _ => 0) ⟨#[], #[Value.string ⟨#[]⟩], []⟩).memory #[Value.string ⟨#[]⟩] := by
  have hw : (DataW.whole enc Tryd.prog ((start os).forCall (fun _ _ => 0) ⟨#[], #[Value.string ⟨#[]⟩], []⟩).memory Tryd.f6.params.toList Rows.lexerOffsetsSpec.vars false (#[Value.string ⟨#[]⟩] : Array Value).toList 8).map (fun x => (x.1, x.2.1)) = some ([.lit (.string [])], []) := by kernel_rfl
  obtain ⟨⟨x1, x2, x3⟩, hx, hx1⟩ := Option.map_eq_some_iff.1 hw
  simp only [Prod.mk.injEq] at hx1
  obtain ⟨rfl, rfl⟩ := hx1
  exact OpenSpec.preRow_of_cond 8 hx (by kernel_rfl) (fun k hk => by cases hk) (by kernel_rfl) (door_met os _)
set_option maxRecDepth 100000 in
theorem lifted (os : Os) (started : os.Started) (H : Type) (enc : TypeId × Value → H) (F : Stop.Interp) :
    ReturnsInHanded {} Tryd.checked os 6 .any ((OpenSpec.ofChange Rows.lexerOffsetsSpec).preRow enc Tryd.prog Tryd.f6 Rows.lexerOffsetsRow.domain false Rows.lexerOffsetsRow.laid) (((OpenSpec.ofChange Rows.lexerOffsetsSpec).at F).post enc Tryd.prog Tryd.f6 false true false false) := by
  refine returnsInHanded_of_row (C := Tryd.checked) (s := OpenSpec.ofChange Rows.lexerOffsetsSpec) own started (by kernel_rfl) Tryd.func6
    (witness_row_atRef (enc := enc) (C := Tryd.checked) false (start os) #[Value.string ⟨#[]⟩] rfl (by kernel_rfl) (by kernel_rfl) (by kernel_rfl) (witness os enc)) ?_
  intro W base args ds gs before hval0 hW _ _ _ hL _ _
  have hval : ∀ (j : Nat) t v, Tryd.f6.params[j]? = some t → args[j]? = some v → Value.okWide Tryd.prog W .any base t v := hval0
  have hW' := hW
  obtain ⟨p, q, hA0, hV, rfl, hfz, hnd⟩ := hW
  have hA : DataW.TrodAll enc Tryd.prog W 0 (fun _ => true) true Tryd.f6.params.toList args.toList ds p := hA0
  rw [Tryd.params6] at hA hval
  obtain ⟨v0, vs0, d0, ds0, p0, q0, hargs, rfl, rfl, h0, r0⟩ := trodAll_cons hA
  obtain ⟨rfl, rfl, rfl⟩ := trodAll_nil r0
  obtain rfl : args = #[v0] := by cases args; simp_all
  obtain ⟨rfl, rfl⟩ := trodVars_none hV
  obtain ⟨a0, rfl, rfl, rfl, w0⟩ := open_string Tryd.underlying9 (hval 0 9 v0 rfl rfl) h0
  clear hA0 hval0
  refine (offsets_walk a0 W w0 (five_laid hL)).mono fun e W' ⟨he, bel⟩ => ?_
  subst he
  exact ⟨_, rfl, _, _, _, [], _, [], hW', trodAll_mk1 (shut_bool Tryd.underlying4 _), (trodAll_cons_mk (shut_string Tryd.underlying9 w0) trodAll_mk0), rfl, bel.frame _, fun h => by cases h⟩
theorem said : Rows.lexerOffsetsRow.holds Tryd.pinned (OpenSpec.ofChange Rows.lexerOffsetsSpec) :=
  OpenClaim.holds_of_cond 6 Tryd.f6 rfl rfl rfl rfl rfl rfl rfl ⟨rfl, rfl, rfl, rfl, rfl⟩ rfl rfl rfl rfl rfl (by kernel_rfl) Tryd.func6 (by kernel_rfl)
    (of_decide_eq_true (by kernel_rfl)) (by unfold Func.isWrapper; first | (rw [if_pos (by decide +kernel)]; kernel_rfl) | (rw [if_neg (by decide +kernel)]; exact ⟨rfl, rfl⟩))
    (fun os started H enc _ F => by rw [OpenClaim.pre_eq_preRow]; exact lifted os started H enc F)
theorem plain (f : FuncId) (fn : Func) (hf : Tryd.pinned.checked.prog.funcNamed "sawmill/sawmilllaw06.LexerOffsets" = some f) (hfn : Tryd.pinned.checked.prog.funcs[f]? = some fn) :
    true = Tryd.pinned.checked.prog.looks [] ∧ ∀ (j : Nat) t, fn.params[j]? = some t → Tryd.pinned.checked.prog.wantsStandIn t = false := by
  obtain rfl : f = 6 := Option.some.inj ((show Tryd.prog.funcNamed "sawmill/sawmilllaw06.LexerOffsets" = some 6 by kernel_rfl).symm.trans hf) |>.symm
  obtain rfl : fn = Tryd.f6 := (Option.some.inj (Tryd.func6.symm.trans hfn)).symm
  refine ⟨by kernel_rfl, fun j t ht => ?_⟩
  rw [Tryd.params6] at ht
  have hm := Array.mem_of_getElem? ht
  obtain rfl : t = 9 := by simpa using hm
  exact (show Tryd.prog.wantsStandIn 9 = false by kernel_rfl)
theorem proved : Rows.LexerOffsetsCardSaid :=
  Claim7.holds_tied_plain_at .later [] _ _ _ _ said (fun _ h => by cases h) (by kernel_rfl) (fun _ h => by cases h) lexerOffsets_row_tie rfl ⟨rfl, rfl⟩ (by kernel_rfl) rfl plain (by kernel_rfl)
end lexerOffsets

end Go.Proofs.YtlnfoknghfoffaaDoor
