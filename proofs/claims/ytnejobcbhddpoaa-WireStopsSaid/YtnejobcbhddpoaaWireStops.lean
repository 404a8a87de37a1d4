/- For every string and list of reads the law WireStops returns true: after an error every read returns the zero value, and neither the error nor the bytes left change (asked for at most 3000 bytes and 60 reads), and the examples hold. No condition. -/
import Derived.Test.YtnejobcbhddpoaaArgs
set_option linter.unusedVariables false
set_option linter.unusedSimpArgs false
namespace Go.Proofs.Ytnejobcbhddpoaa
open Go.ChangeShapes Go.WideShapes Go.ChangeAt Go.RowKit Wm

set_option maxRecDepth 100000 in
set_option maxHeartbeats 3200000 in
theorem stops_walk (w : World) (v u : Value) (hv : ArgS w v) (hu : ArgOs w u) : Calls Try.prog 8 #[v, u] w fun e w' => e = .returned (.bool true) ∧ Below w.heap.size w w' := by
  obtain ⟨s, rfl, hs⟩ := hv
  obtain ⟨l, hr, hf, hl⟩ := hu
  have HR := Lib.hid hr
  have HF := Lib.hid hf; clear hf
  obtain ⟨sA, sc, rfl, hle, _⟩ := hr
  unfold maxLen at hs hl
  obtain ⟨n, hn⟩ : ∃ n, l.length = n := ⟨_, rfl⟩
  have HN := Lib.hid hn
  rw [hn] at hl HR hle
  rw [hn]
  clear hn
  by_cases h : s.size ≤ 3000 ∧ n ≤ 60
  · obtain ⟨g1, g2⟩ := h
    have i1 : ¬ 3000 < (s.size : Int) := by omega
    have i2 : ¬ 60 < (n : Int) := by omega
    have HS := Lib.hid (show s.size ≤ 1000000 by omega)
    clear hs
    go_enter Try.func8, Try.ntmps8
    go_wp2_with fail
    refine (New_c s _).mono ?_; rintro E w1 ⟨b, rfl, hb, hr1, hq1⟩
    have R1 := Lib.hid hr1
    have Q1 := Lib.hid hq1
    have HB := Lib.hid hb
    clear hr1 hq1 hb
    go_wp2_with fail
    go_loopw [6] (fun i wr => ∃ k p e : Nat, k ≤ n ∧ i = .int .i64 k ∧ Hid (Rr wr b s p e ∧ p ≤ s.size ∧ Below w.heap.size w wr)) (fun i _ => n - (intOf i).toNat)
    case atStart => exact ⟨0, 0, 0, by omega, rfl, R1.out, Nat.zero_le _, Q1.out⟩
    case round =>
      obtain ⟨k, p, e, hk, rfl, HI⟩ := hrel
      by_cases hlt : k < n
      · have hkl : k < l.length := by rw [HN.out]; exact hlt
        obtain ⟨rb, ro, rfl, hrb, hlc, hnl, c0, c1, c2, c3⟩ := HR.out.at HI.out.2.2 hkl
        clear hnl hlc
        obtain ⟨o, ho⟩ : ∃ o, l[k] = o := ⟨_, rfl⟩
        have HO := Lib.hid (show o.ok from ho ▸ HF.out _ (List.getElem_mem hkl))
        rw [ho] at c0 c1 c2 c3
        obtain ⟨ok, olo, ohi, omost⟩ := o
        simp only at c0 c1 c2 c3
        obtain ⟨rn, ri, rt, rl, rc, re, hout⟩ : ∃ a b c d f g, outR s p e ok olo ohi omost = (a, b, c, d, f, g) := ⟨_, _, _, _, _, _, rfl⟩
        have HOUT := Lib.hid hout
        have HLE := Lib.hid (outR_le HI.out.2.1 hout)
        have hcase : (re = 0 ∧ e = 0) ∨ (re ≠ 0 ∧ (rn = 0 ∧ ri = 0 ∧ rt = ByteArray.empty ∧ rl = [] ∧ rc = 0) ∧ (e = 0 ∨ (e ≠ 0 ∧ re = e))) := by
          by_cases h0 : re = 0
          · by_cases h1 : e = 0
            · exact .inl ⟨h0, h1⟩
            · exact absurd (outR_keeps hout h1) (by omega)
          · refine .inr ⟨h0, outR_zero hout h0, ?_⟩
            by_cases h1 : e = 0
            · exact .inl h1
            · exact .inr ⟨h1, outR_keeps hout h1⟩
        obtain ⟨ml, hml⟩ : ∃ m, s.size - p = m := ⟨_, rfl⟩
        have HML := Lib.hid hml
        clear ho hout hml
        go_wp2_with fail
        refine (Left_c s p e b _ HS.out HI.out.1).mono ?_; rintro E w2 ⟨rfl, rfl⟩
        rw [HML.out]
        go_wp2_with fail
        refine (Err_c s p e b _ HI.out.1).mono ?_; rintro E w2 ⟨rfl, rfl⟩
        go_wp2_with fail
        refine (read_r s p b e ok olo ohi omost rn ri rt rl rc re _ HS.out HI.out.2.1 HO.out.2.2.2 HOUT HI.out.1).mono ?_
        rintro E w2 ⟨sl, rfl, hsl, hnb, hr2, hg2⟩
        unfold fv
        simp only at hsl hr2
        have hsl2 := hsl
        obtain ⟨xA, xc, rfl, _, _⟩ := hsl2
        have R2 := Lib.hid hr2
        have B2 := Lib.hid (G.below HI.out.2.2 hg2 HB.out HI.out.2.2.size)
        have SL := Lib.hid hsl
        clear hsl hnb hr2 hg2 c0 c1 c2 c3
        obtain ⟨W3, hW3⟩ : ∃ W, w2.alloc (.cells #[.int .u8 ok, .int .u64 rn, .int .i64 ri, .string rt, .slice xA rl.length xc] 41) = W := ⟨_, rfl⟩
        have R3 := Lib.hid (show Rr W3 b s (p + rc) re by rw [← hW3]; exact R2.out.q ((Q.refl w2).alloc _))
        have B3 := Lib.hid (show Below w.heap.size w W3 by rw [← hW3]; exact B2.out.alloc B2.out.size _)
        have SL3 := Lib.hid (show RdI W3 (.slice xA rl.length xc) rl by rw [← hW3]; exact SL.out.q ((Q.refl w2).alloc _))
        have F3 := Lib.hid (show W3.heap[w2.heap.size]? = some (.cells #[.int .u8 ok, .int .u64 rn, .int .i64 ri, .string rt, .slice xA rl.length xc] 41 (0, 0)) by rw [← hW3]; exact heap_alloc_new w2 _)
        go_wp2_with fail
        clear hW3
        refine (Err_c s (p + rc) re b _ R3.out).mono ?_; rintro E w4 ⟨rfl, rfl⟩
        rcases hcase with ⟨rfl, rfl⟩ | ⟨h0, ⟨rfl, rfl, rfl, rfl, rfl⟩, h1⟩
        · go_wp2_with fail
          go_roundw
          case rel => exact ⟨k + 1, p + rc, 0, by omega, by go_num, R3.out, HLE.out, B3.out⟩
          case measure => simp [intOf] <;> omega
        · have t0 : ((re : Int) != 0) = true := by simp; omega
          have t0' : ((re : Int) == 0) = false := by simp; omega
          obtain ⟨x0, x1, x2, x3, x4, xf⟩ := five F3.out
          have HEE := Lib.hid (show endE s (p + 0) re = re by unfold endE; rw [if_neg h0])
          have HLL := Lib.hid (show s.size - (p + 0) = ml by rw [Nat.add_zero]; exact HML.out)
          clear h0
          go_wp2_with fail
          refine (zero_c ok _ _ SL3.out).mono ?_; rintro E w5 ⟨rfl, hq5⟩
          have R5 := Lib.hid (R3.out.q hq5)
          have B5 := Lib.hid (B3.out.trans (Below.mono hq5 B3.out.size))
          clear hq5 x0 x1 x2 x3 x4 xf
          go_wp2_with fail
          refine (Left_c s (p + 0) re b _ HS.out R5.out).mono ?_; rintro E w6 ⟨rfl, rfl⟩
          rw [HLL.out]
          go_wp2_with fail
          refine (End_c s (p + 0) re b _ HS.out R5.out).mono ?_; rintro E w6 ⟨rfl, rfl⟩
          rw [HEE.out]
          rcases h1 with rfl | ⟨h1, rfl⟩
          · go_wp2_with fail
            go_roundw
            case rel => exact ⟨k + 1, p + 0, re, by omega, by go_num, R5.out, HLE.out, B5.out⟩
            case measure => simp [intOf] <;> omega
          · go_wp2_with fail
            go_roundw
            case rel => exact ⟨k + 1, p + 0, re, by omega, by go_num, R5.out, HLE.out, B5.out⟩
            case measure => simp [intOf] <;> omega
      · obtain rfl : k = n := by omega
        go_wp2_with fail
        refine (awake_c _).mono ?_; rintro E w3 ⟨rfl, hq3⟩
        go_wp2_with fail
        go_ret
        exact ⟨rfl, Below.trans HI.out.2.2 (Below.mono hq3 HI.out.2.2.size)⟩
  · have i1 : 3000 < (s.size : Int) ∨ (¬ 3000 < (s.size : Int) ∧ 60 < (n : Int)) := by omega
    clear h
    rcases i1 with i1 | ⟨i1, i2⟩
    all_goals
      go_enter Try.func8, Try.ntmps8
      go_wp2_with fail
      refine (awake_c _).mono ?_; rintro E w5 ⟨rfl, hq5⟩
      go_wp2_with fail
      go_ret
      exact ⟨rfl, hq5⟩

namespace wireStops
theorem own : ownKnob Try.prog.godebug = none := by kernel_rfl
set_option maxRecDepth 100000 in
set_option maxHeartbeats 800000 in
theorem lifted (os : Os) (started : os.Started) (H : Type) (enc : TypeId × Value → H) :
    ReturnsInHanded {} Try.checked os 8 .any (Rows.wireStopsSpec.pre6 enc Try.prog Try.f8 Rows.wireStopsRow.domain false) (Rows.wireStopsSpec.post enc Try.prog Try.f8 false true false false) := by
  refine returnsInHanded_of_change (C := Try.checked) own started (by kernel_rfl) Try.func8
    (ChangeSpec.witness6 (enc := enc) (C := Try.checked) false ⟨#[], #[.string ByteArray.empty, .slice none 0 0], []⟩ 8 (by kernel_rfl) (by kernel_rfl) (by kernel_rfl) (by kernel_rfl)) ?_
  intro W base args ds gs before hval0 hW hcnd _
  have hval : ∀ (j : Nat) t v, Try.f8.params[j]? = some t → args[j]? = some v → Value.okWide Try.prog W .any base t v := hval0
  have hW' := hW
  obtain ⟨p, q, hA0, hV, rfl, hfz, hnd⟩ := hW
  have hA : DataW.TrodAll enc Try.prog W 0 (fun _ => true) true Try.f8.params.toList args.toList ds p := hA0
  rw [Try.params8] at hA hval
  obtain ⟨v0, vs0, d0, ds0, p0, q0, hargs, rfl, rfl, h0, r0⟩ := trodAll_cons hA
  obtain ⟨v1, vs1, d1, ds1, p1, q1, rfl, rfl, rfl, h1, r1⟩ := trodAll_cons r0
  obtain ⟨rfl, rfl, rfl⟩ := trodAll_nil r1
  obtain rfl : args = #[v0, v1] := by cases args; simp_all
  obtain ⟨rfl, rfl⟩ := trodVars_none hV
  have a0 := open_str (hval 0 9 v0 rfl rfl) h0
  have a1 := open_ops (hval 1 31 v1 rfl rfl) h1
  clear hA0 hval0
  refine (stops_walk W v0 v1 a0 a1).mono fun e W' ⟨he, bel⟩ => ?_
  subst he
  exact ⟨_, rfl, _, _, _, [], _, [], hW', trodAll_mk1 (shut_bool Try.underlying4 _), (trodAll_cons_mk (stays (by kernel_rfl) (of_decide_eq_true (by kernel_rfl)) h0 bel) (trodAll_cons_mk (stays (by kernel_rfl) (of_decide_eq_true (by kernel_rfl)) h1 bel) trodAll_mk0)), rfl, bel.frame _, fun h => by cases h⟩
theorem over : Rows.wireStopsRow.holds Try.pinned (OpenSpec.ofChange Rows.wireStopsSpec) :=
  OpenClaim.holds_of_wide 8 Try.f8 rfl rfl rfl rfl rfl rfl rfl ⟨rfl, rfl, rfl, rfl, rfl⟩ rfl rfl rfl rfl rfl (by kernel_rfl) Try.func8 (by kernel_rfl)
    (of_decide_eq_true (by kernel_rfl)) (by unfold Func.isWrapper; first | (rw [if_pos (by decide +kernel)]; kernel_rfl) | (rw [if_neg (by decide +kernel)]; exact ⟨rfl, rfl⟩))
    (fun os started H enc _ => lifted os started H enc)
theorem proved : Rows.WireStopsSaid := over
end wireStops

end Go.Proofs.Ytnejobcbhddpoaa
