/- For every string and list of reads the law WireOne returns true: the bytes that a read consumes are the encoding of what it returns (asked for at most 3000 bytes and 60 reads), and the examples hold. No condition. -/
import Derived.Test.YtnejobcbhddpoaaOneMath
import Derived.Deep.RegionHeld3
import Derived.Deep.DrawnRows
set_option linter.unusedVariables false
set_option linter.unusedSimpArgs false
namespace Go.Proofs.Ytnejobcbhddpoaa
open Go.ChangeShapes Go.WideShapes Go.ChangeAt Go.RowKit Wm

/-- what the region of the comparison holds on to -/
theorem oneK {W3 W W2 : World} {g : Nat} {c0 c1 c2 c3 c4 : Value} (h : W.cell? ⟨g, 0, none⟩ = some c0 ∧ W.cell? ⟨g, 1, none⟩ = some c1 ∧ W.cell? ⟨g, 2, none⟩ = some c2 ∧ W.cell? ⟨g, 3, none⟩ = some c3 ∧ W.cell? ⟨g, 4, none⟩ = some c4 ∧ g < W.heap.size ∧ Q W3 W) (hq : Q W W2) :
    W2.cell? ⟨g, 0, none⟩ = some c0 ∧ W2.cell? ⟨g, 1, none⟩ = some c1 ∧ W2.cell? ⟨g, 2, none⟩ = some c2 ∧ W2.cell? ⟨g, 3, none⟩ = some c3 ∧ W2.cell? ⟨g, 4, none⟩ = some c4 ∧ g < W2.heap.size ∧ Q W3 W2 := by
  obtain ⟨h0, h1, h2, h3, h4, hz, h5⟩ := h
  exact ⟨(hq.cell (p := ⟨g, 0, none⟩) hz).trans h0, (hq.cell (p := ⟨g, 1, none⟩) hz).trans h1, (hq.cell (p := ⟨g, 2, none⟩) hz).trans h2, (hq.cell (p := ⟨g, 3, none⟩) hz).trans h3, (hq.cell (p := ⟨g, 4, none⟩) hz).trans h4, Nat.lt_of_lt_of_le hz hq.size, h5.trans hq⟩
theorem oneQ {W3 W : World} {g : Nat} {c0 c1 c2 c3 c4 : Value} (h : W.cell? ⟨g, 0, none⟩ = some c0 ∧ W.cell? ⟨g, 1, none⟩ = some c1 ∧ W.cell? ⟨g, 2, none⟩ = some c2 ∧ W.cell? ⟨g, 3, none⟩ = some c3 ∧ W.cell? ⟨g, 4, none⟩ = some c4 ∧ g < W.heap.size ∧ Q W3 W) : Q W3 W := h.2.2.2.2.2.2
set_option maxRecDepth 100000 in
set_option maxHeartbeats 3200000 in
theorem one_walk (w : World) (v u : Value) (hv : ArgS w v) (hu : ArgOs w u) : Calls Try.prog 7 #[v, u] w fun e w' => e = .returned (.bool true) ∧ Below w.heap.size w w' := by
  obtain ⟨s, rfl, hs⟩ := hv
  obtain ⟨l, hr, hf, hl⟩ := hu
  have HR := Lib.hid hr
  have HF := Lib.hid hf; clear hf
  obtain ⟨sA, sc, rfl, hle, _⟩ := hr
  unfold maxLen at hs hl
  obtain ⟨n, hn⟩ : ∃ n, l.length = n := ⟨_, rfl⟩
  have HN := Lib.hid hn
  rw [hn] at hl HR hle
  rw [hn]
  clear hn
  by_cases h : s.size ≤ 3000 ∧ n ≤ 60
  · obtain ⟨g1, g2⟩ := h
    have i1 : ¬ 3000 < (s.size : Int) := by omega
    have i2 : ¬ 60 < (n : Int) := by omega
    have HS := Lib.hid (show s.size ≤ 1000000 by omega)
    clear hs
    go_enter Try.func7, Try.ntmps7
    go_wp2_with fail
    refine (New_c s _).mono ?_; rintro E w1 ⟨b, rfl, hb, hr1, hq1⟩
    have R1 := Lib.hid hr1
    have Q1 := Lib.hid hq1
    have HB := Lib.hid hb
    clear hr1 hq1 hb
    go_wp2_with fail
    go_loopw [6, 7] (fun a i wr => ∃ k p : Nat, (k ≤ n ∧ p ≤ s.size) ∧ i = .int .i64 k ∧ a = .int .i64 p ∧ Hid (Rr wr b s p 0 ∧ Below w.heap.size w wr)) (fun _ i _ => n - (intOf i).toNat)
    case atStart => exact ⟨0, 0, ⟨by omega, Nat.zero_le _⟩, rfl, rfl, R1.out, Q1.out⟩
    case round =>
      obtain ⟨k, p, ⟨hk, hp⟩, rfl, rfl, HI⟩ := hrel
      have hsp : ((s.size - p : Nat) : Int) = (s.size : Int) - (p : Int) := by omega
      have HSP := Lib.hid hsp
      clear hsp
      by_cases hlt : k < n
      · have hkl : k < l.length := by rw [HN.out]; exact hlt
        obtain ⟨rb, ro, rfl, hrb, hlc, hnl, c0, c1, c2, c3⟩ := HR.out.at HI.out.2 hkl
        clear hnl hlc
        obtain ⟨o, ho⟩ : ∃ o, l[k] = o := ⟨_, rfl⟩
        have HO := Lib.hid (show o.ok from ho ▸ HF.out _ (List.getElem_mem hkl))
        rw [ho] at c0 c1 c2 c3
        obtain ⟨ok, olo, ohi, omost⟩ := o
        simp only at c0 c1 c2 c3
        obtain ⟨rn, ri, rt, rl, rc, re, hout⟩ : ∃ a b c d f g, outR s p 0 ok olo ohi omost = (a, b, c, d, f, g) := ⟨_, _, _, _, _, _, rfl⟩
        have HOUT := Lib.hid hout
        have HP := Lib.hid hp
        have HLE := Lib.hid (outR_le hp hout)
        clear ho hout
        go_wp2_with fail
        refine (read_r s p b 0 ok olo ohi omost rn ri rt rl rc re _ HS.out HP.out HO.out.2.2.2 HOUT HI.out.1).mono ?_
        rintro E w2 ⟨sl, rfl, hsl, hnb, hr2, hg2⟩
        unfold fv
        simp only at hsl hr2
        have hsl2 := hsl
        obtain ⟨xA, xc, rfl, _, _⟩ := hsl2
        have R2 := Lib.hid hr2
        have B2 := Lib.hid (G.below HI.out.2 hg2 HB.out HI.out.2.size)
        have SL := Lib.hid hsl
        clear hsl hnb hr2 hg2 c0 c1 c2 c3
        obtain ⟨W3, hW3⟩ : ∃ W, w2.alloc (.cells #[.int .u8 ok, .int .u64 rn, .int .i64 ri, .string rt, .slice xA rl.length xc] 41) = W := ⟨_, rfl⟩
        have R3 := Lib.hid (show Rr W3 b s (p + rc) re by rw [← hW3]; exact R2.out.q ((Q.refl w2).alloc _))
        have B3 := Lib.hid (show Below w.heap.size w W3 by rw [← hW3]; exact B2.out.alloc B2.out.size _)
        have SL3 := Lib.hid (show RdI W3 (.slice xA rl.length xc) rl by rw [← hW3]; exact SL.out.q ((Q.refl w2).alloc _))
        have F3 := Lib.hid (show W3.heap[w2.heap.size]? = some (.cells #[.int .u8 ok, .int .u64 rn, .int .i64 ri, .string rt, .slice xA rl.length xc] 41 (0, 0)) by rw [← hW3]; exact heap_alloc_new w2 _)
        go_wp2_with fail
        clear hW3
        refine (Err_c s (p + rc) re b _ R3.out).mono ?_; rintro E w4 ⟨rfl, rfl⟩
        by_cases h0 : re = 0
        · subst h0
          obtain ⟨henc, hpos, hn, hri, hrt, hrl, hrn⟩ := one_R HP.out HOUT.out
          obtain ⟨q, hq⟩ : ∃ q, p + rc = q := ⟨_, rfl⟩
          rw [hq] at henc
          have HQ := Lib.hid hq
          have HQS := Lib.hid (show q ≤ s.size by have := HLE.out; omega)
          obtain ⟨ml, hml⟩ : ∃ m, s.size - q = m := ⟨_, rfl⟩
          have HML := Lib.hid hml
          have hsub : (s.size : Int) - (ml : Int) = (q : Int) := by have := HQS.out; omega
          have hmlb : (ml : Int) ≤ (s.size : Int) := by omega
          clear hml
          have R3 := Lib.hid (show Rr W3 b s q 0 by rw [← hq]; exact R3.out)
          have HW := Lib.hid (fun w' (hq' : Q W3 w') => write_c ok rn ri rt (.slice xA rl.length xc) rl w' hn hri (by have := HS.out; omega) (SL3.out.q hq') (by omega) hrl)
          have i3 : ¬ (q : Int) ≤ (p : Int) := by omega
          have i4 : ¬ (s.size : Int) < (q : Int) := by have := HQS.out; omega
          have i3d : decide (q ≤ p) = false := decide_eq_false (by omega)
          have i4d : decide (s.size < q) = false := decide_eq_false (by omega)
          have i5 : (p : Int) ≤ (q : Int) := by omega
          have i6 : (q : Int) ≤ (s.size : Int) := by have := HQS.out; omega
          have i7 : (0 : Int) ≤ (p : Int) := by omega
          obtain ⟨S, hS⟩ : ∃ S, encF ok rn ri rt rl = S := ⟨_, rfl⟩
          simp only [hS] at HW
          have hSe : s.extract p q = S := by rw [← hS, henc]
          have hne : (S.toList != S.toList) = false := by simp
          obtain ⟨x0, x1, x2, x3, x4, xf⟩ := five F3.out
          clear henc hpos hn hri hrt hrl hrn hq hS xf
          go_wp2_with fail
          refine (Left_c s q 0 b _ HS.out R3.out).mono ?_; rintro E w6 ⟨rfl, rfl⟩
          rw [HML.out]
          go_wp2_with fail
          have hd : Q W3 W3.drew := (Q.refl W3).drew
          have hg3 := lt_of_block F3.out
          go_region_held3 (fun W => W.cell? ⟨w2.heap.size, 0, none⟩ = some (.int .u8 ok) ∧ W.cell? ⟨w2.heap.size, 1, none⟩ = some (.int .u64 rn) ∧ W.cell? ⟨w2.heap.size, 2, none⟩ = some (.int .i64 ri) ∧ W.cell? ⟨w2.heap.size, 3, none⟩ = some (.string rt) ∧ W.cell? ⟨w2.heap.size, 4, none⟩ = some (.slice xA rl.length xc) ∧ w2.heap.size < W.heap.size ∧ Q W3 W)
            (first | exact oneK ⟨x0, x1, x2, x3, x4, hg3, Q.refl _⟩ hd | exact oneK (by assumption) (by assumption))
            (first | (go_at_call 35; refine (HW.out _ (oneQ (c0 := .int .u8 ok) (c1 := .int .u64 rn) (c2 := .int .i64 ri) (c3 := .string rt) (c4 := .slice xA rl.length xc) (by assumption))).mono ?_; rintro e w7 ⟨rfl, hq7⟩))
          all_goals go_wp2_with fail
          all_goals go_roundw
          case rel => exact ⟨k + 1, q, ⟨by omega, HQS.out⟩, by go_num, rfl, R3.out.q (oneQ (c0 := .int .u8 ok) (c1 := .int .u64 rn) (c2 := .int .i64 ri) (c3 := .string rt) (c4 := .slice xA rl.length xc) (by assumption)), Below.trans B3.out (Below.mono (oneQ (c0 := .int .u8 ok) (c1 := .int .u64 rn) (c2 := .int .i64 ri) (c3 := .string rt) (c4 := .slice xA rl.length xc) (by assumption)) B3.out.size)⟩
          case measure => simp [intOf] <;> omega
        · have t0 : ((re : Int) != 0) = true := by simp; omega
          have t0' : ((re : Int) == 0) = false := by simp; omega
          obtain ⟨_, _, _, _, hc⟩ := outR_zero HOUT.out h0
          have R3 := Lib.hid (show Rr W3 b s p re by have := R3.out; rw [hc] at this; exact this)
          clear h0 hc
          go_wp2_with fail
          refine (Left_c s p re b _ HS.out R3.out).mono ?_; rintro E w6 ⟨rfl, rfl⟩
          rw [HSP.out]
          go_wp2_with fail
          refine (awake_c _).mono ?_; rintro E w7 ⟨rfl, hq7⟩
          go_wp2_with fail
          go_ret
          exact ⟨rfl, Below.trans B3.out (Below.mono hq7 B3.out.size)⟩
      · obtain rfl : k = n := by omega
        go_wp2_with fail
        refine (Left_c s p 0 b _ HS.out HI.out.1).mono ?_; rintro E w6 ⟨rfl, rfl⟩
        rw [HSP.out]
        go_wp2_with fail
        refine (awake_c _).mono ?_; rintro E w3 ⟨rfl, hq3⟩
        go_wp2_with fail
        go_ret
        exact ⟨rfl, Below.trans HI.out.2 (Below.mono hq3 HI.out.2.size)⟩
  · have i1 : 3000 < (s.size : Int) ∨ (¬ 3000 < (s.size : Int) ∧ 60 < (n : Int)) := by omega
    clear h
    rcases i1 with i1 | ⟨i1, i2⟩
    all_goals
      go_enter Try.func7, Try.ntmps7
      go_wp2_with fail
      refine (awake_c _).mono ?_; rintro E w5 ⟨rfl, hq5⟩
      go_wp2_with fail
      go_ret
      exact ⟨rfl, hq5⟩

namespace wireOne
theorem own : ownKnob Try.prog.godebug = none := by kernel_rfl
set_option maxRecDepth 100000 in
set_option maxHeartbeats 800000 in
theorem lifted (os : Os) (started : os.Started) (H : Type) (enc : TypeId × Value → H) :
    ReturnsInHanded {} Try.checked os 7 .any (Rows.wireOneSpec.pre6 enc Try.prog Try.f7 Rows.wireOneRow.domain false) (Rows.wireOneSpec.post enc Try.prog Try.f7 false true false false) := by
  refine returnsInHanded_of_change (C := Try.checked) own started (by kernel_rfl) Try.func7
    (ChangeSpec.witness6 (enc := enc) (C := Try.checked) false ⟨#[], #[.string ByteArray.empty, .slice none 0 0], []⟩ 8 (by kernel_rfl) (by kernel_rfl) (by kernel_rfl) (by kernel_rfl)) ?_
  intro W base args ds gs before hval0 hW hcnd _
  have hval : ∀ (j : Nat) t v, Try.f7.params[j]? = some t → args[j]? = some v → Value.okWide Try.prog W .any base t v := hval0
  have hW' := hW
  obtain ⟨p, q, hA0, hV, rfl, hfz, hnd⟩ := hW
  have hA : DataW.TrodAll enc Try.prog W 0 (fun _ => true) true Try.f7.params.toList args.toList ds p := hA0
  rw [Try.params7] at hA hval
  obtain ⟨v0, vs0, d0, ds0, p0, q0, hargs, rfl, rfl, h0, r0⟩ := trodAll_cons hA
  obtain ⟨v1, vs1, d1, ds1, p1, q1, rfl, rfl, rfl, h1, r1⟩ := trodAll_cons r0
  obtain ⟨rfl, rfl, rfl⟩ := trodAll_nil r1
  obtain rfl : args = #[v0, v1] := by cases args; simp_all
  obtain ⟨rfl, rfl⟩ := trodVars_none hV
  have a0 := open_str (hval 0 9 v0 rfl rfl) h0
  have a1 := open_ops (hval 1 31 v1 rfl rfl) h1
  clear hA0 hval0
  refine (one_walk W v0 v1 a0 a1).mono fun e W' ⟨he, bel⟩ => ?_
  subst he
  exact ⟨_, rfl, _, _, _, [], _, [], hW', trodAll_mk1 (shut_bool Try.underlying4 _), (trodAll_cons_mk (stays (by kernel_rfl) (of_decide_eq_true (by kernel_rfl)) h0 bel) (trodAll_cons_mk (stays (by kernel_rfl) (of_decide_eq_true (by kernel_rfl)) h1 bel) trodAll_mk0)), rfl, bel.frame _, fun h => by cases h⟩
theorem over : Rows.wireOneRow.holds Try.pinned (OpenSpec.ofChange Rows.wireOneSpec) :=
  OpenClaim.holds_of_wide 7 Try.f7 rfl rfl rfl rfl rfl rfl rfl ⟨rfl, rfl, rfl, rfl, rfl⟩ rfl rfl rfl rfl rfl (by kernel_rfl) Try.func7 (by kernel_rfl)
    (of_decide_eq_true (by kernel_rfl)) (by unfold Func.isWrapper; first | (rw [if_pos (by decide +kernel)]; kernel_rfl) | (rw [if_neg (by decide +kernel)]; exact ⟨rfl, rfl⟩))
    (fun os started H enc _ => lifted os started H enc)
theorem proved : Rows.WireOneSaid := over
end wireOne

end Go.Proofs.Ytnejobcbhddpoaa
