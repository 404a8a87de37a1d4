/- The contracts of the reference's Next and Add. -/
import Derived.Test.YthpopopodjgdaaaDoorRef
set_option linter.unusedVariables false
set_option linter.unusedSimpArgs false
namespace Go.Proofs.YthpopopodjgdaaaDoor
open Go.ChangeShapes Go.WideShapes Go.ChangeAt Go.RowKit Km

set_option maxRecDepth 100000 in
set_option maxHeartbeats 1600000 in
theorem rNext_c (v : Value) (l : List P) (t x : Int) (e : Nat) (w : World) (hr : RdP w v l) (ho : Hid (okL l)) (h : Hid (nextS l t = (x, e))) : Calls Tryd.prog 19 #[v, .int .i64 t] w fun r w' => r = .returned (.tuple #[.int .i64 x, .int .i64 e]) ∧ Q w w' := by
  have HR := Lib.hid hr
  obtain ⟨A, c, rfl, hc, _⟩ := hr
  obtain ⟨n, hn⟩ : ∃ n, l.length = n := ⟨_, rfl⟩
  have HN := Lib.hid hn
  rw [hn] at HR
  rw [hn]
  have hn1 : n ≤ 21 := by have := ho.out.few; omega
  have hn0 : 1 ≤ n := by have := ho.out.one; omega
  obtain ⟨d, hd⟩ : ∃ d, isT t = d := ⟨_, rfl⟩
  have HD := Lib.hid hd
  clear hn hc
  cases d with
  | false =>
    have h1 : 0 = x ∧ 15 = e := by have := h.out; unfold nextS at this; rw [hd, if_neg (by decide)] at this; injection this with a b; exact ⟨a, b⟩
    obtain ⟨rfl, rfl⟩ := h1
    clear hd
    go_enter Tryd.func19, Tryd.ntmps19
    go_wp2_with fail
    refine (rIsTime_c t false HD _).mono ?_; rintro E w1 ⟨rfl, rfl⟩
    go_wp2_with fail
    go_ret2
    exact ⟨rfl, Q.refl _⟩
  | true =>
    have tb := isT_yes hd
    have HT := Lib.hid tb
    obtain ⟨b, hb⟩ : ∃ b, openS l t = b := ⟨_, rfl⟩
    have HB := Lib.hid hb
    cases b with
    | true =>
      have h1 : t = x ∧ 0 = e := by
        have g := (openS_iff ho.out t).1 hb
        have := h.out; unfold nextS at this; rw [hd, if_pos rfl, kth_of ho.out tb.1 g.2, asT_yes hd] at this; injection this with a b; exact ⟨a, b⟩
      obtain ⟨rfl, rfl⟩ := h1
      clear hd hb tb
      go_enter Tryd.func19, Tryd.ntmps19
      go_wp2_with fail
      refine (rIsTime_c t true HD _).mono ?_; rintro E w1 ⟨rfl, rfl⟩
      go_wp2_with fail
      refine (rOpen_c _ l t true _ HR.out ho HB).mono ?_; rintro E w2 ⟨rfl, hq2⟩
      go_wp2_with fail
      go_ret2
      exact ⟨rfl, hq2⟩
    | false =>
      have hno : ¬ opn l t := fun g => by rw [(openS_iff ho.out t).2 ⟨hd, g⟩] at hb; cases hb
      obtain ⟨m, hm⟩ : ∃ m, t % 10080 = m := ⟨_, rfl⟩
      have hm1 : t.tmod 10080 = m := by rw [Int.tmod_eq_emod_of_nonneg tb.1, hm]
      have hcd := cd_next ho.out tb.1 hno
      obtain ⟨k, hk⟩ : ∃ k, kth l (WU l t) = k := ⟨_, rfl⟩
      rw [hm, hk, HN.out] at hcd
      have HCD := Lib.hid hcd
      have HA := Lib.hid (show asT k = (x, e) by rw [← h.out]; unfold nextS; rw [hd, if_pos rfl, hk])
      obtain ⟨bb, off, rfl, hbb, hcc, c0, _⟩ := HR.out.at (Q.refl w) (i := 0) (by rw [HN.out]; omega)
      rw [Nat.zero_mul, Nat.add_zero] at c0
      obtain ⟨f0, hf0⟩ : ∃ f, F l 0 = f := ⟨_, rfl⟩
      rw [hf0] at c0
      have hf0b := ho.out.f0 0 ho.out.one
      have hf0c := ho.out.fu 0 ho.out.one
      have hf0d := ho.out.uw 0 ho.out.one
      rw [hf0] at hf0b hf0c
      have C0 := Lib.hid c0
      have HBB := Lib.hid hbb
      obtain ⟨b0, hb0⟩ : ∃ b, t - m = b := ⟨_, rfl⟩
      have hb0b : 0 ≤ b0 ∧ b0 ≤ 10000000 := by omega
      have r1 : wrap64 (t - m) = b0 := by rw [hb0]; exact IntWalk.wrap64_in _ (by omega)
      obtain ⟨b1, hb1⟩ : ∃ b, b0 + 10080 = b := ⟨_, rfl⟩
      have r2 : wrap64 (b0 + 10080) = b1 := by rw [hb1]; exact IntWalk.wrap64_in _ (by omega)
      obtain ⟨b2, hb2⟩ : ∃ b, b1 + f0 = b := ⟨_, rfl⟩
      have r3 : wrap64 (b1 + f0) = b2 := by rw [hb2]; exact IntWalk.wrap64_in _ (by omega)
      have HS := Lib.hid (show b2 = b0 + cd l m n 0 by show b2 = b0 + (10080 + F l 0); omega)
      have HB0 := Lib.hid hb0b
      rw [hb0] at HCD
      have e3 : (n : Int) - 1 = ((n - 1 : Nat) : Int) := by omega
      have r4 : wrap64 ((n : Int) - 1) = ((n - 1 : Nat) : Int) := by rw [← e3]; exact IntWalk.wrap64_in _ (by omega)
      have i0 : (0 : Int) < (n : Int) := by omega
      obtain ⟨z0, hz0⟩ : ∃ z : Int, ((n - 1 : Nat) : Int) = z := ⟨_, rfl⟩
      rw [hz0] at r4
      have HZ0 := Lib.hid (show z0 = (n : Int) - 1 - ((0 : Nat) : Int) by omega)
      clear hd hb tb hno hm hcd hk hbb c0 hf0 hf0b hf0c hf0d hb0 hb0b hb1 hb2 e3 hz0
      go_enter Tryd.func19, Tryd.ntmps19
      go_wp2_with fail
      refine (rIsTime_c t true HD _).mono ?_; rintro E w1 ⟨rfl, rfl⟩
      go_wp2_with fail
      refine (rOpen_c _ l t false _ HR.out ho HB).mono ?_; rintro E w2 ⟨rfl, hq2⟩
      have c0 := (hq2.cell (p := ⟨bb, off, none⟩) HBB.out).trans C0.out
      have Q2 := Lib.hid hq2
      clear hq2
      go_wp2_with fail
      (try go_quiet (fail))
      go_wp2_with fail
      clear c0
      go_loopw [7, 8] (fun u7 u8 wr => ∃ (d : Nat) (a z : Int), d ≤ n ∧ u7 = .int .i64 a ∧ u8 = .int .i64 z ∧ Hid (z = (n : Int) - 1 - (d : Int) ∧ a = b0 + cd l m n d ∧ Q w wr)) (fun _ u8 _ => (intOf u8 + 1).toNat)
      case atStart => exact ⟨0, b2, z0, Nat.zero_le _, by first | rfl | rw [r3], by first | rfl | rw [r4] | (congr 1; have := HZ0.out; omega), HZ0.out, HS.out, by repeat (first | exact Q2.out | refine Q.drewN ?_ _)⟩
      case round =>
        obtain ⟨d, a, z, hd, rfl, rfl, HI⟩ := hrel
        by_cases hlt : d < n
        · obtain ⟨j, hj⟩ : ∃ j : Nat, z = (j : Int) := ⟨n - 1 - d, by have := HI.out.1; omega⟩
          have hjd : n - 1 - d = j := by have := HI.out.1; omega
          have hjl : j < l.length := by rw [HN.out]; omega
          obtain ⟨b3, off3, hv3, hb3, _, cj, _⟩ := HR.out.at HI.out.2.2 hjl
          obtain ⟨e1, e2⟩ : bb = b3 ∧ off = off3 := by injection hv3 with e1; injection e1 with e1 e2; exact ⟨e1, e2⟩
          subst e1 e2
          obtain ⟨f, hf⟩ : ∃ f, F l j = f := ⟨_, rfl⟩
          rw [hf] at cj
          have hfb := ho.out.f0 j hjl
          have hfc := ho.out.fu j hjl
          have hfd := ho.out.uw j hjl
          rw [hf] at hfb hfc
          have hcs : cd l m n (d + 1) = if m < f then f else cd l m n d := by
            show (if m < F l (n - 1 - d) then F l (n - 1 - d) else cd l m n d) = _
            rw [hjd, hf]
          have HA0 := Lib.hid HI.out.2.1
          have HQ := Lib.hid HI.out.2.2
          have HZ := Lib.hid HI.out.1
          have j0 : (0 : Int) ≤ z := by omega
          have jn : z < (n : Int) := by omega
          have jz : decide (0 ≤ z) = true := decide_eq_true j0
          have r6 : wrap64 (z - 1) = z - 1 := IntWalk.wrap64_in _ (by omega)
          have HZN := Lib.hid (show z - 1 = (n : Int) - 1 - ((d + 1 : Nat) : Int) by have := HZ.out; omega)
          subst hj
          by_cases hmf : m < f
          · have hmf' : decide (m < f) = true := decide_eq_true hmf
            obtain ⟨s, hs⟩ : ∃ s, b0 + f = s := ⟨_, rfl⟩
            have r5 : wrap64 (b0 + f) = s := by rw [hs]; exact IntWalk.wrap64_in _ (by have := HB0.out; omega)
            have HX := Lib.hid (show s = b0 + cd l m n (d + 1) by rw [hcs, if_pos hmf, hs])
            clear HI hjd hjl hv3 hb3 hf hfb hfc hfd hcs hs
            go_wp2_with fail
            (try go_quiet (fail))
            go_wp2_with fail
            go_roundw
            case rel => exact ⟨d + 1, s, (j : Int) - 1, by omega, by first | rfl | rw [r5], by first | rfl | rw [r6], HZN.out, HX.out, by repeat (first | exact HQ.out | refine Q.drewN ?_ _)⟩
            case measure => simp [intOf] <;> omega
          · have hmf' : decide (m < f) = false := decide_eq_false hmf
            have HX := Lib.hid (show a = b0 + cd l m n (d + 1) by rw [hcs, if_neg hmf]; exact HA0.out)
            clear HI hjd hjl hv3 hb3 hf hfb hfc hfd hcs
            go_wp2_with fail
            (try go_quiet (fail))
            go_wp2_with fail
            go_roundw
            case rel => exact ⟨d + 1, a, (j : Int) - 1, by omega, rfl, by first | rfl | rw [r6], HZN.out, HX.out, by repeat (first | exact HQ.out | refine Q.drewN ?_ _)⟩
            case measure => simp [intOf] <;> omega
        · obtain rfl : d = n := by omega
          have hz : ¬ (0 : Int) ≤ z := by have := HI.out.1; omega
          have hz' : decide ((0 : Int) ≤ z) = false := decide_eq_false hz
          have hak : a = k := by rw [HI.out.2.1]; exact HCD.out
          have HQ := Lib.hid HI.out.2.2
          have HT0 := Lib.hid (show 0 ≤ a by
            rw [hak, ← HCD.out]
            rcases cd_spec ho.out m l.length (Nat.le_refl _) with ⟨i, _, h2, _, _, h5⟩ | ⟨_, h2⟩
            · rw [HN.out] at h5; rw [h5]; have := ho.out.f0 i (by rw [HN.out]; rw [HN.out] at h2; exact h2); have := HB0.out; omega
            · rw [HN.out] at h2; rw [h2]; have := ho.out.f0 0 ho.out.one; have := HB0.out; omega)
          by_cases hbig : 10000000 < a
          · have hbig' : decide (10000000 < a) = true := decide_eq_true hbig
            have h1 : 0 = x ∧ 15 = e := by have := HA.out; rw [← hak, asT_no (isT_big hbig)] at this; injection this with a b; exact ⟨a, b⟩
            obtain ⟨rfl, rfl⟩ := h1
            clear HI hak
            go_wp2_with fail
            go_ret2
            exact ⟨rfl, HQ.out⟩
          · have hbig' : decide (10000000 < a) = false := decide_eq_false hbig
            have h1 : a = x ∧ 0 = e := by have := HA.out; rw [← hak, asT_yes (isT_mk HT0.out (by omega))] at this; injection this with a b; exact ⟨a, b⟩
            obtain ⟨rfl, rfl⟩ := h1
            clear HI hak
            go_wp2_with fail
            go_ret2
            exact ⟨rfl, HQ.out⟩
set_option maxRecDepth 100000 in
set_option maxHeartbeats 1600000 in
theorem rAdd_c (v : Value) (l : List P) (t m x : Int) (e : Nat) (w : World) (hr : RdP w v l) (ho : Hid (okL l)) (h : Hid (addS l t m = (x, e))) : Calls Tryd.prog 25 #[v, .int .i64 t, .int .i64 m] w fun r w' => r = .returned (.tuple #[.int .i64 x, .int .i64 e]) ∧ Q w w' := by
  have HR := Lib.hid hr
  obtain ⟨A, c, rfl, hc, _⟩ := hr
  obtain ⟨d, hd⟩ : ∃ d, isT t = d := ⟨_, rfl⟩
  have HD := Lib.hid hd
  cases d with
  | false =>
    have h1 : 0 = x ∧ 15 = e := by have := h.out; unfold addS at this; rw [hd, if_neg (by decide)] at this; injection this with a b; exact ⟨a, b⟩
    obtain ⟨rfl, rfl⟩ := h1
    clear hd hc
    go_enter Tryd.func25, Tryd.ntmps25
    go_wp2_with fail
    refine (rIsTime_c t false HD _).mono ?_; rintro E w1 ⟨rfl, rfl⟩
    go_wp2_with fail
    go_ret2
    exact ⟨rfl, Q.refl _⟩
  | true =>
    have tb := isT_yes hd
    have HT := Lib.hid tb
    by_cases hmr : 0 ≤ m ∧ m ≤ 10000000
    · have hmT : isT m = true := isT_mk hmr.1 hmr.2
      have HMT := Lib.hid hmT
      have n1 : decide (m < 0) = false := decide_eq_false (by omega)
      have n2 : decide (10000000 < m) = false := decide_eq_false (by omega)
      have n1' : ¬ m < 0 := by omega
      have n2' : ¬ 10000000 < m := by omega
      have hwk : ∀ y, t ≤ y → y ≤ 10000000 → workS l t y = WU l y - WU l t := fun y h1 h2 => by unfold workS; rw [if_pos ⟨hd, isT_mk (by omega) h2, h1⟩]
      have HWK := Lib.hid hwk
      obtain ⟨a, ha⟩ : ∃ a, WU l 10000000 - WU l t = a := ⟨_, rfl⟩
      have HA := Lib.hid (show workS l t 10000000 = a by rw [hwk _ tb.2 (Int.le_refl _), ha])
      by_cases hsm : a < m
      · have h1 : 0 = x ∧ 15 = e := by have := h.out; rw [add_none ho.out hd hmT (by rw [ha]; exact hsm)] at this; injection this with a b; exact ⟨a, b⟩
        obtain ⟨rfl, rfl⟩ := h1
        have n3 : decide (a < m) = true := decide_eq_true hsm
        clear hd hc tb hmr hmT hwk ha
        go_enter Tryd.func25, Tryd.ntmps25
        go_wp2_with fail
        refine (rIsTime_c t true HD _).mono ?_; rintro E w1 ⟨rfl, rfl⟩
        go_wp2_with fail
        refine (rWork_c _ l t 10000000 a _ HR.out ho HA).mono ?_; rintro E w2 ⟨rfl, hq2⟩
        go_wp2_with fail
        go_ret2
        exact ⟨rfl, hq2⟩
      · have n3 : decide (a < m) = false := decide_eq_false hsm
        have HAM := Lib.hid (show m ≤ WU l 10000000 - WU l t by rw [ha]; omega)
        clear hd hc tb hmr hmT hwk ha
        go_enter Tryd.func25, Tryd.ntmps25
        go_wp2_with fail
        refine (rIsTime_c t true HD _).mono ?_; rintro E w1 ⟨rfl, rfl⟩
        go_wp2_with fail
        refine (rWork_c _ l t 10000000 a _ HR.out ho HA).mono ?_; rintro E w2 ⟨rfl, hq2⟩
        have Q2 := Lib.hid hq2
        clear hq2
        go_wp2_with fail
        go_loopw [8, 9] (fun u8 u9 wr => ∃ lo hi : Int, u8 = .int .i64 lo ∧ u9 = .int .i64 hi ∧ Hid (t ≤ lo ∧ lo ≤ hi ∧ hi ≤ 10000000 ∧ m ≤ WU l hi - WU l t ∧ (∀ y, t ≤ y → y < lo → WU l y - WU l t < m) ∧ Q w wr)) (fun u8 u9 _ => (intOf u9 - intOf u8).toNat)
        case atStart => exact ⟨t, 10000000, rfl, rfl, Int.le_refl _, HT.out.2, Int.le_refl _, HAM.out, fun y h1 h2 => by omega, Q2.out⟩
        case round =>
          obtain ⟨lo, hi, rfl, rfl, HI⟩ := hrel
          obtain ⟨g1, g2, g3, g4, g5, g6⟩ := HI.out
          by_cases hlt : lo < hi
          · have hlt' : decide (lo < hi) = true := decide_eq_true hlt
            have ht0 := HT.out.1
            obtain ⟨s, hs⟩ : ∃ s, lo + hi = s := ⟨_, rfl⟩
            have r1 : wrap64 (lo + hi) = s := by rw [hs]; exact IntWalk.wrap64_in _ (by omega)
            obtain ⟨md, hmd⟩ : ∃ q, s / 2 = q := ⟨_, rfl⟩
            have r2 : s.tdiv 2 = md := by rw [Int.tdiv_eq_ediv_of_nonneg (by omega), hmd]
            have r3 : wrap64 md = md := IntWalk.wrap64_in _ (by omega)
            have r4 : wrap64 (md + 1) = md + 1 := IntWalk.wrap64_in _ (by omega)
            obtain ⟨b, hb⟩ : ∃ b, WU l md - WU l t = b := ⟨_, rfl⟩
            have HB := Lib.hid (show workS l t md = b by rw [HWK.out md (by omega) (by omega), hb])
            have HQ := Lib.hid g6
            by_cases hge : m ≤ b
            · have hge' : decide (m ≤ b) = true := decide_eq_true hge
              have HX := Lib.hid (show t ≤ lo ∧ lo ≤ md ∧ md ≤ 10000000 ∧ m ≤ WU l md - WU l t ∧ (∀ y, t ≤ y → y < lo → WU l y - WU l t < m) from ⟨g1, by omega, by omega, by rw [hb]; exact hge, g5⟩)
              have HM2 := Lib.hid (show md < hi ∧ lo ≤ md by omega)
              clear HI g1 g2 g3 g4 g5 g6 ht0 hs hmd hb
              go_wp2_with fail
              refine (rWork_c _ l t md b _ (RdG.q HR.out HQ.out) ho HB).mono ?_; rintro E w3 ⟨rfl, hq3⟩
              have Q3 := Lib.hid (HQ.out.trans hq3)
              clear hq3
              go_wp2_with fail
              go_roundw
              case rel => exact ⟨lo, md, rfl, rfl, HX.out.1, HX.out.2.1, HX.out.2.2.1, HX.out.2.2.2.1, HX.out.2.2.2.2, Q3.out⟩
              case measure => have := HM2.out; simp [intOf] <;> omega
            · have hge' : decide (m ≤ b) = false := decide_eq_false hge
              have HX := Lib.hid (show t ≤ md + 1 ∧ md + 1 ≤ hi ∧ hi ≤ 10000000 ∧ m ≤ WU l hi - WU l t ∧ (∀ y, t ≤ y → y < md + 1 → WU l y - WU l t < m) from ⟨by omega, by omega, g3, g4, fun y h1 h2 => by
                have := WU_mono ho.out (a := y) (b := md) (by omega) (by omega)
                omega⟩)
              have HM2 := Lib.hid (show md < hi ∧ lo ≤ md by omega)
              clear HI g1 g2 g3 g4 g5 g6 ht0 hs hmd hb
              go_wp2_with fail
              refine (rWork_c _ l t md b _ (RdG.q HR.out HQ.out) ho HB).mono ?_; rintro E w3 ⟨rfl, hq3⟩
              have Q3 := Lib.hid (HQ.out.trans hq3)
              clear hq3
              go_wp2_with fail
              go_roundw
              case rel => exact ⟨md + 1, hi, by first | rfl | rw [r4], rfl, HX.out.1, HX.out.2.1, HX.out.2.2.1, HX.out.2.2.2.1, HX.out.2.2.2.2, Q3.out⟩
              case measure => have := HM2.out; simp [intOf] <;> omega
          · have hlt' : decide (lo < hi) = false := decide_eq_false hlt
            have h1 : lo = x ∧ 0 = e := by
              have := h.out
              rw [add_found ho.out HD.out HMT.out g1 (by omega) (by have e : lo = hi := by omega
                                                                    rw [e]; exact g4) g5] at this
              injection this with a b; exact ⟨a, b⟩
            obtain ⟨rfl, rfl⟩ := h1
            have HQ := Lib.hid g6
            clear HI g1 g2 g3 g4 g5 g6
            go_wp2_with fail
            go_ret2
            exact ⟨rfl, HQ.out⟩
    · have h1 : 0 = x ∧ 9 = e := by
        have hn : isT m = false := by
          refine Bool.eq_false_iff.2 fun g => hmr (isT_yes g)
        have := h.out; unfold addS at this; rw [hd, hn, if_pos rfl, if_neg (by decide)] at this; injection this with a b; exact ⟨a, b⟩
      obtain ⟨rfl, rfl⟩ := h1
      have n0 : (decide (m < 0) = true ∧ m < 0) ∨ (decide (m < 0) = false ∧ ¬ m < 0 ∧ decide (10000000 < m) = true ∧ 10000000 < m) := by
        by_cases q : m < 0
        · exact .inl ⟨decide_eq_true q, q⟩
        · have q2 : 10000000 < m := by omega
          exact .inr ⟨decide_eq_false q, q, decide_eq_true q2, q2⟩
      clear hd hc tb hmr
      rcases n0 with ⟨q1, q1'⟩ | ⟨q1, q1', q2, q2'⟩
      all_goals
        go_enter Tryd.func25, Tryd.ntmps25
        go_wp2_with fail
        refine (rIsTime_c t true HD _).mono ?_; rintro E w1 ⟨rfl, rfl⟩
        go_wp2_with fail
        go_ret2
        exact ⟨rfl, Q.refl _⟩
end Go.Proofs.YthpopopodjgdaaaDoor
