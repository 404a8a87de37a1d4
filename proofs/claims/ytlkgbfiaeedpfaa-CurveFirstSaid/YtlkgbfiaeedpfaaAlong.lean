/- The contracts of along and Between. -/
import Derived.Test.YtlkgbfiaeedpfaaFloor
set_option linter.unusedVariables false
set_option linter.unusedSimpArgs false
namespace Go.Proofs.Ytlkgbfiaeedpfaa
open Go.ChangeShapes Go.WideShapes Go.ChangeAt Go.RowKit Cm

/-- a slice whose first m ints are those of p -/
def RdF (w : World) (v : Value) (n m : Nat) (p : Nat → Int) : Prop := ∃ b off c, v = .slice (some ⟨b, off, none⟩) n c ∧ n ≤ c ∧ m ≤ n ∧ b < w.heap.size ∧ ∀ i, i < m → w.cell? ⟨b, off + i, none⟩ = some (.int .i64 (p i))
theorem RdF.q {w w' : World} {v : Value} {n m : Nat} {p : Nat → Int} (h : RdF w v n m p) (hq : Q w w') : RdF w' v n m p := by
  obtain ⟨b, off, c, h1, h2, h3, h4, h5⟩ := h
  exact ⟨b, off, c, h1, h2, h3, Nat.lt_of_lt_of_le h4 hq.size, fun i hi => (hq.cell (p := ⟨b, off + i, none⟩) h4).trans (h5 i hi)⟩
def okF (p : Nat → Int) (m : Nat) : Prop := ∀ i, i < m → -1000000 ≤ p i ∧ p i ≤ 1000000
theorem mul_big {a b : Int} (h1 : -2000000 ≤ a) (h2 : a ≤ 2000000) (h3 : 0 ≤ b) (h4 : b ≤ 2000000) : big (a * b) ∧ -9223372036854775808 ≤ a * b ∧ a * b ≤ 9223372036854775807 := by
  have k1 : a * b ≤ 2000000 * b := Int.mul_le_mul_of_nonneg_right h2 h3
  have k2 : -2000000 * b ≤ a * b := Int.mul_le_mul_of_nonneg_right h1 h3
  unfold big
  omega
set_option maxRecDepth 100000 in
set_option maxHeartbeats 1600000 in
theorem along_c (u v : Value) (nv m : Nat) (p q : Nat → Int) (x r : Int) (h : Hid (alS p q m x = r)) (w : World) (hp : RdF w u m m p) (hv : RdF w v nv m q) (h0 : 0 < m) (hm : m ≤ 16) (hn : nv ≤ 1000000) (ha : asc p m) (op : okF p m) (oq : okF q m) :
    Calls Try.prog 28 #[u, v, .int .i64 x] w fun e w' => e = .returned (.int .i64 r) ∧ Q w w' := by
  obtain ⟨pb, po, pcap, rfl, pn, pm, phb, pcell⟩ := hp
  obtain ⟨qb, qo, qcap, rfl, qn, qm, qhb, qcell⟩ := hv
  have HP := Lib.hid pcell
  have HV := Lib.hid qcell
  have HA := Lib.hid ha
  have HO := Lib.hid op
  have HOQ := Lib.hid oq
  have c0 := pcell 0 h0
  have d0 := qcell 0 h0
  rw [Nat.add_zero] at c0 d0
  obtain ⟨p0, hp0⟩ : ∃ p0, p 0 = p0 := ⟨_, rfl⟩
  obtain ⟨q0, hq0⟩ : ∃ q0, q 0 = q0 := ⟨_, rfl⟩
  rw [hp0] at c0
  rw [hq0] at d0
  have i0 : (0 : Int) < (m : Int) := by omega
  have i1 : (0 : Int) < (nv : Int) := by omega
  by_cases hx : x ≤ p0
  · have HE := Lib.hid (show q0 = r by rw [← h.out, al_lo (by rw [hp0]; exact hx), hq0])
    have hx' : decide (x ≤ p0) = true := decide_eq_true hx
    clear pcell qcell ha op oq hp0 hq0 h0 pm hm hn
    go_enter Try.func28, Try.ntmps28
    go_wp2_with fail
    go_ret
    exact ⟨ret_int HE.out, Q.refl _⟩
  · have hx' : decide (x ≤ p0) = false := decide_eq_false hx
    have HX0 := Lib.hid (show p 0 < x by rw [hp0]; omega)
    clear pcell qcell ha op oq hp0 hq0
    go_enter Try.func28, Try.ntmps28
    go_wp2_with fail
    go_loopw [7] (fun u7 wr => ∃ k : Nat, 1 ≤ k ∧ k ≤ m ∧ u7 = .int .i64 k ∧ Hid ((∀ i, i < k → p i < x) ∧ Q w wr)) (fun u7 _ => m - (intOf u7).toNat)
    case atStart => exact ⟨1, Nat.le_refl _, h0, rfl, fun i hi => by (have e : i = 0 := by omega); rw [e]; exact HX0.out, Q.refl _⟩
    case round =>
      obtain ⟨k, hk1, hk, rfl, HI⟩ := hrel
      obtain ⟨j, hj⟩ : ∃ j, k = j + 1 := ⟨k - 1, by omega⟩
      subst hj
      have hpb : pb < wr.heap.size := Nat.lt_of_lt_of_le phb HI.out.2.size
      have hqb : qb < wr.heap.size := Nat.lt_of_lt_of_le qhb HI.out.2.size
      have e3 : ((j + 1 : Nat) : Int) - 1 = (j : Int) := by omega
      have e4 : IntKind.i64.wrap (((j + 1 : Nat) : Int) - 1) = (j : Int) := by rw [e3]; exact IntWalk.i64_in _ (by omega)
      have e4b : IntKind.i64.wrap ((j : Int) + 1 - 1) = (j : Int) := by rw [show (j : Int) + 1 - 1 = j by omega]; exact IntWalk.i64_in _ (by omega)
      have e4c : IntKind.i64.wrap (j : Int) = (j : Int) := IntWalk.i64_in _ (by omega)
      by_cases hlt : j + 1 < m
      · have e6 : (j : Int) < (m : Int) := by omega
        have e7 : (j : Int) + 1 < (m : Int) := by omega
        have e8 : (j : Int) < (nv : Int) := by omega
        have e9 : (j : Int) + 1 < (nv : Int) := by omega
        have cs : wr.cell? ⟨pb, po + j, none⟩ = some (.int .i64 (p j)) := (HI.out.2.cell (p := ⟨pb, po + j, none⟩) phb).trans (HP.out j (by omega))
        have ct : wr.cell? ⟨pb, po + (j + 1), none⟩ = some (.int .i64 (p (j + 1))) := (HI.out.2.cell (p := ⟨pb, po + (j + 1), none⟩) phb).trans (HP.out (j + 1) hlt)
        have ca : wr.cell? ⟨qb, qo + j, none⟩ = some (.int .i64 (q j)) := (HI.out.2.cell (p := ⟨qb, qo + j, none⟩) qhb).trans (HV.out j (by omega))
        have cb : wr.cell? ⟨qb, qo + (j + 1), none⟩ = some (.int .i64 (q (j + 1))) := (HI.out.2.cell (p := ⟨qb, qo + (j + 1), none⟩) qhb).trans (HV.out (j + 1) hlt)
        have bs := HO.out j (by omega)
        have bt := HO.out (j + 1) hlt
        have ba := HOQ.out j (by omega)
        have bb := HOQ.out (j + 1) hlt
        have hst := HA.out (j + 1) (by omega) hlt
        rw [Nat.add_sub_cancel] at hst
        have hsx := HI.out.1 j (by omega)
        obtain ⟨s, hs⟩ : ∃ s, p j = s := ⟨_, rfl⟩
        obtain ⟨t, ht⟩ : ∃ t, p (j + 1) = t := ⟨_, rfl⟩
        obtain ⟨a, ha⟩ : ∃ a, q j = a := ⟨_, rfl⟩
        obtain ⟨b, hb⟩ : ∃ b, q (j + 1) = b := ⟨_, rfl⟩
        rw [hs] at cs bs hst hsx
        rw [ht] at ct bt hst
        rw [ha] at ca ba
        rw [hb] at cb bb
        by_cases hxt : x ≤ t
        · have hxt' : decide (x ≤ t) = true := decide_eq_true hxt
          obtain ⟨d1, hd1⟩ : ∃ d, b - a = d := ⟨_, rfl⟩
          obtain ⟨d2, hd2⟩ : ∃ d, x - s = d := ⟨_, rfl⟩
          obtain ⟨d4, hd4⟩ : ∃ d, t - s = d := ⟨_, rfl⟩
          have hbig := mul_big (a := d1) (b := d2) (by omega) (by omega) (by omega) (by omega)
          obtain ⟨d3, hd3⟩ : ∃ d, d1 * d2 = d := ⟨_, rfl⟩
          rw [hd3] at hbig
          obtain ⟨f, hf⟩ : ∃ f, d3 / d4 = f := ⟨_, rfl⟩
          have hfb := div_big (a := d3) (b := d4) (by omega) hbig.1
          rw [hf] at hfb
          have HF := Lib.hid hf
          have HB := Lib.hid hbig.1
          have H4 := Lib.hid (show 0 < d4 by omega)
          have HE := Lib.hid (show a + f = r by
            rw [← h.out, al_hit HI.out.1 (by omega) hlt (by rw [ht]; exact hxt), Nat.add_sub_cancel, hs, ht, ha, hb]
            unfold ip; rw [hd1, hd2, hd4, hd3, hf])
          have r1 : wrap64 (b - a) = d1 := by rw [hd1]; exact IntWalk.wrap64_in _ (by omega)
          have r2 : wrap64 (x - s) = d2 := by rw [hd2]; exact IntWalk.wrap64_in _ (by omega)
          have r4 : wrap64 (t - s) = d4 := by rw [hd4]; exact IntWalk.wrap64_in _ (by omega)
          have r3 : wrap64 (d1 * d2) = d3 := by rw [hd3]; exact IntWalk.wrap64_in _ (by omega)
          have r5 : wrap64 (a + f) = a + f := IntWalk.wrap64_in _ (by omega)
          clear hs ht ha hb hd1 hd2 hd3 hd4 hf hfb hbig bs bt ba bb hst hsx hxt
          go_wp2_with fail
          go_quiet (fail)
          go_wp2_with fail
          go_quiet (fail)
          go_wp2_with fail
          refine (floor_c d3 d4 f H4.out HB.out HF _).mono ?_; rintro E w2 ⟨rfl, hq2⟩
          have Q2 := Lib.hid (Q.trans (HI.out.2.drewN _) hq2)
          clear hq2
          go_wp2_with fail
          go_ret
          exact ⟨ret_int (by rw [r5]; exact HE.out), Q2.out⟩
        · have hxt' : decide (x ≤ t) = false := decide_eq_false hxt
          have HG := Lib.hid (show ∀ i, i < j + 1 + 1 → p i < x from fun i hi => by
            by_cases e : i = j + 1
            · rw [e, ht]; omega
            · exact HI.out.1 i (by omega))
          clear hs ht ha hb bs bt ba bb hst hsx hxt
          go_wp2_with fail
          go_quiet (fail)
          go_wp2_with fail
          go_roundw
          case rel => exact ⟨j + 1 + 1, by omega, by omega, by go_num, HG.out, by repeat (first | exact HI.out.2 | refine Q.drewN ?_ _ | refine Q.drew ?_ | refine Q.alloc ?_ _)⟩
          case measure => simp [intOf] <;> omega
      · obtain rfl : m = j + 1 := by omega
        have hno : ¬ ((j : Int) + 1 < ((j + 1 : Nat) : Int)) := by omega
        have ca : wr.cell? ⟨qb, qo + j, none⟩ = some (.int .i64 (q j)) := (HI.out.2.cell (p := ⟨qb, qo + j, none⟩) qhb).trans (HV.out j (by omega))
        have e8 : (j : Int) < (nv : Int) := by omega
        obtain ⟨a, ha⟩ : ∃ a, q j = a := ⟨_, rfl⟩
        rw [ha] at ca
        have HE := Lib.hid (show a = r by rw [← h.out, al_hi HI.out.1 h0, Nat.add_sub_cancel, ha])
        clear ha
        go_wp2_with fail
        go_ret
        exact ⟨ret_int HE.out, HI.out.2⟩
end Go.Proofs.Ytlkgbfiaeedpfaa
