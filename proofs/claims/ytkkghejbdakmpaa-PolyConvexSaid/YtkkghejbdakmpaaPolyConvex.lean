/- For every list of points the law PolyConvex returns true: the hull of a hull is the hull, the order of the points does not matter, every point is in the region of the hull, and its corners, which are among the points, turn to the left (asked for at most MaxPoints points in range); and the examples hold. No condition. -/
import Derived.Test.YtkkghejbdakmpaaArgs
import Derived.Test.YtkkghejbdakmpaaRHull
import Derived.Test.YtkkghejbdakmpaaHullU
set_option linter.unusedVariables false
set_option linter.unusedSimpArgs false
namespace Go.Proofs.Ytkkghejbdakmpaa
open Go.ChangeShapes Go.WideShapes Go.ChangeAt Go.RowKit Pm

theorem hq_of {wr W : World} {X : Prop} (h : Hid (Q wr W) ∧ X) : Q wr W := h.1.out
def Ce (W : World) (b o : Nat) (x y : Int) : Prop := W.cell? ⟨b, o, none⟩ = some (.int .i64 x) ∧ W.cell? ⟨b, o + 1, none⟩ = some (.int .i64 y)
theorem Ce.q {W W' : World} {b o : Nat} {x y : Int} (h : Ce W b o x y) (hb : b < W.heap.size) (hq : Q W W') : Ce W' b o x y :=
  ⟨(hq.cell (p := ⟨b, o, none⟩) hb).trans h.1, (hq.cell (p := ⟨b, o + 1, none⟩) hb).trans h.2⟩
theorem kp6 {wr W : World} {b o1 o2 o3 : Nat} {x1 y1 x2 y2 x3 y3 : Int} (hb : b < wr.heap.size) (h1 : Ce wr b o1 x1 y1) (h2 : Ce wr b o2 x2 y2) (h3 : Ce wr b o3 x3 y3) (hq : Q wr W) :
    Hid (Q wr W) ∧ W.cell? ⟨b, o1, none⟩ = some (.int .i64 x1) ∧ W.cell? ⟨b, o1 + 1, none⟩ = some (.int .i64 y1) ∧ W.cell? ⟨b, o2, none⟩ = some (.int .i64 x2) ∧ W.cell? ⟨b, o2 + 1, none⟩ = some (.int .i64 y2) ∧ W.cell? ⟨b, o3, none⟩ = some (.int .i64 x3) ∧ W.cell? ⟨b, o3 + 1, none⟩ = some (.int .i64 y3) :=
  ⟨Lib.hid hq, (h1.q hb hq).1, (h1.q hb hq).2, (h2.q hb hq).1, (h2.q hb hq).2, (h3.q hb hq).1, (h3.q hb hq).2⟩
theorem kp4 {wr W : World} {b b2 o1 o2 : Nat} {x1 y1 x2 y2 : Int} (hb : b < wr.heap.size) (hb2 : b2 < wr.heap.size) (h1 : Ce wr b o1 x1 y1) (h2 : Ce wr b2 o2 x2 y2) (hq : Q wr W) :
    Hid (Q wr W) ∧ W.cell? ⟨b, o1, none⟩ = some (.int .i64 x1) ∧ W.cell? ⟨b, o1 + 1, none⟩ = some (.int .i64 y1) ∧ W.cell? ⟨b2, o2, none⟩ = some (.int .i64 x2) ∧ W.cell? ⟨b2, o2 + 1, none⟩ = some (.int .i64 y2) :=
  ⟨Lib.hid hq, (h1.q hb hq).1, (h1.q hb hq).2, (h2.q hb2 hq).1, (h2.q hb2 hq).2⟩
theorem none_crs {l H : List P} {k a b : Nat} (hr : rng l = true) (hk : l.length = k) (k32 : k ≤ 32) (hH : hull l = H) (hm : H.length = 0) (ha : a < k) (hb : b < k) : crs (g l 0) (g l b) (g l a) = 0 :=
  hull_none (by omega) hr (by rw [hH]; exact List.eq_nil_of_length_eq_zero hm) (mem_g (by omega)) (mem_g (by omega)) (mem_g (by omega))
theorem mem_ex {l : List P} {x : P} (h : x ∈ l) : ∃ j, j < l.length ∧ g l j = x := by
  obtain ⟨j, h1, h2⟩ := List.getElem_of_mem h
  exact ⟨j, h1, by rw [g_at h1]; exact h2⟩
theorem mod_nx2 (l : List P) (k n : Nat) (h : l.length = n) (h0 : 0 < n) : ((k : Int) + 2).tmod (n : Int) = (nx l (nx l k) : Nat) := by
  rw [Int.tmod_eq_emod_of_nonneg (by omega)]
  unfold nx
  rw [h, Nat.mod_add_mod]
  have : (k : Int) + 2 = ((k + 1 + 1 : Nat) : Int) := by omega
  rw [this]
  exact (Int.natCast_emod _ _).symm
set_option maxRecDepth 100000 in
set_option maxHeartbeats 6400000 in
theorem convex_walk (w : World) (v : Value) (hv : ArgP w v) : Calls Try.prog 9 #[v] w fun e w' => e = .returned (.bool true) ∧ Below w.heap.size w w' := by
  obtain ⟨i0, hi, hz0, hz1, hz2⟩ := info_parts infoP
  obtain ⟨l, hr, hl, hf⟩ := hv
  have HR := Lib.hid hr
  have HL := Lib.hid hl
  obtain ⟨A, c, rfl, hc, _⟩ := hr
  obtain ⟨n, hn⟩ : ∃ n, l.length = n := ⟨_, rfl⟩
  have HN := Lib.hid hn
  rw [hn] at HR hc hl
  rw [hn]
  unfold maxLen at hl
  clear hf
  by_cases h32 : 32 < n
  · have i1 : 32 < (n : Int) := by omega
    clear hn
    go_enter Try.func9, Try.ntmps9
    go_wp2_with fail
    refine (awake_c _).mono ?_; rintro E w5 ⟨rfl, hq5⟩
    go_wp2_with fail
    go_ret
    exact ⟨rfl, hq5⟩
  · have i1 : ¬ 32 < (n : Int) := by omega
    obtain ⟨b, hb⟩ : ∃ b, rng l = b := ⟨_, rfl⟩
    have HG := Lib.hid (rRanged_c (.slice A n c) l b (Lib.hid hb) w HR.out HL.out)
    cases b with
    | false =>
      clear hn hb
      go_enter Try.func9, Try.ntmps9
      go_wp2_with fail
      refine HG.out.mono ?_; rintro E w1 ⟨rfl, rfl⟩
      go_wp2_with fail
      refine (awake_c _).mono ?_; rintro E w5 ⟨rfl, hq5⟩
      go_wp2_with fail
      go_ret
      exact ⟨rfl, hq5⟩
    | true =>
      have HG0 := Lib.hid hb
      obtain ⟨H, hH⟩ : ∃ H, hull l = H := ⟨_, rfl⟩
      have HH := Lib.hid hH
      obtain ⟨m, hm⟩ : ∃ m, H.length = m := ⟨_, rfl⟩
      have HM := Lib.hid hm
      have m32 : m ≤ 32 := by rw [← hm, ← hH]; exact hull_few32
      clear hn hb hH hm
      go_enter Try.func9, Try.ntmps9
      go_wp2_with fail
      refine HG.out.mono ?_; rintro E w1 ⟨rfl, rfl⟩
      go_wp2_with fail
      refine (Hull_c _ l _ HR.out HL.out).mono ?_; rintro E w1 ⟨v1, rfl, hr1, hq1⟩
      rw [HH.out] at hr1
      have R1 := Lib.hid hr1
      have Q1 := Lib.hid hq1
      obtain ⟨A1, c1, rfl, hc1, _⟩ := hr1
      rw [HM.out] at R1 hc1 ⊢
      have s0 : IntKind.i64.wrap ((n : Int) - 1) = (n : Int) - 1 := IntWalk.i64_in _ (by omega)
      have n32 : n ≤ 32 := by omega
      clear hq1 h32
      go_wp2_with fail
      go_loopw [4, 5] (fun u4 u5 wr => ∃ j k : Nat, j + k = n ∧ u5 = .int .i64 ((j : Int) - 1) ∧ Hid (Own w1.heap.size u4 (l.reverse.take k) wr ∧ Q w1 wr)) (fun _ u5 _ => (intOf u5 + 1).toNat)
      case atStart => exact ⟨n, 0, rfl, by go_num, own_nil _ _, Q.refl _⟩
      case round =>
        obtain ⟨j, k, hjk, rfl, HI⟩ := hrel
        match j, hjk with
        | i + 1, hjk =>
          have e : ((i + 1 : Nat) : Int) - 1 = (i : Int) := by omega
          rw [e]
          have hkl : i < l.length := by rw [HN.out]; omega
          obtain ⟨bb, off, rfl, hb2, hc2, c0, c1'⟩ := HR.out.at (Q1.out.trans HI.out.2) hkl
          have hz := take_map_next (fun q => q) l.reverse (k := k) (by rw [List.length_reverse, HN.out]; omega)
          rw [List.map_id', g_rev (show i + k + 1 = l.length by rw [HN.out]; omega)] at hz
          obtain ⟨⟨x, y⟩, hx⟩ : ∃ q, g l i = q := ⟨_, rfl⟩
          rw [hx] at c0 c1' hz
          have HZ := Lib.hid hz
          obtain ⟨L, hL⟩ : ∃ L, l.reverse.take k = L := ⟨_, rfl⟩
          have hLl : L.length = k := by rw [← hL, List.length_take, List.length_reverse, HN.out]; omega
          rw [hL] at HZ
          dsimp only at c0 c1'
          have HO2 := Lib.hid (show Own w1.heap.size u4 L wr by rw [← hL]; exact HI.out.1)
          have HIQ := Lib.hid HI.out.2
          have RM := Lib.hid (show Room L.length from room_of (by omega))
          have HB1 := Lib.hid (show w1.heap.size ≤ wr.heap.size from HI.out.2.size)
          have hkn : (i : Int) < (n : Int) := by omega
          have k0 : (0 : Int) ≤ (i : Int) := by omega
          have hown1 : wr.ownsRow w1.heap.size 38 2 u4 L.length (cellsL L) := HO2.out
          clear hkl hz hx hL hLl HI hb2
          go_wp2_with (first
            | (at_builtin; refine wpList_append_own _ rfl _ _ 22 rfl w1.heap.size 38 i0 (.agg #[.int .i64 0, .int .i64 0]) 2 16 Try.underlying22 hi hz0 hz1 hz2 rfl (by decide) _ _ _ rfl (hown1.alloc _) ⟨wr.heap.size, 0, none⟩ 1 1 [.int .i64 x, .int .i64 y] rfl rfl (pair_at _ _ _ _) (pair_cell _ _) RM.out.1 RM.out.2 (alloc_le HB1.out _) ?_)
            | go_in)
          intro v' w2 hown' hgrow _
          have N := Lib.hid (own_next (s := (x, y)) HO2.out HIQ.out HB1.out hown' hgrow)
          clear hown' hgrow hown1
          go_wp2_with fail
          go_roundw
          case rel => exact ⟨i, k + 1, by omega, by go_num, by rw [HZ.out]; exact N.out.1, N.out.2⟩
          case measure => simp [intOf] <;> omega
        | 0, hjk =>
          obtain rfl : k = n := by omega
          have HB := Lib.hid (show Own w1.heap.size u4 l.reverse wr by
            have := HI.out.1
            rw [List.take_of_length_le (by rw [List.length_reverse, HN.out]; omega)] at this; exact this)
          have HQ2 := Lib.hid (Q1.out.trans HI.out.2)
          have R2 := Lib.hid (RdG.q R1.out HI.out.2)
          have e : ((0 : Nat) : Int) - 1 = -1 := by omega
          rw [e]
          obtain ⟨A4, c4, rfl, hc4⟩ := HB.out.shape
          rw [List.length_reverse, HN.out] at HB hc4 ⊢
          have HBR := Lib.hid (show RdP wr (.slice A4 k c4) l.reverse from HB.out.rd)
          clear HI hc4
          go_wp2_with fail
          refine (Hull_c _ l.reverse _ HBR.out (by rw [List.length_reverse]; exact HL.out)).mono ?_; rintro E w3 ⟨v3, rfl, hr3, hq3⟩
          rw [hull_rev, HH.out] at hr3
          have S3 := Lib.hid hr3
          have R3 := Lib.hid (RdG.q R2.out hq3)
          have Q3 := Lib.hid (HQ2.out.trans hq3)
          clear hr3 hq3
          go_wp2_with fail
          refine (Same_c _ _ H H true (Lib.hid (by simp)) _ S3.out R3.out (by rw [HM.out]; unfold maxLen; omega) (by rw [HM.out]; unfold maxLen; omega)).mono ?_; rintro E w4 ⟨rfl, hq4⟩
          have R4 := Lib.hid (RdG.q R3.out hq4)
          have Q4 := Lib.hid (Q3.out.trans hq4)
          clear hq4
          by_cases hm0 : m = 0
          · subst hm0
            go_wp2_with fail
            go_loopw [6] (fun v6 wr => ∃ a : Nat, a ≤ k ∧ v6 = .int .i64 a ∧ Hid (Q w4 wr)) (fun v6 _ => k - (intOf v6).toNat)
            case atStart => exact ⟨0, by omega, rfl, Q.refl _⟩
            case round =>
              obtain ⟨a, ha, rfl, HI⟩ := hrel
              by_cases hlt : a < k
              · have i5 : (a : Int) < (k : Int) := by omega
                go_wp2_with fail
                go_loopw [7] (fun v7 wr => ∃ b : Nat, b ≤ a ∧ v7 = .int .i64 b ∧ Hid (Q w4 wr)) (fun v7 _ => a - (intOf v7).toNat)
                case atStart => exact ⟨0, by omega, rfl, HI.out⟩
                case round =>
                  obtain ⟨b, hb, rfl, HJ⟩ := hrel
                  by_cases hlt2 : b < a
                  · have hba : b < k := by omega
                    have QB := Q4.out.trans HJ.out
                    have HZ := Lib.hid (none_crs HG0.out HN.out n32 HH.out HM.out hlt hba)
                    have I0 := Lib.hid (g_rng (rng_mem HG0.out) 0)
                    have I1 := Lib.hid (g_rng (rng_mem HG0.out) b)
                    have I2 := Lib.hid (g_rng (rng_mem HG0.out) a)
                    obtain ⟨bb, off, rfl, hbb, _, c0, c1'⟩ := HR.out.at QB (i := 0) (by rw [HN.out]; omega)
                    obtain ⟨b2, off2, e2, _, _, d0, d1⟩ := HR.out.at QB (i := b) (by rw [HN.out]; exact hba)
                    injection e2 with e2; injection e2 with e21 e22
                    subst e21 e22
                    obtain ⟨b3, off3, e3, _, _, f0, f1⟩ := HR.out.at QB (i := a) (by rw [HN.out]; exact hlt)
                    injection e3 with e3; injection e3 with e31 e32
                    subst e31 e32
                    simp only [Nat.zero_mul, Nat.add_zero] at c0 c1'
                    obtain ⟨⟨p1, p2⟩, hp⟩ : ∃ q, g l 0 = q := ⟨_, rfl⟩
                    obtain ⟨⟨q1, q2⟩, hq⟩ : ∃ q, g l b = q := ⟨_, rfl⟩
                    obtain ⟨⟨r1, r2⟩, hr⟩ : ∃ q, g l a = q := ⟨_, rfl⟩
                    rw [hp, hq, hr] at HZ
                    rw [hp] at c0 c1' I0
                    rw [hq] at d0 d1 I1
                    rw [hr] at f0 f1 I2
                    dsimp only at c0 c1' d0 d1 f0 f1
                    have hbw : bb < wr.heap.size := Nat.lt_of_lt_of_le hbb QB.size
                    have HK := Lib.hid (fun W => kp6 (W := W) hbw ⟨c0, c1'⟩ ⟨d0, d1⟩ ⟨f0, f1⟩)
                    have i6 : (b : Int) < (a : Int) := by omega
                    have i7 : (b : Int) < (k : Int) := by omega
                    have i8 : (0 : Int) ≤ (b : Int) := by omega
                    have i9 : (0 : Int) ≤ (a : Int) := by omega
                    have i10 : (0 : Int) < (k : Int) := by omega
                    have i11 : 0 < k := by omega
                    have i12 : (0 : Int) ≤ 0 := by omega
                    clear hp hq hr hbb QB c0 c1' d0 d1 f0 f1
                    go_wp2_with fail
                    go_region_held3 (fun W => Hid (Q wr W) ∧ W.cell? ⟨bb, off, none⟩ = some (.int .i64 p1) ∧ W.cell? ⟨bb, off + 1, none⟩ = some (.int .i64 p2) ∧ W.cell? ⟨bb, off + b * 2, none⟩ = some (.int .i64 q1) ∧ W.cell? ⟨bb, off + b * 2 + 1, none⟩ = some (.int .i64 q2) ∧ W.cell? ⟨bb, off + a * 2, none⟩ = some (.int .i64 r1) ∧ W.cell? ⟨bb, off + a * 2 + 1, none⟩ = some (.int .i64 r2)) (first | exact HK.out _ ((Q.refl wr).drew) | exact HK.out _ (((Q.refl wr).drew).trans (by assumption))) (first | (go_at_call 33; refine (rCross_c (p1, p2) (q1, q2) (r1, r2) 0 HZ I0.out I1.out I2.out _).mono ?_; rintro e w5 ⟨rfl, hq5⟩))
                    go_wp2_with fail
                    go_roundw
                    case rel => exact ⟨b + 1, by omega, by go_num, HJ.out.trans (((Q.refl wr).drew).trans hq5)⟩
                    case measure => simp [intOf] <;> omega
                  · obtain rfl : b = a := by omega
                    go_wp2_with fail
                    go_roundw
                    case rel => exact ⟨b + 1, by omega, by go_num, HJ⟩
                    case measure => simp [intOf] <;> omega
              · obtain rfl : a = k := by omega
                have Q5 := Lib.hid (Q4.out.trans HI.out)
                clear HI
                go_wp2_with fail
                refine (awake_c _).mono ?_; rintro E w5 ⟨rfl, hq5⟩
                go_wp2_with fail
                go_ret
                exact ⟨rfl, Q5.out.trans hq5⟩
          · have t1 : 0 < (m : Int) := by omega
            have t2 : ((m : Int) == 0) = false := by simp; omega
            go_wp2_with fail
            refine (Hull_c _ H _ R4.out (by rw [HM.out]; unfold maxLen; omega)).mono ?_; rintro E w5 ⟨v5, rfl, hr5, hq5⟩
            rw [show hull H = H by rw [← HH.out]; exact hull_hull (by rw [HH.out]; intro e; have := HM.out; rw [e] at this; exact hm0 this.symm)] at hr5
            have S5 := Lib.hid hr5
            have R5 := Lib.hid (RdG.q R4.out hq5)
            have Q5 := Lib.hid (Q4.out.trans hq5)
            clear hr5 hq5
            go_wp2_with fail
            refine (Same_c _ _ H H true (Lib.hid (by simp)) _ S5.out R5.out (by rw [HM.out]; unfold maxLen; omega) (by rw [HM.out]; unfold maxLen; omega)).mono ?_; rintro E w6 ⟨rfl, hq6⟩
            have R6 := Lib.hid (RdG.q R5.out hq6)
            have Q6 := Lib.hid (Q5.out.trans hq6)
            clear hq6
            go_wp2_with fail
            go_loopw [8] (fun v8 wr => ∃ a : Nat, a ≤ k ∧ v8 = .int .i64 a ∧ Hid (Q w6 wr)) (fun v8 _ => k - (intOf v8).toNat)
            case atStart => exact ⟨0, by omega, rfl, Q.refl _⟩
            case round =>
              obtain ⟨a, ha, rfl, HI⟩ := hrel
              by_cases hlt : a < k
              · have QB := Q6.out.trans HI.out
                have hal : a < l.length := by rw [HN.out]; exact hlt
                have hne : hull l ≠ [] := by rw [HH.out]; intro e; have := HM.out; rw [e] at this; exact hm0 this.symm
                have HA := Lib.hid (hull_all hne (rng_mem HG0.out) (mem_g hal))
                have HF := Lib.hid (hull_first hne (mem_g hal))
                rw [HH.out] at HA HF
                obtain ⟨bb, off, rfl, hbb, _, c0, c1'⟩ := HR.out.at QB hal
                obtain ⟨b2, off2, rfl, hb2, _, d0, d1⟩ := (show RdP _ _ H from R6.out).at HI.out (i := 0) (by rw [HM.out]; omega)
                simp only [Nat.zero_mul, Nat.add_zero] at d0 d1
                obtain ⟨⟨p1, p2⟩, hp⟩ : ∃ q, g l a = q := ⟨_, rfl⟩
                obtain ⟨⟨q1, q2⟩, hq⟩ : ∃ q, g H 0 = q := ⟨_, rfl⟩
                rw [hp] at c0 c1' HA HF
                rw [hq] at d0 d1 HF
                dsimp only at c0 c1' d0 d1
                have hbw : bb < wr.heap.size := Nat.lt_of_lt_of_le hbb QB.size
                have hbw2 : b2 < wr.heap.size := Nat.lt_of_lt_of_le hb2 HI.out.size
                have HK := Lib.hid (fun W => kp4 (W := W) hbw hbw2 ⟨c0, c1'⟩ ⟨d0, d1⟩)
                have C1 := Lib.hid (fun W (h : Q wr W) => show Calls Try.prog 25 #[.slice (some ⟨b2, off2, none⟩) m c1, .agg #[.int .i64 p1, .int .i64 p2]] W fun e w' => e = .returned (.bool true) ∧ Q W w' from Has_c _ H (p1, p2) true HA W (RdG.q R6.out (HI.out.trans h)) (by rw [HM.out]; unfold maxLen; omega))
                have i5 : (a : Int) < (k : Int) := by omega
                have i9 : (0 : Int) ≤ (a : Int) := by omega
                have i10 : (0 : Int) < (m : Int) := by omega
                have i11 : 0 < m := by omega
                clear hp hq hbb hb2 QB c0 c1' d0 d1 hne hal
                go_wp2_with fail
                go_region_held3 (fun W => Hid (Q wr W) ∧ W.cell? ⟨bb, off + a * 2, none⟩ = some (.int .i64 p1) ∧ W.cell? ⟨bb, off + a * 2 + 1, none⟩ = some (.int .i64 p2) ∧ W.cell? ⟨b2, off2, none⟩ = some (.int .i64 q1) ∧ W.cell? ⟨b2, off2 + 1, none⟩ = some (.int .i64 q2)) (first | exact HK.out _ ((Q.refl wr).drew) | exact HK.out _ (((Q.refl wr).drew).trans hq7) | exact HK.out _ ((((Q.refl wr).drew).trans hq7).trans hq8)) (first | (go_at_call 25; refine (C1.out _ (hq_of (by assumption))).mono ?_; rintro e w7 ⟨rfl, hq7⟩) | (go_at_call 34; refine (rBefore_c (p1, p2) (q1, q2) false HF _).mono ?_; rintro e w8 ⟨rfl, hq8⟩))
                go_wp2_with fail
                go_roundw
                case rel => exact ⟨a + 1, by omega, by go_num, HI.out.trans ((((Q.refl wr).drew).trans hq7).trans hq8)⟩
                case measure => simp [intOf] <;> omega
              · obtain rfl : a = k := by omega
                have Q7 := Lib.hid HI.out
                clear HI
                go_wp2_with fail
                go_loopw [9] (fun v9 wr => ∃ a : Nat, a ≤ m ∧ v9 = .int .i64 a ∧ Hid (Q w6 wr)) (fun v9 _ => m - (intOf v9).toNat)
                case atStart => exact ⟨0, by omega, rfl, Q7.out⟩
                case round =>
                  obtain ⟨i, hi2, rfl, HI⟩ := hrel
                  by_cases hlt : i < m
                  · have hne : hull l ≠ [] := by rw [HH.out]; intro e; have := HM.out; rw [e] at this; exact hm0 this.symm
                    obtain ⟨G, _⟩ := hull_pgon hne
                    rw [HH.out] at G
                    have hil : i < H.length := by rw [HM.out]; exact hlt
                    have hi1 : nx H i < H.length := nx_lt i (by omega)
                    have hi3 : nx H (nx H i) < H.length := nx_lt _ (by omega)
                    have HT := Lib.hid (G.tr i hil)
                    have HME := Lib.hid (mem_ex (G.me _ (mem_g hil)))
                    have J0 := Lib.hid (g_rng (show RL H by rw [← HH.out]; exact hull_rng l) i)
                    have J1 := Lib.hid (g_rng (show RL H by rw [← HH.out]; exact hull_rng l) (nx H i))
                    have J2 := Lib.hid (g_rng (show RL H by rw [← HH.out]; exact hull_rng l) (nx H (nx H i)))
                    have m1 := mod_nx H i m HM.out (by omega)
                    have m2 := mod_nx2 H i m HM.out (by omega)
                    obtain ⟨b2, off2, rfl, hb2, _, c0, c1'⟩ := (show RdP _ _ H from R6.out).at HI.out hil
                    obtain ⟨b3, off3, e3, _, _, d0, d1⟩ := (show RdP _ _ H from R6.out).at HI.out hi1
                    injection e3 with e3; injection e3 with e31 e32
                    subst e31 e32
                    obtain ⟨b4, off4, e4, _, _, f0, f1⟩ := (show RdP _ _ H from R6.out).at HI.out hi3
                    injection e4 with e4; injection e4 with e41 e42
                    subst e41 e42
                    obtain ⟨⟨p1, p2⟩, hp⟩ : ∃ q, g H i = q := ⟨_, rfl⟩
                    obtain ⟨⟨q1, q2⟩, hq⟩ : ∃ q, g H (nx H i) = q := ⟨_, rfl⟩
                    obtain ⟨⟨r1, r2⟩, hr⟩ : ∃ q, g H (nx H (nx H i)) = q := ⟨_, rfl⟩
                    rw [hp, hq, hr] at HT
                    rw [hp] at c0 c1' J0 HME
                    rw [hq] at d0 d1 J1
                    rw [hr] at f0 f1 J2
                    obtain ⟨n1, hn1⟩ : ∃ x, nx H i = x := ⟨_, rfl⟩
                    rw [hn1] at d0 d1 f0 f1 m1 m2 hi1 hi3
                    obtain ⟨n2, hn2⟩ : ∃ x, nx H n1 = x := ⟨_, rfl⟩
                    rw [hn2] at f0 f1 m2 hi3
                    rw [HM.out] at hi1 hi3
                    dsimp only at c0 c1' d0 d1 f0 f1
                    obtain ⟨z, hz⟩ : ∃ z, crs (p1, p2) (q1, q2) (r1, r2) = z := ⟨_, rfl⟩
                    rw [hz] at HT
                    have HZ := Lib.hid hz
                    have z1 : ¬ z ≤ 0 := by have := HT.out; omega
                    have z2 : decide (z ≤ 0) = false := decide_eq_false z1
                    have hbw : b2 < wr.heap.size := Nat.lt_of_lt_of_le hb2 HI.out.size
                    have HK := Lib.hid (fun W => kp6 (W := W) hbw ⟨c0, c1'⟩ ⟨d0, d1⟩ ⟨f0, f1⟩)
                    have HC0 := Lib.hid (show Ce wr b2 (off2 + i * 2) p1 p2 from ⟨c0, c1'⟩)
                    have m1' : ((i : Int) + 1) % (m : Int) = (n1 : Int) := by rw [← m1]; exact (Int.tmod_eq_emod_of_nonneg (by omega)).symm
                    have m2' : ((i : Int) + 2) % (m : Int) = (n2 : Int) := by rw [← m2]; exact (Int.tmod_eq_emod_of_nonneg (by omega)).symm
                    have t2' : ¬ m = 0 := hm0
                    have i5 : (i : Int) < (m : Int) := by omega
                    have i6 : (0 : Int) ≤ (i : Int) := by omega
                    have i7 : (n1 : Int) < (m : Int) := by omega
                    have i8 : (0 : Int) ≤ (n1 : Int) := by omega
                    have i9 : (n2 : Int) < (m : Int) := by omega
                    have i10 : (0 : Int) ≤ (n2 : Int) := by omega
                    have e4 : IntKind.i64.wrap ((i : Int) + 1) = (i : Int) + 1 := IntWalk.i64_in _ (by omega)
                    have e5 : IntKind.i64.wrap ((i : Int) + 2) = (i : Int) + 2 := IntWalk.i64_in _ (by omega)
                    have e6 : IntKind.i64.wrap (n1 : Int) = (n1 : Int) := IntWalk.i64_in _ (by omega)
                    have e7 : IntKind.i64.wrap (n2 : Int) = (n2 : Int) := IntWalk.i64_in _ (by omega)
                    clear hp hq hr hn1 hn2 hz hb2 hil hne G c0 c1' d0 d1 f0 f1
                    go_wp2_with fail
                    go_region_held3 (fun W => Hid (Q wr W) ∧ W.cell? ⟨b2, off2 + i * 2, none⟩ = some (.int .i64 p1) ∧ W.cell? ⟨b2, off2 + i * 2 + 1, none⟩ = some (.int .i64 p2) ∧ W.cell? ⟨b2, off2 + n1 * 2, none⟩ = some (.int .i64 q1) ∧ W.cell? ⟨b2, off2 + n1 * 2 + 1, none⟩ = some (.int .i64 q2) ∧ W.cell? ⟨b2, off2 + n2 * 2, none⟩ = some (.int .i64 r1) ∧ W.cell? ⟨b2, off2 + n2 * 2 + 1, none⟩ = some (.int .i64 r2)) (first | exact HK.out _ ((Q.refl wr).drew) | exact HK.out _ (((Q.refl wr).drew).trans (by assumption))) (first | (go_at_call 33; refine (rCross_c (p1, p2) (q1, q2) (r1, r2) z HZ J0.out J1.out J2.out _).mono ?_; rintro e w7 ⟨rfl, hq7⟩))
                    have Q8 := Lib.hid (show Q wr w7 from ((Q.refl wr).drew).trans hq7)
                    have Q9 := Lib.hid (show Q w6 w7 from HI.out.trans Q8.out)
                    have HC7 := Lib.hid (HC0.out.q hbw Q8.out)
                    clear hq7 m1 m2 m1' m2'
                    go_wp2_with fail
                    go_loopw [10, 11] (fun v10 v11 wr => ∃ (b : Nat) (sm : Bool), b ≤ a ∧ v11 = .int .i64 b ∧ v10 = .bool sm ∧ Hid (Q w7 wr ∧ (sm = true ↔ ∃ j, j < b ∧ g l j = (p1, p2)))) (fun _ v11 _ => a - (intOf v11).toNat)
                    case atStart => exact ⟨0, false, by omega, rfl, rfl, Q.refl _, ⟨fun e => (by cases e), fun ⟨j, h, _⟩ => absurd h (Nat.not_lt_zero _)⟩⟩
                    case round =>
                      obtain ⟨b, sm, hb, rfl, rfl, HJ⟩ := hrel
                      by_cases hlt2 : b < a
                      · have hbl : b < l.length := by rw [HN.out]; exact hlt2
                        have QB := Q6.out.trans (Q9.out.trans HJ.out.1)
                        obtain ⟨bb, off, rfl, hbb, _, c0, c1'⟩ := HR.out.at QB hbl
                        obtain ⟨d0, d1⟩ := HC7.out.q (Nat.lt_of_lt_of_le hbw Q8.out.size) HJ.out.1
                        obtain ⟨⟨x1, x2⟩, hx⟩ : ∃ q, g l b = q := ⟨_, rfl⟩
                        rw [hx] at c0 c1'
                        dsimp only at c0 c1'
                        have k5 : (b : Int) < (a : Int) := by omega
                        have k6 : (0 : Int) ≤ (b : Int) := by omega
                        cases sm with
                        | true =>
                          have HE := Lib.hid (show ∃ j, j < b + 1 ∧ g l j = (p1, p2) by obtain ⟨j, h1, h2⟩ := HJ.out.2.1 rfl; exact ⟨j, by omega, h2⟩)
                          clear hx hbl QB hbb
                          go_wp2_with fail
                          go_quiet (fail)
                          go_wp2_with fail
                          go_roundw
                          case rel => exact ⟨b + 1, true, by omega, by go_num, rfl, HJ.out.1.drewN _, fun _ => HE.out, fun _ => rfl⟩
                          case measure => simp [intOf] <;> omega
                        | false =>
                          have HNO := Lib.hid (show ¬ ∃ j, j < b ∧ g l j = (p1, p2) from fun h => absurd (HJ.out.2.2 h) (by decide))
                          by_cases g1 : x1 = p1
                          · subst g1
                            by_cases g2 : x2 = p2
                            · subst g2
                              have HE := Lib.hid (show ∃ j, j < b + 1 ∧ g l j = (x1, x2) from ⟨b, by omega, hx⟩)
                              clear hx hbl QB hbb
                              go_wp2_with fail
                              go_quiet (fail)
                              go_wp2_with fail
                              go_roundw
                              case rel => exact ⟨b + 1, true, by omega, by go_num, rfl, HJ.out.1.drewN _, fun _ => HE.out, fun _ => rfl⟩
                              case measure => simp [intOf] <;> omega
                            · have HE := Lib.hid (show ¬ ∃ j, j < b + 1 ∧ g l j = (x1, p2) from fun ⟨j, h1, h2⟩ => by
                                by_cases e : j = b
                                · subst e; rw [hx] at h2; injection h2 with _ h3; exact g2 h3
                                · exact HNO.out ⟨j, by omega, h2⟩)
                              have u1 : (x2 == p2) = false := by simp [g2]
                              clear hx hbl QB hbb
                              go_wp2_with fail
                              go_quiet (fail)
                              go_wp2_with fail
                              go_roundw
                              case rel => exact ⟨b + 1, false, by omega, by go_num, rfl, HJ.out.1.drewN _, fun e => (by cases e), fun h => absurd h HE.out⟩
                              case measure => simp [intOf] <;> omega
                          · have HE := Lib.hid (show ¬ ∃ j, j < b + 1 ∧ g l j = (p1, p2) from fun ⟨j, h1, h2⟩ => by
                              by_cases e : j = b
                              · subst e; rw [hx] at h2; injection h2 with h3 _; exact g1 h3
                              · exact HNO.out ⟨j, by omega, h2⟩)
                            have u1 : (x1 == p1) = false := by simp [g1]
                            clear hx hbl QB hbb
                            go_wp2_with fail
                            go_quiet (fail)
                            go_wp2_with fail
                            go_roundw
                            case rel => exact ⟨b + 1, false, by omega, by go_num, rfl, HJ.out.1.drewN _, fun e => (by cases e), fun h => absurd h HE.out⟩
                            case measure => simp [intOf] <;> omega
                      · obtain rfl : b = a := by omega
                        obtain rfl : sm = true := HJ.out.2.2 (by obtain ⟨j, h1, h2⟩ := HME.out; exact ⟨j, by rw [← HN.out]; exact h1, h2⟩)
                        go_wp2_with fail
                        go_roundw
                        case rel => exact ⟨i + 1, by omega, by go_num, Q9.out.trans HJ.out.1⟩
                        case measure => simp [intOf] <;> omega
                  · obtain rfl : i = m := by omega
                    have Q8 := Lib.hid (Q6.out.trans HI.out)
                    clear HI
                    go_wp2_with fail
                    refine (awake_c _).mono ?_; rintro E w7 ⟨rfl, hq7⟩
                    go_wp2_with fail
                    go_ret
                    exact ⟨rfl, Q8.out.trans hq7⟩

namespace polyConvex
theorem own : ownKnob Try.prog.godebug = none := by kernel_rfl
set_option maxRecDepth 100000 in
set_option maxHeartbeats 800000 in
theorem lifted (os : Os) (started : os.Started) (H : Type) (enc : TypeId × Value → H) :
    ReturnsInHanded {} Try.checked os 9 .any (Rows.polyConvexSpec.pre6 enc Try.prog Try.f9 Rows.polyConvexRow.domain false) (Rows.polyConvexSpec.post enc Try.prog Try.f9 false true false false) := by
  refine returnsInHanded_of_change (C := Try.checked) own started (by kernel_rfl) Try.func9
    (ChangeSpec.witness6 (enc := enc) (C := Try.checked) false ⟨#[], #[.slice none 0 0], []⟩ 8 (by kernel_rfl) (by kernel_rfl) (by kernel_rfl) (by kernel_rfl)) ?_
  intro W base args ds gs before hval0 hW hcnd _
  have hval : ∀ (j : Nat) t v, Try.f9.params[j]? = some t → args[j]? = some v → Value.okWide Try.prog W .any base t v := hval0
  have hW' := hW
  obtain ⟨p, q, hA0, hV, rfl, hfz, hnd⟩ := hW
  have hA : DataW.TrodAll enc Try.prog W 0 (fun _ => true) true Try.f9.params.toList args.toList ds p := hA0
  rw [Try.params9] at hA hval
  obtain ⟨v0, vs0, d0, ds0, p0, q0, hargs, rfl, rfl, h0, r0⟩ := trodAll_cons hA
  obtain ⟨rfl, rfl, rfl⟩ := trodAll_nil r0
  obtain rfl : args = #[v0] := by cases args; simp_all
  obtain ⟨rfl, rfl⟩ := trodVars_none hV
  have a0 := open_pts (hval 0 22 v0 rfl rfl) h0
  clear hA0 hval0
  refine (convex_walk W v0 a0).mono fun e W' ⟨he, bel⟩ => ?_
  subst he
  exact ⟨_, rfl, _, _, _, [], _, [], hW', trodAll_mk1 (shut_bool Try.underlying4 _), (trodAll_cons_mk (stays (by kernel_rfl) (of_decide_eq_true (by kernel_rfl)) h0 bel) trodAll_mk0), rfl, bel.frame _, fun h => by cases h⟩
theorem over : Rows.polyConvexRow.holds Try.pinned (OpenSpec.ofChange Rows.polyConvexSpec) :=
  OpenClaim.holds_of_wide 9 Try.f9 rfl rfl rfl rfl rfl rfl rfl ⟨rfl, rfl, rfl, rfl, rfl⟩ rfl rfl rfl rfl rfl (by kernel_rfl) Try.func9 (by kernel_rfl)
    (of_decide_eq_true (by kernel_rfl)) (by unfold Func.isWrapper; first | (rw [if_pos (by decide +kernel)]; kernel_rfl) | (rw [if_neg (by decide +kernel)]; exact ⟨rfl, rfl⟩))
    (fun os started H enc _ => lifted os started H enc)
theorem proved : Rows.PolyConvexSaid := over
end polyConvex

end Go.Proofs.Ytkkghejbdakmpaa
