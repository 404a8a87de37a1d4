/- The contract of Common. -/
import Derived.Test.YtnbpkbdkhegheaaMathC
import Derived.Test.YtnbpkbdkhegheaaCanon
import Derived.StillTailTactics
set_option linter.unusedVariables false
set_option linter.unusedSimpArgs false
namespace Go.Proofs.Ytnbpkbdkhegheaa
open Go.ChangeShapes Go.WideShapes Go.ChangeAt Go.RowKit Sm

def lenOf : Value → Nat
  | .slice _ n _ => n
  | _ => 0
def CInv (l l' : List S) (w w2 : World) (u0 u1 u5 : Value) (wr : World) : Prop :=
  ∃ a b R, ComInv (canonL l) (canonL l') a b R ∧ Rd w2 u0 a ∧ Rd w2 u1 b ∧ Own w2.heap.size u5 R wr ∧ Below w2.heap.size w2 wr
theorem Rd.len {w : World} {v : Value} {l : List S} (h : Rd w v l) : lenOf v = l.length := by obtain ⟨A, c, rfl, _⟩ := h; rfl
theorem Rd.head {w : World} {v : Value} {s : S} {l : List S} (h : Rd w v (s :: l)) : ∃ b off c, v = .slice (some ⟨b, off, none⟩) (l.length + 1) c ∧ l.length + 1 ≤ c ∧ b < w.heap.size ∧ w.cell? ⟨b, off, none⟩ = some (.int .i64 s.1) ∧ w.cell? ⟨b, off + 1, none⟩ = some (.int .i64 s.2) := by
  obtain ⟨b, off, c, h1, h2, h3, h4, h5⟩ := h.cons (i := 0) (by simp)
  rw [Nat.zero_mul, Nat.add_zero] at h4 h5
  exact ⟨b, off, c, h1, h2, h3, h4, h5⟩
theorem Own.q {B : Nat} {v : Value} {l : List S} {w w' : World} (hq : Q w w') (h : Own B v l w) : Own B v l w' := by
  obtain ⟨h1, h2⟩ := h
  refine ⟨h1, ?_⟩
  rcases h2 with h2 | ⟨g, cap, cur, h3, h4, h5, h6⟩
  · exact .inl h2
  · refine .inr ⟨g, cap, cur, h3, h4, ?_, h6⟩
    rw [hq.block g ?_]; · exact h5
    rcases Nat.lt_or_ge g w.heap.size with k | k
    · exact k
    · rw [Array.getElem?_eq_none k] at h5; cases h5
theorem com_lens {l l' : List S} (hal : l.length ≤ 100000) (hbl : l'.length ≤ 100000) : ∀ a b R, ComInv (canonL l) (canonL l') a b R → R.length ≤ 1000000 ∧ a.length ≤ 1000000 ∧ b.length ≤ 1000000 := by
  intro a b R h
  have := h.hl; have := (canon_spec l).2.2; have := (canon_spec l').2.2; omega
theorem bdrewN {B : Nat} {a w : World} (h : Below B a w) (n : Nat) : Below B a (w.drewN n) := ⟨h.os, h.tape, h.output, h.size, h.block⟩
def CutC (w2 : World) (R : List S) (u : Value) (wx : World) : Prop := Own w2.heap.size u R wx ∧ Below w2.heap.size w2 wx
theorem below_q {B : Nat} {a w w' : World} (hq : Q w w') (h : Below B a w) (hB : B ≤ w.heap.size) : Below B a w' := Below.trans h (Below.mono hq hB)
set_option maxRecDepth 100000 in
set_option maxHeartbeats 3200000 in
theorem Common_c (v v1 : Value) (l l' : List S) (w : World) (ha : Rd w v l) (hb : Rd w v1 l') (hal : l.length ≤ 100000) (hbl : l'.length ≤ 100000) : Calls Try.prog 24 #[v, v1] w (SetPost (comS l l') w) := by
  have HA := Lib.hid ha
  have HB := Lib.hid hb
  have HAL := Lib.hid (show l.length ≤ 1000000 by omega)
  have HBL := Lib.hid (show l'.length ≤ 1000000 by omega)
  have HLE := Lib.hid (com_lens hal hbl)
  clear ha hb hal hbl
  go_enter Try.func24, Try.ntmps24
  go_wp2_with fail
  refine (Canon_c v l _ HA.out HAL.out).mono ?_
  rintro e w1 ⟨x1, rfl, hx1, hq1⟩
  have HX1 := Lib.hid hx1.rd
  have HQ1 := Lib.hid hq1
  have HB1 := Lib.hid (HB.out.q hq1)
  clear hx1 hq1
  go_wp2_with fail
  refine (Canon_c v1 l' _ HB1.out HBL.out).mono ?_
  rintro e w2 ⟨y1, rfl, hy1, hq2⟩
  have HI0 := Lib.hid (show CInv l l' w w2 x1 y1 (.slice none 0 0) w2 from ⟨_, _, [], com_start (canon_spec l).1 (canon_spec l').1, HX1.out.q hq2, hy1.rd, own_nil _ _, Below.refl _ _⟩)
  have HQ2 := Lib.hid (HQ1.out.trans hq2)
  clear hy1 hq2
  go_wp2_with fail
  go_loopw [0, 1, 5] (fun u0 u1 u5 wr => Hid (CInv l l' w w2 u0 u1 u5 wr)) (fun u0 u1 _ _ => lenOf u0 + lenOf u1)
  case atStart => exact HI0.out
  case round =>
    obtain ⟨a, b, R, hI, ra, rb, hO, hBe⟩ := hrel
    have HCI := Lib.hid hI
    have HO := Lib.hid hO
    have HBE := Lib.hid hBe
    rcases a with _ | ⟨x, a⟩
    · have HE := Lib.hid (com_end hI (.inl rfl) rfl rfl)
      obtain ⟨A0, c0, rfl, hc0, _⟩ := ra
      clear hI hO hBe rb
      go_wp2_with fail
      go_ret
      exact ⟨_, rfl, by rw [← HE.out]; exact HO.out.mono HQ2.out.size, Below.trans HQ2.out (Below.mono HBE.out HQ2.out.size)⟩
    · rcases b with _ | ⟨y, b⟩
      · have HE := Lib.hid (com_end hI (.inr rfl) rfl rfl)
        obtain ⟨A0, c0, rfl, hc0, _⟩ := ra
        obtain ⟨A1, c1, rfl, hc1, _⟩ := rb
        have hpos : 0 < (x :: a).length := by simp
        generalize (x :: a).length = na at hc0 hpos
        clear hI hO hBe
        go_wp2_with fail
        go_ret
        exact ⟨_, rfl, by rw [← HE.out]; exact HO.out.mono HQ2.out.size, Below.trans HQ2.out (Below.mono HBE.out HQ2.out.size)⟩
      · obtain ⟨ba, oa, ca, rfl, hca, hba, hxa0, hxa1⟩ := ra.head
        obtain ⟨bb, ob, cb, rfl, hcb, hbb, hxb0, hxb1⟩ := rb.head
        have RA := Lib.hid ra.tail
        have RB := Lib.hid rb.tail
        have RA0 := Lib.hid ra
        have RB0 := Lib.hid rb
        have hya0 : wr.cell? ⟨ba, oa, none⟩ = some (.int .i64 x.1) := (hBe.cell (p := ⟨ba, oa, none⟩) hba).trans hxa0
        have hya1 : wr.cell? ⟨ba, oa + 1, none⟩ = some (.int .i64 x.2) := (hBe.cell (p := ⟨ba, oa + 1, none⟩) hba).trans hxa1
        have hyb0 : wr.cell? ⟨bb, ob, none⟩ = some (.int .i64 y.1) := (hBe.cell (p := ⟨bb, ob, none⟩) hbb).trans hxb0
        have hyb1 : wr.cell? ⟨bb, ob + 1, none⟩ = some (.int .i64 y.2) := (hBe.cell (p := ⟨bb, ob + 1, none⟩) hbb).trans hxb1
        obtain ⟨na, hna⟩ : ∃ n, a.length = n := ⟨_, rfl⟩
        obtain ⟨nb, hnb⟩ : ∃ n, b.length = n := ⟨_, rfl⟩
        have HNA := Lib.hid hna
        have HNB := Lib.hid hnb
        have HLL := Lib.hid (HLE.out _ _ _ hI)
        have na6 : na ≤ 1000000 := by have := HLL.out.2.1; rw [List.length_cons] at this; omega
        have nb6 : nb ≤ 1000000 := by have := HLL.out.2.2; rw [List.length_cons] at this; omega
        have ia1 : (0 : Int) < ((na + 1 : Nat) : Int) := by omega
        have ib1 : (0 : Int) < ((nb + 1 : Nat) : Int) := by omega
        have ia2 : decide ((0 : Int) < ((na + 1 : Nat) : Int)) = true := decide_eq_true ia1
        have ib2 : decide ((0 : Int) < ((nb + 1 : Nat) : Int)) = true := decide_eq_true ib1
        have HXA := Lib.hid (show (w2.cell? ⟨ba, oa + 1, none⟩ = some (.int .i64 x.2)) ∧ (w2.cell? ⟨bb, ob + 1, none⟩ = some (.int .i64 y.2)) from ⟨hxa1, hxb1⟩)
        rw [hna] at hca
        rw [hnb] at hcb
        rw [hna] at RA RA0
        rw [hnb] at RB RB0
        rw [hna, hnb]
        clear hI ra rb hO hxa0 hxa1 hxb0 hxb1 hna hnb
        have HBS := Lib.hid hBe.size
        go_wp2_with fail
        go_cut [5] (fun v5 wx => CutC w2 (addL R (meetS x y)) v5 wx)
        case first =>
          go_region_with (first
            | (go_at_call 13; refine (Meet_c x y _).mono ?_; rintro e w3 ⟨rfl, hq3⟩)
            | (go_at_call 40; refine (add_c w2.heap.size u5 R (meetS x y) _ (Own.q hq3 HO.out) (Nat.le_trans HBS.out hq3.size) HLL.out.1).mono ?_; rintro e w4 ⟨v4, rfl, ho4, hb4, _⟩))
          all_goals go_wp2_with fail
          all_goals go_meet
          all_goals exact ⟨ho4, Below.trans (below_q hq3 HBE.out.drew HBS.out) hb4⟩
        case rest =>
          have HCU := Lib.hid (show CutC w2 (addL R (meetS x y)) u5 wc from hcut)
          have hza1 : wc.cell? ⟨ba, oa + 1, none⟩ = some (.int .i64 x.2) := (hcut.2.cell (p := ⟨ba, oa + 1, none⟩) hba).trans HXA.out.1
          have hzb1 : wc.cell? ⟨bb, ob + 1, none⟩ = some (.int .i64 y.2) := (hcut.2.cell (p := ⟨bb, ob + 1, none⟩) hbb).trans HXA.out.2
          clear hcut hya0 hya1 hyb0 hyb1
          by_cases hlt : x.2 < y.2
          · have HC := Lib.hid (com_left HCI.out hlt)
            by_cases hc1 : ca = 1
            · skip
              subst hc1
              have hn0 : na = 0 := by omega
              have HR1 := Lib.hid (show Rd w2 (.slice (some ⟨ba, oa, none⟩) 0 0) a by have := RA.out; rw [if_pos rfl, hn0] at this; exact this)
              have hn0i : (na : Int) ≤ 0 := by omega
              go_wp2_with fail
              go_quiet (fail)
              go_wp2_with fail
              go_roundw
              case rel => exact ⟨_, _, _, HC.out, HR1.out, RB0.out, HCU.out.1.drewN _, bdrewN HCU.out.2 _⟩
              case measure => simp [lenOf] <;> omega
            · skip
              have HR1 := Lib.hid (show Rd w2 (.slice (some ⟨ba, oa + 2, none⟩) na (ca - 1)) a by have := RA.out; rw [if_neg hc1] at this; exact this)
              have hcc : 2 ≤ ca := by omega
              go_wp2_with fail
              go_quiet (fail)
              go_wp2_with fail
              go_roundw
              case rel => exact ⟨_, _, _, HC.out, HR1.out, RB0.out, HCU.out.1.drewN _, bdrewN HCU.out.2 _⟩
              case measure => simp [lenOf] <;> omega
          · have HC := Lib.hid (com_right HCI.out hlt)
            have hlt' : decide (x.2 < y.2) = false := decide_eq_false hlt
            by_cases hc1 : cb = 1
            · skip
              subst hc1
              have hn0 : nb = 0 := by omega
              have HR1 := Lib.hid (show Rd w2 (.slice (some ⟨bb, ob, none⟩) 0 0) b by have := RB.out; rw [if_pos rfl, hn0] at this; exact this)
              have hn0i : (nb : Int) ≤ 0 := by omega
              go_wp2_with fail
              go_quiet (fail)
              go_wp2_with fail
              go_roundw
              case rel => exact ⟨_, _, _, HC.out, RA0.out, HR1.out, HCU.out.1.drewN _, bdrewN HCU.out.2 _⟩
              case measure => simp [lenOf] <;> omega
            · skip
              have HR1 := Lib.hid (show Rd w2 (.slice (some ⟨bb, ob + 2, none⟩) nb (cb - 1)) b by have := RB.out; rw [if_neg hc1] at this; exact this)
              have hcc : 2 ≤ cb := by omega
              go_wp2_with fail
              go_quiet (fail)
              go_wp2_with fail
              go_roundw
              case rel => exact ⟨_, _, _, HC.out, RA0.out, HR1.out, HCU.out.1.drewN _, bdrewN HCU.out.2 _⟩
              case measure => simp [lenOf] <;> omega
end Go.Proofs.Ytnbpkbdkhegheaa
