/- The contracts of both chains: the points that remain if the way may only turn to the left. -/
import Derived.Test.YtkkghejbdakmpaaTurn
import Derived.Test.YtkkghejbdakmpaaHas
set_option linter.unusedVariables false
set_option linter.unusedSimpArgs false
namespace Go.Proofs.Ytkkghejbdakmpaa
open Go.ChangeShapes Go.WideShapes Go.ChangeAt Go.RowKit Go.Shelf Pm

theorem q_grown {w w' : World} (h : Q w w') (row : Option Nat) : w.grownBy w' row := ⟨h.os, h.tape, h.output, h.size, fun k hk _ => h.block k hk⟩
theorem Own.q {B : Nat} {v : Value} {l : List P} {w w' : World} (h : Own B v l w) (hq : Q w w') : Own B v l w' := World.ownsRow.kept h (q_grown hq none) (by cases hv : v.ownBlock <;> simp)
theorem Q.sz {w w' : World} (h : Q w w') : w.heap.size ≤ w'.heap.size := h.size
theorem Own.shape {B : Nat} {v : Value} {l : List P} {w : World} (h : Own B v l w) : ∃ A c, v = .slice A l.length c ∧ l.length ≤ c := by
  obtain ⟨_, ⟨h1, h2⟩ | ⟨g, cap, cur, h1, _, _, h3, _⟩⟩ := h
  · exact ⟨none, 0, by rw [h1, h2], by omega⟩
  · exact ⟨_, cap, h1, h3⟩
/-- a row without its last point -/
theorem Own.drop {B b cap n : Nat} {l : List P} {x : P} {w : World} (h : Own B (.slice (some ⟨b, 0, none⟩) n cap) (l ++ [x]) w) : Own B (.slice (some ⟨b, 0, none⟩) l.length cap) l w := by
  obtain ⟨h1, ⟨h2, _⟩ | ⟨g, cap', cur, h2, hb, hg, hn, hm, hs, ht⟩⟩ := h
  · cases h2
  · injection h2 with e1 e2 e3
    injection e1 with e1; injection e1 with e1
    subst e1 e3
    rw [List.length_append, List.length_singleton] at hn ht
    refine ⟨cellsL_len l, .inr ⟨b, cap, cur, rfl, hb, hg, by omega, hm, hs, ?_⟩⟩
    have := congrArg (List.take (l.length * 2)) ht
    rw [List.take_take, cellsL_app, List.take_append_of_le_length (by rw [cellsL_len]; exact Nat.le_refl _), show l.length * 2 = (cellsL l).length from (cellsL_len l).symm, List.take_length, cellsL_len, Nat.min_eq_left (by omega)] at this
    exact this
theorem Own.cells {B b cap n : Nat} {l : List P} {w : World} (h : Own B (.slice (some ⟨b, 0, none⟩) n cap) l w) (hn : n = l.length) {i : Nat} (hi : i < l.length) : w.cell? ⟨b, i * 2, none⟩ = some (.int .i64 (g l i).1) ∧ w.cell? ⟨b, i * 2 + 1, none⟩ = some (.int .i64 (g l i).2) := by
  subst hn
  obtain ⟨c1, c2⟩ := cellsL_at l i l[i] (List.getElem?_eq_getElem hi)
  rw [g_at hi]
  exact ⟨(h.cellAt (i * 2) (by omega)).trans c1, (h.cellAt (i * 2 + 1) (by omega)).trans c2⟩
theorem chR_take {l : List P} {k : Nat} (h : k < l.length) : chR (l.take (k + 1)) = g l k :: pop (g l k) (chR (l.take k)) := by
  rw [List.take_succ_eq_append_getElem h, chR_snoc, g_at h]
theorem pop_stop {q a b : P} {r : List P} (h : ¬ crs a b q ≤ 0) : pop q (b :: a :: r) = b :: a :: r := by unfold pop; rw [if_neg h]
theorem pop_on {q a b : P} {r : List P} (h : crs a b q ≤ 0) : pop q (b :: a :: r) = pop q (a :: r) := by rw [pop, if_pos h]
theorem pop_few {q : P} : ∀ {s : List P}, s.length < 2 → pop q s = s
  | [], _ => rfl
  | [a], _ => rfl
  | b :: a :: r, h => by simp at h; omega
def lenV : Value → Nat
  | .slice _ n _ => n
  | _ => 0
/-- the inner loop: what is left of the way leads to the same -/
def InC (B : Nat) (q : P) (T : List P) (w : World) (u : Value) (wr : World) : Prop := ∃ S : List P, Own B u S.reverse wr ∧ pop q S = pop q T ∧ (∀ x, x ∈ S → inP x = true) ∧ S.length ≤ T.length ∧ Q w wr
theorem last_two (r : List P) (a b : P) : g (b :: a :: r).reverse r.length = a ∧ g (b :: a :: r).reverse (r.length + 1) = b := by
  unfold g
  rw [List.getD_eq_getElem?_getD, List.getD_eq_getElem?_getD, List.reverse_cons, List.reverse_cons]
  constructor
  · rw [List.getElem?_append_left (by simp), List.getElem?_append_right (by simp)]; simp
  · rw [List.getElem?_append_right (by simp)]; simp
def ChPost (L : List P) (w : World) (e : Ending) (w' : World) : Prop := ∃ v', e = .returned v' ∧ Own w.heap.size v' L w' ∧ Q w w'
theorem six {wr W W2 : World} {g2 gb i j : Nat} {u0 u1 u2 u3 u4 u5 : Value} (h1 : g2 < wr.heap.size) (h2 : gb < wr.heap.size)
    (h : Hid (Q wr W) ∧ W.cell? ⟨g2, i * 2, none⟩ = some u0 ∧ W.cell? ⟨g2, i * 2 + 1, none⟩ = some u1 ∧ W.cell? ⟨g2, j * 2, none⟩ = some u2 ∧ W.cell? ⟨g2, j * 2 + 1, none⟩ = some u3 ∧ W.cell? ⟨gb, 0, none⟩ = some u4 ∧ W.cell? ⟨gb, 1, none⟩ = some u5) (hq : Q W W2) :
    Hid (Q wr W2) ∧ W2.cell? ⟨g2, i * 2, none⟩ = some u0 ∧ W2.cell? ⟨g2, i * 2 + 1, none⟩ = some u1 ∧ W2.cell? ⟨g2, j * 2, none⟩ = some u2 ∧ W2.cell? ⟨g2, j * 2 + 1, none⟩ = some u3 ∧ W2.cell? ⟨gb, 0, none⟩ = some u4 ∧ W2.cell? ⟨gb, 1, none⟩ = some u5 := by
  obtain ⟨h0, k0, k1, k2, k3, k4, k5⟩ := h
  have l1 := Nat.lt_of_lt_of_le h1 h0.out.size
  have l2 := Nat.lt_of_lt_of_le h2 h0.out.size
  exact ⟨Lib.hid (h0.out.trans hq), (hq.cell (p := ⟨g2, i * 2, none⟩) l1).trans k0, (hq.cell (p := ⟨g2, i * 2 + 1, none⟩) l1).trans k1, (hq.cell (p := ⟨g2, j * 2, none⟩) l1).trans k2, (hq.cell (p := ⟨g2, j * 2 + 1, none⟩) l1).trans k3, (hq.cell (p := ⟨gb, 0, none⟩) l2).trans k4, (hq.cell (p := ⟨gb, 1, none⟩) l2).trans k5⟩
structure CW (b g0 i j : Nat) (x1 x2 y1 y2 z1 z2 : Int) (W : World) : Prop where
  a0 : W.cell? ⟨b, i * 2, none⟩ = some (.int .i64 x1)
  a1 : W.cell? ⟨b, i * 2 + 1, none⟩ = some (.int .i64 x2)
  b0 : W.cell? ⟨b, j * 2, none⟩ = some (.int .i64 y1)
  b1 : W.cell? ⟨b, j * 2 + 1, none⟩ = some (.int .i64 y2)
  q0 : W.cell? ⟨g0, 0, none⟩ = some (.int .i64 z1)
  q1 : W.cell? ⟨g0, 1, none⟩ = some (.int .i64 z2)
set_option maxRecDepth 100000 in
set_option maxHeartbeats 3200000 in
theorem chain_c (v : Value) (l : List P) (w : World) (hr : RdP w v l) (hR : RL l) (hl : l.length ≤ 1000) : Calls Try.prog 51 #[v] w (ChPost (chn l) w) := by
  obtain ⟨i0, hi, hz0, hz1, hz2⟩ := info_parts infoP
  have HR := Lib.hid hr
  have HRL := Lib.hid hR
  obtain ⟨A, c, rfl, hc, _⟩ := hr
  obtain ⟨n, hn⟩ : ∃ n, l.length = n := ⟨_, rfl⟩
  have HN := Lib.hid hn
  rw [hn] at HR
  rw [hn]
  have hl' : n ≤ 1000 := by omega
  clear hc hn hl hR
  go_enter Try.func51, Try.ntmps51
  go_wp2_with fail
  go_loopw [3, 8] (fun u3 u8 wr => ∃ k : Nat, k ≤ n ∧ u8 = .int .i64 k ∧ Hid (Own w.heap.size u3 (chn (l.take k)) wr ∧ Q w wr)) (fun _ u8 _ => n - (intOf u8).toNat)
  case atStart => exact ⟨0, Nat.zero_le _, rfl, own_nil _ _, Q.refl _⟩
  case round =>
    obtain ⟨k, hk, rfl, HI⟩ := hrel
    by_cases hlt : k < n
    · have hkl : k < l.length := by rw [HN.out]; exact hlt
      obtain ⟨bb, off, rfl, hb, hc, c0, c1⟩ := HR.out.at HI.out.2 hkl
      obtain ⟨⟨x, y⟩, hx⟩ : ∃ q, g l k = q := ⟨_, rfl⟩
      rw [hx] at c0 c1
      have HX := Lib.hid hx
      have HIN := Lib.hid (show inP (x, y) = true by rw [← hx]; exact g_rng HRL.out k)
      obtain ⟨T, hT⟩ : ∃ T, chR (l.take k) = T := ⟨_, rfl⟩
      have HT := Lib.hid hT
      have HTL := Lib.hid (show T.length ≤ 1000 by rw [← hT]; have := chR_len (l.take k); have := List.length_take_le k l; omega)
      have HNX := Lib.hid (show chn (l.take (k + 1)) = (pop (x, y) T).reverse ++ [(x, y)] by unfold chn; rw [chR_take hkl, hx, hT, List.reverse_cons])
      obtain ⟨wo, hwo⟩ : ∃ wo, wr.alloc (.cells #[.int .i64 x, .int .i64 y] 38) = wo := ⟨_, rfl⟩
      have hqo : Q wr wo := by rw [← hwo]; exact (Q.refl wr).alloc _
      have bq : BoxP wo wr.heap.size (x, y) := by rw [← hwo]; exact BoxP.new wr (x, y)
      have HIC := Lib.hid (show InC w.heap.size (x, y) T w u3 wo from ⟨T, by rw [← hT]; exact HI.out.1.q hqo, rfl, fun z hz => HRL.out z (List.mem_of_mem_take (chR_mem _ z (by rw [hT]; exact hz))), Nat.le_refl _, HI.out.2.trans hqo⟩)
      have HBQ := Lib.hid bq
      clear hkl hx hT hqo bq
      go_wp2_with fail
      clear hwo c0 c1
      obtain ⟨gb, hgb⟩ : ∃ z, wr.heap.size = z := ⟨_, rfl⟩
      rw [hgb] at HBQ ⊢
      have HGB := Lib.hid (show w.heap.size ≤ gb by rw [← hgb]; exact HI.out.2.size)
      clear hgb
      go_loopw [3] (fun u3 wr2 => Hid (InC w.heap.size (x, y) T w u3 wr2) ∧ Hid (Q wo wr2)) (fun u3 _ => lenV u3)
      case atStart => exact ⟨HIC, Lib.hid (Q.refl _)⟩
      case round =>
        obtain ⟨HC, HQ2⟩ := hrel
        obtain ⟨S, ho, hpop, hin, hsl, hqw⟩ := HC.out
        by_cases h2 : S.length < 2
        · have HO := Lib.hid ho
          have HP := Lib.hid (show S = pop (x, y) T by rw [← hpop, pop_few h2])
          obtain ⟨A2, c2, rfl, hc2⟩ := ho.shape
          rw [List.length_reverse] at hc2 HO ⊢
          obtain ⟨m, hm⟩ : ∃ m, S.length = m := ⟨_, rfl⟩
          have HM := Lib.hid hm
          rw [hm] at hc2 h2 HO ⊢
          have t1 : decide ((2 : Int) ≤ (m : Int)) = false := decide_eq_false (by omega)
          have t2 : decide (2 ≤ m) = false := decide_eq_false (by omega)
          have HQW := Lib.hid hqw
          have q0 := (HBQ.out.q HQ2.out).c0
          have q1 := (HBQ.out.q HQ2.out).c1
          dsimp only at q0 q1
          have RM := Lib.hid (show Room S.reverse.length from room_of (by simp; omega))
          clear hm ho hpop hin hsl hqw h2 hc2
          go_wp2_with fail
          go_quiet (fail)
          obtain ⟨W1, hW1⟩ : ∃ W1, wr.drewN nq = W1 := ⟨_, rfl⟩
          have q0' : W1.cell? ⟨gb, 0, none⟩ = some (.int .i64 x) := by rw [← hW1]; exact q0
          have q1' : W1.cell? ⟨gb, 1, none⟩ = some (.int .i64 y) := by rw [← hW1]; exact q1
          rw [hW1]
          clear q0 q1
          have HO1 := Lib.hid (show Own w.heap.size (.slice A2 m c2) (S).reverse W1 from (by rw [← hW1]; exact HO.out.drewN nq))
          have hown1 : W1.ownsRow w.heap.size 38 2 (.slice A2 m c2) (S).reverse.length (cellsL (S).reverse) := HO1.out
          have HB1 := Lib.hid (show w.heap.size ≤ W1.heap.size from Q.sz (show Q w W1 by rw [← hW1]; exact HQW.out.drewN nq))
          have HQ1 := Lib.hid (show Q w W1 from (show Q w W1 by rw [← hW1]; exact HQW.out.drewN nq))
          clear hW1
          go_wp2_with (first
            | (at_builtin; refine wpList_append_own _ rfl _ _ 22 rfl w.heap.size 38 i0 (.agg #[.int .i64 0, .int .i64 0]) 2 16 Try.underlying22 hi hz0 hz1 hz2 rfl (by decide) _ _ _ rfl (hown1.alloc _) ⟨W1.heap.size, 0, none⟩ 1 1 [.int .i64 x, .int .i64 y] rfl rfl (pair_at _ _ _ _) (pair_cell _ _) RM.out.1 RM.out.2 (alloc_le HB1.out _) ?_)
            | go_in)
          intro v' w1 hown' hgrow _
          have N := Lib.hid (own_next (s := (x, y)) HO1.out HQ1.out HB1.out (by simpa only [List.length_reverse, List.length_cons] using hown') hgrow)
          clear hown' hgrow hown1
          go_wp2_with fail
          go_roundw
          case rel => exact ⟨k + 1, by omega, by go_num, by rw [HNX.out, ← HP.out]; exact N.out.1, N.out.2⟩
          case measure => simp [intOf] <;> omega
        · obtain ⟨b2, a2, r, rfl⟩ : ∃ b a r, S = b :: a :: r := by
            match S, h2 with
            | [], h => simp at h
            | [z], h => simp at h
            | b :: a :: r, _ => exact ⟨b, a, r, rfl⟩
          obtain ⟨g2, cap2, hv2, hcap2, hg2B, hg2⟩ := ho.form (by simp)
          rw [hv2] at ho ⊢
          clear hv2
          rw [List.length_reverse] at ho hcap2 ⊢
          obtain ⟨m, hm⟩ : ∃ m, r.length = m := ⟨_, rfl⟩
          have hlen : (b2 :: a2 :: r).length = m + 2 := by rw [← hm]; rfl
          rw [hlen] at ho hcap2 ⊢
          have hrl : (m + 2) = (b2 :: a2 :: r).reverse.length := by rw [List.length_reverse, hlen]
          have hca := ho.cells hrl (i := m) (by omega)
          have hcb := ho.cells hrl (i := m + 1) (by omega)
          rw [← hm, (last_two r a2 b2).1] at hca
          rw [← hm, (last_two r a2 b2).2] at hcb
          rw [hm] at hca hcb
          obtain ⟨z, hz⟩ : ∃ z, crs a2 b2 (x, y) = z := ⟨_, rfl⟩
          have HZ := Lib.hid hz
          have HIA := Lib.hid (show inP a2 = true ∧ inP b2 = true from ⟨hin a2 (by simp), hin b2 (by simp)⟩)
          have hm6 : m + 2 ≤ 1000 := by have := HTL.out; omega
          obtain ⟨M, hM⟩ : ∃ M, m + 2 = M := ⟨_, rfl⟩
          obtain ⟨j, hj⟩ : ∃ j, m + 1 = j := ⟨_, rfl⟩
          rw [hM] at ho hcap2 hm6 ⊢
          rw [hj] at hcb
          have HO := Lib.hid ho
          have HM := Lib.hid hM
          have HJ := Lib.hid hj
          have HMM := Lib.hid hm
          have HQW := Lib.hid hqw
          have HPOP := Lib.hid hpop
          have HSL := Lib.hid hsl
          have HCell := Lib.hid (show BoxP wr gb (x, y) from HBQ.out.q HQ2.out)
          have HIN2 := Lib.hid hin
          have q0 := HCell.out.c0
          have q1 := HCell.out.c1
          have hcap3 : j ≤ cap2 := by omega
          have t1 : decide ((2 : Int) ≤ (M : Int)) = true := decide_eq_true (by omega)
          have t1' : decide (2 ≤ M) = true := decide_eq_true (by omega)
          have t2 : IntKind.i64.wrap ((M : Int) - 2) = (m : Int) := by rw [IntWalk.i64_in _ (by omega)]; omega
          have t3 : IntKind.i64.wrap ((M : Int) - 1) = (j : Int) := by rw [IntWalk.i64_in _ (by omega)]; omega
          have t4 : (m : Int) < (M : Int) := by omega
          have t5 : (j : Int) < (M : Int) := by omega
          have t4' : m < M := by omega
          have t5' : j < M := by omega
          have t6 : (0 : Int) ≤ (m : Int) := by omega
          have t7 : (0 : Int) ≤ (j : Int) := by omega
          obtain ⟨ax, ay⟩ := a2
          obtain ⟨bx, bY⟩ := b2
          obtain ⟨⟨a0, a1⟩, b0, b1⟩ := show (wr.cell? ⟨g2, m * 2, none⟩ = some (.int .i64 ax) ∧ wr.cell? ⟨g2, m * 2 + 1, none⟩ = some (.int .i64 ay)) ∧ wr.cell? ⟨g2, j * 2, none⟩ = some (.int .i64 bx) ∧ wr.cell? ⟨g2, j * 2 + 1, none⟩ = some (.int .i64 bY) from ⟨hca, hcb⟩
          dsimp only at q0 q1
          have HSM := Lib.hid (show Hid (Q wr wr.drew) from Lib.hid ((Q.refl wr).drew))
          have hg2w : g2 < wr.heap.size := hg2
          have hgbw : gb < wr.heap.size := HCell.out.lt
          clear hm ho hqw hca hcb hz h2 hlen hrl hcap2 hg2 hin hM hj hpop hsl
          go_wp2_with fail
          go_region_held3 (fun W => Hid (Q wr W) ∧ W.cell? ⟨g2, m * 2, none⟩ = some (.int .i64 ax) ∧ W.cell? ⟨g2, m * 2 + 1, none⟩ = some (.int .i64 ay) ∧ W.cell? ⟨g2, j * 2, none⟩ = some (.int .i64 bx) ∧ W.cell? ⟨g2, j * 2 + 1, none⟩ = some (.int .i64 bY) ∧ W.cell? ⟨gb, 0, none⟩ = some (.int .i64 x) ∧ W.cell? ⟨gb, 1, none⟩ = some (.int .i64 y)) (first | exact ⟨HSM.out, a0, a1, b0, b1, q0, q1⟩ | exact six hg2w hgbw ⟨HSM.out, a0, a1, b0, b1, q0, q1⟩ (by assumption)) (first | (go_at_call 45; refine (cross_c (ax, ay) (bx, bY) (x, y) z HZ HIA.out.1 HIA.out.2 HIN.out _).mono ?_; rintro e w2 ⟨rfl, hq2⟩))
          have HW2 := Lib.hid (show Q wr w2 from HSM.out.out.trans hq2)
          have r0 := HW2.out.cell (p := ⟨gb, 0, none⟩) hgbw
          have r1 := HW2.out.cell (p := ⟨gb, 1, none⟩) hgbw
          have q0' := r0.trans q0
          have q1' := r1.trans q1
          have HO2 := Lib.hid (HO.out.q HW2.out)
          have HQ3 := Lib.hid (HQW.out.trans HW2.out)
          have HQ4 := Lib.hid (HQ2.out.trans HW2.out)
          clear r0 r1 q0 q1 a0 a1 b0 b1 HW2 hq2
          by_cases hz0' : z ≤ 0
          · have HNE := Lib.hid (show InC w.heap.size (x, y) T w (.slice (some ⟨g2, 0, none⟩) j cap2) w2 from ⟨(ax, ay) :: r, by
              have h1 := HO2.out
              rw [List.reverse_cons] at h1
              have h2 := h1.drop
              rw [List.length_reverse, List.length_cons, HMM.out, HJ.out] at h2
              exact h2, by rw [← HPOP.out, pop_on (by rw [HZ.out]; exact hz0')], fun s hs => HIN2.out s (List.mem_cons_of_mem _ hs), Nat.le_trans (by simp) HSL.out, HQ3.out⟩)
            clear HO2
            go_wp2_with fail
            go_roundw
            case rel => exact ⟨HNE, HQ4⟩
            case measure => simp [lenV] <;> omega
          · have HP := Lib.hid (show (bx, bY) :: (ax, ay) :: r = pop (x, y) T by rw [← HPOP.out, pop_stop (by rw [HZ.out]; exact hz0')])
            have hz1' : decide (z ≤ 0) = false := decide_eq_false hz0'
            obtain ⟨W1, hW1⟩ : ∃ W1, w2 = W1 := ⟨_, rfl⟩
            rw [hW1] at HO2 HQ3 q0' q1' ⊢
            have RM := Lib.hid (show Room ((bx, bY) :: (ax, ay) :: r).reverse.length from room_of (by rw [List.length_reverse, List.length_cons, List.length_cons, HMM.out]; have := HM.out; have := HSL.out; have := HTL.out; simp only [List.length_cons, HMM.out] at *; omega))
            have HO1 := Lib.hid (show Own w.heap.size (.slice (some ⟨g2, 0, none⟩) M cap2) ((bx, bY) :: (ax, ay) :: r).reverse W1 from HO2.out)
            have hown1 : W1.ownsRow w.heap.size 38 2 (.slice (some ⟨g2, 0, none⟩) M cap2) ((bx, bY) :: (ax, ay) :: r).reverse.length (cellsL ((bx, bY) :: (ax, ay) :: r).reverse) := HO1.out
            have HB1 := Lib.hid (show w.heap.size ≤ W1.heap.size from Q.sz HQ3.out)
            have HQ1 := Lib.hid (show Q w W1 from HQ3.out)
            clear HO2 hW1
            go_wp2_with (first
              | (at_builtin; refine wpList_append_own _ rfl _ _ 22 rfl w.heap.size 38 i0 (.agg #[.int .i64 0, .int .i64 0]) 2 16 Try.underlying22 hi hz0 hz1 hz2 rfl (by decide) _ _ _ rfl (hown1.alloc _) ⟨W1.heap.size, 0, none⟩ 1 1 [.int .i64 x, .int .i64 y] rfl rfl (pair_at _ _ _ _) (pair_cell _ _) RM.out.1 RM.out.2 (alloc_le HB1.out _) ?_)
              | go_in)
            intro v' w1 hown' hgrow _
            have N := Lib.hid (own_next (s := (x, y)) HO1.out HQ1.out HB1.out (by have e : ((bx, bY) :: (ax, ay) :: r).reverse = r.reverse ++ [(ax, ay), (bx, bY)] := by simp
                                                                                  rw [e]; simpa using hown') hgrow)
            clear hown' hgrow hown1
            go_wp2_with fail
            go_roundw
            case rel => exact ⟨k + 1, by omega, by go_num, by rw [HNX.out, ← HP.out]; exact N.out.1, N.out.2⟩
            case measure => simp [intOf] <;> omega
    · obtain rfl : k = n := by omega
      have HE := Lib.hid (show l.take k = l by rw [List.take_of_length_le (by rw [HN.out]; exact Nat.le_refl _)])
      go_wp2_with fail
      go_ret
      exact ⟨_, rfl, by rw [← HE.out]; exact HI.out.1, HI.out.2⟩
end Go.Proofs.Ytkkghejbdakmpaa
