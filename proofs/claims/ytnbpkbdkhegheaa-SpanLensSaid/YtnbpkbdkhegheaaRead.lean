/- The contracts of the functions that only read: Same, Is, Has and their references, few and small. -/
import Derived.Test.YtnbpkbdkhegheaaAdd
import Derived.Laws.StructEq
set_option linter.unusedVariables false
set_option linter.unusedSimpArgs false
namespace Go.Proofs.Ytnbpkbdkhegheaa
open Go.ChangeShapes Go.WideShapes Go.ChangeAt Go.RowKit Sm

theorem eqS (a b c d : Int) (w : World) : (binOp .eql 23 (.agg #[.int .i64 a, .int .i64 b]) (.agg #[.int .i64 c, .int .i64 d])).run Try.prog w = .ok (.bool (a == c && b == d)) w := by
  have u3 := Try.underlying3
  have a3 := Try.isAgg3
  have z3 := Try.sizeOf3
  have hS : Try.prog.underlying 23 = some (.struct (Try.prog.fieldsOf 23)) := by kernel_rfl
  have hp : Try.prog.stoodInHeld 23 = false := by kernel_rfl
  rw [run_eql_struct, show (10000 : Nat) = 9999 + 1 from rfl, run_equalIn_agg w 9999 23 _ _ hS hp]
  simp only [Program.fieldsOf, Try.underlying23]
  go_simp
  by_cases h1 : a = c <;> by_cases h2 : b = d <;> simp [h1, h2]
theorem eqIn (a b c d : Int) (w : World) : (Op.equalIn 10000 23 (.agg #[.int .i64 a, .int .i64 b]) (.agg #[.int .i64 c, .int .i64 d])).run Try.prog w = .ok (a == c && b == d) w := by
  have u3 := Try.underlying3
  have a3 := Try.isAgg3
  have z3 := Try.sizeOf3
  have hS : Try.prog.underlying 23 = some (.struct (Try.prog.fieldsOf 23)) := by kernel_rfl
  have hp : Try.prog.stoodInHeld 23 = false := by kernel_rfl
  rw [show (10000 : Nat) = 9999 + 1 from rfl, run_equalIn_agg w 9999 23 _ _ hS hp]
  simp only [Program.fieldsOf, Try.underlying23]
  go_simp
  by_cases h1 : a = c <;> by_cases h2 : b = d <;> simp [h1, h2]
theorem eqGd : Try.prog.eqGuardType Try.prog.depth 23 = false := by kernel_rfl
theorem sameList {X Y : List S} (h : X.length = Y.length) : (∀ i, i < X.length → X[i]? = Y[i]?) → X = Y := fun g => List.ext_getElem? fun i => by
  by_cases hi : i < X.length
  · exact g i hi
  · rw [List.getElem?_eq_none (by omega), List.getElem?_eq_none (by omega)]
set_option maxRecDepth 100000 in
set_option maxHeartbeats 1600000 in
theorem Same_c (v v1 : Value) (X Y : List S) (w : World) (ha : Rd w v X) (hb : Rd w v1 Y) (hX : X.length ≤ 1000000) : Calls Try.prog 17 #[v, v1] w fun e w' => e = .returned (.bool (decide (X = Y))) ∧ Q w w' := by
  have HA := Lib.hid ha
  have HB := Lib.hid hb
  have HX6 := Lib.hid hX
  obtain ⟨A, c, rfl, hc, _⟩ := ha
  obtain ⟨A1, c1, rfl, hc1, _⟩ := hb
  obtain ⟨n, hn⟩ : ∃ n, X.length = n := ⟨_, rfl⟩
  obtain ⟨m, hm⟩ : ∃ n, Y.length = n := ⟨_, rfl⟩
  have HN := Lib.hid hn
  have HM := Lib.hid hm
  rw [hn, hm]
  by_cases h : n = m
  · subst h
    have hn6 : n ≤ 1000000 := by omega
    have t1 : ((n : Int) != (n : Int)) = false := by simp
    clear hc hc1 hn hm hX
    go_enter Try.func17, Try.ntmps17
    go_wp2_with fail
    go_loopw [5] (fun u5 wr => ∃ k : Nat, k ≤ n ∧ u5 = .int .i64 k ∧ Hid ((∀ i, i < k → X[i]? = Y[i]?) ∧ Q w wr)) (fun u5 _ => n - (intOf u5).toNat)
    case atStart => exact ⟨0, Nat.zero_le _, rfl, fun i hi => by omega, Q.refl _⟩
    case round =>
      obtain ⟨k, hk, rfl, HI⟩ := hrel
      by_cases hlt : k < n
      · have hkx : k < X.length := by rw [HN.out]; exact hlt
        have hky : k < Y.length := by rw [HM.out]; exact hlt
        obtain ⟨b, off, c', hv', hc', hb', hx0, hx1⟩ := HA.out.cons (i := k) hkx
        obtain ⟨b2, off2, c2', hv2', hc2', hb2', hy0, hy1⟩ := HB.out.cons (i := k) hky
        obtain ⟨rfl, _, rfl⟩ : A = some ⟨b, off, none⟩ ∧ X.length = X.length ∧ c = c' := by injection hv' with e1 e2 e3; exact ⟨e1, e2, e3⟩
        obtain ⟨rfl, _, rfl⟩ : A1 = some ⟨b2, off2, none⟩ ∧ Y.length = Y.length ∧ c1 = c2' := by injection hv2' with e1 e2 e3; exact ⟨e1, e2, e3⟩
        have hq := HI.out.2
        have hp0 := (hq.cell (p := ⟨b, off + k * 2, none⟩) hb').trans hx0
        have hp1 := (hq.cell (p := ⟨b, off + k * 2 + 1, none⟩) hb').trans hx1
        have hp2 := (hq.cell (p := ⟨b2, off2 + k * 2, none⟩) hb2').trans hy0
        have hp3 := (hq.cell (p := ⟨b2, off2 + k * 2 + 1, none⟩) hb2').trans hy1
        obtain ⟨x, hx⟩ : ∃ x, X[k] = x := ⟨_, rfl⟩
        obtain ⟨y, hy⟩ : ∃ y, Y[k] = y := ⟨_, rfl⟩
        rw [hx] at hp0 hp1
        rw [hy] at hp2 hp3
        have HXY := Lib.hid (show X[k]? = some x ∧ Y[k]? = some y by rw [List.getElem?_eq_getElem hkx, List.getElem?_eq_getElem hky, hx, hy]; exact ⟨rfl, rfl⟩)
        obtain ⟨xa, xb⟩ := x
        obtain ⟨ya, yb⟩ := y
        dsimp only at hp0 hp1 hp2 hp3
        have hgd := eqGd
        by_cases hxy : xa = ya ∧ xb = yb
        · have heq : ∀ w, (Op.equalIn 10000 23 (.agg #[.int .i64 xa, .int .i64 xb]) (.agg #[.int .i64 ya, .int .i64 yb])).run Try.prog w = .ok true w := fun w => by rw [eqIn, hxy.1, hxy.2]; simp
          have HNX := Lib.hid (show ∀ i, i < k + 1 → X[i]? = Y[i]? from fun i hi => by
            by_cases e : i = k
            · subst e; rw [HXY.out.1, HXY.out.2, hxy.1, hxy.2]
            · exact HI.out.1 i (by omega))
          clear hx0 hx1 hy0 hy1 hv' hv2' hc' hc2' hx hy hq hkx hky hxy
          go_wp2_with fail
          go_quiet (fail)
          go_wp2_with fail
          go_roundw
          case rel => exact ⟨k + 1, by omega, by go_num, HNX.out, HI.out.2.drewN _⟩
          case measure => simp [intOf] <;> omega
        · have heq : ∀ w, (Op.equalIn 10000 23 (.agg #[.int .i64 xa, .int .i64 xb]) (.agg #[.int .i64 ya, .int .i64 yb])).run Try.prog w = .ok false w := fun w => by
            rw [eqIn]
            have : (xa == ya && xb == yb) = false := by
              rw [Bool.eq_false_iff]; intro g; rw [Bool.and_eq_true, beq_iff_eq, beq_iff_eq] at g; exact hxy g
            rw [this]
          have HE := Lib.hid (show decide (X = Y) = false from decide_eq_false fun e => hxy (by
            have h1 := HXY.out.1; rw [e, HXY.out.2] at h1; injection h1 with h1; injection h1 with h1 h2; exact ⟨h1.symm, h2.symm⟩))
          clear hx0 hx1 hy0 hy1 hv' hv2' hc' hc2' hx hy hq hkx hky hxy
          go_wp2_with fail
          go_quiet (fail)
          go_wp2_with fail
          go_ret
          exact ⟨ret_bool HE.out.symm, HI.out.2.drewN _⟩
      · obtain rfl : k = n := by omega
        have HE := Lib.hid (show decide (X = Y) = true from decide_eq_true (sameList (by rw [HN.out, HM.out]) fun i hi => HI.out.1 i (by rw [HN.out] at hi; exact hi)))
        go_wp2_with fail
        go_ret
        exact ⟨ret_bool HE.out.symm, HI.out.2⟩
  · have t1 : ((n : Int) != (m : Int)) = true := by rw [bne_iff_ne]; omega
    have HE := Lib.hid (show decide (X = Y) = false from decide_eq_false fun e => h (by rw [← hn, ← hm, e]))
    clear hc hc1 hn hm hX h
    go_enter Try.func17, Try.ntmps17
    go_wp2_with fail
    go_ret
    exact ⟨ret_bool HE.out.symm, Q.refl _⟩
theorem Same_is (v v1 : Value) (X Y : List S) (b : Bool) (w : World) (ha : Rd w v X) (hb : Rd w v1 Y) (hX : X.length ≤ 1000000) (h : Hid (decide (X = Y) = b)) : Calls Try.prog 17 #[v, v1] w fun e w' => e = .returned (.bool b) ∧ Q w w' :=
  (Same_c v v1 X Y w ha hb hX).mono fun _ _ ⟨h1, h2⟩ => ⟨by rw [h1, h.out], h2⟩

/-! Is -/
def goodI (l : List S) (i : Nat) : Prop := ∀ s, l[i]? = some s → s.1 < s.2 ∧ ∀ t, 0 < i → l[i - 1]? = some t → t.2 < s.1
theorem can_good {l : List S} (h : can l) (i : Nat) : goodI l i := fun s hs => by
  obtain ⟨hi, e⟩ := List.getElem?_eq_some_iff.1 hs
  refine ⟨h.1 s (by rw [← e]; exact List.getElem_mem hi), fun t h0 ht => ?_⟩
  obtain ⟨hj, e2⟩ := List.getElem?_eq_some_iff.1 ht
  rw [← e, ← e2]
  exact (List.pairwise_iff_getElem.1 h.2) (i - 1) i hj hi (by omega)
theorem good_can {l : List S} (h : ∀ i, i < l.length → goodI l i) : can l := by
  have ne : ∀ i (hi : i < l.length), l[i].1 < l[i].2 := fun i hi => (h i hi _ (List.getElem?_eq_getElem hi)).1
  refine ⟨fun s hs => ?_, ?_⟩
  · obtain ⟨i, hi, e⟩ := List.getElem_of_mem hs
    rw [← e]; exact ne i hi
  · rw [List.pairwise_iff_getElem]
    have step : ∀ d i (hi : i < l.length) (hj : i + d + 1 < l.length), l[i].2 < l[i + d + 1].1 := by
      intro d
      induction d with
      | zero => intro i hi hj; exact (h (i + 1) hj _ (List.getElem?_eq_getElem hj)).2 _ (by omega) (by rw [Nat.add_sub_cancel]; exact List.getElem?_eq_getElem hi)
      | succ d ih =>
        intro i hi hj
        have h1 := ih i hi (by omega)
        have h2 := ne (i + d + 1) (by omega)
        have h3 := (h (i + d + 1 + 1) hj _ (List.getElem?_eq_getElem hj)).2 l[i + d + 1] (by omega) (by rw [Nat.add_sub_cancel]; exact List.getElem?_eq_getElem (by omega))
        show l[i].2 < l[i + d + 1 + 1].1
        exact Int.lt_trans (Int.lt_trans h1 h2) h3
    intro i j hi hj hij
    have := step (j - i - 1) i hi (by omega)
    simp only [show i + (j - i - 1) + 1 = j by omega] at this
    exact this
open Classical in
noncomputable def isL (l : List S) : Bool := decide (can l)
open Classical in
theorem isL_yes {l : List S} (h : can l) : isL l = true := by unfold isL; exact decide_eq_true h
open Classical in
theorem isL_no {l : List S} (h : ¬ can l) : isL l = false := by unfold isL; exact decide_eq_false h
set_option maxRecDepth 100000 in
set_option maxHeartbeats 1600000 in
theorem rIs_c (v : Value) (l : List S) (w : World) (hr : Rd w v l) (hl : l.length ≤ 1000000) : Calls Try.prog 21 #[v] w fun e w' => e = .returned (.bool (isL l)) ∧ Q w w' := by
  have HR := Lib.hid hr
  obtain ⟨A, c, rfl, hc, _⟩ := hr
  obtain ⟨n, hn⟩ : ∃ n, l.length = n := ⟨_, rfl⟩
  have HN := Lib.hid hn
  rw [hn]
  have hn6 : n ≤ 1000000 := by omega
  clear hc hn hl
  go_enter Try.func21, Try.ntmps21
  go_wp2_with fail
  go_loopw [3] (fun u3 wr => ∃ k : Nat, k ≤ n ∧ u3 = .int .i64 k ∧ Hid ((∀ i, i < k → goodI l i) ∧ Q w wr)) (fun u3 _ => n - (intOf u3).toNat)
  case atStart => exact ⟨0, Nat.zero_le _, rfl, fun i hi => by omega, Q.refl _⟩
  case round =>
    obtain ⟨k, hk, rfl, HI⟩ := hrel
    by_cases hlt : k < n
    · have hkl : k < l.length := by rw [HN.out]; exact hlt
      obtain ⟨b, off, c', hv', hc', hb', hx0, hx1⟩ := HR.out.cons (i := k) hkl
      obtain ⟨rfl, _, rfl⟩ : A = some ⟨b, off, none⟩ ∧ l.length = l.length ∧ c = c' := by injection hv' with e1 e2 e3; exact ⟨e1, e2, e3⟩
      have hq := HI.out.2
      have hp0 := (hq.cell (p := ⟨b, off + k * 2, none⟩) hb').trans hx0
      have hp1 := (hq.cell (p := ⟨b, off + k * 2 + 1, none⟩) hb').trans hx1
      obtain ⟨s, hs⟩ : ∃ s, l[k] = s := ⟨_, rfl⟩
      rw [hs] at hp0 hp1
      have HS := Lib.hid (show l[k]? = some s by rw [List.getElem?_eq_getElem hkl, hs])
      by_cases hne : s.1 < s.2
      · have hne' : decide (s.2 ≤ s.1) = false := decide_eq_false (by omega)
        by_cases hk0 : k = 0
        · subst hk0
          have HG := Lib.hid (show ∀ i, i < 0 + 1 → goodI l i from fun i hi => by
            obtain rfl : i = 0 := by omega
            intro t ht; rw [HS.out] at ht; injection ht with ht; subst ht; exact ⟨hne, fun _ h0 => by omega⟩)
          rw [Nat.zero_mul, Nat.add_zero] at hp0 hp1
          have hn0 : (0 : Int) < (n : Int) := by omega
          have hz0 : decide ((0 : Int) < 0) = false := rfl
          clear hx0 hx1 hv' hc' hs hq hkl
          go_wp2_with fail
          go_quiet (fail)
          go_wp2_with fail
          go_roundw
          case rel => exact ⟨1, by omega, rfl, HG.out, HI.out.2.drewN _⟩
          case measure => simp [intOf] <;> omega
        · obtain ⟨j, hj⟩ : ∃ j, k = j + 1 := ⟨k - 1, by omega⟩
          subst hj
          have hjl : j < l.length := by omega
          obtain ⟨b2, off2, c2, hv2, _, hb2, hy0, hy1⟩ := HR.out.cons (i := j) hjl
          obtain ⟨e1, e2⟩ : b = b2 ∧ off = off2 := by injection hv2 with e1; injection e1 with e1; injection e1 with e1 e2; exact ⟨e1, e2⟩
          subst e1 e2
          have hp3 := (hq.cell (p := ⟨b, off + j * 2 + 1, none⟩) hb').trans hy1
          obtain ⟨t, ht⟩ : ∃ t, l[j] = t := ⟨_, rfl⟩
          rw [ht] at hp3
          have HT := Lib.hid (show l[j]? = some t by rw [List.getElem?_eq_getElem hjl, ht])
          have e3 : ((j + 1 : Nat) : Int) - 1 = (j : Int) := by omega
          have e4 : IntKind.i64.wrap (((j + 1 : Nat) : Int) - 1) = (j : Int) := by rw [e3]; exact IntWalk.i64_in _ (by omega)
          have e4b : IntKind.i64.wrap ((j : Int) + 1 - 1) = (j : Int) := by rw [show (j : Int) + 1 - 1 = j by omega]; exact IntWalk.i64_in _ (by omega)
          have e5 : (0 : Int) < ((j + 1 : Nat) : Int) := by omega
          have e6 : (j : Int) < (n : Int) := by omega
          by_cases hgap : t.2 < s.1
          · have hgap' : decide (s.1 ≤ t.2) = false := decide_eq_false (by omega)
            have HG := Lib.hid (show ∀ i, i < j + 1 + 1 → goodI l i from fun i hi => by
              by_cases e : i = j + 1
              · subst e
                intro s' hs'; rw [HS.out] at hs'; injection hs' with hs'; subst hs'
                exact ⟨hne, fun t' _ ht' => by rw [Nat.add_sub_cancel, HT.out] at ht'; injection ht' with ht'; subst ht'; exact hgap⟩
              · exact HI.out.1 i (by omega))
            clear hx0 hx1 hy0 hy1 hv' hv2 hc' hs hq hkl hjl ht
            go_wp2_with fail
            go_quiet (fail)
            go_wp2_with fail
            go_roundw
            case rel => exact ⟨j + 1 + 1, by omega, by go_num, HG.out, HI.out.2.drewN _⟩
            case measure => simp [intOf] <;> omega
          · have HE := Lib.hid (isL_no (l := l) fun h => hgap (((can_good h (j + 1)) s HS.out).2 t (by omega) (by rw [Nat.add_sub_cancel]; exact HT.out)))
            have hgap2 : s.1 ≤ t.2 := by omega
            clear hx0 hx1 hy0 hy1 hv' hv2 hc' hs hq hkl hjl ht
            go_wp2_with fail
            go_quiet (fail)
            go_wp2_with fail
            go_ret
            exact ⟨ret_bool HE.out.symm, HI.out.2.drewN _⟩
      · have HE := Lib.hid (isL_no (l := l) fun h => hne ((can_good h k) s HS.out).1)
        have hne2 : s.2 ≤ s.1 := by omega
        clear hx0 hx1 hv' hc' hs hq hkl
        go_wp2_with fail
        go_quiet (fail)
        go_wp2_with fail
        go_ret
        exact ⟨ret_bool HE.out.symm, HI.out.2.drewN _⟩
    · obtain rfl : k = n := by omega
      have HE := Lib.hid (isL_yes (good_can (l := l) fun i hi => HI.out.1 i (by rw [HN.out] at hi; exact hi)))
      go_wp2_with fail
      go_ret
      exact ⟨ret_bool HE.out.symm, HI.out.2⟩
end Go.Proofs.Ytnbpkbdkhegheaa
