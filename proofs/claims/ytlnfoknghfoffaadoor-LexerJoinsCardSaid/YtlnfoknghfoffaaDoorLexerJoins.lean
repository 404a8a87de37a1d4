/- For every two strings the law LexerJoins returns true: the lexemes of two texts with a line feed between them are those of both (asked for at most 3000 bytes each), and the examples hold. The row's list gives the error variable. -/
import Derived.Test.YtlnfoknghfoffaaDoorLaid
import Derived.Test.YtlnfoknghfoffaaDoorTexts
set_option linter.unusedVariables false
set_option linter.unusedSimpArgs false
namespace Go.Proofs.YtlnfoknghfoffaaDoor
open Go.ChangeShapes Go.WideShapes Go.ChangeAt Go.RowKit Lm

theorem bt_left (a b : ByteArray) (i : Nat) (h : i < a.size) : bt (a ++ b) i = bt a i := by
  unfold bt
  rw [List.getD_eq_getElem?_getD, List.getD_eq_getElem?_getD, ByteArray.data_append, Array.toList_append, List.getElem?_append_left (by simpa using h)]
theorem bt_right (a b : ByteArray) (i : Nat) : bt (a ++ b) (a.size + i) = bt b i := by
  unfold bt
  have e : a.size = a.data.toList.length := by simp
  rw [List.getD_eq_getElem?_getD, List.getD_eq_getElem?_getD, ByteArray.data_append, Array.toList_append, e, List.getElem?_append_right (by omega), Nat.add_sub_cancel_left]
def lf : ByteArray := ⟨#[10]⟩
theorem lf_size : lf.size = 1 := rfl
theorem app_size (a b : ByteArray) : (a ++ b).size = a.size + b.size := ByteArray.size_append
theorem join_all {s t : ByteArray} (hs : s.size ≤ 3000) (ht : t.size ≤ 3000) {a b : List LT} {e f p q : Nat} (h1 : scan s = (a, e, p)) (h2 : scan t = (b, f, q)) :
    (s ++ lf ++ t).size = s.size + 1 + t.size ∧ (e ≠ 0 → a = [] ∧ scan (s ++ lf ++ t) = ([], e, p)) ∧ (e = 0 → f ≠ 0 → b = [] ∧ scan (s ++ lf ++ t) = ([], f, q + s.size + 1)) ∧ (e = 0 → f = 0 → scan (s ++ lf ++ t) = (a.dropLast ++ b.map (shf (s.size + 1)), 0, 0) ∧ 0 < a.length ∧ a.length ≤ 3001 ∧ 0 < b.length ∧ b.length ≤ 3001) := by
  have hz : (s ++ lf ++ t).size = s.size + 1 + t.size := by rw [app_size, app_size, lf_size]
  have hsl : (s ++ lf).size = s.size + 1 := by rw [app_size, lf_size]
  obtain ⟨g1, g2, g3⟩ := scan_join hz (by omega) (fun i hi => by rw [bt_left _ _ _ (by omega), bt_left _ _ _ hi]) (by rw [bt_left _ _ _ (by omega)]; have := bt_right s lf 0; rw [Nat.add_zero] at this; rw [this]; rfl) (fun i hi => by rw [← hsl]; exact bt_right _ _ _) h1 h2
  refine ⟨hz, fun h => ⟨(scan_err (by omega) h1 h).1, g1 h⟩, fun h k => ⟨(scan_err (by omega) h2 k).1, g2 h k⟩, fun h k => ⟨g3 h k, ?_⟩⟩
  subst h k
  have x1 := List.length_pos_iff.2 (scan_ok (by omega) h1).2.1
  have x2 := List.length_pos_iff.2 (scan_ok (by omega) h2).2.1
  have x3 := (scan_again hs h1).2.1
  have x4 := (scan_again ht h2).2.1
  exact ⟨x1, x3, x2, x4⟩
theorem all_first {a b : List LT} {k : Nat} (q : Nat) (h : k < a.length - 1) : ∃ (h1 : k < a.length) (h2 : k < (a.dropLast ++ b.map (shf q)).length), (a.dropLast ++ b.map (shf q))[k] = a[k] := by
  refine ⟨by omega, by rw [List.length_append, List.length_dropLast]; omega, ?_⟩
  rw [List.getElem_append_left (by rw [List.length_dropLast]; exact h), List.getElem_dropLast]
theorem all_rest {a b : List LT} {k : Nat} (q : Nat) (h : a.length - 1 ≤ k) (h2 : k < (a.dropLast ++ b.map (shf q)).length) : ∃ (h1 : k - (a.length - 1) < b.length), (a.dropLast ++ b.map (shf q))[k] = shf q (b[k - (a.length - 1)]) := by
  rw [List.length_append, List.length_dropLast, List.length_map] at h2
  refine ⟨by omega, ?_⟩
  rw [List.getElem_append_right (by rw [List.length_dropLast]; exact h), List.getElem_map]
  congr 2
  rw [List.length_dropLast]
theorem off_all {s : ByteArray} : ∀ (l : List LT) (p : Nat), offP s p l → ∀ x ∈ l, 0 ≤ x.a ∧ x.a ≤ s.size
  | [], p, _ => fun x hx => (by simp at hx)
  | y :: l, p, h => fun x hx => by
    obtain ⟨k, n, a, h1, h2, h3, h4, h5, h6, h7, h8, h9, h10⟩ := h
    rcases List.mem_cons.1 hx with rfl | hx
    · omega
    · exact off_all l _ h10 x hx
theorem ge_of {x na k : Nat} (h : x = na + 1) (h2 : ¬ k < na) : x - 1 ≤ k := by omega
theorem lt_of {x na k : Nat} (h : x = na + 1) (h2 : k < na) : k < x - 1 := by omega
theorem rk_of {x na k r : Nat} (h : x = na + 1) (h2 : ¬ k < na) (h3 : k - (x - 1) = r) : r + na = k := by omega
def J1 (a : List LT) (b : List LT) (q : Nat) : List LT := a.dropLast ++ b.map (shf q)
set_option maxRecDepth 100000 in
set_option maxHeartbeats 3200000 in
theorem joins_walk (s t : ByteArray) (w : World) (hs : s.size ≤ maxLen) (ht : t.size ≤ maxLen) (hL : Laid w) : Calls Tryd.prog 8 #[.string s, .string t] w fun e w' => e = .returned (.bool true) ∧ Below w.heap.size w w' := by
  unfold maxLen at hs ht
  have HL := Lib.hid hL
  clear hL
  by_cases h1 : 3000 < s.size
  · have i1 : 3000 < (s.size : Int) := by omega
    go_enter Tryd.func8, Tryd.ntmps8
    go_wp2_with fail
    refine (awake_c _ HL.out).mono ?_; rintro E w1 ⟨rfl, hq1⟩
    go_wp2_with fail
    go_ret
    exact ⟨rfl, hq1⟩
  · have i1 : ¬ 3000 < (s.size : Int) := by omega
    by_cases h2 : 3000 < t.size
    · have i2 : 3000 < (t.size : Int) := by omega
      go_enter Tryd.func8, Tryd.ntmps8
      go_wp2_with fail
      refine (awake_c _ HL.out).mono ?_; rintro E w1 ⟨rfl, hq1⟩
      go_wp2_with fail
      go_ret
      exact ⟨rfl, hq1⟩
    · have i2 : ¬ 3000 < (t.size : Int) := by omega
      obtain ⟨a, e, p, hr⟩ : ∃ l e p, scan s = (l, e, p) := ⟨_, _, _, rfl⟩
      obtain ⟨b, f, q, hr2⟩ : ∃ l e p, scan t = (l, e, p) := ⟨_, _, _, rfl⟩
      obtain ⟨hz, g1, g2, g3⟩ := join_all (by omega) (by omega) hr hr2
      have HA := Lib.hid (fun w h => sc_is s a e p hr (by omega) w h)
      have HB := Lib.hid (fun w h => sc_is t b f q hr2 (by omega) w h)
      have i3 : (s ++ lf).size = s.size + 1 := by rw [app_size, lf_size]
      have i4 : ¬ 9223372036854775807 < (s ++ lf).size := by omega
      have i5 : ¬ 9223372036854775807 < (s ++ lf ++ t).size := by omega
      unfold lf at i3 i4 i5
      by_cases he : e = 0
      · subst he
        by_cases hf : f = 0
        · subst hf
          obtain ⟨h3, a0, a1, b0, b1⟩ := g3 rfl rfl
          have HC := Lib.hid (show ∀ w, Laid w → Calls Tryd.prog 11 #[.string (s ++ ⟨#[10]⟩ ++ t)] w (S1Post (J1 a b (s.size + 1)) 0 0 w) from fun w h => sc_is _ _ 0 0 h3 (by omega) w h)
          have hlen : (J1 a b (s.size + 1)).length = a.length - 1 + b.length := by unfold J1; rw [List.length_append, List.length_dropLast, List.length_map]
          have HO := Lib.hid (off_all b 0 (scan_off (by omega) hr2))
          have HF := Lib.hid (fun k h => all_first (a := a) (b := b) (k := k) (s.size + 1) h)
          have HR := Lib.hid (fun k h => all_rest (a := a) (b := b) (k := k) (s.size + 1) h)
          clear hr hr2 g1 g2 g3 h3 hz
          obtain ⟨na, hna⟩ : ∃ n, a.length = n + 1 := ⟨a.length - 1, by omega⟩
          obtain ⟨nb, hnb⟩ : ∃ n, b.length = n := ⟨_, rfl⟩
          obtain ⟨nj, hnj⟩ : ∃ n, (J1 a b (s.size + 1)).length = n := ⟨_, rfl⟩
          have HNA := Lib.hid hna
          have HNB := Lib.hid hnb
          have HNJ := Lib.hid hnj
          have j1 : (nj : Int) = (na : Int) + (nb : Int) := by omega
          have j2 : (na : Int) ≤ 3000 := by omega
          have j3 : (nb : Int) ≤ 3001 := by omega
          have j4 : 0 < (nb : Int) := by omega
          go_enter Tryd.func8, Tryd.ntmps8
          go_wp2_with fail
          refine (HA.out _ HL.out).mono ?_; rintro E w1 ⟨v1, rfl, hr1, hq1⟩
          have R1 := Lib.hid hr1
          have L1 := Lib.hid (HL.out.stays hq1)
          have Q1 := Lib.hid hq1
          obtain ⟨A1, c1, rfl, hc1, _⟩ := hr1
          clear hq1
          go_wp2_with fail
          refine (HB.out _ L1.out).mono ?_; rintro E w2 ⟨v2, rfl, hr2, hq2⟩
          have R2 := Lib.hid hr2
          have R12 := Lib.hid (R1.out.q hq2)
          have L2 := Lib.hid (L1.out.stays hq2)
          have Q2 := Lib.hid (Q1.out.trans hq2)
          obtain ⟨A2, c2, rfl, hc2, _⟩ := hr2
          clear hq2
          go_wp2_with fail
          refine (HC.out _ L2.out).mono ?_; rintro E w3 ⟨v3, rfl, hr3, hq3⟩
          have R3 := Lib.hid hr3
          have R13 := Lib.hid (R12.out.q hq3)
          have R23 := Lib.hid (R2.out.q hq3)
          have L3 := Lib.hid (L2.out.stays hq3)
          have Q3 := Lib.hid (Q2.out.trans hq3)
          obtain ⟨A3, c3, rfl, hc3, _⟩ := hr3
          clear hq3
          rw [hna] at R13 hc1
          rw [hnb] at R23 hc2
          rw [hnj] at R3 hc3 ⊢
          have k1 : ((na + 1 : Nat) : Int) = (na : Int) + 1 := by omega
          have k2 : ((na : Int) + 1 == 0) = false := by simp; omega
          clear hna hnb hnj hlen a0 a1 b0 b1 R1 R12 R2
          go_wp2_with fail
          go_loopw [14] (fun v14 wr => ∃ k : Nat, k ≤ nj ∧ v14 = .int .i64 k ∧ Hid (Q w3 wr)) (fun v14 _ => nj - (intOf v14).toNat)
          case atStart => exact ⟨0, by omega, rfl, Q.refl _⟩
          case round =>
            obtain ⟨k, hk, rfl, HI⟩ := hrel
            by_cases hlt : k < nj
            · have hkj : k < (J1 a b (s.size + 1)).length := by rw [HNJ.out]; exact hlt
              obtain ⟨rb, ro, rfl, hrb, hlc, hnl, c0, c1', c2', c3'⟩ := R3.out.at HI.out hkj
              by_cases hka : k < na
              · obtain ⟨hk1, hk2, hk3⟩ := HF.out k (lt_of HNA.out hka)
                obtain ⟨rb', ro', rfl, hrb', hlc', hnl', d0, d1, d2, d3⟩ := R13.out.at HI.out hk1
                rw [show (J1 a b (s.size + 1))[k] = a[k] from hk3] at c0 c1' c2' c3'
                obtain ⟨x, hx⟩ : ∃ x, a[k] = x := ⟨_, rfl⟩
                rw [hx] at c0 c1' c2' c3' d0 d1 d2 d3
                obtain ⟨xk, xt, xn, xa⟩ := x
                simp only at c0 c1' c2' c3' d0 d1 d2 d3
                have e4 : (xt.toList == xt.toList) = true := by simp
                have i1 : (0 : Int) ≤ (k : Int) := by omega
                have i2 : (k : Int) < (nj : Int) := by omega
                have i6 : (k : Int) < (na : Int) := by omega
                have i7 : (k : Int) < (na : Int) + 1 := by omega
                clear hx hlc hnl hlc' hnl' hk3
                go_wp2_with fail
                go_quiet (fail)
                go_wp2_with fail
                go_roundw
                case rel => exact ⟨k + 1, by omega, by go_num, HI.out.drewN _⟩
                case measure => simp [intOf] <;> omega
              · obtain ⟨r, hr⟩ : ∃ r, k - (a.length - 1) = r := ⟨_, rfl⟩
                obtain ⟨hk1, hk3⟩ := HR.out k (ge_of HNA.out hka) hkj
                obtain ⟨rb', ro', rfl, hrb', hlc', hnl', d0, d1, d2, d3⟩ := R23.out.at HI.out hk1
                rw [show (J1 a b (s.size + 1))[k] = shf (s.size + 1) (b[k - (a.length - 1)]) from hk3] at c0 c1' c2' c3'
                obtain ⟨ha1, ha2⟩ := HO.out _ (List.getElem_mem hk1)
                obtain ⟨x, hx⟩ : ∃ x, b[k - (a.length - 1)] = x := ⟨_, rfl⟩
                rw [hx] at c0 c1' c2' c3' d0 d1 d2 d3 ha1 ha2
                rw [hr] at d0 d1 d2 d3
                obtain ⟨xk, xt, xn, xa⟩ := x
                simp only [shf] at c0 c1' c2' c3' d0 d1 d2 d3 ha1 ha2
                obtain ⟨y, hy⟩ : ∃ y : Int, xa + (s.size : Int) = y := ⟨_, rfl⟩
                obtain ⟨z, hz⟩ : ∃ z : Int, y + 1 = z := ⟨_, rfl⟩
                rw [show xa + ((s.size + 1 : Nat) : Int) = z by omega] at c3'
                obtain ⟨d, hd⟩ : ∃ d : Int, (k : Int) - ((na : Int) + 1) = d := ⟨_, rfl⟩
                have hrk : r + na = k := rk_of HNA.out hka hr
                have hd2 : d + 1 = (r : Int) := by omega
                have hrb2 : r < nb := by have := HNB.out; omega
                have e4 : (xt.toList == xt.toList) = true := by simp
                have i1 : (0 : Int) ≤ (k : Int) := by omega
                have i2 : (k : Int) < (nj : Int) := by omega
                have i6 : ¬ (k : Int) < (na : Int) := by omega
                have i7 : (0 : Int) ≤ (r : Int) := by omega
                have i8 : (r : Int) < (nb : Int) := by omega
                have i9 : -1 ≤ d := by omega
                have i10 : d ≤ 3001 := by omega
                have i11 : 0 ≤ y := by omega
                have i12 : y ≤ 6000 := by omega
                have hsz := HI.out.size
                have j8 : rb' < wr.heap.size := by omega
                have j9 : rb < wr.heap.size := by omega
                clear hx hlc hnl hlc' hnl' hk3 hr ha1 ha2 hk1
                go_wp2_with fail
                go_quiet (fail)
                go_wp2_with fail
                go_roundw
                case rel => exact ⟨k + 1, by omega, by go_num, (HI.out.alloc _).drewN _⟩
                case measure => simp [intOf] <;> omega
            · obtain rfl : k = nj := by omega
              have Q2 := Lib.hid (Q3.out.trans HI.out)
              have L2' := Lib.hid (L3.out.stays HI.out)
              clear HI
              go_wp2_with fail
              refine (awake_c _ L2'.out).mono ?_; rintro E w4 ⟨rfl, hq4⟩
              go_wp2_with fail
              go_ret
              exact ⟨rfl, Q2.out.trans hq4⟩
        · obtain ⟨rfl, h3⟩ := g2 rfl hf
          have HC := Lib.hid (show ∀ w, Laid w → Calls Tryd.prog 11 #[.string (s ++ ⟨#[10]⟩ ++ t)] w (S1Post [] f (q + s.size + 1) w) from fun w h => sc_is _ _ _ _ h3 (by omega) w h)
          have t1 : ((f : Int) == 0) = false := by simp; omega
          have t2 : ((f : Int) != 0) = true := by simp; omega
          have t3 : ((f : Int) == (f : Int)) = true := by simp
          have hq : q < t.size := (scan_err (by omega) hr2 hf).2.1
          have j1 : (q : Int) ≤ 3000 := by omega
          have t4 : ((q + s.size + 1 : Nat) : Int) = (q : Int) + (s.size : Int) + 1 := by omega
          have t5 : (((q + s.size + 1 : Nat) : Int) == (q : Int) + (s.size : Int) + 1) = true := by rw [t4]; simp
          clear hr hr2 g1 g2 g3 h3 hz hq
          go_enter Tryd.func8, Tryd.ntmps8
          go_wp2_with fail
          refine (HA.out _ HL.out).mono ?_; rintro E w1 ⟨v1, rfl, hr1, hq1⟩
          have L1 := Lib.hid (HL.out.stays hq1)
          have Q1 := Lib.hid hq1
          obtain ⟨A1, c1, rfl, hc1, _⟩ := hr1
          clear hq1 hc1
          go_wp2_with fail
          refine (HB.out _ L1.out).mono ?_; rintro E w2 ⟨v2, rfl, hr2, hq2⟩
          have L2 := Lib.hid (L1.out.stays hq2)
          have Q2 := Lib.hid (Q1.out.trans hq2)
          obtain ⟨A2, c2, rfl, hc2, _⟩ := hr2
          clear hq2 hc2
          go_wp2_with fail
          refine (HC.out _ L2.out).mono ?_; rintro E w3 ⟨v3, rfl, hr3, hq3⟩
          have L3 := Lib.hid (L2.out.stays hq3)
          have Q3 := Lib.hid (Q2.out.trans hq3)
          obtain ⟨A3, c3, rfl, hc3, _⟩ := hr3
          clear hq3 hc3
          go_wp2_with fail
          refine (awake_c _ L3.out).mono ?_; rintro E w4 ⟨rfl, hq4⟩
          go_wp2_with fail
          go_ret
          exact ⟨rfl, Q3.out.trans hq4⟩
      · obtain ⟨rfl, h3⟩ := g1 he
        have HC := Lib.hid (show ∀ w, Laid w → Calls Tryd.prog 11 #[.string (s ++ ⟨#[10]⟩ ++ t)] w (S1Post [] e p w) from fun w h => sc_is _ _ _ _ h3 (by omega) w h)
        have t1 : ((e : Int) == 0) = false := by simp; omega
        have t2 : ((e : Int) != 0) = true := by simp; omega
        have t3 : ((e : Int) == (e : Int)) = true := by simp
        have t5 : ((p : Int) == (p : Int)) = true := by simp
        clear hr hr2 g1 g2 g3 h3 hz
        go_enter Tryd.func8, Tryd.ntmps8
        go_wp2_with fail
        refine (HA.out _ HL.out).mono ?_; rintro E w1 ⟨v1, rfl, hr1, hq1⟩
        have L1 := Lib.hid (HL.out.stays hq1)
        have Q1 := Lib.hid hq1
        obtain ⟨A1, c1, rfl, hc1, _⟩ := hr1
        clear hq1 hc1
        go_wp2_with fail
        refine (HB.out _ L1.out).mono ?_; rintro E w2 ⟨v2, rfl, hr2, hq2⟩
        have L2 := Lib.hid (L1.out.stays hq2)
        have Q2 := Lib.hid (Q1.out.trans hq2)
        obtain ⟨A2, c2, rfl, hc2, _⟩ := hr2
        clear hq2 hc2
        go_wp2_with fail
        refine (HC.out _ L2.out).mono ?_; rintro E w3 ⟨v3, rfl, hr3, hq3⟩
        have L3 := Lib.hid (L2.out.stays hq3)
        have Q3 := Lib.hid (Q2.out.trans hq3)
        obtain ⟨A3, c3, rfl, hc3, _⟩ := hr3
        clear hq3 hc3
        go_wp2_with fail
        refine (awake_c _ L3.out).mono ?_; rintro E w4 ⟨rfl, hq4⟩
        go_wp2_with fail
        go_ret
        exact ⟨rfl, Q3.out.trans hq4⟩

open Go.ChangeMaps (open_string shut_string)
namespace lexerJoins
theorem witness (os : Os) {H : Type} (enc : TypeId × Value → H) : (OpenSpec.ofChange Rows.lexerJoinsSpec).preRow enc Tryd.prog Tryd.f8 Rows.lexerJoinsRow.domain false Rows.lexerJoinsRow.laid ((start os).forCall (fun _ _ => 0) ⟨#[], #[Value.string ⟨#[]⟩, Value.string ⟨#[]⟩], []⟩).memory #[Value.string ⟨#[]⟩, Value.string ⟨#[]⟩] := by
  have hw : (DataW.whole enc Tryd.prog ((start os).forCall (fun _ _ => 0) ⟨#[], #[Value.string ⟨#[]⟩, Value.string ⟨#[]⟩], []⟩).memory Tryd.f8.params.toList Rows.lexerJoinsSpec.vars false (#[Value.string ⟨#[]⟩, Value.string ⟨#[]⟩] : Array Value).toList 8).map (fun x => (x.1, x.2.1)) = some ([.lit (.string []), .lit (.string [])], []) := by kernel_rfl
  obtain ⟨⟨x1, x2, x3⟩, hx, hx1⟩ := Option.map_eq_some_iff.1 hw
  simp only [Prod.mk.injEq] at hx1
  obtain ⟨rfl, rfl⟩ := hx1
  exact OpenSpec.preRow_of_cond 8 hx (by kernel_rfl) (fun k hk => by cases hk) (by kernel_rfl) (door_met os _)
set_option maxRecDepth 100000 in
theorem lifted (os : Os) (started : os.Started) (H : Type) (enc : TypeId × Value → H) (F : Stop.Interp) :
    ReturnsInHanded {} Tryd.checked os 8 .any ((OpenSpec.ofChange Rows.lexerJoinsSpec).preRow enc Tryd.prog Tryd.f8 Rows.lexerJoinsRow.domain false Rows.lexerJoinsRow.laid) (((OpenSpec.ofChange Rows.lexerJoinsSpec).at F).post enc Tryd.prog Tryd.f8 false true false false) := by
  refine returnsInHanded_of_row (C := Tryd.checked) (s := OpenSpec.ofChange Rows.lexerJoinsSpec) own started (by kernel_rfl) Tryd.func8
    (witness_row_atRef (enc := enc) (C := Tryd.checked) false (start os) #[Value.string ⟨#[]⟩, Value.string ⟨#[]⟩] rfl (by kernel_rfl) (by kernel_rfl) (by kernel_rfl) (witness os enc)) ?_
  intro W base args ds gs before hval0 hW _ _ _ hL _ _
  have hval : ∀ (j : Nat) t v, Tryd.f8.params[j]? = some t → args[j]? = some v → Value.okWide Tryd.prog W .any base t v := hval0
  have hW' := hW
  obtain ⟨p, q, hA0, hV, rfl, hfz, hnd⟩ := hW
  have hA : DataW.TrodAll enc Tryd.prog W 0 (fun _ => true) true Tryd.f8.params.toList args.toList ds p := hA0
  rw [Tryd.params8] at hA hval
  obtain ⟨v0, vs0, d0, ds0, p0, q0, hargs, rfl, rfl, h0, r0⟩ := trodAll_cons hA
  obtain ⟨v1, vs1, d1, ds1, p1, q1, rfl, rfl, rfl, h1, r1⟩ := trodAll_cons r0
  obtain ⟨rfl, rfl, rfl⟩ := trodAll_nil r1
  obtain rfl : args = #[v0, v1] := by cases args; simp_all
  obtain ⟨rfl, rfl⟩ := trodVars_none hV
  obtain ⟨a0, rfl, rfl, rfl, w0⟩ := open_string Tryd.underlying9 (hval 0 9 v0 rfl rfl) h0
  obtain ⟨a1, rfl, rfl, rfl, w1⟩ := open_string Tryd.underlying9 (hval 1 9 v1 rfl rfl) h1
  clear hA0 hval0
  refine (joins_walk a0 a1 W w0 w1 (five_laid hL)).mono fun e W' ⟨he, bel⟩ => ?_
  subst he
  exact ⟨_, rfl, _, _, _, [], _, [], hW', trodAll_mk1 (shut_bool Tryd.underlying4 _), (trodAll_cons_mk (shut_string Tryd.underlying9 w0) (trodAll_cons_mk (shut_string Tryd.underlying9 w1) trodAll_mk0)), rfl, bel.frame _, fun h => by cases h⟩
theorem said : Rows.lexerJoinsRow.holds Tryd.pinned (OpenSpec.ofChange Rows.lexerJoinsSpec) :=
  OpenClaim.holds_of_cond 8 Tryd.f8 rfl rfl rfl rfl rfl rfl rfl ⟨rfl, rfl, rfl, rfl, rfl⟩ rfl rfl rfl rfl rfl (by kernel_rfl) Tryd.func8 (by kernel_rfl)
    (of_decide_eq_true (by kernel_rfl)) (by unfold Func.isWrapper; first | (rw [if_pos (by decide +kernel)]; kernel_rfl) | (rw [if_neg (by decide +kernel)]; exact ⟨rfl, rfl⟩))
    (fun os started H enc _ F => by rw [OpenClaim.pre_eq_preRow]; exact lifted os started H enc F)
theorem plain (f : FuncId) (fn : Func) (hf : Tryd.pinned.checked.prog.funcNamed "sawmill/sawmilllaw06.LexerJoins" = some f) (hfn : Tryd.pinned.checked.prog.funcs[f]? = some fn) :
    true = Tryd.pinned.checked.prog.looks [] ∧ ∀ (j : Nat) t, fn.params[j]? = some t → Tryd.pinned.checked.prog.wantsStandIn t = false := by
  obtain rfl : f = 8 := Option.some.inj ((show Tryd.prog.funcNamed "sawmill/sawmilllaw06.LexerJoins" = some 8 by kernel_rfl).symm.trans hf) |>.symm
  obtain rfl : fn = Tryd.f8 := (Option.some.inj (Tryd.func8.symm.trans hfn)).symm
  refine ⟨by kernel_rfl, fun j t ht => ?_⟩
  rw [Tryd.params8] at ht
  have hm := Array.mem_of_getElem? ht
  obtain rfl : t = 9 := by simpa using hm
  exact (show Tryd.prog.wantsStandIn 9 = false by kernel_rfl)
theorem proved : Rows.LexerJoinsCardSaid :=
  Claim7.holds_tied_plain_at .later [] _ _ _ _ said (fun _ h => by cases h) (by kernel_rfl) (fun _ h => by cases h) lexerJoins_row_tie rfl ⟨rfl, rfl⟩ (by kernel_rfl) rfl plain (by kernel_rfl)
end lexerJoins

end Go.Proofs.YtlnfoknghfoffaaDoor
