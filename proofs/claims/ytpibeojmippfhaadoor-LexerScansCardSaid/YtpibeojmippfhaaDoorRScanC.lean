/- The contract of the reference's Scan. -/
import Derived.Test.YtpibeojmippfhaaDoorRScanM
set_option linter.unusedVariables false
set_option linter.unusedSimpArgs false
namespace Go.Proofs.YtpibeojmippfhaaDoor
open Go.ChangeShapes Go.WideShapes Go.ChangeAt Go.RowKit Lm

theorem blk_set {w : World} {b i : Nat} {cs : Array Value} {T : TypeId} {x : Value} (h : w.heap[b]? = some (.cells cs T (0, 0))) : (w.setCell ⟨b, i, none⟩ x).heap[b]? = some (.cells (cs.setIfInBounds i x) T (0, 0)) := by
  have hlt := lt_blk h
  have h' : w.heap[b] = .cells cs T (0, 0) := by simpa [Array.getElem?_eq_getElem hlt] using h
  show (w.heap.modify b _)[b]? = _
  rw [Array.getElem?_eq_getElem (by simpa using hlt), Array.getElem_modify_self, h']
  rfl
theorem own_set {B b i : Nat} {w : World} {v x : Value} {l : List LT} (h : Own B v l w) (hne : ∀ g, v.ownBlock = some g → g ≠ b) : Own B v l (w.setCell ⟨b, i, none⟩ x) :=
  World.ownsRow.kept (row := some b) h ⟨rfl, rfl, rfl, by simp [World.setCell], fun k hk hk2 => Below.heap_setCell _ _ _ _ (fun e => hk2 (by simp at e; rw [e]))⟩ (by
    cases e : v.ownBlock with
    | none => exact .inl rfl
    | some g => exact .inr (fun e2 => by injection e2 with e3; exact hne g e e3))
set_option maxRecDepth 100000 in
set_option maxHeartbeats 6400000 in
theorem rScan_c (s : ByteArray) (w : World) (hs : s.size ≤ 1000000) : Calls Tryd.prog 12 #[.string s] w (ScPost s w) := by
  obtain ⟨i0, hi, hz0, hz1, hz2⟩ := info_parts infoL
  by_cases h8 : 8000 < s.size
  · have i1 : 8000 < (s.size : Int) := by omega
    have HE := Lib.hid (show scan s = ([], 4, 0) by unfold scan; rw [if_pos h8])
    go_enter Tryd.func12, Tryd.ntmps12
    go_wp2_with fail
    go_ret3
    exact ⟨_, by rw [HE.out]; rfl, by rw [HE.out]; exact own_nil _ _, Q.refl _⟩
  · have i1 : ¬ 8000 < (s.size : Int) := by omega
    obtain ⟨LL, EE, PP, hres⟩ : ∃ a b c, scan s = (a, b, c) := ⟨_, _, _, rfl⟩
    have HRES := Lib.hid hres
    have HFIN := Lib.hid (show finS [] (scS s (skS s false 0)) = (LL, EE, PP) by unfold scan at hres; rwa [if_neg h8] at hres)
    clear hres
    go_enter Tryd.func12, Tryd.ntmps12
    go_wp2_with fail
    refine (skip_c s 0 _ (by unfold maxLen; omega) (Nat.zero_le _)).mono ?_; rintro E w1 ⟨rfl, rfl⟩
    have HSK := Lib.hid (skS_le (s := s) false (Nat.zero_le _))
    obtain ⟨p0, hp0⟩ : ∃ p, skS s false 0 = p := ⟨_, rfl⟩
    rw [hp0] at HFIN HSK ⊢
    clear hp0
    go_wp2_with fail
    go_loopw [5, 6] (fun v5 v6 wr => ∃ (acc : List LT) (p : Nat), (p ≤ s.size ∧ acc.length ≤ p) ∧ v6 = .int .i64 p ∧ Hid (finS acc (scS s p) = (LL, EE, PP)) ∧ Hid (Own w.heap.size v5 acc wr ∧ Below w.heap.size w wr)) (fun _ v6 _ => s.size - (intOf v6).toNat)
    case atStart => exact ⟨[], p0, ⟨HSK.out, Nat.zero_le _⟩, rfl, HFIN, own_nil _ _, Below.refl _ _⟩
    case round =>
      obtain ⟨acc, p, ⟨hp, hacc⟩, rfl, HF, HO⟩ := hrel
      by_cases hlt : p < s.size
      · have i2 : (0 : Int) ≤ (p : Int) := by omega
        have i3 : (p : Int) < (s.size : Int) := by omega
        have HP := Lib.hid hlt
        have HACC := Lib.hid hacc
        have hb := bt_eq s p hlt
        obtain ⟨z, hz⟩ : ∃ z : Int, (bt s p : Int) = z := ⟨_, rfl⟩
        rw [hz] at hb
        have H1 := Lib.hid (fun w => Digit_c z w)
        have H2 := Lib.hid (fun w => Letter_c z w)
        obtain ⟨bx, hbx⟩ : ∃ b, wr.heap.size = b := ⟨_, rfl⟩
        obtain ⟨W3, hW3⟩ : ∃ W, wr.alloc (.cells #[.int .i64 0, .string ⟨#[]⟩, .int .i64 0, .int .i64 p] 32) = W := ⟨_, rfl⟩
        have X3 := Lib.hid (show W3.heap[bx]? = some (.cells #[.int .i64 0, .string ⟨#[]⟩, .int .i64 0, .int .i64 p] 32 (0, 0)) by rw [← hW3, ← hbx]; exact new_blk wr _ _)
        have O3 := Lib.hid (show Own w.heap.size u5 acc W3 by rw [← hW3]; exact HO.out.1.alloc _)
        have B3 := Lib.hid (show Below w.heap.size w W3 by rw [← hW3]; exact HO.out.2.alloc HO.out.2.size _)
        have NB := Lib.hid (show ∀ g, u5.ownBlock = some g → g ≠ bx from fun g hg e => by have := (HO.out.1.lt g hg).2; omega)
        have BB := Lib.hid (show w.heap.size ≤ bx by rw [← hbx]; exact HO.out.2.size)
        clear hacc hp
        cases a : dg z with
        | true =>
          have a' : dg (bt s p) = true := by rw [hz]; exact a
          obtain ⟨f1, f2, f3⟩ := fr_d hlt a'
          have HFD := Lib.hid f1
          obtain ⟨q, hq⟩ : ∃ q, ldS dg s p = q := ⟨_, rfl⟩
          have HQ := Lib.hid hq
          rw [hq] at HFD f2 f3
          rw [a] at H1
          have HDG := Lib.hid (show ∀ j, j < (s.extract p q).size → 48 ≤ bt (s.extract p q) j ∧ bt (s.extract p q) j ≤ 57 from fun j hj => by
            have e2 : (s.extract p q).size = min q s.size - p := ByteArray.size_extract
            rw [bt_extract s p q j f3 (by omega)]
            have := ldS_fit (f := dg) (s := s) _ p rfl (p + j) (by omega) (by rw [HQ.out]; omega)
            unfold dg at this
            have := of_decide_eq_true this
            omega)
          have HTS := Lib.hid (show (s.extract p q).size = q - p by rw [ByteArray.size_extract]; omega)
          have HN := Lib.hid (fun w => rnumber_c (s.extract p q) w (by have := HTS.out; omega) (by have := HTS.out; omega) HDG.out)
          have HB2 := Lib.hid (And.intro f2 f3)
          clear hz a a' f1 f2 f3 hq
          go_wp2_with fail
          clear hW3 hbx
          refine (H1.out _).mono ?_; rintro E w2 ⟨rfl, rfl⟩
          go_wp2_with fail
          go_loopw [8] (fun v8 wq => ∃ j : Nat, (p ≤ j ∧ j ≤ s.size) ∧ v8 = .int .i64 j ∧ Hid (ldS dg s j = q) ∧ Hid (wq = W3)) (fun v8 _ => s.size - (intOf v8).toNat)
          case atStart => exact ⟨p, ⟨Nat.le_refl _, by have := HP.out; omega⟩, rfl, HQ, by first | exact Lib.hid rfl | exact Lib.hid trivial⟩
          case round =>
            obtain ⟨j, ⟨hj1, hj2⟩, rfl, HJ, HWQ⟩ := hrel
            rw [HWQ.out]
            by_cases hjl : j < s.size
            · have hbj := bt_eq s j hjl
              obtain ⟨y, hy⟩ : ∃ y : Int, (bt s j : Int) = y := ⟨_, rfl⟩
              rw [hy] at hbj
              have HY := Lib.hid (fun w => Digit_c y w)
              have j1 : (0 : Int) ≤ (j : Int) := by omega
              have j2 : (j : Int) < (s.size : Int) := by omega
              have j3 : (p : Int) ≤ (j : Int) := by omega
              cases c : dg y with
              | true =>
                have HNX := Lib.hid (show ldS dg s (j + 1) = q by rw [← ldS_go hjl (by rw [hy]; exact c)]; exact HJ.out)
                rw [c] at HY
                clear hy c
                go_wp2_with fail
                refine (HY.out _).mono ?_; rintro E w2 ⟨rfl, rfl⟩
                go_wp2_with fail
                go_roundw
                case rel => exact ⟨j + 1, ⟨by omega, hjl⟩, by go_num, HNX, by first | exact Lib.hid rfl | exact Lib.hid trivial⟩
                case measure => simp [intOf] <;> omega
              | false =>
                obtain rfl : q = j := by rw [← HJ.out]; exact (ldS_no (by rw [hy]; exact c))
                rw [c] at HY
                clear hy c
                go_wp2_with fail
                refine (HY.out _).mono ?_; rintro E w2 ⟨rfl, rfl⟩
                go_wp2_with fail
                obtain ⟨V, hV⟩ : ∃ V, numV (s.extract p q) = V := ⟨_, rfl⟩
                obtain ⟨X, hX⟩ : ∃ X, numE (s.extract p q) = X := ⟨_, rfl⟩
                have hn := HN.out
                rw [hV, hX] at hn
                have HN2 := Lib.hid hn
                clear hn
                refine (HN2.out _).mono ?_; rintro E w5 ⟨rfl, hq5⟩
                have O5 := Lib.hid (own_other O3.out hq5)
                have B5 := Lib.hid (Below.q B3.out (Nat.le_refl _) hq5)
                have X5 := Lib.hid ((hq5.block _ (lt_blk X3.out)).trans X3.out)
                clear hq5
                by_cases he : X = 0
                · have HFR := Lib.hid (show frT (rs s p) = (2, s.extract p q, V, 0) by rw [HFD.out]; unfold nuT; rw [if_pos (by rw [hX]; exact he), hV])
                  subst he
                  clear hX hV
                  have HT := Lib.hid (show p + (s.extract p q).size = q by rw [ByteArray.size_extract]; have := HB2.out; omega)
                  have hsc := scS_go acc HP.out HFR.out rfl
                  rw [HT.out] at hsc
                  obtain ⟨r, hr⟩ : ∃ r, skS s false q = r := ⟨_, rfl⟩
                  rw [hr] at hsc
                  have HS := Lib.hid hsc
                  have NG := Lib.hid (show p + 1 ≤ r ∧ r ≤ s.size by
                    have h1 := skS_ge (s := s) false (p := q) (by have := HB2.out; omega)
                    have h2 := skS_le (s := s) false (p := q) (by have := HB2.out; omega)
                    have := HB2.out
                    omega)
                  have hsk := fun w => skip_c s q w (by unfold maxLen; omega) (by have := HB2.out; omega)
                  rw [hr] at hsk
                  have HSKQ := Lib.hid hsk
                  have RM := Lib.hid (room_of (n := acc.length) (by have := HACC.out; have := HP.out; omega))
                  have i7 : (0 : Int) ≤ (q : Int) := by omega
                  have i8 : (q : Int) ≤ (s.size : Int) := by have := HB2.out; omega
                  have i9 : (p : Int) ≤ (q : Int) := by have := HB2.out; omega
                  obtain ⟨W6, hW6⟩ : ∃ W, (((w5.setCell ⟨bx, 0, none⟩ (.int .i64 2)).setCell ⟨bx, 2, none⟩ (.int .i64 V)).setCell ⟨bx, 1, none⟩ (.string (s.extract p q))) = W := ⟨_, rfl⟩
                  have X6 := Lib.hid (show W6.heap[bx]? = some (.cells #[.int .i64 2, .string (s.extract p q), .int .i64 V, .int .i64 p] 32 (0, 0)) by rw [← hW6]; exact blk_set (blk_set (blk_set (X5.out))))
                  have O6 := Lib.hid (show Own w.heap.size u5 acc W6 by rw [← hW6]; exact own_set (own_set (own_set (O5.out) NB.out) NB.out) NB.out)
                  have B6 := Lib.hid (show Below w.heap.size w W6 by rw [← hW6]; exact Below.setCell (Below.setCell (Below.setCell (B5.out) BB.out _) BB.out _) BB.out _)
                  obtain ⟨x0, x1, x2, x3, xf⟩ := blk4 X5.out
                  obtain ⟨y0, y1, y2, y3, yf⟩ := blk4 X6.out
                  have hown1 : W6.ownsRow w.heap.size 32 4 u5 acc.length (cellsL acc) := O6.out
                  clear hr hsc hsk
                  go_wp2_with (first
                    | (at_builtin; refine wpList_append_own _ rfl _ _ 23 rfl w.heap.size 32 i0 (.agg #[.int .i64 0, .string ⟨#[]⟩, .int .i64 0, .int .i64 0]) 4 40 Tryd.underlying23 hi hz0 hz1 hz2 rfl (by decide) _ _ _ rfl (hown1.alloc _) ⟨W6.heap.size, 0, none⟩ 1 1 [.int .i64 2, .string (s.extract p q), .int .i64 V, .int .i64 p] rfl rfl (one_at _ ⟨2, s.extract p q, V, p⟩ _) (cellsL_one ⟨2, s.extract p q, V, p⟩) RM.out.1 RM.out.2 (alloc_le B6.out.size _) ?_)
                    | go_in)
                  intro v' w7 hown' hgrow _
                  have N := Lib.hid (own_next (x := ⟨2, s.extract p q, V, p⟩) O6.out B6.out B6.out.size hown' hgrow)
                  clear hown' hgrow hown1 hW6 x0 x1 x2 x3 xf y0 y1 y2 y3 yf
                  go_wp2_with fail
                  refine (HSKQ.out _).mono ?_; rintro E w8 ⟨rfl, rfl⟩
                  go_wp2_with fail
                  go_roundw
                  case rel => exact ⟨acc ++ [⟨2, s.extract p q, V, p⟩], r, ⟨NG.out.2, by rw [List.length_append]; have := HACC.out; have := NG.out.1; simp; omega⟩, rfl, Lib.hid (HS.out.symm.trans HF.out), Lib.hid ⟨N.out.1, N.out.2⟩⟩
                  case measure => have := NG.out; simp [intOf] <;> omega
                · have t0 : ((X : Int) != 0) = true := by simp; omega
                  have HFR := Lib.hid (show frT (rs s p) = (0, ⟨#[]⟩, 0, X) by rw [HFD.out]; unfold nuT; rw [if_neg (by rw [hX]; exact he), hX])
                  clear hX hV
                  have HE := Lib.hid (show (LL, EE, PP) = ([], X, p) by
                    rw [← HF.out]
                    exact fin_bad (by rw [scS_bad HP.out (by rw [HFR.out]; exact he), HFR.out]) he)
                  clear he
                  go_wp2_with fail
                  go_ret3
                  exact ⟨_, by rw [HRES.out, HE.out]; rfl, by rw [HRES.out, HE.out]; exact own_nil _ _, B5.out⟩
            · obtain rfl : q = j := by rw [← HJ.out]; exact ldS_end hjl
              have j2 : ¬ (q : Int) < (s.size : Int) := by omega
              have j3 : (p : Int) ≤ (q : Int) := by omega
              have j4 : (q : Int) ≤ (s.size : Int) := by omega
              go_wp2_with fail
              obtain ⟨V, hV⟩ : ∃ V, numV (s.extract p q) = V := ⟨_, rfl⟩
              obtain ⟨X, hX⟩ : ∃ X, numE (s.extract p q) = X := ⟨_, rfl⟩
              have hn := HN.out
              rw [hV, hX] at hn
              have HN2 := Lib.hid hn
              clear hn
              refine (HN2.out _).mono ?_; rintro E w5 ⟨rfl, hq5⟩
              have O5 := Lib.hid (own_other O3.out hq5)
              have B5 := Lib.hid (Below.q B3.out (Nat.le_refl _) hq5)
              have X5 := Lib.hid ((hq5.block _ (lt_blk X3.out)).trans X3.out)
              clear hq5
              by_cases he : X = 0
              · have HFR := Lib.hid (show frT (rs s p) = (2, s.extract p q, V, 0) by rw [HFD.out]; unfold nuT; rw [if_pos (by rw [hX]; exact he), hV])
                subst he
                clear hX hV
                have HT := Lib.hid (show p + (s.extract p q).size = q by rw [ByteArray.size_extract]; have := HB2.out; omega)
                have hsc := scS_go acc HP.out HFR.out rfl
                rw [HT.out] at hsc
                obtain ⟨r, hr⟩ : ∃ r, skS s false q = r := ⟨_, rfl⟩
                rw [hr] at hsc
                have HS := Lib.hid hsc
                have NG := Lib.hid (show p + 1 ≤ r ∧ r ≤ s.size by
                  have h1 := skS_ge (s := s) false (p := q) (by have := HB2.out; omega)
                  have h2 := skS_le (s := s) false (p := q) (by have := HB2.out; omega)
                  have := HB2.out
                  omega)
                have hsk := fun w => skip_c s q w (by unfold maxLen; omega) (by have := HB2.out; omega)
                rw [hr] at hsk
                have HSKQ := Lib.hid hsk
                have RM := Lib.hid (room_of (n := acc.length) (by have := HACC.out; have := HP.out; omega))
                have i7 : (0 : Int) ≤ (q : Int) := by omega
                have i8 : (q : Int) ≤ (s.size : Int) := by have := HB2.out; omega
                have i9 : (p : Int) ≤ (q : Int) := by have := HB2.out; omega
                obtain ⟨W6, hW6⟩ : ∃ W, (((w5.setCell ⟨bx, 0, none⟩ (.int .i64 2)).setCell ⟨bx, 2, none⟩ (.int .i64 V)).setCell ⟨bx, 1, none⟩ (.string (s.extract p q))) = W := ⟨_, rfl⟩
                have X6 := Lib.hid (show W6.heap[bx]? = some (.cells #[.int .i64 2, .string (s.extract p q), .int .i64 V, .int .i64 p] 32 (0, 0)) by rw [← hW6]; exact blk_set (blk_set (blk_set (X5.out))))
                have O6 := Lib.hid (show Own w.heap.size u5 acc W6 by rw [← hW6]; exact own_set (own_set (own_set (O5.out) NB.out) NB.out) NB.out)
                have B6 := Lib.hid (show Below w.heap.size w W6 by rw [← hW6]; exact Below.setCell (Below.setCell (Below.setCell (B5.out) BB.out _) BB.out _) BB.out _)
                obtain ⟨x0, x1, x2, x3, xf⟩ := blk4 X5.out
                obtain ⟨y0, y1, y2, y3, yf⟩ := blk4 X6.out
                have hown1 : W6.ownsRow w.heap.size 32 4 u5 acc.length (cellsL acc) := O6.out
                clear hr hsc hsk
                go_wp2_with (first
                  | (at_builtin; refine wpList_append_own _ rfl _ _ 23 rfl w.heap.size 32 i0 (.agg #[.int .i64 0, .string ⟨#[]⟩, .int .i64 0, .int .i64 0]) 4 40 Tryd.underlying23 hi hz0 hz1 hz2 rfl (by decide) _ _ _ rfl (hown1.alloc _) ⟨W6.heap.size, 0, none⟩ 1 1 [.int .i64 2, .string (s.extract p q), .int .i64 V, .int .i64 p] rfl rfl (one_at _ ⟨2, s.extract p q, V, p⟩ _) (cellsL_one ⟨2, s.extract p q, V, p⟩) RM.out.1 RM.out.2 (alloc_le B6.out.size _) ?_)
                  | go_in)
                intro v' w7 hown' hgrow _
                have N := Lib.hid (own_next (x := ⟨2, s.extract p q, V, p⟩) O6.out B6.out B6.out.size hown' hgrow)
                clear hown' hgrow hown1 hW6 x0 x1 x2 x3 xf y0 y1 y2 y3 yf
                go_wp2_with fail
                refine (HSKQ.out _).mono ?_; rintro E w8 ⟨rfl, rfl⟩
                go_wp2_with fail
                go_roundw
                case rel => exact ⟨acc ++ [⟨2, s.extract p q, V, p⟩], r, ⟨NG.out.2, by rw [List.length_append]; have := HACC.out; have := NG.out.1; simp; omega⟩, rfl, Lib.hid (HS.out.symm.trans HF.out), Lib.hid ⟨N.out.1, N.out.2⟩⟩
                case measure => have := NG.out; simp [intOf] <;> omega
              · have t0 : ((X : Int) != 0) = true := by simp; omega
                have HFR := Lib.hid (show frT (rs s p) = (0, ⟨#[]⟩, 0, X) by rw [HFD.out]; unfold nuT; rw [if_neg (by rw [hX]; exact he), hX])
                clear hX hV
                have HE := Lib.hid (show (LL, EE, PP) = ([], X, p) by
                  rw [← HF.out]
                  exact fin_bad (by rw [scS_bad HP.out (by rw [HFR.out]; exact he), HFR.out]) he)
                clear he
                go_wp2_with fail
                go_ret3
                exact ⟨_, by rw [HRES.out, HE.out]; rfl, by rw [HRES.out, HE.out]; exact own_nil _ _, B5.out⟩
        | false =>
          cases c : lt z with
          | true =>
            have a' : dg (bt s p) = false := by rw [hz]; exact a
            have c' : lt (bt s p) = true := by rw [hz]; exact c
            have hnz : nm z = true := by unfold nm; rw [c]; rfl
            obtain ⟨f1, f2, f3⟩ := fr_n hlt a' c'
            have HFD := Lib.hid f1
            obtain ⟨q, hq⟩ : ∃ q, ldS nm s p = q := ⟨_, rfl⟩
            have HQ := Lib.hid hq
            rw [hq] at HFD f2 f3
            rw [a] at H1
            rw [hnz] at H2
            have HTS := Lib.hid (show (s.extract p q).size = q - p by rw [ByteArray.size_extract]; omega)
            have HB2 := Lib.hid (And.intro f2 f3)
            clear hz a a' f1 f2 f3 hq c c' hnz
            go_wp2_with fail
            clear hW3 hbx
            refine (H1.out _).mono ?_; rintro E w2 ⟨rfl, rfl⟩
            go_wp2_with fail
            refine (H2.out _).mono ?_; rintro E w2 ⟨rfl, rfl⟩
            go_wp2_with fail
            go_loopw [8] (fun v8 wq => ∃ j : Nat, (p ≤ j ∧ j ≤ s.size) ∧ v8 = .int .i64 j ∧ Hid (ldS nm s j = q) ∧ Hid (wq = W3)) (fun v8 _ => s.size - (intOf v8).toNat)
            case atStart => exact ⟨p, ⟨Nat.le_refl _, by have := HP.out; omega⟩, rfl, HQ, by first | exact Lib.hid rfl | exact Lib.hid trivial⟩
            case round =>
              obtain ⟨j, ⟨hj1, hj2⟩, rfl, HJ, HWQ⟩ := hrel
              rw [HWQ.out]
              by_cases hjl : j < s.size
              · have hbj := bt_eq s j hjl
                obtain ⟨y, hy⟩ : ∃ y : Int, (bt s j : Int) = y := ⟨_, rfl⟩
                rw [hy] at hbj
                have HY := Lib.hid (fun w => Letter_c y w)
                have j1 : (0 : Int) ≤ (j : Int) := by omega
                have j2 : (j : Int) < (s.size : Int) := by omega
                have j3 : (p : Int) ≤ (j : Int) := by omega
                cases c : nm y with
                | true =>
                  have HNX := Lib.hid (show ldS nm s (j + 1) = q by rw [← ldS_go hjl (by rw [hy]; exact c)]; exact HJ.out)
                  rw [c] at HY
                  clear hy c
                  go_wp2_with fail
                  refine (HY.out _).mono ?_; rintro E w2 ⟨rfl, rfl⟩
                  go_wp2_with fail
                  go_roundw
                  case rel => exact ⟨j + 1, ⟨by omega, hjl⟩, by go_num, HNX, by first | exact Lib.hid rfl | exact Lib.hid trivial⟩
                  case measure => simp [intOf] <;> omega
                | false =>
                  obtain rfl : q = j := by rw [← HJ.out]; exact (ldS_no (by rw [hy]; exact c))
                  rw [c] at HY
                  clear hy c
                  go_wp2_with fail
                  refine (HY.out _).mono ?_; rintro E w2 ⟨rfl, rfl⟩
                  have O5 := O3
                  have B5 := B3
                  have X5 := X3
                  obtain ⟨L, hL⟩ : ∃ L, q - p = L := ⟨_, rfl⟩
                  have hsub : (q : Int) - (p : Int) = (L : Int) := by have := HB2.out; omega
                  by_cases he : L ≤ 16
                  · have k1 : ¬ 16 < (L : Int) := by omega
                    have HFR := Lib.hid (show frT (rs s p) = (1, s.extract p q, 0, 0) by rw [HFD.out]; unfold naT; rw [if_neg (by rw [HTS.out]; omega)])
                    clear hL he
                    have HT := Lib.hid (show p + (s.extract p q).size = q by rw [ByteArray.size_extract]; have := HB2.out; omega)
                    have hsc := scS_go acc HP.out HFR.out rfl
                    rw [HT.out] at hsc
                    obtain ⟨r, hr⟩ : ∃ r, skS s false q = r := ⟨_, rfl⟩
                    rw [hr] at hsc
                    have HS := Lib.hid hsc
                    have NG := Lib.hid (show p + 1 ≤ r ∧ r ≤ s.size by
                      have h1 := skS_ge (s := s) false (p := q) (by have := HB2.out; omega)
                      have h2 := skS_le (s := s) false (p := q) (by have := HB2.out; omega)
                      have := HB2.out
                      omega)
                    have hsk := fun w => skip_c s q w (by unfold maxLen; omega) (by have := HB2.out; omega)
                    rw [hr] at hsk
                    have HSKQ := Lib.hid hsk
                    have RM := Lib.hid (room_of (n := acc.length) (by have := HACC.out; have := HP.out; omega))
                    have i7 : (0 : Int) ≤ (q : Int) := by omega
                    have i8 : (q : Int) ≤ (s.size : Int) := by have := HB2.out; omega
                    have i9 : (p : Int) ≤ (q : Int) := by have := HB2.out; omega
                    obtain ⟨W6, hW6⟩ : ∃ W, ((W3.setCell ⟨bx, 0, none⟩ (.int .i64 1)).setCell ⟨bx, 1, none⟩ (.string (s.extract p q))) = W := ⟨_, rfl⟩
                    have X6 := Lib.hid (show W6.heap[bx]? = some (.cells #[.int .i64 1, .string (s.extract p q), .int .i64 0, .int .i64 p] 32 (0, 0)) by rw [← hW6]; exact blk_set (blk_set (X5.out)))
                    have O6 := Lib.hid (show Own w.heap.size u5 acc W6 by rw [← hW6]; exact own_set (own_set (O5.out) NB.out) NB.out)
                    have B6 := Lib.hid (show Below w.heap.size w W6 by rw [← hW6]; exact Below.setCell (Below.setCell (B5.out) BB.out _) BB.out _)
                    obtain ⟨x0, x1, x2, x3, xf⟩ := blk4 X5.out
                    obtain ⟨y0, y1, y2, y3, yf⟩ := blk4 X6.out
                    have hown1 : W6.ownsRow w.heap.size 32 4 u5 acc.length (cellsL acc) := O6.out
                    clear hr hsc hsk
                    go_wp2_with (first
                      | (at_builtin; refine wpList_append_own _ rfl _ _ 23 rfl w.heap.size 32 i0 (.agg #[.int .i64 0, .string ⟨#[]⟩, .int .i64 0, .int .i64 0]) 4 40 Tryd.underlying23 hi hz0 hz1 hz2 rfl (by decide) _ _ _ rfl (hown1.alloc _) ⟨W6.heap.size, 0, none⟩ 1 1 [.int .i64 1, .string (s.extract p q), .int .i64 0, .int .i64 p] rfl rfl (one_at _ ⟨1, s.extract p q, 0, p⟩ _) (cellsL_one ⟨1, s.extract p q, 0, p⟩) RM.out.1 RM.out.2 (alloc_le B6.out.size _) ?_)
                      | go_in)
                    intro v' w7 hown' hgrow _
                    have N := Lib.hid (own_next (x := ⟨1, s.extract p q, 0, p⟩) O6.out B6.out B6.out.size hown' hgrow)
                    clear hown' hgrow hown1 hW6 x0 x1 x2 x3 xf y0 y1 y2 y3 yf
                    go_wp2_with fail
                    refine (HSKQ.out _).mono ?_; rintro E w8 ⟨rfl, rfl⟩
                    go_wp2_with fail
                    go_roundw
                    case rel => exact ⟨acc ++ [⟨1, s.extract p q, 0, p⟩], r, ⟨NG.out.2, by rw [List.length_append]; have := HACC.out; have := NG.out.1; simp; omega⟩, rfl, Lib.hid (HS.out.symm.trans HF.out), Lib.hid ⟨N.out.1, N.out.2⟩⟩
                    case measure => have := NG.out; simp [intOf] <;> omega
                  · have k1 : 16 < (L : Int) := by omega
                    have HFR := Lib.hid (show frT (rs s p) = (0, ⟨#[]⟩, 0, 6) by rw [HFD.out]; unfold naT; rw [if_pos (by rw [HTS.out]; omega)])
                    clear hL
                    have he : (6 : Nat) ≠ 0 := by decide
                    have HE := Lib.hid (show (LL, EE, PP) = ([], 6, p) by
                      rw [← HF.out]
                      exact fin_bad (by rw [scS_bad HP.out (by rw [HFR.out]; exact he), HFR.out]) he)
                    clear he
                    go_wp2_with fail
                    go_ret3
                    exact ⟨_, by rw [HRES.out, HE.out]; rfl, by rw [HRES.out, HE.out]; exact own_nil _ _, B5.out⟩
              · obtain rfl : q = j := by rw [← HJ.out]; exact ldS_end hjl
                have j2 : ¬ (q : Int) < (s.size : Int) := by omega
                have j3 : (p : Int) ≤ (q : Int) := by omega
                have j4 : (q : Int) ≤ (s.size : Int) := by omega
                have O5 := O3
                have B5 := B3
                have X5 := X3
                obtain ⟨L, hL⟩ : ∃ L, q - p = L := ⟨_, rfl⟩
                have hsub : (q : Int) - (p : Int) = (L : Int) := by have := HB2.out; omega
                by_cases he : L ≤ 16
                · have k1 : ¬ 16 < (L : Int) := by omega
                  have HFR := Lib.hid (show frT (rs s p) = (1, s.extract p q, 0, 0) by rw [HFD.out]; unfold naT; rw [if_neg (by rw [HTS.out]; omega)])
                  clear hL he
                  have HT := Lib.hid (show p + (s.extract p q).size = q by rw [ByteArray.size_extract]; have := HB2.out; omega)
                  have hsc := scS_go acc HP.out HFR.out rfl
                  rw [HT.out] at hsc
                  obtain ⟨r, hr⟩ : ∃ r, skS s false q = r := ⟨_, rfl⟩
                  rw [hr] at hsc
                  have HS := Lib.hid hsc
                  have NG := Lib.hid (show p + 1 ≤ r ∧ r ≤ s.size by
                    have h1 := skS_ge (s := s) false (p := q) (by have := HB2.out; omega)
                    have h2 := skS_le (s := s) false (p := q) (by have := HB2.out; omega)
                    have := HB2.out
                    omega)
                  have hsk := fun w => skip_c s q w (by unfold maxLen; omega) (by have := HB2.out; omega)
                  rw [hr] at hsk
                  have HSKQ := Lib.hid hsk
                  have RM := Lib.hid (room_of (n := acc.length) (by have := HACC.out; have := HP.out; omega))
                  have i7 : (0 : Int) ≤ (q : Int) := by omega
                  have i8 : (q : Int) ≤ (s.size : Int) := by have := HB2.out; omega
                  have i9 : (p : Int) ≤ (q : Int) := by have := HB2.out; omega
                  obtain ⟨W6, hW6⟩ : ∃ W, ((W3.setCell ⟨bx, 0, none⟩ (.int .i64 1)).setCell ⟨bx, 1, none⟩ (.string (s.extract p q))) = W := ⟨_, rfl⟩
                  have X6 := Lib.hid (show W6.heap[bx]? = some (.cells #[.int .i64 1, .string (s.extract p q), .int .i64 0, .int .i64 p] 32 (0, 0)) by rw [← hW6]; exact blk_set (blk_set (X5.out)))
                  have O6 := Lib.hid (show Own w.heap.size u5 acc W6 by rw [← hW6]; exact own_set (own_set (O5.out) NB.out) NB.out)
                  have B6 := Lib.hid (show Below w.heap.size w W6 by rw [← hW6]; exact Below.setCell (Below.setCell (B5.out) BB.out _) BB.out _)
                  obtain ⟨x0, x1, x2, x3, xf⟩ := blk4 X5.out
                  obtain ⟨y0, y1, y2, y3, yf⟩ := blk4 X6.out
                  have hown1 : W6.ownsRow w.heap.size 32 4 u5 acc.length (cellsL acc) := O6.out
                  clear hr hsc hsk
                  go_wp2_with (first
                    | (at_builtin; refine wpList_append_own _ rfl _ _ 23 rfl w.heap.size 32 i0 (.agg #[.int .i64 0, .string ⟨#[]⟩, .int .i64 0, .int .i64 0]) 4 40 Tryd.underlying23 hi hz0 hz1 hz2 rfl (by decide) _ _ _ rfl (hown1.alloc _) ⟨W6.heap.size, 0, none⟩ 1 1 [.int .i64 1, .string (s.extract p q), .int .i64 0, .int .i64 p] rfl rfl (one_at _ ⟨1, s.extract p q, 0, p⟩ _) (cellsL_one ⟨1, s.extract p q, 0, p⟩) RM.out.1 RM.out.2 (alloc_le B6.out.size _) ?_)
                    | go_in)
                  intro v' w7 hown' hgrow _
                  have N := Lib.hid (own_next (x := ⟨1, s.extract p q, 0, p⟩) O6.out B6.out B6.out.size hown' hgrow)
                  clear hown' hgrow hown1 hW6 x0 x1 x2 x3 xf y0 y1 y2 y3 yf
                  go_wp2_with fail
                  refine (HSKQ.out _).mono ?_; rintro E w8 ⟨rfl, rfl⟩
                  go_wp2_with fail
                  go_roundw
                  case rel => exact ⟨acc ++ [⟨1, s.extract p q, 0, p⟩], r, ⟨NG.out.2, by rw [List.length_append]; have := HACC.out; have := NG.out.1; simp; omega⟩, rfl, Lib.hid (HS.out.symm.trans HF.out), Lib.hid ⟨N.out.1, N.out.2⟩⟩
                  case measure => have := NG.out; simp [intOf] <;> omega
                · have k1 : 16 < (L : Int) := by omega
                  have HFR := Lib.hid (show frT (rs s p) = (0, ⟨#[]⟩, 0, 6) by rw [HFD.out]; unfold naT; rw [if_pos (by rw [HTS.out]; omega)])
                  clear hL
                  have he : (6 : Nat) ≠ 0 := by decide
                  have HE := Lib.hid (show (LL, EE, PP) = ([], 6, p) by
                    rw [← HF.out]
                    exact fin_bad (by rw [scS_bad HP.out (by rw [HFR.out]; exact he), HFR.out]) he)
                  clear he
                  go_wp2_with fail
                  go_ret3
                  exact ⟨_, by rw [HRES.out, HE.out]; rfl, by rw [HRES.out, HE.out]; exact own_nil _ _, B5.out⟩
          | false =>
            have a' : dg (bt s p) = false := by rw [hz]; exact a
            have c' : lt (bt s p) = false := by rw [hz]; exact c
            have hnz : nm z = false := by unfold nm; rw [c, a]; rfl
            have HFD := Lib.hid (fr_m a' c')
            rw [a] at H1
            rw [hnz] at H2
            have HRS := Lib.hid (rs_size s p)
            have hmc := fun w => rmark_c (rs s p) w (by have := HRS.out; omega) (by have := HRS.out; have := HP.out; omega)
            obtain ⟨mk, hmk⟩ : ∃ m, mkS (rs s p) = m := ⟨_, rfl⟩
            rw [hmk] at hmc
            have HMK := Lib.hid hmk
            have i4 : (p : Int) ≤ (s.size : Int) := by omega
            by_cases he : mk = 0
            · subst he
              have HFR := Lib.hid (show frT (rs s p) = (0, ⟨#[]⟩, 0, 5) by rw [HFD.out]; unfold mkT; rw [if_pos HMK.out])
              have e0 : (rs s p).extract 0 0 = ⟨#[]⟩ := by simp; rfl
              rw [e0] at hmc
              unfold rs at hmc
              have HMC := Lib.hid hmc
              have he : (5 : Nat) ≠ 0 := by decide
              have O5 := O3
              have B5 := B3
              clear hz a a' c c' hnz hmk hmc e0
              go_wp2_with fail
              clear hW3 hbx
              refine (H1.out _).mono ?_; rintro E w2 ⟨rfl, rfl⟩
              go_wp2_with fail
              refine (H2.out _).mono ?_; rintro E w2 ⟨rfl, rfl⟩
              go_wp2_with fail
              refine (HMC.out _).mono ?_; rintro E w5 ⟨rfl, hq5⟩
              have B5 := Lib.hid (Below.q B3.out (Nat.le_refl _) hq5)
              clear hq5
              have HE := Lib.hid (show (LL, EE, PP) = ([], 5, p) by
                rw [← HF.out]
                exact fin_bad (by rw [scS_bad HP.out (by rw [HFR.out]; exact he), HFR.out]) he)
              clear he
              go_wp2_with fail
              go_ret3
              exact ⟨_, by rw [HRES.out, HE.out]; rfl, by rw [HRES.out, HE.out]; exact own_nil _ _, B5.out⟩
            · have HM2 := Lib.hid (show mk ≤ s.size - p ∧ 1 ≤ mk by
                have h1 := frT_ok (u := rs s p) (k := 3) (t := (rs s p).extract 0 mk) (n := 0) (e := 0) (by have := HRS.out; have := HP.out; omega) (by rw [HFD.out]; unfold mkT; rw [if_neg (by rw [HMK.out]; exact he), HMK.out]) rfl
                have h2 : ((rs s p).extract 0 mk).size = min mk (rs s p).size - 0 := ByteArray.size_extract
                have h3 : mk = 1 ∨ mk = 2 := by
                  rw [← HMK.out] at he ⊢
                  unfold mkS at he ⊢
                  split
                  · exact .inr rfl
                  · split
                    · exact .inl rfl
                    · rename_i g1 g2; rw [if_neg g1, if_neg g2] at he; exact absurd rfl he
                have := HRS.out
                rcases h3 with h3 | h3
                · subst h3; have := HP.out; omega
                · have h4 : 2 ≤ (rs s p).size ∧ isM ((rs s p).extract 0 2).toList = true := by
                    have h5 := HMK.out
                    rw [h3] at h5
                    unfold mkS at h5
                    by_cases g : 2 ≤ (rs s p).size ∧ isM ((rs s p).extract 0 2).toList = true
                    · exact g
                    · rw [if_neg g] at h5; split at h5 <;> omega
                  omega)
              obtain ⟨q, hq⟩ : ∃ q, p + mk = q := ⟨_, rfl⟩
              have e0 : (rs s p).extract 0 mk = s.extract p q := by rw [rs_take s p _ (by have := HM2.out; have := HP.out; omega), hq]
              have HB2 := Lib.hid (show p + 1 ≤ q ∧ q ≤ s.size by have := HM2.out; have := HP.out; omega)
              have HFR := Lib.hid (show frT (rs s p) = (3, s.extract p q, 0, 0) by rw [HFD.out]; unfold mkT; rw [if_neg (by rw [HMK.out]; exact he), HMK.out, e0])
              rw [e0] at hmc
              unfold rs at hmc
              obtain ⟨M, hM⟩ : ∃ M, s.extract p q = M := ⟨_, rfl⟩
              rw [hM] at hmc
              have HMC := Lib.hid hmc
              have HMM := Lib.hid hM
              have hms : M.size = mk := by rw [← hM, ByteArray.size_extract]; have := HB2.out; omega
              have hpq : (p : Int) + (M.size : Int) = (q : Int) := by omega
              have hml : M.toList ≠ [] := fun h => by
                have h1 := lst_len M
                rw [h] at h1
                have := HM2.out
                simp at h1
                omega
              have k1 : (M.toList == []) = false := by rw [beq_eq_false_iff_ne]; exact hml
              have k2 : (M.toList == (ByteArray.mk #[]).toList) = false := by rw [beq_eq_false_iff_ne, lst_mk []]; exact hml
              clear hz a a' c c' hnz hmk hmc e0 hM hms hml he hq
              go_wp2_with fail
              clear hW3 hbx
              refine (H1.out _).mono ?_; rintro E w2 ⟨rfl, rfl⟩
              go_wp2_with fail
              refine (H2.out _).mono ?_; rintro E w2 ⟨rfl, rfl⟩
              go_wp2_with fail
              refine (HMC.out _).mono ?_; rintro E w5 ⟨rfl, hq5⟩
              have O5 := Lib.hid (own_other O3.out hq5)
              have B5 := Lib.hid (Below.q B3.out (Nat.le_refl _) hq5)
              have X5 := Lib.hid ((hq5.block _ (lt_blk X3.out)).trans X3.out)
              clear hq5
              have HT := Lib.hid (show p + (s.extract p q).size = q by rw [ByteArray.size_extract]; have := HB2.out; omega)
              have hsc := scS_go acc HP.out HFR.out rfl
              rw [HT.out] at hsc
              obtain ⟨r, hr⟩ : ∃ r, skS s false q = r := ⟨_, rfl⟩
              rw [hr] at hsc
              have HS := Lib.hid hsc
              have NG := Lib.hid (show p + 1 ≤ r ∧ r ≤ s.size by
                have h1 := skS_ge (s := s) false (p := q) (by have := HB2.out; omega)
                have h2 := skS_le (s := s) false (p := q) (by have := HB2.out; omega)
                have := HB2.out
                omega)
              have hsk := fun w => skip_c s q w (by unfold maxLen; omega) (by have := HB2.out; omega)
              rw [hr] at hsk
              have HSKQ := Lib.hid hsk
              have RM := Lib.hid (room_of (n := acc.length) (by have := HACC.out; have := HP.out; omega))
              have i7 : (0 : Int) ≤ (q : Int) := by omega
              have i8 : (q : Int) ≤ (s.size : Int) := by have := HB2.out; omega
              have i9 : (p : Int) ≤ (q : Int) := by have := HB2.out; omega
              obtain ⟨W6, hW6⟩ : ∃ W, ((w5.setCell ⟨bx, 0, none⟩ (.int .i64 3)).setCell ⟨bx, 1, none⟩ (.string (s.extract p q))) = W := ⟨_, rfl⟩
              have X6 := Lib.hid (show W6.heap[bx]? = some (.cells #[.int .i64 3, .string (s.extract p q), .int .i64 0, .int .i64 p] 32 (0, 0)) by rw [← hW6]; exact blk_set (blk_set (X5.out)))
              have O6 := Lib.hid (show Own w.heap.size u5 acc W6 by rw [← hW6]; exact own_set (own_set (O5.out) NB.out) NB.out)
              have B6 := Lib.hid (show Below w.heap.size w W6 by rw [← hW6]; exact Below.setCell (Below.setCell (B5.out) BB.out _) BB.out _)
              obtain ⟨x0, x1, x2, x3, xf⟩ := blk4 X5.out
              obtain ⟨y0, y1, y2, y3, yf⟩ := blk4 X6.out
              have hown1 : W6.ownsRow w.heap.size 32 4 u5 acc.length (cellsL acc) := O6.out
              clear hr hsc hsk
              go_wp2_with (first
                | (at_builtin; refine wpList_append_own _ rfl _ _ 23 rfl w.heap.size 32 i0 (.agg #[.int .i64 0, .string ⟨#[]⟩, .int .i64 0, .int .i64 0]) 4 40 Tryd.underlying23 hi hz0 hz1 hz2 rfl (by decide) _ _ _ rfl (hown1.alloc _) ⟨W6.heap.size, 0, none⟩ 1 1 [.int .i64 3, .string (s.extract p q), .int .i64 0, .int .i64 p] rfl rfl (one_at _ ⟨3, s.extract p q, 0, p⟩ _) (cellsL_one ⟨3, s.extract p q, 0, p⟩) RM.out.1 RM.out.2 (alloc_le B6.out.size _) ?_)
                | go_in)
              intro v' w7 hown' hgrow _
              have N := Lib.hid (own_next (x := ⟨3, s.extract p q, 0, p⟩) O6.out B6.out B6.out.size hown' hgrow)
              clear hown' hgrow hown1 hW6 x0 x1 x2 x3 xf y0 y1 y2 y3 yf
              go_wp2_with fail
              refine (HSKQ.out _).mono ?_; rintro E w8 ⟨rfl, rfl⟩
              go_wp2_with fail
              go_roundw
              case rel => exact ⟨acc ++ [⟨3, s.extract p q, 0, p⟩], r, ⟨NG.out.2, by rw [List.length_append]; have := HACC.out; have := NG.out.1; simp; omega⟩, rfl, Lib.hid (HS.out.symm.trans HF.out), Lib.hid ⟨N.out.1, N.out.2⟩⟩
              case measure => have := NG.out; simp [intOf] <;> omega
      · obtain rfl : p = s.size := by omega
        have HE := Lib.hid (show (LL, EE, PP) = (acc ++ [⟨0, ⟨#[]⟩, 0, s.size⟩], 0, 0) by rw [← HF.out]; exact fin_zero (scS_end hlt))
        have O2 := Lib.hid HO.out.1
        have B2 := Lib.hid HO.out.2
        have RM := Lib.hid (room_of (n := acc.length) (by omega))
        have hown1 : wr.ownsRow w.heap.size 32 4 u5 acc.length (cellsL acc) := O2.out
        go_wp2_with (first
          | (at_builtin; refine wpList_append_own _ rfl _ _ 23 rfl w.heap.size 32 i0 (.agg #[.int .i64 0, .string ⟨#[]⟩, .int .i64 0, .int .i64 0]) 4 40 Tryd.underlying23 hi hz0 hz1 hz2 rfl (by decide) _ _ _ rfl (hown1.alloc _) ⟨wr.heap.size, 0, none⟩ 1 1 [.int .i64 0, .string ⟨#[]⟩, .int .i64 0, .int .i64 s.size] rfl rfl (one_at _ ⟨0, ⟨#[]⟩, 0, s.size⟩ _) (cellsL_one ⟨0, ⟨#[]⟩, 0, s.size⟩) RM.out.1 RM.out.2 (alloc_le B2.out.size _) ?_)
          | go_in)
        intro v' w4 hown' hgrow _
        have N := Lib.hid (own_next (x := ⟨0, ⟨#[]⟩, 0, s.size⟩) O2.out B2.out B2.out.size hown' hgrow)
        clear hown' hgrow hown1
        go_wp2_with fail
        go_ret3
        exact ⟨_, by rw [HRES.out, HE.out]; rfl, by rw [HRES.out, HE.out]; exact N.out.1, N.out.2⟩
end Go.Proofs.YtpibeojmippfhaaDoor
