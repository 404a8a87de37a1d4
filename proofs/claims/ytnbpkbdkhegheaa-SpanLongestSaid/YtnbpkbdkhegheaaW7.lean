/- The walk of the law SpanLongest. -/
import Derived.Test.YtnbpkbdkhegheaaW3
import Derived.Test.YtnbpkbdkhegheaaAw
set_option linter.unusedVariables false
set_option linter.unusedSimpArgs false
namespace Go.Proofs.Ytnbpkbdkhegheaa
open Go.ChangeShapes Go.WideShapes Go.ChangeAt Go.RowKit Sm

def seenB (X : List S) (s : S) (k : Nat) : Bool := (X.take k).any fun u => decide (u = s)
theorem seen_next {X : List S} {s x : S} {k : Nat} (h : X[k]? = some x) : seenB X s (k + 1) = (seenB X s k || decide (x = s)) := by
  obtain ⟨hk, e⟩ := List.getElem?_eq_some_iff.1 h
  unfold seenB; rw [List.take_succ_eq_append_getElem hk, List.any_append, e]; simp
theorem seen_end {X : List S} {s : S} (h : s ∈ X) : seenB X s X.length = true := by
  unfold seenB; rw [List.take_length, List.any_eq_true]; exact ⟨s, h, by simp⟩
theorem seen_before {X : List S} {s x : S} {k j : Nat} (hk : X[k]? = some x) (hj : X[j]? = some s) (hb : ∀ i, i < j → ∀ t, X[i]? = some t → lenS t < lenS s) (hs : seenB X s k = false) (hx : x ≠ s) : lenS x < lenS s := by
  rcases Nat.lt_trichotomy k j with g | g | g
  · exact hb k g x hk
  · subst g; rw [hk] at hj; injection hj with hj; exact (hx hj).elim
  · exfalso
    have : seenB X s k = true := by
      unfold seenB; rw [List.any_eq_true]
      exact ⟨s, List.mem_of_getElem? (i := j) (by rw [List.getElem?_take, if_pos g]; exact hj), by simp⟩
    rw [this] at hs; cases hs
set_option maxRecDepth 100000 in
set_option maxHeartbeats 12800000 in
theorem longest_walk (w : World) (AW : Awk) (v : Value) (l : List S) (hr : Rd w v l) (hn : Nn v) (hf : FitL l) (hl : l.length ≤ maxLen) : Calls Try.prog 10 #[v] w fun e w' => e = .returned (.bool true) ∧ Below w.heap.size w w' := by
  have HR := Lib.hid hr
  have HL := Lib.hid hl
  have HF := Lib.hid hf
  clear hr hf hn hl
  cases hsh : decide (l.length ≤ 40) with
  | false =>
    have HH := Lib.hid hsh; clear hsh
    go_enter Try.func10, Try.ntmps10
    go_wp2_with fail
    refine (few_c v l _ false (HR.out.q (by repeat (first | exact Q.refl _ | refine Q.alloc ?_ _))) HL.out HH).mono ?_; rintro e w1 ⟨rfl, rfl⟩
    go_wp2_with fail
    refine (AW.out _).mono ?_; rintro e w2 ⟨rfl, hq2⟩
    go_wp2_with fail
    go_ret
    exact ⟨rfl, by first | exact hq2 | exact ((Q.refl w).alloc _).trans hq2 | exact (((Q.refl w).alloc _).alloc _).trans hq2⟩
  | true =>
    have HH := Lib.hid hsh
    have H40 := of_decide_eq_true hsh
    have H6 := Lib.hid (show l.length ≤ 1000000 by omega)
    obtain ⟨s, hs⟩ : ∃ b, bestL (canonL l) = b := ⟨_, rfl⟩
    obtain ⟨X, hX⟩ : ∃ b, canonL l = b := ⟨_, rfl⟩
    have HS := Lib.hid hs
    have HX := Lib.hid hX
    have hgd := eqGd
    cases hok : someB s with
    | false =>
      have HOK := Lib.hid hok
      have HE : Hid (X = [] ∧ s = (0, 0)) := Lib.hid (by
        rcases (best_spec (canonL l) (canon_spec l).1.1).2 with ⟨e1, e2⟩ | ⟨j, hj, _⟩
        · exact ⟨by rw [← hX]; exact e1, by rw [← hs]; exact e2⟩
        · have := (canon_spec l).1.1 _ (List.mem_of_getElem? hj)
          rw [hs] at this
          rw [show someB s = true from decide_eq_true this] at hok; cases hok)
      have heq1 : ∀ w, (Op.equalIn 10000 23 (.agg #[.int .i64 0, .int .i64 0]) (.agg #[.int .i64 0, .int .i64 0])).run Try.prog w = .ok true w := fun w => by rw [eqIn]; simp
      clear hsh H40 hs hok hX
      go_enter Try.func10, Try.ntmps10
      go_wp2_with fail
      refine (few_c v l _ true HR.out HL.out HH).mono ?_; rintro e w1 ⟨rfl, rfl⟩
      go_wp2_with fail
      refine (Canon_c v l _ HR.out H6.out).mono ?_; rintro e w2 ⟨x, rfl, ho2, hq2⟩
      have HQ2 := Lib.hid hq2
      have hx : ∃ A c, x = .slice A 0 c := by obtain ⟨A, c, h⟩ := ho2.len; rw [HX.out, HE.out.1] at h; exact ⟨A, c, h⟩
      obtain ⟨A, c, rfl⟩ := hx
      clear ho2 hq2
      go_wp2_with fail
      refine (Long_is v l s false _ (HR.out.q HQ2.out) H6.out HF.out HS HOK).mono ?_; rintro e w3 ⟨rfl, hq3⟩
      have HQ3 := Lib.hid (HQ2.out.trans hq3)
      clear hq3
      obtain ⟨_, rfl⟩ := HE.out
      go_wp2_with fail
      refine (AW.out _).mono ?_; rintro e wz ⟨rfl, hq⟩
      have HQZ := Lib.hid ((HQ3.out.alloc _).trans hq)
      clear hq
      go_wp2_with fail
      go_ret
      exact ⟨rfl, HQZ.out⟩
    | true =>
      have HOK := Lib.hid hok
      clear hsh H40 hs hok hX
      go_enter Try.func10, Try.ntmps10
      go_wp2_with fail
      refine (few_c v l _ true HR.out HL.out HH).mono ?_; rintro e w1 ⟨rfl, rfl⟩
      go_wp2_with fail
      refine (Canon_c v l _ HR.out H6.out).mono ?_; rintro e w2 ⟨x, rfl, ho2, hq2⟩
      have HQ2 := Lib.hid hq2
      have HO2 := Lib.hid (show Rd w2 x X by rw [← HX.out]; exact ho2.rd)
      obtain ⟨A, c, rfl⟩ := (HX.out ▸ ho2.len : ∃ A c, x = .slice A X.length c)
      clear ho2 hq2
      go_wp2_with fail
      refine (Long_is v l s true _ (HR.out.q HQ2.out) H6.out HF.out HS HOK).mono ?_; rintro e w3 ⟨rfl, hq3⟩
      have HQ3 := Lib.hid (HQ2.out.trans hq3)
      have hqk := Lib.hid hq3
      clear hq3
      have HBS := Lib.hid (best_spec X (by rw [← HX.out]; exact (canon_spec l).1.1))
      have HFX0 := Lib.hid (show FitL X by rw [← HX.out]; exact HF.out.canon)
      have HSX := Lib.hid (show bestL X = s by rw [← HX.out]; exact HS.out)
      have HFS := Lib.hid (show FitS s by rw [← HSX.out]; exact best_fit HFX0.out)
      have HO3 := Lib.hid ((HO2.out.q hqk.out).q ((Q.refl w3).alloc (.cells #[.int .i64 s.1, .int .i64 s.2] 23)))
      obtain ⟨n, hn⟩ : ∃ n, X.length = n := ⟨_, rfl⟩
      have HN := Lib.hid hn
      have hn6 : n ≤ 1000000 := by rw [← hn, ← HX.out]; exact Nat.le_trans (canon_spec l).2.2 H6.out
      rw [hn]
      clear hn
      obtain ⟨ls, hls⟩ : ∃ x, lenS s = x := ⟨_, rfl⟩
      have HS1 := Lib.hid hls
      clear hls
      have hin : s ∈ X := by
        rcases HBS.out.2 with ⟨e1, e2⟩ | ⟨j, hj, _⟩
        · rw [HSX.out] at e2; have := HOK.out; rw [e2] at this; cases this
        · rw [HSX.out] at hj; exact List.mem_of_getElem? hj
      have HIN := Lib.hid hin
      clear hin
      go_wp2_with fail
      go_loopw [6, 7] (fun u6 u7 wr => ∃ k : Nat, k ≤ n ∧ u6 = .bool (seenB X s k) ∧ u7 = .int .i64 k ∧ Hid (Q (w3.alloc (.cells #[.int .i64 s.1, .int .i64 s.2] 23)) wr)) (fun _ u7 _ => n - (intOf u7).toNat)
      case atStart => exact ⟨0, Nat.zero_le _, rfl, rfl, Q.refl _⟩
      case round =>
        obtain ⟨k, hk, rfl, rfl, HI⟩ := hrel
        by_cases hlt : k < n
        · have hkl : k < X.length := by rw [HN.out]; exact hlt
          obtain ⟨b, off, c', hv', hc', hb', hx0, hx1⟩ := HO3.out.cons (i := k) hkl
          obtain ⟨s', hs'⟩ : ∃ s, X[k] = s := ⟨_, rfl⟩
          rw [hs'] at hx0 hx1
          have hs2 : X[k]? = some s' := by rw [List.getElem?_eq_getElem hkl, hs']
          obtain ⟨e1, e2, e3⟩ : A = some ⟨b, off, none⟩ ∧ X.length = X.length ∧ c = c' := by injection hv' with e1 e2 e3; exact ⟨e1, e2, e3⟩
          subst e1 e3
          have HFX := Lib.hid (HFX0.out.at hs2)
          obtain ⟨lx, hlx⟩ : ∃ x, lenS s' = x := ⟨_, rfl⟩
          have HX1 := Lib.hid hlx
          have hle : ¬ ls < lx := by
            have := HBS.out.1 s' (List.mem_of_getElem? hs2)
            rw [HSX.out, HS1.out, hlx] at this; omega
          have hle' : decide (ls < lx) = false := decide_eq_false hle
          have HP := Lib.hid (show ∀ W, Q wr W → W.cell? ⟨b, off + k * 2, none⟩ = some (.int .i64 s'.1) ∧ W.cell? ⟨b, off + k * 2 + 1, none⟩ = some (.int .i64 s'.2) ∧ W.cell? ⟨w3.heap.size, 0, none⟩ = some (.int .i64 s.1) ∧ W.cell? ⟨w3.heap.size, 1, none⟩ = some (.int .i64 s.2) from fun W hW => by
            have hq := HI.out.trans hW
            have hbx := (Bx.new w3 s).q hq
            exact ⟨(hq.cell (p := ⟨b, off + k * 2, none⟩) hb').trans hx0, (hq.cell (p := ⟨b, off + k * 2 + 1, none⟩) hb').trans hx1, hbx.1, hbx.2.1⟩)
          clear hs' hlx
          cases hsn : seenB X s k with
          | true =>
            have HSN := Lib.hid (show seenB X s (k + 1) = true by rw [seen_next hs2, hsn]; rfl)
            clear hsn hs2 hle hx0 hx1 hv' hc' hkl
            go_wp2_with fail
            go_cut [67] (fun v67 wx => v67 = .bool false ∧ Q wr wx)
            case first =>
              refine wp_region_any (by kernel_rfl) ?_
              change wpAny _ _ _ _ _ _ _ (World.drew _)
              have HW := Lib.hid ((Q.refl wr).drew)
              obtain ⟨p0, p1, p2, p3⟩ := HP.out _ HW.out
              (refine wpAny_take (i := 0) (v := ?_) rfl (by kernel_rfl) (by kernel_rfl) (by kernel_rfl) (fun _ _ _ h => h) (Or.inl ⟨by kernel_rfl, ?_⟩) ?_; rotate_left; (focus (intro w; go_simp; try with_reducible rfl)))
              go_simp
              (refine wpAny_take (i := 1) (v := ?_) rfl (by kernel_rfl) (by kernel_rfl) (by kernel_rfl) (fun _ _ _ h => h) (Or.inl ⟨by kernel_rfl, ?_⟩) ?_; rotate_left; (focus (intro w; go_simp; try with_reducible rfl)))
              go_simp
              (refine wpAny_take (i := 2) (v := ?_) rfl (by kernel_rfl) (by kernel_rfl) (by kernel_rfl) (fun _ _ _ h => h) (Or.inl ⟨by kernel_rfl, ?_⟩) ?_; rotate_left; (focus (intro w; go_simp; try with_reducible rfl)))
              go_simp
              refine any_via (α := Unit) 4 [3, 4, 5, 6] (fun _ => [(41, .agg #[.int .i64 s'.1, .int .i64 s'.2]), (42, .int .i64 lx), (43, .agg #[.int .i64 s.1, .int .i64 s.2]), (44, .int .i64 ls)]) (fun _ w' => Q wr w') ?_ ?_
              · intro key
                have KEY := Lib.hid key
                clear key
                refine wpAny_ready (rs := [3, 5]) (by kernel_rfl) (by simp) ?_
                refine AllReady.cons rfl (fun K hK => ?_) (AllReady.cons rfl (fun K hK => ?_) AllReady.nil)
                · skip
                  go_simp
                  refine hK _ _ ?_
                  clear hK K
                  refine wpAny_ready (rs := [4, 5]) (by kernel_rfl) (by simp) ?_
                  refine AllReady.cons rfl (fun K hK => ?_) (AllReady.cons rfl (fun K hK => ?_) AllReady.nil)
                  · skip
                    go_simp
                    go_wp2_with (go_at_call_of 11 (s'.1); refine (Len_at s' lx _ HFX HX1).mono ?_; rintro e V1 ⟨rfl, hq⟩)
                    have HW := Lib.hid (HW.out.trans hq)
                    clear hq
                    obtain ⟨p0, p1, p2, p3⟩ := HP.out V1 HW.out
                    refine wpAny_ready (rs := [5]) (by kernel_rfl) (by simp) ?_
                    refine AllReady.cons rfl (fun K hK => ?_) AllReady.nil
                    go_simp
                    refine hK _ _ ?_
                    clear hK K
                    refine wpAny_ready (rs := [6]) (by kernel_rfl) (by simp) ?_
                    refine AllReady.cons rfl (fun K hK => ?_) AllReady.nil
                    go_simp
                    go_wp2_with (go_at_call_of 11 (s.1); refine (Len_at s ls _ HFS HS1).mono ?_; rintro e V2 ⟨rfl, hq⟩)
                    have HW := Lib.hid (HW.out.trans hq)
                    clear hq
                    obtain ⟨p0, p1, p2, p3⟩ := HP.out V2 HW.out
                    exact any_eq (by kernel_rfl) (by kernel_rfl) (by kernel_rfl) (KEY.out () _ HW.out)
                  · skip
                    go_simp
                    refine hK _ _ ?_
                    clear hK K
                    refine wpAny_ready (rs := [4]) (by kernel_rfl) (by simp) ?_
                    refine AllReady.cons rfl (fun K hK => ?_) AllReady.nil
                    go_simp
                    go_wp2_with (go_at_call_of 11 (s'.1); refine (Len_at s' lx _ HFX HX1).mono ?_; rintro e V3 ⟨rfl, hq⟩)
                    have HW := Lib.hid (HW.out.trans hq)
                    clear hq
                    obtain ⟨p0, p1, p2, p3⟩ := HP.out V3 HW.out
                    refine wpAny_ready (rs := [6]) (by kernel_rfl) (by simp) ?_
                    refine AllReady.cons rfl (fun K hK => ?_) AllReady.nil
                    go_simp
                    go_wp2_with (go_at_call_of 11 (s.1); refine (Len_at s ls _ HFS HS1).mono ?_; rintro e V4 ⟨rfl, hq⟩)
                    have HW := Lib.hid (HW.out.trans hq)
                    clear hq
                    obtain ⟨p0, p1, p2, p3⟩ := HP.out V4 HW.out
                    exact any_eq (by kernel_rfl) (by kernel_rfl) (by kernel_rfl) (KEY.out () _ HW.out)
                · skip
                  go_simp
                  refine hK _ _ ?_
                  clear hK K
                  refine wpAny_ready (rs := [3]) (by kernel_rfl) (by simp) ?_
                  refine AllReady.cons rfl (fun K hK => ?_) AllReady.nil
                  go_simp
                  refine hK _ _ ?_
                  clear hK K
                  refine wpAny_ready (rs := [4]) (by kernel_rfl) (by simp) ?_
                  refine AllReady.cons rfl (fun K hK => ?_) AllReady.nil
                  go_simp
                  go_wp2_with (go_at_call_of 11 (s'.1); refine (Len_at s' lx _ HFX HX1).mono ?_; rintro e V5 ⟨rfl, hq⟩)
                  have HW := Lib.hid (HW.out.trans hq)
                  clear hq
                  obtain ⟨p0, p1, p2, p3⟩ := HP.out V5 HW.out
                  refine wpAny_ready (rs := [6]) (by kernel_rfl) (by simp) ?_
                  refine AllReady.cons rfl (fun K hK => ?_) AllReady.nil
                  go_simp
                  go_wp2_with (go_at_call_of 11 (s.1); refine (Len_at s ls _ HFS HS1).mono ?_; rintro e V6 ⟨rfl, hq⟩)
                  have HW := Lib.hid (HW.out.trans hq)
                  clear hq
                  obtain ⟨p0, p1, p2, p3⟩ := HP.out V6 HW.out
                  exact any_eq (by kernel_rfl) (by kernel_rfl) (by kernel_rfl) (KEY.out () _ HW.out)
              rintro _ V0 hq
              have HW := Lib.hid hq
              clear hq p0 p1 p2 p3
              obtain ⟨p0, p1, p2, p3⟩ := HP.out V0 HW.out
              simp only [setAll, putAll, List.foldl_cons, List.foldl_nil]
              go_simp
              (refine wpAny_take (i := 7) (v := ?_) rfl (by kernel_rfl) (by kernel_rfl) (by kernel_rfl) (fun _ _ _ h => h) (Or.inl ⟨by kernel_rfl, ?_⟩) ?_; rotate_left; (focus (intro w; go_simp; try with_reducible rfl)))
              go_simp
              (refine wpAny_take (i := 8) (v := ?_) rfl (by kernel_rfl) (by kernel_rfl) (by kernel_rfl) (fun _ _ _ h => h) (Or.inl ⟨by kernel_rfl, ?_⟩) ?_; rotate_left; (focus (intro w; go_simp; try with_reducible rfl)))
              go_simp
              (refine wpAny_take (i := 9) (v := ?_) rfl (by kernel_rfl) (by kernel_rfl) (by kernel_rfl) (fun _ _ _ h => h) (Or.inl ⟨by kernel_rfl, ?_⟩) ?_; rotate_left; (focus (intro w; go_simp; try with_reducible rfl)))
              go_simp
              (refine wpAny_take (i := 10) (v := ?_) rfl (by kernel_rfl) (by kernel_rfl) (by kernel_rfl) (fun _ _ _ h => h) (Or.inl ⟨by kernel_rfl, ?_⟩) ?_; rotate_left; (focus (intro w; go_simp; try with_reducible rfl)))
              go_simp
              (refine wpAny_take (i := 11) (v := ?_) rfl (by kernel_rfl) (by kernel_rfl) (by kernel_rfl) (fun _ _ _ h => h) (Or.inl ⟨by kernel_rfl, ?_⟩) ?_; rotate_left; (focus (intro w; go_simp; try with_reducible rfl)))
              go_simp
              refine wpAny_take (i := 12) (v := undef) rfl (by kernel_rfl) (by kernel_rfl) (by kernel_rfl) (fun _ _ _ h => h) (Or.inr ⟨by kernel_rfl, rfl⟩) ?_
              go_simp
              refine wpAny_take (i := 13) (v := undef) rfl (by kernel_rfl) (by kernel_rfl) (by kernel_rfl) (fun _ _ _ h => h) (Or.inr ⟨by kernel_rfl, rfl⟩) ?_
              go_simp
              refine wpAny_take (i := 14) (v := undef) rfl (by kernel_rfl) (by kernel_rfl) (by kernel_rfl) (fun _ _ _ h => h) (Or.inr ⟨by kernel_rfl, rfl⟩) ?_
              go_simp
              refine wpAny_take (i := 15) (v := undef) rfl (by kernel_rfl) (by kernel_rfl) (by kernel_rfl) (fun _ _ _ h => h) (Or.inr ⟨by kernel_rfl, rfl⟩) ?_
              go_simp
              refine wpAny_take (i := 16) (v := undef) rfl (by kernel_rfl) (by kernel_rfl) (by kernel_rfl) (fun _ _ _ h => h) (Or.inr ⟨by kernel_rfl, rfl⟩) ?_
              go_simp
              refine wpAny_take (i := 17) (v := undef) rfl (by kernel_rfl) (by kernel_rfl) (by kernel_rfl) (fun _ _ _ h => h) (Or.inr ⟨by kernel_rfl, rfl⟩) ?_
              go_simp
              (refine wpAny_take (i := 18) (v := ?_) rfl (by kernel_rfl) (by kernel_rfl) (by kernel_rfl) (fun _ _ _ h => h) (Or.inl ⟨by kernel_rfl, ?_⟩) ?_; rotate_left; (focus (intro w; go_simp; try with_reducible rfl)))
              go_simp
              (refine wpAny_take (i := 19) (v := ?_) rfl (by kernel_rfl) (by kernel_rfl) (by kernel_rfl) (fun _ _ _ h => h) (Or.inl ⟨by kernel_rfl, ?_⟩) ?_; rotate_left; (focus (intro w; go_simp; try with_reducible rfl)))
              go_simp
              refine wpAny_take (i := 20) (v := undef) rfl (by kernel_rfl) (by kernel_rfl) (by kernel_rfl) (fun _ _ _ h => h) (Or.inr ⟨by kernel_rfl, rfl⟩) ?_
              go_simp
              refine wpAny_take (i := 21) (v := undef) rfl (by kernel_rfl) (by kernel_rfl) (by kernel_rfl) (fun _ _ _ h => h) (Or.inr ⟨by kernel_rfl, rfl⟩) ?_
              go_simp
              refine wpAny_take (i := 22) (v := undef) rfl (by kernel_rfl) (by kernel_rfl) (by kernel_rfl) (fun _ _ _ h => h) (Or.inr ⟨by kernel_rfl, rfl⟩) ?_
              go_simp
              refine wpAny_take (i := 23) (v := undef) rfl (by kernel_rfl) (by kernel_rfl) (by kernel_rfl) (fun _ _ _ h => h) (Or.inr ⟨by kernel_rfl, rfl⟩) ?_
              go_simp
              refine wpAny_take (i := 24) (v := undef) rfl (by kernel_rfl) (by kernel_rfl) (by kernel_rfl) (fun _ _ _ h => h) (Or.inr ⟨by kernel_rfl, rfl⟩) ?_
              go_simp
              refine wpAny_take (i := 25) (v := undef) rfl (by kernel_rfl) (by kernel_rfl) (by kernel_rfl) (fun _ _ _ h => h) (Or.inr ⟨by kernel_rfl, rfl⟩) ?_
              go_simp
              refine wpAny_take (i := 26) (v := undef) rfl (by kernel_rfl) (by kernel_rfl) (by kernel_rfl) (fun _ _ _ h => h) (Or.inr ⟨by kernel_rfl, rfl⟩) ?_
              go_simp
              refine wpAny_take (i := 27) (v := undef) rfl (by kernel_rfl) (by kernel_rfl) (by kernel_rfl) (fun _ _ _ h => h) (Or.inr ⟨by kernel_rfl, rfl⟩) ?_
              go_simp
              (refine wpAny_take (i := 28) (v := ?_) rfl (by kernel_rfl) (by kernel_rfl) (by kernel_rfl) (fun _ _ _ h => h) (Or.inl ⟨by kernel_rfl, ?_⟩) ?_; rotate_left; (focus (intro w; go_simp; try with_reducible rfl)))
              go_simp
              (refine wpAny_take (i := 29) (v := ?_) rfl (by kernel_rfl) (by kernel_rfl) (by kernel_rfl) (fun _ _ _ h => h) (Or.inl ⟨by kernel_rfl, ?_⟩) ?_; rotate_left; (focus (intro w; go_simp; try with_reducible rfl)))
              go_simp
              refine wpAny_done (by kernel_rfl) ?_ _
              go_wp2_with fail
              go_meet
              exact ⟨rfl, HW.out⟩
            case rest =>
              obtain ⟨rfl, hq⟩ := hcut
              have HQW := Lib.hid hq
              obtain ⟨p0, p1, p2, p3⟩ := HP.out wc hq
              clear hq
              go_wp2_with fail
              go_quiet (fail)
              go_wp2_with fail
              go_roundw
              case rel => exact ⟨k + 1, by omega, by rw [HSN.out], by go_num, (HI.out.trans HQW.out).drewN _⟩
              case measure => simp [intOf] <;> omega

          | false =>
            by_cases hxs : s' = s
            · skip
              have HSN := Lib.hid (show seenB X s (k + 1) = true by rw [seen_next hs2, hxs]; simp)
              have heq : ∀ w, (Op.equalIn 10000 23 (.agg #[.int .i64 s'.1, .int .i64 s'.2]) (.agg #[.int .i64 s.1, .int .i64 s.2])).run Try.prog w = .ok true w := fun w => by rw [eqIn, hxs]; simp
              clear hsn hs2 hle hx0 hx1 hv' hc' hkl hxs
              go_wp2_with fail
              go_cut [67] (fun v67 wx => v67 = .bool false ∧ Q wr wx)
              case first =>
                refine wp_region_any (by kernel_rfl) ?_
                change wpAny _ _ _ _ _ _ _ (World.drew _)
                have HW := Lib.hid ((Q.refl wr).drew)
                obtain ⟨p0, p1, p2, p3⟩ := HP.out _ HW.out
                (refine wpAny_take (i := 0) (v := ?_) rfl (by kernel_rfl) (by kernel_rfl) (by kernel_rfl) (fun _ _ _ h => h) (Or.inl ⟨by kernel_rfl, ?_⟩) ?_; rotate_left; (focus (intro w; go_simp; try with_reducible rfl)))
                go_simp
                (refine wpAny_take (i := 1) (v := ?_) rfl (by kernel_rfl) (by kernel_rfl) (by kernel_rfl) (fun _ _ _ h => h) (Or.inl ⟨by kernel_rfl, ?_⟩) ?_; rotate_left; (focus (intro w; go_simp; try with_reducible rfl)))
                go_simp
                (refine wpAny_take (i := 2) (v := ?_) rfl (by kernel_rfl) (by kernel_rfl) (by kernel_rfl) (fun _ _ _ h => h) (Or.inl ⟨by kernel_rfl, ?_⟩) ?_; rotate_left; (focus (intro w; go_simp; try with_reducible rfl)))
                go_simp
                refine any_via (α := Unit) 4 [3, 4, 5, 6] (fun _ => [(41, .agg #[.int .i64 s'.1, .int .i64 s'.2]), (42, .int .i64 lx), (43, .agg #[.int .i64 s.1, .int .i64 s.2]), (44, .int .i64 ls)]) (fun _ w' => Q wr w') ?_ ?_
                · intro key
                  have KEY := Lib.hid key
                  clear key
                  refine wpAny_ready (rs := [3, 5]) (by kernel_rfl) (by simp) ?_
                  refine AllReady.cons rfl (fun K hK => ?_) (AllReady.cons rfl (fun K hK => ?_) AllReady.nil)
                  · skip
                    go_simp
                    refine hK _ _ ?_
                    clear hK K
                    refine wpAny_ready (rs := [4, 5]) (by kernel_rfl) (by simp) ?_
                    refine AllReady.cons rfl (fun K hK => ?_) (AllReady.cons rfl (fun K hK => ?_) AllReady.nil)
                    · skip
                      go_simp
                      go_wp2_with (go_at_call_of 11 (s'.1); refine (Len_at s' lx _ HFX HX1).mono ?_; rintro e V7 ⟨rfl, hq⟩)
                      have HW := Lib.hid (HW.out.trans hq)
                      clear hq
                      obtain ⟨p0, p1, p2, p3⟩ := HP.out V7 HW.out
                      refine wpAny_ready (rs := [5]) (by kernel_rfl) (by simp) ?_
                      refine AllReady.cons rfl (fun K hK => ?_) AllReady.nil
                      go_simp
                      refine hK _ _ ?_
                      clear hK K
                      refine wpAny_ready (rs := [6]) (by kernel_rfl) (by simp) ?_
                      refine AllReady.cons rfl (fun K hK => ?_) AllReady.nil
                      go_simp
                      go_wp2_with (go_at_call_of 11 (s.1); refine (Len_at s ls _ HFS HS1).mono ?_; rintro e V8 ⟨rfl, hq⟩)
                      have HW := Lib.hid (HW.out.trans hq)
                      clear hq
                      obtain ⟨p0, p1, p2, p3⟩ := HP.out V8 HW.out
                      exact any_eq (by kernel_rfl) (by kernel_rfl) (by kernel_rfl) (KEY.out () _ HW.out)
                    · skip
                      go_simp
                      refine hK _ _ ?_
                      clear hK K
                      refine wpAny_ready (rs := [4]) (by kernel_rfl) (by simp) ?_
                      refine AllReady.cons rfl (fun K hK => ?_) AllReady.nil
                      go_simp
                      go_wp2_with (go_at_call_of 11 (s'.1); refine (Len_at s' lx _ HFX HX1).mono ?_; rintro e V9 ⟨rfl, hq⟩)
                      have HW := Lib.hid (HW.out.trans hq)
                      clear hq
                      obtain ⟨p0, p1, p2, p3⟩ := HP.out V9 HW.out
                      refine wpAny_ready (rs := [6]) (by kernel_rfl) (by simp) ?_
                      refine AllReady.cons rfl (fun K hK => ?_) AllReady.nil
                      go_simp
                      go_wp2_with (go_at_call_of 11 (s.1); refine (Len_at s ls _ HFS HS1).mono ?_; rintro e V10 ⟨rfl, hq⟩)
                      have HW := Lib.hid (HW.out.trans hq)
                      clear hq
                      obtain ⟨p0, p1, p2, p3⟩ := HP.out V10 HW.out
                      exact any_eq (by kernel_rfl) (by kernel_rfl) (by kernel_rfl) (KEY.out () _ HW.out)
                  · skip
                    go_simp
                    refine hK _ _ ?_
                    clear hK K
                    refine wpAny_ready (rs := [3]) (by kernel_rfl) (by simp) ?_
                    refine AllReady.cons rfl (fun K hK => ?_) AllReady.nil
                    go_simp
                    refine hK _ _ ?_
                    clear hK K
                    refine wpAny_ready (rs := [4]) (by kernel_rfl) (by simp) ?_
                    refine AllReady.cons rfl (fun K hK => ?_) AllReady.nil
                    go_simp
                    go_wp2_with (go_at_call_of 11 (s'.1); refine (Len_at s' lx _ HFX HX1).mono ?_; rintro e V11 ⟨rfl, hq⟩)
                    have HW := Lib.hid (HW.out.trans hq)
                    clear hq
                    obtain ⟨p0, p1, p2, p3⟩ := HP.out V11 HW.out
                    refine wpAny_ready (rs := [6]) (by kernel_rfl) (by simp) ?_
                    refine AllReady.cons rfl (fun K hK => ?_) AllReady.nil
                    go_simp
                    go_wp2_with (go_at_call_of 11 (s.1); refine (Len_at s ls _ HFS HS1).mono ?_; rintro e V12 ⟨rfl, hq⟩)
                    have HW := Lib.hid (HW.out.trans hq)
                    clear hq
                    obtain ⟨p0, p1, p2, p3⟩ := HP.out V12 HW.out
                    exact any_eq (by kernel_rfl) (by kernel_rfl) (by kernel_rfl) (KEY.out () _ HW.out)
                rintro _ V0 hq
                have HW := Lib.hid hq
                clear hq p0 p1 p2 p3
                obtain ⟨p0, p1, p2, p3⟩ := HP.out V0 HW.out
                simp only [setAll, putAll, List.foldl_cons, List.foldl_nil]
                go_simp
                (refine wpAny_take (i := 7) (v := ?_) rfl (by kernel_rfl) (by kernel_rfl) (by kernel_rfl) (fun _ _ _ h => h) (Or.inl ⟨by kernel_rfl, ?_⟩) ?_; rotate_left; (focus (intro w; go_simp; try with_reducible rfl)))
                go_simp
                (refine wpAny_take (i := 8) (v := ?_) rfl (by kernel_rfl) (by kernel_rfl) (by kernel_rfl) (fun _ _ _ h => h) (Or.inl ⟨by kernel_rfl, ?_⟩) ?_; rotate_left; (focus (intro w; go_simp; try with_reducible rfl)))
                go_simp
                (refine wpAny_take (i := 9) (v := ?_) rfl (by kernel_rfl) (by kernel_rfl) (by kernel_rfl) (fun _ _ _ h => h) (Or.inl ⟨by kernel_rfl, ?_⟩) ?_; rotate_left; (focus (intro w; go_simp; try with_reducible rfl)))
                go_simp
                (refine wpAny_take (i := 10) (v := ?_) rfl (by kernel_rfl) (by kernel_rfl) (by kernel_rfl) (fun _ _ _ h => h) (Or.inl ⟨by kernel_rfl, ?_⟩) ?_; rotate_left; (focus (intro w; go_simp; try with_reducible rfl)))
                go_simp
                (refine wpAny_take (i := 11) (v := ?_) rfl (by kernel_rfl) (by kernel_rfl) (by kernel_rfl) (fun _ _ _ h => h) (Or.inl ⟨by kernel_rfl, ?_⟩) ?_; rotate_left; (focus (intro w; go_simp; try with_reducible rfl)))
                go_simp
                (refine wpAny_take (i := 12) (v := ?_) rfl (by kernel_rfl) (by kernel_rfl) (by kernel_rfl) (fun _ _ _ h => h) (Or.inl ⟨by kernel_rfl, ?_⟩) ?_; rotate_left; (focus (intro w; go_simp; try with_reducible rfl)))
                go_simp
                (refine wpAny_take (i := 13) (v := ?_) rfl (by kernel_rfl) (by kernel_rfl) (by kernel_rfl) (fun _ _ _ h => h) (Or.inl ⟨by kernel_rfl, ?_⟩) ?_; rotate_left; (focus (intro w; go_simp; try with_reducible rfl)))
                go_simp
                (refine wpAny_take (i := 14) (v := ?_) rfl (by kernel_rfl) (by kernel_rfl) (by kernel_rfl) (fun _ _ _ h => h) (Or.inl ⟨by kernel_rfl, ?_⟩) ?_; rotate_left; (focus (intro w; go_simp; try with_reducible rfl)))
                go_simp
                refine wpAny_ready (rs := [15, 16]) (by kernel_rfl) (by simp) ?_
                refine AllReady.cons rfl (fun K hK => ?_) (AllReady.cons rfl (fun K hK => ?_) AllReady.nil)
                · skip
                  go_simp
                  refine hK _ _ ?_
                  clear hK K
                  refine wpAny_ready (rs := [16]) (by kernel_rfl) (by simp) ?_
                  refine AllReady.cons rfl (fun K hK => ?_) AllReady.nil
                  go_simp
                  refine hK _ _ ?_
                  clear hK K
                  (refine wpAny_take (i := 17) (v := ?_) rfl (by kernel_rfl) (by kernel_rfl) (by kernel_rfl) (fun _ _ _ h => h) (Or.inl ⟨by kernel_rfl, ?_⟩) ?_; rotate_left; (focus (intro w; go_simp; try with_reducible rfl)))
                  go_simp
                  (refine wpAny_take (i := 18) (v := ?_) rfl (by kernel_rfl) (by kernel_rfl) (by kernel_rfl) (fun _ _ _ h => h) (Or.inl ⟨by kernel_rfl, ?_⟩) ?_; rotate_left; (focus (intro w; go_simp; try with_reducible rfl)))
                  go_simp
                  (refine wpAny_take (i := 19) (v := ?_) rfl (by kernel_rfl) (by kernel_rfl) (by kernel_rfl) (fun _ _ _ h => h) (Or.inl ⟨by kernel_rfl, ?_⟩) ?_; rotate_left; (focus (intro w; go_simp; try with_reducible rfl)))
                  go_simp
                  refine wpAny_take (i := 20) (v := undef) rfl (by kernel_rfl) (by kernel_rfl) (by kernel_rfl) (fun _ _ _ h => h) (Or.inr ⟨by kernel_rfl, rfl⟩) ?_
                  go_simp
                  refine wpAny_take (i := 21) (v := undef) rfl (by kernel_rfl) (by kernel_rfl) (by kernel_rfl) (fun _ _ _ h => h) (Or.inr ⟨by kernel_rfl, rfl⟩) ?_
                  go_simp
                  refine wpAny_take (i := 22) (v := undef) rfl (by kernel_rfl) (by kernel_rfl) (by kernel_rfl) (fun _ _ _ h => h) (Or.inr ⟨by kernel_rfl, rfl⟩) ?_
                  go_simp
                  refine wpAny_take (i := 23) (v := undef) rfl (by kernel_rfl) (by kernel_rfl) (by kernel_rfl) (fun _ _ _ h => h) (Or.inr ⟨by kernel_rfl, rfl⟩) ?_
                  go_simp
                  refine wpAny_take (i := 24) (v := undef) rfl (by kernel_rfl) (by kernel_rfl) (by kernel_rfl) (fun _ _ _ h => h) (Or.inr ⟨by kernel_rfl, rfl⟩) ?_
                  go_simp
                  refine wpAny_take (i := 25) (v := undef) rfl (by kernel_rfl) (by kernel_rfl) (by kernel_rfl) (fun _ _ _ h => h) (Or.inr ⟨by kernel_rfl, rfl⟩) ?_
                  go_simp
                  refine wpAny_take (i := 26) (v := undef) rfl (by kernel_rfl) (by kernel_rfl) (by kernel_rfl) (fun _ _ _ h => h) (Or.inr ⟨by kernel_rfl, rfl⟩) ?_
                  go_simp
                  refine wpAny_take (i := 27) (v := undef) rfl (by kernel_rfl) (by kernel_rfl) (by kernel_rfl) (fun _ _ _ h => h) (Or.inr ⟨by kernel_rfl, rfl⟩) ?_
                  go_simp
                  (refine wpAny_take (i := 28) (v := ?_) rfl (by kernel_rfl) (by kernel_rfl) (by kernel_rfl) (fun _ _ _ h => h) (Or.inl ⟨by kernel_rfl, ?_⟩) ?_; rotate_left; (focus (intro w; go_simp; try with_reducible rfl)))
                  go_simp
                  (refine wpAny_take (i := 29) (v := ?_) rfl (by kernel_rfl) (by kernel_rfl) (by kernel_rfl) (fun _ _ _ h => h) (Or.inl ⟨by kernel_rfl, ?_⟩) ?_; rotate_left; (focus (intro w; go_simp; try with_reducible rfl)))
                  go_simp
                  refine wpAny_done (by kernel_rfl) ?_ _
                  go_wp2_with fail
                  go_meet
                  exact ⟨rfl, HW.out⟩
                · skip
                  go_simp
                  refine hK _ _ ?_
                  clear hK K
                  refine wpAny_ready (rs := [15]) (by kernel_rfl) (by simp) ?_
                  refine AllReady.cons rfl (fun K hK => ?_) AllReady.nil
                  go_simp
                  refine hK _ _ ?_
                  clear hK K
                  (refine wpAny_take (i := 17) (v := ?_) rfl (by kernel_rfl) (by kernel_rfl) (by kernel_rfl) (fun _ _ _ h => h) (Or.inl ⟨by kernel_rfl, ?_⟩) ?_; rotate_left; (focus (intro w; go_simp; try with_reducible rfl)))
                  go_simp
                  (refine wpAny_take (i := 18) (v := ?_) rfl (by kernel_rfl) (by kernel_rfl) (by kernel_rfl) (fun _ _ _ h => h) (Or.inl ⟨by kernel_rfl, ?_⟩) ?_; rotate_left; (focus (intro w; go_simp; try with_reducible rfl)))
                  go_simp
                  (refine wpAny_take (i := 19) (v := ?_) rfl (by kernel_rfl) (by kernel_rfl) (by kernel_rfl) (fun _ _ _ h => h) (Or.inl ⟨by kernel_rfl, ?_⟩) ?_; rotate_left; (focus (intro w; go_simp; try with_reducible rfl)))
                  go_simp
                  refine wpAny_take (i := 20) (v := undef) rfl (by kernel_rfl) (by kernel_rfl) (by kernel_rfl) (fun _ _ _ h => h) (Or.inr ⟨by kernel_rfl, rfl⟩) ?_
                  go_simp
                  refine wpAny_take (i := 21) (v := undef) rfl (by kernel_rfl) (by kernel_rfl) (by kernel_rfl) (fun _ _ _ h => h) (Or.inr ⟨by kernel_rfl, rfl⟩) ?_
                  go_simp
                  refine wpAny_take (i := 22) (v := undef) rfl (by kernel_rfl) (by kernel_rfl) (by kernel_rfl) (fun _ _ _ h => h) (Or.inr ⟨by kernel_rfl, rfl⟩) ?_
                  go_simp
                  refine wpAny_take (i := 23) (v := undef) rfl (by kernel_rfl) (by kernel_rfl) (by kernel_rfl) (fun _ _ _ h => h) (Or.inr ⟨by kernel_rfl, rfl⟩) ?_
                  go_simp
                  refine wpAny_take (i := 24) (v := undef) rfl (by kernel_rfl) (by kernel_rfl) (by kernel_rfl) (fun _ _ _ h => h) (Or.inr ⟨by kernel_rfl, rfl⟩) ?_
                  go_simp
                  refine wpAny_take (i := 25) (v := undef) rfl (by kernel_rfl) (by kernel_rfl) (by kernel_rfl) (fun _ _ _ h => h) (Or.inr ⟨by kernel_rfl, rfl⟩) ?_
                  go_simp
                  refine wpAny_take (i := 26) (v := undef) rfl (by kernel_rfl) (by kernel_rfl) (by kernel_rfl) (fun _ _ _ h => h) (Or.inr ⟨by kernel_rfl, rfl⟩) ?_
                  go_simp
                  refine wpAny_take (i := 27) (v := undef) rfl (by kernel_rfl) (by kernel_rfl) (by kernel_rfl) (fun _ _ _ h => h) (Or.inr ⟨by kernel_rfl, rfl⟩) ?_
                  go_simp
                  (refine wpAny_take (i := 28) (v := ?_) rfl (by kernel_rfl) (by kernel_rfl) (by kernel_rfl) (fun _ _ _ h => h) (Or.inl ⟨by kernel_rfl, ?_⟩) ?_; rotate_left; (focus (intro w; go_simp; try with_reducible rfl)))
                  go_simp
                  (refine wpAny_take (i := 29) (v := ?_) rfl (by kernel_rfl) (by kernel_rfl) (by kernel_rfl) (fun _ _ _ h => h) (Or.inl ⟨by kernel_rfl, ?_⟩) ?_; rotate_left; (focus (intro w; go_simp; try with_reducible rfl)))
                  go_simp
                  refine wpAny_done (by kernel_rfl) ?_ _
                  go_wp2_with fail
                  go_meet
                  exact ⟨rfl, HW.out⟩
              case rest =>
                obtain ⟨rfl, hq⟩ := hcut
                have HQW := Lib.hid hq
                obtain ⟨p0, p1, p2, p3⟩ := HP.out wc hq
                clear hq
                go_wp2_with fail
                go_quiet (fail)
                go_wp2_with fail
                go_roundw
                case rel => exact ⟨k + 1, by omega, by rw [HSN.out], by go_num, (HI.out.trans HQW.out).drewN _⟩
                case measure => simp [intOf] <;> omega

            · skip
              have HSN := Lib.hid (show seenB X s (k + 1) = false by rw [seen_next hs2, hsn, decide_eq_false hxs]; rfl)
              have heq : ∀ w, (Op.equalIn 10000 23 (.agg #[.int .i64 s'.1, .int .i64 s'.2]) (.agg #[.int .i64 s.1, .int .i64 s.2])).run Try.prog w = .ok false w := fun w => by
                rw [eqIn]
                have : (s'.1 == s.1 && s'.2 == s.2) = false := by
                  rw [Bool.eq_false_iff]; intro g; rw [Bool.and_eq_true, beq_iff_eq, beq_iff_eq] at g; exact hxs (Prod.ext g.1 g.2)
                rw [this]
              have hne2 : (lx == ls) = false := by
                rcases HBS.out.2 with ⟨e1, _⟩ | ⟨j, hj, hb⟩
                · rw [e1] at hkl; simp at hkl
                · rw [HSX.out] at hj hb
                  have := seen_before hs2 hj hb hsn hxs
                  rw [HX1.out, HS1.out] at this
                  rw [beq_eq_false_iff_ne]; omega
              clear hsn hs2 hle hx0 hx1 hv' hc' hkl hxs
              go_wp2_with fail
              go_cut [67] (fun v67 wx => v67 = .bool false ∧ Q wr wx)
              case first =>
                refine wp_region_any (by kernel_rfl) ?_
                change wpAny _ _ _ _ _ _ _ (World.drew _)
                have HW := Lib.hid ((Q.refl wr).drew)
                obtain ⟨p0, p1, p2, p3⟩ := HP.out _ HW.out
                (refine wpAny_take (i := 0) (v := ?_) rfl (by kernel_rfl) (by kernel_rfl) (by kernel_rfl) (fun _ _ _ h => h) (Or.inl ⟨by kernel_rfl, ?_⟩) ?_; rotate_left; (focus (intro w; go_simp; try with_reducible rfl)))
                go_simp
                (refine wpAny_take (i := 1) (v := ?_) rfl (by kernel_rfl) (by kernel_rfl) (by kernel_rfl) (fun _ _ _ h => h) (Or.inl ⟨by kernel_rfl, ?_⟩) ?_; rotate_left; (focus (intro w; go_simp; try with_reducible rfl)))
                go_simp
                (refine wpAny_take (i := 2) (v := ?_) rfl (by kernel_rfl) (by kernel_rfl) (by kernel_rfl) (fun _ _ _ h => h) (Or.inl ⟨by kernel_rfl, ?_⟩) ?_; rotate_left; (focus (intro w; go_simp; try with_reducible rfl)))
                go_simp
                refine any_via (α := Unit) 4 [3, 4, 5, 6] (fun _ => [(41, .agg #[.int .i64 s'.1, .int .i64 s'.2]), (42, .int .i64 lx), (43, .agg #[.int .i64 s.1, .int .i64 s.2]), (44, .int .i64 ls)]) (fun _ w' => Q wr w') ?_ ?_
                · intro key
                  have KEY := Lib.hid key
                  clear key
                  refine wpAny_ready (rs := [3, 5]) (by kernel_rfl) (by simp) ?_
                  refine AllReady.cons rfl (fun K hK => ?_) (AllReady.cons rfl (fun K hK => ?_) AllReady.nil)
                  · skip
                    go_simp
                    refine hK _ _ ?_
                    clear hK K
                    refine wpAny_ready (rs := [4, 5]) (by kernel_rfl) (by simp) ?_
                    refine AllReady.cons rfl (fun K hK => ?_) (AllReady.cons rfl (fun K hK => ?_) AllReady.nil)
                    · skip
                      go_simp
                      go_wp2_with (go_at_call_of 11 (s'.1); refine (Len_at s' lx _ HFX HX1).mono ?_; rintro e V13 ⟨rfl, hq⟩)
                      have HW := Lib.hid (HW.out.trans hq)
                      clear hq
                      obtain ⟨p0, p1, p2, p3⟩ := HP.out V13 HW.out
                      refine wpAny_ready (rs := [5]) (by kernel_rfl) (by simp) ?_
                      refine AllReady.cons rfl (fun K hK => ?_) AllReady.nil
                      go_simp
                      refine hK _ _ ?_
                      clear hK K
                      refine wpAny_ready (rs := [6]) (by kernel_rfl) (by simp) ?_
                      refine AllReady.cons rfl (fun K hK => ?_) AllReady.nil
                      go_simp
                      go_wp2_with (go_at_call_of 11 (s.1); refine (Len_at s ls _ HFS HS1).mono ?_; rintro e V14 ⟨rfl, hq⟩)
                      have HW := Lib.hid (HW.out.trans hq)
                      clear hq
                      obtain ⟨p0, p1, p2, p3⟩ := HP.out V14 HW.out
                      exact any_eq (by kernel_rfl) (by kernel_rfl) (by kernel_rfl) (KEY.out () _ HW.out)
                    · skip
                      go_simp
                      refine hK _ _ ?_
                      clear hK K
                      refine wpAny_ready (rs := [4]) (by kernel_rfl) (by simp) ?_
                      refine AllReady.cons rfl (fun K hK => ?_) AllReady.nil
                      go_simp
                      go_wp2_with (go_at_call_of 11 (s'.1); refine (Len_at s' lx _ HFX HX1).mono ?_; rintro e V15 ⟨rfl, hq⟩)
                      have HW := Lib.hid (HW.out.trans hq)
                      clear hq
                      obtain ⟨p0, p1, p2, p3⟩ := HP.out V15 HW.out
                      refine wpAny_ready (rs := [6]) (by kernel_rfl) (by simp) ?_
                      refine AllReady.cons rfl (fun K hK => ?_) AllReady.nil
                      go_simp
                      go_wp2_with (go_at_call_of 11 (s.1); refine (Len_at s ls _ HFS HS1).mono ?_; rintro e V16 ⟨rfl, hq⟩)
                      have HW := Lib.hid (HW.out.trans hq)
                      clear hq
                      obtain ⟨p0, p1, p2, p3⟩ := HP.out V16 HW.out
                      exact any_eq (by kernel_rfl) (by kernel_rfl) (by kernel_rfl) (KEY.out () _ HW.out)
                  · skip
                    go_simp
                    refine hK _ _ ?_
                    clear hK K
                    refine wpAny_ready (rs := [3]) (by kernel_rfl) (by simp) ?_
                    refine AllReady.cons rfl (fun K hK => ?_) AllReady.nil
                    go_simp
                    refine hK _ _ ?_
                    clear hK K
                    refine wpAny_ready (rs := [4]) (by kernel_rfl) (by simp) ?_
                    refine AllReady.cons rfl (fun K hK => ?_) AllReady.nil
                    go_simp
                    go_wp2_with (go_at_call_of 11 (s'.1); refine (Len_at s' lx _ HFX HX1).mono ?_; rintro e V17 ⟨rfl, hq⟩)
                    have HW := Lib.hid (HW.out.trans hq)
                    clear hq
                    obtain ⟨p0, p1, p2, p3⟩ := HP.out V17 HW.out
                    refine wpAny_ready (rs := [6]) (by kernel_rfl) (by simp) ?_
                    refine AllReady.cons rfl (fun K hK => ?_) AllReady.nil
                    go_simp
                    go_wp2_with (go_at_call_of 11 (s.1); refine (Len_at s ls _ HFS HS1).mono ?_; rintro e V18 ⟨rfl, hq⟩)
                    have HW := Lib.hid (HW.out.trans hq)
                    clear hq
                    obtain ⟨p0, p1, p2, p3⟩ := HP.out V18 HW.out
                    exact any_eq (by kernel_rfl) (by kernel_rfl) (by kernel_rfl) (KEY.out () _ HW.out)
                rintro _ V0 hq
                have HW := Lib.hid hq
                clear hq p0 p1 p2 p3
                obtain ⟨p0, p1, p2, p3⟩ := HP.out V0 HW.out
                simp only [setAll, putAll, List.foldl_cons, List.foldl_nil]
                go_simp
                (refine wpAny_take (i := 7) (v := ?_) rfl (by kernel_rfl) (by kernel_rfl) (by kernel_rfl) (fun _ _ _ h => h) (Or.inl ⟨by kernel_rfl, ?_⟩) ?_; rotate_left; (focus (intro w; go_simp; try with_reducible rfl)))
                go_simp
                (refine wpAny_take (i := 8) (v := ?_) rfl (by kernel_rfl) (by kernel_rfl) (by kernel_rfl) (fun _ _ _ h => h) (Or.inl ⟨by kernel_rfl, ?_⟩) ?_; rotate_left; (focus (intro w; go_simp; try with_reducible rfl)))
                go_simp
                (refine wpAny_take (i := 9) (v := ?_) rfl (by kernel_rfl) (by kernel_rfl) (by kernel_rfl) (fun _ _ _ h => h) (Or.inl ⟨by kernel_rfl, ?_⟩) ?_; rotate_left; (focus (intro w; go_simp; try with_reducible rfl)))
                go_simp
                (refine wpAny_take (i := 10) (v := ?_) rfl (by kernel_rfl) (by kernel_rfl) (by kernel_rfl) (fun _ _ _ h => h) (Or.inl ⟨by kernel_rfl, ?_⟩) ?_; rotate_left; (focus (intro w; go_simp; try with_reducible rfl)))
                go_simp
                (refine wpAny_take (i := 11) (v := ?_) rfl (by kernel_rfl) (by kernel_rfl) (by kernel_rfl) (fun _ _ _ h => h) (Or.inl ⟨by kernel_rfl, ?_⟩) ?_; rotate_left; (focus (intro w; go_simp; try with_reducible rfl)))
                go_simp
                (refine wpAny_take (i := 12) (v := ?_) rfl (by kernel_rfl) (by kernel_rfl) (by kernel_rfl) (fun _ _ _ h => h) (Or.inl ⟨by kernel_rfl, ?_⟩) ?_; rotate_left; (focus (intro w; go_simp; try with_reducible rfl)))
                go_simp
                (refine wpAny_take (i := 13) (v := ?_) rfl (by kernel_rfl) (by kernel_rfl) (by kernel_rfl) (fun _ _ _ h => h) (Or.inl ⟨by kernel_rfl, ?_⟩) ?_; rotate_left; (focus (intro w; go_simp; try with_reducible rfl)))
                go_simp
                (refine wpAny_take (i := 14) (v := ?_) rfl (by kernel_rfl) (by kernel_rfl) (by kernel_rfl) (fun _ _ _ h => h) (Or.inl ⟨by kernel_rfl, ?_⟩) ?_; rotate_left; (focus (intro w; go_simp; try with_reducible rfl)))
                go_simp
                refine wpAny_ready (rs := [15, 16]) (by kernel_rfl) (by simp) ?_
                refine AllReady.cons rfl (fun K hK => ?_) (AllReady.cons rfl (fun K hK => ?_) AllReady.nil)
                · skip
                  go_simp
                  refine hK _ _ ?_
                  clear hK K
                  refine wpAny_ready (rs := [16]) (by kernel_rfl) (by simp) ?_
                  refine AllReady.cons rfl (fun K hK => ?_) AllReady.nil
                  go_simp
                  refine hK _ _ ?_
                  clear hK K
                  (refine wpAny_take (i := 17) (v := ?_) rfl (by kernel_rfl) (by kernel_rfl) (by kernel_rfl) (fun _ _ _ h => h) (Or.inl ⟨by kernel_rfl, ?_⟩) ?_; rotate_left; (focus (intro w; go_simp; try with_reducible rfl)))
                  go_simp
                  (refine wpAny_take (i := 18) (v := ?_) rfl (by kernel_rfl) (by kernel_rfl) (by kernel_rfl) (fun _ _ _ h => h) (Or.inl ⟨by kernel_rfl, ?_⟩) ?_; rotate_left; (focus (intro w; go_simp; try with_reducible rfl)))
                  go_simp
                  (refine wpAny_take (i := 19) (v := ?_) rfl (by kernel_rfl) (by kernel_rfl) (by kernel_rfl) (fun _ _ _ h => h) (Or.inl ⟨by kernel_rfl, ?_⟩) ?_; rotate_left; (focus (intro w; go_simp; try with_reducible rfl)))
                  go_simp
                  (refine wpAny_take (i := 20) (v := ?_) rfl (by kernel_rfl) (by kernel_rfl) (by kernel_rfl) (fun _ _ _ h => h) (Or.inl ⟨by kernel_rfl, ?_⟩) ?_; rotate_left; (focus (intro w; go_simp; try with_reducible rfl)))
                  go_simp
                  (refine wpAny_take (i := 21) (v := ?_) rfl (by kernel_rfl) (by kernel_rfl) (by kernel_rfl) (fun _ _ _ h => h) (Or.inl ⟨by kernel_rfl, ?_⟩) ?_; rotate_left; (focus (intro w; go_simp; try with_reducible rfl)))
                  go_simp
                  (refine wpAny_take (i := 22) (v := ?_) rfl (by kernel_rfl) (by kernel_rfl) (by kernel_rfl) (fun _ _ _ h => h) (Or.inl ⟨by kernel_rfl, ?_⟩) ?_; rotate_left; (focus (intro w; go_simp; try with_reducible rfl)))
                  go_simp
                  refine wpAny_ready (rs := [23, 25]) (by kernel_rfl) (by simp) ?_
                  refine AllReady.cons rfl (fun K hK => ?_) (AllReady.cons rfl (fun K hK => ?_) AllReady.nil)
                  · skip
                    go_simp
                    refine hK _ _ ?_
                    clear hK K
                    refine wpAny_ready (rs := [24, 25]) (by kernel_rfl) (by simp) ?_
                    refine AllReady.cons rfl (fun K hK => ?_) (AllReady.cons rfl (fun K hK => ?_) AllReady.nil)
                    · skip
                      go_simp
                      go_wp2_with (go_at_call_of 11 (s'.1); refine (Len_at s' lx _ HFX HX1).mono ?_; rintro e V19 ⟨rfl, hq⟩)
                      have HW := Lib.hid (HW.out.trans hq)
                      clear hq
                      obtain ⟨p0, p1, p2, p3⟩ := HP.out V19 HW.out
                      refine wpAny_ready (rs := [25]) (by kernel_rfl) (by simp) ?_
                      refine AllReady.cons rfl (fun K hK => ?_) AllReady.nil
                      go_simp
                      refine hK _ _ ?_
                      clear hK K
                      refine wpAny_ready (rs := [26]) (by kernel_rfl) (by simp) ?_
                      refine AllReady.cons rfl (fun K hK => ?_) AllReady.nil
                      go_simp
                      go_wp2_with (go_at_call_of 11 (s.1); refine (Len_at s ls _ HFS HS1).mono ?_; rintro e V20 ⟨rfl, hq⟩)
                      have HW := Lib.hid (HW.out.trans hq)
                      clear hq
                      obtain ⟨p0, p1, p2, p3⟩ := HP.out V20 HW.out
                      (refine wpAny_take (i := 27) (v := ?_) rfl (by kernel_rfl) (by kernel_rfl) (by kernel_rfl) (fun _ _ _ h => h) (Or.inl ⟨by kernel_rfl, ?_⟩) ?_; rotate_left; (focus (intro w; go_simp; try with_reducible rfl)))
                      go_simp
                      (refine wpAny_take (i := 28) (v := ?_) rfl (by kernel_rfl) (by kernel_rfl) (by kernel_rfl) (fun _ _ _ h => h) (Or.inl ⟨by kernel_rfl, ?_⟩) ?_; rotate_left; (focus (intro w; go_simp; try with_reducible rfl)))
                      go_simp
                      (refine wpAny_take (i := 29) (v := ?_) rfl (by kernel_rfl) (by kernel_rfl) (by kernel_rfl) (fun _ _ _ h => h) (Or.inl ⟨by kernel_rfl, ?_⟩) ?_; rotate_left; (focus (intro w; go_simp; try with_reducible rfl)))
                      go_simp
                      refine wpAny_done (by kernel_rfl) ?_ _
                      go_wp2_with fail
                      go_meet
                      exact ⟨rfl, HW.out⟩
                    · skip
                      go_simp
                      refine hK _ _ ?_
                      clear hK K
                      refine wpAny_ready (rs := [24]) (by kernel_rfl) (by simp) ?_
                      refine AllReady.cons rfl (fun K hK => ?_) AllReady.nil
                      go_simp
                      go_wp2_with (go_at_call_of 11 (s'.1); refine (Len_at s' lx _ HFX HX1).mono ?_; rintro e V21 ⟨rfl, hq⟩)
                      have HW := Lib.hid (HW.out.trans hq)
                      clear hq
                      obtain ⟨p0, p1, p2, p3⟩ := HP.out V21 HW.out
                      refine wpAny_ready (rs := [26]) (by kernel_rfl) (by simp) ?_
                      refine AllReady.cons rfl (fun K hK => ?_) AllReady.nil
                      go_simp
                      go_wp2_with (go_at_call_of 11 (s.1); refine (Len_at s ls _ HFS HS1).mono ?_; rintro e V22 ⟨rfl, hq⟩)
                      have HW := Lib.hid (HW.out.trans hq)
                      clear hq
                      obtain ⟨p0, p1, p2, p3⟩ := HP.out V22 HW.out
                      (refine wpAny_take (i := 27) (v := ?_) rfl (by kernel_rfl) (by kernel_rfl) (by kernel_rfl) (fun _ _ _ h => h) (Or.inl ⟨by kernel_rfl, ?_⟩) ?_; rotate_left; (focus (intro w; go_simp; try with_reducible rfl)))
                      go_simp
                      (refine wpAny_take (i := 28) (v := ?_) rfl (by kernel_rfl) (by kernel_rfl) (by kernel_rfl) (fun _ _ _ h => h) (Or.inl ⟨by kernel_rfl, ?_⟩) ?_; rotate_left; (focus (intro w; go_simp; try with_reducible rfl)))
                      go_simp
                      (refine wpAny_take (i := 29) (v := ?_) rfl (by kernel_rfl) (by kernel_rfl) (by kernel_rfl) (fun _ _ _ h => h) (Or.inl ⟨by kernel_rfl, ?_⟩) ?_; rotate_left; (focus (intro w; go_simp; try with_reducible rfl)))
                      go_simp
                      refine wpAny_done (by kernel_rfl) ?_ _
                      go_wp2_with fail
                      go_meet
                      exact ⟨rfl, HW.out⟩
                  · skip
                    go_simp
                    refine hK _ _ ?_
                    clear hK K
                    refine wpAny_ready (rs := [23]) (by kernel_rfl) (by simp) ?_
                    refine AllReady.cons rfl (fun K hK => ?_) AllReady.nil
                    go_simp
                    refine hK _ _ ?_
                    clear hK K
                    refine wpAny_ready (rs := [24]) (by kernel_rfl) (by simp) ?_
                    refine AllReady.cons rfl (fun K hK => ?_) AllReady.nil
                    go_simp
                    go_wp2_with (go_at_call_of 11 (s'.1); refine (Len_at s' lx _ HFX HX1).mono ?_; rintro e V23 ⟨rfl, hq⟩)
                    have HW := Lib.hid (HW.out.trans hq)
                    clear hq
                    obtain ⟨p0, p1, p2, p3⟩ := HP.out V23 HW.out
                    refine wpAny_ready (rs := [26]) (by kernel_rfl) (by simp) ?_
                    refine AllReady.cons rfl (fun K hK => ?_) AllReady.nil
                    go_simp
                    go_wp2_with (go_at_call_of 11 (s.1); refine (Len_at s ls _ HFS HS1).mono ?_; rintro e V24 ⟨rfl, hq⟩)
                    have HW := Lib.hid (HW.out.trans hq)
                    clear hq
                    obtain ⟨p0, p1, p2, p3⟩ := HP.out V24 HW.out
                    (refine wpAny_take (i := 27) (v := ?_) rfl (by kernel_rfl) (by kernel_rfl) (by kernel_rfl) (fun _ _ _ h => h) (Or.inl ⟨by kernel_rfl, ?_⟩) ?_; rotate_left; (focus (intro w; go_simp; try with_reducible rfl)))
                    go_simp
                    (refine wpAny_take (i := 28) (v := ?_) rfl (by kernel_rfl) (by kernel_rfl) (by kernel_rfl) (fun _ _ _ h => h) (Or.inl ⟨by kernel_rfl, ?_⟩) ?_; rotate_left; (focus (intro w; go_simp; try with_reducible rfl)))
                    go_simp
                    (refine wpAny_take (i := 29) (v := ?_) rfl (by kernel_rfl) (by kernel_rfl) (by kernel_rfl) (fun _ _ _ h => h) (Or.inl ⟨by kernel_rfl, ?_⟩) ?_; rotate_left; (focus (intro w; go_simp; try with_reducible rfl)))
                    go_simp
                    refine wpAny_done (by kernel_rfl) ?_ _
                    go_wp2_with fail
                    go_meet
                    exact ⟨rfl, HW.out⟩
                · skip
                  go_simp
                  refine hK _ _ ?_
                  clear hK K
                  refine wpAny_ready (rs := [15]) (by kernel_rfl) (by simp) ?_
                  refine AllReady.cons rfl (fun K hK => ?_) AllReady.nil
                  go_simp
                  refine hK _ _ ?_
                  clear hK K
                  (refine wpAny_take (i := 17) (v := ?_) rfl (by kernel_rfl) (by kernel_rfl) (by kernel_rfl) (fun _ _ _ h => h) (Or.inl ⟨by kernel_rfl, ?_⟩) ?_; rotate_left; (focus (intro w; go_simp; try with_reducible rfl)))
                  go_simp
                  (refine wpAny_take (i := 18) (v := ?_) rfl (by kernel_rfl) (by kernel_rfl) (by kernel_rfl) (fun _ _ _ h => h) (Or.inl ⟨by kernel_rfl, ?_⟩) ?_; rotate_left; (focus (intro w; go_simp; try with_reducible rfl)))
                  go_simp
                  (refine wpAny_take (i := 19) (v := ?_) rfl (by kernel_rfl) (by kernel_rfl) (by kernel_rfl) (fun _ _ _ h => h) (Or.inl ⟨by kernel_rfl, ?_⟩) ?_; rotate_left; (focus (intro w; go_simp; try with_reducible rfl)))
                  go_simp
                  (refine wpAny_take (i := 20) (v := ?_) rfl (by kernel_rfl) (by kernel_rfl) (by kernel_rfl) (fun _ _ _ h => h) (Or.inl ⟨by kernel_rfl, ?_⟩) ?_; rotate_left; (focus (intro w; go_simp; try with_reducible rfl)))
                  go_simp
                  (refine wpAny_take (i := 21) (v := ?_) rfl (by kernel_rfl) (by kernel_rfl) (by kernel_rfl) (fun _ _ _ h => h) (Or.inl ⟨by kernel_rfl, ?_⟩) ?_; rotate_left; (focus (intro w; go_simp; try with_reducible rfl)))
                  go_simp
                  (refine wpAny_take (i := 22) (v := ?_) rfl (by kernel_rfl) (by kernel_rfl) (by kernel_rfl) (fun _ _ _ h => h) (Or.inl ⟨by kernel_rfl, ?_⟩) ?_; rotate_left; (focus (intro w; go_simp; try with_reducible rfl)))
                  go_simp
                  refine wpAny_ready (rs := [23, 25]) (by kernel_rfl) (by simp) ?_
                  refine AllReady.cons rfl (fun K hK => ?_) (AllReady.cons rfl (fun K hK => ?_) AllReady.nil)
                  · skip
                    go_simp
                    refine hK _ _ ?_
                    clear hK K
                    refine wpAny_ready (rs := [24, 25]) (by kernel_rfl) (by simp) ?_
                    refine AllReady.cons rfl (fun K hK => ?_) (AllReady.cons rfl (fun K hK => ?_) AllReady.nil)
                    · skip
                      go_simp
                      go_wp2_with (go_at_call_of 11 (s'.1); refine (Len_at s' lx _ HFX HX1).mono ?_; rintro e V25 ⟨rfl, hq⟩)
                      have HW := Lib.hid (HW.out.trans hq)
                      clear hq
                      obtain ⟨p0, p1, p2, p3⟩ := HP.out V25 HW.out
                      refine wpAny_ready (rs := [25]) (by kernel_rfl) (by simp) ?_
                      refine AllReady.cons rfl (fun K hK => ?_) AllReady.nil
                      go_simp
                      refine hK _ _ ?_
                      clear hK K
                      refine wpAny_ready (rs := [26]) (by kernel_rfl) (by simp) ?_
                      refine AllReady.cons rfl (fun K hK => ?_) AllReady.nil
                      go_simp
                      go_wp2_with (go_at_call_of 11 (s.1); refine (Len_at s ls _ HFS HS1).mono ?_; rintro e V26 ⟨rfl, hq⟩)
                      have HW := Lib.hid (HW.out.trans hq)
                      clear hq
                      obtain ⟨p0, p1, p2, p3⟩ := HP.out V26 HW.out
                      (refine wpAny_take (i := 27) (v := ?_) rfl (by kernel_rfl) (by kernel_rfl) (by kernel_rfl) (fun _ _ _ h => h) (Or.inl ⟨by kernel_rfl, ?_⟩) ?_; rotate_left; (focus (intro w; go_simp; try with_reducible rfl)))
                      go_simp
                      (refine wpAny_take (i := 28) (v := ?_) rfl (by kernel_rfl) (by kernel_rfl) (by kernel_rfl) (fun _ _ _ h => h) (Or.inl ⟨by kernel_rfl, ?_⟩) ?_; rotate_left; (focus (intro w; go_simp; try with_reducible rfl)))
                      go_simp
                      (refine wpAny_take (i := 29) (v := ?_) rfl (by kernel_rfl) (by kernel_rfl) (by kernel_rfl) (fun _ _ _ h => h) (Or.inl ⟨by kernel_rfl, ?_⟩) ?_; rotate_left; (focus (intro w; go_simp; try with_reducible rfl)))
                      go_simp
                      refine wpAny_done (by kernel_rfl) ?_ _
                      go_wp2_with fail
                      go_meet
                      exact ⟨rfl, HW.out⟩
                    · skip
                      go_simp
                      refine hK _ _ ?_
                      clear hK K
                      refine wpAny_ready (rs := [24]) (by kernel_rfl) (by simp) ?_
                      refine AllReady.cons rfl (fun K hK => ?_) AllReady.nil
                      go_simp
                      go_wp2_with (go_at_call_of 11 (s'.1); refine (Len_at s' lx _ HFX HX1).mono ?_; rintro e V27 ⟨rfl, hq⟩)
                      have HW := Lib.hid (HW.out.trans hq)
                      clear hq
                      obtain ⟨p0, p1, p2, p3⟩ := HP.out V27 HW.out
                      refine wpAny_ready (rs := [26]) (by kernel_rfl) (by simp) ?_
                      refine AllReady.cons rfl (fun K hK => ?_) AllReady.nil
                      go_simp
                      go_wp2_with (go_at_call_of 11 (s.1); refine (Len_at s ls _ HFS HS1).mono ?_; rintro e V28 ⟨rfl, hq⟩)
                      have HW := Lib.hid (HW.out.trans hq)
                      clear hq
                      obtain ⟨p0, p1, p2, p3⟩ := HP.out V28 HW.out
                      (refine wpAny_take (i := 27) (v := ?_) rfl (by kernel_rfl) (by kernel_rfl) (by kernel_rfl) (fun _ _ _ h => h) (Or.inl ⟨by kernel_rfl, ?_⟩) ?_; rotate_left; (focus (intro w; go_simp; try with_reducible rfl)))
                      go_simp
                      (refine wpAny_take (i := 28) (v := ?_) rfl (by kernel_rfl) (by kernel_rfl) (by kernel_rfl) (fun _ _ _ h => h) (Or.inl ⟨by kernel_rfl, ?_⟩) ?_; rotate_left; (focus (intro w; go_simp; try with_reducible rfl)))
                      go_simp
                      (refine wpAny_take (i := 29) (v := ?_) rfl (by kernel_rfl) (by kernel_rfl) (by kernel_rfl) (fun _ _ _ h => h) (Or.inl ⟨by kernel_rfl, ?_⟩) ?_; rotate_left; (focus (intro w; go_simp; try with_reducible rfl)))
                      go_simp
                      refine wpAny_done (by kernel_rfl) ?_ _
                      go_wp2_with fail
                      go_meet
                      exact ⟨rfl, HW.out⟩
                  · skip
                    go_simp
                    refine hK _ _ ?_
                    clear hK K
                    refine wpAny_ready (rs := [23]) (by kernel_rfl) (by simp) ?_
                    refine AllReady.cons rfl (fun K hK => ?_) AllReady.nil
                    go_simp
                    refine hK _ _ ?_
                    clear hK K
                    refine wpAny_ready (rs := [24]) (by kernel_rfl) (by simp) ?_
                    refine AllReady.cons rfl (fun K hK => ?_) AllReady.nil
                    go_simp
                    go_wp2_with (go_at_call_of 11 (s'.1); refine (Len_at s' lx _ HFX HX1).mono ?_; rintro e V29 ⟨rfl, hq⟩)
                    have HW := Lib.hid (HW.out.trans hq)
                    clear hq
                    obtain ⟨p0, p1, p2, p3⟩ := HP.out V29 HW.out
                    refine wpAny_ready (rs := [26]) (by kernel_rfl) (by simp) ?_
                    refine AllReady.cons rfl (fun K hK => ?_) AllReady.nil
                    go_simp
                    go_wp2_with (go_at_call_of 11 (s.1); refine (Len_at s ls _ HFS HS1).mono ?_; rintro e V30 ⟨rfl, hq⟩)
                    have HW := Lib.hid (HW.out.trans hq)
                    clear hq
                    obtain ⟨p0, p1, p2, p3⟩ := HP.out V30 HW.out
                    (refine wpAny_take (i := 27) (v := ?_) rfl (by kernel_rfl) (by kernel_rfl) (by kernel_rfl) (fun _ _ _ h => h) (Or.inl ⟨by kernel_rfl, ?_⟩) ?_; rotate_left; (focus (intro w; go_simp; try with_reducible rfl)))
                    go_simp
                    (refine wpAny_take (i := 28) (v := ?_) rfl (by kernel_rfl) (by kernel_rfl) (by kernel_rfl) (fun _ _ _ h => h) (Or.inl ⟨by kernel_rfl, ?_⟩) ?_; rotate_left; (focus (intro w; go_simp; try with_reducible rfl)))
                    go_simp
                    (refine wpAny_take (i := 29) (v := ?_) rfl (by kernel_rfl) (by kernel_rfl) (by kernel_rfl) (fun _ _ _ h => h) (Or.inl ⟨by kernel_rfl, ?_⟩) ?_; rotate_left; (focus (intro w; go_simp; try with_reducible rfl)))
                    go_simp
                    refine wpAny_done (by kernel_rfl) ?_ _
                    go_wp2_with fail
                    go_meet
                    exact ⟨rfl, HW.out⟩
              case rest =>
                obtain ⟨rfl, hq⟩ := hcut
                have HQW := Lib.hid hq
                obtain ⟨p0, p1, p2, p3⟩ := HP.out wc hq
                clear hq
                go_wp2_with fail
                go_quiet (fail)
                go_wp2_with fail
                go_roundw
                case rel => exact ⟨k + 1, by omega, by rw [HSN.out], by go_num, (HI.out.trans HQW.out).drewN _⟩
                case measure => simp [intOf] <;> omega

        · obtain rfl : k = n := by omega
          have HSE := Lib.hid (show seenB X s k = true by rw [← HN.out]; exact seen_end HIN.out)
          rw [HSE.out]
          go_wp2_with fail
          refine (AW.out _).mono ?_; rintro e wz ⟨rfl, hq⟩
          have HQZ := Lib.hid (((HQ3.out.alloc _).trans HI.out).trans hq)
          clear hq
          go_wp2_with fail
          go_ret
          exact ⟨rfl, HQZ.out⟩
end Go.Proofs.Ytnbpkbdkhegheaa
