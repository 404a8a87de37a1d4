/- The examples of the chapter hold: the contract of awake. -/
import Derived.Test.YtnbpkbdkhegheaaAw
set_option linter.unusedVariables false
set_option linter.unusedSimpArgs false
namespace Go.Proofs.Ytnbpkbdkhegheaa
open Go.ChangeShapes Go.WideShapes Go.ChangeAt Go.RowKit Sm

/-- where the orders of a region's operations meet: two slices of the same list -/
def CutR (W0 : World) (L : List S) (v v1 : Value) (w' : World) : Prop := Rd w' v L ∧ Rd w' v1 L ∧ Q W0 w'
theorem nn_some {a : Addr} {n c : Nat} : Nn (.slice (some a) n c) := fun n' c' h => by injection h with h; cases h
set_option maxRecDepth 100000 in
set_option maxHeartbeats 40000000 in
theorem awake_c (w : World) : Calls Try.prog 15 #[] w fun e w' => e = .returned (.bool true) ∧ Q w w' := by
  have hA := rd_new w aL 5 (by decide) #[.int .i64 5, .int .i64 8, .int .i64 1, .int .i64 3, .int .i64 7, .int .i64 7, .int .i64 3, .int .i64 4, .int .i64 6, .int .i64 9] rfl
  have hB := rd_new (w.alloc (.cells #[.int .i64 5, .int .i64 8, .int .i64 1, .int .i64 3, .int .i64 7, .int .i64 7, .int .i64 3, .int .i64 4, .int .i64 6, .int .i64 9] 23)) [(0, 2), (5, 8), (10, 13)] 3 (by decide) #[.int .i64 0, .int .i64 2, .int .i64 5, .int .i64 8, .int .i64 10, .int .i64 13] rfl
  rw [show (w.alloc (.cells #[.int .i64 5, .int .i64 8, .int .i64 1, .int .i64 3, .int .i64 7, .int .i64 7, .int .i64 3, .int .i64 4, .int .i64 6, .int .i64 9] 23)).heap.size = w.heap.size + 1 by simp] at hB
  have HA := Lib.hid (hA.q ((Q.refl _).alloc (.cells #[.int .i64 0, .int .i64 2, .int .i64 5, .int .i64 8, .int .i64 10, .int .i64 13] 23)))
  have HB := Lib.hid hB
  have HQ0 := Lib.hid (((Q.refl w).alloc (.cells #[.int .i64 5, .int .i64 8, .int .i64 1, .int .i64 3, .int .i64 7, .int .i64 7, .int .i64 3, .int .i64 4, .int .i64 6, .int .i64 9] 23)).alloc (.cells #[.int .i64 0, .int .i64 2, .int .i64 5, .int .i64 8, .int .i64 10, .int .i64 13] 23))
  clear hA hB
  go_enter Try.func15, Try.ntmps15
  go_wp2_with fail
  refine (aw1 _ _ HB.out).mono ?_
  rintro e w1 ⟨rfl, hq1⟩
  have HQ1 := Lib.hid (HQ0.out.trans hq1)
  have HA1 := Lib.hid ((HA.out.q hq1).q ((Q.refl _).alloc (.cells #[.int .i64 5, .int .i64 8] 23)))
  have HBX1 := Lib.hid (Bx.new w1 (5, 8))
  clear hq1
  go_wp2_with fail
  refine (aw2 _ _ (rd_part HA1.out 2 1 3 (by decide) _ rfl rfl (by decide))).mono ?_
  rintro e w2 ⟨rfl, hq2⟩
  have HQ2 := Lib.hid ((((HQ1.out.alloc (.cells #[.int .i64 5, .int .i64 8] 23)).trans hq2).alloc (.cells #[.int .i64 0, .int .i64 0] 23)).drew)
  have hqa := ((Q.trans hq2 ((Q.refl _).alloc (.cells #[.int .i64 0, .int .i64 0] 23)))).drew
  have HRA := Lib.hid (HA1.out.q hqa)
  have HBX := Lib.hid (HBX1.out.q hqa)
  have heq1 : ∀ w, (Op.equalIn 10000 23 (.agg #[.int .i64 3, .int .i64 5]) (.agg #[.int .i64 3, .int .i64 5])).run Try.prog w = .ok true w := fun w => by rw [eqIn]; rfl
  have heq2 : ∀ w, (Op.equalIn 10000 23 (.agg #[.int .i64 5, .int .i64 8]) (.agg #[.int .i64 5, .int .i64 8])).run Try.prog w = .ok true w := fun w => by rw [eqIn]; rfl
  have hgd := eqGd
  clear hq2 hqa
  go_wp2_with fail
  refine wp_region_any (by kernel_rfl) ?_
  change wpAny _ _ _ _ _ _ _ (World.drew _)
  obtain ⟨W0, hW0⟩ : ∃ x, (w2.alloc (.cells #[.int .i64 0, .int .i64 0] 23)).drew = x := ⟨_, rfl⟩
  rw [hW0] at HQ2 HRA HBX
  rw [hW0]
  have HW := Lib.hid (Q.refl W0)
  clear hW0
  (refine wpAny_take (i := 0) (v := ?_) rfl (by kernel_rfl) (by kernel_rfl) (by kernel_rfl) (fun _ _ _ h => h) (Or.inl ⟨by kernel_rfl, ?_⟩) ?_; rotate_left; (focus (intro w; go_simp; try with_reducible rfl)))
  go_simp
  refine wpAny_ready (rs := [1]) (by kernel_rfl) (by simp) ?_
  refine AllReady.cons rfl (fun K hK => ?_) AllReady.nil
  go_simp
  go_wp2_with (go_at_call 11; refine (aw3 _).mono ?_; rintro e W1 ⟨rfl, hq⟩)
  have HW := Lib.hid (HW.out.trans hq)
  clear hq
  as_aux_lemma =>
   (refine wpAny_take (i := 2) (v := ?_) rfl (by kernel_rfl) (by kernel_rfl) (by kernel_rfl) (fun _ _ _ h => h) (Or.inl ⟨by kernel_rfl, ?_⟩) ?_; rotate_left; (focus (intro w; go_simp; try with_reducible rfl)))
   go_simp
   (refine wpAny_take (i := 3) (v := ?_) rfl (by kernel_rfl) (by kernel_rfl) (by kernel_rfl) (fun _ _ _ h => h) (Or.inl ⟨by kernel_rfl, ?_⟩) ?_; rotate_left; (focus (intro w; go_simp; try with_reducible rfl)))
   go_simp
   (refine wpAny_take (i := 4) (v := ?_) rfl (by kernel_rfl) (by kernel_rfl) (by kernel_rfl) (fun _ _ _ h => h) (Or.inl ⟨by kernel_rfl, ?_⟩) ?_; rotate_left; (focus (intro w; go_simp; try with_reducible rfl)))
   go_simp
   (refine wpAny_take (i := 5) (v := ?_) rfl (by kernel_rfl) (by kernel_rfl) (by kernel_rfl) (fun _ _ _ h => h) (Or.inl ⟨by kernel_rfl, ?_⟩) ?_; rotate_left; (focus (intro w; go_simp; try with_reducible rfl)))
   go_simp
   (refine wpAny_take (i := 7) (v := ?_) rfl (by kernel_rfl) (by kernel_rfl) (by kernel_rfl) (fun _ _ _ h => h) (Or.inl ⟨by kernel_rfl, ?_⟩) ?_; rotate_left; (focus (intro w; go_simp; try with_reducible rfl)))
   go_simp
   refine wpAny_ready (rs := [6]) (by kernel_rfl) (by simp) ?_
   refine AllReady.cons rfl (fun K hK => ?_) AllReady.nil
   go_simp
   go_wp2_with (go_at_call 13; refine (aw4 _).mono ?_; rintro e W2 ⟨rfl, hq⟩)
   have HW := Lib.hid (HW.out.trans hq)
   clear hq
   as_aux_lemma =>
    (refine wpAny_take (i := 8) (v := ?_) rfl (by kernel_rfl) (by kernel_rfl) (by kernel_rfl) (fun _ _ _ h => h) (Or.inl ⟨by kernel_rfl, ?_⟩) ?_; rotate_left; (focus (intro w; go_simp; try with_reducible rfl)))
    go_simp
    (refine wpAny_take (i := 9) (v := ?_) rfl (by kernel_rfl) (by kernel_rfl) (by kernel_rfl) (fun _ _ _ h => h) (Or.inl ⟨by kernel_rfl, ?_⟩) ?_; rotate_left; (focus (intro w; go_simp; try with_reducible rfl)))
    go_simp
    (refine wpAny_take (i := 10) (v := ?_) rfl (by kernel_rfl) (by kernel_rfl) (by kernel_rfl) (fun _ _ _ h => h) (Or.inl ⟨by kernel_rfl, ?_⟩) ?_; rotate_left; (focus (intro w; go_simp; try with_reducible rfl)))
    go_simp
    (refine wpAny_take (i := 11) (v := ?_) rfl (by kernel_rfl) (by kernel_rfl) (by kernel_rfl) (fun _ _ _ h => h) (Or.inl ⟨by kernel_rfl, ?_⟩) ?_; rotate_left; (focus (intro w; go_simp; try with_reducible rfl)))
    go_simp
    (refine wpAny_take (i := 13) (v := ?_) rfl (by kernel_rfl) (by kernel_rfl) (by kernel_rfl) (fun _ _ _ h => h) (Or.inl ⟨by kernel_rfl, ?_⟩) ?_; rotate_left; (focus (intro w; go_simp; try with_reducible rfl)))
    go_simp
    (refine wpAny_take (i := 14) (v := ?_) rfl (by kernel_rfl) (by kernel_rfl) (by kernel_rfl) (fun _ _ _ h => h) (Or.inl ⟨by kernel_rfl, ?_⟩) ?_; rotate_left; (focus (intro w; go_simp; try with_reducible rfl)))
    go_simp
    refine any_via (α := Value × Value) 2 [12, 15] (fun x => [(38, x.1), (41, x.2)]) (fun x w' => CutR W0 [(1, 4), (5, 9)] (x.1) (x.2) w') ?_ ?_
    · as_aux_lemma =>
       intro key
       have KEY := Lib.hid key
       clear key
       refine wpAny_ready (rs := [12, 15]) (by kernel_rfl) (by simp) ?_
       refine AllReady.cons rfl (fun K hK => ?_) (AllReady.cons rfl (fun K hK => ?_) AllReady.nil)
       · as_aux_lemma =>
          go_simp
          go_wp2_with (go_at_call 18; refine (aw5 _ _ (HRA.out.q HW.out)).mono ?_; rintro e W3 ⟨x3, rfl, hr, hq⟩)
          have HW := Lib.hid (HW.out.trans hq)
          have HR12 := Lib.hid hr
          clear hr
          clear hq
          refine wpAny_ready (rs := [15]) (by kernel_rfl) (by simp) ?_
          refine AllReady.cons rfl (fun K hK => ?_) AllReady.nil
          go_simp
          refine hK _ _ ?_
          clear hK K
          obtain ⟨W4, hW4⟩ : ∃ x, W3.alloc (.cells #[.int .i64 1, .int .i64 4, .int .i64 5, .int .i64 9] 23) = x := ⟨_, rfl⟩
          have HR15 := Lib.hid (show Rd W4 (.slice (some ⟨W3.heap.size, 0, none⟩) 2 2) [(1, 4), (5, 9)] by rw [← hW4]; exact rd_new _ [(1, 4), (5, 9)] 2 (Nat.le_refl _) _ rfl)
          have hq : Q W3 W4 := by rw [← hW4]; exact (Q.refl _).alloc _
          rw [hW4]
          have HW := Lib.hid (HW.out.trans hq)
          have HR12 := Lib.hid (HR12.out.q hq)
          clear hq hW4
          exact any_eq (by kernel_rfl) (by kernel_rfl) (by kernel_rfl) (KEY.out (x3, (.slice (some ⟨W3.heap.size, 0, none⟩) 2 2)) _ ⟨HR12.out, HR15.out, HW.out⟩)
       · as_aux_lemma =>
          go_simp
          refine hK _ _ ?_
          clear hK K
          obtain ⟨W5, hW5⟩ : ∃ x, W2.alloc (.cells #[.int .i64 1, .int .i64 4, .int .i64 5, .int .i64 9] 23) = x := ⟨_, rfl⟩
          have HR15 := Lib.hid (show Rd W5 (.slice (some ⟨W2.heap.size, 0, none⟩) 2 2) [(1, 4), (5, 9)] by rw [← hW5]; exact rd_new _ [(1, 4), (5, 9)] 2 (Nat.le_refl _) _ rfl)
          have hq : Q W2 W5 := by rw [← hW5]; exact (Q.refl _).alloc _
          rw [hW5]
          have HW := Lib.hid (HW.out.trans hq)
          clear hq hW5
          refine wpAny_ready (rs := [12]) (by kernel_rfl) (by simp) ?_
          refine AllReady.cons rfl (fun K hK => ?_) AllReady.nil
          go_simp
          go_wp2_with (go_at_call 18; refine (aw5 _ _ (HRA.out.q HW.out)).mono ?_; rintro e W6 ⟨x6, rfl, hr, hq⟩)
          have HW := Lib.hid (HW.out.trans hq)
          have HR15 := Lib.hid (HR15.out.q hq)
          have HR12 := Lib.hid hr
          clear hr
          clear hq
          exact any_eq (by kernel_rfl) (by kernel_rfl) (by kernel_rfl) (KEY.out (x6, (.slice (some ⟨W2.heap.size, 0, none⟩) 2 2)) _ ⟨HR12.out, HR15.out, HW.out⟩)
    rintro ⟨y7_0, y7_1⟩ W7 ⟨hr1, hr2, hq⟩
    have HR12 := Lib.hid hr1
    have HR15 := Lib.hid hr2
    have HW := Lib.hid hq
    clear hr1 hr2 hq
    simp only [setAll, putAll, List.foldl_cons, List.foldl_nil]
    go_simp
    as_aux_lemma =>
     refine wpAny_ready (rs := [16]) (by kernel_rfl) (by simp) ?_
     refine AllReady.cons rfl (fun K hK => ?_) AllReady.nil
     go_simp
     go_wp2_with (go_at_call 17; refine (aw14 _ _ _ _ HR12.out HR15.out (by decide)).mono ?_; rintro e W8 ⟨rfl, hq⟩)
     have HW := Lib.hid (HW.out.trans hq)
     have HR12 := Lib.hid (HR12.out.q hq)
     have HR15 := Lib.hid (HR15.out.q hq)
     clear hq
     as_aux_lemma =>
      (refine wpAny_take (i := 17) (v := ?_) rfl (by kernel_rfl) (by kernel_rfl) (by kernel_rfl) (fun _ _ _ h => h) (Or.inl ⟨by kernel_rfl, ?_⟩) ?_; rotate_left; (focus (intro w; go_simp; try with_reducible rfl)))
      go_simp
      (refine wpAny_take (i := 18) (v := ?_) rfl (by kernel_rfl) (by kernel_rfl) (by kernel_rfl) (fun _ _ _ h => h) (Or.inl ⟨by kernel_rfl, ?_⟩) ?_; rotate_left; (focus (intro w; go_simp; try with_reducible rfl)))
      go_simp
      (refine wpAny_take (i := 19) (v := ?_) rfl (by kernel_rfl) (by kernel_rfl) (by kernel_rfl) (fun _ _ _ h => h) (Or.inl ⟨by kernel_rfl, ?_⟩) ?_; rotate_left; (focus (intro w; go_simp; try with_reducible rfl)))
      go_simp
      refine wpAny_ready (rs := [20]) (by kernel_rfl) (by simp) ?_
      refine AllReady.cons rfl (fun K hK => ?_) AllReady.nil
      go_simp
      go_wp2_with (go_at_call 20; refine (aw6 _ _ (HRA.out.q HW.out)).mono ?_; rintro e W9 ⟨rfl, hq⟩)
      have HW := Lib.hid (HW.out.trans hq)
      clear hq
      as_aux_lemma =>
       (refine wpAny_take (i := 21) (v := ?_) rfl (by kernel_rfl) (by kernel_rfl) (by kernel_rfl) (fun _ _ _ h => h) (Or.inl ⟨by kernel_rfl, ?_⟩) ?_; rotate_left; (focus (intro w; go_simp; try with_reducible rfl)))
       go_simp
       (refine wpAny_take (i := 22) (v := ?_) rfl (by kernel_rfl) (by kernel_rfl) (by kernel_rfl) (fun _ _ _ h => h) (Or.inl ⟨by kernel_rfl, ?_⟩) ?_; rotate_left; (focus (intro w; go_simp; try with_reducible rfl)))
       go_simp
       (refine wpAny_take (i := 23) (v := ?_) rfl (by kernel_rfl) (by kernel_rfl) (by kernel_rfl) (fun _ _ _ h => h) (Or.inl ⟨by kernel_rfl, ?_⟩) ?_; rotate_left; (focus (intro w; go_simp; try with_reducible rfl)))
       go_simp
       refine wpAny_ready (rs := [24]) (by kernel_rfl) (by simp) ?_
       refine AllReady.cons rfl (fun K hK => ?_) AllReady.nil
       go_simp
       go_wp2_with (go_at_call 20; refine (aw7 _).mono ?_; rintro e W10 ⟨rfl, hq⟩)
       have HW := Lib.hid (HW.out.trans hq)
       clear hq
       as_aux_lemma =>
        (refine wpAny_take (i := 25) (v := ?_) rfl (by kernel_rfl) (by kernel_rfl) (by kernel_rfl) (fun _ _ _ h => h) (Or.inl ⟨by kernel_rfl, ?_⟩) ?_; rotate_left; (focus (intro w; go_simp; try with_reducible rfl)))
        go_simp
        (refine wpAny_take (i := 26) (v := ?_) rfl (by kernel_rfl) (by kernel_rfl) (by kernel_rfl) (fun _ _ _ h => h) (Or.inl ⟨by kernel_rfl, ?_⟩) ?_; rotate_left; (focus (intro w; go_simp; try with_reducible rfl)))
        go_simp
        (refine wpAny_take (i := 27) (v := ?_) rfl (by kernel_rfl) (by kernel_rfl) (by kernel_rfl) (fun _ _ _ h => h) (Or.inl ⟨by kernel_rfl, ?_⟩) ?_; rotate_left; (focus (intro w; go_simp; try with_reducible rfl)))
        go_simp
        (refine wpAny_take (i := 29) (v := ?_) rfl (by kernel_rfl) (by kernel_rfl) (by kernel_rfl) (fun _ _ _ h => h) (Or.inl ⟨by kernel_rfl, ?_⟩) ?_; rotate_left; (focus (intro w; go_simp; try with_reducible rfl)))
        go_simp
        (refine wpAny_take (i := 32) (v := ?_) rfl (by kernel_rfl) (by kernel_rfl) (by kernel_rfl) (fun _ _ _ h => h) (Or.inl ⟨by kernel_rfl, ?_⟩) ?_; rotate_left; (focus (intro w; go_simp; try with_reducible rfl)))
        go_simp
        (refine wpAny_take (i := 33) (v := ?_) rfl (by kernel_rfl) (by kernel_rfl) (by kernel_rfl) (fun _ _ _ h => h) (Or.inl ⟨by kernel_rfl, ?_⟩) ?_; rotate_left; (focus (intro w; go_simp; try with_reducible rfl)))
        go_simp
        refine any_via (α := Value × Value × Value × Value) 4 [28, 30, 31, 34] (fun x => [(54, x.1), (56, x.2.1), (57, x.2.2.1), (60, x.2.2.2)]) (fun x w' => CutR W0 [(0, 3), (5, 10)] (x.2.2.1) (x.2.2.2) w') ?_ ?_
        · as_aux_lemma =>
           intro key
           have KEY := Lib.hid key
           clear key
           refine wpAny_ready (rs := [28, 30, 34]) (by kernel_rfl) (by simp) ?_
           refine AllReady.cons rfl (fun K hK => ?_) (AllReady.cons rfl (fun K hK => ?_) (AllReady.cons rfl (fun K hK => ?_) AllReady.nil))
           · as_aux_lemma =>
              go_simp
              refine hK _ _ ?_
              clear hK K
              obtain ⟨W11, hW11⟩ : ∃ x, W10.alloc (.cells #[.int .i64 0, .int .i64 10] 23) = x := ⟨_, rfl⟩
              have HR28 := Lib.hid (show Rd W11 (.slice (some ⟨W10.heap.size, 0, none⟩) 1 1) [(0, 10)] by rw [← hW11]; exact rd_new _ [(0, 10)] 1 (Nat.le_refl _) _ rfl)
              have hq : Q W10 W11 := by rw [← hW11]; exact (Q.refl _).alloc _
              rw [hW11]
              have HW := Lib.hid (HW.out.trans hq)
              clear hq hW11
              refine wpAny_ready (rs := [30, 34]) (by kernel_rfl) (by simp) ?_
              refine AllReady.cons rfl (fun K hK => ?_) (AllReady.cons rfl (fun K hK => ?_) AllReady.nil)
              · as_aux_lemma =>
                 go_simp
                 refine hK _ _ ?_
                 clear hK K
                 obtain ⟨W12, hW12⟩ : ∃ x, W11.alloc (.cells #[.int .i64 3, .int .i64 5] 23) = x := ⟨_, rfl⟩
                 have HR30 := Lib.hid (show Rd W12 (.slice (some ⟨W11.heap.size, 0, none⟩) 1 1) [(3, 5)] by rw [← hW12]; exact rd_new _ [(3, 5)] 1 (Nat.le_refl _) _ rfl)
                 have hq : Q W11 W12 := by rw [← hW12]; exact (Q.refl _).alloc _
                 rw [hW12]
                 have HW := Lib.hid (HW.out.trans hq)
                 have HR28 := Lib.hid (HR28.out.q hq)
                 clear hq hW12
                 refine wpAny_ready (rs := [31, 34]) (by kernel_rfl) (by simp) ?_
                 refine AllReady.cons rfl (fun K hK => ?_) (AllReady.cons rfl (fun K hK => ?_) AllReady.nil)
                 · as_aux_lemma =>
                    go_simp
                    go_wp2_with (go_at_call 26; refine (aw8 _ _ _ HR28.out HR30.out).mono ?_; rintro e W13 ⟨x13, rfl, hr, hq⟩)
                    have HW := Lib.hid (HW.out.trans hq)
                    have HR28 := Lib.hid (HR28.out.q hq)
                    have HR30 := Lib.hid (HR30.out.q hq)
                    have HR31 := Lib.hid hr
                    clear hr
                    clear hq
                    refine wpAny_ready (rs := [34]) (by kernel_rfl) (by simp) ?_
                    refine AllReady.cons rfl (fun K hK => ?_) AllReady.nil
                    go_simp
                    refine hK _ _ ?_
                    clear hK K
                    obtain ⟨W14, hW14⟩ : ∃ x, W13.alloc (.cells #[.int .i64 0, .int .i64 3, .int .i64 5, .int .i64 10] 23) = x := ⟨_, rfl⟩
                    have HR34 := Lib.hid (show Rd W14 (.slice (some ⟨W13.heap.size, 0, none⟩) 2 2) [(0, 3), (5, 10)] by rw [← hW14]; exact rd_new _ [(0, 3), (5, 10)] 2 (Nat.le_refl _) _ rfl)
                    have hq : Q W13 W14 := by rw [← hW14]; exact (Q.refl _).alloc _
                    rw [hW14]
                    have HW := Lib.hid (HW.out.trans hq)
                    have HR28 := Lib.hid (HR28.out.q hq)
                    have HR30 := Lib.hid (HR30.out.q hq)
                    have HR31 := Lib.hid (HR31.out.q hq)
                    clear hq hW14
                    exact any_eq (by kernel_rfl) (by kernel_rfl) (by kernel_rfl) (KEY.out ((.slice (some ⟨W10.heap.size, 0, none⟩) 1 1), (.slice (some ⟨W11.heap.size, 0, none⟩) 1 1), x13, (.slice (some ⟨W13.heap.size, 0, none⟩) 2 2)) _ ⟨HR31.out, HR34.out, HW.out⟩)
                 · as_aux_lemma =>
                    go_simp
                    refine hK _ _ ?_
                    clear hK K
                    obtain ⟨W15, hW15⟩ : ∃ x, W12.alloc (.cells #[.int .i64 0, .int .i64 3, .int .i64 5, .int .i64 10] 23) = x := ⟨_, rfl⟩
                    have HR34 := Lib.hid (show Rd W15 (.slice (some ⟨W12.heap.size, 0, none⟩) 2 2) [(0, 3), (5, 10)] by rw [← hW15]; exact rd_new _ [(0, 3), (5, 10)] 2 (Nat.le_refl _) _ rfl)
                    have hq : Q W12 W15 := by rw [← hW15]; exact (Q.refl _).alloc _
                    rw [hW15]
                    have HW := Lib.hid (HW.out.trans hq)
                    have HR28 := Lib.hid (HR28.out.q hq)
                    have HR30 := Lib.hid (HR30.out.q hq)
                    clear hq hW15
                    refine wpAny_ready (rs := [31]) (by kernel_rfl) (by simp) ?_
                    refine AllReady.cons rfl (fun K hK => ?_) AllReady.nil
                    go_simp
                    go_wp2_with (go_at_call 26; refine (aw8 _ _ _ HR28.out HR30.out).mono ?_; rintro e W16 ⟨x16, rfl, hr, hq⟩)
                    have HW := Lib.hid (HW.out.trans hq)
                    have HR28 := Lib.hid (HR28.out.q hq)
                    have HR30 := Lib.hid (HR30.out.q hq)
                    have HR34 := Lib.hid (HR34.out.q hq)
                    have HR31 := Lib.hid hr
                    clear hr
                    clear hq
                    exact any_eq (by kernel_rfl) (by kernel_rfl) (by kernel_rfl) (KEY.out ((.slice (some ⟨W10.heap.size, 0, none⟩) 1 1), (.slice (some ⟨W11.heap.size, 0, none⟩) 1 1), x16, (.slice (some ⟨W12.heap.size, 0, none⟩) 2 2)) _ ⟨HR31.out, HR34.out, HW.out⟩)
              · as_aux_lemma =>
                 go_simp
                 refine hK _ _ ?_
                 clear hK K
                 obtain ⟨W17, hW17⟩ : ∃ x, W11.alloc (.cells #[.int .i64 0, .int .i64 3, .int .i64 5, .int .i64 10] 23) = x := ⟨_, rfl⟩
                 have HR34 := Lib.hid (show Rd W17 (.slice (some ⟨W11.heap.size, 0, none⟩) 2 2) [(0, 3), (5, 10)] by rw [← hW17]; exact rd_new _ [(0, 3), (5, 10)] 2 (Nat.le_refl _) _ rfl)
                 have hq : Q W11 W17 := by rw [← hW17]; exact (Q.refl _).alloc _
                 rw [hW17]
                 have HW := Lib.hid (HW.out.trans hq)
                 have HR28 := Lib.hid (HR28.out.q hq)
                 clear hq hW17
                 refine wpAny_ready (rs := [30]) (by kernel_rfl) (by simp) ?_
                 refine AllReady.cons rfl (fun K hK => ?_) AllReady.nil
                 go_simp
                 refine hK _ _ ?_
                 clear hK K
                 obtain ⟨W18, hW18⟩ : ∃ x, W17.alloc (.cells #[.int .i64 3, .int .i64 5] 23) = x := ⟨_, rfl⟩
                 have HR30 := Lib.hid (show Rd W18 (.slice (some ⟨W17.heap.size, 0, none⟩) 1 1) [(3, 5)] by rw [← hW18]; exact rd_new _ [(3, 5)] 1 (Nat.le_refl _) _ rfl)
                 have hq : Q W17 W18 := by rw [← hW18]; exact (Q.refl _).alloc _
                 rw [hW18]
                 have HW := Lib.hid (HW.out.trans hq)
                 have HR28 := Lib.hid (HR28.out.q hq)
                 have HR34 := Lib.hid (HR34.out.q hq)
                 clear hq hW18
                 refine wpAny_ready (rs := [31]) (by kernel_rfl) (by simp) ?_
                 refine AllReady.cons rfl (fun K hK => ?_) AllReady.nil
                 go_simp
                 go_wp2_with (go_at_call 26; refine (aw8 _ _ _ HR28.out HR30.out).mono ?_; rintro e W19 ⟨x19, rfl, hr, hq⟩)
                 have HW := Lib.hid (HW.out.trans hq)
                 have HR28 := Lib.hid (HR28.out.q hq)
                 have HR34 := Lib.hid (HR34.out.q hq)
                 have HR30 := Lib.hid (HR30.out.q hq)
                 have HR31 := Lib.hid hr
                 clear hr
                 clear hq
                 exact any_eq (by kernel_rfl) (by kernel_rfl) (by kernel_rfl) (KEY.out ((.slice (some ⟨W10.heap.size, 0, none⟩) 1 1), (.slice (some ⟨W17.heap.size, 0, none⟩) 1 1), x19, (.slice (some ⟨W11.heap.size, 0, none⟩) 2 2)) _ ⟨HR31.out, HR34.out, HW.out⟩)
           · as_aux_lemma =>
              go_simp
              refine hK _ _ ?_
              clear hK K
              obtain ⟨W20, hW20⟩ : ∃ x, W10.alloc (.cells #[.int .i64 3, .int .i64 5] 23) = x := ⟨_, rfl⟩
              have HR30 := Lib.hid (show Rd W20 (.slice (some ⟨W10.heap.size, 0, none⟩) 1 1) [(3, 5)] by rw [← hW20]; exact rd_new _ [(3, 5)] 1 (Nat.le_refl _) _ rfl)
              have hq : Q W10 W20 := by rw [← hW20]; exact (Q.refl _).alloc _
              rw [hW20]
              have HW := Lib.hid (HW.out.trans hq)
              clear hq hW20
              refine wpAny_ready (rs := [28, 34]) (by kernel_rfl) (by simp) ?_
              refine AllReady.cons rfl (fun K hK => ?_) (AllReady.cons rfl (fun K hK => ?_) AllReady.nil)
              · as_aux_lemma =>
                 go_simp
                 refine hK _ _ ?_
                 clear hK K
                 obtain ⟨W21, hW21⟩ : ∃ x, W20.alloc (.cells #[.int .i64 0, .int .i64 10] 23) = x := ⟨_, rfl⟩
                 have HR28 := Lib.hid (show Rd W21 (.slice (some ⟨W20.heap.size, 0, none⟩) 1 1) [(0, 10)] by rw [← hW21]; exact rd_new _ [(0, 10)] 1 (Nat.le_refl _) _ rfl)
                 have hq : Q W20 W21 := by rw [← hW21]; exact (Q.refl _).alloc _
                 rw [hW21]
                 have HW := Lib.hid (HW.out.trans hq)
                 have HR30 := Lib.hid (HR30.out.q hq)
                 clear hq hW21
                 refine wpAny_ready (rs := [31, 34]) (by kernel_rfl) (by simp) ?_
                 refine AllReady.cons rfl (fun K hK => ?_) (AllReady.cons rfl (fun K hK => ?_) AllReady.nil)
                 · as_aux_lemma =>
                    go_simp
                    go_wp2_with (go_at_call 26; refine (aw8 _ _ _ HR28.out HR30.out).mono ?_; rintro e W22 ⟨x22, rfl, hr, hq⟩)
                    have HW := Lib.hid (HW.out.trans hq)
                    have HR30 := Lib.hid (HR30.out.q hq)
                    have HR28 := Lib.hid (HR28.out.q hq)
                    have HR31 := Lib.hid hr
                    clear hr
                    clear hq
                    refine wpAny_ready (rs := [34]) (by kernel_rfl) (by simp) ?_
                    refine AllReady.cons rfl (fun K hK => ?_) AllReady.nil
                    go_simp
                    refine hK _ _ ?_
                    clear hK K
                    obtain ⟨W23, hW23⟩ : ∃ x, W22.alloc (.cells #[.int .i64 0, .int .i64 3, .int .i64 5, .int .i64 10] 23) = x := ⟨_, rfl⟩
                    have HR34 := Lib.hid (show Rd W23 (.slice (some ⟨W22.heap.size, 0, none⟩) 2 2) [(0, 3), (5, 10)] by rw [← hW23]; exact rd_new _ [(0, 3), (5, 10)] 2 (Nat.le_refl _) _ rfl)
                    have hq : Q W22 W23 := by rw [← hW23]; exact (Q.refl _).alloc _
                    rw [hW23]
                    have HW := Lib.hid (HW.out.trans hq)
                    have HR30 := Lib.hid (HR30.out.q hq)
                    have HR28 := Lib.hid (HR28.out.q hq)
                    have HR31 := Lib.hid (HR31.out.q hq)
                    clear hq hW23
                    exact any_eq (by kernel_rfl) (by kernel_rfl) (by kernel_rfl) (KEY.out ((.slice (some ⟨W20.heap.size, 0, none⟩) 1 1), (.slice (some ⟨W10.heap.size, 0, none⟩) 1 1), x22, (.slice (some ⟨W22.heap.size, 0, none⟩) 2 2)) _ ⟨HR31.out, HR34.out, HW.out⟩)
                 · as_aux_lemma =>
                    go_simp
                    refine hK _ _ ?_
                    clear hK K
                    obtain ⟨W24, hW24⟩ : ∃ x, W21.alloc (.cells #[.int .i64 0, .int .i64 3, .int .i64 5, .int .i64 10] 23) = x := ⟨_, rfl⟩
                    have HR34 := Lib.hid (show Rd W24 (.slice (some ⟨W21.heap.size, 0, none⟩) 2 2) [(0, 3), (5, 10)] by rw [← hW24]; exact rd_new _ [(0, 3), (5, 10)] 2 (Nat.le_refl _) _ rfl)
                    have hq : Q W21 W24 := by rw [← hW24]; exact (Q.refl _).alloc _
                    rw [hW24]
                    have HW := Lib.hid (HW.out.trans hq)
                    have HR30 := Lib.hid (HR30.out.q hq)
                    have HR28 := Lib.hid (HR28.out.q hq)
                    clear hq hW24
                    refine wpAny_ready (rs := [31]) (by kernel_rfl) (by simp) ?_
                    refine AllReady.cons rfl (fun K hK => ?_) AllReady.nil
                    go_simp
                    go_wp2_with (go_at_call 26; refine (aw8 _ _ _ HR28.out HR30.out).mono ?_; rintro e W25 ⟨x25, rfl, hr, hq⟩)
                    have HW := Lib.hid (HW.out.trans hq)
                    have HR30 := Lib.hid (HR30.out.q hq)
                    have HR28 := Lib.hid (HR28.out.q hq)
                    have HR34 := Lib.hid (HR34.out.q hq)
                    have HR31 := Lib.hid hr
                    clear hr
                    clear hq
                    exact any_eq (by kernel_rfl) (by kernel_rfl) (by kernel_rfl) (KEY.out ((.slice (some ⟨W20.heap.size, 0, none⟩) 1 1), (.slice (some ⟨W10.heap.size, 0, none⟩) 1 1), x25, (.slice (some ⟨W21.heap.size, 0, none⟩) 2 2)) _ ⟨HR31.out, HR34.out, HW.out⟩)
              · as_aux_lemma =>
                 go_simp
                 refine hK _ _ ?_
                 clear hK K
                 obtain ⟨W26, hW26⟩ : ∃ x, W20.alloc (.cells #[.int .i64 0, .int .i64 3, .int .i64 5, .int .i64 10] 23) = x := ⟨_, rfl⟩
                 have HR34 := Lib.hid (show Rd W26 (.slice (some ⟨W20.heap.size, 0, none⟩) 2 2) [(0, 3), (5, 10)] by rw [← hW26]; exact rd_new _ [(0, 3), (5, 10)] 2 (Nat.le_refl _) _ rfl)
                 have hq : Q W20 W26 := by rw [← hW26]; exact (Q.refl _).alloc _
                 rw [hW26]
                 have HW := Lib.hid (HW.out.trans hq)
                 have HR30 := Lib.hid (HR30.out.q hq)
                 clear hq hW26
                 refine wpAny_ready (rs := [28]) (by kernel_rfl) (by simp) ?_
                 refine AllReady.cons rfl (fun K hK => ?_) AllReady.nil
                 go_simp
                 refine hK _ _ ?_
                 clear hK K
                 obtain ⟨W27, hW27⟩ : ∃ x, W26.alloc (.cells #[.int .i64 0, .int .i64 10] 23) = x := ⟨_, rfl⟩
                 have HR28 := Lib.hid (show Rd W27 (.slice (some ⟨W26.heap.size, 0, none⟩) 1 1) [(0, 10)] by rw [← hW27]; exact rd_new _ [(0, 10)] 1 (Nat.le_refl _) _ rfl)
                 have hq : Q W26 W27 := by rw [← hW27]; exact (Q.refl _).alloc _
                 rw [hW27]
                 have HW := Lib.hid (HW.out.trans hq)
                 have HR30 := Lib.hid (HR30.out.q hq)
                 have HR34 := Lib.hid (HR34.out.q hq)
                 clear hq hW27
                 refine wpAny_ready (rs := [31]) (by kernel_rfl) (by simp) ?_
                 refine AllReady.cons rfl (fun K hK => ?_) AllReady.nil
                 go_simp
                 go_wp2_with (go_at_call 26; refine (aw8 _ _ _ HR28.out HR30.out).mono ?_; rintro e W28 ⟨x28, rfl, hr, hq⟩)
                 have HW := Lib.hid (HW.out.trans hq)
                 have HR30 := Lib.hid (HR30.out.q hq)
                 have HR34 := Lib.hid (HR34.out.q hq)
                 have HR28 := Lib.hid (HR28.out.q hq)
                 have HR31 := Lib.hid hr
                 clear hr
                 clear hq
                 exact any_eq (by kernel_rfl) (by kernel_rfl) (by kernel_rfl) (KEY.out ((.slice (some ⟨W26.heap.size, 0, none⟩) 1 1), (.slice (some ⟨W10.heap.size, 0, none⟩) 1 1), x28, (.slice (some ⟨W20.heap.size, 0, none⟩) 2 2)) _ ⟨HR31.out, HR34.out, HW.out⟩)
           · as_aux_lemma =>
              go_simp
              refine hK _ _ ?_
              clear hK K
              obtain ⟨W29, hW29⟩ : ∃ x, W10.alloc (.cells #[.int .i64 0, .int .i64 3, .int .i64 5, .int .i64 10] 23) = x := ⟨_, rfl⟩
              have HR34 := Lib.hid (show Rd W29 (.slice (some ⟨W10.heap.size, 0, none⟩) 2 2) [(0, 3), (5, 10)] by rw [← hW29]; exact rd_new _ [(0, 3), (5, 10)] 2 (Nat.le_refl _) _ rfl)
              have hq : Q W10 W29 := by rw [← hW29]; exact (Q.refl _).alloc _
              rw [hW29]
              have HW := Lib.hid (HW.out.trans hq)
              clear hq hW29
              refine wpAny_ready (rs := [28, 30]) (by kernel_rfl) (by simp) ?_
              refine AllReady.cons rfl (fun K hK => ?_) (AllReady.cons rfl (fun K hK => ?_) AllReady.nil)
              · as_aux_lemma =>
                 go_simp
                 refine hK _ _ ?_
                 clear hK K
                 obtain ⟨W30, hW30⟩ : ∃ x, W29.alloc (.cells #[.int .i64 0, .int .i64 10] 23) = x := ⟨_, rfl⟩
                 have HR28 := Lib.hid (show Rd W30 (.slice (some ⟨W29.heap.size, 0, none⟩) 1 1) [(0, 10)] by rw [← hW30]; exact rd_new _ [(0, 10)] 1 (Nat.le_refl _) _ rfl)
                 have hq : Q W29 W30 := by rw [← hW30]; exact (Q.refl _).alloc _
                 rw [hW30]
                 have HW := Lib.hid (HW.out.trans hq)
                 have HR34 := Lib.hid (HR34.out.q hq)
                 clear hq hW30
                 refine wpAny_ready (rs := [30]) (by kernel_rfl) (by simp) ?_
                 refine AllReady.cons rfl (fun K hK => ?_) AllReady.nil
                 go_simp
                 refine hK _ _ ?_
                 clear hK K
                 obtain ⟨W31, hW31⟩ : ∃ x, W30.alloc (.cells #[.int .i64 3, .int .i64 5] 23) = x := ⟨_, rfl⟩
                 have HR30 := Lib.hid (show Rd W31 (.slice (some ⟨W30.heap.size, 0, none⟩) 1 1) [(3, 5)] by rw [← hW31]; exact rd_new _ [(3, 5)] 1 (Nat.le_refl _) _ rfl)
                 have hq : Q W30 W31 := by rw [← hW31]; exact (Q.refl _).alloc _
                 rw [hW31]
                 have HW := Lib.hid (HW.out.trans hq)
                 have HR34 := Lib.hid (HR34.out.q hq)
                 have HR28 := Lib.hid (HR28.out.q hq)
                 clear hq hW31
                 refine wpAny_ready (rs := [31]) (by kernel_rfl) (by simp) ?_
                 refine AllReady.cons rfl (fun K hK => ?_) AllReady.nil
                 go_simp
                 go_wp2_with (go_at_call 26; refine (aw8 _ _ _ HR28.out HR30.out).mono ?_; rintro e W32 ⟨x32, rfl, hr, hq⟩)
                 have HW := Lib.hid (HW.out.trans hq)
                 have HR34 := Lib.hid (HR34.out.q hq)
                 have HR28 := Lib.hid (HR28.out.q hq)
                 have HR30 := Lib.hid (HR30.out.q hq)
                 have HR31 := Lib.hid hr
                 clear hr
                 clear hq
                 exact any_eq (by kernel_rfl) (by kernel_rfl) (by kernel_rfl) (KEY.out ((.slice (some ⟨W29.heap.size, 0, none⟩) 1 1), (.slice (some ⟨W30.heap.size, 0, none⟩) 1 1), x32, (.slice (some ⟨W10.heap.size, 0, none⟩) 2 2)) _ ⟨HR31.out, HR34.out, HW.out⟩)
              · as_aux_lemma =>
                 go_simp
                 refine hK _ _ ?_
                 clear hK K
                 obtain ⟨W33, hW33⟩ : ∃ x, W29.alloc (.cells #[.int .i64 3, .int .i64 5] 23) = x := ⟨_, rfl⟩
                 have HR30 := Lib.hid (show Rd W33 (.slice (some ⟨W29.heap.size, 0, none⟩) 1 1) [(3, 5)] by rw [← hW33]; exact rd_new _ [(3, 5)] 1 (Nat.le_refl _) _ rfl)
                 have hq : Q W29 W33 := by rw [← hW33]; exact (Q.refl _).alloc _
                 rw [hW33]
                 have HW := Lib.hid (HW.out.trans hq)
                 have HR34 := Lib.hid (HR34.out.q hq)
                 clear hq hW33
                 refine wpAny_ready (rs := [28]) (by kernel_rfl) (by simp) ?_
                 refine AllReady.cons rfl (fun K hK => ?_) AllReady.nil
                 go_simp
                 refine hK _ _ ?_
                 clear hK K
                 obtain ⟨W34, hW34⟩ : ∃ x, W33.alloc (.cells #[.int .i64 0, .int .i64 10] 23) = x := ⟨_, rfl⟩
                 have HR28 := Lib.hid (show Rd W34 (.slice (some ⟨W33.heap.size, 0, none⟩) 1 1) [(0, 10)] by rw [← hW34]; exact rd_new _ [(0, 10)] 1 (Nat.le_refl _) _ rfl)
                 have hq : Q W33 W34 := by rw [← hW34]; exact (Q.refl _).alloc _
                 rw [hW34]
                 have HW := Lib.hid (HW.out.trans hq)
                 have HR34 := Lib.hid (HR34.out.q hq)
                 have HR30 := Lib.hid (HR30.out.q hq)
                 clear hq hW34
                 refine wpAny_ready (rs := [31]) (by kernel_rfl) (by simp) ?_
                 refine AllReady.cons rfl (fun K hK => ?_) AllReady.nil
                 go_simp
                 go_wp2_with (go_at_call 26; refine (aw8 _ _ _ HR28.out HR30.out).mono ?_; rintro e W35 ⟨x35, rfl, hr, hq⟩)
                 have HW := Lib.hid (HW.out.trans hq)
                 have HR34 := Lib.hid (HR34.out.q hq)
                 have HR30 := Lib.hid (HR30.out.q hq)
                 have HR28 := Lib.hid (HR28.out.q hq)
                 have HR31 := Lib.hid hr
                 clear hr
                 clear hq
                 exact any_eq (by kernel_rfl) (by kernel_rfl) (by kernel_rfl) (KEY.out ((.slice (some ⟨W33.heap.size, 0, none⟩) 1 1), (.slice (some ⟨W29.heap.size, 0, none⟩) 1 1), x35, (.slice (some ⟨W10.heap.size, 0, none⟩) 2 2)) _ ⟨HR31.out, HR34.out, HW.out⟩)
        rintro ⟨y36_0, y36_1, y36_2, y36_3⟩ W36 ⟨hr1, hr2, hq⟩
        have HR31 := Lib.hid hr1
        have HR34 := Lib.hid hr2
        have HW := Lib.hid hq
        clear hr1 hr2 hq
        simp only [setAll, putAll, List.foldl_cons, List.foldl_nil]
        go_simp
        as_aux_lemma =>
         refine wpAny_ready (rs := [35]) (by kernel_rfl) (by simp) ?_
         refine AllReady.cons rfl (fun K hK => ?_) AllReady.nil
         go_simp
         go_wp2_with (go_at_call 17; refine (aw14 _ _ _ _ HR31.out HR34.out (by decide)).mono ?_; rintro e W37 ⟨rfl, hq⟩)
         have HW := Lib.hid (HW.out.trans hq)
         have HR31 := Lib.hid (HR31.out.q hq)
         have HR34 := Lib.hid (HR34.out.q hq)
         clear hq
         as_aux_lemma =>
          (refine wpAny_take (i := 36) (v := ?_) rfl (by kernel_rfl) (by kernel_rfl) (by kernel_rfl) (fun _ _ _ h => h) (Or.inl ⟨by kernel_rfl, ?_⟩) ?_; rotate_left; (focus (intro w; go_simp; try with_reducible rfl)))
          go_simp
          (refine wpAny_take (i := 37) (v := ?_) rfl (by kernel_rfl) (by kernel_rfl) (by kernel_rfl) (fun _ _ _ h => h) (Or.inl ⟨by kernel_rfl, ?_⟩) ?_; rotate_left; (focus (intro w; go_simp; try with_reducible rfl)))
          go_simp
          (refine wpAny_take (i := 38) (v := ?_) rfl (by kernel_rfl) (by kernel_rfl) (by kernel_rfl) (fun _ _ _ h => h) (Or.inl ⟨by kernel_rfl, ?_⟩) ?_; rotate_left; (focus (intro w; go_simp; try with_reducible rfl)))
          go_simp
          (refine wpAny_take (i := 39) (v := ?_) rfl (by kernel_rfl) (by kernel_rfl) (by kernel_rfl) (fun _ _ _ h => h) (Or.inl ⟨by kernel_rfl, ?_⟩) ?_; rotate_left; (focus (intro w; go_simp; try with_reducible rfl)))
          go_simp
          (refine wpAny_take (i := 41) (v := ?_) rfl (by kernel_rfl) (by kernel_rfl) (by kernel_rfl) (fun _ _ _ h => h) (Or.inl ⟨by kernel_rfl, ?_⟩) ?_; rotate_left; (focus (intro w; go_simp; try with_reducible rfl)))
          go_simp
          (refine wpAny_take (i := 44) (v := ?_) rfl (by kernel_rfl) (by kernel_rfl) (by kernel_rfl) (fun _ _ _ h => h) (Or.inl ⟨by kernel_rfl, ?_⟩) ?_; rotate_left; (focus (intro w; go_simp; try with_reducible rfl)))
          go_simp
          (refine wpAny_take (i := 45) (v := ?_) rfl (by kernel_rfl) (by kernel_rfl) (by kernel_rfl) (fun _ _ _ h => h) (Or.inl ⟨by kernel_rfl, ?_⟩) ?_; rotate_left; (focus (intro w; go_simp; try with_reducible rfl)))
          go_simp
          refine any_via (α := Value × Value × Value × Value) 4 [40, 42, 43, 46] (fun x => [(66, x.1), (68, x.2.1), (69, x.2.2.1), (72, x.2.2.2)]) (fun x w' => CutR W0 [(2, 4), (6, 7)] (x.2.2.1) (x.2.2.2) w') ?_ ?_
          · as_aux_lemma =>
             intro key
             have KEY := Lib.hid key
             clear key
             refine wpAny_ready (rs := [40, 42, 46]) (by kernel_rfl) (by simp) ?_
             refine AllReady.cons rfl (fun K hK => ?_) (AllReady.cons rfl (fun K hK => ?_) (AllReady.cons rfl (fun K hK => ?_) AllReady.nil))
             · as_aux_lemma =>
                go_simp
                refine hK _ _ ?_
                clear hK K
                obtain ⟨W38, hW38⟩ : ∃ x, W37.alloc (.cells #[.int .i64 0, .int .i64 4, .int .i64 6, .int .i64 9] 23) = x := ⟨_, rfl⟩
                have HR40 := Lib.hid (show Rd W38 (.slice (some ⟨W37.heap.size, 0, none⟩) 2 2) [(0, 4), (6, 9)] by rw [← hW38]; exact rd_new _ [(0, 4), (6, 9)] 2 (Nat.le_refl _) _ rfl)
                have hq : Q W37 W38 := by rw [← hW38]; exact (Q.refl _).alloc _
                rw [hW38]
                have HW := Lib.hid (HW.out.trans hq)
                clear hq hW38
                refine wpAny_ready (rs := [42, 46]) (by kernel_rfl) (by simp) ?_
                refine AllReady.cons rfl (fun K hK => ?_) (AllReady.cons rfl (fun K hK => ?_) AllReady.nil)
                · as_aux_lemma =>
                   go_simp
                   refine hK _ _ ?_
                   clear hK K
                   obtain ⟨W39, hW39⟩ : ∃ x, W38.alloc (.cells #[.int .i64 2, .int .i64 7] 23) = x := ⟨_, rfl⟩
                   have HR42 := Lib.hid (show Rd W39 (.slice (some ⟨W38.heap.size, 0, none⟩) 1 1) [(2, 7)] by rw [← hW39]; exact rd_new _ [(2, 7)] 1 (Nat.le_refl _) _ rfl)
                   have hq : Q W38 W39 := by rw [← hW39]; exact (Q.refl _).alloc _
                   rw [hW39]
                   have HW := Lib.hid (HW.out.trans hq)
                   have HR40 := Lib.hid (HR40.out.q hq)
                   clear hq hW39
                   refine wpAny_ready (rs := [43, 46]) (by kernel_rfl) (by simp) ?_
                   refine AllReady.cons rfl (fun K hK => ?_) (AllReady.cons rfl (fun K hK => ?_) AllReady.nil)
                   · as_aux_lemma =>
                      go_simp
                      go_wp2_with (go_at_call 24; refine (aw9 _ _ _ HR40.out HR42.out).mono ?_; rintro e W40 ⟨x40, rfl, hr, hq⟩)
                      have HW := Lib.hid (HW.out.trans hq)
                      have HR40 := Lib.hid (HR40.out.q hq)
                      have HR42 := Lib.hid (HR42.out.q hq)
                      have HR43 := Lib.hid hr
                      clear hr
                      clear hq
                      refine wpAny_ready (rs := [46]) (by kernel_rfl) (by simp) ?_
                      refine AllReady.cons rfl (fun K hK => ?_) AllReady.nil
                      go_simp
                      refine hK _ _ ?_
                      clear hK K
                      obtain ⟨W41, hW41⟩ : ∃ x, W40.alloc (.cells #[.int .i64 2, .int .i64 4, .int .i64 6, .int .i64 7] 23) = x := ⟨_, rfl⟩
                      have HR46 := Lib.hid (show Rd W41 (.slice (some ⟨W40.heap.size, 0, none⟩) 2 2) [(2, 4), (6, 7)] by rw [← hW41]; exact rd_new _ [(2, 4), (6, 7)] 2 (Nat.le_refl _) _ rfl)
                      have hq : Q W40 W41 := by rw [← hW41]; exact (Q.refl _).alloc _
                      rw [hW41]
                      have HW := Lib.hid (HW.out.trans hq)
                      have HR40 := Lib.hid (HR40.out.q hq)
                      have HR42 := Lib.hid (HR42.out.q hq)
                      have HR43 := Lib.hid (HR43.out.q hq)
                      clear hq hW41
                      exact any_eq (by kernel_rfl) (by kernel_rfl) (by kernel_rfl) (KEY.out ((.slice (some ⟨W37.heap.size, 0, none⟩) 2 2), (.slice (some ⟨W38.heap.size, 0, none⟩) 1 1), x40, (.slice (some ⟨W40.heap.size, 0, none⟩) 2 2)) _ ⟨HR43.out, HR46.out, HW.out⟩)
                   · as_aux_lemma =>
                      go_simp
                      refine hK _ _ ?_
                      clear hK K
                      obtain ⟨W42, hW42⟩ : ∃ x, W39.alloc (.cells #[.int .i64 2, .int .i64 4, .int .i64 6, .int .i64 7] 23) = x := ⟨_, rfl⟩
                      have HR46 := Lib.hid (show Rd W42 (.slice (some ⟨W39.heap.size, 0, none⟩) 2 2) [(2, 4), (6, 7)] by rw [← hW42]; exact rd_new _ [(2, 4), (6, 7)] 2 (Nat.le_refl _) _ rfl)
                      have hq : Q W39 W42 := by rw [← hW42]; exact (Q.refl _).alloc _
                      rw [hW42]
                      have HW := Lib.hid (HW.out.trans hq)
                      have HR40 := Lib.hid (HR40.out.q hq)
                      have HR42 := Lib.hid (HR42.out.q hq)
                      clear hq hW42
                      refine wpAny_ready (rs := [43]) (by kernel_rfl) (by simp) ?_
                      refine AllReady.cons rfl (fun K hK => ?_) AllReady.nil
                      go_simp
                      go_wp2_with (go_at_call 24; refine (aw9 _ _ _ HR40.out HR42.out).mono ?_; rintro e W43 ⟨x43, rfl, hr, hq⟩)
                      have HW := Lib.hid (HW.out.trans hq)
                      have HR40 := Lib.hid (HR40.out.q hq)
                      have HR42 := Lib.hid (HR42.out.q hq)
                      have HR46 := Lib.hid (HR46.out.q hq)
                      have HR43 := Lib.hid hr
                      clear hr
                      clear hq
                      exact any_eq (by kernel_rfl) (by kernel_rfl) (by kernel_rfl) (KEY.out ((.slice (some ⟨W37.heap.size, 0, none⟩) 2 2), (.slice (some ⟨W38.heap.size, 0, none⟩) 1 1), x43, (.slice (some ⟨W39.heap.size, 0, none⟩) 2 2)) _ ⟨HR43.out, HR46.out, HW.out⟩)
                · as_aux_lemma =>
                   go_simp
                   refine hK _ _ ?_
                   clear hK K
                   obtain ⟨W44, hW44⟩ : ∃ x, W38.alloc (.cells #[.int .i64 2, .int .i64 4, .int .i64 6, .int .i64 7] 23) = x := ⟨_, rfl⟩
                   have HR46 := Lib.hid (show Rd W44 (.slice (some ⟨W38.heap.size, 0, none⟩) 2 2) [(2, 4), (6, 7)] by rw [← hW44]; exact rd_new _ [(2, 4), (6, 7)] 2 (Nat.le_refl _) _ rfl)
                   have hq : Q W38 W44 := by rw [← hW44]; exact (Q.refl _).alloc _
                   rw [hW44]
                   have HW := Lib.hid (HW.out.trans hq)
                   have HR40 := Lib.hid (HR40.out.q hq)
                   clear hq hW44
                   refine wpAny_ready (rs := [42]) (by kernel_rfl) (by simp) ?_
                   refine AllReady.cons rfl (fun K hK => ?_) AllReady.nil
                   go_simp
                   refine hK _ _ ?_
                   clear hK K
                   obtain ⟨W45, hW45⟩ : ∃ x, W44.alloc (.cells #[.int .i64 2, .int .i64 7] 23) = x := ⟨_, rfl⟩
                   have HR42 := Lib.hid (show Rd W45 (.slice (some ⟨W44.heap.size, 0, none⟩) 1 1) [(2, 7)] by rw [← hW45]; exact rd_new _ [(2, 7)] 1 (Nat.le_refl _) _ rfl)
                   have hq : Q W44 W45 := by rw [← hW45]; exact (Q.refl _).alloc _
                   rw [hW45]
                   have HW := Lib.hid (HW.out.trans hq)
                   have HR40 := Lib.hid (HR40.out.q hq)
                   have HR46 := Lib.hid (HR46.out.q hq)
                   clear hq hW45
                   refine wpAny_ready (rs := [43]) (by kernel_rfl) (by simp) ?_
                   refine AllReady.cons rfl (fun K hK => ?_) AllReady.nil
                   go_simp
                   go_wp2_with (go_at_call 24; refine (aw9 _ _ _ HR40.out HR42.out).mono ?_; rintro e W46 ⟨x46, rfl, hr, hq⟩)
                   have HW := Lib.hid (HW.out.trans hq)
                   have HR40 := Lib.hid (HR40.out.q hq)
                   have HR46 := Lib.hid (HR46.out.q hq)
                   have HR42 := Lib.hid (HR42.out.q hq)
                   have HR43 := Lib.hid hr
                   clear hr
                   clear hq
                   exact any_eq (by kernel_rfl) (by kernel_rfl) (by kernel_rfl) (KEY.out ((.slice (some ⟨W37.heap.size, 0, none⟩) 2 2), (.slice (some ⟨W44.heap.size, 0, none⟩) 1 1), x46, (.slice (some ⟨W38.heap.size, 0, none⟩) 2 2)) _ ⟨HR43.out, HR46.out, HW.out⟩)
             · as_aux_lemma =>
                go_simp
                refine hK _ _ ?_
                clear hK K
                obtain ⟨W47, hW47⟩ : ∃ x, W37.alloc (.cells #[.int .i64 2, .int .i64 7] 23) = x := ⟨_, rfl⟩
                have HR42 := Lib.hid (show Rd W47 (.slice (some ⟨W37.heap.size, 0, none⟩) 1 1) [(2, 7)] by rw [← hW47]; exact rd_new _ [(2, 7)] 1 (Nat.le_refl _) _ rfl)
                have hq : Q W37 W47 := by rw [← hW47]; exact (Q.refl _).alloc _
                rw [hW47]
                have HW := Lib.hid (HW.out.trans hq)
                clear hq hW47
                refine wpAny_ready (rs := [40, 46]) (by kernel_rfl) (by simp) ?_
                refine AllReady.cons rfl (fun K hK => ?_) (AllReady.cons rfl (fun K hK => ?_) AllReady.nil)
                · as_aux_lemma =>
                   go_simp
                   refine hK _ _ ?_
                   clear hK K
                   obtain ⟨W48, hW48⟩ : ∃ x, W47.alloc (.cells #[.int .i64 0, .int .i64 4, .int .i64 6, .int .i64 9] 23) = x := ⟨_, rfl⟩
                   have HR40 := Lib.hid (show Rd W48 (.slice (some ⟨W47.heap.size, 0, none⟩) 2 2) [(0, 4), (6, 9)] by rw [← hW48]; exact rd_new _ [(0, 4), (6, 9)] 2 (Nat.le_refl _) _ rfl)
                   have hq : Q W47 W48 := by rw [← hW48]; exact (Q.refl _).alloc _
                   rw [hW48]
                   have HW := Lib.hid (HW.out.trans hq)
                   have HR42 := Lib.hid (HR42.out.q hq)
                   clear hq hW48
                   refine wpAny_ready (rs := [43, 46]) (by kernel_rfl) (by simp) ?_
                   refine AllReady.cons rfl (fun K hK => ?_) (AllReady.cons rfl (fun K hK => ?_) AllReady.nil)
                   · as_aux_lemma =>
                      go_simp
                      go_wp2_with (go_at_call 24; refine (aw9 _ _ _ HR40.out HR42.out).mono ?_; rintro e W49 ⟨x49, rfl, hr, hq⟩)
                      have HW := Lib.hid (HW.out.trans hq)
                      have HR42 := Lib.hid (HR42.out.q hq)
                      have HR40 := Lib.hid (HR40.out.q hq)
                      have HR43 := Lib.hid hr
                      clear hr
                      clear hq
                      refine wpAny_ready (rs := [46]) (by kernel_rfl) (by simp) ?_
                      refine AllReady.cons rfl (fun K hK => ?_) AllReady.nil
                      go_simp
                      refine hK _ _ ?_
                      clear hK K
                      obtain ⟨W50, hW50⟩ : ∃ x, W49.alloc (.cells #[.int .i64 2, .int .i64 4, .int .i64 6, .int .i64 7] 23) = x := ⟨_, rfl⟩
                      have HR46 := Lib.hid (show Rd W50 (.slice (some ⟨W49.heap.size, 0, none⟩) 2 2) [(2, 4), (6, 7)] by rw [← hW50]; exact rd_new _ [(2, 4), (6, 7)] 2 (Nat.le_refl _) _ rfl)
                      have hq : Q W49 W50 := by rw [← hW50]; exact (Q.refl _).alloc _
                      rw [hW50]
                      have HW := Lib.hid (HW.out.trans hq)
                      have HR42 := Lib.hid (HR42.out.q hq)
                      have HR40 := Lib.hid (HR40.out.q hq)
                      have HR43 := Lib.hid (HR43.out.q hq)
                      clear hq hW50
                      exact any_eq (by kernel_rfl) (by kernel_rfl) (by kernel_rfl) (KEY.out ((.slice (some ⟨W47.heap.size, 0, none⟩) 2 2), (.slice (some ⟨W37.heap.size, 0, none⟩) 1 1), x49, (.slice (some ⟨W49.heap.size, 0, none⟩) 2 2)) _ ⟨HR43.out, HR46.out, HW.out⟩)
                   · as_aux_lemma =>
                      go_simp
                      refine hK _ _ ?_
                      clear hK K
                      obtain ⟨W51, hW51⟩ : ∃ x, W48.alloc (.cells #[.int .i64 2, .int .i64 4, .int .i64 6, .int .i64 7] 23) = x := ⟨_, rfl⟩
                      have HR46 := Lib.hid (show Rd W51 (.slice (some ⟨W48.heap.size, 0, none⟩) 2 2) [(2, 4), (6, 7)] by rw [← hW51]; exact rd_new _ [(2, 4), (6, 7)] 2 (Nat.le_refl _) _ rfl)
                      have hq : Q W48 W51 := by rw [← hW51]; exact (Q.refl _).alloc _
                      rw [hW51]
                      have HW := Lib.hid (HW.out.trans hq)
                      have HR42 := Lib.hid (HR42.out.q hq)
                      have HR40 := Lib.hid (HR40.out.q hq)
                      clear hq hW51
                      refine wpAny_ready (rs := [43]) (by kernel_rfl) (by simp) ?_
                      refine AllReady.cons rfl (fun K hK => ?_) AllReady.nil
                      go_simp
                      go_wp2_with (go_at_call 24; refine (aw9 _ _ _ HR40.out HR42.out).mono ?_; rintro e W52 ⟨x52, rfl, hr, hq⟩)
                      have HW := Lib.hid (HW.out.trans hq)
                      have HR42 := Lib.hid (HR42.out.q hq)
                      have HR40 := Lib.hid (HR40.out.q hq)
                      have HR46 := Lib.hid (HR46.out.q hq)
                      have HR43 := Lib.hid hr
                      clear hr
                      clear hq
                      exact any_eq (by kernel_rfl) (by kernel_rfl) (by kernel_rfl) (KEY.out ((.slice (some ⟨W47.heap.size, 0, none⟩) 2 2), (.slice (some ⟨W37.heap.size, 0, none⟩) 1 1), x52, (.slice (some ⟨W48.heap.size, 0, none⟩) 2 2)) _ ⟨HR43.out, HR46.out, HW.out⟩)
                · as_aux_lemma =>
                   go_simp
                   refine hK _ _ ?_
                   clear hK K
                   obtain ⟨W53, hW53⟩ : ∃ x, W47.alloc (.cells #[.int .i64 2, .int .i64 4, .int .i64 6, .int .i64 7] 23) = x := ⟨_, rfl⟩
                   have HR46 := Lib.hid (show Rd W53 (.slice (some ⟨W47.heap.size, 0, none⟩) 2 2) [(2, 4), (6, 7)] by rw [← hW53]; exact rd_new _ [(2, 4), (6, 7)] 2 (Nat.le_refl _) _ rfl)
                   have hq : Q W47 W53 := by rw [← hW53]; exact (Q.refl _).alloc _
                   rw [hW53]
                   have HW := Lib.hid (HW.out.trans hq)
                   have HR42 := Lib.hid (HR42.out.q hq)
                   clear hq hW53
                   refine wpAny_ready (rs := [40]) (by kernel_rfl) (by simp) ?_
                   refine AllReady.cons rfl (fun K hK => ?_) AllReady.nil
                   go_simp
                   refine hK _ _ ?_
                   clear hK K
                   obtain ⟨W54, hW54⟩ : ∃ x, W53.alloc (.cells #[.int .i64 0, .int .i64 4, .int .i64 6, .int .i64 9] 23) = x := ⟨_, rfl⟩
                   have HR40 := Lib.hid (show Rd W54 (.slice (some ⟨W53.heap.size, 0, none⟩) 2 2) [(0, 4), (6, 9)] by rw [← hW54]; exact rd_new _ [(0, 4), (6, 9)] 2 (Nat.le_refl _) _ rfl)
                   have hq : Q W53 W54 := by rw [← hW54]; exact (Q.refl _).alloc _
                   rw [hW54]
                   have HW := Lib.hid (HW.out.trans hq)
                   have HR42 := Lib.hid (HR42.out.q hq)
                   have HR46 := Lib.hid (HR46.out.q hq)
                   clear hq hW54
                   refine wpAny_ready (rs := [43]) (by kernel_rfl) (by simp) ?_
                   refine AllReady.cons rfl (fun K hK => ?_) AllReady.nil
                   go_simp
                   go_wp2_with (go_at_call 24; refine (aw9 _ _ _ HR40.out HR42.out).mono ?_; rintro e W55 ⟨x55, rfl, hr, hq⟩)
                   have HW := Lib.hid (HW.out.trans hq)
                   have HR42 := Lib.hid (HR42.out.q hq)
                   have HR46 := Lib.hid (HR46.out.q hq)
                   have HR40 := Lib.hid (HR40.out.q hq)
                   have HR43 := Lib.hid hr
                   clear hr
                   clear hq
                   exact any_eq (by kernel_rfl) (by kernel_rfl) (by kernel_rfl) (KEY.out ((.slice (some ⟨W53.heap.size, 0, none⟩) 2 2), (.slice (some ⟨W37.heap.size, 0, none⟩) 1 1), x55, (.slice (some ⟨W47.heap.size, 0, none⟩) 2 2)) _ ⟨HR43.out, HR46.out, HW.out⟩)
             · as_aux_lemma =>
                go_simp
                refine hK _ _ ?_
                clear hK K
                obtain ⟨W56, hW56⟩ : ∃ x, W37.alloc (.cells #[.int .i64 2, .int .i64 4, .int .i64 6, .int .i64 7] 23) = x := ⟨_, rfl⟩
                have HR46 := Lib.hid (show Rd W56 (.slice (some ⟨W37.heap.size, 0, none⟩) 2 2) [(2, 4), (6, 7)] by rw [← hW56]; exact rd_new _ [(2, 4), (6, 7)] 2 (Nat.le_refl _) _ rfl)
                have hq : Q W37 W56 := by rw [← hW56]; exact (Q.refl _).alloc _
                rw [hW56]
                have HW := Lib.hid (HW.out.trans hq)
                clear hq hW56
                refine wpAny_ready (rs := [40, 42]) (by kernel_rfl) (by simp) ?_
                refine AllReady.cons rfl (fun K hK => ?_) (AllReady.cons rfl (fun K hK => ?_) AllReady.nil)
                · as_aux_lemma =>
                   go_simp
                   refine hK _ _ ?_
                   clear hK K
                   obtain ⟨W57, hW57⟩ : ∃ x, W56.alloc (.cells #[.int .i64 0, .int .i64 4, .int .i64 6, .int .i64 9] 23) = x := ⟨_, rfl⟩
                   have HR40 := Lib.hid (show Rd W57 (.slice (some ⟨W56.heap.size, 0, none⟩) 2 2) [(0, 4), (6, 9)] by rw [← hW57]; exact rd_new _ [(0, 4), (6, 9)] 2 (Nat.le_refl _) _ rfl)
                   have hq : Q W56 W57 := by rw [← hW57]; exact (Q.refl _).alloc _
                   rw [hW57]
                   have HW := Lib.hid (HW.out.trans hq)
                   have HR46 := Lib.hid (HR46.out.q hq)
                   clear hq hW57
                   refine wpAny_ready (rs := [42]) (by kernel_rfl) (by simp) ?_
                   refine AllReady.cons rfl (fun K hK => ?_) AllReady.nil
                   go_simp
                   refine hK _ _ ?_
                   clear hK K
                   obtain ⟨W58, hW58⟩ : ∃ x, W57.alloc (.cells #[.int .i64 2, .int .i64 7] 23) = x := ⟨_, rfl⟩
                   have HR42 := Lib.hid (show Rd W58 (.slice (some ⟨W57.heap.size, 0, none⟩) 1 1) [(2, 7)] by rw [← hW58]; exact rd_new _ [(2, 7)] 1 (Nat.le_refl _) _ rfl)
                   have hq : Q W57 W58 := by rw [← hW58]; exact (Q.refl _).alloc _
                   rw [hW58]
                   have HW := Lib.hid (HW.out.trans hq)
                   have HR46 := Lib.hid (HR46.out.q hq)
                   have HR40 := Lib.hid (HR40.out.q hq)
                   clear hq hW58
                   refine wpAny_ready (rs := [43]) (by kernel_rfl) (by simp) ?_
                   refine AllReady.cons rfl (fun K hK => ?_) AllReady.nil
                   go_simp
                   go_wp2_with (go_at_call 24; refine (aw9 _ _ _ HR40.out HR42.out).mono ?_; rintro e W59 ⟨x59, rfl, hr, hq⟩)
                   have HW := Lib.hid (HW.out.trans hq)
                   have HR46 := Lib.hid (HR46.out.q hq)
                   have HR40 := Lib.hid (HR40.out.q hq)
                   have HR42 := Lib.hid (HR42.out.q hq)
                   have HR43 := Lib.hid hr
                   clear hr
                   clear hq
                   exact any_eq (by kernel_rfl) (by kernel_rfl) (by kernel_rfl) (KEY.out ((.slice (some ⟨W56.heap.size, 0, none⟩) 2 2), (.slice (some ⟨W57.heap.size, 0, none⟩) 1 1), x59, (.slice (some ⟨W37.heap.size, 0, none⟩) 2 2)) _ ⟨HR43.out, HR46.out, HW.out⟩)
                · as_aux_lemma =>
                   go_simp
                   refine hK _ _ ?_
                   clear hK K
                   obtain ⟨W60, hW60⟩ : ∃ x, W56.alloc (.cells #[.int .i64 2, .int .i64 7] 23) = x := ⟨_, rfl⟩
                   have HR42 := Lib.hid (show Rd W60 (.slice (some ⟨W56.heap.size, 0, none⟩) 1 1) [(2, 7)] by rw [← hW60]; exact rd_new _ [(2, 7)] 1 (Nat.le_refl _) _ rfl)
                   have hq : Q W56 W60 := by rw [← hW60]; exact (Q.refl _).alloc _
                   rw [hW60]
                   have HW := Lib.hid (HW.out.trans hq)
                   have HR46 := Lib.hid (HR46.out.q hq)
                   clear hq hW60
                   refine wpAny_ready (rs := [40]) (by kernel_rfl) (by simp) ?_
                   refine AllReady.cons rfl (fun K hK => ?_) AllReady.nil
                   go_simp
                   refine hK _ _ ?_
                   clear hK K
                   obtain ⟨W61, hW61⟩ : ∃ x, W60.alloc (.cells #[.int .i64 0, .int .i64 4, .int .i64 6, .int .i64 9] 23) = x := ⟨_, rfl⟩
                   have HR40 := Lib.hid (show Rd W61 (.slice (some ⟨W60.heap.size, 0, none⟩) 2 2) [(0, 4), (6, 9)] by rw [← hW61]; exact rd_new _ [(0, 4), (6, 9)] 2 (Nat.le_refl _) _ rfl)
                   have hq : Q W60 W61 := by rw [← hW61]; exact (Q.refl _).alloc _
                   rw [hW61]
                   have HW := Lib.hid (HW.out.trans hq)
                   have HR46 := Lib.hid (HR46.out.q hq)
                   have HR42 := Lib.hid (HR42.out.q hq)
                   clear hq hW61
                   refine wpAny_ready (rs := [43]) (by kernel_rfl) (by simp) ?_
                   refine AllReady.cons rfl (fun K hK => ?_) AllReady.nil
                   go_simp
                   go_wp2_with (go_at_call 24; refine (aw9 _ _ _ HR40.out HR42.out).mono ?_; rintro e W62 ⟨x62, rfl, hr, hq⟩)
                   have HW := Lib.hid (HW.out.trans hq)
                   have HR46 := Lib.hid (HR46.out.q hq)
                   have HR42 := Lib.hid (HR42.out.q hq)
                   have HR40 := Lib.hid (HR40.out.q hq)
                   have HR43 := Lib.hid hr
                   clear hr
                   clear hq
                   exact any_eq (by kernel_rfl) (by kernel_rfl) (by kernel_rfl) (KEY.out ((.slice (some ⟨W60.heap.size, 0, none⟩) 2 2), (.slice (some ⟨W56.heap.size, 0, none⟩) 1 1), x62, (.slice (some ⟨W37.heap.size, 0, none⟩) 2 2)) _ ⟨HR43.out, HR46.out, HW.out⟩)
          rintro ⟨y63_0, y63_1, y63_2, y63_3⟩ W63 ⟨hr1, hr2, hq⟩
          have HR43 := Lib.hid hr1
          have HR46 := Lib.hid hr2
          have HW := Lib.hid hq
          clear hr1 hr2 hq
          simp only [setAll, putAll, List.foldl_cons, List.foldl_nil]
          go_simp
          as_aux_lemma =>
           refine wpAny_ready (rs := [47]) (by kernel_rfl) (by simp) ?_
           refine AllReady.cons rfl (fun K hK => ?_) AllReady.nil
           go_simp
           go_wp2_with (go_at_call 17; refine (aw14 _ _ _ _ HR43.out HR46.out (by decide)).mono ?_; rintro e W64 ⟨rfl, hq⟩)
           have HW := Lib.hid (HW.out.trans hq)
           have HR43 := Lib.hid (HR43.out.q hq)
           have HR46 := Lib.hid (HR46.out.q hq)
           clear hq
           as_aux_lemma =>
            (refine wpAny_take (i := 48) (v := ?_) rfl (by kernel_rfl) (by kernel_rfl) (by kernel_rfl) (fun _ _ _ h => h) (Or.inl ⟨by kernel_rfl, ?_⟩) ?_; rotate_left; (focus (intro w; go_simp; try with_reducible rfl)))
            go_simp
            (refine wpAny_take (i := 49) (v := ?_) rfl (by kernel_rfl) (by kernel_rfl) (by kernel_rfl) (fun _ _ _ h => h) (Or.inl ⟨by kernel_rfl, ?_⟩) ?_; rotate_left; (focus (intro w; go_simp; try with_reducible rfl)))
            go_simp
            (refine wpAny_take (i := 50) (v := ?_) rfl (by kernel_rfl) (by kernel_rfl) (by kernel_rfl) (fun _ _ _ h => h) (Or.inl ⟨by kernel_rfl, ?_⟩) ?_; rotate_left; (focus (intro w; go_simp; try with_reducible rfl)))
            go_simp
            (refine wpAny_take (i := 51) (v := ?_) rfl (by kernel_rfl) (by kernel_rfl) (by kernel_rfl) (fun _ _ _ h => h) (Or.inl ⟨by kernel_rfl, ?_⟩) ?_; rotate_left; (focus (intro w; go_simp; try with_reducible rfl)))
            go_simp
            refine wpAny_ready (rs := [52]) (by kernel_rfl) (by simp) ?_
            refine AllReady.cons rfl (fun K hK => ?_) AllReady.nil
            go_simp
            refine hK _ _ ?_
            clear hK K
            obtain ⟨W65, hW65⟩ : ∃ x, W64.alloc (.cells #[.int .i64 0, .int .i64 4, .int .i64 2, .int .i64 6] 23) = x := ⟨_, rfl⟩
            have HR52 := Lib.hid (show Rd W65 (.slice (some ⟨W64.heap.size, 0, none⟩) 2 2) [(0, 4), (2, 6)] by rw [← hW65]; exact rd_new _ [(0, 4), (2, 6)] 2 (Nat.le_refl _) _ rfl)
            have hq : Q W64 W65 := by rw [← hW65]; exact (Q.refl _).alloc _
            rw [hW65]
            have HW := Lib.hid (HW.out.trans hq)
            clear hq hW65
            as_aux_lemma =>
             refine wpAny_ready (rs := [53]) (by kernel_rfl) (by simp) ?_
             refine AllReady.cons rfl (fun K hK => ?_) AllReady.nil
             go_simp
             go_wp2_with (go_at_call 30; refine (aw10 _ _ HR52.out).mono ?_; rintro e W66 ⟨rfl, hq⟩)
             have HW := Lib.hid (HW.out.trans hq)
             have HR52 := Lib.hid (HR52.out.q hq)
             clear hq
             as_aux_lemma =>
              (refine wpAny_take (i := 54) (v := ?_) rfl (by kernel_rfl) (by kernel_rfl) (by kernel_rfl) (fun _ _ _ h => h) (Or.inl ⟨by kernel_rfl, ?_⟩) ?_; rotate_left; (focus (intro w; go_simp; try with_reducible rfl)))
              go_simp
              (refine wpAny_take (i := 55) (v := ?_) rfl (by kernel_rfl) (by kernel_rfl) (by kernel_rfl) (fun _ _ _ h => h) (Or.inl ⟨by kernel_rfl, ?_⟩) ?_; rotate_left; (focus (intro w; go_simp; try with_reducible rfl)))
              go_simp
              (refine wpAny_take (i := 56) (v := ?_) rfl (by kernel_rfl) (by kernel_rfl) (by kernel_rfl) (fun _ _ _ h => h) (Or.inl ⟨by kernel_rfl, ?_⟩) ?_; rotate_left; (focus (intro w; go_simp; try with_reducible rfl)))
              go_simp
              (refine wpAny_take (i := 57) (v := ?_) rfl (by kernel_rfl) (by kernel_rfl) (by kernel_rfl) (fun _ _ _ h => h) (Or.inl ⟨by kernel_rfl, ?_⟩) ?_; rotate_left; (focus (intro w; go_simp; try with_reducible rfl)))
              go_simp
              (refine wpAny_take (i := 58) (v := ?_) rfl (by kernel_rfl) (by kernel_rfl) (by kernel_rfl) (fun _ _ _ h => h) (Or.inl ⟨by kernel_rfl, ?_⟩) ?_; rotate_left; (focus (intro w; go_simp; try with_reducible rfl)))
              go_simp
              (refine wpAny_take (i := 59) (v := ?_) rfl (by kernel_rfl) (by kernel_rfl) (by kernel_rfl) (fun _ _ _ h => h) (Or.inl ⟨by kernel_rfl, ?_⟩) ?_; rotate_left; (focus (intro w; go_simp; try with_reducible rfl)))
              go_simp
              (refine wpAny_take (i := 60) (v := ?_) rfl (by kernel_rfl) (by kernel_rfl) (by kernel_rfl) (fun _ _ _ h => h) (Or.inl ⟨by kernel_rfl, ?_⟩) ?_; rotate_left; (focus (intro w; go_simp; try with_reducible rfl)))
              go_simp
              refine wpAny_ready (rs := [61]) (by kernel_rfl) (by simp) ?_
              refine AllReady.cons rfl (fun K hK => ?_) AllReady.nil
              go_simp
              go_wp2_with (go_at_call 22; refine (aw11 _ _ _ (rd_part (HRA.out.q HW.out) 0 1 5 (by decide) _ rfl rfl (by decide)) (rd_part (HRA.out.q HW.out) 1 1 4 (by decide) _ rfl rfl (by decide)) nn_some nn_some).mono ?_; rintro e W67 ⟨A1, c1, rfl, hq⟩)
              have HW := Lib.hid (HW.out.trans hq)
              have HR52 := Lib.hid (HR52.out.q hq)
              clear hq
              as_aux_lemma =>
               (refine wpAny_take (i := 62) (v := ?_) rfl (by kernel_rfl) (by kernel_rfl) (by kernel_rfl) (fun _ _ _ h => h) (Or.inl ⟨by kernel_rfl, ?_⟩) ?_; rotate_left; (focus (intro w; go_simp; try with_reducible rfl)))
               go_simp
               (refine wpAny_take (i := 63) (v := ?_) rfl (by kernel_rfl) (by kernel_rfl) (by kernel_rfl) (fun _ _ _ h => h) (Or.inl ⟨by kernel_rfl, ?_⟩) ?_; rotate_left; (focus (intro w; go_simp; try with_reducible rfl)))
               go_simp
               (refine wpAny_take (i := 64) (v := ?_) rfl (by kernel_rfl) (by kernel_rfl) (by kernel_rfl) (fun _ _ _ h => h) (Or.inl ⟨by kernel_rfl, ?_⟩) ?_; rotate_left; (focus (intro w; go_simp; try with_reducible rfl)))
               go_simp
               (refine wpAny_take (i := 65) (v := ?_) rfl (by kernel_rfl) (by kernel_rfl) (by kernel_rfl) (fun _ _ _ h => h) (Or.inl ⟨by kernel_rfl, ?_⟩) ?_; rotate_left; (focus (intro w; go_simp; try with_reducible rfl)))
               go_simp
               (refine wpAny_take (i := 66) (v := ?_) rfl (by kernel_rfl) (by kernel_rfl) (by kernel_rfl) (fun _ _ _ h => h) (Or.inl ⟨by kernel_rfl, ?_⟩) ?_; rotate_left; (focus (intro w; go_simp; try with_reducible rfl)))
               go_simp
               refine wpAny_ready (rs := [67]) (by kernel_rfl) (by simp) ?_
               refine AllReady.cons rfl (fun K hK => ?_) AllReady.nil
               go_simp
               go_wp2_with (go_at_call 32; refine (aw12 _ _ (HRA.out.q HW.out)).mono ?_; rintro e W68 ⟨rfl, hq⟩)
               have HW := Lib.hid (HW.out.trans hq)
               have HR52 := Lib.hid (HR52.out.q hq)
               clear hq
               as_aux_lemma =>
                (refine wpAny_take (i := 68) (v := ?_) rfl (by kernel_rfl) (by kernel_rfl) (by kernel_rfl) (fun _ _ _ h => h) (Or.inl ⟨by kernel_rfl, ?_⟩) ?_; rotate_left; (focus (intro w; go_simp; try with_reducible rfl)))
                go_simp
                (refine wpAny_take (i := 69) (v := ?_) rfl (by kernel_rfl) (by kernel_rfl) (by kernel_rfl) (fun _ _ _ h => h) (Or.inl ⟨by kernel_rfl, ?_⟩) ?_; rotate_left; (focus (intro w; go_simp; try with_reducible rfl)))
                go_simp
                (refine wpAny_take (i := 70) (v := ?_) rfl (by kernel_rfl) (by kernel_rfl) (by kernel_rfl) (fun _ _ _ h => h) (Or.inl ⟨by kernel_rfl, ?_⟩) ?_; rotate_left; (focus (intro w; go_simp; try with_reducible rfl)))
                go_simp
                refine wpAny_ready (rs := [71]) (by kernel_rfl) (by simp) ?_
                refine AllReady.cons rfl (fun K hK => ?_) AllReady.nil
                go_simp
                go_wp2_with (go_at_call 32; refine (aw13 _ _ (HRA.out.q HW.out)).mono ?_; rintro e W69 ⟨rfl, hq⟩)
                have HW := Lib.hid (HW.out.trans hq)
                have HR52 := Lib.hid (HR52.out.q hq)
                clear hq
                as_aux_lemma =>
                 (refine wpAny_take (i := 72) (v := ?_) rfl (by kernel_rfl) (by kernel_rfl) (by kernel_rfl) (fun _ _ _ h => h) (Or.inl ⟨by kernel_rfl, ?_⟩) ?_; rotate_left; (focus (intro w; go_simp; try with_reducible rfl)))
                 go_simp
                 (refine wpAny_take (i := 73) (v := ?_) rfl (by kernel_rfl) (by kernel_rfl) (by kernel_rfl) (fun _ _ _ h => h) (Or.inl ⟨by kernel_rfl, ?_⟩) ?_; rotate_left; (focus (intro w; go_simp; try with_reducible rfl)))
                 go_simp
                 (refine wpAny_take (i := 74) (v := ?_) rfl (by kernel_rfl) (by kernel_rfl) (by kernel_rfl) (fun _ _ _ h => h) (Or.inl ⟨by kernel_rfl, ?_⟩) ?_; rotate_left; (focus (intro w; go_simp; try with_reducible rfl)))
                 go_simp
                 (refine wpAny_take (i := 76) (v := ?_) rfl (by kernel_rfl) (by kernel_rfl) (by kernel_rfl) (fun _ _ _ h => h) (Or.inl ⟨by kernel_rfl, ?_⟩) ?_; rotate_left; (focus (intro w; go_simp; try with_reducible rfl)))
                 go_simp
                 obtain ⟨hl0, hl1, _⟩ := HBX.out.q HW.out
                 refine wpAny_ready (rs := [75]) (by kernel_rfl) (by simp) ?_
                 refine AllReady.cons rfl (fun K hK => ?_) AllReady.nil
                 go_simp
                 refine hK _ _ ?_
                 clear hK K
                 as_aux_lemma =>
                  (refine wpAny_take (i := 77) (v := ?_) rfl (by kernel_rfl) (by kernel_rfl) (by kernel_rfl) (fun _ _ _ h => h) (Or.inl ⟨by kernel_rfl, ?_⟩) ?_; rotate_left; (focus (intro w; go_simp; try with_reducible rfl)))
                  go_simp
                  (refine wpAny_take (i := 78) (v := ?_) rfl (by kernel_rfl) (by kernel_rfl) (by kernel_rfl) (fun _ _ _ h => h) (Or.inl ⟨by kernel_rfl, ?_⟩) ?_; rotate_left; (focus (intro w; go_simp; try with_reducible rfl)))
                  go_simp
                  (refine wpAny_take (i := 79) (v := ?_) rfl (by kernel_rfl) (by kernel_rfl) (by kernel_rfl) (fun _ _ _ h => h) (Or.inl ⟨by kernel_rfl, ?_⟩) ?_; rotate_left; (focus (intro w; go_simp; try with_reducible rfl)))
                  go_simp
                  (refine wpAny_take (i := 80) (v := ?_) rfl (by kernel_rfl) (by kernel_rfl) (by kernel_rfl) (fun _ _ _ h => h) (Or.inl ⟨by kernel_rfl, ?_⟩) ?_; rotate_left; (focus (intro w; go_simp; try with_reducible rfl)))
                  go_simp
                  (refine wpAny_take (i := 81) (v := ?_) rfl (by kernel_rfl) (by kernel_rfl) (by kernel_rfl) (fun _ _ _ h => h) (Or.inl ⟨by kernel_rfl, ?_⟩) ?_; rotate_left; (focus (intro w; go_simp; try with_reducible rfl)))
                  go_simp
                  (refine wpAny_take (i := 82) (v := ?_) rfl (by kernel_rfl) (by kernel_rfl) (by kernel_rfl) (fun _ _ _ h => h) (Or.inl ⟨by kernel_rfl, ?_⟩) ?_; rotate_left; (focus (intro w; go_simp; try with_reducible rfl)))
                  go_simp
                  (refine wpAny_take (i := 83) (v := ?_) rfl (by kernel_rfl) (by kernel_rfl) (by kernel_rfl) (fun _ _ _ h => h) (Or.inl ⟨by kernel_rfl, ?_⟩) ?_; rotate_left; (focus (intro w; go_simp; try with_reducible rfl)))
                  go_simp
                  (refine wpAny_take (i := 84) (v := ?_) rfl (by kernel_rfl) (by kernel_rfl) (by kernel_rfl) (fun _ _ _ h => h) (Or.inl ⟨by kernel_rfl, ?_⟩) ?_; rotate_left; (focus (intro w; go_simp; try with_reducible rfl)))
                  go_simp
                  (refine wpAny_take (i := 85) (v := ?_) rfl (by kernel_rfl) (by kernel_rfl) (by kernel_rfl) (fun _ _ _ h => h) (Or.inl ⟨by kernel_rfl, ?_⟩) ?_; rotate_left; (focus (intro w; go_simp; try with_reducible rfl)))
                  go_simp
                  (refine wpAny_take (i := 86) (v := ?_) rfl (by kernel_rfl) (by kernel_rfl) (by kernel_rfl) (fun _ _ _ h => h) (Or.inl ⟨by kernel_rfl, ?_⟩) ?_; rotate_left; (focus (intro w; go_simp; try with_reducible rfl)))
                  go_simp
                  refine wpAny_done (by kernel_rfl) ?_ _
                  go_wp2_with fail
                  go_ret
                  exact ⟨rfl, HQ2.out.trans HW.out⟩
end Go.Proofs.Ytnbpkbdkhegheaa
