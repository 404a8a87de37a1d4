/- The walk of the law SpanMinus. -/
import Derived.Test.YtnbpkbdkhegheaaW4
set_option linter.unusedVariables false
set_option linter.unusedSimpArgs false
namespace Go.Proofs.Ytnbpkbdkhegheaa
open Go.ChangeShapes Go.WideShapes Go.ChangeAt Go.RowKit Sm

theorem fit_mem {L a : List S} (hc : can L) (hm : ∀ n, mem L n → mem a n) (hf : FitL a) : FitL L := fun s hs => by
  have h0 := hc.1 s hs
  obtain ⟨t, ht, h1, h2⟩ := hm s.1 ⟨s, hs, by omega, h0⟩
  obtain ⟨u, hu, h3, h4⟩ := hm (s.2 - 1) ⟨s, hs, by omega, by omega⟩
  have g1 := hf t ht
  have g2 := hf u hu
  unfold FitS Fit at *
  omega
theorem fit_app {a b : List S} (ha : FitL a) (hb : FitL b) : FitL (a ++ b) := fun s hs => (List.mem_append.1 hs).elim (ha s) (hb s)
theorem fit_uni {a b : List S} (ha : FitL a) (hb : FitL b) : FitL (uniS a b) := (fit_app ha hb).canon
theorem fit_com {a b : List S} (ha : FitL a) (_ : FitL b) : FitL (comS a b) := fit_mem (comS_spec a b).1 (fun n h => (((comS_spec a b).2 n).1 h).1) ha
theorem fit_min {a b : List S} (ha : FitL a) (_ : FitL b) : FitL (minS a b) := fit_mem (minS_spec a b).1 (fun n h => (((minS_spec a b).2 n).1 h).1) ha
theorem law0 (l l1 l2 : List S) : (uniS l l1) = (uniS l1 l) := can_eq (uniS_spec _ _).1 (uniS_spec _ _).1 fun n => by
  by_cases h0 : mem l n <;> by_cases h1 : mem l1 n <;> by_cases h2 : mem l2 n <;> simp [(uniS_spec _ _).2, (comS_spec _ _).2, (minS_spec _ _).2, h0, h1, h2]
theorem law1 (l l1 l2 : List S) : (comS l l1) = (comS l1 l) := can_eq (comS_spec _ _).1 (comS_spec _ _).1 fun n => by
  by_cases h0 : mem l n <;> by_cases h1 : mem l1 n <;> by_cases h2 : mem l2 n <;> simp [(uniS_spec _ _).2, (comS_spec _ _).2, (minS_spec _ _).2, h0, h1, h2]
theorem law2 (l l1 l2 : List S) : (uniS (uniS l l1) l2) = (uniS l (uniS l1 l2)) := can_eq (uniS_spec _ _).1 (uniS_spec _ _).1 fun n => by
  by_cases h0 : mem l n <;> by_cases h1 : mem l1 n <;> by_cases h2 : mem l2 n <;> simp [(uniS_spec _ _).2, (comS_spec _ _).2, (minS_spec _ _).2, h0, h1, h2]
theorem law3 (l l1 l2 : List S) : (comS (comS l l1) l2) = (comS l (comS l1 l2)) := can_eq (comS_spec _ _).1 (comS_spec _ _).1 fun n => by
  by_cases h0 : mem l n <;> by_cases h1 : mem l1 n <;> by_cases h2 : mem l2 n <;> simp [(uniS_spec _ _).2, (comS_spec _ _).2, (minS_spec _ _).2, h0, h1, h2]
theorem law4 (l l1 l2 : List S) : (comS l (uniS l1 l2)) = (uniS (comS l l1) (comS l l2)) := can_eq (comS_spec _ _).1 (uniS_spec _ _).1 fun n => by
  by_cases h0 : mem l n <;> by_cases h1 : mem l1 n <;> by_cases h2 : mem l2 n <;> simp [(uniS_spec _ _).2, (comS_spec _ _).2, (minS_spec _ _).2, h0, h1, h2]
theorem law5 (l l1 l2 : List S) : (uniS l (comS l1 l2)) = (comS (uniS l l1) (uniS l l2)) := can_eq (uniS_spec _ _).1 (comS_spec _ _).1 fun n => by
  by_cases h0 : mem l n <;> by_cases h1 : mem l1 n <;> by_cases h2 : mem l2 n <;> simp [(uniS_spec _ _).2, (comS_spec _ _).2, (minS_spec _ _).2, h0, h1, h2]
theorem law6 (l l1 l2 : List S) : (minS l (uniS l1 l2)) = (comS (minS l l1) (minS l l2)) := can_eq (minS_spec _ _).1 (comS_spec _ _).1 fun n => by
  by_cases h0 : mem l n <;> by_cases h1 : mem l1 n <;> by_cases h2 : mem l2 n <;> simp [(uniS_spec _ _).2, (comS_spec _ _).2, (minS_spec _ _).2, h0, h1, h2]
theorem law7 (l l1 l2 : List S) : (minS l (minS l l1)) = (comS l l1) := can_eq (minS_spec _ _).1 (comS_spec _ _).1 fun n => by
  by_cases h0 : mem l n <;> by_cases h1 : mem l1 n <;> by_cases h2 : mem l2 n <;> simp [(uniS_spec _ _).2, (comS_spec _ _).2, (minS_spec _ _).2, h0, h1, h2]
set_option maxRecDepth 100000 in
theorem minus_far_a (w : World) (AW : Awk) (A A1 A2 : Option Addr) (c c1 c2 n n1 n2 : Nat) (h0 : decide ((20 : Int) < (n : Int)) = true) :
    Calls Try.prog 8 #[.slice A n c, .slice A1 n1 c1, .slice A2 n2 c2] w fun e w' => e = .returned (.bool true) ∧ Below w.heap.size w w' := by
  go_enter Try.func8, Try.ntmps8
  go_wp2_with fail
  refine (AW.out _).mono ?_; rintro e wz ⟨rfl, hq⟩
  go_wp2_with fail
  go_ret
  exact ⟨rfl, hq⟩
set_option maxRecDepth 100000 in
theorem minus_far_b (w : World) (AW : Awk) (A A1 A2 : Option Addr) (c c1 c2 n n1 n2 : Nat) (h0 : decide ((20 : Int) < (n : Int)) = false) (h1 : decide ((20 : Int) < (n1 : Int)) = true) :
    Calls Try.prog 8 #[.slice A n c, .slice A1 n1 c1, .slice A2 n2 c2] w fun e w' => e = .returned (.bool true) ∧ Below w.heap.size w w' := by
  go_enter Try.func8, Try.ntmps8
  go_wp2_with fail
  refine (AW.out _).mono ?_; rintro e wz ⟨rfl, hq⟩
  go_wp2_with fail
  go_ret
  exact ⟨rfl, hq⟩
set_option maxRecDepth 100000 in
theorem minus_far_c (w : World) (AW : Awk) (A A1 A2 : Option Addr) (c c1 c2 n n1 n2 : Nat) (h0 : decide ((20 : Int) < (n : Int)) = false) (h1 : decide ((20 : Int) < (n1 : Int)) = false) (h2 : decide ((20 : Int) < (n2 : Int)) = true) :
    Calls Try.prog 8 #[.slice A n c, .slice A1 n1 c1, .slice A2 n2 c2] w fun e w' => e = .returned (.bool true) ∧ Below w.heap.size w w' := by
  go_enter Try.func8, Try.ntmps8
  go_wp2_with fail
  refine (AW.out _).mono ?_; rintro e wz ⟨rfl, hq⟩
  go_wp2_with fail
  go_ret
  exact ⟨rfl, hq⟩
set_option maxRecDepth 100000 in
set_option maxHeartbeats 6400000 in
theorem minus_full (w : World) (AW : Awk) (A A1 A2 : Option Addr) (c c1 c2 n n1 n2 : Nat) (l l1 l2 : List S) (R0 : Hid (Rd w (.slice A n c) l)) (R1 : Hid (Rd w (.slice A1 n1 c1) l1)) (R2 : Hid (Rd w (.slice A2 n2 c2) l2))
    (N0 : Hid (Nn (.slice A n c))) (N1 : Hid (Nn (.slice A1 n1 c1))) (N2 : Hid (Nn (.slice A2 n2 c2))) (F0 : Hid (FitL l)) (F1 : Hid (FitL l1)) (F2 : Hid (FitL l2)) (B0 : Hid (l.length ≤ 20)) (B1 : Hid (l1.length ≤ 20)) (B2 : Hid (l2.length ≤ 20))
    (h0 : decide ((20 : Int) < (n : Int)) = false) (h1 : decide ((20 : Int) < (n1 : Int)) = false) (h2 : decide ((20 : Int) < (n2 : Int)) = false) :
    Calls Try.prog 8 #[.slice A n c, .slice A1 n1 c1, .slice A2 n2 c2] w fun e w' => e = .returned (.bool true) ∧ Below w.heap.size w w' := by
  have E0 := Lib.hid (law0 l l1 l2)
  have E1 := Lib.hid (law1 l l1 l2)
  have E2 := Lib.hid (law2 l l1 l2)
  have E3 := Lib.hid (law3 l l1 l2)
  have E4 := Lib.hid (law4 l l1 l2)
  have E5 := Lib.hid (law5 l l1 l2)
  have E6 := Lib.hid (law6 l l1 l2)
  have E7 := Lib.hid (law7 l l1 l2)
  have QZ := Lib.hid (Q.refl w)
  go_enter Try.func8, Try.ntmps8
  go_wp2_with fail
  refine (Union_c (.slice A n c) (.slice A1 n1 c1) l l1 _ (R0.out.q QZ.out) (R1.out.q QZ.out) N0.out N1.out (Nat.le_trans B0.out (show 20 ≤ 50000 by decide)) (Nat.le_trans B1.out (show 20 ≤ 50000 by decide))).mono ?_; rintro e w1 ⟨x1, rfl, ho, hq⟩
  have QZ := Lib.hid (QZ.out.trans hq)
  have Hx1 := Lib.hid ho.rd
  have Px1 := Lib.hid ho.nn
  clear ho hq
  go_wp2_with fail
  refine (Union_c (.slice A1 n1 c1) (.slice A n c) l1 l _ (R1.out.q QZ.out) (R0.out.q QZ.out) N1.out N0.out (Nat.le_trans B1.out (show 20 ≤ 50000 by decide)) (Nat.le_trans B0.out (show 20 ≤ 50000 by decide))).mono ?_; rintro e w2 ⟨x2, rfl, ho, hq⟩
  have QZ := Lib.hid (QZ.out.trans hq)
  have Hx1 := Lib.hid (Hx1.out.q hq)
  have Hx2 := Lib.hid ho.rd
  have Px2 := Lib.hid ho.nn
  clear ho hq
  go_wp2_with fail
  refine (Same_yes x1 x2 (uniS l l1) _ Hx1.out (by rw [E0.out]; exact Hx2.out) (Nat.le_trans (show (uniS l l1).length ≤ 40 from Nat.le_trans (uni_len _ _) (Nat.add_le_add B0.out B1.out)) (show 40 ≤ 1000000 by decide))).mono ?_; rintro e w3 ⟨rfl, hq⟩
  have QZ := Lib.hid (QZ.out.trans hq)
  clear hq
  go_wp2_with fail
  refine (Common_c (.slice A n c) (.slice A1 n1 c1) l l1 _ (R0.out.q QZ.out) (R1.out.q QZ.out) (Nat.le_trans B0.out (show 20 ≤ 100000 by decide)) (Nat.le_trans B1.out (show 20 ≤ 100000 by decide))).mono ?_; rintro e w4 ⟨x4, rfl, ho, hq⟩
  have QZ := Lib.hid (QZ.out.trans hq)
  have Hx4 := Lib.hid ho.rd
  have Px4 := Lib.hid ho.nn
  clear ho hq
  go_wp2_with fail
  refine (Common_c (.slice A1 n1 c1) (.slice A n c) l1 l _ (R1.out.q QZ.out) (R0.out.q QZ.out) (Nat.le_trans B1.out (show 20 ≤ 100000 by decide)) (Nat.le_trans B0.out (show 20 ≤ 100000 by decide))).mono ?_; rintro e w5 ⟨x5, rfl, ho, hq⟩
  have QZ := Lib.hid (QZ.out.trans hq)
  have Hx4 := Lib.hid (Hx4.out.q hq)
  have Hx5 := Lib.hid ho.rd
  have Px5 := Lib.hid ho.nn
  clear ho hq
  go_wp2_with fail
  refine (Same_yes x4 x5 (comS l l1) _ Hx4.out (by rw [E1.out]; exact Hx5.out) (Nat.le_trans (show (comS l l1).length ≤ 400 from Nat.le_trans (com_len _ _) (Nat.mul_le_mul B0.out B1.out)) (show 400 ≤ 1000000 by decide))).mono ?_; rintro e w6 ⟨rfl, hq⟩
  have QZ := Lib.hid (QZ.out.trans hq)
  clear hq
  go_wp2_with fail
  refine (Union_c (.slice A n c) (.slice A1 n1 c1) l l1 _ (R0.out.q QZ.out) (R1.out.q QZ.out) N0.out N1.out (Nat.le_trans B0.out (show 20 ≤ 50000 by decide)) (Nat.le_trans B1.out (show 20 ≤ 50000 by decide))).mono ?_; rintro e w7 ⟨x7, rfl, ho, hq⟩
  have QZ := Lib.hid (QZ.out.trans hq)
  have Hx7 := Lib.hid ho.rd
  have Px7 := Lib.hid ho.nn
  clear ho hq
  go_wp2_with fail
  refine (Union_c x7 (.slice A2 n2 c2) (uniS l l1) l2 _ Hx7.out (R2.out.q QZ.out) Px7.out N2.out (Nat.le_trans (show (uniS l l1).length ≤ 40 from Nat.le_trans (uni_len _ _) (Nat.add_le_add B0.out B1.out)) (show 40 ≤ 50000 by decide)) (Nat.le_trans B2.out (show 20 ≤ 50000 by decide))).mono ?_; rintro e w8 ⟨x8, rfl, ho, hq⟩
  have QZ := Lib.hid (QZ.out.trans hq)
  have Hx8 := Lib.hid ho.rd
  have Px8 := Lib.hid ho.nn
  clear ho hq
  go_wp2_with fail
  refine (Union_c (.slice A1 n1 c1) (.slice A2 n2 c2) l1 l2 _ (R1.out.q QZ.out) (R2.out.q QZ.out) N1.out N2.out (Nat.le_trans B1.out (show 20 ≤ 50000 by decide)) (Nat.le_trans B2.out (show 20 ≤ 50000 by decide))).mono ?_; rintro e w9 ⟨x9, rfl, ho, hq⟩
  have QZ := Lib.hid (QZ.out.trans hq)
  have Hx8 := Lib.hid (Hx8.out.q hq)
  have Hx9 := Lib.hid ho.rd
  have Px9 := Lib.hid ho.nn
  clear ho hq
  go_wp2_with fail
  refine (Union_c (.slice A n c) x9 l (uniS l1 l2) _ (R0.out.q QZ.out) Hx9.out N0.out Px9.out (Nat.le_trans B0.out (show 20 ≤ 50000 by decide)) (Nat.le_trans (show (uniS l1 l2).length ≤ 40 from Nat.le_trans (uni_len _ _) (Nat.add_le_add B1.out B2.out)) (show 40 ≤ 50000 by decide))).mono ?_; rintro e w10 ⟨x10, rfl, ho, hq⟩
  have QZ := Lib.hid (QZ.out.trans hq)
  have Hx8 := Lib.hid (Hx8.out.q hq)
  have Hx10 := Lib.hid ho.rd
  have Px10 := Lib.hid ho.nn
  clear ho hq
  go_wp2_with fail
  refine (Same_yes x8 x10 (uniS (uniS l l1) l2) _ Hx8.out (by rw [E2.out]; exact Hx10.out) (Nat.le_trans (show (uniS (uniS l l1) l2).length ≤ 60 from Nat.le_trans (uni_len _ _) (Nat.add_le_add (show (uniS l l1).length ≤ 40 from Nat.le_trans (uni_len _ _) (Nat.add_le_add B0.out B1.out)) B2.out)) (show 60 ≤ 1000000 by decide))).mono ?_; rintro e w11 ⟨rfl, hq⟩
  have QZ := Lib.hid (QZ.out.trans hq)
  clear hq
  go_wp2_with fail
  refine (Common_c (.slice A n c) (.slice A1 n1 c1) l l1 _ (R0.out.q QZ.out) (R1.out.q QZ.out) (Nat.le_trans B0.out (show 20 ≤ 100000 by decide)) (Nat.le_trans B1.out (show 20 ≤ 100000 by decide))).mono ?_; rintro e w12 ⟨x12, rfl, ho, hq⟩
  have QZ := Lib.hid (QZ.out.trans hq)
  have Hx12 := Lib.hid ho.rd
  have Px12 := Lib.hid ho.nn
  clear ho hq
  go_wp2_with fail
  refine (Common_c x12 (.slice A2 n2 c2) (comS l l1) l2 _ Hx12.out (R2.out.q QZ.out) (Nat.le_trans (show (comS l l1).length ≤ 400 from Nat.le_trans (com_len _ _) (Nat.mul_le_mul B0.out B1.out)) (show 400 ≤ 100000 by decide)) (Nat.le_trans B2.out (show 20 ≤ 100000 by decide))).mono ?_; rintro e w13 ⟨x13, rfl, ho, hq⟩
  have QZ := Lib.hid (QZ.out.trans hq)
  have Hx13 := Lib.hid ho.rd
  have Px13 := Lib.hid ho.nn
  clear ho hq
  go_wp2_with fail
  refine (Common_c (.slice A1 n1 c1) (.slice A2 n2 c2) l1 l2 _ (R1.out.q QZ.out) (R2.out.q QZ.out) (Nat.le_trans B1.out (show 20 ≤ 100000 by decide)) (Nat.le_trans B2.out (show 20 ≤ 100000 by decide))).mono ?_; rintro e w14 ⟨x14, rfl, ho, hq⟩
  have QZ := Lib.hid (QZ.out.trans hq)
  have Hx13 := Lib.hid (Hx13.out.q hq)
  have Hx14 := Lib.hid ho.rd
  have Px14 := Lib.hid ho.nn
  clear ho hq
  go_wp2_with fail
  refine (Common_c (.slice A n c) x14 l (comS l1 l2) _ (R0.out.q QZ.out) Hx14.out (Nat.le_trans B0.out (show 20 ≤ 100000 by decide)) (Nat.le_trans (show (comS l1 l2).length ≤ 400 from Nat.le_trans (com_len _ _) (Nat.mul_le_mul B1.out B2.out)) (show 400 ≤ 100000 by decide))).mono ?_; rintro e w15 ⟨x15, rfl, ho, hq⟩
  have QZ := Lib.hid (QZ.out.trans hq)
  have Hx13 := Lib.hid (Hx13.out.q hq)
  have Hx15 := Lib.hid ho.rd
  have Px15 := Lib.hid ho.nn
  clear ho hq
  go_wp2_with fail
  refine (Same_yes x13 x15 (comS (comS l l1) l2) _ Hx13.out (by rw [E3.out]; exact Hx15.out) (Nat.le_trans (show (comS (comS l l1) l2).length ≤ 8000 from Nat.le_trans (com_len _ _) (Nat.mul_le_mul (show (comS l l1).length ≤ 400 from Nat.le_trans (com_len _ _) (Nat.mul_le_mul B0.out B1.out)) B2.out)) (show 8000 ≤ 1000000 by decide))).mono ?_; rintro e w16 ⟨rfl, hq⟩
  have QZ := Lib.hid (QZ.out.trans hq)
  clear hq
  go_wp2_with fail
  refine (Union_c (.slice A1 n1 c1) (.slice A2 n2 c2) l1 l2 _ (R1.out.q QZ.out) (R2.out.q QZ.out) N1.out N2.out (Nat.le_trans B1.out (show 20 ≤ 50000 by decide)) (Nat.le_trans B2.out (show 20 ≤ 50000 by decide))).mono ?_; rintro e w17 ⟨x17, rfl, ho, hq⟩
  have QZ := Lib.hid (QZ.out.trans hq)
  have Hx17 := Lib.hid ho.rd
  have Px17 := Lib.hid ho.nn
  clear ho hq
  go_wp2_with fail
  refine (Common_c (.slice A n c) x17 l (uniS l1 l2) _ (R0.out.q QZ.out) Hx17.out (Nat.le_trans B0.out (show 20 ≤ 100000 by decide)) (Nat.le_trans (show (uniS l1 l2).length ≤ 40 from Nat.le_trans (uni_len _ _) (Nat.add_le_add B1.out B2.out)) (show 40 ≤ 100000 by decide))).mono ?_; rintro e w18 ⟨x18, rfl, ho, hq⟩
  have QZ := Lib.hid (QZ.out.trans hq)
  have Hx18 := Lib.hid ho.rd
  have Px18 := Lib.hid ho.nn
  clear ho hq
  go_wp2_with fail
  refine (Common_c (.slice A n c) (.slice A1 n1 c1) l l1 _ (R0.out.q QZ.out) (R1.out.q QZ.out) (Nat.le_trans B0.out (show 20 ≤ 100000 by decide)) (Nat.le_trans B1.out (show 20 ≤ 100000 by decide))).mono ?_; rintro e w19 ⟨x19, rfl, ho, hq⟩
  have QZ := Lib.hid (QZ.out.trans hq)
  have Hx18 := Lib.hid (Hx18.out.q hq)
  have Hx19 := Lib.hid ho.rd
  have Px19 := Lib.hid ho.nn
  clear ho hq
  go_wp2_with fail
  refine (Common_c (.slice A n c) (.slice A2 n2 c2) l l2 _ (R0.out.q QZ.out) (R2.out.q QZ.out) (Nat.le_trans B0.out (show 20 ≤ 100000 by decide)) (Nat.le_trans B2.out (show 20 ≤ 100000 by decide))).mono ?_; rintro e w20 ⟨x20, rfl, ho, hq⟩
  have QZ := Lib.hid (QZ.out.trans hq)
  have Hx18 := Lib.hid (Hx18.out.q hq)
  have Hx19 := Lib.hid (Hx19.out.q hq)
  have Hx20 := Lib.hid ho.rd
  have Px20 := Lib.hid ho.nn
  clear ho hq
  go_wp2_with fail
  refine (Union_c x19 x20 (comS l l1) (comS l l2) _ Hx19.out Hx20.out Px19.out Px20.out (Nat.le_trans (show (comS l l1).length ≤ 400 from Nat.le_trans (com_len _ _) (Nat.mul_le_mul B0.out B1.out)) (show 400 ≤ 50000 by decide)) (Nat.le_trans (show (comS l l2).length ≤ 400 from Nat.le_trans (com_len _ _) (Nat.mul_le_mul B0.out B2.out)) (show 400 ≤ 50000 by decide))).mono ?_; rintro e w21 ⟨x21, rfl, ho, hq⟩
  have QZ := Lib.hid (QZ.out.trans hq)
  have Hx18 := Lib.hid (Hx18.out.q hq)
  have Hx21 := Lib.hid ho.rd
  have Px21 := Lib.hid ho.nn
  clear ho hq
  go_wp2_with fail
  refine (Same_yes x18 x21 (comS l (uniS l1 l2)) _ Hx18.out (by rw [E4.out]; exact Hx21.out) (Nat.le_trans (show (comS l (uniS l1 l2)).length ≤ 800 from Nat.le_trans (com_len _ _) (Nat.mul_le_mul B0.out (show (uniS l1 l2).length ≤ 40 from Nat.le_trans (uni_len _ _) (Nat.add_le_add B1.out B2.out)))) (show 800 ≤ 1000000 by decide))).mono ?_; rintro e w22 ⟨rfl, hq⟩
  have QZ := Lib.hid (QZ.out.trans hq)
  clear hq
  go_wp2_with fail
  refine (Common_c (.slice A1 n1 c1) (.slice A2 n2 c2) l1 l2 _ (R1.out.q QZ.out) (R2.out.q QZ.out) (Nat.le_trans B1.out (show 20 ≤ 100000 by decide)) (Nat.le_trans B2.out (show 20 ≤ 100000 by decide))).mono ?_; rintro e w23 ⟨x23, rfl, ho, hq⟩
  have QZ := Lib.hid (QZ.out.trans hq)
  have Hx23 := Lib.hid ho.rd
  have Px23 := Lib.hid ho.nn
  clear ho hq
  go_wp2_with fail
  refine (Union_c (.slice A n c) x23 l (comS l1 l2) _ (R0.out.q QZ.out) Hx23.out N0.out Px23.out (Nat.le_trans B0.out (show 20 ≤ 50000 by decide)) (Nat.le_trans (show (comS l1 l2).length ≤ 400 from Nat.le_trans (com_len _ _) (Nat.mul_le_mul B1.out B2.out)) (show 400 ≤ 50000 by decide))).mono ?_; rintro e w24 ⟨x24, rfl, ho, hq⟩
  have QZ := Lib.hid (QZ.out.trans hq)
  have Hx24 := Lib.hid ho.rd
  have Px24 := Lib.hid ho.nn
  clear ho hq
  go_wp2_with fail
  refine (Union_c (.slice A n c) (.slice A1 n1 c1) l l1 _ (R0.out.q QZ.out) (R1.out.q QZ.out) N0.out N1.out (Nat.le_trans B0.out (show 20 ≤ 50000 by decide)) (Nat.le_trans B1.out (show 20 ≤ 50000 by decide))).mono ?_; rintro e w25 ⟨x25, rfl, ho, hq⟩
  have QZ := Lib.hid (QZ.out.trans hq)
  have Hx24 := Lib.hid (Hx24.out.q hq)
  have Hx25 := Lib.hid ho.rd
  have Px25 := Lib.hid ho.nn
  clear ho hq
  go_wp2_with fail
  refine (Union_c (.slice A n c) (.slice A2 n2 c2) l l2 _ (R0.out.q QZ.out) (R2.out.q QZ.out) N0.out N2.out (Nat.le_trans B0.out (show 20 ≤ 50000 by decide)) (Nat.le_trans B2.out (show 20 ≤ 50000 by decide))).mono ?_; rintro e w26 ⟨x26, rfl, ho, hq⟩
  have QZ := Lib.hid (QZ.out.trans hq)
  have Hx24 := Lib.hid (Hx24.out.q hq)
  have Hx25 := Lib.hid (Hx25.out.q hq)
  have Hx26 := Lib.hid ho.rd
  have Px26 := Lib.hid ho.nn
  clear ho hq
  go_wp2_with fail
  refine (Common_c x25 x26 (uniS l l1) (uniS l l2) _ Hx25.out Hx26.out (Nat.le_trans (show (uniS l l1).length ≤ 40 from Nat.le_trans (uni_len _ _) (Nat.add_le_add B0.out B1.out)) (show 40 ≤ 100000 by decide)) (Nat.le_trans (show (uniS l l2).length ≤ 40 from Nat.le_trans (uni_len _ _) (Nat.add_le_add B0.out B2.out)) (show 40 ≤ 100000 by decide))).mono ?_; rintro e w27 ⟨x27, rfl, ho, hq⟩
  have QZ := Lib.hid (QZ.out.trans hq)
  have Hx24 := Lib.hid (Hx24.out.q hq)
  have Hx27 := Lib.hid ho.rd
  have Px27 := Lib.hid ho.nn
  clear ho hq
  go_wp2_with fail
  refine (Same_yes x24 x27 (uniS l (comS l1 l2)) _ Hx24.out (by rw [E5.out]; exact Hx27.out) (Nat.le_trans (show (uniS l (comS l1 l2)).length ≤ 420 from Nat.le_trans (uni_len _ _) (Nat.add_le_add B0.out (show (comS l1 l2).length ≤ 400 from Nat.le_trans (com_len _ _) (Nat.mul_le_mul B1.out B2.out)))) (show 420 ≤ 1000000 by decide))).mono ?_; rintro e w28 ⟨rfl, hq⟩
  have QZ := Lib.hid (QZ.out.trans hq)
  clear hq
  go_wp2_with fail
  refine (Union_c (.slice A1 n1 c1) (.slice A2 n2 c2) l1 l2 _ (R1.out.q QZ.out) (R2.out.q QZ.out) N1.out N2.out (Nat.le_trans B1.out (show 20 ≤ 50000 by decide)) (Nat.le_trans B2.out (show 20 ≤ 50000 by decide))).mono ?_; rintro e w29 ⟨x29, rfl, ho, hq⟩
  have QZ := Lib.hid (QZ.out.trans hq)
  have Hx29 := Lib.hid ho.rd
  have Px29 := Lib.hid ho.nn
  clear ho hq
  go_wp2_with fail
  refine (Minus_c (.slice A n c) x29 l (uniS l1 l2) _ (R0.out.q QZ.out) Hx29.out (Nat.le_trans B0.out (show 20 ≤ 100000 by decide)) (Nat.le_trans (show (uniS l1 l2).length ≤ 40 from Nat.le_trans (uni_len _ _) (Nat.add_le_add B1.out B2.out)) (show 40 ≤ 90000 by decide)) F0.out (fit_uni F1.out F2.out)).mono ?_; rintro e w30 ⟨x30, rfl, ho, hq⟩
  have QZ := Lib.hid (QZ.out.trans hq)
  have Hx30 := Lib.hid ho.rd
  have Px30 := Lib.hid ho.nn
  clear ho hq
  go_wp2_with fail
  refine (Minus_c (.slice A n c) (.slice A1 n1 c1) l l1 _ (R0.out.q QZ.out) (R1.out.q QZ.out) (Nat.le_trans B0.out (show 20 ≤ 100000 by decide)) (Nat.le_trans B1.out (show 20 ≤ 90000 by decide)) F0.out F1.out).mono ?_; rintro e w31 ⟨x31, rfl, ho, hq⟩
  have QZ := Lib.hid (QZ.out.trans hq)
  have Hx30 := Lib.hid (Hx30.out.q hq)
  have Hx31 := Lib.hid ho.rd
  have Px31 := Lib.hid ho.nn
  clear ho hq
  go_wp2_with fail
  refine (Minus_c (.slice A n c) (.slice A2 n2 c2) l l2 _ (R0.out.q QZ.out) (R2.out.q QZ.out) (Nat.le_trans B0.out (show 20 ≤ 100000 by decide)) (Nat.le_trans B2.out (show 20 ≤ 90000 by decide)) F0.out F2.out).mono ?_; rintro e w32 ⟨x32, rfl, ho, hq⟩
  have QZ := Lib.hid (QZ.out.trans hq)
  have Hx30 := Lib.hid (Hx30.out.q hq)
  have Hx31 := Lib.hid (Hx31.out.q hq)
  have Hx32 := Lib.hid ho.rd
  have Px32 := Lib.hid ho.nn
  clear ho hq
  go_wp2_with fail
  refine (Common_c x31 x32 (minS l l1) (minS l l2) _ Hx31.out Hx32.out (Nat.le_trans (show (minS l l1).length ≤ 40 from Nat.le_trans (min_len _ _) (Nat.add_le_add B0.out B1.out)) (show 40 ≤ 100000 by decide)) (Nat.le_trans (show (minS l l2).length ≤ 40 from Nat.le_trans (min_len _ _) (Nat.add_le_add B0.out B2.out)) (show 40 ≤ 100000 by decide))).mono ?_; rintro e w33 ⟨x33, rfl, ho, hq⟩
  have QZ := Lib.hid (QZ.out.trans hq)
  have Hx30 := Lib.hid (Hx30.out.q hq)
  have Hx33 := Lib.hid ho.rd
  have Px33 := Lib.hid ho.nn
  clear ho hq
  go_wp2_with fail
  refine (Same_yes x30 x33 (minS l (uniS l1 l2)) _ Hx30.out (by rw [E6.out]; exact Hx33.out) (Nat.le_trans (show (minS l (uniS l1 l2)).length ≤ 60 from Nat.le_trans (min_len _ _) (Nat.add_le_add B0.out (show (uniS l1 l2).length ≤ 40 from Nat.le_trans (uni_len _ _) (Nat.add_le_add B1.out B2.out)))) (show 60 ≤ 1000000 by decide))).mono ?_; rintro e w34 ⟨rfl, hq⟩
  have QZ := Lib.hid (QZ.out.trans hq)
  clear hq
  go_wp2_with fail
  refine (Minus_c (.slice A n c) (.slice A1 n1 c1) l l1 _ (R0.out.q QZ.out) (R1.out.q QZ.out) (Nat.le_trans B0.out (show 20 ≤ 100000 by decide)) (Nat.le_trans B1.out (show 20 ≤ 90000 by decide)) F0.out F1.out).mono ?_; rintro e w35 ⟨x35, rfl, ho, hq⟩
  have QZ := Lib.hid (QZ.out.trans hq)
  have Hx35 := Lib.hid ho.rd
  have Px35 := Lib.hid ho.nn
  clear ho hq
  go_wp2_with fail
  refine (Minus_c (.slice A n c) x35 l (minS l l1) _ (R0.out.q QZ.out) Hx35.out (Nat.le_trans B0.out (show 20 ≤ 100000 by decide)) (Nat.le_trans (show (minS l l1).length ≤ 40 from Nat.le_trans (min_len _ _) (Nat.add_le_add B0.out B1.out)) (show 40 ≤ 90000 by decide)) F0.out (fit_min F0.out F1.out)).mono ?_; rintro e w36 ⟨x36, rfl, ho, hq⟩
  have QZ := Lib.hid (QZ.out.trans hq)
  have Hx36 := Lib.hid ho.rd
  have Px36 := Lib.hid ho.nn
  clear ho hq
  go_wp2_with fail
  refine (Common_c (.slice A n c) (.slice A1 n1 c1) l l1 _ (R0.out.q QZ.out) (R1.out.q QZ.out) (Nat.le_trans B0.out (show 20 ≤ 100000 by decide)) (Nat.le_trans B1.out (show 20 ≤ 100000 by decide))).mono ?_; rintro e w37 ⟨x37, rfl, ho, hq⟩
  have QZ := Lib.hid (QZ.out.trans hq)
  have Hx36 := Lib.hid (Hx36.out.q hq)
  have Hx37 := Lib.hid ho.rd
  have Px37 := Lib.hid ho.nn
  clear ho hq
  go_wp2_with fail
  refine (Same_yes x36 x37 (minS l (minS l l1)) _ Hx36.out (by rw [E7.out]; exact Hx37.out) (Nat.le_trans (show (minS l (minS l l1)).length ≤ 60 from Nat.le_trans (min_len _ _) (Nat.add_le_add B0.out (show (minS l l1).length ≤ 40 from Nat.le_trans (min_len _ _) (Nat.add_le_add B0.out B1.out)))) (show 60 ≤ 1000000 by decide))).mono ?_; rintro e w38 ⟨rfl, hq⟩
  have QZ := Lib.hid (QZ.out.trans hq)
  clear hq
  go_wp2_with fail
  refine (AW.out _).mono ?_; rintro e wz ⟨rfl, hq⟩
  have QZ := Lib.hid (QZ.out.trans hq)
  clear hq
  go_wp2_with fail
  go_ret
  exact ⟨rfl, QZ.out⟩
theorem minus_walk (w : World) (AW : Awk) (v : Value) (l : List S) (hr : Rd w v l) (hn : Nn v) (hf : FitL l) (hl : l.length ≤ maxLen) (v1 : Value) (l1 : List S) (hr1 : Rd w v1 l1) (hn1 : Nn v1) (hf1 : FitL l1) (hl1 : l1.length ≤ maxLen) (v2 : Value) (l2 : List S) (hr2 : Rd w v2 l2) (hn2 : Nn v2) (hf2 : FitL l2) (hl2 : l2.length ≤ maxLen) :
    Calls Try.prog 8 #[v, v1, v2] w fun e w' => e = .returned (.bool true) ∧ Below w.heap.size w w' := by
  have R0 := Lib.hid hr
  have R1 := Lib.hid hr1
  have R2 := Lib.hid hr2
  obtain ⟨A, c, rfl, _⟩ := hr
  obtain ⟨A1, c1, rfl, _⟩ := hr1
  obtain ⟨A2, c2, rfl, _⟩ := hr2
  by_cases h0 : l.length ≤ 20
  · by_cases h1 : l1.length ≤ 20
    · by_cases h2 : l2.length ≤ 20
      · exact minus_full w AW A A1 A2 c c1 c2 _ _ _ l l1 l2 R0 R1 R2 (Lib.hid hn) (Lib.hid hn1) (Lib.hid hn2) (Lib.hid hf) (Lib.hid hf1) (Lib.hid hf2) (Lib.hid h0) (Lib.hid h1) (Lib.hid h2) (decide_eq_false (by omega)) (decide_eq_false (by omega)) (decide_eq_false (by omega))
      · exact minus_far_c w AW A A1 A2 c c1 c2 _ _ _ (decide_eq_false (by omega)) (decide_eq_false (by omega)) (decide_eq_true (by omega))
    · exact minus_far_b w AW A A1 A2 c c1 c2 _ _ _ (decide_eq_false (by omega)) (decide_eq_true (by omega))
  · exact minus_far_a w AW A A1 A2 c c1 c2 _ _ _ (decide_eq_true (by omega))
end Go.Proofs.Ytnbpkbdkhegheaa
