/- The examples of the chapter hold: the contract of awake. -/
import Derived.Test.YtlnfoknghfoffaaDoorPrint
set_option linter.unusedVariables false
set_option linter.unusedSimpArgs false
namespace Go.Proofs.YtlnfoknghfoffaaDoor
open Go.ChangeShapes Go.WideShapes Go.ChangeAt Go.RowKit Lm

def ex1 : ByteArray := ⟨#[97, 60, 61, 49, 50, 32, 35, 32, 120]⟩
def ex2 : ByteArray := ⟨#[97, 32, 37, 32, 98]⟩
def ex3 : ByteArray := ⟨#[49, 46, 46, 46]⟩
def exL : List LT := [⟨1, ⟨#[97]⟩, 0, 0⟩, ⟨3, ⟨#[60, 61]⟩, 0, 1⟩, ⟨2, ⟨#[49, 50]⟩, 12, 3⟩, ⟨0, ⟨#[]⟩, 0, 9⟩]
theorem ex_2 : (scan ex2).2 = (5, 2) := by decide +kernel
theorem ex_3 : (scan ex3).2 = (5, 3) := by decide +kernel
deriving instance DecidableEq for LT
theorem ex_1 : scan ex1 = (exL, 0, 0) := by decide +kernel
theorem ex_m1 : isM [46, 46] = true := by decide +kernel
theorem ex_m2 : isM [46] = false := by decide +kernel
def S1Post (l : List LT) (e p : Nat) (w : World) (E : Ending) (w' : World) : Prop := ∃ v, E = .returned (.tuple #[v, .int .i64 e, .int .i64 p]) ∧ Rd w' v l ∧ Q w w'
theorem sc_is (s : ByteArray) (l : List LT) (e p : Nat) (h : scan s = (l, e, p)) (hs : s.size ≤ 1000000) (w : World) (hL : Laid w) : Calls Tryd.prog 11 #[.string s] w (S1Post l e p w) :=
  (Scan_c s w hL hs).mono fun E w' ⟨v, a, b, c⟩ => ⟨v, by rw [a, h], by rw [h] at b; exact b.rd, c⟩
theorem exR (w : World) (T : TypeId) : Rd (w.alloc (.cells #[.int .i64 1, .string ⟨#[97]⟩, .int .i64 0, .int .i64 0, .int .i64 3, .string ⟨#[60, 61]⟩, .int .i64 0, .int .i64 1, .int .i64 2, .string ⟨#[49, 50]⟩, .int .i64 12, .int .i64 3, .int .i64 0, .string ⟨#[]⟩, .int .i64 0, .int .i64 9] T)) (.slice (some ⟨w.heap.size, 0, none⟩) 4 4) exL := by
  refine ⟨_, 4, rfl, Nat.le_refl _, fun _ => ⟨w.heap.size, 0, rfl, by simp, fun i x hx j u hu => ?_⟩⟩
  rw [World.cell?_alloc_at _ _ _ _ rfl]
  have := cellsL_at exL i x hx j u hu
  rw [Nat.zero_add]
  show (cellsL exL).toArray[i * 4 + j]? = _
  rw [List.getElem?_toArray]; exact this
theorem ex_p : prS exL = ⟨#[97, 32, 60, 61, 32, 49, 50]⟩ := by decide +kernel
theorem ex_j : (Lib.join ((txL exL).map (·.data.toList)) [32]).length ≤ 140737488355328 := by decide +kernel
set_option maxRecDepth 100000 in
set_option maxHeartbeats 3200000 in
theorem awake_c (w : World) (hL : Laid w) : Calls Tryd.prog 10 #[] w fun e w' => e = .returned (.bool true) ∧ Q w w' := by
  have HL := Lib.hid hL
  clear hL
  obtain ⟨l2, h2⟩ : ∃ l, scan ex2 = (l, 5, 2) := ⟨(scan ex2).1, by rw [← ex_2]⟩
  obtain ⟨l3, h3⟩ : ∃ l, scan ex3 = (l, 5, 3) := ⟨(scan ex3).1, by rw [← ex_3]⟩
  have C1 := Lib.hid (fun w h => sc_is ex1 exL 0 0 ex_1 (by decide) w h)
  have C2 := Lib.hid (fun w h => sc_is ex2 l2 5 2 h2 (by decide) w h)
  have C3 := Lib.hid (fun w h => sc_is ex3 l3 5 3 h3 (by decide) w h)
  clear h2 h3
  go_enter Tryd.func10, Tryd.ntmps10
  go_wp2_with fail
  refine (C1.out _ HL.out).mono ?_; rintro E w1 ⟨v1, rfl, hr1, hq1⟩
  have R1 := Lib.hid hr1
  have L1 := Lib.hid (HL.out.stays hq1)
  have Q1 := Lib.hid hq1
  obtain ⟨A1, c1, rfl, hc1, _⟩ := hr1
  clear hq1
  go_wp2_with fail
  refine (C2.out _ L1.out).mono ?_; rintro E w2 ⟨v2, rfl, hr2, hq2⟩
  have R2 := Lib.hid (R1.out.q hq2)
  have L2 := Lib.hid (L1.out.stays hq2)
  have Q2 := Lib.hid (Q1.out.trans hq2)
  clear hq2 hr2
  go_wp2_with fail
  refine (C3.out _ L2.out).mono ?_; rintro E w3 ⟨v3, rfl, hr3, hq3⟩
  have R3 := Lib.hid (R2.out.q hq3)
  have Q3 := Lib.hid (Q2.out.trans hq3)
  clear hq3 hr3
  go_wp2_with fail
  refine (equal_c _ _ exL _ (R3.out.q ((Q.refl w3).alloc _)) (exR _ _) (by decide)).mono ?_; rintro E w4 ⟨rfl, hq4⟩
  have q4 := ((Q.refl w3).alloc (.cells #[.int .i64 1, .string ⟨#[97]⟩, .int .i64 0, .int .i64 0, .int .i64 3, .string ⟨#[60, 61]⟩, .int .i64 0, .int .i64 1, .int .i64 2, .string ⟨#[49, 50]⟩, .int .i64 12, .int .i64 3, .int .i64 0, .string ⟨#[]⟩, .int .i64 0, .int .i64 9] 32)).trans hq4
  have R4 := Lib.hid (R3.out.q q4)
  have Q4 := Lib.hid (Q3.out.trans q4)
  clear hq4 q4
  go_wp2_with fail
  refine (Print_c _ exL _ R4.out (by decide) ex_j).mono ?_; rintro E w5 ⟨rfl, hq5⟩
  rw [ex_p]
  have R5 := Lib.hid (R4.out.q hq5)
  have Q5 := Lib.hid (Q4.out.trans hq5)
  clear hq5
  go_wp2_with fail
  refine (Same_eq _ _ exL exL _ R5.out R5.out (likeL.refl _) (by decide)).mono ?_; rintro E w6 ⟨rfl, hq6⟩
  have R6 := Lib.hid (R5.out.q hq6)
  have Q6 := Lib.hid (Q5.out.trans hq6)
  clear hq6
  go_wp2_with fail
  refine (Same_len _ _ exL [] _ R6.out (Rd.nil _) (by decide) (by decide) (by decide)).mono ?_; rintro E w7 ⟨rfl, hq7⟩
  have Q7 := Lib.hid (Q6.out.trans hq7)
  clear hq7
  go_wp2_with fail
  refine (IsMark_c ⟨#[46, 46]⟩ _).mono ?_; rintro E w8 ⟨rfl, rfl⟩
  rw [show isM (ByteArray.mk #[46, 46]).toList = true by rw [ByteArray.toList_eq]; exact ex_m1]
  go_wp2_with fail
  refine (IsMark_c ⟨#[46]⟩ _).mono ?_; rintro E w9 ⟨rfl, rfl⟩
  rw [show isM (ByteArray.mk #[46]).toList = false by rw [ByteArray.toList_eq]; exact ex_m2]
  go_wp2_with fail
  go_ret
  exact ⟨rfl, Q7.out⟩
end Go.Proofs.YtlnfoknghfoffaaDoor
