/- The contracts of Next, Open, Work and Add. -/
import Derived.Test.YthpopopodjgdaaaDoorCal
set_option linter.unusedVariables false
set_option linter.unusedSimpArgs false
namespace Go.Proofs.YthpopopodjgdaaaDoor
open Go.ChangeShapes Go.WideShapes Go.ChangeAt Go.RowKit Km

def nextS (l : List P) (t : Int) : Int × Nat := if isT t = true then asT (kth l (WU l t)) else (0, 15)
def openS (l : List P) (t : Int) : Bool := ((nextS l t).2 == 0) && ((nextS l t).1 == t)
def workS (l : List P) (a b : Int) : Int := if isT a = true ∧ isT b = true ∧ a ≤ b then WU l b - WU l a else 0
def addS (l : List P) (t m : Int) : Int × Nat := if isT t = true then (if isT m = true then (if m = 0 then (t, 0) else asT (kth l (WU l t + m - 1) + 1)) else (0, 9)) else (0, 15)
theorem WU_small {l : List P} (h : okL l) {t : Int} (ht : isT t = true) : 0 ≤ WU l t ∧ WU l t ≤ 10010080 := by
  have h1 := isT_yes ht
  have h2 := WU_bd h h1.1
  omega
set_option maxHeartbeats 800000 in
theorem Next_c (g : Nat) (l : List P) (t x : Int) (e : Nat) (w : World) (hc : Hid (Cal w g l)) (ho : Hid (okL l)) (h : Hid (nextS l t = (x, e))) : Calls Tryd.prog 18 #[.pointer (some ⟨g, 0, none⟩), .int .i64 t] w fun r w' => r = .returned (.tuple #[.int .i64 x, .int .i64 e]) ∧ Q w w' := by
  obtain ⟨b, hb⟩ : ∃ b, isT t = b := ⟨_, rfl⟩
  have HB := Lib.hid hb
  cases b with
  | false =>
    have h1 : 0 = x ∧ 15 = e := by have := h.out; unfold nextS at this; rw [hb, if_neg (by decide)] at this; injection this with a b; exact ⟨a, b⟩
    obtain ⟨rfl, rfl⟩ := h1
    clear hb
    go_enter Tryd.func18, Tryd.ntmps18
    go_wp2_with fail
    refine (isTime_c t false HB _).mono ?_; rintro E w1 ⟨rfl, rfl⟩
    go_wp2_with fail
    go_ret2
    exact ⟨rfl, Q.refl _⟩
  | true =>
    obtain ⟨k, hk⟩ : ∃ k, WU l t = k := ⟨_, rfl⟩
    obtain ⟨m, hm⟩ : ∃ m, kth l k = m := ⟨_, rfl⟩
    have HK := Lib.hid hk
    have HM := Lib.hid hm
    have hkb := WU_small ho.out hb
    have htb := isT_yes hb
    rw [hk] at hkb
    have HA := Lib.hid (show asT m = (x, e) by rw [← h.out]; unfold nextS; rw [hb, if_pos rfl, hk, hm])
    have HKB := Lib.hid hkb
    have HTB := Lib.hid htb
    clear hb hk hm hkb htb
    go_enter Tryd.func18, Tryd.ntmps18
    go_wp2_with fail
    refine (isTime_c t true HB _).mono ?_; rintro E w1 ⟨rfl, rfl⟩
    go_wp2_with fail
    refine (workUntil_c g l t k _ hc ho HTB.out.1 (by have := HTB.out; omega) HK).mono ?_; rintro E w1 ⟨rfl, hq1⟩
    have Q1 := Lib.hid hq1
    have HC1 := Lib.hid (hc.out.q hq1)
    clear hq1
    go_wp2_with fail
    refine (minuteAfter_c g l k m _ HC1 ho HKB.out.1 (by have := HKB.out; omega) HM).mono ?_; rintro E w2 ⟨rfl, hq2⟩
    have Q2 := Lib.hid (Q1.out.trans hq2)
    clear hq2
    go_wp2_with fail
    refine (asTime_c m x e HA _).mono ?_; rintro E w3 ⟨rfl, rfl⟩
    go_wp2_with fail
    go_ret2
    exact ⟨rfl, Q2.out⟩
set_option maxHeartbeats 800000 in
theorem Open_c (g : Nat) (l : List P) (t : Int) (b : Bool) (w : World) (hc : Hid (Cal w g l)) (ho : Hid (okL l)) (h : Hid (openS l t = b)) : Calls Tryd.prog 20 #[.pointer (some ⟨g, 0, none⟩), .int .i64 t] w fun r w' => r = .returned (.bool b) ∧ Q w w' := by
  obtain ⟨x, e, hn⟩ : ∃ x e, nextS l t = (x, e) := ⟨_, _, rfl⟩
  have HN := Lib.hid hn
  have HB := Lib.hid (show ((e == 0) && (x == t)) = b by rw [← h.out]; unfold openS; rw [hn])
  clear hn
  by_cases he : e = 0
  · have h1 : ((e : Int) == 0) = true := by subst he; rfl
    have HX := Lib.hid (show (x == t) = b by rw [← HB.out, he]; rfl)
    clear he
    go_enter Tryd.func20, Tryd.ntmps20
    go_wp2_with fail
    refine (Next_c g l t x e _ hc ho HN).mono ?_; rintro E w1 ⟨rfl, hq1⟩
    have Q1 := Lib.hid hq1
    clear hq1
    go_wp2_with fail
    go_ret
    exact ⟨ret_bool HX.out, Q1.out⟩
  · have h1 : ((e : Int) == 0) = false := by simp; omega
    have HX := Lib.hid (show false = b by rw [← HB.out]; simp [he])
    clear he
    go_enter Tryd.func20, Tryd.ntmps20
    go_wp2_with fail
    refine (Next_c g l t x e _ hc ho HN).mono ?_; rintro E w1 ⟨rfl, hq1⟩
    have Q1 := Lib.hid hq1
    clear hq1
    go_wp2_with fail
    go_ret
    exact ⟨ret_bool HX.out, Q1.out⟩
set_option maxHeartbeats 1600000 in
theorem Work_c (g : Nat) (l : List P) (s t x : Int) (w : World) (hc : Hid (Cal w g l)) (ho : Hid (okL l)) (h : Hid (workS l s t = x)) : Calls Tryd.prog 22 #[.pointer (some ⟨g, 0, none⟩), .int .i64 s, .int .i64 t] w fun r w' => r = .returned (.int .i64 x) ∧ Q w w' := by
  obtain ⟨b, hb⟩ : ∃ b, isT s = b := ⟨_, rfl⟩
  obtain ⟨d, hd⟩ : ∃ b, isT t = b := ⟨_, rfl⟩
  have HB := Lib.hid hb
  have HD := Lib.hid hd
  by_cases hgo : b = true ∧ d = true ∧ s ≤ t
  · obtain ⟨rfl, rfl, hst⟩ := hgo
    obtain ⟨k, hk⟩ : ∃ k, WU l t = k := ⟨_, rfl⟩
    obtain ⟨j, hj⟩ : ∃ k, WU l s = k := ⟨_, rfl⟩
    have HK := Lib.hid hk
    have HJ := Lib.hid hj
    have hkb := WU_small ho.out hd
    have hjb := WU_small ho.out hb
    rw [hk] at hkb
    rw [hj] at hjb
    have HS := Lib.hid (isT_yes hb)
    have HT := Lib.hid (isT_yes hd)
    have r1 : wrap64 (k - j) = k - j := IntWalk.wrap64_in _ (by omega)
    have HE := Lib.hid (show k - j = x by rw [← h.out]; unfold workS; rw [if_pos ⟨hb, hd, hst⟩, hk, hj])
    have n1 : ¬ t < s := by omega
    have n2 : decide (t < s) = false := decide_eq_false n1
    clear hb hd hk hj hkb hjb hst
    go_enter Tryd.func22, Tryd.ntmps22
    go_wp2_with fail
    refine (isTime_c s true HB _).mono ?_; rintro E w1 ⟨rfl, rfl⟩
    go_wp2_with fail
    refine (isTime_c t true HD _).mono ?_; rintro E w1 ⟨rfl, rfl⟩
    go_wp2_with fail
    refine (workUntil_c g l t k _ hc ho HT.out.1 (by have := HT.out; omega) HK).mono ?_; rintro E w1 ⟨rfl, hq1⟩
    have Q1 := Lib.hid hq1
    have HC1 := Lib.hid (hc.out.q hq1)
    clear hq1
    go_wp2_with fail
    refine (workUntil_c g l s j _ HC1 ho HS.out.1 (by have := HS.out; omega) HJ).mono ?_; rintro E w2 ⟨rfl, hq2⟩
    have Q2 := Lib.hid (Q1.out.trans hq2)
    clear hq2
    go_wp2_with fail
    go_ret
    exact ⟨ret_int (by first | exact HE.out | (rw [r1]; exact HE.out)), Q2.out⟩
  · have HE := Lib.hid (show 0 = x by rw [← h.out]; unfold workS; rw [hb, hd, if_neg hgo])
    have hgo2 : b = false ∨ (b = true ∧ d = false) ∨ (b = true ∧ d = true ∧ t < s) := by
      cases b <;> cases d <;> simp at hgo ⊢ <;> omega
    clear hb hd hgo
    rcases hgo2 with rfl | ⟨rfl, rfl⟩ | ⟨rfl, rfl, hst⟩
    · go_enter Tryd.func22, Tryd.ntmps22
      go_wp2_with fail
      refine (isTime_c s false HB _).mono ?_; rintro E w1 ⟨rfl, rfl⟩
      go_wp2_with fail
      go_ret
      exact ⟨ret_int HE.out, Q.refl _⟩
    · go_enter Tryd.func22, Tryd.ntmps22
      go_wp2_with fail
      refine (isTime_c s true HB _).mono ?_; rintro E w1 ⟨rfl, rfl⟩
      go_wp2_with fail
      refine (isTime_c t false HD _).mono ?_; rintro E w1 ⟨rfl, rfl⟩
      go_wp2_with fail
      go_ret
      exact ⟨ret_int HE.out, Q.refl _⟩
    · have n2 : decide (t < s) = true := decide_eq_true hst
      go_enter Tryd.func22, Tryd.ntmps22
      go_wp2_with fail
      refine (isTime_c s true HB _).mono ?_; rintro E w1 ⟨rfl, rfl⟩
      go_wp2_with fail
      refine (isTime_c t true HD _).mono ?_; rintro E w1 ⟨rfl, rfl⟩
      go_wp2_with fail
      go_ret
      exact ⟨ret_int HE.out, Q.refl _⟩
set_option maxHeartbeats 1600000 in
theorem Add_c (g : Nat) (l : List P) (t m x : Int) (e : Nat) (w : World) (hc : Hid (Cal w g l)) (ho : Hid (okL l)) (h : Hid (addS l t m = (x, e))) : Calls Tryd.prog 24 #[.pointer (some ⟨g, 0, none⟩), .int .i64 t, .int .i64 m] w fun r w' => r = .returned (.tuple #[.int .i64 x, .int .i64 e]) ∧ Q w w' := by
  obtain ⟨b, hb⟩ : ∃ b, isT t = b := ⟨_, rfl⟩
  obtain ⟨d, hd⟩ : ∃ b, isT m = b := ⟨_, rfl⟩
  have HB := Lib.hid hb
  have HD := Lib.hid hd
  cases b with
  | false =>
    have h1 : 0 = x ∧ 15 = e := by have := h.out; unfold addS at this; rw [hb, if_neg (by decide)] at this; injection this with a b; exact ⟨a, b⟩
    obtain ⟨rfl, rfl⟩ := h1
    clear hb hd
    go_enter Tryd.func24, Tryd.ntmps24
    go_wp2_with fail
    refine (isTime_c t false HB _).mono ?_; rintro E w1 ⟨rfl, rfl⟩
    go_wp2_with fail
    go_ret2
    exact ⟨rfl, Q.refl _⟩
  | true =>
    cases d with
    | false =>
      have h1 : 0 = x ∧ 9 = e := by have := h.out; unfold addS at this; rw [hb, hd, if_pos rfl, if_neg (by decide)] at this; injection this with a b; exact ⟨a, b⟩
      obtain ⟨rfl, rfl⟩ := h1
      clear hb hd
      go_enter Tryd.func24, Tryd.ntmps24
      go_wp2_with fail
      refine (isTime_c t true HB _).mono ?_; rintro E w1 ⟨rfl, rfl⟩
      go_wp2_with fail
      refine (isTime_c m false HD _).mono ?_; rintro E w1 ⟨rfl, rfl⟩
      go_wp2_with fail
      go_ret2
      exact ⟨rfl, Q.refl _⟩
    | true =>
      by_cases hm0 : m = 0
      · subst hm0
        have h1 : t = x ∧ 0 = e := by have := h.out; unfold addS at this; rw [hb, hd, if_pos rfl, if_pos rfl, if_pos rfl] at this; injection this with a b; exact ⟨a, b⟩
        obtain ⟨rfl, rfl⟩ := h1
        clear hb hd
        go_enter Tryd.func24, Tryd.ntmps24
        go_wp2_with fail
        refine (isTime_c t true HB _).mono ?_; rintro E w1 ⟨rfl, rfl⟩
        go_wp2_with fail
        refine (isTime_c 0 true HD _).mono ?_; rintro E w1 ⟨rfl, rfl⟩
        go_wp2_with fail
        go_ret2
        exact ⟨rfl, Q.refl _⟩
      · have z0 : (m == 0) = false := by simp; exact hm0
        obtain ⟨k, hk⟩ : ∃ k, WU l t = k := ⟨_, rfl⟩
        have hkb := WU_small ho.out hb
        have htb := isT_yes hb
        have hmb := isT_yes hd
        rw [hk] at hkb
        obtain ⟨k2, hk2⟩ : ∃ k2, k + m - 1 = k2 := ⟨_, rfl⟩
        obtain ⟨v, hv⟩ : ∃ v, kth l k2 = v := ⟨_, rfl⟩
        have hvb := kth_le ho.out (k := k2) (by omega) (by omega)
        have hv0 := (kth_spec ho.out (k := k2) (by omega)).1
        rw [hv] at hvb hv0
        have HK := Lib.hid hk
        have HV := Lib.hid hv
        have HT := Lib.hid htb
        have HKB := Lib.hid (show 0 ≤ k2 ∧ k2 ≤ 40000000 by omega)
        have r1 : wrap64 (k + m) = k + m := IntWalk.wrap64_in _ (by omega)
        have r2 : wrap64 (k + m - 1) = k2 := by rw [hk2]; exact IntWalk.wrap64_in _ (by omega)
        have r3 : wrap64 (v + 1) = v + 1 := IntWalk.wrap64_in _ (by omega)
        obtain ⟨v1, hv1⟩ : ∃ v1, v + 1 = v1 := ⟨_, rfl⟩
        rw [hv1] at r3
        have HA := Lib.hid (show asT v1 = (x, e) by rw [← h.out]; unfold addS; rw [hb, hd, if_pos rfl, if_pos rfl, if_neg hm0, hk, hk2, hv, hv1])
        have HV1 := Lib.hid hv1
        clear hb hd hm0 hk hkb htb hmb hk2 hv hvb hv0
        go_enter Tryd.func24, Tryd.ntmps24
        go_wp2_with fail
        refine (isTime_c t true HB _).mono ?_; rintro E w1 ⟨rfl, rfl⟩
        go_wp2_with fail
        refine (isTime_c m true HD _).mono ?_; rintro E w1 ⟨rfl, rfl⟩
        go_wp2_with fail
        refine (workUntil_c g l t k _ hc ho HT.out.1 (by have := HT.out; omega) HK).mono ?_; rintro E w1 ⟨rfl, hq1⟩
        have Q1 := Lib.hid hq1
        have HC1 := Lib.hid (hc.out.q hq1)
        clear hq1
        go_wp2_with fail
        refine (minuteAfter_c g l k2 v _ HC1 ho HKB.out.1 HKB.out.2 HV).mono ?_; rintro E w2 ⟨rfl, hq2⟩
        have Q2 := Lib.hid (Q1.out.trans hq2)
        clear hq2
        go_wp2_with fail
        refine (asTime_c v1 x e HA _).mono ?_; rintro E w3 ⟨rfl, rfl⟩
        go_wp2_with fail
        go_ret2
        exact ⟨rfl, Q2.out⟩
end Go.Proofs.YthpopopodjgdaaaDoor
