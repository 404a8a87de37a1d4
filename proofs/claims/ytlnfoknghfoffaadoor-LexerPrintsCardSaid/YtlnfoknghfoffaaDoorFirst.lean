/- The contracts of name and first, and of the reference's number. -/
import Derived.Test.YtlnfoknghfoffaaDoorNum
set_option linter.unusedVariables false
set_option linter.unusedSimpArgs false
namespace Go.Proofs.YtlnfoknghfoffaaDoor
open Go.ChangeShapes Go.WideShapes Go.ChangeAt Go.RowKit Lm

/-- kind, text, number, error -/
abbrev Lx := Nat × ByteArray × Nat × Nat
def nuT (t : ByteArray) : Lx := if numE t = 0 then (2, t, numV t, 0) else (0, ⟨#[]⟩, 0, numE t)
def mkT (s : ByteArray) : Lx := if mkS s = 0 then (0, ⟨#[]⟩, 0, 5) else (3, s.extract 0 (mkS s), 0, 0)
def naT (t : ByteArray) : Lx := if 16 < t.size then (0, ⟨#[]⟩, 0, 6) else (1, t, 0, 0)
/-- what first answers -/
def frT (s : ByteArray) : Lx := if dg (bt s 0) = true then nuT (s.extract 0 (ldS dg s 0)) else if lt (bt s 0) = true then naT (s.extract 0 (ldS nm s 0)) else mkT s
def lxT (x : Lx) : Value := .tuple #[.agg #[.int .i64 x.1, .string x.2.1, .int .i64 x.2.2.1, .int .i64 0], .int .i64 x.2.2.2]
theorem number_t (t : ByteArray) (w : World) (hL : Laid w) (hs : t.size ≤ 1000000) (h0 : 0 < t.size) (hd : digs t.data.toList) : Calls Tryd.prog 32 #[.string t] w fun E w' => E = .returned (lxT (nuT t)) ∧ Q w w' :=
  (number_c t w hL hs h0 hd).mono fun E w' ⟨a, b⟩ => ⟨by rw [a]; unfold nuR lxT nuT lxv; split <;> rfl, b⟩
theorem mark_t (s : ByteArray) (w : World) (hs : s.size ≤ maxLen) (h0 : 0 < s.size) : Calls Tryd.prog 37 #[.string s] w fun E w' => E = .returned (lxT (mkT s)) ∧ Q w w' :=
  (mark_c s w hs h0).mono fun E w' ⟨a, b⟩ => ⟨by rw [a]; unfold mkR lxT mkT lxv; split <;> rfl, b⟩
set_option maxRecDepth 100000 in
set_option maxHeartbeats 1600000 in
theorem name_t (t : ByteArray) (w : World) (hs : t.size ≤ 1000000) : Calls Tryd.prog 35 #[.string t] w fun E w' => E = .returned (lxT (naT t)) ∧ Q w w' := by
  by_cases h : 16 < t.size
  · have i1 : 16 < (t.size : Int) := by omega
    have HE := Lib.hid (show lxT (0, ⟨#[]⟩, 0, 6) = lxT (naT t) by unfold naT; rw [if_pos h])
    go_enter Tryd.func35, Tryd.ntmps35
    go_wp2_with fail
    refine bodyPost_ret (v := .tuple #[.agg #[.int .i64 0, .string ⟨#[]⟩, .int .i64 0, .int .i64 0], .int .i64 6]) (by simp [results, Tryd.results35, go_sem]) rfl ⟨by rw [← HE.out]; rfl, ?_⟩
    repeat (first | exact Q.refl _ | refine Q.alloc ?_ _ | refine Q.setA ?_ (by simp; try omega) _)
  · have i1 : ¬ 16 < (t.size : Int) := by omega
    have HE := Lib.hid (show lxT (1, t, 0, 0) = lxT (naT t) by unfold naT; rw [if_neg h])
    go_enter Tryd.func35, Tryd.ntmps35
    go_wp2_with fail
    refine bodyPost_ret (v := .tuple #[.agg #[.int .i64 1, .string t, .int .i64 0, .int .i64 0], .int .i64 0]) (by simp [results, Tryd.results35, go_sem]) rfl ⟨by rw [← HE.out]; rfl, ?_⟩
    repeat (first | exact Q.refl _ | refine Q.alloc ?_ _ | refine Q.setA ?_ (by simp; try omega) _)
theorem lead_size {f : Int → Bool} {s : ByteArray} (h0 : 0 < s.size) (hb : f (bt s 0) = true) : 0 < (s.extract 0 (ldS f s 0)).size ∧ (s.extract 0 (ldS f s 0)).size = ldS f s 0 ∧ ldS f s 0 ≤ s.size := by
  have h1 := ldS_bd (f := f) (s := s) _ 0 rfl (Nat.zero_le _)
  have h2 := ldS_bd (f := f) (s := s) _ 1 rfl h0
  have e : ldS f s 0 = ldS f s 1 := ldS_go h0 hb
  have e2 : (s.extract 0 (ldS f s 0)).size = min (ldS f s 0) s.size - 0 := ByteArray.size_extract
  omega
theorem lead_digs {s : ByteArray} (h0 : 0 < s.size) (hb : dg (bt s 0) = true) : digs (s.extract 0 (ldS dg s 0)).data.toList := by
  obtain ⟨h1, h2, h3⟩ := lead_size h0 hb
  refine digs_of _ fun j hj => ?_
  rw [h2] at hj
  rw [bt_extract s 0 _ j h3 (by omega), Nat.zero_add]
  have := ldS_fit (f := dg) (s := s) _ 0 rfl j (by omega) hj
  unfold dg at this
  have := of_decide_eq_true this
  omega
set_option maxRecDepth 100000 in
set_option maxHeartbeats 1600000 in
theorem first_c (s : ByteArray) (w : World) (hL : Laid w) (hs : s.size ≤ 1000000) (h0 : 0 < s.size) : Calls Tryd.prog 23 #[.string s] w fun E w' => E = .returned (lxT (frT s)) ∧ Q w w' := by
  have hb := bt_eq s 0 h0
  have HB := Lib.hid (new_blk w #[.int .i64 0, .string ⟨#[]⟩, .int .i64 0, .int .i64 0] 32)
  have HQ := Lib.hid ((Q.refl w).alloc (.cells #[.int .i64 0, .string ⟨#[]⟩, .int .i64 0, .int .i64 0] 32))
  have LA := Lib.hid (hL.stays HQ.out)
  obtain ⟨z, hz⟩ : ∃ z : Int, (bt s 0 : Int) = z := ⟨_, rfl⟩
  have hw : wrap32 z = z := wrap32_in (by omega) (by have := bt_bd s 0; omega)
  have H1 := Lib.hid (fun w => isDigit_c z w)
  have H2 := Lib.hid (fun w => isLetter_c z w)
  obtain ⟨k, t, n, e, hf⟩ : ∃ k t n e, frT s = (k, t, n, e) := ⟨_, _, _, _, rfl⟩
  have HF := Lib.hid hf
  rw [hf]
  unfold frT at hf
  cases a : dg z with
  | true =>
    have a' : dg (bt s 0) = true := by rw [hz]; exact a
    obtain ⟨l1, l2, l3⟩ := lead_size h0 a'
    have HC := Lib.hid (fun w h => number_t (s.extract 0 (ldS dg s 0)) w h (by omega) l1 (lead_digs h0 a'))
    have HL := Lib.hid (fun w => leading_d s w (by unfold maxLen; omega))
    rw [if_pos a'] at hf
    rw [hf] at HC
    unfold lxT at HC
    rw [a] at H1
    obtain ⟨T, hT⟩ : ∃ T, s.extract 0 (ldS dg s 0) = T := ⟨_, rfl⟩
    rw [hT] at HC HL
    rw [hz] at hb
    clear hf hz l1 l2 l3 a' a hT hL
    go_enter Tryd.func23, Tryd.ntmps23
    go_wp2_with fail
    refine (H1.out _).mono ?_; rintro E w1 ⟨rfl, rfl⟩
    go_wp2_with fail
    refine (HL.out _).mono ?_; rintro E w1 ⟨rfl, hq1⟩
    have Q1 := Lib.hid (HQ.out.trans hq1)
    have HB1 := Lib.hid ((hq1.block _ (lt_blk HB.out)).trans HB.out)
    have L1 := Lib.hid (LA.out.stays hq1)
    clear hq1
    go_wp2_with fail
    refine (HC.out _ L1.out).mono ?_; rintro E w2 ⟨rfl, hq2⟩
    have hb2 := (hq2.block _ (lt_blk HB1.out)).trans HB1.out
    have Q2 := Lib.hid (Q1.out.trans hq2)
    obtain ⟨x0, x1, x2, x3, xf⟩ := blk4 hb2
    clear hb2 hq2
    go_wp2_with fail
    refine bodyPost_ret (v := .tuple #[.agg #[.int .i64 k, .string t, .int .i64 n, .int .i64 0], .int .i64 e]) (by simp [results, Tryd.results23, go_sem, x0, x1, x2, x3]) rfl ⟨rfl, ?_⟩
    repeat (first | with_reducible exact Q2.out | refine Q.setA ?_ (by omega) _)
  | false =>
    have a' : ¬ dg (bt s 0) = true := by rw [hz, a]; decide
    rw [if_neg a'] at hf
    rw [a] at H1
    cases c : lt z with
    | true =>
      have c' : lt (bt s 0) = true := by rw [hz]; exact c
      have c2 : nm (bt s 0) = true := by unfold nm; rw [c']; rfl
      obtain ⟨l1, l2, l3⟩ := lead_size h0 c2
      have HC := Lib.hid (fun w => name_t (s.extract 0 (ldS nm s 0)) w (by omega))
      have HL := Lib.hid (fun w => leading_n s w (by unfold maxLen; omega))
      rw [if_pos c'] at hf
      rw [hf] at HC
      unfold lxT at HC
      rw [c] at H2
      obtain ⟨T, hT⟩ : ∃ T, s.extract 0 (ldS nm s 0) = T := ⟨_, rfl⟩
      rw [hT] at HC HL
      rw [hz] at hb
      clear hf hz l1 l2 l3 a' a hT hL c c' c2
      go_enter Tryd.func23, Tryd.ntmps23
      go_wp2_with fail
      refine (H1.out _).mono ?_; rintro E w1 ⟨rfl, rfl⟩
      go_wp2_with fail
      refine (H2.out _).mono ?_; rintro E w1 ⟨rfl, rfl⟩
      go_wp2_with fail
      refine (HL.out _).mono ?_; rintro E w1 ⟨rfl, hq1⟩
      have Q1 := Lib.hid (HQ.out.trans hq1)
      have HB1 := Lib.hid ((hq1.block _ (lt_blk HB.out)).trans HB.out)
      clear hq1
      go_wp2_with fail
      refine (HC.out _).mono ?_; rintro E w2 ⟨rfl, hq2⟩
      have hb2 := (hq2.block _ (lt_blk HB1.out)).trans HB1.out
      have Q2 := Lib.hid (Q1.out.trans hq2)
      obtain ⟨x0, x1, x2, x3, xf⟩ := blk4 hb2
      clear hb2 hq2
      go_wp2_with fail
      refine bodyPost_ret (v := .tuple #[.agg #[.int .i64 k, .string t, .int .i64 n, .int .i64 0], .int .i64 e]) (by simp [results, Tryd.results23, go_sem, x0, x1, x2, x3]) rfl ⟨rfl, ?_⟩
      repeat (first | with_reducible exact Q2.out | refine Q.setA ?_ (by omega) _)
    | false =>
      have c' : ¬ lt (bt s 0) = true := by rw [hz, c]; decide
      rw [if_neg c'] at hf
      rw [c] at H2
      have HC := Lib.hid (fun w => mark_t s w (by unfold maxLen; omega) h0)
      rw [hf] at HC
      unfold lxT at HC
      rw [hz] at hb
      clear hf hz a' a hL c c'
      go_enter Tryd.func23, Tryd.ntmps23
      go_wp2_with fail
      refine (H1.out _).mono ?_; rintro E w1 ⟨rfl, rfl⟩
      go_wp2_with fail
      refine (H2.out _).mono ?_; rintro E w1 ⟨rfl, rfl⟩
      go_wp2_with fail
      refine (HC.out _).mono ?_; rintro E w2 ⟨rfl, hq2⟩
      have hb2 := (hq2.block _ (lt_blk HB.out)).trans HB.out
      have Q2 := Lib.hid (HQ.out.trans hq2)
      obtain ⟨x0, x1, x2, x3, xf⟩ := blk4 hb2
      clear hb2 hq2
      go_wp2_with fail
      refine bodyPost_ret (v := .tuple #[.agg #[.int .i64 k, .string t, .int .i64 n, .int .i64 0], .int .i64 e]) (by simp [results, Tryd.results23, go_sem, x0, x1, x2, x3]) rfl ⟨rfl, ?_⟩
      repeat (first | with_reducible exact Q2.out | refine Q.setA ?_ (by omega) _)
end Go.Proofs.YtlnfoknghfoffaaDoor
