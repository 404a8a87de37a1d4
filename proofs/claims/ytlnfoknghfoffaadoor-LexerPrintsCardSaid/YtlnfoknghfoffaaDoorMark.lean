/- The contracts of IsMark and mark, and of the reference's. -/
import Derived.Test.YtlnfoknghfoffaaDoorLead
set_option linter.unusedVariables false
set_option linter.unusedSimpArgs false
namespace Go.Proofs.YtlnfoknghfoffaaDoor
open Go.ChangeShapes Go.WideShapes Go.ChangeAt Go.RowKit Lm

def marksL : List (List UInt8) := [[60, 61], [62, 61], [33, 61], [46, 46], [60], [61], [62], [40], [41], [123], [125], [44], [59], [58], [43], [45], [42], [47], [64]]
def isM (l : List UInt8) : Bool := marksL.any fun m => l == m
set_option maxRecDepth 100000 in
set_option maxHeartbeats 1600000 in
theorem IsMark_c (s : ByteArray) (w : World) : Calls Tryd.prog 19 #[.string s] w fun E w' => E = .returned (.bool (isM s.toList)) ∧ w = w' := by
  go_enter Tryd.func19, Tryd.ntmps19
  go_wp2_with fail
  all_goals first | (exfalso; simp_all; done) | (go_ret; exact ⟨ret_bool (by simp_all [isM, marksL]), rfl⟩)
theorem min_run (ts : Array TypeId) (t : TypeId) (a b m : Int) (w : World) (h : min a b = m) : (Builtin.min_ ts t #[.int .i64 a, .int .i64 b]).run Tryd.prog w = .ok (.int .i64 m) w := by
  subst h
  show ((Builtin.min2 (.int .i64 a) (.int .i64 b)) >>= fun x => pure x).run Tryd.prog w = _
  by_cases h : b < a
  · rw [Int.min_eq_right (by omega)]
    simp [Builtin.min2, h]
  · rw [Int.min_eq_left (by omega)]
    simp [Builtin.min2, h]
/-- a lexeme -/
def lxv (k : Nat) (t : ByteArray) (n : Int) (a : Nat) : Value := .agg #[.int .i64 k, .string t, .int .i64 n, .int .i64 a]
/-- what mark answers -/
def mkR (s : ByteArray) (m : Nat) : Value := if m = 0 then .tuple #[lxv 0 ⟨#[]⟩ 0 0, .int .i64 5] else .tuple #[lxv 3 (s.extract 0 m) 0 0, .int .i64 0]
/-- the bytes of the mark with which a text begins, 0 if there is none -/
def mkS (s : ByteArray) : Nat := if 2 ≤ s.size ∧ isM (s.extract 0 2).toList = true then 2 else if isM (s.extract 0 1).toList = true then 1 else 0
set_option maxRecDepth 100000 in
set_option maxHeartbeats 1600000 in
theorem mark_c (s : ByteArray) (w : World) (hs : s.size ≤ maxLen) (h0 : 0 < s.size) : Calls Tryd.prog 37 #[.string s] w fun E w' => E = .returned (mkR s (mkS s)) ∧ Q w w' := by
  unfold maxLen at hs
  have H2 := Lib.hid (fun w => IsMark_c (s.extract 0 2) w)
  have H1 := Lib.hid (fun w => IsMark_c (s.extract 0 1) w)
  obtain ⟨b2, hb2⟩ : ∃ b, isM (s.extract 0 2).toList = b := ⟨_, rfl⟩
  obtain ⟨b1, hb1⟩ : ∃ b, isM (s.extract 0 1).toList = b := ⟨_, rfl⟩
  rw [hb2] at H2
  rw [hb1] at H1
  obtain ⟨mk, hmk⟩ : ∃ mk, mkS s = mk := ⟨_, rfl⟩
  rw [hmk]
  unfold mkS at hmk
  rw [hb1, hb2] at hmk
  have HMK := Lib.hid hmk
  clear hb1 hb2 hmk
  obtain ⟨m, hm⟩ : ∃ m : Nat, min 2 s.size = m := ⟨_, rfl⟩
  have rmn := fun w => min_run #[3, 3] 3 2 (s.size : Int) (m : Int) w (by omega)
  have HM := Lib.hid (show m ≤ s.size ∧ m ≤ 2 ∧ 1 ≤ m ∧ (2 ≤ s.size → m = 2) by omega)
  clear hm
  go_enter Tryd.func37, Tryd.ntmps37
  go_wp2_with fail
  go_loopw [4] (fun v4 wr => ∃ k : Nat, k ≤ m ∧ v4 = .int .i64 k ∧ Hid ((k < 2 → 2 ≤ s.size → b2 = false) ∧ (k < 1 → b1 = false)) ∧ wr = w.alloc (.cells #[.int .i64 0, .string ⟨#[]⟩, .int .i64 0, .int .i64 0] 32)) (fun v4 _ => (intOf v4).toNat)
  case atStart => exact ⟨m, Nat.le_refl _, rfl, ⟨fun h h2 => by have := HM.out; omega, fun h => by have := HM.out; omega⟩, rfl⟩
  case round =>
    obtain ⟨k, hk, rfl, HI, rfl⟩ := hrel
    rcases (show k = 0 ∨ k = 1 ∨ k = 2 by have := HM.out; omega) with rfl | rfl | rfl
    · have HE := Lib.hid (show mk = 0 by
        rw [← HMK.out]
        have h1 := HI.out.1 (by omega)
        have h2 := HI.out.2 (by omega)
        rw [if_neg (fun h => by rw [h1 h.1] at h; exact absurd h.2 (by decide)), if_neg (by rw [h2]; decide)])
      go_wp2_with fail
      refine bodyPost_ret (v := .tuple #[.agg #[.int .i64 0, .string ⟨#[]⟩, .int .i64 0, .int .i64 0], .int .i64 5]) (by simp [results, Tryd.results37, go_sem]) rfl ⟨by rw [HE.out]; rfl, ?_⟩
      repeat (first | exact Q.refl _ | refine Q.alloc ?_ _ | refine Q.setA ?_ (by simp; try omega) _)
    · have i1 : (1 : Int) ≤ (s.size : Int) := by omega
      cases b1 with
      | true =>
        have HE := Lib.hid (show mk = 1 by
          rw [← HMK.out]
          have h1 := HI.out.1 (by omega)
          rw [if_neg (fun h => by rw [h1 h.1] at h; exact absurd h.2 (by decide)), if_pos rfl])
        go_wp2_with fail
        refine (H1.out _).mono ?_; rintro E w1 ⟨rfl, rfl⟩
        go_wp2_with fail
        refine bodyPost_ret (v := .tuple #[.agg #[.int .i64 3, .string (s.extract 0 1), .int .i64 0, .int .i64 0], .int .i64 0]) (by simp [results, Tryd.results37, go_sem]) rfl ⟨by rw [HE.out]; rfl, ?_⟩
        repeat (first | exact Q.refl _ | refine Q.alloc ?_ _ | refine Q.setA ?_ (by simp; try omega) _)
      | false =>
        go_wp2_with fail
        refine (H1.out _).mono ?_; rintro E w1 ⟨rfl, rfl⟩
        go_wp2_with fail
        go_roundw
        case rel => exact ⟨0, by omega, by go_num, ⟨fun _ => HI.out.1 (by omega), fun _ => by first | rfl | trivial⟩, by first | rfl | trivial⟩
        case measure => simp [intOf] <;> omega
    · have i1 : (2 : Int) ≤ (s.size : Int) := by have := HM.out; omega
      cases b2 with
      | true =>
        have HE := Lib.hid (show mk = 2 by
          rw [← HMK.out]
          rw [if_pos ⟨by omega, rfl⟩])
        go_wp2_with fail
        refine (H2.out _).mono ?_; rintro E w1 ⟨rfl, rfl⟩
        go_wp2_with fail
        refine bodyPost_ret (v := .tuple #[.agg #[.int .i64 3, .string (s.extract 0 2), .int .i64 0, .int .i64 0], .int .i64 0]) (by simp [results, Tryd.results37, go_sem]) rfl ⟨by rw [HE.out]; rfl, ?_⟩
        repeat (first | exact Q.refl _ | refine Q.alloc ?_ _ | refine Q.setA ?_ (by simp; try omega) _)
      | false =>
        go_wp2_with fail
        refine (H2.out _).mono ?_; rintro E w1 ⟨rfl, rfl⟩
        go_wp2_with fail
        go_roundw
        case rel => exact ⟨1, by omega, by go_num, ⟨fun _ _ => by first | rfl | trivial, fun h => by omega⟩, by first | rfl | trivial⟩
        case measure => simp [intOf] <;> omega
/-- the marks as a row of strings -/
def RdS (w : World) (g : Nat) (l : List (List UInt8)) : Prop := g < w.heap.size ∧ ∀ i m, l[i]? = some m → w.cell? ⟨g, i, none⟩ = some (.string ⟨m.toArray⟩)
set_option maxRecDepth 100000 in
set_option maxHeartbeats 1600000 in
theorem Marks_c (w : World) : Calls Tryd.prog 30 #[] w fun E w' => ∃ g, E = .returned (.slice (some ⟨g, 0, none⟩) 19 19) ∧ RdS w' g marksL ∧ Q w w' := by
  go_enter Tryd.func30, Tryd.ntmps30
  go_wp2_with fail
  go_ret
  refine ⟨w.heap.size, rfl, ⟨by simp, fun i m h => ?_⟩, (Q.refl w).alloc _⟩
  rw [World.cell?_alloc_at _ _ _ _ rfl]
  show (marksL.map fun m => Value.string ⟨m.toArray⟩).toArray[i]? = _
  simp [h]
theorem RdS.q {w w' : World} {g : Nat} {l : List (List UInt8)} (h : RdS w g l) (hq : Q w w') : RdS w' g l :=
  ⟨Nat.lt_of_lt_of_le h.1 hq.size, fun i m hm => (hq.cell (p := ⟨g, i, none⟩) h.1).trans (h.2 i m hm)⟩
theorem lst_mk (m : List UInt8) : (ByteArray.mk m.toArray).toList = m := by rw [ByteArray.toList_eq]
theorem lst_eq {a b : ByteArray} (h : a.toList = b.toList) : a = b := by
  rw [ByteArray.toList_eq, ByteArray.toList_eq] at h
  exact bytes_inj h
theorem any_snoc (l : List (List UInt8)) (p : List UInt8 → Bool) (k : Nat) (h : k < l.length) : (l.take (k + 1)).any p = ((l.take k).any p || p l[k]) := by
  rw [List.take_succ_eq_append_getElem h, List.any_append]; simp
set_option maxRecDepth 100000 in
set_option maxHeartbeats 1600000 in
theorem rIsMark_c (s : ByteArray) (w : World) : Calls Tryd.prog 20 #[.string s] w fun E w' => E = .returned (.bool (isM s.toList)) ∧ Q w w' := by
  go_enter Tryd.func20, Tryd.ntmps20
  go_wp2_with fail
  refine (Marks_c _).mono ?_; rintro E w1 ⟨g, rfl, hr, hq⟩
  have HR := Lib.hid hr
  have HQ := Lib.hid hq
  clear hr hq
  go_wp2_with fail
  go_loopw [4] (fun v4 wr => ∃ k : Nat, k ≤ 19 ∧ v4 = .int .i64 k ∧ Hid ((marksL.take k).any (fun m => s.toList == m) = false) ∧ wr = w1) (fun v4 _ => 19 - (intOf v4).toNat)
  case atStart => exact ⟨0, by omega, rfl, rfl, rfl⟩
  case round =>
    obtain ⟨k, hk, rfl, HI, rfl⟩ := hrel
    by_cases hlt : k < 19
    · have hkl : k < marksL.length := hlt
      obtain ⟨m, hm⟩ : ∃ m, marksL[k] = m := ⟨_, rfl⟩
      have hc := HR.out.2 k _ (List.getElem?_eq_getElem hkl)
      rw [hm] at hc
      obtain ⟨M, hM⟩ : ∃ M, ByteArray.mk m.toArray = M := ⟨_, rfl⟩
      rw [hM] at hc
      have HS := Lib.hid (any_snoc marksL (fun m => s.toList == m) k hkl)
      have HL := Lib.hid (show M.toList = m by rw [← hM]; exact lst_mk m)
      have HK := Lib.hid hm
      have i1 : (0 : Int) ≤ (k : Int) := by omega
      have i2 : (k : Int) < 19 := by omega
      by_cases he : s.toList = M.toList
      · have t1 : (M.toList == s.toList) = true := by rw [beq_iff_eq]; exact he.symm
        have HE := Lib.hid (show true = isM s.toList by
          unfold isM
          rw [eq_comm, List.any_eq_true]
          exact ⟨m, by rw [← HK.out]; exact List.getElem_mem hkl, by rw [beq_iff_eq, he, HL.out]⟩)
        clear he hM hm
        go_wp2_with fail
        go_ret
        exact ⟨ret_bool HE.out, HQ.out⟩
      · have t1 : (M.toList == s.toList) = false := by rw [beq_eq_false_iff_ne]; exact fun h => he h.symm
        have HN := Lib.hid (show (marksL.take (k + 1)).any (fun m => s.toList == m) = false by
          rw [HS.out, HI.out, HK.out, ← HL.out]
          simp [he])
        clear he hM hm
        go_wp2_with fail
        go_roundw
        case rel => exact ⟨k + 1, by omega, by go_num, HN, by first | rfl | trivial⟩
        case measure => simp [intOf] <;> omega
    · obtain rfl : k = 19 := by omega
      have HE := Lib.hid (show false = isM s.toList from HI.out.symm)
      go_wp2_with fail
      go_ret
      exact ⟨ret_bool HE.out, HQ.out⟩
end Go.Proofs.YtlnfoknghfoffaaDoor
