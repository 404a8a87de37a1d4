/- The contracts of ident.Code and of the reference Code. -/
import Derived.Test.YtdebkicmoocnmaaSplit
set_option linter.unusedVariables false
set_option linter.unusedSimpArgs false
namespace Go.Proofs.Ytdebkicmoocnmaa
open Go.ChangeShapes Go.WideShapes Go.ChangeAt Go.RowKit Idm

theorem ret2s {k : IntKind} {a a' : ByteArray} {b b' : Int} (h : a = a') (g : b = b') :
    Ending.returned (.tuple #[.string a, .int k b]) = .returned (.tuple #[.string a', .int k b']) := by rw [h, g]
theorem conv_row (w : World) (xs : List Int) (C : Array Value) (n c : Nat) (hn : n ≤ xs.length) (hC : C = (xs.map (Value.int .u8)).toArray) :
    (convert 35 9 (.slice (some ⟨w.heap.size, 0, none⟩) n c)).run Try.prog (w.alloc (.cells C 5)) = .ok (.string (strOfNums (xs.take n))) (w.alloc (.cells C 5)) := by
  refine run_convert_bytes_arg _ 35 5 Try.underlying35 Try.underlying5 _ 0 n c (xs.take n) (by simp; omega) (fun i hi => ?_) 9 Try.underlying9
  subst hC
  have h1 : i < xs.length := by omega
  simp [go_sem, List.getElem?_take, hi, h1]
theorem conv7 (w : World) (a b c d e f g h : Int) :
    (convert 35 9 (.slice (some ⟨w.heap.size, 0, none⟩) 7 8)).run Try.prog (w.alloc (.cells #[.int .u8 a, .int .u8 b, .int .u8 c, .int .u8 d, .int .u8 e, .int .u8 f, .int .u8 g, .int .u8 h] 5)) =
      .ok (.string (strOfNums [a, b, c, d, e, f, g])) (w.alloc (.cells #[.int .u8 a, .int .u8 b, .int .u8 c, .int .u8 d, .int .u8 e, .int .u8 f, .int .u8 g, .int .u8 h] 5)) :=
  conv_row w [a, b, c, d, e, f, g, h] _ 7 8 (by simp) rfl
theorem conv8 (w : World) (a b c d e f g h : Int) :
    (convert 35 9 (.slice (some ⟨w.heap.size, 0, none⟩) 8 8)).run Try.prog (w.alloc (.cells #[.int .u8 a, .int .u8 b, .int .u8 c, .int .u8 d, .int .u8 e, .int .u8 f, .int .u8 g, .int .u8 h] 5)) =
      .ok (.string (strOfNums [a, b, c, d, e, f, g, h])) (w.alloc (.cells #[.int .u8 a, .int .u8 b, .int .u8 c, .int .u8 d, .int .u8 e, .int .u8 f, .int .u8 g, .int .u8 h] 5)) :=
  conv_row w [a, b, c, d, e, f, g, h] _ 8 8 (by simp) rfl
theorem LetterC_c (kind n : Int) (w : World) (hk : Hid (cpB kind = true)) (h0 : 0 ≤ n) (h1 : n ≤ 999999) :
    Calls Try.prog 14 #[.string (strOfNums (cw kind n))] w fun e w' => e = .returned (.int .u8 (cl kind n)) ∧ w = w' :=
  (Letter_c _ w (by rw [strOfNums_size]; simp [cw])).mono fun _ _ ⟨a, b⟩ => ⟨by rw [a, strOfNums_size, show (cw kind n).length = 7 from rfl, cl_str hk.out h0 h1], b⟩
theorem rLetterC_c (kind n : Int) (w : World) (hk : Hid (cpB kind = true)) (h0 : 0 ≤ n) (h1 : n ≤ 999999) :
    Calls Try.prog 15 #[.string (strOfNums (cw kind n))] w fun e w' => e = .returned (.int .u8 (cl kind n)) ∧ w = w' :=
  (rLetter_c _ w (by rw [strOfNums_size]; simp [cw])).mono fun _ _ ⟨a, b⟩ => ⟨by rw [a, strOfNums_size, show (cw kind n).length = 7 from rfl, cl_str hk.out h0 h1], b⟩

set_option maxRecDepth 100000 in
set_option maxHeartbeats 1600000 in
theorem Code_yes (kind n : Int) (w : World) (hk : Hid (cpB kind = true)) (h0 : 0 ≤ n) (h1 : n ≤ 999999) :
    Calls Try.prog 16 #[.int .u8 kind, .int .i64 n] w fun e w' => e = .returned (.tuple #[.string (codeS kind n), .int .i64 0]) ∧ Q w w' := by
  have hmk : ∀ w, (Instr.makeSlice 35 (.int .i64 8) (.int .i64 8)).run Try.prog w = .ok (.slice (some ⟨w.heap.size, 0, none⟩) 8 8) (w.alloc (.cells #[.int .u8 0, .int .u8 0, .int .u8 0, .int .u8 0, .int .u8 0, .int .u8 0, .int .u8 0, .int .u8 0] 5)) := fun _ => by kernel_rfl
  have hc7 := conv7
  have hc8 := conv8
  have HD := Lib.hid (div10 n)
  go_enter Try.func16, Try.ntmps16
  go_wp2_with fail
  refine (isCapital_c _ w).mono ?_
  rintro e w' ⟨rfl, rfl⟩
  rw [hk.out]
  go_wp2_with fail
  refine wp_loop_rounds 7 ?_
  rw [rounds_succ]
  go_wp2_with fail
  rw [rounds_succ]
  go_wp2_with fail
  rw [rounds_succ]
  go_wp2_with fail
  rw [rounds_succ]
  go_wp2_with fail
  rw [rounds_succ]
  go_wp2_with fail
  rw [rounds_succ]
  go_wp2_with fail
  rw [rounds_succ]
  go_wp2_with fail
  rw [HD.out.2.2.2, HD.out.2.2.1, HD.out.2.1, HD.out.1]
  refine (LetterC_c kind n _ hk h0 h1).mono ?_
  rintro e w' ⟨rfl, rfl⟩
  go_wp2_with fail
  go_ret2
  exact ⟨ret2s rfl rfl, by repeat (first | exact Q.refl _ | refine Q.drewN ?_ _ | refine Q.drew ?_ | refine Q.alloc ?_ _)⟩
set_option maxHeartbeats 400000 in
theorem Code_c (kind n : Int) (w : World) :
    Calls Try.prog 16 #[.int .u8 kind, .int .i64 n] w fun e w' => e = .returned (.tuple #[.string (cS kind n), .int .i64 (cE kind n)]) ∧ Q w w' := by
  cases hk : cpB kind with
  | false =>
    have HE := Lib.hid (c_kind (n := n) hk)
    have HK := Lib.hid hk; clear hk
    go_enter Try.func16, Try.ntmps16
    go_wp2_with fail
    refine (isCapital_c _ w).mono ?_
    rintro e w' ⟨rfl, rfl⟩
    rw [HK.out]
    go_wp2_with fail
    go_ret2
    exact ⟨ret2s HE.out.2.symm HE.out.1.symm, Q.refl _⟩
  | true =>
    by_cases g : 0 ≤ n ∧ n ≤ 999999
    · have HE := c_yes hk g.1 g.2
      rw [HE.1, HE.2]
      exact Code_yes kind n w (Lib.hid hk) g.1 g.2
    · have HE := Lib.hid (c_rng hk (n := n) (by omega))
      have HK := Lib.hid hk; clear hk
      have g2 : n < 0 ∨ (0 ≤ n ∧ 999999 < n) := by omega
      clear g
      rcases g2 with g | ⟨g1, g⟩
      all_goals
        go_enter Try.func16, Try.ntmps16
        go_wp2_with fail
        refine (isCapital_c _ w).mono ?_
        rintro e w' ⟨rfl, rfl⟩
        rw [HK.out]
        go_wp2_with fail
        go_ret2
        exact ⟨ret2s HE.out.2.symm HE.out.1.symm, Q.refl _⟩

theorem conv1 (w : World) (b : Nat) (x : Int) (hb : b = w.heap.size) : (convert 35 9 (.slice (some ⟨b, 0, none⟩) 1 1)).run Try.prog (w.alloc (.cells #[.int .u8 x] 5)) =
    .ok (.string (strOfNums [x])) (w.alloc (.cells #[.int .u8 x] 5)) := by
  subst hb; exact conv_row w [x] _ 1 1 (by simp) rfl

set_option maxRecDepth 100000 in
set_option maxHeartbeats 1600000 in
theorem rCode_yes (kind n : Int) (w : World) (hk : Hid (cpB kind = true)) (h0 : 0 ≤ n) (h1 : n ≤ 999999) :
    Calls Try.prog 17 #[.int .u8 kind, .int .i64 n] w fun e w' => e = .returned (.tuple #[.string (codeS kind n), .int .i64 0]) ∧ Q w w' := by
  have hc1 := conv1
  have hsz := strOfNums_size
  have happ := str_app
  go_enter Try.func17, Try.ntmps17
  go_wp2_with fail
  refine (rcapital_c _ w).mono ?_
  rintro e w' ⟨rfl, rfl⟩
  rw [hk.out]
  go_wp2_with fail
  refine wp_loop_rounds 7 ?_
  rw [rounds_succ]
  go_wp2_with fail
  rw [rounds_succ]
  go_wp2_with fail
  rw [rounds_succ]
  go_wp2_with fail
  rw [rounds_succ]
  go_wp2_with fail
  rw [rounds_succ]
  go_wp2_with fail
  rw [rounds_succ]
  go_wp2_with fail
  rw [rounds_succ]
  go_wp2_with fail
  refine (rLetterC_c kind n _ hk h0 h1).mono ?_
  rintro e w' ⟨rfl, rfl⟩
  go_wp2_with fail
  go_ret2
  exact ⟨ret2s rfl rfl, by repeat (first | exact Q.refl _ | refine Q.drewN ?_ _ | refine Q.drew ?_ | refine Q.alloc ?_ _)⟩

set_option maxHeartbeats 400000 in
theorem rCode_c (kind n : Int) (w : World) :
    Calls Try.prog 17 #[.int .u8 kind, .int .i64 n] w fun e w' => e = .returned (.tuple #[.string (cS kind n), .int .i64 (cE kind n)]) ∧ Q w w' := by
  cases hk : cpB kind with
  | false =>
    have HE := Lib.hid (c_kind (n := n) hk)
    have HK := Lib.hid hk; clear hk
    go_enter Try.func17, Try.ntmps17
    go_wp2_with fail
    refine (rcapital_c _ w).mono ?_
    rintro e w' ⟨rfl, rfl⟩
    rw [HK.out]
    go_wp2_with fail
    go_ret2
    exact ⟨ret2s HE.out.2.symm HE.out.1.symm, Q.refl _⟩
  | true =>
    by_cases g : 0 ≤ n ∧ n ≤ 999999
    · have HE := c_yes hk g.1 g.2
      rw [HE.1, HE.2]
      exact rCode_yes kind n w (Lib.hid hk) g.1 g.2
    · have HE := Lib.hid (c_rng hk (n := n) (by omega))
      have HK := Lib.hid hk; clear hk
      have g2 : n < 0 ∨ (0 ≤ n ∧ 999999 < n) := by omega
      clear g
      rcases g2 with g | ⟨g1, g⟩
      all_goals
        go_enter Try.func17, Try.ntmps17
        go_wp2_with fail
        refine (rcapital_c _ w).mono ?_
        rintro e w' ⟨rfl, rfl⟩
        rw [HK.out]
        go_wp2_with fail
        go_ret2
        exact ⟨ret2s HE.out.2.symm HE.out.1.symm, Q.refl _⟩
end Go.Proofs.Ytdebkicmoocnmaa
