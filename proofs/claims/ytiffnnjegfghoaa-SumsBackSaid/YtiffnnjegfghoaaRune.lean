/- The contract of strings.IndexRune in the sixteen digits, at any rune. -/
import Derived.Test.YtiffnnjegfghoaaOpen
import Derived.Test.YtiffnnjegfghoaaShelf
import Derived.Laws.RangeString
import Derived.Laws.Runes
import Derived.Lib.OthersKept
import Derived.Laws.RangeAny
import Derived.Lib.Bytealg
set_option linter.unusedVariables false
set_option linter.unusedSimpArgs false
namespace Go.Proofs.Ytiffnnjegfghoaa
open Go.ChangeShapes Go.WideShapes Go.ChangeAt Go.RowKit Cm

theorem valid_is (r : Int) (b : Bool) (h : Hid (Utf8.valid r = b)) (w : World) : Calls Try.prog 34 #[.int .i32 r] w fun e w' => e = .returned (.bool b) ∧ w = w' :=
  (Try.utf8_ValidRune r w).mono fun _ _ ⟨a, c⟩ => ⟨by rw [a, ← h.out]; congr 2; exact (validRune_eq r).symm, c.symm⟩
theorem all_lt : ∀ b ∈ allB.data.toList, b.toNat < 128 := by decide
theorem all_pos (k : Nat) (h : k < allB.size) : allB[k].toNat < 128 := all_lt _ (Array.getElem_mem_toList (xs := allB.data) h)
theorem no_byte (a e : Nat) (c : UInt8) (hc : 128 ≤ c.toNat) (w : World) : Calls Try.prog 33 #[.string (allB.extract a e), .int .u8 (c.toNat : Int)] w fun e w' => e = .returned (.int .i64 (-1)) ∧ w' = w :=
  (Try.strings_IndexByte (allB.extract a e) (c.toNat : Int) w).mono fun _ _ ⟨h1, h2⟩ => ⟨by
    rw [h1, ← Lib.firstIdx_eq, firstIdx_ascii allB a e _ all_lt (by simpa using hc)], h2⟩

/-- a callee that leaves memory alone, met behind a region that has drawn already -/
theorem qadd {P : Program} {f : FuncId} {args : Array Value} {w : World} {a n : Nat} {v : Value} (h : ∀ W, Calls P f args W fun e w' => e = .returned v ∧ w' = W) :
    Calls P f args (w.drewN (a + n)) fun e w'' => e = .returned v ∧ ∃ m, w'' = w.drewN (a + m) := (h _).mono fun _ _ ⟨he, hm⟩ => ⟨he, n, hm⟩
set_option maxRecDepth 100000 in
set_option maxHeartbeats 1600000 in
theorem IR_no (r : Int) (w : World) (h : r < 0 ∨ 128 ≤ r) : Calls Try.prog 29 #[.string allB, .int .i32 r] w fun e w' => e = .returned (.int .i64 (-1)) ∧ Q w w' := by
  rcases h with h | h
  · have h1 : ¬ 0 ≤ r := by omega
    have h2 : (r == 65533) = false := by simp; omega
    have HV := Lib.hid (show Utf8.valid r = false by rw [validRune_eq]; unfold validRune; simp; omega)
    go_enter Try.func29, Try.ntmps29
    go_wp2_with fail
    refine (valid_is r false HV _).mono ?_; rintro e w1 ⟨rfl, rfl⟩
    go_wp2_with fail
    go_ret
    exact ⟨rfl, Q.refl _⟩
  · have h1 : 0 ≤ r := by omega
    have h3 : ¬ r < 128 := by omega
    by_cases h2 : r = 65533
    · have h4 : (r == 65533) = true := by simp; omega
      have HR := Lib.hid h2; clear h2
      go_enter Try.func29, Try.ntmps29
      go_wp2_with fail
      go_loopw [5, 6] (fun _ _ wr => ∃ k : Nat, k ≤ 16 ∧ wr = w.iter allB k) (fun _ _ wr => 16 - wr.iterPos w.heap.size)
      case atStart => exact ⟨0, by omega, rfl⟩
      case round =>
        obtain ⟨k, hk, rfl⟩ := hrel
        by_cases hlt : k < 16
        · have hlt2 : k < allB.size := hlt
          have hnx := fun ty => run_next_ascii (P := Try.prog) w allB k ty hlt2 (all_pos k hlt2)
          have hne : ((allB[k].toNat : Int) == 65533) = false := by have := all_pos k hlt2; simp; omega
          have hwr : (allB[k].toNat : Int) < 128 := by have := all_pos k hlt2; omega
          go_wp2_with fail
          go_roundw
          case rel => exact ⟨k + 1, by omega, rfl⟩
          case measure => simp; omega
        · obtain rfl : k = 16 := by omega
          have hnx := fun ty => run_next_end (P := Try.prog) w allB 16 ty (by decide)
          go_wp2_with fail
          go_ret
          exact ⟨rfl, (Q.refl w).alloc _⟩
    · have h4 : (r == 65533) = false := by simp; omega
      clear h2
      cases hv : Utf8.valid r with
      | false =>
        have HV := Lib.hid hv; clear hv
        go_enter Try.func29, Try.ntmps29
        go_wp2_with fail
        refine (valid_is r false HV _).mono ?_; rintro e w1 ⟨rfl, rfl⟩
        go_wp2_with fail
        go_ret
        exact ⟨rfl, Q.refl _⟩
      | true =>
        obtain ⟨f1, f2, f3⟩ := encode_facts r hv h
        have HV := Lib.hid hv; clear hv
        obtain ⟨rs, hrs⟩ : ∃ rs, Utf8.encode r = rs := ⟨_, rfl⟩
        rw [hrs] at f1 f2 f3
        obtain ⟨k, hk⟩ : ∃ k, rs.size = k + 1 := ⟨rs.size - 1, by omega⟩
        have hk1 : 1 ≤ k := by omega
        have hk2 : k ≤ 3 := by omega
        have hks : k < rs.size := by omega
        have hlast : 128 ≤ rs[k].toNat := by
          have := f3 (by omega)
          simpa [hk] using this
        have HK := Lib.hid hk
        have e1 : (rs.size : Int) - 1 = (k : Int) := by omega
        have e2 : 2 ≤ rs.size := f1
        have e3 : rs.size ≤ 4 := f2
        clear f3 hk
        go_enter Try.func29, Try.ntmps29
        go_wp2_with fail
        refine (valid_is r true HV _).mono ?_; rintro e w1 ⟨rfl, rfl⟩
        go_wp2_with fail
        go_step3
        go_wp2_with fail
        have g1 : k < allB.size := by show k < 16; omega
        have g2 : (k : Int) < 16 := by omega
        have g3 : ((allB[k].toNat : Int) != (rs[k].toNat : Int)) = true := by have := all_pos k g1; rw [bne_iff_ne]; omega
        have g4 : IntKind.i64.wrap ((k : Int) + 1) = (k : Int) + 1 := IntWalk.i64_in _ (by omega)
        have g5 : 0 ≤ (k : Int) + 1 := by omega
        have g6 : ((k : Int) + 1).toNat = k + 1 := by omega
        have g7 : k + 1 ≤ allB.size := g1
        have g8 : (k : Int) < (rs.size : Int) := by omega
        have HL := Lib.hid hlast
        clear hlast
        refine wp_loop_rounds 1 ?_
        rw [rounds_succ]
        go_wp2_with fail
        go_step3
        go_wp2_with fail
        go_quiet (fail)
        go_wp2_with fail
        go_quiet ((go_at_call 33; exact qadd (fun W => no_byte (k + 1) allB.size rs[k] HL.out W)))
        go_wp2_with fail
        rw [Exit.noGoto_ret]
        go_wp2_with fail
        rw [Exit.noGoto_ret]
        go_wp2_with fail
        go_ret
        exact ⟨rfl, Q.drewN (Q.refl _) _⟩
end Go.Proofs.Ytiffnnjegfghoaa
