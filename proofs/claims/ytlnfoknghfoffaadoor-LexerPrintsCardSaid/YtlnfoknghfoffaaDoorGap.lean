/- The contracts of gap and of the reference's skip. -/
import Derived.Test.YtlnfoknghfoffaaDoorMem
set_option linter.unusedVariables false
set_option linter.unusedSimpArgs false
namespace Go.Proofs.YtlnfoknghfoffaaDoor
open Go.ChangeShapes Go.WideShapes Go.ChangeAt Go.RowKit Lm

theorem iterP {w : World} {k p : Nat} {s : ByteArray} (h : w.heap[k]? = some (.stringIter s p)) : w.iterPos k = p := by unfold World.iterPos; rw [h]
set_option maxRecDepth 100000 in
set_option maxHeartbeats 1600000 in
theorem gap_c (s : ByteArray) (w : World) (hs : s.size ≤ maxLen) : Calls Tryd.prog 22 #[.string s] w fun E w' => E = .returned (.int .i64 (skS s false 0 : Nat)) ∧ Q w w' := by
  unfold maxLen at hs
  obtain ⟨S, hS⟩ : ∃ S, skS s false 0 = S := ⟨_, rfl⟩
  rw [hS]
  have HS := Lib.hid hS
  clear hS
  go_enter Tryd.func22, Tryd.ntmps22
  go_wp2_with fail
  go_loopw [3] (fun v3 wr => ∃ (k : Nat) (r : Bool), k ≤ s.size ∧ v3 = .bool r ∧ Hid (skS s r k = S ∧ wr.heap[w.heap.size]? = some (.stringIter s k) ∧ Q w wr)) (fun _ wr => s.size - wr.iterPos w.heap.size)
  case atStart => exact ⟨0, false, Nat.zero_le _, rfl, HS.out, World.iter_heap _ _ _, (Q.refl w).alloc _⟩
  case round =>
    obtain ⟨k, r, hk, rfl, HI⟩ := hrel
    by_cases hlt : k < s.size
    · have hit := HI.out.2.1
      obtain ⟨g1, g2, g3, g4, g5, g6, g7⟩ := gap_go s k r hlt
      have hnx := fun ty => Lib.run_next_any_at (P := Tryd.prog) wr w.heap.size s k ty hit hlt
      obtain ⟨z, hz⟩ : ∃ z : Int, ((Utf8.decode s k).1 : Int) = z := ⟨_, rfl⟩
      obtain ⟨n, hn⟩ : ∃ n, (Utf8.decode s k).2 = n := ⟨_, rfl⟩
      rw [hn] at g1 g2 g3 g4 g6 g7 hnx
      rw [hz] at hnx
      obtain ⟨W1, hW1⟩ : ∃ W1, wr.iterAt w.heap.size s (k + n) = W1 := ⟨_, rfl⟩
      rw [hW1] at hnx
      have HQ := Lib.hid (show Q w W1 by rw [← hW1]; exact Lib.below_iterAt HI.out.2.2 (Nat.le_refl _) _ _)
      have HT := Lib.hid (show W1.heap[w.heap.size]? = some (.stringIter s (k + n)) by rw [← hW1]; exact Lib.iterAt_heap _ _ _ _ _ hit)
      have HP := Lib.hid (iterP hit)
      have HP1 := Lib.hid (iterP HT.out)
      have HN := Lib.hid (And.intro g6 g7)
      have HK := Lib.hid (show k < s.size from hlt)
      clear hit g6 g7 hW1 hn
      by_cases e1 : z = 10
      · have HE := Lib.hid (show skS s false (k + n) = S by rw [← g1 (by omega)]; exact HI.out.1)
        subst e1
        clear g1 g2 g3 g4 g5 hz
        go_wp2_with fail
        go_roundw
        case rel => exact ⟨k + n, false, HN.out.2, rfl, HE.out, HT.out, HQ.out⟩
        case measure => rw [HP.out, HP1.out]; have := HN.out; have := HK.out; omega
      · have f1 : (z == 10) = false := by simp; omega
        by_cases e2 : z = 35
        · have HE := Lib.hid (show skS s true (k + n) = S by rw [← g2 (by omega)]; exact HI.out.1)
          subst e2
          clear g1 g2 g3 g4 g5 hz
          go_wp2_with fail
          go_roundw
          case rel => exact ⟨k + n, true, HN.out.2, rfl, HE.out, HT.out, HQ.out⟩
          case measure => rw [HP.out, HP1.out]; have := HN.out; have := HK.out; omega
        · have f2 : (z == 35) = false := by simp; omega
          by_cases e3 : z = 32
          · have HE := Lib.hid (show skS s r (k + n) = S by rw [← g3 (by omega)]; exact HI.out.1)
            subst e3
            clear g1 g2 g3 g4 g5 hz
            go_wp2_with fail
            go_roundw
            case rel => exact ⟨k + n, r, HN.out.2, rfl, HE.out, HT.out, HQ.out⟩
            case measure => rw [HP.out, HP1.out]; have := HN.out; have := HK.out; omega
          · have f3 : (z != 32) = true := by simp; omega
            have f3' : (z == 32) = false := by simp; omega
            cases r with
            | true =>
              have HE := Lib.hid (show skS s true (k + n) = S by rw [← g4 (by omega)]; exact HI.out.1)
              clear g1 g2 g3 g4 g5 hz e1 e2 e3
              go_wp2_with fail
              go_roundw
              case rel => exact ⟨k + n, true, HN.out.2, rfl, HE.out, HT.out, HQ.out⟩
              case measure => rw [HP.out, HP1.out]; have := HN.out; have := HK.out; omega
            | false =>
              have HE := Lib.hid (show k = S by rw [← HI.out.1]; exact (g5 (by omega) (by omega) (by omega)).symm)
              clear g1 g2 g3 g4 g5 hz e1 e2 e3
              go_wp2_with fail
              go_ret
              exact ⟨ret_int (by rw [HE.out]), HQ.out⟩
    · obtain rfl : k = s.size := by omega
      have hnx := fun ty => Lib.run_next_end_at (P := Tryd.prog) wr w.heap.size s s.size ty HI.out.2.1 (by omega)
      have HE := Lib.hid (show s.size = S by rw [← HI.out.1]; exact (skS_end (by omega)).symm)
      go_wp2_with fail
      go_ret
      exact ⟨ret_int (by rw [HE.out]), HI.out.2.2⟩
set_option maxRecDepth 100000 in
set_option maxHeartbeats 1600000 in
theorem skip_c (s : ByteArray) (p : Nat) (w : World) (hs : s.size ≤ maxLen) (hp : p ≤ s.size) : Calls Tryd.prog 24 #[.string s, .int .i64 p] w fun E w' => E = .returned (.int .i64 (skS s false p : Nat)) ∧ w = w' := by
  unfold maxLen at hs
  obtain ⟨S, hS⟩ : ∃ S, skS s false p = S := ⟨_, rfl⟩
  rw [hS]
  have HS := Lib.hid hS
  clear hS
  go_enter Tryd.func24, Tryd.ntmps24
  go_wp2_with fail
  go_loop [1, 5] (fun v1 v5 => ∃ (k : Nat) (r : Bool), k ≤ s.size ∧ v1 = .int .i64 k ∧ v5 = .bool r ∧ Hid (skS s r k = S)) (fun v1 _ => s.size - (intOf v1).toNat)
  case atStart => exact ⟨p, false, hp, rfl, rfl, HS.out⟩
  case round =>
    obtain ⟨k, r, hk, rfl, rfl, HI⟩ := hrel
    by_cases hlt : k < s.size
    · have hb := bt_eq s k hlt
      obtain ⟨z, hz⟩ : ∃ z : Int, (s[k].toNat : Int) = z := ⟨_, rfl⟩
      rw [hz] at hb
      have HZ := Lib.hid hz
      have HK := Lib.hid hlt
      by_cases e1 : z = 10
      · have HE := Lib.hid (show skS s false (k + 1) = S by rw [← skS_nl hlt (r := r) (by omega)]; exact HI.out)
        subst e1
        clear hb
        go_wp2_with fail
        go_round
        case rel => exact ⟨k + 1, false, by omega, by go_num, rfl, HE⟩
        case measure => simp [intOf] <;> omega
      · have f1 : (z == 10) = false := by simp; omega
        cases r with
        | true =>
          have HE := Lib.hid (show skS s true (k + 1) = S by rw [← skS_rem hlt (by omega)]; exact HI.out)
          clear hb e1
          go_wp2_with fail
          go_round
          case rel => exact ⟨k + 1, true, by omega, by go_num, rfl, HE⟩
          case measure => simp [intOf] <;> omega
        | false =>
          by_cases e3 : z = 32
          · have HE := Lib.hid (show skS s false (k + 1) = S by rw [← skS_sp hlt (by omega)]; exact HI.out)
            subst e3
            clear hb
            go_wp2_with fail
            go_round
            case rel => exact ⟨k + 1, false, by omega, by go_num, rfl, HE⟩
            case measure => simp [intOf] <;> omega
          · have f3 : (z == 32) = false := by simp; omega
            by_cases e2 : z = 35
            · have HE := Lib.hid (show skS s true (k + 1) = S by rw [← skS_hash hlt (r := false) (by omega)]; exact HI.out)
              subst e2
              clear hb
              go_wp2_with fail
              go_round
              case rel => exact ⟨k + 1, true, by omega, by go_num, rfl, HE⟩
              case measure => simp [intOf] <;> omega
            · have f2 : (z == 35) = false := by simp; omega
              have HE := Lib.hid (show k = S by rw [← HI.out]; exact (skS_stop hlt (by omega) (by omega) (by omega)).symm)
              clear hb e1 e2 e3
              go_wp2_with fail
              go_ret
              exact ⟨ret_int (by rw [HE.out]), rfl⟩
    · obtain rfl : k = s.size := by omega
      have HE := Lib.hid (show s.size = S by rw [← HI.out]; exact (skS_end (by omega)).symm)
      go_wp2_with fail
      go_ret
      exact ⟨ret_int (by rw [HE.out]), rfl⟩
end Go.Proofs.YtlnfoknghfoffaaDoor
