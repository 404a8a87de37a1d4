/- The contract of leading. -/
import Derived.Test.YtlnfoknghfoffaaDoorLeaf
set_option linter.unusedVariables false
set_option linter.unusedSimpArgs false
namespace Go.Proofs.YtlnfoknghfoffaaDoor
open Go.ChangeShapes Go.WideShapes Go.ChangeAt Go.RowKit Lm

theorem wrap32_in {z : Int} (h : 0 ≤ z) (h2 : z < 256) : wrap32 z = z := by unfold wrap32; omega
/-- the place of the first byte that does not fit -/
def ldF (f : Int → Bool) (s : ByteArray) : Nat → Nat → Nat
  | 0, p => p
  | n + 1, p => if f (bt s p) = true then ldF f s n (p + 1) else p
def ldS (f : Int → Bool) (s : ByteArray) (p : Nat) : Nat := ldF f s (s.size - p) p
theorem ldS_end {f : Int → Bool} {s : ByteArray} {p : Nat} (h : ¬ p < s.size) : ldS f s p = p := by unfold ldS; rw [show s.size - p = 0 by omega]; rfl
theorem ldS_go {f : Int → Bool} {s : ByteArray} {p : Nat} (h : p < s.size) (hb : f (bt s p) = true) : ldS f s p = ldS f s (p + 1) := by
  unfold ldS; rw [show s.size - p = (s.size - (p + 1)) + 1 by omega]
  show (if f (bt s p) = true then _ else _) = _
  rw [if_pos hb]
theorem ldS_no {f : Int → Bool} {s : ByteArray} {p : Nat} (hb : f (bt s p) = false) : ldS f s p = p := by
  by_cases h : p < s.size
  · unfold ldS; rw [show s.size - p = (s.size - (p + 1)) + 1 by omega]
    show (if f (bt s p) = true then _ else _) = _
    rw [if_neg (by rw [hb]; decide)]
  · exact ldS_end h
theorem ldS_bd {f : Int → Bool} {s : ByteArray} : ∀ (n p : Nat), s.size - p = n → p ≤ s.size → p ≤ ldS f s p ∧ ldS f s p ≤ s.size
  | 0, p, hn, hp => by rw [ldS_end (by omega)]; omega
  | n + 1, p, hn, hp => by
    cases hb : f (bt s p) with
    | false => rw [ldS_no hb]; omega
    | true =>
      have := ldS_bd (f := f) (s := s) n (p + 1) (by omega) (by omega)
      rw [ldS_go (by omega) hb]; omega
theorem ldS_rs {f : Int → Bool} {s : ByteArray} (q : Nat) (hq : q ≤ s.size) : ∀ (n k : Nat), s.size - (q + k) = n → q + ldS f (rs s q) k = ldS f s (q + k)
  | 0, k, hn => by rw [ldS_end (s := s) (by omega), ldS_end (by rw [rs_size]; omega)]
  | n + 1, k, hn => by
    have hk : k < (rs s q).size := by rw [rs_size]; omega
    have ih := ldS_rs (f := f) (s := s) q hq n (k + 1) (by omega)
    cases hb : f (bt s (q + k)) with
    | false => rw [ldS_no hb, ldS_no (by rw [bt_rs]; exact hb)]
    | true => rw [ldS_go (s := s) (by omega) hb, ldS_go hk (by rw [bt_rs]; exact hb), ih]; rfl
/-- the bytes ahead of the place fit -/
theorem ldS_fit {f : Int → Bool} {s : ByteArray} : ∀ (n p : Nat), s.size - p = n → ∀ j, p ≤ j → j < ldS f s p → f (bt s j) = true
  | 0, p, hn => fun j h1 h2 => by rw [ldS_end (by omega)] at h2; omega
  | n + 1, p, hn => fun j h1 h2 => by
    cases hb : f (bt s p) with
    | false => rw [ldS_no hb] at h2; omega
    | true =>
      rw [ldS_go (by omega) hb] at h2
      by_cases e : j = p
      · subst e; exact hb
      · exact ldS_fit n (p + 1) (by omega) j (by omega) h2
theorem dg_hi : ∀ z, 128 ≤ z → dg z = false := fun z h => decide_eq_false (by omega)
theorem nm_hi : ∀ z, 128 ≤ z → nm z = false := fun z h => by unfold nm lt; rw [dg_hi z h]; simp; omega
set_option maxRecDepth 100000 in
set_option maxHeartbeats 1600000 in
theorem leading_d (s : ByteArray) (w : World) (hs : s.size ≤ maxLen) :
    Calls Tryd.prog 33 #[.string s, .func (.func 31) #[] #[]] w fun E w' => E = .returned (.string (s.extract 0 (ldS dg s 0))) ∧ Q w w' := by
  unfold maxLen at hs
  obtain ⟨S, hS⟩ : ∃ S, ldS dg s 0 = S := ⟨_, rfl⟩
  rw [hS]
  have HS := Lib.hid hS
  clear hS
  go_enter Tryd.func33, Tryd.ntmps33
  go_wp2_with fail
  go_loopw [] (fun wr => ∃ k : Nat, k ≤ s.size ∧ Hid (ldS dg s k = S ∧ wr.heap[w.heap.size]? = some (.stringIter s k) ∧ Q w wr)) (fun wr => s.size - wr.iterPos w.heap.size)
  case atStart => exact ⟨0, Nat.zero_le _, HS.out, World.iter_heap _ _ _, (Q.refl w).alloc _⟩
  case round =>
    obtain ⟨k, hk, HI⟩ := hrel
    by_cases hlt : k < s.size
    · have hit := HI.out.2.1
      have hb := bt_nat s k hlt
      by_cases h0 : bt s k < 128 ∧ dg (bt s k) = true
      · have HE := Lib.hid (show ldS dg s (k + 1) = S by rw [← ldS_go hlt h0.2]; exact HI.out.1)
        have hnx := fun ty => Lib.run_next_ascii_at (P := Tryd.prog) wr w.heap.size s k ty hit hlt (by rw [hb]; exact h0.1)
        rw [hb] at hnx
        obtain ⟨z, hz⟩ : ∃ z : Int, (bt s k : Int) = z := ⟨_, rfl⟩
        have HC := Lib.hid (fun w => isDigit_c z w)
        have h02 := h0.2
        rw [hz] at hnx h02
        rw [h02] at HC
        obtain ⟨W1, hW1⟩ : ∃ W1, wr.iterAt w.heap.size s (k + 1) = W1 := ⟨_, rfl⟩
        rw [hW1] at hnx
        have HQ := Lib.hid (show Q w W1 by rw [← hW1]; exact Lib.below_iterAt HI.out.2.2 (Nat.le_refl _) _ _)
        have HT := Lib.hid (show W1.heap[w.heap.size]? = some (.stringIter s (k + 1)) by rw [← hW1]; exact Lib.iterAt_heap _ _ _ _ _ hit)
        have HP := Lib.hid (iterP hit)
        have HP1 := Lib.hid (iterP HT.out)
        have HK := Lib.hid hlt
        clear hit hW1 h02 h0 hb hz
        go_wp2_with fail
        refine (HC.out _).mono ?_; rintro E w2 ⟨rfl, rfl⟩
        go_wp2_with fail
        go_roundw
        case rel => exact ⟨k + 1, HK.out, HE.out, HT.out, HQ.out⟩
        case measure => rw [HP.out, HP1.out]; have := HK.out; omega
      · have HE := Lib.hid (show k = S by
          rw [← HI.out.1]
          refine (ldS_no ?_).symm
          by_cases g : bt s k < 128
          · cases e : dg (bt s k) with
            | false => rfl
            | true => exact absurd ⟨g, e⟩ h0
          · exact dg_hi _ (by omega))
        have hnx := fun ty => Lib.run_next_any_at (P := Tryd.prog) wr w.heap.size s k ty hit hlt
        have hfd : dg ((Utf8.decode s k).1 : Int) = false := by
          by_cases g : bt s k < 128
          · rw [decode_ascii s k hlt (by rw [hb]; exact g), hb]
            cases e : dg (bt s k) with
            | false => rfl
            | true => exact absurd ⟨g, e⟩ h0
          · exact dg_hi _ (by have := (decode_high s k hlt (by rw [hb]; omega)).1; omega)
        obtain ⟨z, hz⟩ : ∃ z : Int, ((Utf8.decode s k).1 : Int) = z := ⟨_, rfl⟩
        have HC := Lib.hid (fun w => isDigit_c z w)
        rw [hz] at hnx hfd
        rw [hfd] at HC
        obtain ⟨W1, hW1⟩ : ∃ W1, wr.iterAt w.heap.size s (k + (Utf8.decode s k).2) = W1 := ⟨_, rfl⟩
        rw [hW1] at hnx
        have HQ := Lib.hid (show Q w W1 by rw [← hW1]; exact Lib.below_iterAt HI.out.2.2 (Nat.le_refl _) _ _)
        have HK := Lib.hid hlt
        have i1 : (0 : Int) ≤ (k : Int) := by omega
        have i2 : (k : Int) ≤ (s.size : Int) := by omega
        clear hit hW1 hfd h0 hb hz
        go_wp2_with fail
        refine (HC.out _).mono ?_; rintro E w2 ⟨rfl, rfl⟩
        go_wp2_with fail
        go_ret
        exact ⟨by rw [← HE.out]; rfl, HQ.out⟩
    · obtain rfl : k = s.size := by omega
      have hnx := fun ty => Lib.run_next_end_at (P := Tryd.prog) wr w.heap.size s s.size ty HI.out.2.1 (by omega)
      have HE := Lib.hid (show s.size = S by rw [← HI.out.1]; exact (ldS_end (by omega)).symm)
      go_wp2_with fail
      go_ret
      exact ⟨by rw [← HE.out]; simp, HI.out.2.2⟩
set_option maxRecDepth 100000 in
set_option maxHeartbeats 1600000 in
theorem leading_n (s : ByteArray) (w : World) (hs : s.size ≤ maxLen) :
    Calls Tryd.prog 33 #[.string s, .func (.func 36) #[] #[]] w fun E w' => E = .returned (.string (s.extract 0 (ldS nm s 0))) ∧ Q w w' := by
  unfold maxLen at hs
  obtain ⟨S, hS⟩ : ∃ S, ldS nm s 0 = S := ⟨_, rfl⟩
  rw [hS]
  have HS := Lib.hid hS
  clear hS
  go_enter Tryd.func33, Tryd.ntmps33
  go_wp2_with fail
  go_loopw [] (fun wr => ∃ k : Nat, k ≤ s.size ∧ Hid (ldS nm s k = S ∧ wr.heap[w.heap.size]? = some (.stringIter s k) ∧ Q w wr)) (fun wr => s.size - wr.iterPos w.heap.size)
  case atStart => exact ⟨0, Nat.zero_le _, HS.out, World.iter_heap _ _ _, (Q.refl w).alloc _⟩
  case round =>
    obtain ⟨k, hk, HI⟩ := hrel
    by_cases hlt : k < s.size
    · have hit := HI.out.2.1
      have hb := bt_nat s k hlt
      by_cases h0 : bt s k < 128 ∧ nm (bt s k) = true
      · have HE := Lib.hid (show ldS nm s (k + 1) = S by rw [← ldS_go hlt h0.2]; exact HI.out.1)
        have hnx := fun ty => Lib.run_next_ascii_at (P := Tryd.prog) wr w.heap.size s k ty hit hlt (by rw [hb]; exact h0.1)
        rw [hb] at hnx
        obtain ⟨z, hz⟩ : ∃ z : Int, (bt s k : Int) = z := ⟨_, rfl⟩
        have HC := Lib.hid (fun w => isOfName_c z w)
        have h02 := h0.2
        rw [hz] at hnx h02
        rw [h02] at HC
        obtain ⟨W1, hW1⟩ : ∃ W1, wr.iterAt w.heap.size s (k + 1) = W1 := ⟨_, rfl⟩
        rw [hW1] at hnx
        have HQ := Lib.hid (show Q w W1 by rw [← hW1]; exact Lib.below_iterAt HI.out.2.2 (Nat.le_refl _) _ _)
        have HT := Lib.hid (show W1.heap[w.heap.size]? = some (.stringIter s (k + 1)) by rw [← hW1]; exact Lib.iterAt_heap _ _ _ _ _ hit)
        have HP := Lib.hid (iterP hit)
        have HP1 := Lib.hid (iterP HT.out)
        have HK := Lib.hid hlt
        clear hit hW1 h02 h0 hb hz
        go_wp2_with fail
        refine (HC.out _).mono ?_; rintro E w2 ⟨rfl, rfl⟩
        go_wp2_with fail
        go_roundw
        case rel => exact ⟨k + 1, HK.out, HE.out, HT.out, HQ.out⟩
        case measure => rw [HP.out, HP1.out]; have := HK.out; omega
      · have HE := Lib.hid (show k = S by
          rw [← HI.out.1]
          refine (ldS_no ?_).symm
          by_cases g : bt s k < 128
          · cases e : nm (bt s k) with
            | false => rfl
            | true => exact absurd ⟨g, e⟩ h0
          · exact nm_hi _ (by omega))
        have hnx := fun ty => Lib.run_next_any_at (P := Tryd.prog) wr w.heap.size s k ty hit hlt
        have hfd : nm ((Utf8.decode s k).1 : Int) = false := by
          by_cases g : bt s k < 128
          · rw [decode_ascii s k hlt (by rw [hb]; exact g), hb]
            cases e : nm (bt s k) with
            | false => rfl
            | true => exact absurd ⟨g, e⟩ h0
          · exact nm_hi _ (by have := (decode_high s k hlt (by rw [hb]; omega)).1; omega)
        obtain ⟨z, hz⟩ : ∃ z : Int, ((Utf8.decode s k).1 : Int) = z := ⟨_, rfl⟩
        have HC := Lib.hid (fun w => isOfName_c z w)
        rw [hz] at hnx hfd
        rw [hfd] at HC
        obtain ⟨W1, hW1⟩ : ∃ W1, wr.iterAt w.heap.size s (k + (Utf8.decode s k).2) = W1 := ⟨_, rfl⟩
        rw [hW1] at hnx
        have HQ := Lib.hid (show Q w W1 by rw [← hW1]; exact Lib.below_iterAt HI.out.2.2 (Nat.le_refl _) _ _)
        have HK := Lib.hid hlt
        have i1 : (0 : Int) ≤ (k : Int) := by omega
        have i2 : (k : Int) ≤ (s.size : Int) := by omega
        clear hit hW1 hfd h0 hb hz
        go_wp2_with fail
        refine (HC.out _).mono ?_; rintro E w2 ⟨rfl, rfl⟩
        go_wp2_with fail
        go_ret
        exact ⟨by rw [← HE.out]; rfl, HQ.out⟩
    · obtain rfl : k = s.size := by omega
      have hnx := fun ty => Lib.run_next_end_at (P := Tryd.prog) wr w.heap.size s s.size ty HI.out.2.1 (by omega)
      have HE := Lib.hid (show s.size = S by rw [← HI.out.1]; exact (ldS_end (by omega)).symm)
      go_wp2_with fail
      go_ret
      exact ⟨by rw [← HE.out]; simp, HI.out.2.2⟩
end Go.Proofs.YtlnfoknghfoffaaDoor
