/- The contracts of Number and of its reference. -/
import Derived.Test.YtiffnnjegfghoaaRune
set_option linter.unusedVariables false
set_option linter.unusedSimpArgs false
namespace Go.Proofs.Ytiffnnjegfghoaa
open Go.ChangeShapes Go.WideShapes Go.ChangeAt Go.RowKit Cm

def isH (c : Nat) : Bool := decide ((48 ≤ c ∧ c ≤ 57) ∨ (97 ≤ c ∧ c ≤ 102))
def hv (c : Nat) : Nat := if c ≤ 57 then c - 48 else c - 87
def allH (f : Nat → Nat) : Nat → Bool
  | 0 => true
  | k + 1 => allH f k && isH (f k)
def numH (f : Nat → Nat) : Nat → Nat
  | 0 => 0
  | k + 1 => 16 * numH f k + hv (f k)
def nE (s : ByteArray) : Int := if s.size < 16 then 3 else if 16 < s.size then 4 else if allH (bt s) 16 = true then 0 else 5
def nV (s : ByteArray) : Nat := if nE s = 0 then numH (bt s) 16 else 0
theorem hv_lt {c : Nat} (h : isH c = true) : hv c < 16 := by
  unfold isH at h; unfold hv; have := of_decide_eq_true h; split <;> omega
theorem allH_at {f : Nat → Nat} {n : Nat} (h : allH f n = true) : ∀ k, k < n → isH (f k) = true := by
  induction n with
  | zero => intro k hk; omega
  | succ n ih =>
    unfold allH at h; rw [Bool.and_eq_true] at h
    intro k hk
    by_cases e : k = n
    · subst e; exact h.2
    · exact ih h.1 k (by omega)
theorem allH_step {f : Nat → Nat} {k : Nat} (h : allH f k = true) (h2 : isH (f k) = true) : allH f (k + 1) = true := by unfold allH; rw [h, h2]; rfl
theorem allH_no {f : Nat → Nat} {k n : Nat} (hk : k < n) (h2 : isH (f k) = false) : allH f n = false := by
  rw [Bool.eq_false_iff]; intro h; rw [allH_at h k hk] at h2; cases h2
theorem numH_lt {f : Nat → Nat} {k : Nat} (h : allH f k = true) : numH f k < 16 ^ k := by
  induction k with
  | zero => show (0 : Nat) < 1; omega
  | succ k ih =>
    unfold allH at h; rw [Bool.and_eq_true] at h
    have h1 := ih h.1
    have h2 := hv_lt h.2
    show 16 * numH f k + hv (f k) < 16 ^ (k + 1)
    rw [Nat.pow_succ]; omega
theorem ret_un {a b : Int} {c d : Int} (h : (a, c) = (b, d)) : Ending.returned (.tuple #[.int .u64 a, .int .i64 c]) = .returned (.tuple #[.int .u64 b, .int .i64 d]) := by
  injection h with h1 h2; rw [h1, h2]
theorem ix_all : ∀ c, c < 128 → Lib.indexByte allB.data.toList (c.toUInt8) = if isH c = true then (hv c : Int) else -1 := by decide +kernel
theorem IR_yes (c : Nat) (h : Hid (isH c = true)) (w : World) : Calls Try.prog 29 #[.string allB, .int .i32 (c : Int)] w fun e w' => e = .returned (.int .i64 (hv c : Nat)) ∧ Q w w' := by
  have h1 : c < 128 := by have := h.out; unfold isH at this; have := of_decide_eq_true this; omega
  refine (Try.strings_IndexRune_ascii allB c w (by omega) (by omega)).mono fun e w' ⟨h2, h3⟩ => ⟨?_, h3 ▸ Q.refl _⟩
  rw [h2, Int.toNat_natCast, ix_all c h1, if_pos h.out]
theorem IR_bad (c : Nat) (h : Hid (isH c = false)) (w : World) : Calls Try.prog 29 #[.string allB, .int .i32 (c : Int)] w fun e w' => e = .returned (.int .i64 (-1)) ∧ Q w w' := by
  by_cases h1 : c < 128
  · refine (Try.strings_IndexRune_ascii allB c w (by omega) (by omega)).mono fun e w' ⟨h2, h3⟩ => ⟨?_, h3 ▸ Q.refl _⟩
    rw [h2, Int.toNat_natCast, ix_all c h1, if_neg (by rw [h.out]; decide)]
  · exact IR_no c w (.inr (by omega))
theorem dec_ge (s : ByteArray) (pos : Nat) (h : pos < s.size) (hb : 128 ≤ s[pos].toNat) : 128 ≤ (Utf8.decode s pos).1 := by
  have e : s.get! (pos + 0) = s[pos] := by
    show s.get! pos = _
    simp [ByteArray.get!, getElem!_pos, h]
    rfl
  unfold Utf8.decode
  simp only [e]
  rw [if_neg (by omega)]
  unfold Utf8.runeError
  split
  · split <;> omega
  · split
    · split
      · rename_i g; simp at g; omega
      · omega
    · split
      · split
        · rename_i g; simp at g; omega
        · omega
      · omega
/-- the rune at a place is a digit exactly if its byte is -/
theorem dec_H (s : ByteArray) (pos : Nat) (h : pos < s.size) (hb : isH (bt s pos) = false) : isH (Utf8.decode s pos).1 = false := by
  by_cases h1 : s[pos].toNat < 128
  · rw [decode_ascii s pos h h1]
    have := bt_eq s pos h
    rw [show s[pos].toNat = bt s pos by omega]; exact hb
  · have := dec_ge s pos h (by omega)
    unfold isH; simp; omega

theorem num_step {x d : Nat} (hx : x < 1152921504606846976) (hd : d < 16) : IntKind.u64.wrap (IntKind.u64.wrap (16 * (x : Int)) + (d : Int)) = ((16 * x + d : Nat) : Int) := by
  rw [wrap_u64, wrap_u64]; omega
theorem num_step2 {x d : Nat} (hx : x < 1152921504606846976) (hd : d < 16) : IntKind.u64.wrap (IntKind.u64.wrap ((x : Int) * 16) + (d : Int)) = ((16 * x + d : Nat) : Int) := by
  rw [wrap_u64, wrap_u64]; omega
set_option maxHeartbeats 800000 in
theorem Number_c (s : ByteArray) (w : World) (hs : s.size ≤ maxLen) : Calls Try.prog 19 #[.string s] w fun e w' => e = .returned (.tuple #[.int .u64 (nV s : Nat), .int .i64 (nE s)]) ∧ Q w w' := by
  unfold maxLen at hs
  by_cases h1 : s.size < 16
  · have HE := Lib.hid (show ((0 : Int), (3 : Int)) = (((nV s : Nat) : Int), nE s) by unfold nV nE; simp [h1])
    go_enter Try.func19, Try.ntmps19
    go_wp2_with fail
    go_ret2
    exact ⟨ret_un HE.out, Q.refl _⟩
  · by_cases h2 : 16 < s.size
    · have HE := Lib.hid (show ((0 : Int), (4 : Int)) = (((nV s : Nat) : Int), nE s) by unfold nV nE; simp [h1, h2])
      go_enter Try.func19, Try.ntmps19
      go_wp2_with fail
      go_ret2
      exact ⟨ret_un HE.out, Q.refl _⟩
    · have h3 : s.size ≤ 16 := by omega
      have h4 : 16 ≤ s.size := by omega
      have HNO := Lib.hid (show ∀ k, k < 16 → isH (bt s k) = false → ((0 : Int), (5 : Int)) = (((nV s : Nat) : Int), nE s) from fun k hk hb => by unfold nV nE; simp [h1, h2, allH_no hk hb])
      have HYES := Lib.hid (show allH (bt s) 16 = true → ((numH (bt s) 16 : Nat) : Int) = ((nV s : Nat) : Int) ∧ (0 : Int) = nE s from fun h => by unfold nV nE; simp [h1, h2, h])
      go_enter Try.func19, Try.ntmps19
      go_wp2_with fail
      go_loopw [4] (fun v4 wr => ∃ k : Nat, k ≤ 16 ∧ v4 = .int .u64 (numH (bt s) k : Nat) ∧ Hid (allH (bt s) k = true ∧ wr.heap[w.heap.size]? = some (.stringIter s k) ∧ Q w wr)) (fun _ wr => 16 - wr.iterPos w.heap.size)
      case atStart => exact ⟨0, by omega, rfl, rfl, World.iter_heap _ _ _, (Q.refl w).alloc _⟩
      case round =>
        obtain ⟨k, hk, rfl, HI⟩ := hrel
        by_cases hlt : k < 16
        · have hks : k < s.size := by omega
          have hit := HI.out.2.1
          have hwk := HI.out.2.2.size
          cases hb : isH (bt s k) with
          | false =>
            have HE := Lib.hid (HNO.out k hlt hb)
            have hnx := fun ty => Lib.run_next_any_at (P := Try.prog) wr w.heap.size s k ty hit hks
            obtain ⟨d, hd⟩ : ∃ d, (Utf8.decode s k).1 = d := ⟨_, rfl⟩
            have HD := Lib.hid (show isH d = false by rw [← hd]; exact dec_H s k hks hb)
            rw [hd] at hnx
            obtain ⟨W1, hW1⟩ : ∃ W1, wr.iterAt w.heap.size s (k + (Utf8.decode s k).2) = W1 := ⟨_, rfl⟩
            rw [hW1] at hnx
            have HQ := Lib.hid (show Q w W1 by rw [← hW1]; exact Lib.below_iterAt HI.out.2.2 (Nat.le_refl _) _ _)
            clear hd hW1 hb hit hwk
            go_wp2_with fail
            refine (IR_bad d HD _).mono ?_; rintro e W2 ⟨rfl, hq2⟩
            go_wp2_with fail
            go_ret2
            exact ⟨ret_un HE.out, HQ.out.trans hq2⟩
          | true =>
            have HB := Lib.hid hb
            have hbk := bt_eq s k hks
            have hn16 := numH_lt HI.out.1
            have hp : 16 ^ k ≤ 16 ^ 15 := Nat.pow_le_pow_right (by omega) (by omega)
            have HS := Lib.hid (num_step (x := numH (bt s) k) (d := hv (bt s k)) (by have h15 : (16 : Nat) ^ 15 = 1152921504606846976 := (by decide); omega) (hv_lt hb))
            have HA := Lib.hid (allH_step HI.out.1 hb)
            have hnx := fun ty => Lib.run_next_ascii_at (P := Try.prog) wr w.heap.size s k ty hit hks (by unfold isH at hb; have := of_decide_eq_true hb; omega)
            rw [hbk] at hnx
            obtain ⟨W1, hW1⟩ : ∃ W1, wr.iterAt w.heap.size s (k + 1) = W1 := ⟨_, rfl⟩
            rw [hW1] at hnx
            have HQ := Lib.hid (show Q w W1 by rw [← hW1]; exact Lib.below_iterAt HI.out.2.2 (Nat.le_refl _) _ _)
            have HT := Lib.hid (show W1.heap[w.heap.size]? = some (.stringIter s (k + 1)) by rw [← hW1]; exact Lib.iterAt_heap _ _ _ _ _ hit)
            have HP := Lib.hid (show wr.iterPos w.heap.size = k by unfold World.iterPos; rw [hit])
            have HL := Lib.hid (show hv (bt s k) < 16 from hv_lt hb)
            obtain ⟨c, hc⟩ : ∃ c, bt s k = c := ⟨_, rfl⟩
            have HC := Lib.hid hc
            rw [hc] at hnx HB HL HS
            clear hW1 hb hit hbk hn16 hp hwk hc
            go_wp2_with fail
            refine (IR_yes c HB _).mono ?_; rintro e W2 ⟨rfl, hq2⟩
            obtain ⟨d, hd⟩ : ∃ d, hv c = d := ⟨_, rfl⟩
            have HDD := Lib.hid hd
            rw [hd]
            rw [hd] at HS
            have hd15 : (d : Int) ≤ 15 := by have := HL.out; omega
            have HT2 := Lib.hid (show W2.heap[w.heap.size]? = some (.stringIter s (k + 1)) by
              rw [← HT.out]; exact hq2.block _ (Array.getElem?_eq_some_iff.1 HT.out).1)
            have HQ2 := Lib.hid (HQ.out.trans hq2)
            clear hd hq2
            go_wp2_with fail
            go_roundw
            case rel => exact ⟨k + 1, by omega, by rw [show numH (bt s) (k + 1) = 16 * numH (bt s) k + d by rw [← HDD.out, ← HC.out]; rfl, ← HS.out], HA.out, HT2.out, HQ2.out⟩
            case measure =>
              have h1 := HP.out
              have h2 : W2.iterPos w.heap.size = k + 1 := by unfold World.iterPos; rw [HT2.out]
              rw [h1, h2]; omega
        · obtain rfl : k = 16 := by omega
          have hnx := fun ty => Lib.run_next_end_at (P := Try.prog) wr w.heap.size s 16 ty HI.out.2.1 (by omega)
          go_wp2_with fail
          go_ret2
          exact ⟨ret_un (by rw [(HYES.out HI.out.1).1, (HYES.out HI.out.1).2]), HI.out.2.2⟩

set_option maxHeartbeats 800000 in
theorem rNumber_c (s : ByteArray) (w : World) (hs : s.size ≤ maxLen) : Calls Try.prog 20 #[.string s] w fun e w' => e = .returned (.tuple #[.int .u64 (nV s : Nat), .int .i64 (nE s)]) ∧ w = w' := by
  unfold maxLen at hs
  by_cases h1 : s.size < 16
  · have HE := Lib.hid (show ((0 : Int), (3 : Int)) = (((nV s : Nat) : Int), nE s) by unfold nV nE; simp [h1])
    go_enter Try.func20, Try.ntmps20
    go_wp2_with fail
    go_ret2
    exact ⟨ret_un HE.out, rfl⟩
  · by_cases h2 : 16 < s.size
    · have HE := Lib.hid (show ((0 : Int), (4 : Int)) = (((nV s : Nat) : Int), nE s) by unfold nV nE; simp [h1, h2])
      go_enter Try.func20, Try.ntmps20
      go_wp2_with fail
      go_ret2
      exact ⟨ret_un HE.out, rfl⟩
    · have h3 : s.size ≤ 16 := by omega
      have h4 : 16 ≤ s.size := by omega
      have HNO := Lib.hid (show ∀ k, k < 16 → isH (bt s k) = false → ((0 : Int), (5 : Int)) = (((nV s : Nat) : Int), nE s) from fun k hk hb => by unfold nV nE; simp [h1, h2, allH_no hk hb])
      have HYES := Lib.hid (show allH (bt s) 16 = true → ((numH (bt s) 16 : Nat) : Int) = ((nV s : Nat) : Int) ∧ (0 : Int) = nE s from fun h => by unfold nV nE; simp [h1, h2, h])
      go_enter Try.func20, Try.ntmps20
      go_wp2_with fail
      go_loop [4, 5] (fun v4 v5 => ∃ k : Nat, k ≤ 16 ∧ v4 = .int .u64 (numH (bt s) k : Nat) ∧ v5 = .int .i64 k ∧ Hid (allH (bt s) k = true)) (fun _ v5 => 16 - (intOf v5).toNat)
      case atStart => exact ⟨0, by omega, rfl, rfl, rfl⟩
      case round =>
        obtain ⟨k, hk, rfl, rfl, HI⟩ := hrel
        by_cases hlt : k < 16
        · have hks : k < s.size := by omega
          have hbk := bt_eq s k hks
          by_cases g1 : 48 ≤ bt s k ∧ bt s k ≤ 57
          · have hb : isH (bt s k) = true := by unfold isH; simp; omega
            have hn16 := numH_lt HI.out
            have hp : 16 ^ k ≤ 16 ^ 15 := Nat.pow_le_pow_right (by omega) (by omega)
            obtain ⟨d, hd⟩ : ∃ d, bt s k = d + 48 := ⟨bt s k - 48, by omega⟩
            have HS := Lib.hid (num_step2 (x := numH (bt s) k) (d := d) (by have h15 : (16 : Nat) ^ 15 = 1152921504606846976 := (by decide); omega) (by omega))
            have HA := Lib.hid (allH_step HI.out hb)
            have HN := Lib.hid (show numH (bt s) (k + 1) = 16 * numH (bt s) k + d by show 16 * numH (bt s) k + hv (bt s k) = _; unfold hv; rw [if_pos (by omega)]; omega)
            have i1 : 48 ≤ (s[k].toNat : Int) := by omega
            have i2 : (s[k].toNat : Int) ≤ 57 := by omega
            have i3 : (s[k].toNat : Int) - 48 = (d : Int) := by omega
            have i4 : (d : Int) ≤ 9 := by omega
            clear hbk hb hn16 hp hd g1
            go_wp2_with fail
            go_round
            case rel => exact ⟨k + 1, by omega, by rw [HN.out, ← HS.out], by go_num, HA⟩
            case measure => simp [intOf] <;> omega
          · by_cases g2 : 97 ≤ bt s k ∧ bt s k ≤ 102
            · have hb : isH (bt s k) = true := by unfold isH; simp; omega
              have hn16 := numH_lt HI.out
              have hp : 16 ^ k ≤ 16 ^ 15 := Nat.pow_le_pow_right (by omega) (by omega)
              obtain ⟨d, hd⟩ : ∃ d, bt s k = d + 97 := ⟨bt s k - 97, by omega⟩
              have HS := Lib.hid (num_step2 (x := numH (bt s) k) (d := d + 10) (by have h15 : (16 : Nat) ^ 15 = 1152921504606846976 := (by decide); omega) (by omega))
              have HA := Lib.hid (allH_step HI.out hb)
              have HN := Lib.hid (show numH (bt s) (k + 1) = 16 * numH (bt s) k + (d + 10) by show 16 * numH (bt s) k + hv (bt s k) = _; unfold hv; rw [if_neg (by omega)]; omega)
              have i1 : 48 ≤ (s[k].toNat : Int) := by omega
              have i2 : ¬ (s[k].toNat : Int) ≤ 57 := by omega
              have i5 : 97 ≤ (s[k].toNat : Int) := by omega
              have i6 : (s[k].toNat : Int) ≤ 102 := by omega
              have i3 : (s[k].toNat : Int) - 97 = (d : Int) := by omega
              have i4 : (d : Int) ≤ 5 := by omega
              clear hbk hb hn16 hp hd g1 g2
              go_wp2_with fail
              go_round
              case rel => exact ⟨k + 1, by omega, by rw [HN.out, ← HS.out, Int.natCast_add]; rfl, by go_num, HA⟩
              case measure => simp [intOf] <;> omega
            · have hb : isH (bt s k) = false := by unfold isH; simp; omega
              have HE := Lib.hid (HNO.out k hlt hb)
              have i1 : ¬ 48 ≤ (s[k].toNat : Int) ∨ (48 ≤ (s[k].toNat : Int) ∧ ¬ (s[k].toNat : Int) ≤ 57 ∧ (¬ 97 ≤ (s[k].toNat : Int) ∨ (97 ≤ (s[k].toNat : Int) ∧ ¬ (s[k].toNat : Int) ≤ 102))) := by omega
              clear hbk hb g1 g2
              rcases i1 with i1 | ⟨i1, i2, i3 | ⟨i3, i4⟩⟩
              · have i5 : ¬ 97 ≤ (s[k].toNat : Int) := by omega
                go_wp2_with fail
                go_ret2
                exact ⟨ret_un HE.out, rfl⟩
              · go_wp2_with fail
                go_ret2
                exact ⟨ret_un HE.out, rfl⟩
              · go_wp2_with fail
                go_ret2
                exact ⟨ret_un HE.out, rfl⟩
        · obtain rfl : k = 16 := by omega
          go_wp2_with fail
          go_ret2
          exact ⟨ret_un (by rw [(HYES.out HI.out).1, (HYES.out HI.out).2]), rfl⟩
end Go.Proofs.Ytiffnnjegfghoaa
