/- Plain facts: Number and Hex, Open and Seal invert each other. -/
import Derived.Test.YtiffnnjegfghoaaAwake
set_option linter.unusedVariables false
set_option linter.unusedSimpArgs false
namespace Go.Proofs.Ytiffnnjegfghoaa
open Go.ChangeShapes Go.WideShapes Go.ChangeAt Go.RowKit Cm

theorem bs_list (l : List UInt8) : (bs l).data.toList = l := rfl
theorem bs_eq {l : List UInt8} {s : ByteArray} (h : l = s.data.toList) : bs l = s := bytes_inj h
theorem isH_hx : ∀ d, d < 16 → isH (hx d).toNat = true ∧ hv (hx d).toNat = d := by decide +kernel
theorem hx_hv : ∀ c, c < 256 → isH c = true → hv c < 16 ∧ hx (hv c) = UInt8.ofNat c := by decide +kernel
theorem bt_hexL (n j : Nat) (h : j < 16) : bt (bs (hexL n 16)) j = (hx (n / 16 ^ (15 - j) % 16)).toNat := by
  rw [bt_bs, List.getD_eq_getElem?_getD, hexL_at n 16 j h]; rfl
theorem num_hex (n : Nat) (hn : n < 18446744073709551616) : allH (bt (bs (hexL n 16))) 16 = true ∧ numH (bt (bs (hexL n 16))) 16 = n := by
  have h : ∀ k, k ≤ 16 → allH (bt (bs (hexL n 16))) k = true ∧ numH (bt (bs (hexL n 16))) k = n / 16 ^ (16 - k) := by
    intro k
    induction k with
    | zero => intro _; exact ⟨rfl, by rw [show (16 : Nat) ^ (16 - 0) = 18446744073709551616 by decide]; exact (Nat.div_eq_of_lt hn).symm⟩
    | succ k ih =>
      intro hk
      obtain ⟨i1, i2⟩ := ih (by omega)
      have e := bt_hexL n k (by omega)
      obtain ⟨q, hq⟩ : ∃ q, n / 16 ^ (15 - k) = q := ⟨_, rfl⟩
      obtain ⟨d1, d2⟩ := isH_hx (q % 16) (Nat.mod_lt _ (by omega))
      rw [hq] at e
      refine ⟨allH_step i1 (by rw [e]; exact d1), ?_⟩
      show 16 * numH (bt (bs (hexL n 16))) k + hv (bt (bs (hexL n 16)) k) = _
      rw [i2, e, d2, show 16 - (k + 1) = 15 - k by omega, hq, show 16 - k = (15 - k) + 1 by omega, Nat.pow_succ, ← Nat.div_div_eq_div_mul, hq]
      omega
  have := h 16 (by omega)
  simpa using this
theorem Number_hex (n : Nat) (hn : n < 18446744073709551616) (w : World) : Calls Try.prog 19 #[.string (bs (hexL n 16))] w fun e w' => e = .returned (.tuple #[.int .u64 n, .int .i64 0]) ∧ Q w w' := by
  have hs : (bs (hexL n 16)).size = 16 := by rw [size_bs, hexL_len]
  obtain ⟨h1, h2⟩ := num_hex n hn
  have e : nE (bs (hexL n 16)) = 0 := by unfold nE; rw [hs, h1]; rfl
  refine (Number_c _ w (by rw [hs]; decide)).mono fun _ _ ⟨a, b⟩ => ⟨?_, b⟩
  rw [a, e]; unfold nV; rw [if_pos e, h2]
theorem numH_div {f : Nat → Nat} {n : Nat} (h : allH f n = true) : ∀ d, d ≤ n → numH f n / 16 ^ d = numH f (n - d) := by
  intro d
  induction d with
  | zero => intro _; simp
  | succ d ih =>
    intro hd
    rw [Nat.pow_succ, ← Nat.div_div_eq_div_mul, ih (by omega)]
    obtain ⟨m, hm⟩ : ∃ m, n - d = m + 1 := ⟨n - d - 1, by omega⟩
    have := hv_lt (allH_at h m (by omega))
    rw [hm, show n - (d + 1) = m by omega]
    show (16 * numH f m + hv (f m)) / 16 = numH f m
    omega
theorem hex_num {s : ByteArray} (h16 : s.size = 16) (h : allH (bt s) 16 = true) : bs (hexL (numH (bt s) 16) 16) = s := by
  apply bs_eq
  apply List.ext_getElem?
  intro j
  by_cases hj : j < 16
  · have hl : j < s.data.toList.length := by rw [Array.length_toList]; show j < s.size; omega
    have hb := allH_at h j hj
    rw [hexL_at _ _ _ hj, List.getElem?_eq_getElem hl]
    unfold hexAt
    rw [show 16 - 1 - j = 15 - j by omega, numH_div h (15 - j) (by omega), show 16 - (15 - j) = j + 1 by omega, show numH (bt s) (j + 1) = 16 * numH (bt s) j + hv (bt s j) from rfl]
    obtain ⟨g1, g2⟩ := hx_hv (bt s j) (bt_bd s j) hb
    rw [show (16 * numH (bt s) j + hv (bt s j)) % 16 = hv (bt s j) by omega, g2]
    unfold bt
    rw [List.getD_eq_getElem?_getD, List.getElem?_eq_getElem hl]
    simp
  · rw [List.getElem?_eq_none (by rw [hexL_len]; omega), List.getElem?_eq_none (by rw [Array.length_toList]; show s.size ≤ j; omega)]
/-- either what was read, or nothing -/
def NumPost (s : ByteArray) (w : World) (e : Ending) (w' : World) : Prop :=
  (∃ k : Nat, k < 18446744073709551616 ∧ bs (hexL k 16) = s ∧ e = .returned (.tuple #[.int .u64 k, .int .i64 0]) ∧ Q w w') ∨ (∃ x : Int, x ≠ 0 ∧ e = .returned (.tuple #[.int .u64 0, .int .i64 x]) ∧ Q w w')
theorem nE_zero {s : ByteArray} (h : nE s = 0) : s.size = 16 ∧ allH (bt s) 16 = true := by
  unfold nE at h
  split at h
  · omega
  · split at h
    · omega
    · split at h
      · rename_i g; exact ⟨by omega, g⟩
      · omega
theorem Number_ok (s : ByteArray) (hs : s.size ≤ maxLen) (h : nE s = 0) : ∃ k : Nat, k < 18446744073709551616 ∧ bs (hexL k 16) = s ∧ ∀ w, Calls Try.prog 19 #[.string s] w fun e w' => e = .returned (.tuple #[.int .u64 k, .int .i64 0]) ∧ Q w w' := by
  obtain ⟨h1, h2⟩ := nE_zero h
  have hv := numH_lt h2
  refine ⟨numH (bt s) 16, by rw [show (18446744073709551616 : Nat) = 16 ^ 16 by decide]; exact hv, hex_num h1 h2, fun w => (Number_c s w hs).mono fun _ _ ⟨a, b⟩ => ⟨?_, b⟩⟩
  rw [a, h]; unfold nV; rw [if_pos h]
theorem Number_no (s : ByteArray) (hs : s.size ≤ maxLen) (h : nE s ≠ 0) (w : World) : Calls Try.prog 19 #[.string s] w fun e w' => e = .returned (.tuple #[.int .u64 0, .int .i64 (nE s)]) ∧ Q w w' :=
  (Number_c s w hs).mono fun _ _ ⟨a, b⟩ => ⟨by rw [a]; unfold nV; rw [if_neg h]; rfl, b⟩
theorem sealed (s : ByteArray) : bodyS (s ++ bs (ckL s)) = s ∧ opn (s ++ bs (ckL s)) = true ∧ ¬ (s ++ bs (ckL s)).size < 8 := by
  have hz : (s ++ bs (ckL s)).size = s.size + 8 := by rw [ByteArray.size_append, size_bs, ckL_len]
  have hl : s.data.toList.length = s.size := by rw [Array.length_toList]; rfl
  have hb : bodyS (s ++ bs (ckL s)) = s := by
    apply bytes_inj
    unfold bodyS
    rw [ext_list, app_list, hz, Nat.add_sub_cancel, List.drop_zero, List.take_left' hl]
  have ht : (tailS (s ++ bs (ckL s))).data.toList = ckL s := by
    unfold tailS
    rw [ext_list, app_list, hz, Nat.add_sub_cancel, bs_list, List.take_of_length_le (by rw [List.length_append, hl, ckL_len]; omega), List.drop_left' hl]
  refine ⟨hb, ?_, by omega⟩
  unfold opn; rw [tl, tl, hb, ht, bs_list]; simp
theorem Open_seal (s : ByteArray) (hs : s.size ≤ 1000) (w : World) : Calls Try.prog 23 #[.string (s ++ bs (ckL s))] w fun e w' => e = .returned (.tuple #[.string s, .int .i64 0]) ∧ Q w w' := by
  obtain ⟨h1, h2, h3⟩ := sealed s
  refine (Open_c _ w (by rw [ByteArray.size_append, size_bs, ckL_len]; omega)).mono fun _ _ ⟨a, b⟩ => ⟨?_, b⟩
  rw [a, opS_yes h3 h2, opE_yes h3 h2, h1]
theorem opE_zero {s : ByteArray} (h : opE s = 0) : ¬ s.size < 8 ∧ opn s = true := by
  unfold opE at h
  split at h
  · omega
  · split at h
    · rename_i g g2; exact ⟨g, g2⟩
    · omega
theorem opS_seal {s : ByteArray} (h : opE s = 0) : opS s ++ bs (ckL (opS s)) = s := by
  obtain ⟨h1, h2⟩ := opE_zero h
  rw [opS_yes h1 h2]
  have := ropn s (by omega)
  rw [h2, tl, tl, beq_iff_eq] at this
  exact bytes_inj this
theorem opS_none {s : ByteArray} (h : opE s ≠ 0) : opS s = ByteArray.empty := by
  unfold opS
  unfold opE at h
  split
  · rfl
  · rename_i g
    rw [if_neg g] at h
    split
    · rename_i g2; rw [if_pos g2] at h; exact absurd rfl h
    · rfl
theorem opS_len {s : ByteArray} : (opS s).size ≤ s.size := by
  unfold opS
  split
  · simp
  · split
    · unfold bodyS; rw [ByteArray.size_extract]; omega
    · simp
end Go.Proofs.Ytiffnnjegfghoaa
