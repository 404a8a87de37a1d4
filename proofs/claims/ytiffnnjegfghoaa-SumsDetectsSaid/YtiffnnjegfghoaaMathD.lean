/- Plain facts: what Open says of a sealed string some of whose bytes were changed. -/
import Derived.Test.YtiffnnjegfghoaaBytesB
set_option linter.unusedVariables false
set_option linter.unusedSimpArgs false
namespace Go.Proofs.Ytiffnnjegfghoaa
open Go.ChangeShapes Go.WideShapes Go.ChangeAt Go.RowKit Cm

theorem dig_inj : ∀ (c a b : Nat), a < 16 ^ c → b < 16 ^ c → (∀ i, i < c → a / 16 ^ i % 16 = b / 16 ^ i % 16) → a = b := by
  intro c
  induction c with
  | zero => intro a b ha hb _; simp at ha hb; omega
  | succ c ih =>
    intro a b ha hb h
    rw [Nat.pow_succ] at ha hb
    have h0 := h 0 (by omega)
    simp at h0
    have := ih (a / 16) (b / 16) (by omega) (by omega) (fun i hi => by
      have := h (i + 1) (by omega)
      rw [Nat.pow_succ, Nat.mul_comm, ← Nat.div_div_eq_div_mul, ← Nat.div_div_eq_div_mul] at this
      exact this)
    omega
theorem hx_inj : ∀ d, d < 16 → ∀ e, e < 16 → hx d = hx e → d = e := by decide +kernel
theorem hex_inj {a b : Nat} (ha : a < 4294967296) (hb : b < 4294967296) (h : ∀ j, j < 8 → hexAt a 8 j = hexAt b 8 j) : a = b :=
  dig_inj 8 a b (by rw [show (16 : Nat) ^ 8 = 4294967296 by decide]; exact ha) (by rw [show (16 : Nat) ^ 8 = 4294967296 by decide]; exact hb) fun i hi => by
    have := h (7 - i) (by omega)
    unfold hexAt at this
    rw [show 8 - 1 - (7 - i) = i by omega] at this
    exact hx_inj _ (Nat.mod_lt _ (by omega)) _ (Nat.mod_lt _ (by omega)) this
theorem mk_list (n : Nat) (f : Nat → UInt8) : (mk n f).data.toList = (List.range n).map f := rfl
theorem body_mk (n : Nat) (f : Nat → UInt8) : bodyS (mk (n + 8) f) = mk n f := by
  apply bytes_inj
  unfold bodyS
  rw [ext_list, mk_size, Nat.add_sub_cancel, List.drop_zero, mk_list, mk_list, ← List.map_take, List.take_range, Nat.min_eq_left (by omega)]
theorem tail_mk (n : Nat) (f : Nat → UInt8) : (tailS (mk (n + 8) f)).data.toList = (List.range 8).map fun j => f (n + j) := by
  unfold tailS
  rw [ext_list, mk_size, Nat.add_sub_cancel, mk_list, List.take_of_length_le (by simp)]
  apply List.ext_getElem?
  intro j
  by_cases h : j < 8
  · simp [List.getElem?_drop, h]
  · rw [List.getElem?_eq_none (by simp; omega), List.getElem?_eq_none (by simp; omega)]
theorem opn_mk (n : Nat) (f : Nat → UInt8) : opn (mk (n + 8) f) = true ↔ ∀ j, j < 8 → f (n + j) = hexAt (crcS (bt (mk n f)) n) 8 j := by
  unfold opn
  rw [tl, tl, beq_iff_eq, tail_mk, show (bs (ckL (bodyS (mk (n + 8) f)))).data.toList = ckL (bodyS (mk (n + 8) f)) from rfl, body_mk]
  unfold ckL
  rw [mk_size]
  unfold hexL
  constructor
  · intro h j hj
    have := congrArg (·[j]?) h
    simpa [hj] using this
  · intro h
    exact List.map_congr_left fun j hj => h j (List.mem_range.1 hj)
/-- a sealed string, byte by byte -/
theorem seal_bytes (s : ByteArray) : s ++ bs (ckL s) = mk (s.size + 8) (bu (s ++ bs (ckL s))) ∧ (∀ j, j < s.size → bu (s ++ bs (ckL s)) j = bu s j) ∧ ∀ j, j < 8 → bu (s ++ bs (ckL s)) (s.size + j) = hexAt (crcS (bt s) s.size) 8 j := by
  have hz : (s ++ bs (ckL s)).size = s.size + 8 := by rw [ByteArray.size_append, size_bs, ckL_len]
  have hl : s.data.toList.length = s.size := by rw [Array.length_toList]; rfl
  refine ⟨?_, fun j hj => ?_, fun j hj => ?_⟩
  · have := mk_self (s ++ bs (ckL s))
    rw [hz] at this; exact this.symm
  · unfold bu; rw [app_list, List.getD_eq_getElem?_getD, List.getD_eq_getElem?_getD, List.getElem?_append_left (by omega)]
  · unfold bu; rw [app_list, List.getD_eq_getElem?_getD, List.getElem?_append_right (by omega), hl, Nat.add_sub_cancel_left]
    show ((ckL s)[j]?).getD 0 = _
    unfold ckL; rw [hexL_at _ _ _ hj]; rfl
theorem bt_mk_lt (n : Nat) (f : Nat → UInt8) (j : Nat) : bt (mk n f) j < 256 := bt_bd _ _
/-- the row behind k changes from place a on -/
def chr (f x : Nat → UInt8) (a k j : Nat) : UInt8 := if a ≤ j ∧ j < a + k then f j ^^^ x (j - a) else f j
def chg (x : Nat → UInt8) : Nat → Bool
  | 0 => false
  | k + 1 => chg x k || (((x k).toNat : Int) != 0)
theorem nz_of {y : UInt8} : (((y).toNat : Int) != 0) = decide (y ≠ 0) := by
  have := u8_zero y
  unfold bne; rw [this]; by_cases h : y = 0 <;> simp [h]
theorem chg_true {x : Nat → UInt8} {k : Nat} (h : chg x k = true) : ∃ i, i < k ∧ x i ≠ 0 := by
  induction k with
  | zero => cases h
  | succ k ih =>
    unfold chg at h
    rcases Bool.or_eq_true _ _ |>.mp h with g | g
    · obtain ⟨i, hi, h2⟩ := ih g; exact ⟨i, by omega, h2⟩
    · rw [nz_of] at g; exact ⟨k, by omega, of_decide_eq_true g⟩
theorem chg_false {x : Nat → UInt8} {k : Nat} (h : chg x k = false) : ∀ i, i < k → x i = 0 := by
  induction k with
  | zero => intro i hi; omega
  | succ k ih =>
    unfold chg at h
    rw [Bool.or_eq_false_iff] at h
    obtain ⟨g1, g2⟩ := h
    rw [nz_of] at g2
    intro i hi
    by_cases e : i = k
    · subst e; have := of_decide_eq_false g2; simpa using this
    · exact ih g1 i (by omega)
theorem opE_of {s : ByteArray} (h : ¬ s.size < 8) : opE s = if opn s = true then 0 else 16 := by unfold opE; rw [if_neg h]
/-- changed bytes ahead of the seal are seen -/
theorem burst_seen (s : ByteArray) (x : Nat → UInt8) (a k : Nat) (hk : k ≤ 4) (ha : a + k ≤ s.size) : (opE (mk (s.size + 8) (chr (bu (s ++ bs (ckL s))) x a k)) == 16) = chg x k := by
  obtain ⟨_, F1, F2⟩ := seal_bytes s
  obtain ⟨f, hf⟩ : ∃ f, chr (bu (s ++ bs (ckL s))) x a k = f := ⟨_, rfl⟩
  obtain ⟨n, hn⟩ : ∃ n, s.size = n := ⟨_, rfl⟩
  rw [hf, opE_of (by rw [mk_size]; omega)]
  rw [hn] at F1 F2 ha ⊢
  have ftail : ∀ j, j < 8 → f (n + j) = hexAt (crcS (bt s) n) 8 j := fun j hj => by
    rw [← hf, ← F2 j hj]; unfold chr; rw [if_neg (by omega)]
  have fbody : ∀ j, j < n → bt (mk n f) j = (if a ≤ j ∧ j < a + k then bu s j ^^^ x (j - a) else bu s j).toNat := fun j hj => by
    rw [mk_bt _ _ _ hj, ← hf]; unfold chr; rw [F1 j hj]
  cases hc : chg x k with
  | false =>
    have hz := chg_false hc
    have : opn (mk (n + 8) f) = true := by
      rw [opn_mk]
      intro j hj
      rw [ftail j hj]
      congr 1
      refine crc_same fun i hi => ?_
      rw [fbody i hi, bt_bu]
      split
      · rw [hz (i - a) (by omega), UInt8.xor_zero]
      · rfl
    rw [if_pos this]; rfl
  | true =>
    obtain ⟨i, hi, hxi⟩ := chg_true hc
    have : ¬ opn (mk (n + 8) f) = true := by
      rw [opn_mk]
      intro h
      have e := hex_inj (crcS_lt (bt_bd s) n) (crcS_lt (bt_bd (mk n f)) n) (fun j hj => (ftail j hj).symm.trans (h j hj))
      refine crc_burst (bt_bd s) (bt_bd (mk n f)) (a := a) (j := k) (i := i) hk ha (fun m hm => ?_) (fun m hm hm2 => ?_) hi ?_ e
      · rw [fbody m (by omega), if_neg (by omega), bt_bu]
      · rw [fbody m (by omega), if_neg (by omega), bt_bu]
      · rw [fbody (a + i) (by omega), if_pos ⟨by omega, by omega⟩, Nat.add_sub_cancel_left, bt_bu]
        intro g; exact xor_ne hxi (UInt8.toNat_inj.1 g.symm)
    rw [if_neg this]; rfl
/-- a changed byte of the seal is seen -/
theorem tail_seen (s : ByteArray) (y : UInt8) (m : Nat) (hm : m < 8) : (opE (mk (s.size + 8) (fun j => if j = s.size + m then bu (s ++ bs (ckL s)) j ^^^ y else bu (s ++ bs (ckL s)) j)) == 16) = ((y.toNat : Int) != 0) := by
  obtain ⟨_, F1, F2⟩ := seal_bytes s
  obtain ⟨n, hn⟩ : ∃ n, s.size = n := ⟨_, rfl⟩
  obtain ⟨g, hg⟩ : ∃ g, bu (s ++ bs (ckL s)) = g := ⟨_, rfl⟩
  rw [opE_of (by rw [mk_size]; omega), nz_of]
  rw [hn, hg] at F1 F2 ⊢
  have e : crcS (bt (mk n fun j => if j = n + m then g j ^^^ y else g j)) n = crcS (bt s) n := crc_same fun i hi => by
    rw [mk_bt _ _ _ hi, if_neg (by omega), F1 i hi]; rfl
  by_cases h : y = 0
  · have : opn (mk (n + 8) (fun j => if j = n + m then g j ^^^ y else g j)) = true := by
      rw [opn_mk]
      intro j hj
      rw [e, ← F2 j hj]
      show (if n + j = n + m then _ else _) = _
      rw [h, UInt8.xor_zero]; split <;> rfl
    rw [if_pos this]; subst h; rfl
  · have : ¬ opn (mk (n + 8) (fun j => if j = n + m then g j ^^^ y else g j)) = true := by
      rw [opn_mk]
      intro h2
      have := h2 m hm
      rw [e, ← F2 m hm, if_pos rfl] at this
      exact xor_ne h this
    rw [if_neg this, decide_eq_true h]; rfl
end Go.Proofs.Ytiffnnjegfghoaa
