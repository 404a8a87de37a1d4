/- The bytes of a string as a row of the call's own, changed and read back: plain facts. -/
import Derived.Test.YtiffnnjegfghoaaAwake
set_option linter.unusedVariables false
set_option linter.unusedSimpArgs false
namespace Go.Proofs.Ytiffnnjegfghoaa
open Go.ChangeShapes Go.WideShapes Go.ChangeAt Go.RowKit Cm

/-- byte j of a string -/
def bu (s : ByteArray) (j : Nat) : UInt8 := s.data.toList.getD j 0
theorem bt_bu (s : ByteArray) (j : Nat) : bt s j = (bu s j).toNat := rfl
theorem to_bytes (s : ByteArray) (W : World) : ∃ (cap : Nat) (W2 : World), (convert 9 37 (.string s)).run Try.prog W = .ok (.slice (some ⟨W.heap.size, 0, none⟩) s.size cap) W2 ∧
    Byt W2 W.heap.size s.size (bu s) ∧ Q W W2 ∧ W.heap.size < W2.heap.size := by
  have h := run_bytes_of_string (P := Try.prog) W 9 37 5 s Try.underlying9 Try.underlying37 Try.underlying5
  refine ⟨_, _, h, fun j hj => ⟨?_, ?_⟩, ?_, ?_⟩
  · have := World.cell?_alloc_mark W.drew (bytesRow s (grownCap W s.size 0 5)) 5 ((bytesRow s (grownCap W s.size 0 5)).size, (bytesRow s (grownCap W s.size 0 5)).size + 1) j
    refine this.trans ?_
    rw [bytesRow_at s _ j hj]
    unfold bu bv
    have h2 : j < s.data.toList.length := by simpa using hj
    rw [List.getD_eq_getElem?_getD, List.getElem?_eq_getElem h2]
    rfl
  · have := World.frozen?_alloc_mark W.drew (bytesRow s (grownCap W s.size 0 5)) 5 (bytesRow s (grownCap W s.size 0 5)).size ((bytesRow s (grownCap W s.size 0 5)).size + 1) j
    refine this.trans ?_
    have hsz : s.size ≤ (bytesRow s (grownCap W s.size 0 5)).size := by
      unfold bytesRow; rw [Array.size_append, Array.size_map]; exact Nat.le_add_right _ _
    rw [decide_eq_false (by omega)]; rfl
  · exact (Q.refl W).drew.alloc _
  · show W.heap.size < (W.heap.push _).size
    simp
/-- a string of n bytes given by their places -/
def mk (n : Nat) (f : Nat → UInt8) : ByteArray := bs ((List.range n).map f)
theorem mk_size (n : Nat) (f : Nat → UInt8) : (mk n f).size = n := by unfold mk; rw [size_bs]; simp
theorem mk_bt (n : Nat) (f : Nat → UInt8) (j : Nat) (h : j < n) : bt (mk n f) j = (f j).toNat := by
  unfold mk; rw [bt_bs, List.getD_eq_getElem?_getD]; simp [h]
theorem mk_self (s : ByteArray) : mk s.size (bu s) = s := by
  apply bytes_inj
  show (List.range s.size).map (bu s) = s.data.toList
  apply List.ext_getElem?
  intro j
  by_cases h : j < s.size
  · have h2 : j < s.data.toList.length := by simpa using h
    rw [List.getElem?_map, List.getElem?_range h, List.getElem?_eq_getElem h2]
    show some (bu s j) = _
    unfold bu; rw [List.getD_eq_getElem?_getD, List.getElem?_eq_getElem h2]; rfl
  · rw [List.getElem?_eq_none (by simp; omega), List.getElem?_eq_none (by simp; exact Nat.le_of_not_lt h)]
theorem mk_congr {n : Nat} {f g : Nat → UInt8} (h : ∀ j, j < n → f j = g j) : mk n f = mk n g := by
  unfold mk
  rw [List.map_congr_left fun j hj => h j (List.mem_range.1 hj)]
theorem from_bytes {W : World} {b n : Nat} {f : Nat → UInt8} (hB : Byt W b n f) (cap : Nat) :
    (convert 37 9 (.slice (some ⟨b, 0, none⟩) n cap)).run Try.prog W = .ok (.string (mk n f)) W := by
  have h := byt_str (l := (List.range n).map f) (W := W) (b := b) (f := f) (by simpa using hB) (fun j hj => by simp at hj; simp [hj]) cap
  simpa [mk] using h
theorem nat8 {a : Nat} (ha : a < 256) : (BitVec.ofInt 8 (a : Int)).toNat = a := by
  rw [BitVec.ofInt_natCast, BitVec.toNat_ofNat]; exact Nat.mod_eq_of_lt (by omega)
theorem wrap_u8 (n : Int) : IntKind.u8.wrap n = n % 256 := by simp [IntKind.wrap, IntKind.bits, IntKind.signed]
/-- the exclusive or of two bytes -/
theorem xor8 (a b : UInt8) : bits .xor .u8 (a.toNat : Int) (b.toNat : Int) = ((a ^^^ b).toNat : Int) := by
  have ha := a.toNat_lt
  have hb := b.toNat_lt
  have hx := xor_lt8 (a := a.toNat) (b := b.toNat) (by omega) (by omega)
  show IntKind.u8.wrap ((BitVec.ofInt 8 (a.toNat : Int) ^^^ BitVec.ofInt 8 (b.toNat : Int)).toNat : Int) = _
  rw [BitVec.toNat_xor, nat8 (by omega), nat8 (by omega), wrap_u8, UInt8.toNat_xor]
  omega
theorem u8_of {n : Int} (h : (Lit.int .u8 n).wf = true) : ∃ c : UInt8, n = (c.toNat : Int) := by
  have h2 : (decide (IntKind.min .u8 ≤ n) && decide (n ≤ IntKind.max .u8)) = true := h
  rw [Bool.and_eq_true, decide_eq_true_eq, decide_eq_true_eq, show IntKind.min .u8 = 0 by decide, show IntKind.max .u8 = 255 by decide] at h2
  refine ⟨UInt8.ofNat n.toNat, ?_⟩
  rw [UInt8.toNat_ofNat']; omega
theorem xor_ne {a b : UInt8} (h : b ≠ 0) : a ^^^ b ≠ a := by
  intro g
  have := congrArg (a ^^^ ·) g
  simp only [← UInt8.xor_assoc, UInt8.xor_self, UInt8.zero_xor] at this
  exact h this
theorem u8_zero (x : UInt8) : ((x.toNat : Int) == 0) = decide (x = 0) := by
  by_cases h : x = 0
  · subst h; rfl
  · rw [decide_eq_false h, beq_eq_false_iff_ne]
    intro g; apply h; apply UInt8.toNat_inj.1; show x.toNat = 0; omega
end Go.Proofs.Ytiffnnjegfghoaa
