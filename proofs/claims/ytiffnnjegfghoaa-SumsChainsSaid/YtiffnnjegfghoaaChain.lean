/- The contracts of Chain, of its reference, and of the two functions that spell a number in eight bytes. -/
import Derived.Test.YtiffnnjegfghoaaRefs
import Derived.Laws.NewBlocks
set_option linter.unusedVariables false
set_option linter.unusedSimpArgs false
namespace Go.Proofs.Ytiffnnjegfghoaa
open Go.ChangeShapes Go.WideShapes Go.ChangeAt Go.RowKit Cm

def byAt (p j : Nat) : UInt8 := UInt8.ofNat (p / 2 ^ (56 - 8 * j))
def P8 (p : Nat) : List UInt8 := (List.range 8).map (byAt p)
theorem P8_len (p : Nat) : (P8 p).length = 8 := by simp [P8]
theorem P8_at (p j : Nat) (h : j < 8) : (P8 p)[j]? = some (byAt p j) := by simp [P8, h]
theorem P8_take (p m : Nat) (h : m < 8) : (P8 p).take (m + 1) = (P8 p).take m ++ [byAt p m] := by
  have hl : m < (P8 p).length := by rw [P8_len]; exact h
  rw [List.take_succ_eq_append_getElem hl]
  have := P8_at p m h
  rw [List.getElem?_eq_getElem hl] at this
  rw [Option.some.inj this]
theorem byAt_v {p j y : Nat} (h : p / 2 ^ (56 - 8 * j) = y) : ((byAt p j).toNat : Int) = (y : Int) % 256 := by
  unfold byAt; rw [h, UInt8.toNat_ofNat']; omega

set_option maxRecDepth 100000 in
set_option maxHeartbeats 800000 in
theorem rBytes_c (p : Nat) (w : World) (hp : p < 18446744073709551616) :
    Calls Try.prog 28 #[.int .u64 p] w fun e w' => e = .returned (.string (bs (P8 p))) ∧ Q w w' := by
  obtain ⟨i0, hi, hz0, hz1, hz2⟩ := info_parts infoB
  clear hp
  go_enter Try.func28, Try.ntmps28
  go_wp2_with fail
  go_loopw [3, 4] (fun v i wr => ∃ m : Nat, m ≤ 8 ∧ i = .int .i64 m ∧ Hid (Own w.heap.size v ((P8 p).take m) wr ∧ Below w.heap.size w wr)) (fun _ i _ => 8 - (intOf i).toNat)
  case atStart => exact ⟨0, by omega, rfl, ⟨own_nil _ _, Below.refl _ _⟩⟩
  case round =>
    rename_i v i wr
    obtain ⟨m, hm, rfl, HI⟩ := hrel
    by_cases hlt : m < 8
    · have hm7 : (m : Int) ≤ 7 := by omega
      obtain ⟨y, hy⟩ : ∃ y : Nat, p / 2 ^ (56 - 8 * m) = y := ⟨_, rfl⟩
      have hsh : (p : Int) / 2 ^ (56 - 8 * m) = (y : Int) := by rw [← hy]; simp
      have hsh2 : (p : Int) / 2 ^ ((56 : Int) - 8 * (m : Int)).toNat = (y : Int) := by rw [show ((56 : Int) - 8 * (m : Int)).toNat = 56 - 8 * m by omega]; exact hsh
      have HY := Lib.hid (byAt_v hy)
      obtain ⟨l0, hl0⟩ : ∃ l0, (P8 p).take m = l0 := ⟨_, rfl⟩
      have HL := Lib.hid (show l0.length ≤ 1000 by rw [← hl0, List.length_take]; omega)
      obtain ⟨ow, bl⟩ := HI.out
      rw [hl0] at ow
      have OW := Lib.hid ow
      have hown := ow
      unfold Own at hown
      have BL := Lib.hid bl
      have BS := Lib.hid bl.size
      have RM := Lib.hid (room_of HL.out)
      have HT := Lib.hid (show (P8 p).take (m + 1) = l0 ++ [byAt p m] by rw [P8_take p m hlt, hl0])
      clear ow bl hy hl0
      go_wp2_with (first
        | (at_builtin; refine wpList_append_own _ rfl _ _ 37 rfl w.heap.size 5 i0 (.int .u8 0) 1 1 Try.underlying37 hi hz0 hz1 hz2 rfl (by decide) _ _ _ rfl (hown.alloc _) ⟨wr.heap.size, 0, none⟩ 1 1 [.int .u8 ((y : Int) % 256)] rfl rfl (one_at _ _ _) (one_cell _ _) RM.out.1 RM.out.2 (alloc_le BS.out _) ?_)
        | go_in)
      intro v' w1 hown' hgrow _
      have N := Lib.hid (own_next (c := byAt p m) OW.out BL.out BS.out (by unfold bv; rw [HY.out]; exact hown') hgrow)
      clear hown' hgrow hown
      go_wp2_with fail
      go_roundw
      case rel => exact ⟨m + 1, by omega, by go_num, by rw [HT.out]; exact N.out⟩
      case measure => simp [intOf] <;> omega
    · obtain rfl : m = 8 := by omega
      have hconv := own_str HI.out.1 (by rw [List.length_take, P8_len]; omega)
      rw [List.take_of_length_le (by rw [P8_len]; omega)] at hconv
      go_wp2_with fail
      go_ret
      exact ⟨rfl, HI.out.2⟩

set_option maxRecDepth 100000 in
set_option maxHeartbeats 800000 in
theorem bytesOf_c (p : Nat) (w : World) (hp : p < 18446744073709551616) :
    Calls Try.prog 27 #[.int .u64 p] w fun e w' => e = .returned (.string (bs (P8 p))) ∧ Q w w' := by
  obtain ⟨i0, hi, hz0, hz1, hz2⟩ := info_parts infoB
  clear hp
  go_enter Try.func27, Try.ntmps27
  go_wp2_with fail
  go_loopw [3, 4] (fun v i wr => ∃ m : Nat, m ≤ 8 ∧ i = .int .i64 m ∧ Hid (Own w.heap.size v ((P8 p).take m) wr ∧ Below w.heap.size w wr)) (fun _ i _ => 8 - (intOf i).toNat)
  case atStart => exact ⟨0, by omega, rfl, ⟨own_nil _ _, Below.refl _ _⟩⟩
  case round =>
    rename_i v i wr
    obtain ⟨m, hm, rfl, HI⟩ := hrel
    by_cases hlt : m < 8
    · have hm7 : (m : Int) ≤ 7 := by omega
      obtain ⟨y, hy⟩ : ∃ y : Nat, p / 2 ^ (56 - 8 * m) = y := ⟨_, rfl⟩
      have hsh : (p : Int) / 2 ^ (56 - 8 * m) = (y : Int) := by rw [← hy]; simp
      have hsh2 : (p : Int) / 2 ^ ((56 : Int) - 8 * (m : Int)).toNat = (y : Int) := by rw [show ((56 : Int) - 8 * (m : Int)).toNat = 56 - 8 * m by omega]; exact hsh
      have HY := Lib.hid (byAt_v hy)
      obtain ⟨l0, hl0⟩ : ∃ l0, (P8 p).take m = l0 := ⟨_, rfl⟩
      have HL := Lib.hid (show l0.length ≤ 1000 by rw [← hl0, List.length_take]; omega)
      obtain ⟨ow, bl⟩ := HI.out
      rw [hl0] at ow
      have OW := Lib.hid ow
      have hown := ow
      unfold Own at hown
      have BL := Lib.hid bl
      have BS := Lib.hid bl.size
      have RM := Lib.hid (room_of HL.out)
      have HT := Lib.hid (show (P8 p).take (m + 1) = l0 ++ [byAt p m] by rw [P8_take p m hlt, hl0])
      clear ow bl hy hl0
      go_wp2_with (first
        | (at_builtin; refine wpList_append_own _ rfl _ _ 37 rfl w.heap.size 5 i0 (.int .u8 0) 1 1 Try.underlying37 hi hz0 hz1 hz2 rfl (by decide) _ _ _ rfl (hown.alloc _) ⟨wr.heap.size, 0, none⟩ 1 1 [.int .u8 ((y : Int) % 256)] rfl rfl (one_at _ _ _) (one_cell _ _) RM.out.1 RM.out.2 (alloc_le BS.out _) ?_)
        | go_in)
      intro v' w1 hown' hgrow _
      have N := Lib.hid (own_next (c := byAt p m) OW.out BL.out BS.out (by unfold bv; rw [HY.out]; exact hown') hgrow)
      clear hown' hgrow hown
      go_wp2_with fail
      go_roundw
      case rel => exact ⟨m + 1, by omega, by go_num, by rw [HT.out]; exact N.out⟩
      case measure => simp [intOf] <;> omega
    · obtain rfl : m = 8 := by omega
      have hconv := own_str HI.out.1 (by rw [List.length_take, P8_len]; omega)
      rw [List.take_of_length_le (by rw [P8_len]; omega)] at hconv
      go_wp2_with fail
      go_ret
      exact ⟨rfl, HI.out.2⟩

theorem cat_size (p : Nat) (s : ByteArray) : (bs (P8 p) ++ s).size = 8 + s.size := by rw [ByteArray.size_append, size_bs, P8_len]
def toB (p : Nat) (m : Nat) (j : Nat) : UInt8 := if j < m then byAt p j else 0
set_option maxRecDepth 100000 in
set_option maxHeartbeats 800000 in
theorem Chain_c (p : Nat) (s : ByteArray) (w : World) (hp : p < 18446744073709551616) (hs : s.size ≤ 1100) :
    Calls Try.prog 17 #[.int .u64 p, .string s] w fun e w' => e = .returned (.int .u64 (fnv (bt (bs (P8 p) ++ s)) (8 + s.size) : Nat)) ∧ Q w w' := by
  clear hp
  have HS := Lib.hid hs
  clear hs
  go_enter Try.func17, Try.ntmps17
  go_wp2_with fail
  go_loopw [7] (fun i wr => ∃ m : Nat, m ≤ 8 ∧ i = .int .i64 m ∧ Hid (Byt wr w.heap.size 8 (toB p m) ∧ Q w wr)) (fun i _ => 8 - (intOf i).toNat)
  case atStart =>
    refine ⟨0, by omega, rfl, ⟨fun j hj => ?_, (Q.refl w).alloc _⟩⟩
    rcases (show j = 0 ∨ j = 1 ∨ j = 2 ∨ j = 3 ∨ j = 4 ∨ j = 5 ∨ j = 6 ∨ j = 7 by omega) with rfl | rfl | rfl | rfl | rfl | rfl | rfl | rfl <;> exact ⟨World.cell?_alloc_at _ _ _ _ rfl, World.frozen?_alloc_at _ _ _ _ rfl⟩
  case round =>
    rename_i i wr
    obtain ⟨m, hm, rfl, HI⟩ := hrel
    by_cases hlt : m < 8
    · have hm7 : (m : Int) ≤ 7 := by omega
      obtain ⟨y, hy⟩ : ∃ y : Nat, p / 2 ^ (56 - 8 * m) = y := ⟨_, rfl⟩
      have hsh : (p : Int) / 2 ^ (56 - 8 * m) = (y : Int) := by rw [← hy]; simp
      have hsh2 : (p : Int) / 2 ^ ((56 : Int) - 8 * (m : Int)).toNat = (y : Int) := by rw [show ((56 : Int) - 8 * (m : Int)).toNat = 56 - 8 * m by omega]; exact hsh
      have HY := Lib.hid (byAt_v hy)
      obtain ⟨hcell, hfr⟩ := HI.out.1 m hlt
      have HW := Lib.hid (show Byt (wr.setCell ⟨w.heap.size, m, none⟩ (bv (byAt p m))) w.heap.size 8 (toB p (m + 1)) ∧ Q w (wr.setCell ⟨w.heap.size, m, none⟩ (bv (byAt p m))) from
        ⟨fun j hj => by
          have h1 := byt_set HI.out.1 hlt (byAt p m) j hj
          refine ⟨h1.1.trans (congrArg (fun z => some (bv z)) ?_), h1.2⟩
          show (if j = m then byAt p m else toB p m j) = toB p (m + 1) j
          unfold toB
          by_cases g : j = m
          · subst g
            rw [if_pos rfl, if_pos (by omega)]
          · rw [if_neg g]
            by_cases g2 : j < m
            · rw [if_pos g2, if_pos (by omega)]
            · rw [if_neg g2, if_neg (by omega)], Below.setCell HI.out.2 (Nat.le_refl _) _⟩)
      clear hy
      go_wp2_with fail
      go_roundw
      case rel => exact ⟨m + 1, by omega, by go_num, by have h := HW.out; unfold bv at h; rw [HY.out] at h; exact h⟩
      case measure => simp [intOf] <;> omega
    · obtain rfl : m = 8 := by omega
      have hconv := byt_str (l := P8 p) (W := wr) (b := w.heap.size) (f := toB p 8) (by rw [P8_len]; exact HI.out.1) (fun j hj => by rw [P8_len] at hj; rw [P8_at p j hj]; unfold toB; rw [if_pos hj]) 8
      rw [P8_len] at hconv
      have h1 : (bs (P8 p)).size ≤ 8 := by rw [size_bs, P8_len]; omega
      have h2 : s.size ≤ 1100 := HS.out
      go_wp2_with fail
      refine (Hash_c (bs (P8 p) ++ s) _ (by rw [cat_size]; have := HS.out; unfold maxLen; omega)).mono ?_
      rintro e w' ⟨rfl, rfl⟩
      rw [cat_size]
      go_wp2_with fail
      go_ret
      exact ⟨rfl, HI.out.2⟩
set_option maxHeartbeats 800000 in
theorem rChain_c (p : Nat) (s : ByteArray) (w : World) (hp : p < 18446744073709551616) (hs : s.size ≤ 1100) :
    Calls Try.prog 18 #[.int .u64 p, .string s] w fun e w' => e = .returned (.int .u64 (fnv (bt (bs (P8 p) ++ s)) (8 + s.size) : Nat)) ∧ Q w w' := by
  have HP := Lib.hid hp
  have HS := Lib.hid hs
  clear hp hs
  go_enter Try.func18, Try.ntmps18
  go_wp2_with fail
  refine (rBytes_c p _ HP.out).mono ?_; rintro e w1 ⟨rfl, hq1⟩
  have h1 : (bs (P8 p)).size ≤ 8 := by rw [size_bs, P8_len]; omega
  have h2 : s.size ≤ 1100 := HS.out
  go_wp2_with fail
  refine (rHash_c (bs (P8 p) ++ s) _ (by rw [cat_size]; have := HS.out; unfold maxLen; omega)).mono ?_
  rintro e w' ⟨rfl, rfl⟩
  rw [cat_size]
  go_wp2_with fail
  go_ret
  exact ⟨rfl, hq1⟩
end Go.Proofs.Ytiffnnjegfghoaa
