/- The contracts of the reference's digits and Bytes and of the law's bytesOf: rows of bytes that grow by append. -/
import Derived.Test.YtiffnnjegfghoaaBytes
set_option linter.unusedVariables false
set_option linter.unusedSimpArgs false
namespace Go.Proofs.Ytiffnnjegfghoaa
open Go.ChangeShapes Go.WideShapes Go.ChangeAt Go.RowKit Cm

/-- a row of bytes of the call's own -/
def Own (B : Nat) (v : Value) (l : List UInt8) (w : World) : Prop := w.ownsRow B 5 1 v l.length (l.map bv)
theorem own_nil (B : Nat) (w : World) : Own B (.slice none 0 0) [] w := World.ownsRow_nil _ _ _ _
/-- what an append leaves -/
theorem own_next {B : Nat} {w0 w w1 : World} {v v' : Value} {l : List UInt8} {c : UInt8} {o : Obj} (h : Own B v l w) (hb : Below B w0 w) (hB : B ≤ w.heap.size)
    (h' : w1.ownsRow B 5 1 v' (l.length + 1) (l.map bv ++ [bv c])) (hg : (w.alloc o).grownBy w1 v.ownBlock) : Own B v' (l ++ [c]) w1 ∧ Below B w0 w1 :=
  ⟨by unfold Own; rw [List.length_append, List.map_append]; exact h', (hb.alloc hB o).grown hg (by simp; omega) (fun j hj => (h.lt j hj).1)⟩
theorem one_at (w : World) (c : Value) (t : TypeId) : ∀ j u, ([c] : List Value)[j]? = some u → (w.alloc (.cells #[c] t)).cell? ((⟨w.heap.size, 0, none⟩ : Addr).add j) = some u := by
  intro j u hj
  match j, hj with
  | 0, hj => simp at hj; subst hj; simp [Addr.add]
theorem one_cell (k : IntKind) (z : Int) : ∀ u ∈ ([.int k z] : List Value), u.oneCell' = true := by
  intro u hu; simp at hu; subst hu; rfl
theorem alloc_le {B : Nat} {w : World} (h : B ≤ w.heap.size) (o : Obj) : B ≤ (w.alloc o).heap.size := by simp; omega
/-- room for one more -/
def Room (n : Nat) : Prop := n + 1 ≤ maxLen ∧ (n + 1) * 1 ≤ 140737488355328
theorem room_of {n : Nat} (h : n ≤ 1000) : Room n := by unfold Room maxLen; omega
theorem own_row {B : Nat} {v : Value} {l : List UInt8} {w : World} (h : Own B v l w) (h0 : 0 < l.length) :
    ∃ g cap, v = .slice (some ⟨g, 0, none⟩) l.length cap ∧ B ≤ g ∧ g < w.heap.size ∧ ∀ j c, l[j]? = some c → w.cell? ⟨g, j, none⟩ = some (bv c) := by
  have h2 := h
  obtain ⟨_, ⟨_, h3⟩ | ⟨g, cap, cur, rfl, hb, hg, _⟩⟩ := h
  · omega
  · refine ⟨g, cap, rfl, hb, ?_, fun j c hj => ?_⟩
    · rcases Nat.lt_or_ge g w.heap.size with k | k
      · exact k
      · rw [Array.getElem?_eq_none k] at hg; cases hg
    · have hl : j < l.length := by
        rcases Nat.lt_or_ge j l.length with k | k
        · exact k
        · rw [List.getElem?_eq_none k] at hj; cases hj
      rw [World.ownsRow.cellAt h2 j (by omega), List.getElem?_map, hj]; rfl
/-- a row of bytes as a string -/
theorem own_str {B : Nat} {v : Value} {l : List UInt8} {w : World} (h : Own B v l w) (h0 : 0 < l.length) : (convert 37 9 v).run Try.prog w = .ok (.string (bs l)) w := by
  obtain ⟨g, cap, rfl, _, _, hc⟩ := own_row h h0
  exact run_convert_bytes_back w 37 9 5 ⟨g, 0, none⟩ cap l Try.underlying37 Try.underlying5 Try.underlying9 (fun j hj => by
    rw [show (⟨g, 0, none⟩ : Addr).add j = ⟨g, j, none⟩ by unfold Addr.add; split <;> simp_all]
    exact hc j l[j] (List.getElem?_eq_getElem hj))
theorem hexL_take (n c m : Nat) (h : m < c) : (hexL n c).take (m + 1) = (hexL n c).take m ++ [hexAt n c m] := by
  have hl : m < (hexL n c).length := by rw [hexL_len]; exact h
  rw [List.take_succ_eq_append_getElem hl]
  have := hexL_at n c m h
  rw [List.getElem?_eq_getElem hl] at this
  rw [Option.some.inj this]

set_option maxRecDepth 100000 in
set_option maxHeartbeats 800000 in
theorem digits_c (n c : Nat) (w : World) (hn : n < 18446744073709551616) (hc : c ≤ 16) (hc0 : 0 < c) :
    Calls Try.prog 31 #[.int .u64 n, .int .i64 c] w fun e w' => e = .returned (.string (bs (hexL n c))) ∧ Q w w' := by
  obtain ⟨i0, hi, hz0, hz1, hz2⟩ := info_parts infoB
  have HN := Lib.hid hn
  clear hn
  have hc' : (c : Int) ≤ 16 := by omega
  go_enter Try.func31, Try.ntmps31
  go_wp2_with fail
  go_loopw [6, 7] (fun v i wr => ∃ m : Nat, m ≤ c ∧ i = .int .i64 ((c : Int) - 1 - m) ∧ Hid (Own w.heap.size v ((hexL n c).take m) wr ∧ Below w.heap.size w wr)) (fun _ i _ => (intOf i + 1).toNat)
  case atStart => exact ⟨0, by omega, by simp, ⟨own_nil _ _, Below.refl _ _⟩⟩
  case round =>
    rename_i v i wr
    obtain ⟨m, hm, rfl, HI⟩ := hrel
    by_cases hlt : m < c
    · obtain ⟨i, hi'⟩ : ∃ i : Nat, (c : Int) - 1 - m = i := ⟨c - 1 - m, by omega⟩
      rw [hi']
      have hi16 : (i : Int) ≤ 15 := by omega
      obtain ⟨y, hy⟩ : ∃ y : Nat, n / 2 ^ (4 * i) = y := ⟨_, rfl⟩
      have hsh : (n : Int) / 2 ^ (4 * i) = (y : Int) := by rw [← hy]; simp
      have HY := Lib.hid (show hx (y % 16) = hexAt n c m by
        unfold hexAt
        rw [show c - 1 - m = i by omega, ← hy, Nat.pow_mul])
      obtain ⟨l0, hl0⟩ : ∃ l0, (hexL n c).take m = l0 := ⟨_, rfl⟩
      have HL := Lib.hid (show l0.length ≤ 1000 by rw [← hl0, List.length_take]; omega)
      obtain ⟨ow, bl⟩ := HI.out
      rw [hl0] at ow
      have OW := Lib.hid ow
      have hown := ow
      unfold Own at hown
      have BL := Lib.hid bl
      have BS := Lib.hid bl.size
      have RM := Lib.hid (room_of HL.out)
      have HT := Lib.hid (show (hexL n c).take (m + 1) = l0 ++ [hexAt n c m] by rw [hexL_take n c m hlt, hl0])
      have hx16 : y % 16 < allB.size := Nat.mod_lt _ (by omega)
      have HA := Lib.hid (all_at (y % 16) hx16)
      clear ow bl hy hl0
      go_wp2_with (first
        | (at_builtin; refine wpList_append_own _ rfl _ _ 37 rfl w.heap.size 5 i0 (.int .u8 0) 1 1 Try.underlying37 hi hz0 hz1 hz2 rfl (by decide) _ _ _ rfl (hown.alloc _) ⟨wr.heap.size, 0, none⟩ 1 1 [.int .u8 (allB[y % 16].toNat : Int)] rfl rfl (one_at _ _ _) (one_cell _ _) RM.out.1 RM.out.2 (alloc_le BS.out _) ?_)
        | go_in)
      intro v' w1 hown' hgrow _
      have N := Lib.hid (own_next (c := hexAt n c m) OW.out BL.out BS.out (by rw [← HY.out, ← HA.out]; exact hown') hgrow)
      clear hown' hgrow hown
      go_wp2_with fail
      go_roundw
      case rel => exact ⟨m + 1, by omega, by congr 1; omega, by rw [HT.out]; exact N.out⟩
      case measure => simp [intOf] <;> omega
    · obtain rfl : m = c := by omega
      rw [show (m : Int) - 1 - m = -1 by omega]
      have hconv := own_str HI.out.1 (by rw [List.length_take, hexL_len]; omega)
      rw [List.take_of_length_le (by rw [hexL_len]; omega)] at hconv
      go_wp2_with fail
      go_ret
      exact ⟨rfl, HI.out.2⟩
end Go.Proofs.Ytiffnnjegfghoaa
