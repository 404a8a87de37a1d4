/- The contract of the reference's Decimal: two loops that append. -/
import Derived.Test.YtedcimjhhcepmaaDoorTextMath
import Derived.Test.YtedcimjhhcepmaaDoorRefMul
import Derived.OwnWalk
import Derived.LoopTactic
import Derived.Laws.AppendOwn
import Derived.Laws.OwnMore
import Derived.Laws.IdiomStrings
set_option linter.unusedVariables false
set_option linter.unusedSimpArgs false
namespace Go.Proofs.YtedcimjhhcepmaaDoor
open Go.ChangeShapes Go.WideShapes Go.ChangeAt Go.RowKit Um

def bv (c : UInt8) : Value := .int .u8 (c.toNat : Int)
/-- a row of bytes of the call's own -/
def Own (B : Nat) (v : Value) (l : List UInt8) (w : World) : Prop := w.ownsRow B 5 1 v l.length (l.map bv)
theorem infoB : (Tryd.prog.info? 5).map (fun i => (i.zero, i.size, i.bytes)) = some (some (.int .u8 0), 1, 1) := by kernel_rfl
theorem own_nil (B : Nat) (w : World) : Own B (.slice none 0 0) [] w := World.ownsRow_nil _ _ _ _
/-- what an append leaves -/
theorem own_next {B : Nat} {w0 w w1 : World} {v v' : Value} {l : List UInt8} {c : UInt8} {o : Obj} (h : Own B v l w) (hb : Below B w0 w) (hB : B ≤ w.heap.size)
    (h' : w1.ownsRow B 5 1 v' (l.length + 1) (l.map bv ++ [bv c])) (hg : (w.alloc o).grownBy w1 v.ownBlock) : Own B v' (l ++ [c]) w1 ∧ Below B w0 w1 :=
  ⟨by unfold Own; rw [List.length_append, List.map_append]; exact h', (hb.alloc hB o).grown hg (by simp; omega) (fun j hj => (h.lt j hj).1)⟩
theorem one_at (w : World) (c : Value) (t : TypeId) : ∀ j u, ([c] : List Value)[j]? = some u → (w.alloc (.cells #[c] t)).cell? ((⟨w.heap.size, 0, none⟩ : Addr).add j) = some u := by
  intro j u hj
  match j, hj with
  | 0, hj => simp at hj; subst hj; simp [Addr.add]
theorem one_cell (k : IntKind) (z : Int) : ∀ u ∈ ([.int k z] : List Value), u.oneCell' = true := by
  intro u hu; simp at hu; subst hu; rfl
theorem alloc_le {B : Nat} {w : World} (h : B ≤ w.heap.size) (o : Obj) : B ≤ (w.alloc o).heap.size := by simp; omega
/-- room for one more -/
def Room (n : Nat) : Prop := n + 1 ≤ maxLen ∧ (n + 1) * 1 ≤ 140737488355328
theorem room_of {n : Nat} (h : n ≤ 1000) : Room n := by unfold Room maxLen; omega
/-- the first loop -/
def DecInv (B U K : Nat) (w0 : World) (v5 v6 v7 : Value) (wr : World) : Prop :=
  ∃ m x : Nat, v5 = .int .u64 (x : Int) ∧ v7 = .int .i64 (m : Int) ∧ Hid (x = U / 10 ^ m ∧ m ≤ 21 ∧ (m ≤ K + 1 ∨ 0 < U / 10 ^ (m - 1)) ∧ Own B v6 (bk U K m) wr ∧ Below B w0 wr)

theorem dec_bd {U m x : Nat} (hU : U < 18446744073709551616) (hx : x = U / 10 ^ m) (h0 : 0 < x) : m ≤ 19 := by
  rcases Nat.lt_or_ge m 20 with h | h
  · omega
  · have h1 : 10 ^ 20 ≤ 10 ^ m := Nat.pow_le_pow_right (by omega) h
    have : U / 10 ^ m = 0 := Nat.div_eq_of_lt (by omega)
    omega
theorem dec_next {U m x : Nat} (hx : x = U / 10 ^ m) : x / 10 = U / 10 ^ (m + 1) := by rw [hx, Nat.pow_succ, Nat.div_div_eq_div_mul]
theorem bk_dot {U K m : Nat} (h : m = K ∧ 0 < K) : bk U K (m + 1) = bk U K m ++ [46] ++ [chr (U / 10 ^ m % 10)] := by
  show bk U K m ++ dot K m ++ _ = _; unfold dot; rw [if_pos h]
theorem bk_no {U K m : Nat} (h : ¬ (m = K ∧ 0 < K)) : bk U K (m + 1) = bk U K m ++ [chr (U / 10 ^ m % 10)] := by
  show bk U K m ++ dot K m ++ _ = _; unfold dot; rw [if_neg h, List.append_nil]
theorem bv_chr {y : Nat} (h : y < 10) : bv (chr y) = .int .u8 (48 + (y : Int)) := by
  unfold bv chr; rw [dig_chr h]; congr 1
theorem bv_zero : bv (chr 0) = .int .u8 48 := rfl
theorem own_row {B : Nat} {v : Value} {l : List UInt8} {w : World} (h : Own B v l w) (h0 : 0 < l.length) :
    ∃ g cap, v = .slice (some ⟨g, 0, none⟩) l.length cap ∧ B ≤ g ∧ g < w.heap.size ∧ ∀ j c, l[j]? = some c → w.cell? ⟨g, j, none⟩ = some (bv c) := by
  have h2 := h
  obtain ⟨_, ⟨_, h3⟩ | ⟨g, cap, cur, rfl, hb, hg, _⟩⟩ := h
  · omega
  · refine ⟨g, cap, rfl, hb, ?_, fun j c hj => ?_⟩
    · rcases Nat.lt_or_ge g w.heap.size with k | k
      · exact k
      · rw [Array.getElem?_eq_none k] at hg; cases hg
    · have hl : j < l.length := by
        rcases Nat.lt_or_ge j l.length with k | k
        · exact k
        · rw [List.getElem?_eq_none k] at hj; cases hj
      rw [World.ownsRow.cellAt h2 j (by omega), List.getElem?_map, hj]; rfl
/-- a row of bytes as a string -/
theorem own_str {B : Nat} {v : Value} {l : List UInt8} {w : World} (h : Own B v l w) (h0 : 0 < l.length) : (convert 56 9 v).run Tryd.prog w = .ok (.string (bs l)) w := by
  obtain ⟨g, cap, rfl, _, _, hc⟩ := own_row h h0
  exact run_convert_bytes_back w 56 9 5 ⟨g, 0, none⟩ cap l Tryd.underlying56 Tryd.underlying5 Tryd.underlying9 (fun j hj => by
    rw [Lib.add_plain, Nat.zero_add]
    exact hc j l[j] (List.getElem?_eq_getElem hj))
/-- the second loop -/
def OutInv (B2 : Nat) (L : List UInt8) (w8 : World) (v9 v10 : Value) (wr : World) : Prop :=
  ∃ m : Nat, v10 = .int .i64 ((m : Int) - 1) ∧ Hid (m ≤ L.length ∧ Own B2 v9 (L.drop m).reverse wr ∧ Below B2 w8 wr)
theorem drop_rev {L : List UInt8} {i : Nat} {c : UInt8} (h : L[i]? = some c) : (L.drop i).reverse = (L.drop (i + 1)).reverse ++ [c] := by
  have hi : i < L.length := by
    rcases Nat.lt_or_ge i L.length with k | k
    · exact k
    · rw [List.getElem?_eq_none k] at h; cases h
  rw [List.drop_eq_getElem_cons hi, List.reverse_cons]
  rw [List.getElem?_eq_getElem hi] at h
  rw [Option.some.inj h]

set_option maxRecDepth 1000000 in
set_option maxHeartbeats 6400000 in
theorem rDecimal_is (n digits : Int) (U K : Nat) (fn : Fit n) (hK : Hid (clamp digits 0 9 = (K : Int))) (hU : Hid (n.natAbs = U)) (w : World) :
    Calls Tryd.prog 27 #[.int .i64 n, .int .i64 digits] w fun e w' => e = .returned (.string (bs (decL (decide (n < 0)) U K))) ∧ Q w w' := by
  obtain ⟨i0, hi, hz0, hz1, hz2⟩ := info_parts infoB
  have FN := Lib.hid fn
  have hKb : K ≤ 9 := by have := hK.out; unfold clamp at this; split at this <;> (try split at this) <;> (try split at this) <;> omega
  have FU := Lib.hid (show U < 18446744073709551616 by have := hU.out; have := fn.1; have := fn.2; omega)
  clear fn
  go_enter Tryd.func27, Tryd.ntmps27
  go_wp2_with fail
  refine (rClamp_c digits 0 9 _).mono ?_; rintro e w1 ⟨rfl, rfl⟩
  rw [hK.out]
  go_wp2_with fail
  refine (size_is n U hU FN.out _).mono ?_; rintro e w1 ⟨rfl, rfl⟩
  go_wp2_with fail
  go_loopw [6, 7, 8] (fun v6 v7 v8 wr => DecInv w.heap.size U K w v6 v7 v8 wr) (fun v6 _ v8 _ => (intOf v6).toNat + (K + 1 - (intOf v8).toNat))
  case atStart => exact ⟨0, U, rfl, rfl, ⟨by simp, by omega, .inl (by omega), own_nil _ _, Below.refl _ _⟩⟩
  case round =>
    obtain ⟨m, x, rfl, rfl, HI⟩ := hrel
    obtain ⟨x1, m1, l1, ow1, bl1⟩ := HI.out
    have X1 := Lib.hid x1
    have LL := Lib.hid (bk_len U K m)
    have BS := Lib.hid bl1.size
    have jm : (m : Int) ≤ 21 := by omega
    have jx : (x : Int) ≤ 18446744073709551615 := by have h : U / 10 ^ m ≤ U := Nat.div_le_self _ _; have := FU.out; omega
    by_cases hgo : 0 < x ∨ m ≤ K
    · obtain ⟨y, hy⟩ : ∃ y, x % 10 = y := ⟨_, rfl⟩
      obtain ⟨x2, hx2⟩ : ∃ y, x / 10 = y := ⟨_, rfl⟩
      have iy : (x : Int) % 10 = (y : Int) := by omega
      have ix : (x : Int) / 10 = (x2 : Int) := by omega
      have by9 : (y : Int) ≤ 9 := by omega
      obtain ⟨l0, hl0⟩ : ∃ l0, bk U K m = l0 := ⟨_, rfl⟩
      have hown := ow1
      rw [hl0] at hown
      unfold Own at hown
      have OW := Lib.hid ow1
      rw [hl0] at OW
      have HB0 := Lib.hid bl1
      rw [hl0] at LL
      have EL0 := Lib.hid hl0
      have RM := Lib.hid (room_of (n := l0.length) (by have := LL.out; omega))
      clear hl0
      have HY := Lib.hid (show y = U / 10 ^ m % 10 ∧ y < 10 by rw [← hy, x1]; omega)
      have HX := Lib.hid (show x2 = U / 10 ^ (m + 1) ∧ m + 1 ≤ 21 ∧ (m + 1 ≤ K + 1 ∨ 0 < U / 10 ^ (m + 1 - 1)) by
        refine ⟨by rw [← hx2]; exact dec_next x1, ?_, ?_⟩
        · rcases hgo with g | g
          · have := dec_bd FU.out x1 g; omega
          · omega
        · rcases hgo with g | g
          · right; rw [Nat.add_sub_cancel, ← x1]; exact g
          · left; omega)
      have HM := Lib.hid (show x2 + (K + 1 - (m + 1)) < x + (K + 1 - m) by omega)
      have hgo2 : (0 < (x : Int)) ∨ (x = 0 ∧ y = 0 ∧ x2 = 0 ∧ (m : Int) ≤ (K : Int)) := by omega
      clear hy hx2 hgo ow1 bl1 l1 m1 x1
      by_cases hdot : m = K ∧ 0 < K
      · have t1 : ((m : Int) == (K : Int)) = true := by rw [beq_iff_eq]; omega
        have t2 : 0 < (K : Int) := by omega
        have HDOT := Lib.hid hdot
        clear hdot
        rcases hgo2 with g | ⟨rfl, rfl, rfl, g2⟩
        · skip
          go_wp2_with (first
            | (at_builtin; refine wpList_append_own _ rfl _ _ 56 rfl w.heap.size 5 i0 (.int .u8 0) 1 1 Tryd.underlying56 hi hz0 hz1 hz2 rfl (by decide) _ _ _ rfl (hown.alloc _) ⟨wr.heap.size, 0, none⟩ 1 1 [.int .u8 46] rfl rfl (one_at _ _ _) (one_cell _ _) RM.out.1 RM.out.2 (alloc_le BS.out _) ?_)
            | go_in)
          intro v' w1 hown' hgrow _
          have N := Lib.hid (own_next (c := 46) OW.out HB0.out BS.out hown' hgrow)
          have BS1 := Lib.hid N.out.2.size
          obtain ⟨L1, hL1⟩ : ∃ L1, l0 ++ [46] = L1 := ⟨_, rfl⟩
          have hown1 := N.out.1
          rw [hL1] at hown1
          have N1 := Lib.hid hown1
          unfold Own at hown1
          have HL1 := Lib.hid (show L1.length = l0.length + 1 by rw [← hL1]; simp)
          have EL1 := Lib.hid hL1
          have RM1 := Lib.hid (room_of (n := L1.length) (by have := LL.out; have := HL1.out; have := HX.out.2.1; omega))
          clear hL1
          clear hown' hgrow hown
          go_wp2_with (first
            | (at_builtin; refine wpList_append_own _ rfl _ _ 56 rfl w.heap.size 5 i0 (.int .u8 0) 1 1 Tryd.underlying56 hi hz0 hz1 hz2 rfl (by decide) _ _ _ rfl (hown1.alloc _) ⟨w1.heap.size, 0, none⟩ 1 1 [.int .u8 (48 + (y : Int))] rfl rfl (one_at _ _ _) (one_cell _ _) RM1.out.1 RM1.out.2 (alloc_le BS1.out _) ?_)
            | go_in)
          intro v'' w2 hown' hgrow _
          have N2 := Lib.hid (own_next (c := chr y) N1.out N.out.2 BS1.out (by rw [bv_chr HY.out.2]; exact hown') hgrow)
          have NX := Lib.hid (show Own w.heap.size v'' (bk U K (m + 1)) w2 by rw [bk_dot HDOT.out, ← HY.out.1, EL0.out, EL1.out]; exact N2.out.1)
          clear hown' hgrow hown1
          go_wp2_with fail
          go_roundw
          case rel => exact ⟨m + 1, x2, by go_num, by go_num, ⟨HX.out.1, HX.out.2.1, HX.out.2.2, NX.out, N2.out.2⟩⟩
          case measure => have := HM.out; simp [intOf]; (try omega)
        · skip
          go_wp2_with (first
            | (at_builtin; refine wpList_append_own _ rfl _ _ 56 rfl w.heap.size 5 i0 (.int .u8 0) 1 1 Tryd.underlying56 hi hz0 hz1 hz2 rfl (by decide) _ _ _ rfl (hown.alloc _) ⟨wr.heap.size, 0, none⟩ 1 1 [.int .u8 46] rfl rfl (one_at _ _ _) (one_cell _ _) RM.out.1 RM.out.2 (alloc_le BS.out _) ?_)
            | go_in)
          intro v' w1 hown' hgrow _
          have N := Lib.hid (own_next (c := 46) OW.out HB0.out BS.out hown' hgrow)
          have BS1 := Lib.hid N.out.2.size
          obtain ⟨L1, hL1⟩ : ∃ L1, l0 ++ [46] = L1 := ⟨_, rfl⟩
          have hown1 := N.out.1
          rw [hL1] at hown1
          have N1 := Lib.hid hown1
          unfold Own at hown1
          have HL1 := Lib.hid (show L1.length = l0.length + 1 by rw [← hL1]; simp)
          have EL1 := Lib.hid hL1
          have RM1 := Lib.hid (room_of (n := L1.length) (by have := LL.out; have := HL1.out; have := HX.out.2.1; omega))
          clear hL1
          clear hown' hgrow hown
          go_wp2_with (first
            | (at_builtin; refine wpList_append_own _ rfl _ _ 56 rfl w.heap.size 5 i0 (.int .u8 0) 1 1 Tryd.underlying56 hi hz0 hz1 hz2 rfl (by decide) _ _ _ rfl (hown1.alloc _) ⟨w1.heap.size, 0, none⟩ 1 1 [.int .u8 48] rfl rfl (one_at _ _ _) (one_cell _ _) RM1.out.1 RM1.out.2 (alloc_le BS1.out _) ?_)
            | go_in)
          intro v'' w2 hown' hgrow _
          have N2 := Lib.hid (own_next (c := chr 0) N1.out N.out.2 BS1.out (by rw [bv_zero]; exact hown') hgrow)
          have NX := Lib.hid (show Own w.heap.size v'' (bk U K (m + 1)) w2 by rw [bk_dot HDOT.out, ← HY.out.1, EL0.out, EL1.out]; exact N2.out.1)
          clear hown' hgrow hown1
          go_wp2_with fail
          go_roundw
          case rel => exact ⟨m + 1, 0, by go_num, by go_num, ⟨HX.out.1, HX.out.2.1, HX.out.2.2, NX.out, N2.out.2⟩⟩
          case measure => have := HM.out; simp [intOf]; (try omega)
      · have HND := Lib.hid hdot
        have t1 : (((m : Int) == (K : Int)) = false) ∨ (((m : Int) == (K : Int)) = true ∧ ¬ 0 < (K : Int)) := by
          by_cases g : m = K
          · right; exact ⟨by rw [beq_iff_eq]; omega, by omega⟩
          · left; rw [beq_eq_false_iff_ne]; omega
        clear hdot
        rcases t1 with t1 | ⟨t1, t2⟩
        · rcases hgo2 with g | ⟨rfl, rfl, rfl, g2⟩
          · skip
            go_wp2_with (first
              | (at_builtin; refine wpList_append_own _ rfl _ _ 56 rfl w.heap.size 5 i0 (.int .u8 0) 1 1 Tryd.underlying56 hi hz0 hz1 hz2 rfl (by decide) _ _ _ rfl (hown.alloc _) ⟨wr.heap.size, 0, none⟩ 1 1 [.int .u8 (48 + (y : Int))] rfl rfl (one_at _ _ _) (one_cell _ _) RM.out.1 RM.out.2 (alloc_le BS.out _) ?_)
              | go_in)
            intro v' w1 hown' hgrow _
            have N2 := Lib.hid (own_next (c := chr y) OW.out HB0.out BS.out (by rw [bv_chr HY.out.2]; exact hown') hgrow)
            have NX := Lib.hid (show Own w.heap.size v' (bk U K (m + 1)) w1 by rw [bk_no HND.out, ← HY.out.1, EL0.out]; exact N2.out.1)
            clear hown' hgrow hown
            go_wp2_with fail
            go_roundw
            case rel => exact ⟨m + 1, x2, by go_num, by go_num, ⟨HX.out.1, HX.out.2.1, HX.out.2.2, NX.out, N2.out.2⟩⟩
            case measure => have := HM.out; simp [intOf]; (try omega)
          · skip
            go_wp2_with (first
              | (at_builtin; refine wpList_append_own _ rfl _ _ 56 rfl w.heap.size 5 i0 (.int .u8 0) 1 1 Tryd.underlying56 hi hz0 hz1 hz2 rfl (by decide) _ _ _ rfl (hown.alloc _) ⟨wr.heap.size, 0, none⟩ 1 1 [.int .u8 48] rfl rfl (one_at _ _ _) (one_cell _ _) RM.out.1 RM.out.2 (alloc_le BS.out _) ?_)
              | go_in)
            intro v' w1 hown' hgrow _
            have N2 := Lib.hid (own_next (c := chr 0) OW.out HB0.out BS.out (by rw [bv_zero]; exact hown') hgrow)
            have NX := Lib.hid (show Own w.heap.size v' (bk U K (m + 1)) w1 by rw [bk_no HND.out, ← HY.out.1, EL0.out]; exact N2.out.1)
            clear hown' hgrow hown
            go_wp2_with fail
            go_roundw
            case rel => exact ⟨m + 1, 0, by go_num, by go_num, ⟨HX.out.1, HX.out.2.1, HX.out.2.2, NX.out, N2.out.2⟩⟩
            case measure => have := HM.out; simp [intOf]; (try omega)
        · rcases hgo2 with g | ⟨rfl, rfl, rfl, g2⟩
          · skip
            go_wp2_with (first
              | (at_builtin; refine wpList_append_own _ rfl _ _ 56 rfl w.heap.size 5 i0 (.int .u8 0) 1 1 Tryd.underlying56 hi hz0 hz1 hz2 rfl (by decide) _ _ _ rfl (hown.alloc _) ⟨wr.heap.size, 0, none⟩ 1 1 [.int .u8 (48 + (y : Int))] rfl rfl (one_at _ _ _) (one_cell _ _) RM.out.1 RM.out.2 (alloc_le BS.out _) ?_)
              | go_in)
            intro v' w1 hown' hgrow _
            have N2 := Lib.hid (own_next (c := chr y) OW.out HB0.out BS.out (by rw [bv_chr HY.out.2]; exact hown') hgrow)
            have NX := Lib.hid (show Own w.heap.size v' (bk U K (m + 1)) w1 by rw [bk_no HND.out, ← HY.out.1, EL0.out]; exact N2.out.1)
            clear hown' hgrow hown
            go_wp2_with fail
            go_roundw
            case rel => exact ⟨m + 1, x2, by go_num, by go_num, ⟨HX.out.1, HX.out.2.1, HX.out.2.2, NX.out, N2.out.2⟩⟩
            case measure => have := HM.out; simp [intOf]; (try omega)
          · skip
            go_wp2_with (first
              | (at_builtin; refine wpList_append_own _ rfl _ _ 56 rfl w.heap.size 5 i0 (.int .u8 0) 1 1 Tryd.underlying56 hi hz0 hz1 hz2 rfl (by decide) _ _ _ rfl (hown.alloc _) ⟨wr.heap.size, 0, none⟩ 1 1 [.int .u8 48] rfl rfl (one_at _ _ _) (one_cell _ _) RM.out.1 RM.out.2 (alloc_le BS.out _) ?_)
              | go_in)
            intro v' w1 hown' hgrow _
            have N2 := Lib.hid (own_next (c := chr 0) OW.out HB0.out BS.out (by rw [bv_zero]; exact hown') hgrow)
            have NX := Lib.hid (show Own w.heap.size v' (bk U K (m + 1)) w1 by rw [bk_no HND.out, ← HY.out.1, EL0.out]; exact N2.out.1)
            clear hown' hgrow hown
            go_wp2_with fail
            go_roundw
            case rel => exact ⟨m + 1, 0, by go_num, by go_num, ⟨HX.out.1, HX.out.2.1, HX.out.2.2, NX.out, N2.out.2⟩⟩
            case measure => have := HM.out; simp [intOf]; (try omega)
    · have hx0 : x = 0 := by omega
      have hKm : K < m := by omega
      have HDn := Lib.hid (show Done U K m from ⟨by rw [← x1, hx0], hKm, l1.elim .inl (fun h => .inr h)⟩)
      subst hx0
      have i1 : ¬ (m : Int) ≤ (K : Int) := by omega
      obtain ⟨l0, hl0⟩ : ∃ l0, bk U K m = l0 := ⟨_, rfl⟩
      have OW := Lib.hid ow1
      rw [hl0] at OW
      rw [hl0] at LL
      have hown := OW.out
      unfold Own at hown
      have HB0 := Lib.hid bl1
      have EL0 := Lib.hid hl0
      have RM := Lib.hid (room_of (n := l0.length) (by have := LL.out; omega))
      have L0 := Lib.hid (show 0 < l0.length by
        rw [← hl0]
        obtain ⟨m', rfl⟩ : ∃ m', m = m' + 1 := ⟨m - 1, by omega⟩
        unfold bk; simp; omega)
      clear hgo ow1 bl1 l1 m1 x1 hl0 HI X1 hKm
      by_cases hn : n < 0
      · go_wp2_with (first
          | (at_builtin; refine wpList_append_own _ rfl _ _ 56 rfl w.heap.size 5 i0 (.int .u8 0) 1 1 Tryd.underlying56 hi hz0 hz1 hz2 rfl (by decide) _ _ _ rfl (hown.alloc _) ⟨wr.heap.size, 0, none⟩ 1 1 [.int .u8 45] rfl rfl (one_at _ _ _) (one_cell _ _) RM.out.1 RM.out.2 (alloc_le BS.out _) ?_)
          | go_in)
        intro v' w1 hown' hgrow _
        have N2 := Lib.hid (own_next (c := 45) OW.out HB0.out BS.out hown' hgrow)
        clear hown' hgrow hown OW
        obtain ⟨L, hL⟩ : ∃ L, l0 ++ [45] = L := ⟨_, rfl⟩
        rw [hL] at N2
        have HE := Lib.hid (show L.reverse = decL (decide (n < 0)) U K by
          rw [← hL, ← EL0.out, decide_eq_true hn]; exact bk_decL true HDn.out)
        have HLen := Lib.hid (show 0 < L.length ∧ L.length ≤ 100 by rw [← hL, List.length_append, List.length_singleton]; have := LL.out; omega)
        clear hL
        obtain ⟨g, cap, rfl, hgB, hgs, hcell⟩ := own_row N2.out.1 HLen.out.1
        obtain ⟨N, hN⟩ : ∃ N, L.length = N := ⟨_, rfl⟩
        have HC := Lib.hid hcell
        have GS := Lib.hid hgs
        have HN := Lib.hid hN
        rw [hN]
        have jN1 : (1 : Int) ≤ (N : Int) := by have := HLen.out.1; omega
        have jN2 : (N : Int) ≤ 100 := by have := HLen.out.2; omega
        clear hcell hgs hgB hN
        go_wp2_with fail
        go_loopw [9, 10] (fun v9 v10 wr2 => OutInv w1.heap.size L w1 v9 v10 wr2) (fun _ v10 _ => (intOf v10 + 1).toNat)
        case atStart => exact ⟨N, rfl, ⟨by rw [HN.out]; omega, by rw [← HN.out, List.drop_length]; exact own_nil _ _, Below.refl _ _⟩⟩
        case round =>
          obtain ⟨m2, rfl, HI2⟩ := hrel
          rcases m2 with _ | i
          · rw [show (((0 : Nat) : Int) - 1) = -1 from rfl]
            have hO := HI2.out.2.1
            rw [List.drop_zero] at hO
            have hstr := own_str hO (by rw [List.length_reverse]; exact HLen.out.1)
            rw [HE.out] at hstr
            have QF := Lib.hid (N2.out.2.trans (Below.mono HI2.out.2.2 N2.out.2.size))
            clear HI2 hO
            go_wp2_with fail
            go_ret
            exact ⟨ret_str (by rw [decide_eq_true hn]), QF.out⟩
          · rw [show (((i + 1 : Nat) : Int) - 1) = (i : Int) by omega]
            have hiL : i < L.length := by have := HI2.out.1; omega
            obtain ⟨c, hc⟩ : ∃ c, L[i]? = some c := ⟨L[i], List.getElem?_eq_getElem hiL⟩
            have hcx : wr.cell? ⟨g, i, none⟩ = some (.int .u8 (c.toNat : Int)) := (HI2.out.2.2.cell GS.out).trans (HC.out i c hc)
            have jiN : (i : Int) < (N : Int) := by have := HN.out; omega
            obtain ⟨l2, hl2⟩ : ∃ l2, (L.drop (i + 1)).reverse = l2 := ⟨_, rfl⟩
            have OW2 := Lib.hid HI2.out.2.1
            rw [hl2] at OW2
            have hown2 := OW2.out
            unfold Own at hown2
            have HB2 := Lib.hid HI2.out.2.2
            have BS2 := Lib.hid HB2.out.size
            have RM2 := Lib.hid (room_of (n := l2.length) (by rw [← hl2, List.length_reverse, List.length_drop]; have := HLen.out; omega))
            have HR := Lib.hid (show (L.drop i).reverse = l2 ++ [c] by rw [← hl2]; exact drop_rev hc)
            have HI3 := Lib.hid (show i ≤ L.length by omega)
            clear hl2 hiL hc HI2
            go_wp2_with (first
              | (at_builtin; refine wpList_append_own _ rfl _ _ 56 rfl w1.heap.size 5 i0 (.int .u8 0) 1 1 Tryd.underlying56 hi hz0 hz1 hz2 rfl (by decide) _ _ _ rfl (hown2.alloc _) ⟨wr.heap.size, 0, none⟩ 1 1 [.int .u8 (c.toNat : Int)] rfl rfl (one_at _ _ _) (one_cell _ _) RM2.out.1 RM2.out.2 (alloc_le BS2.out _) ?_)
              | go_in)
            intro v'' w2 hown' hgrow _
            have N3 := Lib.hid (own_next (c := c) OW2.out HB2.out BS2.out hown' hgrow)
            clear hown' hgrow hown2 hcx
            go_wp2_with fail
            go_roundw
            case rel => exact ⟨i, by go_num, ⟨HI3.out, by rw [HR.out]; exact N3.out.1, N3.out.2⟩⟩
            case measure => simp [intOf]
      · obtain ⟨L, hL⟩ : ∃ L, l0 = L := ⟨_, rfl⟩
        have N2 := Lib.hid (show Own w.heap.size u7 L wr ∧ Below w.heap.size w wr by rw [← hL]; exact ⟨OW.out, HB0.out⟩)
        have HE := Lib.hid (show L.reverse = decL (decide (n < 0)) U K by
          rw [← hL, ← EL0.out, decide_eq_false hn]; have := bk_decL false HDn.out; simpa using this)
        have HLen := Lib.hid (show 0 < L.length ∧ L.length ≤ 100 by rw [← hL]; have := LL.out; have := L0.out; omega)
        clear hL hown OW
        obtain ⟨w1, hw1⟩ : ∃ w1 : World, w1 = wr := ⟨wr, rfl⟩
        subst hw1
        obtain ⟨g, cap, rfl, hgB, hgs, hcell⟩ := own_row N2.out.1 HLen.out.1
        obtain ⟨N, hN⟩ : ∃ N, L.length = N := ⟨_, rfl⟩
        have HC := Lib.hid hcell
        have GS := Lib.hid hgs
        have HN := Lib.hid hN
        rw [hN]
        have jN1 : (1 : Int) ≤ (N : Int) := by have := HLen.out.1; omega
        have jN2 : (N : Int) ≤ 100 := by have := HLen.out.2; omega
        clear hcell hgs hgB hN
        go_wp2_with fail
        go_loopw [9, 10] (fun v9 v10 wr2 => OutInv w1.heap.size L w1 v9 v10 wr2) (fun _ v10 _ => (intOf v10 + 1).toNat)
        case atStart => exact ⟨N, rfl, ⟨by rw [HN.out]; omega, by rw [← HN.out, List.drop_length]; exact own_nil _ _, Below.refl _ _⟩⟩
        case round =>
          obtain ⟨m2, rfl, HI2⟩ := hrel
          rcases m2 with _ | i
          · rw [show (((0 : Nat) : Int) - 1) = -1 from rfl]
            have hO := HI2.out.2.1
            rw [List.drop_zero] at hO
            have hstr := own_str hO (by rw [List.length_reverse]; exact HLen.out.1)
            rw [HE.out] at hstr
            have QF := Lib.hid (N2.out.2.trans (Below.mono HI2.out.2.2 N2.out.2.size))
            clear HI2 hO
            go_wp2_with fail
            go_ret
            exact ⟨rfl, QF.out⟩
          · rw [show (((i + 1 : Nat) : Int) - 1) = (i : Int) by omega]
            have hiL : i < L.length := by have := HI2.out.1; omega
            obtain ⟨c, hc⟩ : ∃ c, L[i]? = some c := ⟨L[i], List.getElem?_eq_getElem hiL⟩
            have hcx : wr.cell? ⟨g, i, none⟩ = some (.int .u8 (c.toNat : Int)) := (HI2.out.2.2.cell GS.out).trans (HC.out i c hc)
            have jiN : (i : Int) < (N : Int) := by have := HN.out; omega
            obtain ⟨l2, hl2⟩ : ∃ l2, (L.drop (i + 1)).reverse = l2 := ⟨_, rfl⟩
            have OW2 := Lib.hid HI2.out.2.1
            rw [hl2] at OW2
            have hown2 := OW2.out
            unfold Own at hown2
            have HB2 := Lib.hid HI2.out.2.2
            have BS2 := Lib.hid HB2.out.size
            have RM2 := Lib.hid (room_of (n := l2.length) (by rw [← hl2, List.length_reverse, List.length_drop]; have := HLen.out; omega))
            have HR := Lib.hid (show (L.drop i).reverse = l2 ++ [c] by rw [← hl2]; exact drop_rev hc)
            have HI3 := Lib.hid (show i ≤ L.length by omega)
            clear hl2 hiL hc HI2
            go_wp2_with (first
              | (at_builtin; refine wpList_append_own _ rfl _ _ 56 rfl w1.heap.size 5 i0 (.int .u8 0) 1 1 Tryd.underlying56 hi hz0 hz1 hz2 rfl (by decide) _ _ _ rfl (hown2.alloc _) ⟨wr.heap.size, 0, none⟩ 1 1 [.int .u8 (c.toNat : Int)] rfl rfl (one_at _ _ _) (one_cell _ _) RM2.out.1 RM2.out.2 (alloc_le BS2.out _) ?_)
              | go_in)
            intro v'' w2 hown' hgrow _
            have N3 := Lib.hid (own_next (c := c) OW2.out HB2.out BS2.out hown' hgrow)
            clear hown' hgrow hown2 hcx
            go_wp2_with fail
            go_roundw
            case rel => exact ⟨i, by go_num, ⟨HI3.out, by rw [HR.out]; exact N3.out.1, N3.out.2⟩⟩
            case measure => simp [intOf]
end Go.Proofs.YtedcimjhhcepmaaDoor
