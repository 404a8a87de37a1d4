/- The contract of the laws' exact: the narrowest limits that a value meets. -/
import Derived.Test.YtnejobcbhddpoaaArgs
import Derived.BigRegion
set_option linter.unusedVariables false
set_option linter.unusedSimpArgs false
namespace Go.Proofs.Ytnejobcbhddpoaa
open Go.ChangeShapes Go.WideShapes Go.ChangeAt Go.RowKit Wm

theorem max_run (ts : Array TypeId) (t : TypeId) (a b m : Int) (w : World) (h : max a b = m) : (Builtin.max_ ts t #[.int .i64 a, .int .i64 b]).run Try.prog w = .ok (.int .i64 m) w := by
  subst h
  show ((Builtin.max2 (.int .i64 a) (.int .i64 b)) >>= fun x => pure x).run Try.prog w = _
  by_cases h : a < b
  · rw [Int.max_eq_right (by omega)]
    simp [Builtin.max2, h]
  · rw [Int.max_eq_left (by omega)]
    simp [Builtin.max2, h]
theorem blk_set {w : World} {b i : Nat} {cs : Array Value} {T : TypeId} {x : Value} (h : w.heap[b]? = some (.cells cs T (0, 0))) : (w.setCell ⟨b, i, none⟩ x).heap[b]? = some (.cells (cs.setIfInBounds i x) T (0, 0)) := by
  have hlt := lt_of_block h
  have h' : w.heap[b] = .cells cs T (0, 0) := by simpa [Array.getElem?_eq_getElem hlt] using h
  show (w.heap.modify b _)[b]? = _
  rw [Array.getElem?_eq_getElem (by simpa using hlt), Array.getElem_modify_self, h']
  rfl
theorem blk_other {w : World} {b g i : Nat} {o : Obj} {x : Value} (h : w.heap[b]? = some o) (hg : g ≠ b) : (w.setCell ⟨g, i, none⟩ x).heap[b]? = some o :=
  (Below.heap_setCell _ _ _ _ (fun e => hg (by simp at e; omega))).trans h
def loL (l : List Int) : Int := l.foldl min 9223372036854775807
def hiL (l : List Int) : Int := l.foldl max (-9223372036854775808)
theorem loL_snoc (l : List Int) (z : Int) : loL (l ++ [z]) = min (loL l) z := by unfold loL; rw [List.foldl_append]; rfl
theorem hiL_snoc (l : List Int) (z : Int) : hiL (l ++ [z]) = max (hiL l) z := by unfold hiL; rw [List.foldl_append]; rfl
theorem take_snoc (l : List Int) (k : Nat) (h : k < l.length) : l.take (k + 1) = l.take k ++ [l[k]] := List.take_succ_eq_append_getElem h
theorem foldl_min_le (l : List Int) : ∀ a : Int, l.foldl min a ≤ a ∧ ∀ z ∈ l, l.foldl min a ≤ z := by
  induction l with
  | nil => intro a; exact ⟨Int.le_refl _, fun z hz => (List.not_mem_nil hz).elim⟩
  | cons x l ih =>
    intro a
    obtain ⟨h1, h2⟩ := ih (min a x)
    refine ⟨by show l.foldl min (min a x) ≤ a; omega, fun z hz => ?_⟩
    show l.foldl min (min a x) ≤ z
    rcases List.mem_cons.1 hz with rfl | hz
    · omega
    · exact h2 z hz
theorem foldl_max_ge (l : List Int) : ∀ a : Int, a ≤ l.foldl max a ∧ ∀ z ∈ l, z ≤ l.foldl max a := by
  induction l with
  | nil => intro a; exact ⟨Int.le_refl _, fun z hz => (List.not_mem_nil hz).elim⟩
  | cons x l ih =>
    intro a
    obtain ⟨h1, h2⟩ := ih (max a x)
    refine ⟨by show a ≤ l.foldl max (max a x); omega, fun z hz => ?_⟩
    show z ≤ l.foldl max (max a x)
    rcases List.mem_cons.1 hz with rfl | hz
    · omega
    · exact h2 z hz
theorem lim_all (l : List Int) : ∀ z ∈ l, loL l ≤ z ∧ z ≤ hiL l := fun z hz => ⟨(foldl_min_le l _).2 z hz, (foldl_max_ge l _).2 z hz⟩
/-- the narrowest limits -/
def exO (k : Nat) (i : Int) (t : ByteArray) (l : List Int) : OpT := if 2 < k then ⟨k, loL l, hiL l, l.length⟩ else ⟨k, i, i, t.size⟩
theorem four {w : World} {b : Nat} {c0 c1 c2 c3 : Value} {T : TypeId} (h : w.heap[b]? = some (.cells #[c0, c1, c2, c3] T (0, 0))) : w.cell? ⟨b, 0, none⟩ = some c0 ∧ w.cell? ⟨b, 1, none⟩ = some c1 ∧ w.cell? ⟨b, 2, none⟩ = some c2 ∧ w.cell? ⟨b, 3, none⟩ = some c3 ∧ ∀ i, w.frozen? ⟨b, i, none⟩ = false :=
  ⟨cell_blk h 0, cell_blk h 1, cell_blk h 2, cell_blk h 3, free_blk h⟩
set_option maxRecDepth 100000 in
set_option maxHeartbeats 1600000 in
theorem exact_c (k n : Nat) (i : Int) (t : ByteArray) (v : Value) (l : List Int) (w : World) (ht : t.size ≤ maxLen) (hr : RdI w v l) (hl : l.length ≤ maxLen) :
    Calls Try.prog 36 #[fv k n i t v] w fun e w' => e = .returned (exO k i t l).vl ∧ Q w w' := by
  unfold fv
  unfold maxLen at ht hl
  have HR := Lib.hid hr
  obtain ⟨sA, sc, rfl, hle, _⟩ := hr
  by_cases hk : 2 < k
  · have t1 : 2 < (k : Int) := by omega
    have HE := Lib.hid (show exO k i t l = ⟨k, loL l, hiL l, l.length⟩ by unfold exO; rw [if_pos hk])
    obtain ⟨m, hm⟩ : ∃ m, l.length = m := ⟨_, rfl⟩
    have HM := Lib.hid hm
    rw [hm] at hl hle HR HE
    rw [hm]
    clear hm hk
    go_enter Try.func36, Try.ntmps36
    go_wp2_with fail
    go_loopw [4] (fun x wr => ∃ j : Nat, j ≤ m ∧ x = .int .i64 j ∧ Hid (wr.heap[w.heap.size]? = some (.cells #[.int .u8 k, .int .u64 n, .int .i64 i, .string t, .slice sA m sc] 41 (0, 0)) ∧ wr.heap[w.heap.size + 1]? = some (.cells #[.int .u8 0, .int .i64 0, .int .i64 0, .int .i64 0] 39 (0, 0)) ∧ wr.heap[w.heap.size + 1 + 1]? = some (.cells #[.int .u8 k, .int .i64 (loL (l.take j)), .int .i64 (hiL (l.take j)), .int .i64 m] 39 (0, 0)) ∧ Q w wr)) (fun x _ => m - (intOf x).toNat)
    case atStart =>
      obtain ⟨a0, a1, a2⟩ := three w #[.int .u8 k, .int .u64 n, .int .i64 i, .string t, .slice sA m sc] #[.int .u8 0, .int .i64 0, .int .i64 0, .int .i64 0] #[.int .u8 k, .int .i64 9223372036854775807, .int .i64 (-9223372036854775808), .int .i64 m] 41 39 39
      exact ⟨0, by omega, rfl, a0, a1, a2, (((Q.refl w).alloc _).alloc _).alloc _⟩
    case round =>
      obtain ⟨j, hj, rfl, HI⟩ := hrel
      obtain ⟨hb0, hb1, hb2, hq⟩ := HI.out
      obtain ⟨x0, x1, x2, x3, x4, xf⟩ := five hb0
      by_cases hlt : j < m
      · have hjl : j < l.length := by rw [HM.out]; exact hlt
        obtain ⟨sA2, sc2, e1, _, h3⟩ := HR.out
        injection e1 with e1 e2 e3
        obtain ⟨rb, ro, e4, hrb, hrc⟩ := h3 (by omega)
        rw [e4] at e1
        subst e1
        obtain ⟨z, hz⟩ : ∃ z, l[j] = z := ⟨_, rfl⟩
        have hc := hq.cell (p := ⟨rb, ro + j, none⟩) hrb
        rw [hrc j l[j] (List.getElem?_eq_getElem hjl), hz] at hc
        have HL := Lib.hid (show loL (l.take (j + 1)) = min (loL (l.take j)) z by rw [take_snoc l j hjl, loL_snoc, hz])
        have HH := Lib.hid (show hiL (l.take (j + 1)) = max (hiL (l.take j)) z by rw [take_snoc l j hjl, hiL_snoc, hz])
        obtain ⟨lo, hlo⟩ : ∃ z, loL (l.take j) = z := ⟨_, rfl⟩
        obtain ⟨hi, hhi⟩ : ∃ z, hiL (l.take j) = z := ⟨_, rfl⟩
        rw [hlo] at hb2 HL
        rw [hhi] at hb2 HH
        obtain ⟨y0, y1, y2, y3, yf⟩ := four hb2
        obtain ⟨mn, hmn⟩ : ∃ m, min lo z = m := ⟨_, rfl⟩
        obtain ⟨mx, hmx⟩ : ∃ m, max hi z = m := ⟨_, rfl⟩
        have rmn := fun w => min_run #[3, 3] 3 lo z mn w hmn
        have rmx := fun w => max_run #[3, 3] 3 hi z mx w hmx
        have hc2 : (wr.setCell ⟨w.heap.size + 1 + 1, 1, none⟩ (.int .i64 mn)).cell? ⟨rb, ro + j, none⟩ = some (.int .i64 z) := (World.cell?_setCell_other _ _ _ _ (by intro g; injection g with g1 g2; omega)).trans hc
        have i1 : (0 : Int) ≤ (j : Int) := by omega
        have i2 : (j : Int) < (m : Int) := by omega
        rw [hmn] at HL
        rw [hmx] at HH
        have HB0 := Lib.hid hb0
        have HB1 := Lib.hid hb1
        have HB2 := Lib.hid hb2
        have HQ := Lib.hid hq
        clear h3 hrc e2 e3 hz hrb e4 hb0 hb1 hb2 hlo hhi hmn hmx HI hq
        go_wp2_with fail
        go_region
        go_wp2_with fail
        go_region
        go_wp2_with fail
        go_roundw
        case rel => exact ⟨j + 1, by omega, by go_num, blk_other (blk_other HB0.out (by omega)) (by omega), blk_other (blk_other HB1.out (by omega)) (by omega), by rw [HL.out, HH.out]; exact blk_set (blk_set HB2.out), ((HQ.out.setA (by omega) _).setA (by omega) _).drew.drew⟩
        case measure => simp [intOf] <;> omega
      · obtain rfl : j = m := by omega
        have HL := Lib.hid (show l.take j = l by rw [← HM.out, List.take_length])
        rw [HL.out] at hb2
        obtain ⟨y0, y1, y2, y3, yf⟩ := four hb2
        obtain ⟨z0, z1, z2, z3, zf⟩ := four hb1
        have HQ := Lib.hid hq
        clear hb0 hb1 hb2 hq HI
        go_wp2_with fail
        refine bodyPost_ret (v := .agg #[.int .u8 k, .int .i64 (loL l), .int .i64 (hiL l), .int .i64 j]) (by simp [results, Try.results36, go_sem, y0, y1, y2, y3, z0, z1, z2, z3]) rfl ⟨by rw [HE.out]; rfl, ?_⟩
        repeat (first | with_reducible exact HQ.out | refine Q.setA ?_ (by omega) _)
  · have t1 : ¬ 2 < (k : Int) := by omega
    have HE := Lib.hid (show exO k i t l = ⟨k, i, i, t.size⟩ by unfold exO; rw [if_neg hk])
    clear hk
    go_enter Try.func36, Try.ntmps36
    go_wp2_with fail
    refine bodyPost_ret (v := .agg #[.int .u8 k, .int .i64 i, .int .i64 i, .int .i64 t.size]) (by simp [results, Try.results36, go_sem]) rfl ⟨by rw [HE.out]; rfl, ?_⟩
    repeat (first | exact Q.refl _ | refine Q.alloc ?_ _ | refine Q.setA ?_ (by simp; try omega) _)
end Go.Proofs.Ytnejobcbhddpoaa
