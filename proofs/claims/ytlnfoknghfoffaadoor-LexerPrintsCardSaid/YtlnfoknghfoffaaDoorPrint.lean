/- The contract of Print. -/
import Derived.Test.YtlnfoknghfoffaaDoorSame
set_option linter.unusedVariables false
set_option linter.unusedSimpArgs false
namespace Go.Proofs.YtlnfoknghfoffaaDoor
open Go.ChangeShapes Go.WideShapes Go.ChangeAt Go.RowKit Lm

def sV (t : ByteArray) : Value := .string t
/-- a row of strings of the call's own -/
def OwnS (B : Nat) (v : Value) (l : List ByteArray) (w : World) : Prop := w.ownsRow B 9 1 v l.length (l.map sV)
theorem infoS : (Tryd.prog.info? 9).map (fun i => (i.zero, i.size, i.bytes)) = some (some (.string ⟨#[]⟩), 1, 16) := by kernel_rfl
theorem ownS_nil (B : Nat) (w : World) : OwnS B (.slice none 0 0) [] w := World.ownsRow_nil _ _ _ _
theorem ownS_next {B : Nat} {w0 w w1 : World} {v v' : Value} {l : List ByteArray} {c : ByteArray} {o : Obj} (h : OwnS B v l w) (hb : Below B w0 w) (hB : B ≤ w.heap.size)
    (h' : w1.ownsRow B 9 1 v' (l.length + 1) (l.map sV ++ [sV c])) (hg : (w.alloc o).grownBy w1 v.ownBlock) : OwnS B v' (l ++ [c]) w1 ∧ Below B w0 w1 :=
  ⟨by unfold OwnS; rw [List.length_append, List.map_append]; exact h', (hb.alloc hB o).grown hg (by simp; omega) (fun j hj => (h.lt j hj).1)⟩
theorem oneS_at (w : World) (c : Value) (t : TypeId) : ∀ j u, ([c] : List Value)[j]? = some u → (w.alloc (.cells #[c] t)).cell? ((⟨w.heap.size, 0, none⟩ : Addr).add j) = some u := by
  intro j u hj
  match j, hj with
  | 0, hj => simp at hj; subst hj; simp [Addr.add]
theorem oneS_cell (z : ByteArray) : ∀ u ∈ ([.string z] : List Value), u.oneCell' = true := by
  intro u hu; simp at hu; subst hu; rfl
def RoomS (n : Nat) : Prop := n + 1 ≤ maxLen ∧ (n + 1) * 16 ≤ 140737488355328
theorem roomS_of {n : Nat} (h : n ≤ 1000000) : RoomS n := by unfold RoomS maxLen; omega
theorem ownS_form {B : Nat} {v : Value} {l : List ByteArray} {w : World} (h : OwnS B v l w) : (∃ A c, v = .slice A 0 c ∧ l = []) ∨ ∃ g cap, v = .slice (some ⟨g, 0, none⟩) l.length cap ∧ l.length ≤ cap ∧ B ≤ g ∧ g < w.heap.size ∧ ∀ (j : Nat) x, l[j]? = some x → w.cell? ⟨g, 0 + j, none⟩ = some (.string x) := by
  have h2 := h
  obtain ⟨_, ⟨rfl, h3⟩ | ⟨g, cap, cur, rfl, hb, hg, hn, _⟩⟩ := h
  · exact .inl ⟨none, 0, rfl, List.eq_nil_of_length_eq_zero h3⟩
  · refine .inr ⟨g, cap, rfl, hn, hb, ?_, fun j c hj => ?_⟩
    · rcases Nat.lt_or_ge g w.heap.size with k | k
      · exact k
      · rw [Array.getElem?_eq_none k] at hg; cases hg
    · have hl : j < l.length := by
        rcases Nat.lt_or_ge j l.length with k | k
        · exact k
        · rw [List.getElem?_eq_none k] at hj; cases hj
      rw [Nat.zero_add, World.ownsRow.cellAt h2 j (by omega), List.getElem?_map, hj]; rfl
/-- the texts of all lexemes but the ends -/
def txL (l : List LT) : List ByteArray := l.flatMap fun x => if x.k = 0 then [] else [x.t]
def prS (l : List LT) : ByteArray := ⟨(Lib.join ((txL l).map (·.data.toList)) [32]).toArray⟩
theorem txL_snoc (l : List LT) (k : Nat) (h : k < l.length) : txL (l.take (k + 1)) = txL (l.take k) ++ (if l[k].k = 0 then [] else [l[k].t]) := by
  unfold txL; rw [List.take_succ_eq_append_getElem h, List.flatMap_append]; simp
theorem txL_len (l : List LT) : (txL l).length ≤ l.length := by
  induction l with
  | nil => exact Nat.le_refl _
  | cons x l ih =>
    have e : txL (x :: l) = (if x.k = 0 then [] else [x.t]) ++ txL l := by unfold txL; rw [List.flatMap_cons]
    rw [e, List.length_append, List.length_cons]
    split
    · rw [List.length_nil]; omega
    · rw [List.length_singleton]; omega
set_option maxRecDepth 100000 in
set_option maxHeartbeats 1600000 in
theorem Print_c (v : Value) (l : List LT) (w : World) (hr : Rd w v l) (hl : l.length ≤ 1000000) (hj : (Lib.join ((txL l).map (·.data.toList)) [32]).length ≤ 140737488355328) : Calls Tryd.prog 15 #[v] w fun E w' => E = .returned (.string (prS l)) ∧ Q w w' := by
  obtain ⟨i0, hi, hz0, hz1, hz2⟩ := info_parts infoS
  have HR := Lib.hid hr
  have HJ := Lib.hid hj
  obtain ⟨sA, sc, rfl, hle, _⟩ := hr
  obtain ⟨n, hn⟩ : ∃ n, l.length = n := ⟨_, rfl⟩
  have HN := Lib.hid hn
  rw [hn] at hl HR hle
  rw [hn]
  clear hn hj
  go_enter Tryd.func15, Tryd.ntmps15
  go_wp2_with fail
  go_loopw [3, 8] (fun v3 i wr => ∃ k : Nat, k ≤ n ∧ i = .int .i64 k ∧ Hid (OwnS w.heap.size v3 (txL (l.take k)) wr ∧ Q w wr)) (fun _ i _ => n - (intOf i).toNat)
  case atStart => exact ⟨0, by omega, rfl, ownS_nil _ _, Q.refl _⟩
  case round =>
    obtain ⟨k, hk, rfl, HI⟩ := hrel
    by_cases hlt : k < n
    · have hkl : k < l.length := by rw [HN.out]; exact hlt
      have HS := Lib.hid (txL_snoc l k hkl)
      have HT := Lib.hid (txL_len (l.take k))
      obtain ⟨rb, ro, rfl, hrb, hlc, hnl, c0, c1, c2, c3⟩ := HR.out.at HI.out.2 hkl
      obtain ⟨x, hx⟩ : ∃ x, l[k] = x := ⟨_, rfl⟩
      rw [hx] at c0 c1 c2 c3 HS
      obtain ⟨xk, xt, xn, xa⟩ := x
      simp only at c0 c1 c2 c3 HS
      have i1 : (0 : Int) ≤ (k : Int) := by omega
      have i2 : (k : Int) < (n : Int) := by omega
      have hz := HI.out.2.size
      clear hx hlc hnl
      by_cases h0 : xk = 0
      · subst h0
        go_wp2_with fail
        go_roundw
        case rel => exact ⟨k + 1, by omega, by go_num, by rw [HS.out, if_pos rfl, List.append_nil]; exact World.ownsRow.alloc HI.out.1 _, HI.out.2.alloc _⟩
        case measure => simp [intOf] <;> omega
      · have t0 : (xk != 0) = true := by simp; omega
        have t1 : (xk == 0) = false := by simp; omega
        have HS := Lib.hid (show txL (l.take (k + 1)) = txL (l.take k) ++ [xt] by rw [HS.out, if_neg h0])
        have RM := Lib.hid (roomS_of (n := (txL (l.take k)).length) (by have := HT.out; rw [List.length_take] at this; omega))
        obtain ⟨W3, hW3⟩ : ∃ W, wr.alloc (.cells #[.int .i64 xk, .string xt, .int .i64 xn, .int .i64 xa] 32) = W := ⟨_, rfl⟩
        have X3 := Lib.hid (show W3.heap[wr.heap.size]? = some (.cells #[.int .i64 xk, .string xt, .int .i64 xn, .int .i64 xa] 32 (0, 0)) by rw [← hW3]; exact new_blk wr _ _)
        have O3 := Lib.hid (show OwnS w.heap.size u3 (txL (l.take k)) W3 by rw [← hW3]; exact World.ownsRow.alloc HI.out.1 _)
        have B3 := Lib.hid (show Q w W3 by rw [← hW3]; exact HI.out.2.alloc _)
        obtain ⟨x0, x1, x2, x3, xf⟩ := blk4 X3.out
        have hown1 : W3.ownsRow w.heap.size 9 1 u3 (txL (l.take k)).length ((txL (l.take k)).map sV) := O3.out
        clear h0
        go_wp2_with (first
          | (at_builtin; refine wpList_append_own _ rfl _ _ 42 rfl w.heap.size 9 i0 (.string ⟨#[]⟩) 1 16 Tryd.underlying42 hi hz0 hz1 hz2 rfl (by decide) _ _ _ rfl (hown1.alloc _) ⟨W3.heap.size, 0, none⟩ 1 1 [.string xt] rfl rfl (oneS_at _ _ _) (oneS_cell _) RM.out.1 RM.out.2 (alloc_le B3.out.size _) ?_)
          | go_in)
        intro v' w4 hown' hgrow _
        have N := Lib.hid (ownS_next (c := xt) O3.out B3.out B3.out.size hown' hgrow)
        clear hown' hgrow hown1 hW3 x0 x1 x2 x3 xf
        go_wp2_with fail
        go_roundw
        case rel => exact ⟨k + 1, by omega, by go_num, by rw [HS.out]; exact N.out.1, N.out.2⟩
        case measure => simp [intOf] <;> omega
    · obtain rfl : k = n := by omega
      have HA := Lib.hid (show OwnS w.heap.size u3 (txL l) wr by have := HI.out.1; rwa [show l.take k = l by rw [← HN.out, List.take_length]] at this)
      have HQ := Lib.hid HI.out.2
      rcases ownS_form HA.out with ⟨A, c, rfl, h0⟩ | ⟨g, cap, rfl, h1, h2, h3, h4⟩
      · have HE := Lib.hid (show prS l = ⟨#[]⟩ by unfold prS; rw [h0]; rfl)
        have HC := Lib.hid (fun w => Tryd.strings_Join_none A c ⟨#[32]⟩ w)
        clear h0
        go_wp2_with fail
        refine (HC.out _).mono ?_; rintro E w5 ⟨rfl, rfl⟩
        go_wp2_with fail
        go_ret
        exact ⟨by rw [HE.out]; rfl, HQ.out⟩
      · have HC := Lib.hid (Tryd.strings_Join g 0 cap (txL l) ⟨#[32]⟩ wr h4 h3 (by have := txL_len l; have := HN.out; omega) h1 HJ.out)
        clear h1 h2 h3 h4
        go_wp2_with fail
        refine HC.out.mono ?_; rintro E w5 ⟨rfl, hq5⟩
        go_wp2_with fail
        go_ret
        exact ⟨rfl, HQ.out.trans hq5⟩
end Go.Proofs.YtlnfoknghfoffaaDoor
