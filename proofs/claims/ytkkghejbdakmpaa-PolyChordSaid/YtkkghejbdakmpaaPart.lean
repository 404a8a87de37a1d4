/- The contract of Chord's function literal: the part of the hull at a height. -/
import Derived.Test.YtkkghejbdakmpaaRound
import Derived.Test.YtkkghejbdakmpaaHull
set_option linter.unusedVariables false
set_option linter.unusedSimpArgs false
namespace Go.Proofs.Ytkkghejbdakmpaa
open Go.ChangeShapes Go.WideShapes Go.ChangeAt Go.RowKit Go.Shelf Pm

attribute [local go_sem] Oper.semAt_some
def BoxS (W : World) (B : Nat) (q : P) : Prop := W.heap[B]? = some (.cells #[.int .i64 q.1, .int .i64 q.2] 29 (0, 0))
theorem BoxS.lt {W : World} {B : Nat} {q : P} (h : BoxS W B q) : B < W.heap.size := (Array.getElem?_eq_some_iff.1 h).1
theorem BoxS.c0 {W : World} {B : Nat} {q : P} (h : BoxS W B q) : W.cell? ⟨B, 0, none⟩ = some (.int .i64 q.1) := by simp [World.cell?, show W.heap[B]? = _ from h]
theorem BoxS.c1 {W : World} {B : Nat} {q : P} (h : BoxS W B q) : W.cell? ⟨B, 1, none⟩ = some (.int .i64 q.2) := by simp [World.cell?, show W.heap[B]? = _ from h]
theorem BoxS.f0 {W : World} {B : Nat} {q : P} (h : BoxS W B q) : W.frozen? ⟨B, 0, none⟩ = false := by simp [World.frozen?, show W.heap[B]? = _ from h]
theorem BoxS.f1 {W : World} {B : Nat} {q : P} (h : BoxS W B q) : W.frozen? ⟨B, 1, none⟩ = false := by simp [World.frozen?, show W.heap[B]? = _ from h]
theorem BoxS.new (W : World) (q : P) : BoxS (W.alloc (.cells #[.int .i64 q.1, .int .i64 q.2] 29)) W.heap.size q := World.alloc_heap_new W _
theorem BoxS.kept {W W' : World} {row : Option Nat} {B : Nat} {q : P} (h : BoxS W B q) (hg : W.grownBy W' row) (hne : some B ≠ row) : BoxS W' B q := (hg.block B h.lt hne).trans h
theorem BoxS.alloc {W : World} {B : Nat} {q : P} (h : BoxS W B q) (o : Obj) : BoxS (W.alloc o) B q := h.kept (World.grownBy_alloc W o none) (by simp)
theorem BoxS.q {W W' : World} {B : Nat} {q : P} (h : BoxS W B q) (hq : Q W W') : BoxS W' B q := (hq.block B h.lt).trans h
theorem BoxS.own {β : Type} (B : Nat) (f : β → P) : _root_.Go.Own (fun s W => BoxS W B (f s)) := fun s X Y row hs hg hrow =>
  hs.kept hg (fun e' => by obtain ⟨o, ho, hc⟩ := hrow B e'.symm; rw [show X.heap[B]? = _ from hs] at ho; cases ho; cases hc)
theorem set_blk {W : World} {B i : Nat} {cs : Array Value} {t : TypeId} (v : Value) (h : W.heap[B]? = some (.cells cs t (0, 0))) : (W.setCell ⟨B, i, none⟩ v).heap[B]? = some (.cells (cs.setIfInBounds i v) t (0, 0)) := by
  obtain ⟨hlt, hk⟩ := Array.getElem?_eq_some_iff.1 h
  show (W.heap.modify B _)[B]? = _
  rw [Array.getElem?_eq_getElem (by rw [Array.size_modify]; exact hlt), Array.getElem_modify_self, hk]
  rfl
theorem BoxS.set0 {W : World} {B : Nat} {q : P} (h : BoxS W B q) (x : Int) : BoxS (W.setCell ⟨B, 0, none⟩ (.int .i64 x)) B (x, q.2) := set_blk _ h
theorem BoxS.set1 {W : World} {B : Nat} {q : P} (h : BoxS W B q) (x : Int) : BoxS (W.setCell ⟨B, 1, none⟩ (.int .i64 x)) B (q.1, x) := set_blk _ h
theorem BoxP.set0 {W : World} {B : Nat} {q : P} (h : BoxP W B q) (x : Int) : BoxP (W.setCell ⟨B, 0, none⟩ (.int .i64 x)) B (x, q.2) := set_blk _ h
theorem BoxP.set1 {W : World} {B : Nat} {q : P} (h : BoxP W B q) (x : Int) : BoxP (W.setCell ⟨B, 1, none⟩ (.int .i64 x)) B (q.1, x) := set_blk _ h
theorem far_blk {W : World} {B B' i : Nat} {o : Obj} (v : Value) (h : W.heap[B]? = some o) (hne : B ≠ B') : (W.setCell ⟨B', i, none⟩ v).heap[B]? = some o := (Below.heap_setCell _ _ _ _ hne).trans h
/-- what has come of the part -/
def parE (y : Int) : List EP → P := List.foldl (fun s x => addO y x.1.1 x.1.2 s) (top, least)
theorem parE_snoc (y : Int) (pre : List EP) (x : EP) : parE y (pre ++ [x]) = addO y x.1.1 x.1.2 (parE y pre) := by unfold parE; rw [List.foldl_append]; rfl
theorem parE_is (y : Int) (l : List P) (h : RL l) : ∀ k, parE y (eE l h k) = parA l y k
  | 0 => rfl
  | k + 1 => by rw [eE_succ, parE_snoc, parE_is y l h k]; rfl
/-- the boxes: the height, the result, what has come, the list -/
structure PB (b1 b2 b3 b4 : Nat) (y : Int) (v : Value) (s : P) (W : World) : Prop where
  ht : Boxed W b1 3 (.int .i64 y)
  re : BoxS W b2 (0, 0)
  pa : BoxS W b3 s
  ls : Boxed W b4 22 v
theorem PB.q {b1 b2 b3 b4 : Nat} {y : Int} {v : Value} {s : P} {W W' : World} (h : PB b1 b2 b3 b4 y v s W) (hq : Q W W') : PB b1 b2 b3 b4 y v s W' := ⟨Boxed.q h.ht hq, h.re.q hq, h.pa.q hq, Boxed.q h.ls hq⟩
theorem PB.own {β : Type} {b1 b2 b3 b4 : Nat} {y : Int} {v : Value} (f : β → P) : _root_.Go.Own (fun s W => PB b1 b2 b3 b4 y v (f s) W) := fun s X Y row hs hg hr =>
  ⟨boxed_own b1 _ (fun (_ : Unit) => Value.int .i64 y) () X Y row hs.ht hg hr, BoxS.own b2 (fun (_ : Unit) => ((0, 0) : P)) () X Y row hs.re hg hr, BoxS.own b3 f s X Y row hs.pa hg hr, boxed_own b4 _ (fun (_ : Unit) => v) () X Y row hs.ls hg hr⟩
/-- a store into a block of the round's own -/
theorem PB.far {b1 b2 b3 b4 B i : Nat} {y : Int} {v : Value} {s : P} {W : World} (h : PB b1 b2 b3 b4 y v s W) (u : Value) (h1 : b1 ≠ B) (h2 : b2 ≠ B) (h3 : b3 ≠ B) (h4 : b4 ≠ B) : PB b1 b2 b3 b4 y v s (W.setCell ⟨B, i, none⟩ u) :=
  ⟨far_blk u h.ht h1, far_blk u h.re h2, far_blk u h.pa h3, far_blk u h.ls h4⟩
theorem far_cell {W : World} {B B' j i : Nat} {v : Value} (u : Value) (h : W.cell? ⟨B, j, none⟩ = some v) (hne : B ≠ B') : (W.setCell ⟨B', i, none⟩ u).cell? ⟨B, j, none⟩ = some v := by
  rw [World.cell?_setCell_other]
  · exact h
  · intro k; injection k with k _; exact hne k.symm
theorem min_run (ts : Array TypeId) (t : TypeId) (a b m : Int) (w : World) (h : min a b = m) : (Builtin.min_ ts t #[.int .i64 a, .int .i64 b]).run Try.prog w = .ok (.int .i64 m) w := by
  subst h
  show ((Builtin.min2 (.int .i64 a) (.int .i64 b)) >>= fun x => pure x).run Try.prog w = _
  by_cases h : b < a
  · rw [Int.min_eq_right (by omega)]
    simp [Builtin.min2, h]
  · rw [Int.min_eq_left (by omega)]
    simp [Builtin.min2, h]
theorem max_run (ts : Array TypeId) (t : TypeId) (a b m : Int) (w : World) (h : max a b = m) : (Builtin.max_ ts t #[.int .i64 a, .int .i64 b]).run Try.prog w = .ok (.int .i64 m) w := by
  subst h
  show ((Builtin.max2 (.int .i64 a) (.int .i64 b)) >>= fun x => pure x).run Try.prog w = _
  by_cases h : a < b
  · rw [Int.max_eq_right (by omega)]
    simp [Builtin.max2, h]
  · rw [Int.max_eq_left (by omega)]
    simp [Builtin.max2, h]
theorem kp_set {n0 b B i : Nat} {W : World} (u : Value) (hn : n0 ≤ B) (hb : b ≠ B) : Kp n0 b W (W.setCell ⟨B, i, none⟩ u) := ⟨(Below.refl _ W).setCell (p := ⟨B, i, none⟩) hn _, Below.heap_setCell _ _ _ _ hb⟩
theorem part_end {n0 b1 b2 b3 b4 : Nat} {y : Int} {v : Value} {s : P} {w W W2 : World} {n1 n2 : Int} (h : PB b1 b2 b3 b4 y v s W2) (hk : KeepsOthers W W2) (hp : Kp n0 b4 W W2) (hb : Below n0 w W2) (e1 : b1 ≠ b3) (e2 : b2 ≠ b3) (e4 : b4 ≠ b3) (e0 : n0 ≤ b3) :
    KeepsOthers W (((W2.setCell ⟨b3, 0, none⟩ (.int .i64 n1)).setCell ⟨b3, 1, none⟩ (.int .i64 n2)).drew.drew.drew) ∧ Kp n0 b4 W (((W2.setCell ⟨b3, 0, none⟩ (.int .i64 n1)).setCell ⟨b3, 1, none⟩ (.int .i64 n2)).drew.drew.drew) ∧
    PB b1 b2 b3 b4 y v (n1, n2) (((W2.setCell ⟨b3, 0, none⟩ (.int .i64 n1)).setCell ⟨b3, 1, none⟩ (.int .i64 n2)).drew.drew.drew) ∧ Below n0 w (((W2.setCell ⟨b3, 0, none⟩ (.int .i64 n1)).setCell ⟨b3, 1, none⟩ (.int .i64 n2)).drew.drew.drew) := by
  have hp1 : Kp n0 b4 W2 ((W2.setCell ⟨b3, 0, none⟩ (.int .i64 n1)).setCell ⟨b3, 1, none⟩ (.int .i64 n2)) := (kp_set _ e0 e4).t (kp_set _ e0 e4)
  have hp2 : Kp n0 b4 W2 (((W2.setCell ⟨b3, 0, none⟩ (.int .i64 n1)).setCell ⟨b3, 1, none⟩ (.int .i64 n2)).drew.drew.drew) := ⟨((hp1.1.drew).drew).drew, hp1.2⟩
  refine ⟨((hk.trans (KeepsOthers.setCell _ _ _)).trans (KeepsOthers.setCell _ _ _)).trans (((KeepsOthers.drew _).trans (KeepsOthers.drew _)).trans (KeepsOthers.drew _)), hp.t hp2, ⟨?_, ?_, ?_, ?_⟩, hb.trans hp2.1⟩
  · exact far_blk _ (far_blk _ h.ht e1) e1
  · exact far_blk _ (far_blk _ h.re e2) e2
  · exact (BoxS.set1 (h.pa.set0 n1) n2 : BoxS _ _ _)
  · exact far_blk _ (far_blk _ h.ls e4) e4
set_option maxRecDepth 100000 in
set_option maxHeartbeats 8000000 in
theorem part_c (y : Int) (hb : Nat) (v : Value) (H : List P) (r : P) (h : Hid (Pm.part H y = r)) (hy : Fit y) (hR : Hid (RL H)) (hl : H.length ≤ 64) (w : World) (hr : RdP w v H) (hbx : Boxed w hb 22 v) : Calls Try.prog 54 #[.int .i64 y, .pointer (some ⟨hb, 0, none⟩)] w fun e w' => e = .returned (.agg #[.int .i64 r.1, .int .i64 r.2]) ∧ Q w w' := by
  have HR := Lib.hid hr
  obtain ⟨A, c, rfl, hcc, _⟩ := hr
  obtain ⟨n, hn⟩ : ∃ n, H.length = n := ⟨_, rfl⟩
  have HN := Lib.hid hn
  rw [hn] at HR hl hbx
  obtain ⟨hy1, hy2⟩ := hy
  have hhb := hbx.cell
  have hhlt := hbx.lt
  have hc3 : (((w.alloc (.cells #[.int .i64 y] 3)).alloc (.cells #[.int .i64 0, .int .i64 0] 29)).alloc (.cells #[.int .i64 9223372036854775807, .int .i64 (-9223372036854775808)] 29)).cell? ⟨hb, 0, none⟩ = some (.slice A n c) := (((((Q.refl w).alloc _).alloc _).alloc _).cell (p := ⟨hb, 0, none⟩) hhlt).trans hhb
  clear hcc hn
  refine (callsIn_wide (n := 5)).1 ?_
  refine callsIn_of_wp_marks Try.func54 rfl trivial ?_ rfl
  simp only [Try.ntmps54, List.size_toArray, List.length_cons, List.length_nil, Nat.reduceAdd, Nat.reduceSub, Array.replicate_succ, Array.replicate_zero, List.push_toArray, List.append_toArray, List.nil_append, List.cons_append]
  gi_wp2_with fail
  refine ⟨trivial, ?_⟩
  refine (edges_in _ _ _ _ _).mono ?_
  rintro e w' ⟨rfl, rfl⟩
  gi_wp2_with fail
  have p1 := (((Boxed.new w 3 (.int .i64 y)).alloc (.cells #[.int .i64 0, .int .i64 0] 29)).alloc (.cells #[.int .i64 9223372036854775807, .int .i64 (-9223372036854775808)] 29)).alloc (.cells #[.slice A n c] 22)
  have p2 := ((BoxS.new (w.alloc (.cells #[.int .i64 y] 3)) (0, 0)).alloc (.cells #[.int .i64 9223372036854775807, .int .i64 (-9223372036854775808)] 29)).alloc (.cells #[.slice A n c] 22)
  have p3 := (BoxS.new ((w.alloc (.cells #[.int .i64 y] 3)).alloc (.cells #[.int .i64 0, .int .i64 0] 29)) (9223372036854775807, -9223372036854775808)).alloc (.cells #[.slice A n c] 22)
  have p4 := Boxed.new (((w.alloc (.cells #[.int .i64 y] 3)).alloc (.cells #[.int .i64 0, .int .i64 0] 29)).alloc (.cells #[.int .i64 9223372036854775807, .int .i64 (-9223372036854775808)] 29)) 22 (.slice A n c)
  simp only [World.size_alloc] at p2 p3 p4
  have hB0 : Below w.heap.size w ((((w.alloc (.cells #[.int .i64 y] 3)).alloc (.cells #[.int .i64 0, .int .i64 0] 29)).alloc (.cells #[.int .i64 9223372036854775807, .int .i64 (-9223372036854775808)] 29)).alloc (.cells #[.slice A n c] 22)) := (((((Q.refl w).alloc _).alloc _).alloc _).alloc _)
  have hsz : ((((w.alloc (.cells #[.int .i64 y] 3)).alloc (.cells #[.int .i64 0, .int .i64 0] 29)).alloc (.cells #[.int .i64 9223372036854775807, .int .i64 (-9223372036854775808)] 29)).alloc (.cells #[.slice A n c] 22)).heap.size = w.heap.size + 4 := by simp
  have hP0 : PB w.heap.size (w.heap.size + 1) (w.heap.size + 1 + 1) (w.heap.size + 1 + 1 + 1) y (.slice A n c) (parE y []) ((((w.alloc (.cells #[.int .i64 y] 3)).alloc (.cells #[.int .i64 0, .int .i64 0] 29)).alloc (.cells #[.int .i64 9223372036854775807, .int .i64 (-9223372036854775808)] 29)).alloc (.cells #[.slice A n c] 22)) := ⟨p1, p2, p3, p4⟩
  obtain ⟨W0, hW0⟩ : ∃ W0, (((w.alloc (.cells #[.int .i64 y] 3)).alloc (.cells #[.int .i64 0, .int .i64 0] 29)).alloc (.cells #[.int .i64 9223372036854775807, .int .i64 (-9223372036854775808)] 29)).alloc (.cells #[.slice A n c] 22) = W0 := ⟨_, rfl⟩
  rw [hW0] at hB0 hsz hP0 ⊢
  clear hW0 p1 p2 p3 p4 hc3 hhb
  refine wpIn_rangeFunc_ownH rfl (by omega) (gf := 57) (lb := #[.pointer (some ⟨w.heap.size + 1 + 1 + 1, 0, none⟩)]) rfl trivial (enters_of Try.func57 (by kernel_rfl) rfl)
    (edges_stops _ (by omega) (w.heap.size + 1 + 1 + 1) w.heap.size _ H hR.out (by rw [HN.out]; omega) W0 (by omega) (by omega) hP0.ls.cell w rfl HR.out hB0) Kp.t (Kp.b (by omega) (by omega)) (Below.refl _ _) (fun _ => rfl)
    (fun pre W => PB w.heap.size (w.heap.size + 1) (w.heap.size + 1 + 1) (w.heap.size + 1 + 1 + 1) y (.slice A n c) (parE y pre) W ∧ Below w.heap.size w W)
    (fun _ _ _ => False)
    (OwnFrom.and (_root_.Go.Own.from (PB.own _) _) (ownFrom_below (Nat.le_refl _) (by omega)))
    (fun _ _ _ _ _ hs _ _ => hs)
    ⟨hP0, hB0⟩
    (fun x a' W => Two (w.heap.size + 1 + 1 + 1) x.1 a' (fun B1 B2 => #[.int .i64 y, .pointer (some ⟨hb, 0, none⟩), .pointer (some ⟨w.heap.size, 0, none⟩), .pointer (some ⟨w.heap.size + 1, 0, none⟩), .pointer (some ⟨w.heap.size + 1 + 1, 0, none⟩), .pointer (some ⟨B1, 0, none⟩), .pointer (some ⟨B2, 0, none⟩), undef, undef, .agg #[.int .i64 9223372036854775807, .int .i64 (-9223372036854775808)], .slice A n c, .func (.func 57) #[] #[.pointer (some ⟨w.heap.size + 1 + 1 + 1, 0, none⟩)], pv x.1.1, pv x.1.2, undef, undef, undef, undef, undef, undef, undef, undef, undef, undef, undef, undef, undef, undef, undef, undef, undef, undef, undef, undef, undef, undef, undef, undef, undef, undef, undef, undef, undef, undef, undef, undef, undef, undef, undef, undef, undef, undef, undef, undef, undef, undef, undef, undef, undef, undef, undef, undef, undef, undef, undef, undef, undef, undef, undef, undef, undef, undef, undef, undef, undef] ) W)
    (fun x a' => two_own)
    ?assign ?body ?done ?stop
  case assign =>
    rintro l' pre ⟨⟨⟨a1, a2⟩, b1, b2⟩, hx⟩ W K ⟨hH, hB1⟩ hK
    unfold pv at hK ⊢
    dsimp only at hK ⊢
    gi_wp2
    have hle := hB1.size
    have hq : Q W ((W.alloc (.cells #[.int .i64 a1, .int .i64 a2] 38)).alloc (.cells #[.int .i64 b1, .int .i64 b2] 38)) := ((Q.refl W).alloc _).alloc _
    refine hK _ _ (((KeepsOthers.alloc _ _).trans (KeepsOthers.alloc _ _)).from _) ⟨hq.mono hle, hq.block _ hH.ls.lt⟩ ⟨hH.q hq, hB1.trans (hq.mono hle)⟩
      ⟨W.heap.size, W.heap.size + 1, hH.ls.lt, by have := hH.ls.lt; omega, by omega, (BoxP.new W (a1, a2)).alloc _, ?_, rfl⟩
    have := BoxP.new (W.alloc (.cells #[.int .i64 a1, .int .i64 a2] 38)) (b1, b2)
    rw [World.size_alloc] at this
    exact this
  case body =>
    rintro l' pre ⟨⟨⟨a1, a2⟩, b1, b2⟩, hx1, hx2⟩ a' W hl' ⟨r', hr'⟩ ⟨hH, hB1⟩ ⟨B1, B2, hB1', hB2', hne, bx1, bx2, rfl⟩ hlt
    have HX := Lib.hid (show inP (a1, a2) = true ∧ inP (b1, b2) = true from ⟨hx1, hx2⟩)
    have HH := Lib.hid hH
    have HBB := Lib.hid hB1
    have HBX := Lib.hid (show BoxP W B1 (a1, a2) ∧ BoxP W B2 (b1, b2) from ⟨bx1, bx2⟩)
    have HST := Lib.hid (parE_snoc y pre ⟨((a1, a2), b1, b2), hx1, hx2⟩)
    obtain ⟨S, hS⟩ : ∃ S, parE y pre = S := ⟨_, rfl⟩
    rw [hS] at HH HST
    clear hS
    obtain ⟨⟨i1, i2⟩, i3, i4⟩ := inP_yes hx1
    obtain ⟨⟨j1, j2⟩, j3, j4⟩ := inP_yes hx2
    dsimp only at i1 i2 i3 i4 j1 j2 j3 j4
    -- WAYS
    by_cases hsw : b2 < a2
    · have HEQ := Lib.hid (show parE y (pre ++ [⟨((a1, a2), b1, b2), hx1, hx2⟩]) = addE y (b1, b2) (a1, a2) S by rw [HST.out]; unfold addO; rw [if_pos hsw])
      have c0 := bx1.c0
      have c1 := bx1.c1
      have d0 := bx2.c0
      have d1 := bx2.c1
      have f0 := bx1.f0
      have f1 := bx1.f1
      have e0 := bx2.f0
      have e1 := bx2.f1
      dsimp only at c0 c1 d0 d1
      obtain ⟨W2, hW2⟩ : ∃ W2, (((W.setCell ⟨B1, 0, none⟩ (.int .i64 b1)).setCell ⟨B1, 1, none⟩ (.int .i64 b2)).setCell ⟨B2, 0, none⟩ (.int .i64 a1)).setCell ⟨B2, 1, none⟩ (.int .i64 a2) = W2 := ⟨_, rfl⟩
      have HBP := Lib.hid (show BoxP W2 B1 (b1, b2) ∧ BoxP W2 B2 (a1, a2) by rw [← hW2]; exact ⟨far_blk _ (far_blk _ ((bx1.set0 b1).set1 b2) hne) hne, (BoxP.set0 (q := (b1, b2)) (far_blk _ (far_blk _ bx2 (Ne.symm hne)) (Ne.symm hne)) a1).set1 a2⟩)
      have HP2 := Lib.hid (show PB w.heap.size (w.heap.size + 1) (w.heap.size + 1 + 1) (w.heap.size + 1 + 1 + 1) y (.slice A n c) S W2 by rw [← hW2]; exact (((HH.out.far _ (by omega) (by omega) (by omega) (by omega)).far _ (by omega) (by omega) (by omega) (by omega)).far _ (by omega) (by omega) (by omega) (by omega)).far _ (by omega) (by omega) (by omega) (by omega))
      have HKP : Kp w.heap.size (w.heap.size + 1 + 1 + 1) W W2 := by rw [← hW2]; exact (((kp_set _ (by omega) (by omega)).t (kp_set _ (by omega) (by omega))).t (kp_set _ (by omega) (by omega))).t (kp_set _ (by omega) (by omega))
      have HW2K := Lib.hid (show KeepsOthers W W2 ∧ Kp w.heap.size (w.heap.size + 1 + 1 + 1) W W2 ∧ Below w.heap.size w W2 from ⟨by rw [← hW2]; exact (((KeepsOthers.setCell _ _ _).trans (KeepsOthers.setCell _ _ _)).trans (KeepsOthers.setCell _ _ _)).trans (KeepsOthers.setCell _ _ _), HKP, HBB.out.trans HKP.below⟩)
      have hle : b2 ≤ a2 := by omega
      clear hr' hlt bx1 bx2 hH hB1 HKP
      have u0 := HBP.out.1.c0
      have u1 := HBP.out.1.c1
      have v0 := HBP.out.2.c0
      have v1 := HBP.out.2.c1
      have yc := HP2.out.ht.cell
      dsimp only at u0 u1 v0 v1
      by_cases z1 : b2 = a2
      · have z1' : (b2 == a2) = true := by simp [z1]
        have HV := Lib.hid (show addE y (b1, b2) (a1, a2) S = S by unfold addE; rw [if_pos (.inl z1)])
        clear z1
        gi_wp2
        exact ⟨HW2K.out.1.from _, HW2K.out.2.1, by rw [HEQ.out, HV.out]; exact HP2.out, HW2K.out.2.2⟩
      · have z1' : (b2 == a2) = false := by simp [z1]
        by_cases z2 : y < b2
        · have HV := Lib.hid (show addE y (b1, b2) (a1, a2) S = S by unfold addE; rw [if_pos (.inr (.inl z2))])
          clear z1
          gi_wp2
          exact ⟨HW2K.out.1.from _, HW2K.out.2.1, by rw [HEQ.out, HV.out]; exact HP2.out, HW2K.out.2.2⟩
        · have z2' : decide (y < b2) = false := decide_eq_false z2
          by_cases z3 : a2 < y
          · have HV := Lib.hid (show addE y (b1, b2) (a1, a2) S = S by unfold addE; rw [if_pos (.inr (.inr z3))])
            clear z1
            gi_wp2
            exact ⟨HW2K.out.1.from _, HW2K.out.2.1, by rw [HEQ.out, HV.out]; exact HP2.out, HW2K.out.2.2⟩
          · have z3' : decide (a2 < y) = false := decide_eq_false z3
            obtain ⟨d1, hd1⟩ : ∃ z, a1 - b1 = z := ⟨_, rfl⟩
            obtain ⟨d2, hd2⟩ : ∃ z, y - b2 = z := ⟨_, rfl⟩
            obtain ⟨d3, hd3⟩ : ∃ z, a2 - b2 = z := ⟨_, rfl⟩
            have hm := mul_bd (a := d1) (b := d2) (A := 1200) (B := 1200) (by omega) (by omega) (by omega) (by omega)
            have HV := Lib.hid (show addE y (b1, b2) (a1, a2) S = (min S.1 (b1 - -(d1 * d2) / d3), max S.2 (b1 + d1 * d2 / d3)) by unfold addE; rw [if_neg (by simp only [not_or]; exact ⟨z1, z2, z3⟩)]; dsimp only; rw [hd1, hd2, hd3])
            obtain ⟨pr, hpr⟩ : ∃ z, d1 * d2 = z := ⟨_, rfl⟩
            rw [hpr] at hm HV
            have h3 : 0 < d3 := by omega
            have h3' : d3 ≤ 1200 := by omega
            obtain ⟨m1, m2⟩ := hm
            have g1 : -1440000 ≤ -pr / d3 := Int.le_ediv_of_mul_le h3 (by omega)
            have g2 : -pr / d3 ≤ 1440000 := Int.ediv_le_of_le_mul h3 (by omega)
            have g3 : -1440000 ≤ pr / d3 := Int.le_ediv_of_mul_le h3 (by omega)
            have g4 : pr / d3 ≤ 1440000 := Int.ediv_le_of_le_mul h3 (by omega)
            obtain ⟨t1, ht1⟩ : ∃ z, -pr / d3 = z := ⟨_, rfl⟩
            obtain ⟨t2, ht2⟩ : ∃ z, pr / d3 = z := ⟨_, rfl⟩
            rw [ht1] at g1 g2 HV
            rw [ht2] at g3 g4 HV
            have HF1 := Lib.hid ht1
            have HF2 := Lib.hid ht2
            obtain ⟨S1, S2⟩ := S
            have s0 := HP2.out.pa.c0
            have s1 := HP2.out.pa.c1
            have sf0 := HP2.out.pa.f0
            have sf1 := HP2.out.pa.f1
            dsimp only at s0 s1 HV
            obtain ⟨n1, hn1⟩ : ∃ z, min S1 (b1 - t1) = z := ⟨_, rfl⟩
            obtain ⟨n2, hn2⟩ : ∃ z, max S2 (b1 + t2) = z := ⟨_, rfl⟩
            rw [hn1, hn2] at HV
            have hmx : Try.prog.follows .mixedOrders = true := by kernel_rfl
            have sx1 := (HP2.out.pa.set0 n1).c1
            have sy := (HP2.out.pa.set0 n1).f1
            have ux0 := far_cell (.int .i64 n1) u0 (show B1 ≠ w.heap.size + 1 + 1 by omega) (i := 0)
            dsimp only at sx1
            have w1 : IntKind.i64.wrap (a1 - b1) = d1 := by rw [hd1]; exact IntWalk.i64_in _ (by omega)
            have w2 : IntKind.i64.wrap (y - b2) = d2 := by rw [hd2]; exact IntWalk.i64_in _ (by omega)
            have w3 : IntKind.i64.wrap (a2 - b2) = d3 := by rw [hd3]; exact IntWalk.i64_in _ (by omega)
            have w4 : IntKind.i64.wrap (d1 * d2) = pr := by rw [hpr]; exact IntWalk.i64_in _ (by omega)
            have w5 : IntKind.i64.wrap (-pr) = -pr := IntWalk.i64_in _ (by omega)
            have w6 : IntKind.i64.wrap (b1 - t1) = b1 - t1 := IntWalk.i64_in _ (by omega)
            have w7 : IntKind.i64.wrap (b1 + t2) = b1 + t2 := IntWalk.i64_in _ (by omega)
            have rmn : ∀ ts ty W, (Builtin.min_ ts ty #[.int .i64 S1, .int .i64 (b1 - t1)]).run Try.prog W = .ok (.int .i64 n1) W := fun ts ty W => min_run ts ty _ _ n1 W hn1
            have rmx : ∀ ts ty W, (Builtin.max_ ts ty #[.int .i64 S2, .int .i64 (b1 + t2)]).run Try.prog W = .ok (.int .i64 n2) W := fun ts ty W => max_run ts ty _ _ n2 W hn2
            have HB3 := Lib.hid (show -10000000 ≤ pr ∧ pr ≤ 10000000 ∧ 0 < d3 ∧ d3 ≤ 10000000 by omega)
            clear hd1 hd2 hd3 hpr ht1 ht2 hn1 hn2 z1
            gi_wp2
            refine region_still_round hmx (by kernel_rfl) (by kernel_rfl) ?_
            repeat still_step
            refine wpStill_nil ?_
            gi_wp2
            refine region_tail_round 11 hmx (by kernel_rfl) (by kernel_rfl) ?_
            simp only [List.take_succ_cons, List.take_zero, List.drop_succ_cons, List.drop_zero]
            repeat still_step
            still_call ((floor_c (-pr) d3 t1 HF1 HB3.out.2.2.1 HB3.out.2.2.2 (by have := HB3.out; omega) (by have := HB3.out; omega) _).mono fun _ _ ⟨a, b⟩ => ⟨a, b.symm⟩)
            repeat still_step
            refine wpStill_nil ?_
            gi_wp2
            refine region_tail_round 10 hmx (by kernel_rfl) (by kernel_rfl) ?_
            simp only [List.take_succ_cons, List.take_zero, List.drop_succ_cons, List.drop_zero]
            repeat still_step
            still_call ((floor_c pr d3 t2 HF2 HB3.out.2.2.1 HB3.out.2.2.2 HB3.out.1 HB3.out.2.1 _).mono fun _ _ ⟨a, b⟩ => ⟨a, b.symm⟩)
            repeat still_step
            refine wpStill_nil ?_
            gi_wp2
            have HE := part_end HP2.out HW2K.out.1 HW2K.out.2.1 HW2K.out.2.2 (n1 := n1) (n2 := n2) (by omega) (by omega) (by omega) (by omega)
            exact ⟨HE.1.from _, HE.2.1, by rw [HEQ.out, HV.out]; exact HE.2.2.1, HE.2.2.2⟩
    · have HEQ := Lib.hid (show parE y (pre ++ [⟨((a1, a2), b1, b2), hx1, hx2⟩]) = addE y (a1, a2) (b1, b2) S by rw [HST.out]; unfold addO; rw [if_neg hsw])
      obtain ⟨W2, hW2⟩ : ∃ W2, W2 = W := ⟨_, rfl⟩
      subst hW2
      have HBP := Lib.hid (show BoxP W2 B1 (a1, a2) ∧ BoxP W2 B2 (b1, b2) from ⟨bx1, bx2⟩)
      have HP2 := Lib.hid (show PB w.heap.size (w.heap.size + 1) (w.heap.size + 1 + 1) (w.heap.size + 1 + 1 + 1) y (.slice A n c) S W2 from HH.out)
      have HW2K := Lib.hid (show KeepsOthers W2 W2 ∧ Kp w.heap.size (w.heap.size + 1 + 1 + 1) W2 W2 ∧ Below w.heap.size w W2 from ⟨KeepsOthers.refl _, Kp.refl _, HBB.out⟩)
      have hle : a2 ≤ b2 := by omega
      have hsw' : decide (b2 < a2) = false := decide_eq_false hsw
      clear hr' hlt bx1 bx2 hH hB1 HBX HH HBB
      have u0 := HBP.out.1.c0
      have u1 := HBP.out.1.c1
      have v0 := HBP.out.2.c0
      have v1 := HBP.out.2.c1
      have yc := HP2.out.ht.cell
      dsimp only at u0 u1 v0 v1
      by_cases z1 : a2 = b2
      · have z1' : (a2 == b2) = true := by simp [z1]
        have HV := Lib.hid (show addE y (a1, a2) (b1, b2) S = S by unfold addE; rw [if_pos (.inl z1)])
        clear z1
        gi_wp2
        exact ⟨HW2K.out.1.from _, HW2K.out.2.1, by rw [HEQ.out, HV.out]; exact HP2.out, HW2K.out.2.2⟩
      · have z1' : (a2 == b2) = false := by simp [z1]
        by_cases z2 : y < a2
        · have HV := Lib.hid (show addE y (a1, a2) (b1, b2) S = S by unfold addE; rw [if_pos (.inr (.inl z2))])
          clear z1
          gi_wp2
          exact ⟨HW2K.out.1.from _, HW2K.out.2.1, by rw [HEQ.out, HV.out]; exact HP2.out, HW2K.out.2.2⟩
        · have z2' : decide (y < a2) = false := decide_eq_false z2
          by_cases z3 : b2 < y
          · have HV := Lib.hid (show addE y (a1, a2) (b1, b2) S = S by unfold addE; rw [if_pos (.inr (.inr z3))])
            clear z1
            gi_wp2
            exact ⟨HW2K.out.1.from _, HW2K.out.2.1, by rw [HEQ.out, HV.out]; exact HP2.out, HW2K.out.2.2⟩
          · have z3' : decide (b2 < y) = false := decide_eq_false z3
            obtain ⟨d1, hd1⟩ : ∃ z, b1 - a1 = z := ⟨_, rfl⟩
            obtain ⟨d2, hd2⟩ : ∃ z, y - a2 = z := ⟨_, rfl⟩
            obtain ⟨d3, hd3⟩ : ∃ z, b2 - a2 = z := ⟨_, rfl⟩
            have hm := mul_bd (a := d1) (b := d2) (A := 1200) (B := 1200) (by omega) (by omega) (by omega) (by omega)
            have HV := Lib.hid (show addE y (a1, a2) (b1, b2) S = (min S.1 (a1 - -(d1 * d2) / d3), max S.2 (a1 + d1 * d2 / d3)) by unfold addE; rw [if_neg (by simp only [not_or]; exact ⟨z1, z2, z3⟩)]; dsimp only; rw [hd1, hd2, hd3])
            obtain ⟨pr, hpr⟩ : ∃ z, d1 * d2 = z := ⟨_, rfl⟩
            rw [hpr] at hm HV
            have h3 : 0 < d3 := by omega
            have h3' : d3 ≤ 1200 := by omega
            obtain ⟨m1, m2⟩ := hm
            have g1 : -1440000 ≤ -pr / d3 := Int.le_ediv_of_mul_le h3 (by omega)
            have g2 : -pr / d3 ≤ 1440000 := Int.ediv_le_of_le_mul h3 (by omega)
            have g3 : -1440000 ≤ pr / d3 := Int.le_ediv_of_mul_le h3 (by omega)
            have g4 : pr / d3 ≤ 1440000 := Int.ediv_le_of_le_mul h3 (by omega)
            obtain ⟨t1, ht1⟩ : ∃ z, -pr / d3 = z := ⟨_, rfl⟩
            obtain ⟨t2, ht2⟩ : ∃ z, pr / d3 = z := ⟨_, rfl⟩
            rw [ht1] at g1 g2 HV
            rw [ht2] at g3 g4 HV
            have HF1 := Lib.hid ht1
            have HF2 := Lib.hid ht2
            obtain ⟨S1, S2⟩ := S
            have s0 := HP2.out.pa.c0
            have s1 := HP2.out.pa.c1
            have sf0 := HP2.out.pa.f0
            have sf1 := HP2.out.pa.f1
            dsimp only at s0 s1 HV
            obtain ⟨n1, hn1⟩ : ∃ z, min S1 (a1 - t1) = z := ⟨_, rfl⟩
            obtain ⟨n2, hn2⟩ : ∃ z, max S2 (a1 + t2) = z := ⟨_, rfl⟩
            rw [hn1, hn2] at HV
            have hmx : Try.prog.follows .mixedOrders = true := by kernel_rfl
            have sx1 := (HP2.out.pa.set0 n1).c1
            have sy := (HP2.out.pa.set0 n1).f1
            have ux0 := far_cell (.int .i64 n1) u0 (show B1 ≠ w.heap.size + 1 + 1 by omega) (i := 0)
            dsimp only at sx1
            have w1 : IntKind.i64.wrap (b1 - a1) = d1 := by rw [hd1]; exact IntWalk.i64_in _ (by omega)
            have w2 : IntKind.i64.wrap (y - a2) = d2 := by rw [hd2]; exact IntWalk.i64_in _ (by omega)
            have w3 : IntKind.i64.wrap (b2 - a2) = d3 := by rw [hd3]; exact IntWalk.i64_in _ (by omega)
            have w4 : IntKind.i64.wrap (d1 * d2) = pr := by rw [hpr]; exact IntWalk.i64_in _ (by omega)
            have w5 : IntKind.i64.wrap (-pr) = -pr := IntWalk.i64_in _ (by omega)
            have w6 : IntKind.i64.wrap (a1 - t1) = a1 - t1 := IntWalk.i64_in _ (by omega)
            have w7 : IntKind.i64.wrap (a1 + t2) = a1 + t2 := IntWalk.i64_in _ (by omega)
            have rmn : ∀ ts ty W, (Builtin.min_ ts ty #[.int .i64 S1, .int .i64 (a1 - t1)]).run Try.prog W = .ok (.int .i64 n1) W := fun ts ty W => min_run ts ty _ _ n1 W hn1
            have rmx : ∀ ts ty W, (Builtin.max_ ts ty #[.int .i64 S2, .int .i64 (a1 + t2)]).run Try.prog W = .ok (.int .i64 n2) W := fun ts ty W => max_run ts ty _ _ n2 W hn2
            have HB3 := Lib.hid (show -10000000 ≤ pr ∧ pr ≤ 10000000 ∧ 0 < d3 ∧ d3 ≤ 10000000 by omega)
            clear hd1 hd2 hd3 hpr ht1 ht2 hn1 hn2 z1
            gi_wp2
            refine region_still_round hmx (by kernel_rfl) (by kernel_rfl) ?_
            repeat still_step
            refine wpStill_nil ?_
            gi_wp2
            refine region_tail_round 11 hmx (by kernel_rfl) (by kernel_rfl) ?_
            simp only [List.take_succ_cons, List.take_zero, List.drop_succ_cons, List.drop_zero]
            repeat still_step
            still_call ((floor_c (-pr) d3 t1 HF1 HB3.out.2.2.1 HB3.out.2.2.2 (by have := HB3.out; omega) (by have := HB3.out; omega) _).mono fun _ _ ⟨a, b⟩ => ⟨a, b.symm⟩)
            repeat still_step
            refine wpStill_nil ?_
            gi_wp2
            refine region_tail_round 10 hmx (by kernel_rfl) (by kernel_rfl) ?_
            simp only [List.take_succ_cons, List.take_zero, List.drop_succ_cons, List.drop_zero]
            repeat still_step
            still_call ((floor_c pr d3 t2 HF2 HB3.out.2.2.1 HB3.out.2.2.2 HB3.out.1 HB3.out.2.1 _).mono fun _ _ ⟨a, b⟩ => ⟨a, b.symm⟩)
            repeat still_step
            refine wpStill_nil ?_
            gi_wp2
            have HE := part_end HP2.out HW2K.out.1 HW2K.out.2.1 HW2K.out.2.2 (n1 := n1) (n2 := n2) (by omega) (by omega) (by omega) (by omega)
            exact ⟨HE.1.from _, HE.2.1, by rw [HEQ.out, HV.out]; exact HE.2.2.1, HE.2.2.2⟩
    -- END
  case done =>
    rintro D zs W hD rfl ⟨hH, hB1⟩ hK
    have c0 := hH.pa.c0
    have c1 := hH.pa.c1
    have f0 := hH.re.f0
    have f1 := hH.re.f1
    have hst := (hH.re.set0 (parE y (eE H hR.out H.length)).1).set1 (parE y (eE H hR.out H.length)).2
    rw [parE_is, show parA H y H.length = Pm.part H y from rfl, h.out] at c0 c1 hst
    obtain ⟨r1, r2⟩ := r
    have k0 := hH.re.c0
    have k1 := (hH.re.set0 r1).c1
    dsimp only at c0 c1 hst k0 k1 ⊢
    gi_wp2
    have hK' := far_blk (i := 1) (.int .i64 r2) (far_blk (i := 0) (.int .i64 r1) hK (show D ≠ w.heap.size + 1 by omega)) (show D ≠ w.heap.size + 1 by omega)
    refine ⟨by simp, .inl ⟨_, _, rfl, run_takeDeferred hK', ?_⟩⟩
    have hc5 := cell_kept hst.c0 (grownBy_putObj' _ D (.deferred none)) (fun r e => by cases e; exact ⟨_, hK', rfl⟩)
    have hc6 := cell_kept hst.c1 (grownBy_putObj' _ D (.deferred none)) (fun r e => by cases e; exact ⟨_, hK', rfl⟩)
    refine ⟨.agg #[.int .i64 r1, .int .i64 r2], ?_, rfl, ((hB1.setCell (p := ⟨w.heap.size + 1, 0, none⟩) (by simp) _).setCell (p := ⟨w.heap.size + 1, 1, none⟩) (by simp) _).trans (belowK_b (w := w) (Nat.le_refl _) _ D _ _ (by omega) hK' rfl rfl)⟩
    simp [results, Try.f54, go_sem, hc5, hc6]
  case stop =>
    rintro D c pre W _ _ h _
    exact h.elim
end Go.Proofs.Ytkkghejbdakmpaa
