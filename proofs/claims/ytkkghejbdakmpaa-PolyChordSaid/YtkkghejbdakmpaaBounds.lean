/- The contracts of both Bounds. -/
import Derived.Test.YtkkghejbdakmpaaPart
set_option linter.unusedVariables false
set_option linter.unusedSimpArgs false
namespace Go.Proofs.Ytkkghejbdakmpaa
open Go.ChangeShapes Go.WideShapes Go.ChangeAt Go.RowKit Go.Shelf Pm

def gx (l : List P) (i : Nat) : Int := (g l i).1
def gy (l : List P) (i : Nat) : Int := (g l i).2
/-- the four numbers of a rectangle -/
abbrev R4 := (Int × Int) × Int × Int
def bnd (l : List P) : R4 := if l.length = 0 then ((0, 0), 0, 0) else ((loN (gx l) l.length, hiN (gx l) l.length), loN (gy l) l.length, hiN (gy l) l.length)
def bAt (l : List P) (k : Nat) : R4 := ((loN (gx l) k, hiN (gx l) k), loN (gy l) k, hiN (gy l) k)
def BoxR (W : World) (B : Nat) (r : R4) : Prop := W.heap[B]? = some (.cells #[.int .i64 r.1.1, .int .i64 r.1.2, .int .i64 r.2.1, .int .i64 r.2.2] 31 (0, 0))
theorem BoxR.new (W : World) (r : R4) : BoxR (W.alloc (.cells #[.int .i64 r.1.1, .int .i64 r.1.2, .int .i64 r.2.1, .int .i64 r.2.2] 31)) W.heap.size r := World.alloc_heap_new W _
theorem BoxR.lt {W : World} {B : Nat} {r : R4} (h : BoxR W B r) : B < W.heap.size := (Array.getElem?_eq_some_iff.1 h).1
theorem BoxR.cs {W : World} {B : Nat} {r : R4} (h : BoxR W B r) : W.cell? ⟨B, 0, none⟩ = some (.int .i64 r.1.1) ∧ W.cell? ⟨B, 1, none⟩ = some (.int .i64 r.1.2) ∧ W.cell? ⟨B, 2, none⟩ = some (.int .i64 r.2.1) ∧ W.cell? ⟨B, 3, none⟩ = some (.int .i64 r.2.2) := by
  simp [World.cell?, show W.heap[B]? = _ from h]
theorem BoxR.fs {W : World} {B : Nat} {r : R4} (h : BoxR W B r) : W.frozen? ⟨B, 0, none⟩ = false ∧ W.frozen? ⟨B, 1, none⟩ = false ∧ W.frozen? ⟨B, 2, none⟩ = false ∧ W.frozen? ⟨B, 3, none⟩ = false := by
  simp [World.frozen?, show W.heap[B]? = _ from h]
theorem BoxR.q {W W' : World} {B : Nat} {r : R4} (h : BoxR W B r) (hq : Q W W') : BoxR W' B r := (hq.block B h.lt).trans h
theorem BoxR.setX {W : World} {B : Nat} {r : R4} (h : BoxR W B r) (a b : Int) : BoxR ((W.setCell ⟨B, 0, none⟩ (.int .i64 a)).setCell ⟨B, 1, none⟩ (.int .i64 b)) B ((a, b), r.2) := set_blk _ (set_blk _ h)
theorem BoxR.setY {W : World} {B : Nat} {r : R4} (h : BoxR W B r) (a b : Int) : BoxR ((W.setCell ⟨B, 2, none⟩ (.int .i64 a)).setCell ⟨B, 3, none⟩ (.int .i64 b)) B (r.1, (a, b)) := set_blk _ (set_blk _ h)
def rv4 (r : R4) : Value := .agg #[.int .i64 r.1.1, .int .i64 r.1.2, .int .i64 r.2.1, .int .i64 r.2.2]
/-- the loop of Bounds: the rectangle's box, the result's, and what was before -/
structure BoI (l : List P) (w : World) (sb k : Nat) (W : World) : Prop where
  b : BoxR W sb (bAt l k)
  z : BoxR W w.heap.size ((0, 0), 0, 0)
  q : Q w W
set_option maxRecDepth 100000 in
set_option maxHeartbeats 3200000 in
theorem Bounds_c (v : Value) (l : List P) (r : R4) (h : Hid (bnd l = r)) (w : World) (hr : RdP w v l) (hl : l.length ≤ maxLen) : Calls Try.prog 18 #[v] w fun e w' => e = .returned (rv4 r) ∧ Q w w' := by
  have HR := Lib.hid hr
  unfold maxLen at hl
  obtain ⟨A, c, rfl, hc, _⟩ := hr
  obtain ⟨n, hn⟩ : ∃ n, l.length = n := ⟨_, rfl⟩
  have HN := Lib.hid hn
  rw [hn] at HR hl
  rw [hn]
  by_cases h0 : n = 0
  · have HE := Lib.hid (show ((0, 0), 0, 0) = r by rw [← h.out]; unfold bnd; rw [if_pos (by omega)])
    have t1 : (n : Int) = 0 := by omega
    have t2 : ((n : Int) == 0) = true := by simp; omega
    obtain ⟨⟨r1, r2⟩, r3, r4⟩ := r
    obtain ⟨⟨rfl, rfl⟩, rfl, rfl⟩ : (0 = r1 ∧ 0 = r2) ∧ 0 = r3 ∧ 0 = r4 := by have := HE.out; injection this with e1 e2; injection e1 with e3 e4; injection e2 with e5 e6; exact ⟨⟨e3, e4⟩, e5, e6⟩
    clear hc hn h h0 t1 HE
    go_enter Try.func18, Try.ntmps18
    go_wp2_with fail
    refine bodyPost_ret (v := rv4 ((0, 0), 0, 0)) (by simp [results, Try.results18, go_sem, rv4]) rfl ⟨rfl, ?_⟩
    repeat (first | exact Q.refl _ | refine Q.alloc ?_ _ | refine Q.setA ?_ (by simp; try omega) _)
  · have HE := Lib.hid (show bAt l n = r by rw [← h.out, ← hn]; unfold bnd bAt; rw [if_neg (by omega)])
    have t2 : ((n : Int) == 0) = false := by simp; omega
    obtain ⟨bb, off, e1, hb, hcap, c0, c1⟩ := HR.out.at (Q.refl w) (i := 0) (by omega)
    have e1 : A = some ⟨bb, off, none⟩ := e1
    subst e1
    have HHB := Lib.hid hb
    obtain ⟨x0, hx0⟩ : ∃ x, (g l 0).1 = x := ⟨_, rfl⟩
    obtain ⟨y0, hy0⟩ : ∃ x, (g l 0).2 = x := ⟨_, rfl⟩
    rw [hx0, Nat.zero_mul, Nat.add_zero] at c0
    rw [hy0, Nat.zero_mul, Nat.add_zero] at c1
    have HXY := Lib.hid (show bAt l 0 = ((x0, x0), y0, y0) by rw [← hx0, ← hy0]; rfl)
    have hn0 : (0 : Int) < (n : Int) := by omega
    have hn0' : 0 < n := by omega
    obtain ⟨W0, hW0⟩ : ∃ W0, w.alloc (.cells #[.int .i64 0, .int .i64 0, .int .i64 0, .int .i64 0] 31) = W0 := ⟨_, rfl⟩
    have HQ0 := Lib.hid (show Q w W0 by rw [← hW0]; exact (Q.refl w).alloc _)
    have HB0 := Lib.hid (show BoxR W0 w.heap.size ((0, 0), 0, 0) by rw [← hW0]; exact BoxR.new w ((0, 0), 0, 0))
    have d0 := (HQ0.out.cell (p := ⟨bb, off, none⟩) HHB.out).trans c0
    have d1 := (HQ0.out.cell (p := ⟨bb, off + 1, none⟩) HHB.out).trans c1
    have hlt0 := HB0.out.lt
    have hbW0 : bb < W0.heap.size := Nat.lt_of_lt_of_le HHB.out HQ0.out.size
    have d0' : ∀ o, (W0.alloc o).cell? ⟨bb, off, none⟩ = some (.int .i64 x0) := fun o => (((Q.refl W0).alloc o).cell (p := ⟨bb, off, none⟩) hbW0).trans d0
    have d1' : ∀ o, (W0.alloc o).cell? ⟨bb, off + 1, none⟩ = some (.int .i64 y0) := fun o => (((Q.refl W0).alloc o).cell (p := ⟨bb, off + 1, none⟩) hbW0).trans d1
    clear hc hn h h0 c0 c1 hx0 hy0 hb
    go_enter Try.func18, Try.ntmps18
    go_wp2_with fail
    go_region
    obtain ⟨V0, hV0⟩ : ∃ V0, (W0.alloc (.cells #[.int .i64 x0, .int .i64 x0, .int .i64 y0, .int .i64 y0] 31)).drew = V0 := ⟨_, rfl⟩
    obtain ⟨sb, hsb⟩ : ∃ z, W0.heap.size = z := ⟨_, rfl⟩
    have HSB := Lib.hid (show w.heap.size < sb by rw [← hsb]; exact hlt0)
    have HI0 := Lib.hid (show BoI l w sb 0 V0 from ⟨by rw [HXY.out, ← hsb, ← hV0]; exact BoxR.new W0 ((x0, x0), y0, y0), by rw [← hV0]; exact HB0.out.q (((Q.refl W0).alloc _).drew), by rw [← hV0]; exact (HQ0.out.alloc _).drew⟩)
    rw [hV0, hsb]
    clear hV0 hsb d0 d1 d0' d1' hlt0 hbW0 hn0 hn0' hW0
    go_wp2_with fail
    go_loopw [31] (fun u wr => ∃ k : Nat, k ≤ n ∧ u = .int .i64 k ∧ Hid (BoI l w sb k wr)) (fun u _ => n - (intOf u).toNat)
    case atStart => exact ⟨0, Nat.zero_le _, rfl, HI0⟩
    case round =>
      obtain ⟨k, hk, rfl, HI⟩ := hrel
      by_cases hlt : k < n
      · have hkl : k < l.length := by rw [HN.out]; exact hlt
        obtain ⟨bb2, off2, e2, hb2, _, c0, c1⟩ := HR.out.at HI.out.q hkl
        injection e2 with e2; injection e2 with e21 e22
        subst e21 e22
        obtain ⟨⟨x, y⟩, hx⟩ : ∃ q, g l k = q := ⟨_, rfl⟩
        rw [hx] at c0 c1
        dsimp only at c0 c1
        obtain ⟨⟨⟨lx, hix⟩, ly, hiy⟩, hr4⟩ : ∃ z, bAt l k = z := ⟨_, rfl⟩
        obtain ⟨m1, h1⟩ : ∃ z, min lx x = z := ⟨_, rfl⟩
        obtain ⟨m2, h2⟩ : ∃ z, max hix x = z := ⟨_, rfl⟩
        obtain ⟨m3, h3⟩ : ∃ z, min ly y = z := ⟨_, rfl⟩
        obtain ⟨m4, h4⟩ : ∃ z, max hiy y = z := ⟨_, rfl⟩
        have HNX := Lib.hid (show bAt l (k + 1) = ((m1, m2), m3, m4) by
          have e := hr4
          unfold bAt at e
          injection e with e1 e2
          injection e1 with e3 e4
          injection e2 with e5 e6
          show ((min (loN (gx l) k) (gx l k), max (hiN (gx l) k) (gx l k)), min (loN (gy l) k) (gy l k), max (hiN (gy l) k) (gy l k)) = _
          rw [e3, e4, e5, e6, show gx l k = x by unfold gx; rw [hx], show gy l k = y by unfold gy; rw [hx], h1, h2, h3, h4])
        have hbx := HI.out.b
        rw [hr4] at hbx
        obtain ⟨W1, hW1⟩ : ∃ W1, wr.alloc (.cells #[.int .i64 x, .int .i64 y] 38) = W1 := ⟨_, rfl⟩
        obtain ⟨W2, hW2⟩ : ∃ W2, (W1.setCell ⟨sb, 0, none⟩ (.int .i64 m1)).setCell ⟨sb, 1, none⟩ (.int .i64 m2) = W2 := ⟨_, rfl⟩
        obtain ⟨W3, hW3⟩ : ∃ W3, (W2.setCell ⟨sb, 2, none⟩ (.int .i64 m3)).setCell ⟨sb, 3, none⟩ (.int .i64 m4) = W3 := ⟨_, rfl⟩
        obtain ⟨qb, hqb⟩ : ∃ z, wr.heap.size = z := ⟨_, rfl⟩
        have hb1 : BoxR W1 sb ((lx, hix), ly, hiy) := by rw [← hW1]; exact hbx.q ((Q.refl wr).alloc _)
        have hb2 : BoxR W2 sb ((m1, m2), ly, hiy) := by rw [← hW2]; exact hb1.setX m1 m2
        have hb3 : BoxR W3 sb ((m1, m2), m3, m4) := by rw [← hW3]; exact hb2.setY m3 m4
        have hne : qb ≠ sb := by have := hbx.lt; omega
        have hne0 : w.heap.size ≠ sb := by have := HSB.out; omega
        have hq1 : BoxP W1 qb (x, y) := by rw [← hW1, ← hqb]; exact BoxP.new wr (x, y)
        have hq2 : BoxP W2 qb (x, y) := by rw [← hW2]; exact far_blk _ (far_blk _ hq1 hne) hne
        have HI3 := Lib.hid (show BoI l w sb (k + 1) W3 from ⟨by rw [HNX.out]; exact hb3, by
            rw [← hW3, ← hW2]
            have := HI.out.z.q (show Q wr W1 by rw [← hW1]; exact (Q.refl wr).alloc _)
            exact far_blk _ (far_blk _ (far_blk _ (far_blk _ this hne0) hne0) hne0) hne0, by
            rw [← hW3, ← hW2, ← hW1]
            have hle : w.heap.size ≤ sb := Nat.le_of_lt HSB.out
            exact ((((HI.out.q.alloc _).setA hle _).setA hle _).setA hle _).setA hle _⟩)
        obtain ⟨a0, a1, a2, a3⟩ := hb1.cs
        obtain ⟨f0, f1, f2, f3⟩ := hb1.fs
        obtain ⟨b0, b1, b2, b3⟩ := hb2.cs
        obtain ⟨g0, g1, g2, g3⟩ := hb2.fs
        have u0 := hq1.c0
        have u1 := hq1.c1
        have v0 := hq2.c0
        have v1 := hq2.c1
        have k1 := cell_far (u := .int .i64 m1) (show 0 ≠ 1 by omega) a1
        have k2 := cell_far (u := .int .i64 m3) (show 2 ≠ 3 by omega) b3
        dsimp only at a0 a1 a2 a3 b0 b1 b2 b3 u0 u1 v0 v1 k1 k2
        clear hr4 hx hkl hb1 hb2 hb3 hq1 hq2 hbx hne hne0
        go_wp2_with fail
        go_roundw
        case rel => exact ⟨k + 1, by omega, by go_num, HI3⟩
        case measure => simp [intOf] <;> omega
      · obtain rfl : k = n := by omega
        have hb := HI.out.b
        have hz := HI.out.z
        have HQ := Lib.hid HI.out.q
        rw [HE.out] at hb
        obtain ⟨⟨r1, r2⟩, r3, r4⟩ := r
        obtain ⟨a0, a1, a2, a3⟩ := hb.cs
        obtain ⟨z0, z1, z2, z3⟩ := hz.cs
        obtain ⟨f0, f1, f2, f3⟩ := hz.fs
        have hzf := (hz.setX r1 r2).setY r3 r4
        obtain ⟨y0, y1, y2, y3⟩ := hzf.cs
        have k1 := cell_far (u := .int .i64 r1) (show 0 ≠ 1 by omega) z1
        have k2 := cell_far (u := .int .i64 r2) (show 1 ≠ 2 by omega) (cell_far (u := .int .i64 r1) (show 0 ≠ 2 by omega) z2)
        have k3 := cell_far (u := .int .i64 r3) (show 2 ≠ 3 by omega) (cell_far (u := .int .i64 r2) (show 1 ≠ 3 by omega) (cell_far (u := .int .i64 r1) (show 0 ≠ 3 by omega) z3))
        dsimp only at a0 a1 a2 a3 y0 y1 y2 y3
        clear hb hz hzf
        go_wp2_with fail
        refine bodyPost_ret (v := rv4 ((r1, r2), r3, r4)) (by simp [results, Try.results18, go_sem, rv4, y0, y1, y2, y3]) rfl ⟨rfl, (((HQ.out.setA (Nat.le_refl _) _).setA (Nat.le_refl _) _).setA (Nat.le_refl _) _).setA (Nat.le_refl _) _⟩
end Go.Proofs.Ytkkghejbdakmpaa
