/- The neighbors of a reading: what is found on either side; the contract of neighbors. -/
import Derived.Test.YtlcgbeocdimboaaDoorOwnR
import Derived.Test.YtlcgbeocdimboaaDoorPPart
set_option linter.unusedVariables false
set_option linter.unusedSimpArgs false
namespace Go.Proofs.YtlcgbeocdimboaaDoor
open Go.ChangeShapes Go.WideShapes Go.ChangeAt Go.RowKit Pm

/-- the table of the two directions -/
structure Dir (W : World) : Prop where
  c0 : W.cell? ⟨0, 0, none⟩ = some (.int .i64 (-1))
  c1 : W.cell? ⟨0, 1, none⟩ = some (.int .i64 1)
  lt : 0 < W.heap.size
theorem Dir.q {w w' : World} (h : Dir w) (hq : Q w w') : Dir w' :=
  ⟨(hq.cell (p := ⟨0, 0, none⟩) h.lt).trans h.c0, (hq.cell (p := ⟨0, 1, none⟩) h.lt).trans h.c1, Nat.lt_of_lt_of_le h.lt hq.size⟩
/-- the reading so many steps behind (true) or ahead of (false) the reading i -/
def ix (l : List RD) (i : Nat) (d : Bool) (s : Nat) : Nat := (if d = true then i + s else i + l.length - s) % l.length
/-- the first step from s on, of m at most, at which there is a reading that is no gap; 0 if there is none -/
def fdS (l : List RD) (i : Nat) (d : Bool) : Nat → Nat → Nat
  | 0, _ => 0
  | m + 1, s => if (gr l (ix l i d s)).o = true then s else fdS l i d m (s + 1)
def nbS (l : List RD) (i : Nat) (d : Bool) : Nat := fdS l i d (l.length - 1) 1
/-- the neighbor: its point and how many steps it is away -/
def nbV (l : List RD) (i : Nat) (d : Bool) : Int × Int × Int := if nbS l i d = 0 then (0, 0, 0) else ((gr l (ix l i d (nbS l i d))).x, (gr l (ix l i d (nbS l i d))).y, nbS l i d)
theorem fdS_skip {l : List RD} {i : Nat} {d : Bool} : ∀ (k m s : Nat), (∀ t, s ≤ t → t < s + k → (gr l (ix l i d t)).o = false) → fdS l i d (k + m) s = fdS l i d m (s + k)
  | 0, m, s, _ => by rw [Nat.zero_add]; rfl
  | k + 1, m, s, h => by
    rw [show k + 1 + m = (k + m) + 1 by omega]
    show (if (gr l (ix l i d s)).o = true then _ else _) = _
    rw [if_neg (by rw [h s (Nat.le_refl _) (by omega)]; decide), fdS_skip k m (s + 1) (fun t h1 h2 => h t (by omega) (by omega)), show s + 1 + k = s + (k + 1) by omega]
theorem nbS_at {l : List RD} {i s : Nat} {d : Bool} (h : ∀ t, 1 ≤ t → t < s → (gr l (ix l i d t)).o = false) (h1 : 1 ≤ s) (hs : s < l.length) (ho : (gr l (ix l i d s)).o = true) : nbS l i d = s := by
  unfold nbS
  rw [show l.length - 1 = (s - 1) + (l.length - 1 - s + 1) by omega, fdS_skip (s - 1) _ 1 (fun t h2 h3 => h t h2 (by omega)), show 1 + (s - 1) = s by omega]
  show (if (gr l (ix l i d s)).o = true then _ else _) = _
  rw [if_pos ho]
theorem nbS_no {l : List RD} {i : Nat} {d : Bool} (h : ∀ t, 1 ≤ t → t < l.length → (gr l (ix l i d t)).o = false) : nbS l i d = 0 := by
  unfold nbS
  have := fdS_skip (l := l) (i := i) (d := d) (l.length - 1) 0 1 (fun t h1 h2 => h t h1 (by omega))
  rw [Nat.add_zero] at this
  rw [this]; rfl
theorem nbV_at {l : List RD} {i s : Nat} {d : Bool} {x y : Int} (h : ∀ t, 1 ≤ t → t < s → (gr l (ix l i d t)).o = false) (h1 : 1 ≤ s) (hs : s < l.length) (e : gr l (ix l i d s) = ⟨x, y, true⟩) : nbV l i d = (x, y, (s : Int)) := by
  have hn := nbS_at h h1 hs (by rw [e])
  unfold nbV
  rw [hn, if_neg (by omega), e]
theorem nbV_no {l : List RD} {i : Nat} {d : Bool} (h : ∀ t, 1 ≤ t → t < l.length → (gr l (ix l i d t)).o = false) : nbV l i d = (0, 0, 0) := by
  unfold nbV; rw [nbS_no h, if_pos rfl]
def nbC (a b : Int × Int × Int) : List Value := [.int .i64 a.1, .int .i64 a.2.1, .int .i64 a.2.2, .int .i64 b.1, .int .i64 b.2.1, .int .i64 b.2.2]
def nbW (a b : Int × Int × Int) : Value := .agg (nbC a b).toArray
theorem ix_fw {l : List RD} {i s n : Nat} (hn : l.length = n) (h0 : 0 < n) : ((i : Int) + s + n).tmod n = (ix l i true s : Nat) ∧ ((i : Int) + s + n) % n = (ix l i true s : Nat) ∧ ix l i true s < n ∧ ((i : Int) + s) % n = (ix l i true s : Nat) := by
  have e : ((i : Int) + s + n) % n = (ix l i true s : Nat) := by unfold ix; rw [hn]; simp
  exact ⟨by rw [Int.tmod_eq_emod_of_nonneg (by omega)]; exact e, e, by unfold ix; rw [hn]; exact Nat.mod_lt _ h0, by rw [← e, Int.add_emod_right]⟩
theorem ix_bw {l : List RD} {i s n : Nat} (hn : l.length = n) (h0 : 0 < n) (hs : s ≤ n) : ((i : Int) - s + n).tmod n = (ix l i false s : Nat) ∧ ((i : Int) - s + n) % n = (ix l i false s : Nat) ∧ ix l i false s < n ∧ ((i : Int) + -s) % n = (ix l i false s : Nat) := by
  have e0 : (i : Int) - s + n = ((i + n - s : Nat) : Int) := by omega
  have e : ((i : Int) - s + n) % n = (ix l i false s : Nat) := by unfold ix; rw [hn, e0]; simp
  exact ⟨by rw [Int.tmod_eq_emod_of_nonneg (by omega)]; exact e, e, by unfold ix; rw [hn]; exact Nat.mod_lt _ h0, by rw [← e, Int.add_emod_right]; rfl⟩
def z3 : Int × Int × Int := (0, 0, 0)
/-- the two boxes of the call -/
structure NbI (w : World) (rb fb : Nat) (a b : Int × Int × Int) (W : World) : Prop where
  q : Q w W
  r : W.heap[rb]? = some (.cells (nbC z3 z3).toArray 61 (0, 0))
  f : W.heap[fb]? = some (.cells (nbC a b).toArray 61 (0, 0))
theorem NbI.alloc {w W : World} {rb fb : Nat} {a b : Int × Int × Int} (h : NbI w rb fb a b W) (o : Obj) : NbI w rb fb a b (W.alloc o) := by
  have k : ∀ (B : Nat) (x : Obj), W.heap[B]? = some x → (W.alloc o).heap[B]? = some x := fun B x hx => (((Q.refl W).alloc o).block B (Array.getElem?_eq_some_iff.1 hx).1).trans hx
  exact ⟨h.q.alloc o, k _ _ h.r, k _ _ h.f⟩
theorem NbI.drewN {w W : World} {rb fb : Nat} {a b : Int × Int × Int} (h : NbI w rb fb a b W) (n : Nat) : NbI w rb fb a b (W.drewN n) := ⟨h.q.drewN n, h.r, h.f⟩
theorem NbI.at {w W : World} {rb fb : Nat} {a b : Int × Int × Int} (h : NbI w rb fb a b W) : (W.cell? ⟨fb, 0, none⟩ = some (.int .i64 a.1) ∧ W.cell? ⟨fb, 1, none⟩ = some (.int .i64 a.2.1) ∧ W.cell? ⟨fb, 2, none⟩ = some (.int .i64 a.2.2) ∧ W.cell? ⟨fb, 3, none⟩ = some (.int .i64 b.1) ∧ W.cell? ⟨fb, 4, none⟩ = some (.int .i64 b.2.1) ∧ W.cell? ⟨fb, 5, none⟩ = some (.int .i64 b.2.2)) ∧
    (W.frozen? ⟨fb, 0, none⟩ = false ∧ W.frozen? ⟨fb, 1, none⟩ = false ∧ W.frozen? ⟨fb, 2, none⟩ = false ∧ W.frozen? ⟨fb, 3, none⟩ = false ∧ W.frozen? ⟨fb, 4, none⟩ = false ∧ W.frozen? ⟨fb, 5, none⟩ = false) := by
  have hf := h.f
  refine ⟨⟨?_, ?_, ?_, ?_, ?_, ?_⟩, ?_, ?_, ?_, ?_, ?_, ?_⟩ <;> simp [World.cell?, World.frozen?, hf, nbC]
theorem NbI.ar {w W : World} {rb fb : Nat} {a b : Int × Int × Int} (h : NbI w rb fb a b W) : (W.cell? ⟨rb, 0, none⟩ = some (.int .i64 0) ∧ W.cell? ⟨rb, 1, none⟩ = some (.int .i64 0) ∧ W.cell? ⟨rb, 2, none⟩ = some (.int .i64 0) ∧ W.cell? ⟨rb, 3, none⟩ = some (.int .i64 0) ∧ W.cell? ⟨rb, 4, none⟩ = some (.int .i64 0) ∧ W.cell? ⟨rb, 5, none⟩ = some (.int .i64 0)) ∧
    (W.frozen? ⟨rb, 0, none⟩ = false ∧ W.frozen? ⟨rb, 1, none⟩ = false ∧ W.frozen? ⟨rb, 2, none⟩ = false ∧ W.frozen? ⟨rb, 3, none⟩ = false ∧ W.frozen? ⟨rb, 4, none⟩ = false ∧ W.frozen? ⟨rb, 5, none⟩ = false) := by
  have hf := h.r
  refine ⟨⟨?_, ?_, ?_, ?_, ?_, ?_⟩, ?_, ?_, ?_, ?_, ?_, ?_⟩ <;> simp [World.cell?, World.frozen?, hf, nbC, z3]
theorem NbI.set0 {w W : World} {rb fb : Nat} {a b : Int × Int × Int} (h : NbI w rb fb a b W) (hne : rb ≠ fb) (hw : w.heap.size ≤ fb) (x y s : Int) : NbI w rb fb (x, y, s) b (((W.setCell ⟨fb, 0, none⟩ (.int .i64 x)).setCell ⟨fb, 1, none⟩ (.int .i64 y)).setCell ⟨fb, 2, none⟩ (.int .i64 s)) :=
  ⟨((h.q.setA hw _).setA hw _).setA hw _, far_blk _ (far_blk _ (far_blk _ h.r hne) hne) hne, by
    have := set_blk (i := 2) (.int .i64 s) (set_blk (i := 1) (.int .i64 y) (set_blk (i := 0) (.int .i64 x) h.f))
    simpa [nbC] using this⟩
theorem NbI.set1 {w W : World} {rb fb : Nat} {a b : Int × Int × Int} (h : NbI w rb fb a b W) (hne : rb ≠ fb) (hw : w.heap.size ≤ fb) (x y s : Int) : NbI w rb fb a (x, y, s) (((W.setCell ⟨fb, 3, none⟩ (.int .i64 x)).setCell ⟨fb, 4, none⟩ (.int .i64 y)).setCell ⟨fb, 5, none⟩ (.int .i64 s)) :=
  ⟨((h.q.setA hw _).setA hw _).setA hw _, far_blk _ (far_blk _ (far_blk _ h.r hne) hne) hne, by
    have := set_blk (i := 5) (.int .i64 s) (set_blk (i := 4) (.int .i64 y) (set_blk (i := 3) (.int .i64 x) h.f))
    simpa [nbC] using this⟩
theorem res6 {W : World} {rb : Nat} {u0 u1 u2 u3 u4 u5 v0 v1 v2 v3 v4 v5 : Value} {T : TypeId} (h : W.heap[rb]? = some (.cells #[u0, u1, u2, u3, u4, u5] T (0, 0))) (W2 : World)
    (e : ((((((W.setCell ⟨rb, 0, none⟩ v0).setCell ⟨rb, 1, none⟩ v1).setCell ⟨rb, 2, none⟩ v2).setCell ⟨rb, 3, none⟩ v3).setCell ⟨rb, 4, none⟩ v4).setCell ⟨rb, 5, none⟩ v5) = W2) :
    W2.cell? ⟨rb, 0, none⟩ = some v0 ∧ W2.cell? ⟨rb, 1, none⟩ = some v1 ∧ W2.cell? ⟨rb, 2, none⟩ = some v2 ∧ W2.cell? ⟨rb, 3, none⟩ = some v3 ∧ W2.cell? ⟨rb, 4, none⟩ = some v4 ∧ W2.cell? ⟨rb, 5, none⟩ = some v5 := by
  have hf := set_blk (i := 5) v5 (set_blk (i := 4) v4 (set_blk (i := 3) v3 (set_blk (i := 2) v2 (set_blk (i := 1) v1 (set_blk (i := 0) v0 h)))))
  rw [e] at hf
  refine ⟨?_, ?_, ?_, ?_, ?_, ?_⟩ <;> simp [World.cell?, hf]
theorem idx0 (W : World) : (Instr.index 42 (.agg #[.int .i64 (-1), .int .i64 1]) (.int .i64 0)).run Tryd.prog W = .ok (.int .i64 (-1)) W := by
  have z := Tryd.sizeOf3
  have g := Tryd.isAgg3
  simp [Instr.index, run_underlying Tryd.underlying42, asIntOf, go_sem, z, g]
theorem idx1 (W : World) : (Instr.index 42 (.agg #[.int .i64 (-1), .int .i64 1]) (.int .i64 1)).run Tryd.prog W = .ok (.int .i64 1) W := by
  have z := Tryd.sizeOf3
  have g := Tryd.isAgg3
  simp [Instr.index, run_underlying Tryd.underlying42, asIntOf, go_sem, z, g]
set_option maxRecDepth 100000 in
set_option maxHeartbeats 3200000 in
theorem neigh_c (v : Value) (l : List RD) (i : Nat) (w : World) (hr : RdR w v l) (hl : l.length ≤ 1000000) (hi : i < l.length) (hD : Dir w) : Calls Tryd.prog 38 #[v, .int .i64 i] w fun e w' => e = .returned (nbW (nbV l i false) (nbV l i true)) ∧ Q w w' := by
  have HR := Lib.hid hr
  obtain ⟨A, c, rfl, hc, _⟩ := hr
  obtain ⟨n, hn⟩ : ∃ n, l.length = n := ⟨_, rfl⟩
  have HN := Lib.hid hn
  rw [hn] at HR hc hl hi
  rw [hn]
  obtain ⟨a, ha⟩ : ∃ a, nbV l i false = a := ⟨_, rfl⟩
  obtain ⟨b, hb⟩ : ∃ b, nbV l i true = b := ⟨_, rfl⟩
  have HA := Lib.hid ha
  have HB := Lib.hid hb
  rw [ha, hb]
  obtain ⟨Wa, hWa⟩ : ∃ W, w.alloc (.cells #[.int .i64 0, .int .i64 0, .int .i64 0, .int .i64 0, .int .i64 0, .int .i64 0] 61) = W := ⟨_, rfl⟩
  obtain ⟨W0, hW0⟩ : ∃ W, Wa.alloc (.cells #[.int .i64 0, .int .i64 0, .int .i64 0, .int .i64 0, .int .i64 0, .int .i64 0] 61) = W := ⟨_, rfl⟩
  have hs : w.heap.size < Wa.heap.size := by rw [← hWa]; simp
  have N0 := Lib.hid (show NbI w w.heap.size Wa.heap.size z3 z3 W0 from ⟨by rw [← hW0, ← hWa]; exact ((Q.refl w).alloc _).alloc _, by
    rw [← hW0]
    have := World.alloc_heap_new w (.cells #[.int .i64 0, .int .i64 0, .int .i64 0, .int .i64 0, .int .i64 0, .int .i64 0] 61)
    rw [hWa] at this
    exact (((Q.refl Wa).alloc _).block _ hs).trans this, by rw [← hW0]; exact World.alloc_heap_new Wa _⟩)
  obtain ⟨g0, g1, _⟩ := hD.q N0.out.q
  have q0 := idx0
  have q1 := idx1
  have hne := Lib.hid (show w.heap.size ≠ Wa.heap.size by omega)
  have hsl := Lib.hid (show w.heap.size ≤ Wa.heap.size by omega)
  have i1 : (0 : Int) ≤ (i : Int) := by omega
  have i2 : (i : Int) < (n : Int) := by omega
  have t1 : ((n : Int) == 0) = false := by simp; omega
  have t2 : ¬ n = 0 := by omega
  clear hn ha hb
  go_enter Tryd.func38, Tryd.ntmps38
  go_wp2_with fail
  go_loopw [11] (fun v11 wr => ∃ s : Nat, s ≤ 2 ∧ v11 = .int .i64 s ∧ Hid (NbI w w.heap.size Wa.heap.size (if 1 ≤ s then a else z3) (if 2 ≤ s then b else z3) wr)) (fun v11 _ => 2 - (intOf v11).toNat)
  case atStart => exact ⟨0, by omega, rfl, N0.out⟩
  case round =>
    obtain ⟨s, hs2, rfl, HI⟩ := hrel
    rcases (show s = 0 ∨ s = 1 ∨ s = 2 by omega) with rfl | rfl | rfl
    · have HI := Lib.hid (show NbI w w.heap.size Wa.heap.size z3 z3 wr from HI.out)
      go_wp2_with fail
      go_loopw [8] (fun v8 wr => ∃ t : Nat, 1 ≤ t ∧ t ≤ n ∧ v8 = .int .i64 t ∧ Hid ((∀ j, 1 ≤ j → j < t → (gr l (ix l i false j)).o = false) ∧ NbI w w.heap.size Wa.heap.size z3 z3 wr)) (fun v8 _ => n - (intOf v8).toNat)
      case atStart => exact ⟨1, by omega, by omega, rfl, fun j h1 h2 => by omega, HI.out⟩
      case round =>
        obtain ⟨t, ht1, htn, rfl, HJ⟩ := hrel
        by_cases hlt : t < n
        · obtain ⟨m1, m2, m3, m4⟩ := ix_bw (l := l) (i := i) (s := t) HN.out (by omega) (by omega)
          have hml : ix l i false t < l.length := by rw [HN.out]; exact m3
          obtain ⟨bb, off, rfl, hbb, _, c0, c1', c2⟩ := HR.out.at HJ.out.2.q hml
          obtain ⟨m, hm⟩ : ∃ m, ix l i false t = m := ⟨_, rfl⟩
          have HM := Lib.hid hm
          rw [hm] at m1 m2 m3 m4 c0 c1' c2
          obtain ⟨d, hd⟩ : ∃ d, gr l m = d := ⟨_, rfl⟩
          have HD := Lib.hid hd
          rw [hd] at c0 c1' c2
          obtain ⟨x, y, o⟩ := d
          dsimp only at c0 c1' c2
          have j1 : (t : Int) < (n : Int) := by omega
          have j2 : (0 : Int) ≤ (m : Int) := by omega
          have j3 : (m : Int) < (n : Int) := by omega
          have j4 : IntKind.i64.wrap (m : Int) = (m : Int) := IntWalk.i64_in _ (by omega)
          clear hm hml hd
          cases o with
          | true =>
            obtain ⟨W2, hW2⟩ : ∃ W, wr.alloc (.cells #[.int .i64 x, .int .i64 y, .bool true] 44) = W := ⟨_, rfl⟩
            have N2 := Lib.hid (show NbI w w.heap.size Wa.heap.size z3 z3 W2 by rw [← hW2]; exact HJ.out.2.alloc _)
            have z0 : W2.cell? ⟨wr.heap.size, 0, none⟩ = some (.int .i64 x) := by rw [← hW2]; exact World.cell?_alloc_at _ _ _ _ rfl
            have z1 : W2.cell? ⟨wr.heap.size, 1, none⟩ = some (.int .i64 y) := by rw [← hW2]; exact World.cell?_alloc_at _ _ _ _ rfl
            have z2 : W2.cell? ⟨wr.heap.size, 2, none⟩ = some (.bool true) := by rw [← hW2]; exact World.cell?_alloc_at _ _ _ _ rfl
            obtain ⟨⟨n0, n1, n2, n3, n4, n5⟩, f0, f1, f2, f3, f4, f5⟩ := N2.out.at
            have HX := Lib.hid (show a = (x, y, (t : Int)) by rw [← HA.out]; exact nbV_at HJ.out.1 ht1 (by rw [HN.out]; exact hlt) (by rw [HM.out]; exact HD.out))
            have HS := Lib.hid (N2.out.set0 hne.out hsl.out x y t)
            simp only [z3] at n0 n1 n2 n3 n4 n5
            go_wp2_with fail
            go_roundw
            case rel => exact ⟨1, by omega, by go_num, by have := HS.out; rw [← HX.out] at this; exact this⟩
            case measure => simp [intOf] <;> omega
          | false =>
            have HK := Lib.hid (show ∀ j, 1 ≤ j → j < t + 1 → (gr l (ix l i false j)).o = false from fun j h1 h2 => by
              by_cases e : j = t
              · subst e; rw [HM.out, HD.out]
              · exact HJ.out.1 j h1 (by omega))
            go_wp2_with fail
            go_roundw
            case rel => exact ⟨t + 1, by omega, by omega, by go_num, HK.out, HJ.out.2.alloc _⟩
            case measure => simp [intOf] <;> omega
        · obtain rfl : t = n := by omega
          have HX := Lib.hid (show a = z3 by rw [← HA.out]; exact nbV_no fun j h1 h2 => HJ.out.1 j h1 (by rw [← HN.out]; exact h2))
          go_wp2_with fail
          go_roundw
          case rel => exact ⟨1, by omega, by go_num, by have := HJ.out.2; rw [HX.out]; exact this⟩
          case measure => simp [intOf] <;> omega
    · have HI := Lib.hid (show NbI w w.heap.size Wa.heap.size a z3 wr from HI.out)
      go_wp2_with fail
      go_loopw [8] (fun v8 wr => ∃ t : Nat, 1 ≤ t ∧ t ≤ n ∧ v8 = .int .i64 t ∧ Hid ((∀ j, 1 ≤ j → j < t → (gr l (ix l i true j)).o = false) ∧ NbI w w.heap.size Wa.heap.size a z3 wr)) (fun v8 _ => n - (intOf v8).toNat)
      case atStart => exact ⟨1, by omega, by omega, rfl, fun j h1 h2 => by omega, HI.out⟩
      case round =>
        obtain ⟨t, ht1, htn, rfl, HJ⟩ := hrel
        by_cases hlt : t < n
        · obtain ⟨m1, m2, m3, m4⟩ := ix_fw (l := l) (i := i) (s := t) HN.out (by omega)
          have hml : ix l i true t < l.length := by rw [HN.out]; exact m3
          obtain ⟨bb, off, rfl, hbb, _, c0, c1', c2⟩ := HR.out.at HJ.out.2.q hml
          obtain ⟨m, hm⟩ : ∃ m, ix l i true t = m := ⟨_, rfl⟩
          have HM := Lib.hid hm
          rw [hm] at m1 m2 m3 m4 c0 c1' c2
          obtain ⟨d, hd⟩ : ∃ d, gr l m = d := ⟨_, rfl⟩
          have HD := Lib.hid hd
          rw [hd] at c0 c1' c2
          obtain ⟨x, y, o⟩ := d
          dsimp only at c0 c1' c2
          have j1 : (t : Int) < (n : Int) := by omega
          have j2 : (0 : Int) ≤ (m : Int) := by omega
          have j3 : (m : Int) < (n : Int) := by omega
          have j4 : IntKind.i64.wrap (m : Int) = (m : Int) := IntWalk.i64_in _ (by omega)
          clear hm hml hd
          cases o with
          | true =>
            obtain ⟨W2, hW2⟩ : ∃ W, wr.alloc (.cells #[.int .i64 x, .int .i64 y, .bool true] 44) = W := ⟨_, rfl⟩
            have N2 := Lib.hid (show NbI w w.heap.size Wa.heap.size a z3 W2 by rw [← hW2]; exact HJ.out.2.alloc _)
            have z0 : W2.cell? ⟨wr.heap.size, 0, none⟩ = some (.int .i64 x) := by rw [← hW2]; exact World.cell?_alloc_at _ _ _ _ rfl
            have z1 : W2.cell? ⟨wr.heap.size, 1, none⟩ = some (.int .i64 y) := by rw [← hW2]; exact World.cell?_alloc_at _ _ _ _ rfl
            have z2 : W2.cell? ⟨wr.heap.size, 2, none⟩ = some (.bool true) := by rw [← hW2]; exact World.cell?_alloc_at _ _ _ _ rfl
            obtain ⟨⟨n0, n1, n2, n3, n4, n5⟩, f0, f1, f2, f3, f4, f5⟩ := N2.out.at
            have HX := Lib.hid (show b = (x, y, (t : Int)) by rw [← HB.out]; exact nbV_at HJ.out.1 ht1 (by rw [HN.out]; exact hlt) (by rw [HM.out]; exact HD.out))
            have HS := Lib.hid (N2.out.set1 hne.out hsl.out x y t)
            simp only [z3] at n0 n1 n2 n3 n4 n5
            go_wp2_with fail
            go_roundw
            case rel => exact ⟨2, by omega, by go_num, by have := HS.out; rw [← HX.out] at this; exact this⟩
            case measure => simp [intOf] <;> omega
          | false =>
            have HK := Lib.hid (show ∀ j, 1 ≤ j → j < t + 1 → (gr l (ix l i true j)).o = false from fun j h1 h2 => by
              by_cases e : j = t
              · subst e; rw [HM.out, HD.out]
              · exact HJ.out.1 j h1 (by omega))
            go_wp2_with fail
            go_roundw
            case rel => exact ⟨t + 1, by omega, by omega, by go_num, HK.out, HJ.out.2.alloc _⟩
            case measure => simp [intOf] <;> omega
        · obtain rfl : t = n := by omega
          have HX := Lib.hid (show b = z3 by rw [← HB.out]; exact nbV_no fun j h1 h2 => HJ.out.1 j h1 (by rw [← HN.out]; exact h2))
          go_wp2_with fail
          go_roundw
          case rel => exact ⟨2, by omega, by go_num, by have := HJ.out.2; rw [HX.out]; exact this⟩
          case measure => simp [intOf] <;> omega
    · have HI := Lib.hid (show NbI w w.heap.size Wa.heap.size a b wr from HI.out)
      obtain ⟨a1, a2, a3⟩ := a
      obtain ⟨b1, b2, b3⟩ := b
      obtain ⟨⟨n0, n1, n2, n3, n4, n5⟩, _⟩ := HI.out.at
      obtain ⟨⟨r0, r1, r2, r3, r4, r5⟩, f0, f1, f2, f3, f4, f5⟩ := HI.out.ar
      dsimp only at n0 n1 n2 n3 n4 n5
      have HR6 := Lib.hid HI.out.r
      have Q9 := Lib.hid ((((((HI.out.q.setA (g := w.heap.size) (i := 0) (Nat.le_refl _) (.int .i64 a1)).setA (g := w.heap.size) (i := 1) (Nat.le_refl _) (.int .i64 a2)).setA (g := w.heap.size) (i := 2) (Nat.le_refl _) (.int .i64 a3)).setA (g := w.heap.size) (i := 3) (Nat.le_refl _) (.int .i64 b1)).setA (g := w.heap.size) (i := 4) (Nat.le_refl _) (.int .i64 b2)).setA (g := w.heap.size) (i := 5) (Nat.le_refl _) (.int .i64 b3))
      go_wp2_with fail
      obtain ⟨W2, hW2⟩ : ∃ W, ((((((wr.setCell ⟨w.heap.size, 0, none⟩ (.int .i64 a1)).setCell ⟨w.heap.size, 1, none⟩ (.int .i64 a2)).setCell ⟨w.heap.size, 2, none⟩ (.int .i64 a3)).setCell ⟨w.heap.size, 3, none⟩ (.int .i64 b1)).setCell ⟨w.heap.size, 4, none⟩ (.int .i64 b2)).setCell ⟨w.heap.size, 5, none⟩ (.int .i64 b3)) = W := ⟨_, rfl⟩
      have Q9 := Lib.hid (show Q w W2 by rw [← hW2]; exact Q9.out)
      obtain ⟨x0, x1, x2, x3, x4, x5⟩ := res6 HR6.out W2 hW2
      rw [hW2]
      clear hW2
      refine bodyPost_ret (v := nbW (a1, a2, a3) (b1, b2, b3)) (by simp [results, Tryd.results38, go_sem, x0, x1, x2, x3, x4, x5, nbW, nbC]) rfl ⟨rfl, Q9.out⟩
end Go.Proofs.YtlcgbeocdimboaaDoor
