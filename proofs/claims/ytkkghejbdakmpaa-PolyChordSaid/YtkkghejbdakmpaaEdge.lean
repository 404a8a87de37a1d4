/- The iterator over the edges: what it yields, and that it reads the slice alone. -/
import Derived.Test.YtkkghejbdakmpaaLeafB
import Derived.RangeFuncNested
import Derived.RangeFuncBound
import Derived.RangeFuncCalls
import Derived.RangeFuncLeaves
import Derived.Shelf.Abstract
import Derived.Shelf.RegionOpen
import Derived.WalkKit
import Derived.OwnWalkIn
import Derived.TacticsInMore
import Derived.LoopNIn
import Derived.LoopIn
set_option linter.unusedVariables false
set_option linter.unusedSimpArgs false
namespace Go.Proofs.Ytkkghejbdakmpaa
open Go.ChangeShapes Go.WideShapes Go.ChangeAt Go.RowKit Go.Shelf Pm

attribute [local go_sem] Oper.semAt_some
theorem old_cell {w : World} {b off : Nat} {u : Value} (o : Obj) (hb : b < w.heap.size) (h : w.cell? ⟨b, off, none⟩ = some u) : (w.alloc o).cell? ⟨b, off, none⟩ = some u :=
  (((Q.refl w).alloc o).cell (p := ⟨b, off, none⟩) hb).trans h
/-- what a round that goes on keeps: what lay below n, and the block b -/
structure Kp (n b : Nat) (W W' : World) : Prop where
  below : Below n W W'
  blk : W'.heap[b]? = W.heap[b]?
theorem Kp.t {n b : Nat} {A B C : World} (h : Kp n b A B) (k : Kp n b B C) : Kp n b A C := ⟨h.1.trans k.1, k.2.trans h.2⟩
theorem Kp.b {n b : Nat} {w : World} (hn : n ≤ w.heap.size) (hb : b < w.heap.size) (W : World) (l : Nat) (o o' : Obj) (hl : w.heap.size ≤ l) (h : W.heap[l]? = some o) (h1 : o.isCells = false) (h2 : o.isWalk = false) : Kp n b W (W.putObj l o') :=
  ⟨belowK_b hn W l o o' hl h h1 h2, World.putObj_heap_other (by omega)⟩
theorem Kp.cell {n b : Nat} {W W' : World} (h : Kp n b W W') : W'.cell? ⟨b, 0, none⟩ = W.cell? ⟨b, 0, none⟩ := World.cell?_of_block h.2
theorem Kp.refl {n b : Nat} (W : World) : Kp n b W W := ⟨Below.refl _ _, rfl⟩
theorem Kp.al {n b : Nat} {W : World} (o : Obj) (hn : n ≤ W.heap.size) (hb : b < W.heap.size) : Kp n b W ((W.alloc o).drew) :=
  ⟨((Below.refl _ W).alloc hn o).drew, Below.heap_alloc W o b hb⟩
theorem grown_drewN (w : World) (n : Nat) : w.grownBy (w.drewN n) none := ⟨rfl, rfl, rfl, Nat.le_refl _, fun _ _ _ => rfl⟩
/-- how a round ends -/
def YPost (J Jx : Nat → World → Prop) (xs : Nat) (n b : Nat) (W : World) (e : Ending) (W' : World) : Prop :=
  (e = .returned (.bool true) ∧ J xs W' ∧ Kp n b W W') ∨ (e = .returned (.bool false) ∧ Jx xs W')
theorem yp {J Jx : Nat → World → Prop} {xs : Nat} {n b : Nat} {W : World} {e : Ending} {W' : World} (h : YPost J Jx xs n b W e W') :
    ∃ bb : Bool, e = .returned (.bool bb) ∧ Hid ((bb = true ∧ J xs W' ∧ Kp n b W W') ∨ (bb = false ∧ Jx xs W')) := by
  rcases h with ⟨h1, h2⟩ | ⟨h1, h2⟩
  · exact ⟨true, h1, Lib.hid (.inl ⟨rfl, h2⟩)⟩
  · exact ⟨false, h1, Lib.hid (.inr ⟨rfl, h2⟩)⟩
set_option maxRecDepth 100000 in
set_option maxHeartbeats 3000000 in
theorem edges1_in (n : Nat) (hn : 1 ≤ n) (l Bs n₀ b off len cap : Nat) (L : List P) (hL : L.length = len) (hl6 : len ≤ 1000000) (hb : b < n₀)
    (J Jx : Nat → World → Prop)
    (W : World) (hJA : AbidesFrom W.heap.size J) (hs : Bs < W.heap.size) (hn0 : n₀ ≤ W.heap.size)
    (hY : ∀ k W, J k W → k < len → YieldAt Fence.wide (n - 1) Try.prog l #[pv (g L k), pv (g L (nx L k))] W fun e W' =>
      (e = .returned (.bool true) ∧ J (k + 1) W' ∧ Kp n₀ Bs W W') ∨ (e = .returned (.bool false) ∧ Jx (k + 1) W'))
    (hBs : W.cell? ⟨Bs, 0, none⟩ = some (.slice (some ⟨b, off, none⟩) len cap)) (hc : RdP W (.slice (some ⟨b, off, none⟩) len cap) L) (hbW : b < W.heap.size) (h0 : J 0 W) :
    CallsIn Fence.wide n Try.prog 57 #[.func (.yield l) #[] #[], .pointer (some ⟨Bs, 0, none⟩)] W fun e W' => (∃ v, e = .returned v) ∧
      (J len W' ∨ ∃ k, k ≤ len ∧ Jx k W') := by
  refine callsIn_of_wp Try.func57 rfl trivial ?_ rfl
  simp only [Try.ntmps57, List.size_toArray, List.length_cons, List.length_nil, Nat.reduceAdd, Nat.reduceSub, Array.replicate_succ, Array.replicate_zero, List.push_toArray, List.append_toArray, List.nil_append, List.cons_append]
  gi_wp2
  gi_loopw [7] (fun i wr => ∃ k : Nat, k ≤ len ∧ i = .int .i64 k ∧ Hid (J k wr ∧ Kp n₀ Bs W wr ∧ W.heap.size ≤ wr.heap.size))
    (fun i _ => len - (intOf i).toNat)
  case atStart => exact ⟨0, Nat.zero_le _, rfl, h0, Kp.refl _, Nat.le_refl _⟩
  case round =>
    obtain ⟨k, hk, rfl, HI⟩ := hrel
    by_cases hlt : k < len
    · have hkl : k < L.length := by omega
      have hnl : nx L k < L.length := nx_lt k (by omega)
      obtain ⟨b1, off1, e1, _, _, c0, c1⟩ := hc.at (Q.refl W) hkl
      obtain ⟨b2, off2, e2, _, _, d0, d1⟩ := hc.at (Q.refl W) hnl
      injection e1 with e1; injection e1 with e11 e12
      injection e2 with e2; injection e2 with e21 e22
      subst e11 e12 e21 e22
      have hkp := HI.out.2.1
      have c0' := (hkp.1.cell (p := ⟨b, off + k * 2, none⟩) hb).trans c0
      have c1' := (hkp.1.cell (p := ⟨b, off + k * 2 + 1, none⟩) hb).trans c1
      have d0' := (hkp.1.cell (p := ⟨b, off + nx L k * 2, none⟩) hb).trans d0
      have d1' := (hkp.1.cell (p := ⟨b, off + nx L k * 2 + 1, none⟩) hb).trans d1
      have hbs := hkp.cell.trans hBs
      obtain ⟨⟨ax, ay⟩, hA⟩ : ∃ a, g L k = a := ⟨_, rfl⟩
      obtain ⟨⟨bx, bY⟩, hB⟩ : ∃ a, g L (nx L k) = a := ⟨_, rfl⟩
      rw [hA] at c0' c1'
      rw [hB] at d0' d1'
      have e3 : ((k : Int) + 1).tmod (len : Int) = (nx L k : Nat) := by rw [Int.tmod_eq_emod_of_nonneg (by omega)]; unfold nx; rw [hL]; simp
      obtain ⟨m, hm⟩ : ∃ m, nx L k = m := ⟨_, rfl⟩
      rw [hm] at d0' d1' e3 hnl
      rw [hL] at hkl hnl
      have hm' : (m : Int) < (len : Int) := by omega
      have HA := Lib.hid hA
      have HB := Lib.hid hB
      have HM := Lib.hid hm
      clear c0 c1 d0 d1 hA hB hm hkp
      have e4 : IntKind.i64.wrap ((k : Int) + 1) = (k : Int) + 1 := IntWalk.i64_in _ (by omega)
      have e5 : IntKind.i64.wrap (m : Int) = (m : Int) := IntWalk.i64_in _ (by omega)
      have e6 : ((len : Int) == 0) = false := by simp; omega
      have e7 : ¬ len = 0 := by omega
      have e8 : (0 : Int) ≤ (m : Int) := by omega
      gi_wp2
      have hmx : Try.prog.follows .mixedOrders = true := by kernel_rfl
      have hsz := HI.out.2.2
      have f1 := old_cell (.cells #[.int .i64 ax, .int .i64 ay] 38) (show Bs < wr.heap.size by omega) hbs
      have f2 := old_cell (.cells #[.int .i64 ax, .int .i64 ay] 38) (show b < wr.heap.size by omega) d0'
      have f3 := old_cell (.cells #[.int .i64 ax, .int .i64 ay] 38) (show b < wr.heap.size by omega) d1'
      clear hsz
      have hJ' := Lib.hid (show J k ((wr.alloc (.cells #[.int .i64 ax, .int .i64 ay] 38)).drew) from
        hJA _ _ _ none HI.out.1 (show wr.grownBy ((wr.alloc (.cells #[.int .i64 ax, .int .i64 ay] 38)).drew) none from ⟨rfl, rfl, rfl, by simp [World.drew], fun k hk _ => Below.heap_alloc wr _ k hk⟩) (fun r e => by cases e))
      have hYk := hY k _ hJ'.out hlt
      rw [HM.out, HA.out, ← HM.out, HB.out] at hYk
      obtain ⟨fn, tmps, assign, body, hy, hR⟩ := hYk
      have hR' := hR.mono (R' := fun e W' => YPost J Jx (k + 1) n₀ Bs ((wr.alloc (.cells #[.int .i64 ax, .int .i64 ay] 38)).drew) e W') (fun e W' h => h)
      clear hR hJ'
      unfold pv at hy
      dsimp only at hy
      gi_region_with_o (refine hR'.mono ?_; intro e W3 h3; obtain ⟨bb, rfl, H3⟩ := yp h3; clear h3)
      all_goals (
        have HQ := Lib.hid (HI.out.2.1.t (Kp.al (.cells #[.int .i64 ax, .int .i64 ay] 38) (Nat.le_trans hn0 HI.out.2.2) (Nat.lt_of_lt_of_le hs HI.out.2.2)))
        have HS := Lib.hid (Nat.le_trans HI.out.2.2 (show wr.heap.size ≤ ((wr.alloc (.cells #[.int .i64 ax, .int .i64 ay] 38)).drew).heap.size by simp [World.drew]))
        clear hR' hy e3 e4 e5 e6 e7 e8 f1 f2 f3 c0' c1' d0' d1' hbs hmx
        cases bb)
      all_goals gi_wp2
      all_goals first
        | (refine bodyPost_ret (results_none rfl _ _ _) rfl ?_
           rcases H3.out with ⟨h, _⟩ | ⟨_, h⟩
           · cases h
           · exact ⟨⟨_, rfl⟩, .inr ⟨k + 1, by omega, h⟩⟩)
        | (go_roundw
           case rel =>
             rcases H3.out with ⟨_, h1, h2⟩ | ⟨h, _⟩
             · exact ⟨k + 1, by omega, by go_num, h1, HQ.out.t h2, Nat.le_trans HS.out h2.1.size⟩
             · cases h
           case measure => simp [intOf] <;> omega)
    · obtain rfl : k = len := by omega
      gi_wp2
      go_end0
      exact ⟨⟨_, rfl⟩, .inl HI.out.1⟩
set_option maxRecDepth 100000 in
set_option maxHeartbeats 1000000 in
theorem edges1_nil (n : Nat) (l Bs c : Nat) (A : Option Addr) (J : World → Prop) (W : World) (hBs : W.cell? ⟨Bs, 0, none⟩ = some (.slice A 0 c)) (h0 : J W) :
    CallsIn Fence.wide n Try.prog 57 #[.func (.yield l) #[] #[], .pointer (some ⟨Bs, 0, none⟩)] W fun e W' => (∃ v, e = .returned v) ∧ J W' := by
  refine callsIn_of_wp Try.func57 rfl trivial ?_ rfl
  simp only [Try.ntmps57, List.size_toArray, List.length_cons, List.length_nil, Nat.reduceAdd, Nat.reduceSub, Array.replicate_succ, Array.replicate_zero, List.push_toArray, List.append_toArray, List.nil_append, List.cons_append]
  have HJ := Lib.hid h0
  clear h0
  gi_wp2
  gi_loopw [7] (fun i wr => i = .int .i64 0 ∧ Hid (J wr)) (fun _ _ => 0)
  case atStart => exact ⟨rfl, HJ⟩
  case round =>
    obtain ⟨rfl, hJs⟩ := hrel
    gi_wp2
    go_end0
    exact ⟨⟨_, rfl⟩, hJs.out⟩
/-- an edge with both ends in range -/
abbrev EP := { x : P × P // inP x.1 = true ∧ inP x.2 = true }
theorem g_rng {L : List P} (h : RL L) (i : Nat) : inP (g L i) = true := by
  by_cases hi : i < L.length
  · rw [g_at hi]; exact h _ (List.getElem_mem hi)
  · have e : g L i = (0, 0) := by unfold g; rw [List.getD_eq_getElem?_getD, List.getElem?_eq_none (by omega)]; rfl
    rw [e]; decide
def eE (L : List P) (h : RL L) (k : Nat) : List EP := (List.range k).map fun i => ⟨(g L i, g L (nx L i)), g_rng h i, g_rng h _⟩
theorem eE_succ (L : List P) (h : RL L) (k : Nat) : eE L h (k + 1) = eE L h k ++ [⟨(g L k, g L (nx L k)), g_rng h k, g_rng h _⟩] := by simp [eE, List.range_succ]
theorem eE_len (L : List P) (h : RL L) (k : Nat) : (eE L h k).length = k := by simp [eE]
/-- the edges of a list: all of them, or the first k -/
theorem edges_stops (n : Nat) (hn : 1 ≤ n) (Bs n₀ : Nat) (v : Value) (L : List P) (hR : RL L) (hl6 : L.length ≤ 1000000) (w : World) (hs : Bs < w.heap.size) (hn0 : n₀ ≤ w.heap.size)
    (hBs : w.cell? ⟨Bs, 0, none⟩ = some v) (w0 : World) (hw0 : n₀ = w0.heap.size) (hr : RdP w0 v L) (hq : Q w0 w) :
    SeqStopsK Fence.wide n Try.prog 57 #[.pointer (some ⟨Bs, 0, none⟩)] (fun x : EP => #[pv x.1.1, pv x.1.2]) (Kp n₀ Bs) (fun ys => ys = eE L hR L.length) (fun pre => ∃ k, k ≤ L.length ∧ pre = eE L hR k) L.length w := fun l J Jx W hW hJ hJx hY h0 => by
  have hBW : W.cell? ⟨Bs, 0, none⟩ = some v := (hW.cell (p := ⟨Bs, 0, none⟩) hs).trans hBs
  have hrW : RdP W v L := RdG.q hr (hq.trans hW)
  obtain ⟨A, c, rfl, hc, h3⟩ := hr
  by_cases hz : 0 < L.length
  · obtain ⟨b, off, rfl, hb, _⟩ := h3 hz
    have hbW : b < W.heap.size := Nat.lt_of_lt_of_le hb (Nat.le_trans (by omega) (Nat.le_trans hn0 hW.size))
    refine (edges1_in n hn l Bs n₀ b off L.length c L rfl hl6 (by omega) (fun k => J (eE L hR k)) (fun k => Jx (eE L hR k)) W (fun s A B row h1 h2 h4 => hJ _ A B row h1 h2 h4) (Nat.lt_of_lt_of_le hs hW.size) (Nat.le_trans hn0 hW.size) (fun k W' h1 h2 => ?_) hBW hrW hbW h0).mono ?_
    · have := hY (eE L hR k) ⟨(g L k, g L (nx L k)), g_rng hR k, g_rng hR _⟩ W' h1 (by rw [eE_len]; exact h2)
      rw [← eE_succ] at this
      exact this
    · rintro e W' ⟨he, h | ⟨k, hk, h⟩⟩
      · exact ⟨he, .inl ⟨_, rfl, h⟩⟩
      · exact ⟨he, .inr ⟨_, ⟨k, hk, rfl⟩, h⟩⟩
  · have e0 : L = [] := List.eq_nil_of_length_eq_zero (by omega)
    subst e0
    exact (edges1_nil n l Bs c A (J []) W hBW h0).mono fun e W' ⟨he, hj⟩ => ⟨he, .inl ⟨[], rfl, hj⟩⟩
set_option maxHeartbeats 1000000 in
theorem edges_in (n : Nat) (a : Option Addr) (len cap : Nat) (w : World) :
    CallsIn Fence.wide n Try.prog 38 #[.slice a len cap] w fun e w' => e = .returned (.func (.func 57) #[] #[.pointer (some ⟨w.heap.size, 0, none⟩)]) ∧ w' = w.alloc (.cells #[.slice a len cap] 22) := by
  refine callsIn_of_wp Try.func38 rfl trivial ?_ rfl
  simp only [Try.ntmps38, List.size_toArray, List.length_cons, List.length_nil, Nat.reduceAdd, Nat.reduceSub, Array.replicate_succ, Array.replicate_zero, List.push_toArray, List.append_toArray, List.nil_append, List.cons_append]
  gi_wp2
  go_ret
  exact ⟨rfl, rfl⟩
end Go.Proofs.Ytkkghejbdakmpaa
