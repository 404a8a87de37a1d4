/- Rows of readings of the call's own; clones of readings; a row that may be written. -/
import Derived.Test.YtlcgbeocdimboaaDoorGaps
import Derived.Test.YtlcgbeocdimboaaDoorPTurnB
set_option linter.unusedVariables false
set_option linter.unusedSimpArgs false
namespace Go.Proofs.YtlcgbeocdimboaaDoor
open Go.ChangeShapes Go.WideShapes Go.ChangeAt Go.RowKit Go.Shelf Pm

def cellsR (l : List RD) : List Value := l.flatMap rc
def OwnR (B : Nat) (v : Value) (l : List RD) (w : World) : Prop := w.ownsRow B 44 3 v l.length (cellsR l)
theorem infoR : (Tryd.prog.info? 44).map (fun i => (i.zero, i.size, i.bytes)) = some (some (.agg #[.int .i64 0, .int .i64 0, .bool false]), 3, 24) := by kernel_rfl
theorem ownR_nil (B : Nat) (w : World) : OwnR B (.slice none 0 0) [] w := World.ownsRow_nil _ _ _ _
theorem cellsR_at : ∀ (l : List RD) (i : Nat) (s : RD), l[i]? = some s → ∀ j u, (rc s)[j]? = some u → (cellsR l)[i * 3 + j]? = some u
  | [], i, s, h => by simp at h
  | t :: l, 0, s, h => fun j u hu => by
    simp at h; subst h
    have hj : j < (rc t).length := by
      rcases Nat.lt_or_ge j (rc t).length with k | k
      · exact k
      · rw [List.getElem?_eq_none k] at hu; cases hu
    show (rc t ++ cellsR l)[0 * 3 + j]? = _
    rw [show 0 * 3 + j = j by omega, List.getElem?_append_left hj]; exact hu
  | t :: l, i + 1, s, h => fun j u hu => by
    have := cellsR_at l i s (by simpa using h) j u hu
    show (rc t ++ cellsR l)[(i + 1) * 3 + j]? = _
    rw [List.getElem?_append_right (by show 3 ≤ _; omega), show (i + 1) * 3 + j - (rc t).length = i * 3 + j by show (i + 1) * 3 + j - 3 = _; omega]
    exact this
theorem cellsR_len : ∀ l : List RD, (cellsR l).length = l.length * 3
  | [] => rfl
  | t :: l => by show (rc t ++ cellsR l).length = _; rw [List.length_append, cellsR_len l, List.length_cons]; show 3 + _ = _; omega
theorem cellsR_app (a b : List RD) : cellsR (a ++ b) = cellsR a ++ cellsR b := by unfold cellsR; rw [List.flatMap_append]
theorem cellsR_one (l : List RD) : ∀ u ∈ cellsR l, u.oneCell' = true := by
  intro u hu
  unfold cellsR at hu
  obtain ⟨s, _, hs⟩ := List.mem_flatMap.1 hu
  simp [rc] at hs
  rcases hs with rfl | rfl | rfl <;> rfl
theorem OwnR.form {B : Nat} {v : Value} {l : List RD} {w : World} (h : OwnR B v l w) (h0 : 0 < l.length) : ∃ g cap, v = .slice (some ⟨g, 0, none⟩) l.length cap ∧ l.length ≤ cap ∧ B ≤ g ∧ g < w.heap.size := by
  obtain ⟨_, ⟨_, h3⟩ | ⟨g, cap, cur, rfl, hb, hg, hn, _⟩⟩ := h
  · omega
  · refine ⟨g, cap, rfl, hn, hb, ?_⟩
    rcases Nat.lt_or_ge g w.heap.size with k | k
    · exact k
    · rw [Array.getElem?_eq_none k] at hg; cases hg
theorem OwnR.rd {B : Nat} {v : Value} {l : List RD} {w : World} (h : OwnR B v l w) : RdR w v l := by
  by_cases h0 : 0 < l.length
  · obtain ⟨g, cap, rfl, hn, hb, hg⟩ := h.form h0
    refine ⟨_, _, rfl, hn, fun _ => ⟨g, 0, rfl, hg, fun i s hs j u hu => ?_⟩⟩
    have hi : i < l.length := by
      rcases Nat.lt_or_ge i l.length with k | k
      · exact k
      · rw [List.getElem?_eq_none k] at hs; cases hs
    have hj : j < 3 := by
      rcases Nat.lt_or_ge j 3 with k | k
      · exact k
      · rw [List.getElem?_eq_none (by show 3 ≤ j; exact k)] at hu; cases hu
    rw [Nat.zero_add]
    exact (h.cellAt (i * 3 + j) (by omega)).trans (cellsR_at l i s hs j u hu)
  · have hl : l = [] := List.eq_nil_of_length_eq_zero (by omega)
    subst hl
    obtain ⟨_, ⟨rfl, _⟩ | ⟨g, cap, cur, rfl, _, _, hn, _⟩⟩ := h
    · exact RdG.nil _ _ w
    · exact ⟨_, cap, rfl, hn, fun h => absurd h (by simp)⟩
theorem rdr_cells {w : World} {b off n c : Nat} {l : List RD} (h : RdR w (.slice (some ⟨b, off, none⟩) n c) l) : ∀ j u, (cellsR l)[j]? = some u → w.cell? ⟨b, off + j, none⟩ = some u := fun j u hj => by
  obtain ⟨A, c', h1, h2, h3⟩ := h
  injection h1 with e1 e2 e3
  subst e1 e2 e3
  have hjl : j < (cellsR l).length := by
    rcases Nat.lt_or_ge j (cellsR l).length with k | k
    · exact k
    · rw [List.getElem?_eq_none k] at hj; cases hj
  rw [cellsR_len] at hjl
  obtain ⟨b', off', e4, hb, hcell⟩ := h3 (by omega)
  injection e4 with e4; injection e4 with e5 e6
  subst e5 e6
  have hil : j / 3 < l.length := by omega
  have hm : j % 3 < (rc l[j / 3]).length := by show j % 3 < 3; omega
  have c1 := cellsR_at l (j / 3) l[j / 3] (List.getElem?_eq_getElem hil) (j % 3) _ (List.getElem?_eq_getElem hm)
  have c2 := hcell (j / 3) l[j / 3] (List.getElem?_eq_getElem hil) (j % 3) _ (List.getElem?_eq_getElem hm)
  rw [show j / 3 * 3 + j % 3 = j by omega] at c1
  rw [show off + j / 3 * 3 + j % 3 = off + j by omega] at c2
  rw [c2, ← c1]; exact hj
/-- a clone: nothing, or a row of the call's own -/
def CloneR (l : List RD) (w : World) (e : Ending) (w' : World) : Prop :=
  (l = [] ∧ e = .returned (.slice none 0 0) ∧ w = w') ∨ ∃ g cap, e = .returned (.slice (some ⟨g, 0, none⟩) l.length cap) ∧ OwnR w.heap.size (.slice (some ⟨g, 0, none⟩) l.length cap) l w' ∧ Q w w'
theorem sizeR : ∀ w, (Go.sizeOf 44).run Tryd.prog w = .ok 3 w := Tryd.sizeOf44
set_option maxHeartbeats 1000000 in
theorem clone_r (v : Value) (l : List RD) (w : World) (hr : RdR w v l) (hl : l.length ≤ 1000000) : Calls Tryd.prog 41 #[v] w (CloneR l w) := by
  obtain ⟨i0, hi, hz0, hz1, hz2⟩ := info_parts infoR
  by_cases h0 : 0 < l.length
  · obtain ⟨A, c, rfl, hc, h3⟩ := hr
    obtain ⟨b, off, rfl, hb, hcell⟩ := h3 h0
    have hcon := AnyE.slices_Clone Tryd.cloneR i0 (.agg #[.int .i64 0, .int .i64 0, .bool false]) 3 24 hi hz0 hz1 hz2 rfl (by decide) sizeR b off l.length c (cellsR l) w (cellsR_len l) (by unfold maxLen; omega) (by omega) (fun j u hj => rdr_cells (n := l.length) ⟨_, c, rfl, hc, fun _ => ⟨b, off, rfl, hb, hcell⟩⟩ j u hj) (cellsR_one l)
    change Calls Tryd.prog 41 _ _ _ at hcon
    refine hcon.mono fun e w' ⟨v', he, ho, hne, hb⟩ => ?_
    have ho' : OwnR w.heap.size v' l w' := ho
    obtain ⟨g, cap, rfl, _, _, _⟩ := ho'.form h0
    exact .inr ⟨g, cap, he, ho', hb⟩
  · have hl0 : l = [] := List.eq_nil_of_length_eq_zero (by omega)
    subst hl0
    obtain ⟨A, c, rfl, hc, h3⟩ := hr
    rcases A with _ | a
    · have hcon := AnyE.slices_Clone_nil Tryd.cloneR 0 c w
      change Calls Tryd.prog 41 _ _ _ at hcon
      exact hcon.mono fun e w' ⟨he, hw⟩ => .inl ⟨rfl, he, hw.symm⟩
    · have q28 : ∀ (w : World) (a : Option Addr) (n c n' c' : Nat), (binOp .eql 22 (.slice a n c) (.slice none n' c')).run Tryd.prog w = .ok (.bool a.isNone) w := fun w a n c n' c' => Lib.run_eql_slice_nil w _ _ a n c n' c' Tryd.underlying22
      clear h3 hc hl h0
      go_enter Tryd.func41, Tryd.ntmps41
      go_wp2_with (at_builtin; refine wpList_append_own _ rfl _ _ 22 rfl w.heap.size 44 i0 (.agg #[.int .i64 0, .int .i64 0, .bool false]) 3 24 Tryd.underlying22 hi hz0 hz1 hz2 rfl (by decide) _ _ _ rfl (World.ownsRow_made w #[] 0 (Nat.le_refl _) (Nat.zero_le _) (by simp)) a 0 c [] rfl rfl (fun j u hj => by simp at hj) (fun u hu => by cases hu) (by unfold maxLen; omega) (by omega) (by simp) ?_)
      intro v' w1 hown hgrow hnil
      go_wp2_with fail
      go_ret
      have ho' : OwnR w.heap.size v' [] w1 := hown
      have hq : Q w w1 := ((Below.refl _ w).alloc (Nat.le_refl _) _).grown hgrow (by simp) (by intro k hk; simp [Value.ownBlock] at hk; omega)
      obtain ⟨_, ⟨rfl, _⟩ | ⟨g, cap, cur, rfl, _⟩⟩ := hown
      · exact absurd rfl hnil
      · exact .inr ⟨g, cap, rfl, ho', hq⟩

/-! a row that may be written -/
def WrR (w : World) (b : Nat) (l : List RD) : Prop := WrC w b (cellsR l)
theorem cellsR_set : ∀ (l : List RD) (i : Nat) (p : RD), i < l.length → cellsR (l.set i p) = (((cellsR l).set (i * 3) (.int .i64 p.x)).set (i * 3 + 1) (.int .i64 p.y)).set (i * 3 + 2) (.bool p.o)
  | [], i, p, h => by simp at h
  | t :: l, 0, p, _ => rfl
  | t :: l, i + 1, p, h => by
    have ih := cellsR_set l i p (by simpa using h)
    show rc t ++ cellsR (l.set i p) = _
    rw [ih]
    show _ = (((rc t ++ cellsR l).set ((i + 1) * 3) _).set ((i + 1) * 3 + 1) _).set ((i + 1) * 3 + 2) _
    rw [List.set_append_right _ _ (by show 3 ≤ _; omega), List.set_append_right _ _ (by show 3 ≤ _; omega), List.set_append_right _ _ (by show 3 ≤ _; omega), show (i + 1) * 3 - (rc t).length = i * 3 by show (i + 1) * 3 - 3 = _; omega, show (i + 1) * 3 + 1 - (rc t).length = i * 3 + 1 by show (i + 1) * 3 + 1 - 3 = _; omega, show (i + 1) * 3 + 2 - (rc t).length = i * 3 + 2 by show (i + 1) * 3 + 2 - 3 = _; omega]
theorem WrR.set {w : World} {b : Nat} {l : List RD} (h : WrR w b l) {i : Nat} (hi : i < l.length) (p : RD) : WrR (((w.setCell ⟨b, i * 3, none⟩ (.int .i64 p.x)).setCell ⟨b, i * 3 + 1, none⟩ (.int .i64 p.y)).setCell ⟨b, i * 3 + 2, none⟩ (.bool p.o)) b (l.set i p) := by
  unfold WrR; rw [cellsR_set l i p hi]; exact ((WrC.set h _ _).set _ _).set _ _
theorem WrR.at {w : World} {b : Nat} {l : List RD} (h : WrR w b l) {i : Nat} (hi : i < l.length) : (w.cell? ⟨b, i * 3, none⟩ = some (.int .i64 (gr l i).x) ∧ w.cell? ⟨b, i * 3 + 1, none⟩ = some (.int .i64 (gr l i).y) ∧ w.cell? ⟨b, i * 3 + 2, none⟩ = some (.bool (gr l i).o)) ∧ w.frozen? ⟨b, i * 3, none⟩ = false ∧ w.frozen? ⟨b, i * 3 + 1, none⟩ = false ∧ w.frozen? ⟨b, i * 3 + 2, none⟩ = false := by
  have k := fun j u (hu : (rc l[i])[j]? = some u) => h.2 _ _ (cellsR_at l i l[i] (List.getElem?_eq_getElem hi) j u hu)
  rw [gr_at hi]
  have k0 := k 0 _ rfl
  have k1 := k 1 _ rfl
  have k2 := k 2 _ rfl
  exact ⟨⟨k0.1, k1.1, k2.1⟩, k0.2, k1.2, k2.2⟩
theorem WrR.q {w w' : World} {b : Nat} {l : List RD} (h : WrR w b l) (hq : Q w w') : WrR w' b l := WrC.of h (hq.block b h.1)
theorem WrR.rd {w : World} {b c n : Nat} {l : List RD} (h : WrR w b l) (hn : l.length = n) (hc : n ≤ c) : RdR w (.slice (some ⟨b, 0, none⟩) n c) l := by
  subst hn
  refine ⟨_, c, rfl, hc, fun _ => ⟨b, 0, rfl, h.1, fun i s hs j u hu => ?_⟩⟩
  rw [Nat.zero_add]
  exact (h.2 _ _ (cellsR_at l i s hs j u hu)).1
theorem wr_ownR {B b cap n : Nat} {l : List RD} {w : World} (h : OwnR B (.slice (some ⟨b, 0, none⟩) n cap) l w) (hn : n = l.length) (hb : b < w.heap.size) : WrR w b l := by
  subst hn
  refine ⟨hb, fun j u hj => ?_⟩
  have hjl : j < (cellsR l).length := by
    rcases Nat.lt_or_ge j (cellsR l).length with k | k
    · exact k
    · rw [List.getElem?_eq_none k] at hj; cases hj
  rw [cellsR_len] at hjl
  exact ⟨(h.cellAt j (by omega)).trans hj, h.frozenAt j⟩
/-- what a clone is good for -/
def ClP (l : List RD) (w : World) (v : Value) (w' : World) : Prop := RdR w' v l ∧ Q w w' ∧ (0 < l.length → ∃ g cap, v = .slice (some ⟨g, 0, none⟩) l.length cap ∧ l.length ≤ cap ∧ w.heap.size ≤ g ∧ WrR w' g l)
theorem clone_w (v : Value) (l : List RD) (w : World) (hr : RdR w v l) (hl : l.length ≤ 1000000) : Calls Tryd.prog 41 #[v] w fun e w' => ∃ A c, e = .returned (.slice A l.length c) ∧ ClP l w (.slice A l.length c) w' := by
  refine (clone_r v l w hr hl).mono fun e w' h => ?_
  rcases h with ⟨rfl, rfl, rfl⟩ | ⟨g, cap, rfl, ho, hq⟩
  · exact ⟨_, _, rfl, RdG.nil _ _ _, Q.refl _, fun h => absurd h (by simp)⟩
  · refine ⟨_, _, rfl, ho.rd, hq, fun h0 => ?_⟩
    obtain ⟨g', cap', e, h1, h2, h3⟩ := ho.form h0
    injection e with e1 e2 e3
    injection e1 with e1
    injection e1 with e1
    subst e1 e3
    exact ⟨g, cap, rfl, h1, h2, wr_ownR ho rfl h3⟩
/-- a copy of a ring: its block is new and may be written -/
def SepPost (z : Int) (l : List RD) (w : World) (e : Ending) (w' : World) : Prop := ∃ A c, e = .returned (.agg #[.int .i64 z, .slice A l.length c]) ∧ ClP l w (.slice A l.length c) w'
theorem ClP.up {l : List RD} {w0 w w' w2 : World} {v : Value} (h : ClP l w v w') (h0 : Q w0 w) (h2 : Q w' w2) : ClP l w0 v w2 :=
  ⟨RdG.q h.1 h2, h0.trans (h.2.1.trans h2), fun hl => by
    obtain ⟨g, cap, e, h1, h3, h4⟩ := h.2.2 hl
    exact ⟨g, cap, e, h1, Nat.le_trans h0.size h3, h4.q h2⟩⟩
theorem box_at {W : World} {b : Nat} {u0 u1 : Value} {T : TypeId} (h : W.heap[b]? = some (.cells #[u0, u1] T (0, 0))) : W.cell? ⟨b, 0, none⟩ = some u0 ∧ W.cell? ⟨b, 1, none⟩ = some u1 ∧ W.frozen? ⟨b, 0, none⟩ = false ∧ W.frozen? ⟨b, 1, none⟩ = false := by
  refine ⟨?_, ?_, ?_, ?_⟩ <;> simp [World.cell?, World.frozen?, h]
theorem sep_at {W : World} {b : Nat} {u0 u1 : Value} {T : TypeId} (h : W.heap[b]? = some (.cells #[u0, u1] T (0, 0))) (x y : Value) : ((W.setCell ⟨b, 0, none⟩ x).setCell ⟨b, 1, none⟩ y).cell? ⟨b, 0, none⟩ = some x ∧ ((W.setCell ⟨b, 0, none⟩ x).setCell ⟨b, 1, none⟩ y).cell? ⟨b, 1, none⟩ = some y := by
  obtain ⟨h0, h1, _, _⟩ := box_at h
  have e0 : (W.setCell ⟨b, 0, none⟩ x).cell? ⟨b, 0, none⟩ = some x := World.cell?_setCell_same' _ _ _ (by rw [h0]; rfl)
  have e1 : (W.setCell ⟨b, 0, none⟩ x).cell? ⟨b, 1, none⟩ = some u1 := by
    rw [World.cell?_setCell_other]
    · exact h1
    · intro k; injection k with _ k; cases k
  refine ⟨?_, World.cell?_setCell_same' _ _ _ (by rw [e1]; rfl)⟩
  rw [World.cell?_setCell_other]
  · exact e0
  · intro k; injection k with _ k; cases k
theorem WrC.far {w : World} {b b' i : Nat} {C : List Value} (v : Value) (h : WrC w b C) (hne : b' ≠ b) : WrC (w.setCell ⟨b', i, none⟩ v) b C :=
  WrC.of h (Below.heap_setCell _ _ _ b (fun e => hne e.symm))
theorem sep_post {l : List RD} {n c2 : Nat} {A2 : Option Addr} {w W0 W1 w2 : World} {x y : Value} (hn : l.length = n) (h : ClP l W1.drew (.slice A2 n c2) w2) (q0 : Q w W0) (q1 : Q W0 W1) (hs : w.heap.size ≤ W0.heap.size) (hs1 : W0.heap.size < W1.heap.size) : ClP l w (.slice A2 n c2) ((w2.setCell ⟨W0.heap.size, 0, none⟩ x).setCell ⟨W0.heap.size, 1, none⟩ y) := by
  have hq : Q w ((w2.setCell ⟨W0.heap.size, 0, none⟩ x).setCell ⟨W0.heap.size, 1, none⟩ y) := ((q0.trans (q1.drew.trans h.2.1)).setA hs _).setA hs _
  by_cases h0 : 0 < l.length
  · obtain ⟨g, cap, e, h1, h3, h4⟩ := h.2.2 h0
    have hne : W0.heap.size ≠ g := by have : W1.heap.size ≤ g := h3; omega
    have hw := WrC.far (i := 1) y (WrC.far (i := 0) x h4 hne) hne
    refine ⟨?_, hq, fun _ => ⟨g, cap, e, h1, ?_, hw⟩⟩
    · rw [e]; exact WrR.rd hw rfl h1
    · have : W1.heap.size ≤ g := h3; have := q0.size; have := q1.size; omega
  · have hl : l = [] := List.eq_nil_of_length_eq_zero (by omega)
    subst hl
    have hn0 : n = 0 := hn.symm
    subst hn0
    exact ⟨⟨A2, c2, rfl, Nat.zero_le _, fun h => absurd h (by simp)⟩, hq, fun h => absurd h (by simp)⟩
theorem hq_of {wr W : World} {X : Prop} (h : Hid (Q wr W) ∧ X) : Q wr W := h.1.out
set_option maxRecDepth 100000 in
set_option maxHeartbeats 1600000 in
theorem separate_c (z : Int) (v : Value) (l : List RD) (w : World) (hr : RdR w v l) (hl : l.length ≤ 1000000) : Calls Tryd.prog 28 #[.agg #[.int .i64 z, v]] w (SepPost z l w) := by
  have HR := Lib.hid hr
  have HL := Lib.hid hl
  obtain ⟨A, c, rfl, hc, _⟩ := hr
  obtain ⟨n, hn⟩ : ∃ n, l.length = n := ⟨_, rfl⟩
  have HN := Lib.hid hn
  rw [hn] at HR hc
  rw [hn]
  unfold SepPost
  rw [hn]
  have HC := Lib.hid (fun w h => clone_w (.slice A n c) l w h HL.out)
  rw [hn] at HC
  clear hn
  obtain ⟨W0, hW0⟩ : ∃ W, w.alloc (.cells #[.int .i64 z, .slice A n c] 24) = W := ⟨_, rfl⟩
  obtain ⟨W1, hW1⟩ : ∃ W, W0.alloc (.cells #[.int .i64 0, .slice none 0 0] 24) = W := ⟨_, rfl⟩
  have Q0 := Lib.hid (show Q w W1 by rw [← hW1, ← hW0]; exact ((Q.refl w).alloc _).alloc _)
  have Q00 := Lib.hid (show Q w W0 by rw [← hW0]; exact (Q.refl w).alloc _)
  have Q01 := Lib.hid (show Q W0 W1 by rw [← hW1]; exact (Q.refl W0).alloc _)
  have HB := Lib.hid (show W1.heap[W0.heap.size]? = some (.cells #[.int .i64 0, .slice none 0 0] 24 (0, 0)) by rw [← hW1]; exact World.alloc_heap_new W0 _)
  have hs : w.heap.size < W0.heap.size := by rw [← hW0]; simp
  have hs1 : W0.heap.size < W1.heap.size := by rw [← hW1]; simp
  have y0 : W0.cell? ⟨w.heap.size, 0, none⟩ = some (.int .i64 z) := by rw [← hW0]; exact World.cell?_alloc_at _ _ _ _ rfl
  have y1 : W0.cell? ⟨w.heap.size, 1, none⟩ = some (.slice A n c) := by rw [← hW0]; exact World.cell?_alloc_at _ _ _ _ rfl
  have HK := Lib.hid (show ∀ W, Q W0 W → Hid (Q W0 W) ∧ W.cell? ⟨w.heap.size, 0, none⟩ = some (.int .i64 z) ∧ W.cell? ⟨w.heap.size, 1, none⟩ = some (.slice A n c) from fun W h => ⟨Lib.hid h, (h.cell (p := ⟨w.heap.size, 0, none⟩) hs).trans y0, (h.cell (p := ⟨w.heap.size, 1, none⟩) hs).trans y1⟩)
  have HBX := Lib.hid (show ∀ W, Q W1 W → W.cell? ⟨W0.heap.size, 0, none⟩ = some (.int .i64 0) ∧ W.cell? ⟨W0.heap.size, 1, none⟩ = some (.slice none 0 0) ∧ W.frozen? ⟨W0.heap.size, 0, none⟩ = false ∧ W.frozen? ⟨W0.heap.size, 1, none⟩ = false from fun W h => box_at ((h.block _ hs1).trans HB.out))
  clear hl hc
  go_enter Tryd.func28, Tryd.ntmps28
  go_wp2_with fail
  go_region_held3 (fun W => Hid (Q W0 W) ∧ W.cell? ⟨w.heap.size, 0, none⟩ = some (.int .i64 z) ∧ W.cell? ⟨w.heap.size, 1, none⟩ = some (.slice A n c)) (first | exact HK.out _ Q01.out.drew | exact HK.out _ (Q01.out.drew.trans hc2.2.1) | exact HK.out _ (((Q01.out.drew.trans hc2.2.1).setA (Nat.le_refl _) _).setA (Nat.le_refl _) _)) (first | (go_at_call 41; refine (HC.out _ (RdG.q HR.out (Q00.out.trans (hq_of (by assumption))))).mono ?_; rintro e w2 ⟨A2, c2, rfl, hc2⟩; obtain ⟨x0, x1, f0, f1⟩ := HBX.out w2 (((Q.refl W1).drew).trans hc2.2.1)))
  have HC2 := Lib.hid hc2
  have hb2 := Lib.hid ((hc2.2.1.block _ (show W0.heap.size < W1.drew.heap.size from hs1)).trans HB.out)
  clear hc2
  obtain ⟨g0, g1⟩ := sep_at hb2.out (.int .i64 z) (.slice A2 n c2)
  go_wp2_with fail
  refine bodyPost_ret (v := .agg #[.int .i64 z, .slice A2 n c2]) (by simp [results, Tryd.results28, go_sem, g0, g1]) rfl ⟨A2, c2, rfl, ?_⟩
  exact sep_post HN.out HC2.out Q00.out Q01.out (by omega) hs1
end Go.Proofs.YtlcgbeocdimboaaDoor
