/- slices.Clone and slices.SortFunc at points, as Canon calls them. -/
import Derived.Test.YtlcgbeocdimboaaDoorPLeafB
import Derived.Test.YtlcgbeocdimboaaDoorShelf
set_option linter.unusedVariables false
set_option linter.unusedSimpArgs false
namespace Go.Proofs.YtlcgbeocdimboaaDoor
open Go.ChangeShapes Go.WideShapes Go.ChangeAt Go.RowKit Go.Sort Go.Shelf Pm

def Gr (w w' : World) : Prop := ∃ q os', w' = grow (w.drewN q) os'
theorem Gr.refl (w : World) : Gr w w := ⟨0, #[], by simp [grow]; rfl⟩
theorem gsAl {b : Nat} {x1 x2 y1 y2 : Int} {W W1 : World} (h : W1.cell? ⟨b, 0, none⟩ = some (.int .i64 x1) ∧ W1.cell? ⟨b, 1, none⟩ = some (.int .i64 x2) ∧ W1.cell? ⟨b + 1, 0, none⟩ = some (.int .i64 y1) ∧ W1.cell? ⟨b + 1, 1, none⟩ = some (.int .i64 y2) ∧ b + 1 < W1.heap.size ∧ Hid (Gr W W1)) (o : Obj) :
    (W1.alloc o).cell? ⟨b, 0, none⟩ = some (.int .i64 x1) ∧ (W1.alloc o).cell? ⟨b, 1, none⟩ = some (.int .i64 x2) ∧ (W1.alloc o).cell? ⟨b + 1, 0, none⟩ = some (.int .i64 y1) ∧ (W1.alloc o).cell? ⟨b + 1, 1, none⟩ = some (.int .i64 y2) ∧ b + 1 < (W1.alloc o).heap.size ∧ Hid (Gr W (W1.alloc o)) := by
  obtain ⟨h0, h1, h2, h3, h4, h5⟩ := h
  have k := fun (a : Addr) (ha : a.block < W1.heap.size) => ((Q.refl W1).alloc o).cell (p := a) ha
  refine ⟨(k _ (show b < _ by omega)).trans h0, (k _ (show b < _ by omega)).trans h1, (k _ h4).trans h2, (k _ h4).trans h3, by simp; omega, Lib.hid ?_⟩
  obtain ⟨q, os, e⟩ := h5.out
  exact ⟨q, _, by rw [alloc_eq_grow, e, grow_grow]⟩
theorem cellsL_one (l : List P) : ∀ u ∈ cellsL l, u.oneCell' = true := by
  intro u hu
  unfold cellsL at hu
  obtain ⟨s, _, hs⟩ := List.mem_flatMap.1 hu
  simp [pc] at hs
  rcases hs with rfl | rfl <;> rfl
theorem rdp_cells {w : World} {b off n c : Nat} {l : List P} (h : RdP w (.slice (some ⟨b, off, none⟩) n c) l) : ∀ j u, (cellsL l)[j]? = some u → w.cell? ⟨b, off + j, none⟩ = some u := fun j u hj => by
  obtain ⟨A, c', h1, h2, h3⟩ := h
  injection h1 with e1 e2 e3
  subst e1 e2 e3
  have hjl : j < (cellsL l).length := by
    rcases Nat.lt_or_ge j (cellsL l).length with k | k
    · exact k
    · rw [List.getElem?_eq_none k] at hj; cases hj
  rw [cellsL_len] at hjl
  obtain ⟨b', off', e4, hb, hcell⟩ := h3 (by omega)
  injection e4 with e4; injection e4 with e5 e6
  subst e5 e6
  have hil : j / 2 < l.length := by omega
  have c1 := cellsL_at l (j / 2) l[j / 2] (List.getElem?_eq_getElem hil)
  have c2 := hcell (j / 2) l[j / 2] (List.getElem?_eq_getElem hil)
  rcases Nat.mod_two_eq_zero_or_one j with m | m
  · have e : j = j / 2 * 2 := by omega
    have c3 := c2 0 _ rfl
    rw [show off + j / 2 * 2 + 0 = off + j by omega] at c3
    rw [show (cellsL l)[j]? = _ from (congrArg (fun t => (cellsL l)[t]?) e).trans c1.1] at hj
    rw [c3]; exact hj
  · have e : j = j / 2 * 2 + 1 := by omega
    have c3 := c2 1 _ rfl
    rw [show off + j / 2 * 2 + 1 = off + j by omega] at c3
    rw [show (cellsL l)[j]? = _ from (congrArg (fun t => (cellsL l)[t]?) e).trans c1.2] at hj
    rw [c3]; exact hj
/-- a clone: nothing, or a row of the call's own -/
def ClonePost (l : List P) (w : World) (e : Ending) (w' : World) : Prop :=
  (l = [] ∧ e = .returned (.slice none 0 0) ∧ w = w') ∨ ∃ g cap, e = .returned (.slice (some ⟨g, 0, none⟩) l.length cap) ∧ Own w.heap.size (.slice (some ⟨g, 0, none⟩) l.length cap) l w' ∧ Q w w'
theorem sizeS : ∀ w, (Go.sizeOf 38).run Tryd.prog w = .ok 2 w := Tryd.sizeOf38
set_option maxHeartbeats 1000000 in
theorem clone_c (v : Value) (l : List P) (w : World) (hr : RdP w v l) (hl : l.length ≤ 1000000) : Calls Tryd.prog 44 #[v] w (ClonePost l w) := by
  obtain ⟨i0, hi, hz0, hz1, hz2⟩ := info_parts infoP
  by_cases h0 : 0 < l.length
  · obtain ⟨A, c, rfl, hc, h3⟩ := hr
    obtain ⟨b, off, rfl, hb, hcell⟩ := h3 h0
    have hcon := AnyE.slices_Clone Tryd.cloneS i0 (.agg #[.int .i64 0, .int .i64 0]) 2 16 hi hz0 hz1 hz2 rfl (by decide) sizeS b off l.length c (cellsL l) w (cellsL_len l) (by unfold maxLen; omega) (by omega) (fun j u hj => rdp_cells (n := l.length) ⟨_, c, rfl, hc, fun _ => ⟨b, off, rfl, hb, hcell⟩⟩ j u hj) (cellsL_one l)
    change Calls Tryd.prog 44 _ _ _ at hcon
    refine hcon.mono fun e w' ⟨v', he, ho, hne, hb⟩ => ?_
    have ho' : Own w.heap.size v' l w' := ho
    obtain ⟨g, cap, rfl, _, _, _⟩ := ho'.form h0
    exact .inr ⟨g, cap, he, ho', hb⟩
  · have hl0 : l = [] := List.eq_nil_of_length_eq_zero (by omega)
    subst hl0
    obtain ⟨A, c, rfl, hc, h3⟩ := hr
    rcases A with _ | a
    · have hcon := AnyE.slices_Clone_nil Tryd.cloneS 0 c w
      change Calls Tryd.prog 44 _ _ _ at hcon
      exact hcon.mono fun e w' ⟨he, hw⟩ => .inl ⟨rfl, he, hw.symm⟩
    · have q28 : ∀ (w : World) (a : Option Addr) (n c n' c' : Nat), (binOp .eql 34 (.slice a n c) (.slice none n' c')).run Tryd.prog w = .ok (.bool a.isNone) w := fun w a n c n' c' => Lib.run_eql_slice_nil w _ _ a n c n' c' Tryd.underlying34
      clear h3 hc hl h0
      go_enter Tryd.func44, Tryd.ntmps44
      go_wp2_with (at_builtin; refine wpList_append_own _ rfl _ _ 34 rfl w.heap.size 38 i0 (.agg #[.int .i64 0, .int .i64 0]) 2 16 Tryd.underlying34 hi hz0 hz1 hz2 rfl (by decide) _ _ _ rfl (World.ownsRow_made w #[] 0 (Nat.le_refl _) (Nat.zero_le _) (by simp)) a 0 c [] rfl rfl (fun j u hj => by simp at hj) (fun u hu => by cases hu) (by unfold maxLen; omega) (by omega) (by simp) ?_)
      intro v' w1 hown hgrow hnil
      go_wp2_with fail
      go_ret
      have ho' : Own w.heap.size v' [] w1 := hown
      have hq : Q w w1 := ((Below.refl _ w).alloc (Nat.le_refl _) _).grown hgrow (by simp) (by intro k hk; simp [Value.ownBlock] at hk; omega)
      obtain ⟨_, ⟨rfl, _⟩ | ⟨g, cap, cur, rfl, _⟩⟩ := hown
      · exact absurd rfl hnil
      · exact .inr ⟨g, cap, rfl, ho', hq⟩

/-- block g holds the cells C from its head on, and they may be written -/
def WrC (w : World) (b : Nat) (C : List Value) : Prop := b < w.heap.size ∧ ∀ j u, C[j]? = some u → w.cell? ⟨b, j, none⟩ = some u ∧ w.frozen? ⟨b, j, none⟩ = false
def Wr (w : World) (b : Nat) (l : List P) : Prop := WrC w b (cellsL l)
end Go.Proofs.YtlcgbeocdimboaaDoor
