/- The contracts of slices.Concat at spans and of Union. -/
import Derived.Test.YtnbpkbdkhegheaaTotal
import Derived.Test.YtnbpkbdkhegheaaCommon
import Derived.Shelf.Spec.SlicesGrow
import Derived.Laws.AppendOwnNone
set_option linter.unusedVariables false
set_option linter.unusedSimpArgs false
namespace Go.Proofs.Ytnbpkbdkhegheaa
open Go.ChangeShapes Go.WideShapes Go.ChangeAt Go.RowKit Go.Shelf Sm

/-- a slice without an array has no room -/
def Nn (v : Value) : Prop := ∀ n c, v = .slice none n c → c = 0
theorem Own.nn {B : Nat} {v : Value} {l : List S} {w : World} (h : Own B v l w) : Nn v := by
  rintro n c rfl
  obtain ⟨_, ⟨h1, _⟩ | ⟨g, cap, cur, h1, _⟩⟩ := h
  · injection h1
  · cases h1
def GrowPost (w : World) (e : Ending) (w' : World) : Prop := ∃ v', e = .returned v' ∧ Own w.heap.size v' [] w' ∧ Q w w'
theorem grow_c (n : Nat) (w : World) (hn : n ≤ 1000000) : Calls Try.prog 47 #[.slice none 0 0, .int .i64 n] w (GrowPost w) := by
  obtain ⟨i0, hi, hz0, hz1, hz2⟩ := info_parts infoS
  by_cases h0 : n = 0
  · subst h0
    have h := Any8.slices_Grow_room Try.growS none 0 0 0 w (Nat.le_refl _) (by decide) (by decide) (by decide)
    change Calls Try.prog 47 _ _ _ at h
    refine h.mono ?_
    rintro e w' ⟨rfl, rfl⟩
    exact ⟨_, rfl, own_nil _ _, Q.refl _⟩
  · have h := Any8.slices_Grow_grow Try.growS i0 (.agg #[.int .i64 0, .int .i64 0]) hi hz0 (by rw [hz1]; decide) none 0 0 n [] w (Nat.le_refl _) (by omega) (by rw [hz2]; omega) (by omega) (by simp) (fun _ => rfl) (fun a ha => by cases ha)
    change Calls Try.prog 47 _ _ _ at h
    refine h.mono ?_
    rintro e w' ⟨rfl, rfl⟩
    have h1 := grownCap_ge w (0 + n) 0 23
    have h2 := grownCap_le_maxLen w (0 + n) 0 23 (by unfold maxLen; omega)
    refine ⟨_, rfl, ?_, (Q.refl w).drew.alloc _⟩
    exact World.ownsRow_made w.drew _ _ (Nat.le_refl _) h2 (by
      rw [Array.size_append, Array.size_append, size_zeroCells, size_zeroCells]
      change 0 + (0 + n - 0) * 2 + (grownCap w (0 + n) 0 23 - (0 + n)) * 2 = grownCap w (0 + n) 0 23 * 2
      omega)
/-- a list behind a row of one's own -/
theorem own_more {B : Nat} {w0 w w1 : World} {v v' : Value} {l l' : List S} (h : Own B v l w) (hb : Below B w0 w) (hB : B ≤ w.heap.size)
    (h' : w1.ownsRow B 23 2 v' (l.length + l'.length) (cellsL l ++ cellsL l')) (hg : w.grownBy w1 v.ownBlock) : Own B v' (l ++ l') w1 ∧ Below B w0 w1 :=
  ⟨by unfold Own; rw [List.length_append, cellsL_app]; exact h', hb.grown hg hB (fun j hj => (h.lt j hj).1)⟩
theorem rd_at {w : World} {a : Addr} {n c : Nat} {l : List S} (h : Rd w (.slice (some a) n c) l) : ∀ j u, (cellsL l)[j]? = some u → w.cell? (a.add j) = some u := fun j u hj => by
  obtain ⟨A, c', h1, h2, h3⟩ := h
  injection h1 with e1 e2 e3
  have hjl : j < (cellsL l).length := by
    rcases Nat.lt_or_ge j (cellsL l).length with k | k
    · exact k
    · rw [List.getElem?_eq_none k] at hj; cases hj
  rw [cellsL_len] at hjl
  obtain ⟨b, off, e4, hb, hcell⟩ := h3 (by omega)
  rw [← e1] at e4
  injection e4 with e4
  subst e4
  have hil : j / 2 < l.length := by omega
  have c1 := cellsL_at l (j / 2) l[j / 2] (List.getElem?_eq_getElem hil)
  have c2 := hcell (j / 2) l[j / 2] (List.getElem?_eq_getElem hil)
  rw [show (⟨b, off, none⟩ : Addr).add j = ⟨b, off + j, none⟩ by simp [Addr.add]]
  rcases Nat.mod_two_eq_zero_or_one j with g | g
  · rw [show j = j / 2 * 2 by omega] at hj ⊢
    rw [c1.1] at hj; rw [c2.1, hj]
  · rw [show j = j / 2 * 2 + 1 by omega] at hj ⊢
    rw [c1.2] at hj; rw [← Nat.add_assoc, c2.2, hj]
theorem wp_app {ops : Array Oper} {rest : List Oper} {o : Oper} {a : Act} {Q' : Exit → Act → World → Prop} {w : World} (hgd : o.guard = none) (s x : Operand)
    (ho : o.op = .call { callee := .builtin .append, args := #[s, x], argTypes := #[28, 28] }) (B : Nat) (v : Value) (l : List S) (hs : a.eval s = v) (hown : Own B v l w)
    (y : Value) (l' : List S) (hx : a.eval x = y) (hr : Rd w y l') (hn : Nn y) (hl : l.length + l'.length ≤ 1000000) (hB : B ≤ w.heap.size)
    (h : ∀ v' w', Own B v' (l ++ l') w' → w.grownBy w' v.ownBlock → wpList Try.prog ops Q' rest (a.put o.dst v') w') : wpList Try.prog ops Q' (o :: rest) a w := by
  obtain ⟨i0, hi, hz0, hz1, hz2⟩ := info_parts infoS
  obtain ⟨A, c, hy, hc, h3⟩ := hr
  rcases A with _ | ad
  · have h0 : l' = [] := by
      rcases l' with _ | ⟨t, l'⟩
      · rfl
      · obtain ⟨b, off, e, _⟩ := h3 (by simp); cases e
    subst h0
    have hc0 := hn _ _ hy
    subst hc0
    refine wpList_append_own_none hgd s x 28 ho B 23 i0 2 Try.underlying28 hi v l.length (cellsL l) hs hown (by rw [hx, hy]; rfl) ?_
    exact h v w (by rw [List.append_nil]; exact hown) (World.grownBy.refl _ _)
  · have hr : Rd w (.slice (some ad) l'.length c) l' := ⟨_, _, rfl, hc, h3⟩
    refine wpList_append_own w hgd s x 28 ho B 23 i0 (.agg #[.int .i64 0, .int .i64 0]) 2 16 Try.underlying28 hi hz0 hz1 hz2 rfl (by decide) v l.length (cellsL l) hs hown ad l'.length c (cellsL l') (by rw [hx, hy]) (cellsL_len l') (rd_at hr) (cellsL_one l') (by unfold maxLen; omega) (by omega) hB ?_
    intro v' w' h1 h2 _
    exact h v' w' (by unfold Own; rw [List.length_append, cellsL_app]; exact h1) h2
def ConPost (L : List S) (w : World) (e : Ending) (w' : World) : Prop := ∃ v', e = .returned v' ∧ Rd w' v' L ∧ Q w w'
set_option maxRecDepth 100000 in
set_option maxHeartbeats 3200000 in
theorem concat_c (g : Nat) (v v1 : Value) (l l' : List S) (w : World) (hg : g < w.heap.size) (hc0 : w.cell? ⟨g, 0, none⟩ = some v) (hc1 : w.cell? ⟨g, 1, none⟩ = some v1)
    (ha : Rd w v l) (hb : Rd w v1 l') (na : Nn v) (nb : Nn v1) (hal : l.length ≤ 50000) (hbl : l'.length ≤ 50000) :
    Calls Try.prog 42 #[.slice (some ⟨g, 0, none⟩) 2 2] w (ConPost (l ++ l') w) := by
  obtain ⟨i0, hi, hz0, hz1, hz2⟩ := info_parts infoS
  have HA := Lib.hid ha
  have HB := Lib.hid hb
  have NA := Lib.hid na
  have NB := Lib.hid nb
  obtain ⟨A, c, rfl, hc, _⟩ := ha
  obtain ⟨A1, c1, rfl, hcc, _⟩ := hb
  obtain ⟨n, hn⟩ : ∃ n, l.length = n := ⟨_, rfl⟩
  obtain ⟨m, hm⟩ : ∃ n, l'.length = n := ⟨_, rfl⟩
  have HN := Lib.hid hn
  have HM := Lib.hid hm
  rw [hn] at hc0
  rw [hm] at hc1
  have hn6 : n ≤ 50000 := by omega
  have hm6 : m ≤ 50000 := by omega
  obtain ⟨s, hs⟩ : ∃ s, n + m = s := ⟨_, rfl⟩
  have hs1 : IntKind.i64.wrap ((n : Int) + (m : Int)) = (s : Int) := by rw [← hs, IntWalk.i64_in _ (by omega)]; omega
  have hs0 : IntKind.i64.wrap (n : Int) = (n : Int) := IntWalk.i64_in _ (by omega)
  have hs6 : s ≤ 1000000 := by omega
  clear hc hcc hn hm hal hbl na nb hs
  go_enter Try.func42, Try.ntmps42
  go_wp2_with fail
  refine wp_loop_rounds 3 ?_
  rw [rounds_succ]
  go_wp2_with fail
  rw [rounds_succ]
  go_wp2_with fail
  rw [rounds_succ]
  go_wp2_with fail
  refine (grow_c s _ hs6).mono ?_
  rintro e w1 ⟨x, rfl, ho1, hq1⟩
  have hd0 := (hq1.cell (p := ⟨g, 0, none⟩) hg).trans hc0
  have hd1 := (hq1.cell (p := ⟨g, 1, none⟩) hg).trans hc1
  have HO1 := Lib.hid ho1
  have HQ1 := Lib.hid hq1
  have HRA := Lib.hid (show Rd w1 (.slice A n c) l by have := HA.out.q hq1; rw [HN.out] at this; exact this)
  have HNA := Lib.hid (show Nn (.slice A n c) by have := NA.out; rw [HN.out] at this; exact this)
  have HNB := Lib.hid (show Nn (.slice A1 m c1) by have := NB.out; rw [HM.out] at this; exact this)
  have HS0 := Lib.hid (show ([] : List S).length + l.length ≤ 1000000 by have := HN.out; simp; omega)
  have HS1 := Lib.hid (show ([] ++ l : List S).length + l'.length ≤ 1000000 by have := HN.out; have := HM.out; simp; omega)
  clear ho1 hq1
  go_wp2_with fail
  refine wp_loop_rounds 3 ?_
  rw [rounds_succ]
  go_wp2_with (first
    | (at_builtin; refine wp_app rfl _ _ rfl w.heap.size x [] rfl HO1.out (.slice A n c) l rfl HRA.out HNA.out HS0.out HQ1.out.size ?_)
    | go_in)
  intro v2 w2 ho2 hg2
  have hq2 : Q w w2 := HQ1.out.grown hg2 HQ1.out.size (fun j hj => (HO1.out.lt j hj).1)
  have he1 := (hq2.cell (p := ⟨g, 1, none⟩) hg).trans hc1
  have HO2 := Lib.hid ho2
  have HQ2 := Lib.hid hq2
  have HRB := Lib.hid (show Rd w2 (.slice A1 m c1) l' by have := HB.out.q hq2; rw [HM.out] at this; exact this)
  clear ho2 hq2 hg2
  go_wp2_with fail
  rw [rounds_succ]
  go_wp2_with (first
    | (at_builtin; refine wp_app rfl _ _ rfl w.heap.size v2 ([] ++ l) rfl HO2.out (.slice A1 m c1) l' rfl HRB.out HNB.out HS1.out HQ2.out.size ?_)
    | go_in)
  intro v3 w3 ho3 hg3
  have HO3 := Lib.hid ho3
  have HQ3 := Lib.hid (show Q w w3 from HQ2.out.grown hg3 HQ2.out.size (fun j hj => (HO2.out.lt j hj).1))
  clear ho3 hg3
  go_wp2_with fail
  rw [rounds_succ]
  go_wp2_with fail
  go_ret
  exact ⟨_, rfl, HO3.out.rd, HQ3.out⟩
set_option maxRecDepth 100000 in
set_option maxHeartbeats 1600000 in
theorem Union_c (v v1 : Value) (l l' : List S) (w : World) (ha : Rd w v l) (hb : Rd w v1 l') (na : Nn v) (nb : Nn v1) (hal : l.length ≤ 50000) (hbl : l'.length ≤ 50000) : Calls Try.prog 22 #[v, v1] w (SetPost (uniS l l') w) := by
  have HA := Lib.hid ha
  have HB := Lib.hid hb
  have NA := Lib.hid na
  have NB := Lib.hid nb
  have HAL := Lib.hid hal
  have HBL := Lib.hid hbl
  have HLL := Lib.hid (show (l ++ l').length ≤ 1000000 by rw [List.length_append]; omega)
  obtain ⟨A, c, rfl, _⟩ := ha
  obtain ⟨A1, c1, rfl, _⟩ := hb
  have hA0 := Lib.hid (show (w.alloc (.cells #[.slice A l.length c, .slice A1 l'.length c1] 28)).cell? ⟨w.heap.size, 0, none⟩ = some (.slice A l.length c) from World.cell?_alloc_at _ _ _ _ rfl)
  have hA1 := Lib.hid (show (w.alloc (.cells #[.slice A l.length c, .slice A1 l'.length c1] 28)).cell? ⟨w.heap.size, 1, none⟩ = some (.slice A1 l'.length c1) from World.cell?_alloc_at _ _ _ _ rfl)
  clear na nb hal hbl
  go_enter Try.func22, Try.ntmps22
  go_wp2_with fail
  all_goals (first
    | (refine (concat_c w.heap.size (.slice A l.length c) (.slice A1 l'.length c1) l l' (w.alloc (.cells #[.slice A l.length c, .slice A1 l'.length c1] 28)) (by simp) hA0.out hA1.out (HA.out.q ((Q.refl _).alloc _)) (HB.out.q ((Q.refl _).alloc _)) NA.out NB.out HAL.out HBL.out).mono ?_
       rintro e w1 ⟨x, rfl, hr1, hq1⟩
       have HR1 := Lib.hid hr1
       have HQ1 := Lib.hid (((Q.refl w).alloc _).trans hq1)
       clear hr1 hq1
       go_wp2_with fail
       refine (Canon_c x (l ++ l') _ HR1.out HLL.out).mono ?_
       rintro e w2 ⟨x2, rfl, ho2, hq2⟩
       have HO2 := Lib.hid ho2
       have HQ2 := Lib.hid hq2
       clear ho2 hq2
       go_wp2_with fail
       go_ret
       exact ⟨_, rfl, HO2.out.mono HQ1.out.size, HQ1.out.trans HQ2.out⟩))
end Go.Proofs.Ytnbpkbdkhegheaa
