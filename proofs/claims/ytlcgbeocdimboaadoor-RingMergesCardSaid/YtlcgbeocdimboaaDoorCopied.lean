/- The contract of the reference's copied. -/
import Derived.Test.YtlcgbeocdimboaaDoorBetween
import Derived.Deep.RegionHeldLaw
import Derived.Laws.AppendOwnNone
set_option linter.unusedVariables false
set_option linter.unusedSimpArgs false
namespace Go.Proofs.YtlcgbeocdimboaaDoor
open Go.ChangeShapes Go.WideShapes Go.ChangeAt Go.RowKit Go.Shelf Pm

/-- a slice without an array has no room -/
def Nn (v : Value) : Prop := ∀ n c, v = .slice none n c → c = 0
theorem rdr_add {w : World} {a : Addr} {n c : Nat} {l : List RD} (h : RdR w (.slice (some a) n c) l) : ∀ j u, (cellsR l)[j]? = some u → w.cell? (a.add j) = some u := fun j u hj => by
  have hjl : j < (cellsR l).length := by
    rcases Nat.lt_or_ge j (cellsR l).length with k | k
    · exact k
    · rw [List.getElem?_eq_none k] at hj; cases hj
  rw [cellsR_len] at hjl
  have h' := h
  obtain ⟨A, c', h1, h2, h3⟩ := h'
  injection h1 with e1 e2 e3
  obtain ⟨b, off, e4, hb, hcell⟩ := h3 (by omega)
  rw [← e1] at e4
  injection e4 with e4
  subst e4
  rw [show (⟨b, off, none⟩ : Addr).add j = ⟨b, off + j, none⟩ by simp [Addr.add]]
  exact rdr_cells h j u hj
theorem step_app {ops : Array Oper} {o : Oper} {a : Act} {w : World} {K : Act → World → Prop} {Q' : Exit → Act → World → Prop} {E : Prop} (hgd : o.guard = none) (s x : Operand)
    (ho : o.op = .call { callee := .builtin .append, args := #[s, x], argTypes := #[22, 22] }) (B : Nat) (v : Value) (l : List RD) (hs : a.eval s = v) (hown : OwnR B v l w)
    (y : Value) (l' : List RD) (hx : a.eval x = y) (hr : RdR w y l') (hn : Nn y) (hl : l.length + l'.length ≤ 1000000) (hB : B ≤ w.heap.size)
    (h : ∀ v' w', OwnR B v' (l ++ l') w' → w.grownBy w' v.ownBlock → K (a.put o.dst v') w') : if Region.wanted o (yielded ops a.tmps) = true then Oper.wp Tryd.prog o a w K Q' else E := by
  obtain ⟨i0, hi, hz0, hz1, hz2⟩ := info_parts infoR
  have hw : Region.wanted o (yielded ops a.tmps) = true := by simp [Region.wanted, hgd]
  rw [if_pos hw]
  obtain ⟨A, c, hy, hc, h3⟩ := hr
  rcases A with _ | ad
  · have h0 : l' = [] := by
      rcases l' with _ | ⟨t, l'⟩
      · rfl
      · obtain ⟨b, off, e, _⟩ := h3 (by simp); cases e
    subst h0
    have hc0 := hn _ _ hy
    subst hc0
    have hrun := run_append_owned_none (P := Tryd.prog) (w := w) B 22 o.type 44 i0 3 Tryd.underlying22 hi v l.length (cellsR l) hown
    have h2 := h v w (by rw [List.append_nil]; exact hown) (World.grownBy.refl _ _)
    unfold Oper.wp
    simp [execOp, ho, resolve, invoke, builtin, hs, hx, hy, hrun, Result.andThen]
    exact h2
  · have hr : RdR w (.slice (some ad) l'.length c) l' := ⟨_, _, rfl, hc, h3⟩
    refine wp_append_own w s x 22 ho B 44 i0 (.agg #[.int .i64 0, .int .i64 0, .bool false]) 3 24 Tryd.underlying22 hi hz0 hz1 hz2 rfl (by decide) v l.length (cellsR l) hs hown ad l'.length c (cellsR l') (by rw [hx, hy]) (cellsR_len l') (rdr_add hr) (cellsR_one l') (by unfold maxLen; omega) (by omega) hB ?_
    intro v' w' h1 h2 _
    exact h v' w' (by unfold OwnR; rw [List.length_append, cellsR_app]; exact h1) h2
theorem own_cl {B : Nat} {v : Value} {l : List RD} {w0 w : World} (h : OwnR B v l w) (hB : B = w0.heap.size) (hq : Q w0 w) : ∃ A c, v = .slice A l.length c ∧ ClP l w0 (.slice A l.length c) w := by
  subst hB
  by_cases h0 : 0 < l.length
  · obtain ⟨g, cap, rfl, h1, h2, h3⟩ := h.form h0
    exact ⟨_, cap, rfl, h.rd, hq, fun _ => ⟨g, cap, rfl, h1, h2, wr_ownR h rfl h3⟩⟩
  · have hl : l = [] := List.eq_nil_of_length_eq_zero (by omega)
    subst hl
    have hr := h.rd
    obtain ⟨A, c, rfl, hc, _⟩ := hr
    exact ⟨A, c, rfl, h.rd, hq, fun h => absurd h (by simp)⟩
theorem clp_drew {l : List RD} {w w2 : World} {v : Value} (h : ClP l w v w2) : ClP l w.drew v w2 := ⟨h.1, ⟨h.2.1.os, h.2.1.tape, h.2.1.output, h.2.1.size, h.2.1.block⟩, h.2.2⟩
/-- the step of copied's append -/
theorem cop_q {W1 w2 : World} {o : Obj} (h : ((W1.alloc o).drew).grownBy w2 (some W1.heap.size)) : Q W1 w2 :=
  Below.grown (((Q.refl W1).alloc o).drew) h (by simp) (fun j hj => by injection hj with hj; omega)
set_option maxRecDepth 100000 in
set_option maxHeartbeats 1600000 in
theorem copied_c (z : Int) (v : Value) (l : List RD) (w : World) (hr : RdR w v l) (hnn : Nn v) (hl : l.length ≤ 1000000) : Calls Tryd.prog 30 #[.agg #[.int .i64 z, v]] w (SepPost z l w) := by
  have HR := Lib.hid hr
  have HL := Lib.hid hl
  have HNN := Lib.hid hnn
  obtain ⟨A, c, rfl, hc, _⟩ := hr
  obtain ⟨n, hn⟩ : ∃ n, l.length = n := ⟨_, rfl⟩
  have HN := Lib.hid hn
  rw [hn] at HR hc HNN
  rw [hn]
  unfold SepPost
  rw [hn]
  obtain ⟨W0, hW0⟩ : ∃ W, w.alloc (.cells #[.int .i64 z, .slice A n c] 24) = W := ⟨_, rfl⟩
  obtain ⟨W1, hW1⟩ : ∃ W, W0.alloc (.cells #[.int .i64 0, .slice none 0 0] 24) = W := ⟨_, rfl⟩
  have Q0 := Lib.hid (show Q w W1 by rw [← hW1, ← hW0]; exact ((Q.refl w).alloc _).alloc _)
  have Q00 := Lib.hid (show Q w W0 by rw [← hW0]; exact (Q.refl w).alloc _)
  have Q01 := Lib.hid (show Q W0 W1 by rw [← hW1]; exact (Q.refl W0).alloc _)
  have HB := Lib.hid (show W1.heap[W0.heap.size]? = some (.cells #[.int .i64 0, .slice none 0 0] 24 (0, 0)) by rw [← hW1]; exact World.alloc_heap_new W0 _)
  have hs : w.heap.size < W0.heap.size := by rw [← hW0]; simp
  have hs1 : W0.heap.size < W1.heap.size := by rw [← hW1]; simp
  have y0 : W0.cell? ⟨w.heap.size, 0, none⟩ = some (.int .i64 z) := by rw [← hW0]; exact World.cell?_alloc_at _ _ _ _ rfl
  have y1 : W0.cell? ⟨w.heap.size, 1, none⟩ = some (.slice A n c) := by rw [← hW0]; exact World.cell?_alloc_at _ _ _ _ rfl
  have HK := Lib.hid (show ∀ W, Q W0 W → Hid (Q W0 W) ∧ W.cell? ⟨w.heap.size, 0, none⟩ = some (.int .i64 z) ∧ W.cell? ⟨w.heap.size, 1, none⟩ = some (.slice A n c) from fun W h => ⟨Lib.hid h, (h.cell (p := ⟨w.heap.size, 0, none⟩) hs).trans y0, (h.cell (p := ⟨w.heap.size, 1, none⟩) hs).trans y1⟩)
  have HBX := Lib.hid (show ∀ W, Q W1 W → W.cell? ⟨W0.heap.size, 0, none⟩ = some (.int .i64 0) ∧ W.cell? ⟨W0.heap.size, 1, none⟩ = some (.slice none 0 0) ∧ W.frozen? ⟨W0.heap.size, 0, none⟩ = false ∧ W.frozen? ⟨W0.heap.size, 1, none⟩ = false from fun W h => box_at ((h.block _ hs1).trans HB.out))
  have HE := Lib.hid (show OwnR W1.heap.size (.slice (some ⟨W1.heap.size, 0, none⟩) 0 0) [] (W1.alloc (.cells #[] 44)).drew from World.ownsRow_made W1 #[] 0 (Nat.le_refl _) (Nat.zero_le _) (by simp))
  have HRE := Lib.hid (show RdR (W1.alloc (.cells #[] 44)).drew (.slice A n c) l from RdG.q HR.out (Q0.out.alloc _).drew)
  have HSZ := Lib.hid (show ([] : List RD).length + l.length ≤ 1000000 by have := HL.out; simpa using this)
  have HBE := Lib.hid (show W1.heap.size ≤ (W1.alloc (.cells #[] 44)).drew.heap.size by simp)
  clear hl hc hn hnn
  go_enter Tryd.func30, Tryd.ntmps30
  go_wp2_with fail
  go_region_held_law (fun W => Hid (Q W0 W) ∧ W.cell? ⟨w.heap.size, 0, none⟩ = some (.int .i64 z) ∧ W.cell? ⟨w.heap.size, 1, none⟩ = some (.slice A n c)) (first | exact HK.out _ Q01.out.drew | exact HK.out _ (Q01.out.alloc _).drew | exact HK.out _ (Q01.out.drew.alloc _) | exact HK.out _ (Q01.out.trans hq2) | exact HK.out _ (((Q01.out.trans hq2).setA (Nat.le_refl _) _).setA (Nat.le_refl _) _)) ((refine step_app (by rfl) _ _ (by rfl) W1.heap.size _ [] (by rfl) HE.out (.slice A n c) l (by rfl) HRE.out HNN.out HSZ.out HBE.out ?_; intro v' w2 ho hg; obtain ⟨A2, c2, rfl, hc2⟩ := own_cl ho rfl (cop_q hg); rw [show ([] ++ l : List RD).length = n from HN.out] at hc2 ⊢; have hq2 := cop_q hg; obtain ⟨x0, x1, f0, f1⟩ := HBX.out w2 hq2))
  have HC2 := Lib.hid hc2
  have hb2 := Lib.hid ((hc2.2.1.block _ hs1).trans HB.out)
  clear hc2
  obtain ⟨g0, g1⟩ := sep_at hb2.out (.int .i64 z) (.slice A2 n c2)
  go_wp2_with fail
  refine bodyPost_ret (v := .agg #[.int .i64 z, .slice A2 n c2]) (by simp [results, Tryd.results30, go_sem, g0, g1]) rfl ⟨A2, c2, rfl, ?_⟩
  exact sep_post HN.out (clp_drew (show ClP l W1 (.slice A2 n c2) w2 from HC2.out)) Q00.out Q01.out (by omega) hs1
end Go.Proofs.YtlcgbeocdimboaaDoor
