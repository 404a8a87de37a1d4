/- The contract of Has: the even-odd rule over the edges. -/
import Derived.Test.YtkkghejbdakmpaaArea
set_option linter.unusedVariables false
set_option linter.unusedSimpArgs false
namespace Go.Proofs.Ytkkghejbdakmpaa
open Go.ChangeShapes Go.WideShapes Go.ChangeAt Go.RowKit Go.Shelf Pm

attribute [local go_sem] Oper.semAt_some
/-- of the edges that have come: none holds q; how often they flip, odd or even -/
def noE (q : P) (pre : List EP) : Prop := ∀ x, x ∈ pre → onE x.1.1 x.1.2 q = false
def flE (q : P) : List EP → Bool := List.foldl (fun s x => if flp x.1.1 x.1.2 q then !s else s) false
theorem flE_snoc (q : P) (pre : List EP) (x : EP) : flE q (pre ++ [x]) = if flp x.1.1 x.1.2 q then !flE q pre else flE q pre := by unfold flE; rw [List.foldl_append]; rfl
theorem flE_is (q : P) (l : List P) (h : RL l) : ∀ k, flE q (eE l h k) = parN (fun i => flp (g l i) (g l (nx l i)) q) k
  | 0 => rfl
  | k + 1 => by rw [eE_succ, flE_snoc, flE_is q l h k]; rfl
theorem noE_snoc {q : P} {pre : List EP} {x : EP} (h : noE q pre) (hx : onE x.1.1 x.1.2 q = false) : noE q (pre ++ [x]) := fun y hy => by
  rcases List.mem_append.1 hy with e | e
  · exact h y e
  · rw [List.mem_singleton.1 e]; exact hx
theorem eE_mem (l : List P) (h : RL l) {k i : Nat} (hi : i < k) : (⟨(g l i, g l (nx l i)), g_rng h i, g_rng h _⟩ : EP) ∈ eE l h k := List.mem_map.2 ⟨i, List.mem_range.2 hi, rfl⟩
theorem has_in {l : List P} {q : P} (h : RL l) (hc : chk l = 0) (hq : inP q = true) (hn : noE q (eE l h l.length)) : has l q = flE q (eE l h l.length) := by
  unfold has
  rw [decide_eq_true hc, hq, anyN_no fun i hi => hn _ (eE_mem l h hi), flE_is]
  simp
theorem has_on {l : List P} {q : P} (h : RL l) (hc : chk l = 0) (hq : inP q = true) {k : Nat} (hk : k ≤ l.length) {pre : List EP} {x : EP} (e : eE l h k = pre ++ [x]) (hx : onE x.1.1 x.1.2 q = true) : has l q = true := by
  obtain ⟨m, rfl⟩ : ∃ m, k = m + 1 := by
    cases k with
    | zero => simp [eE] at e
    | succ m => exact ⟨m, rfl⟩
  rw [eE_succ] at e
  obtain ⟨_, e2⟩ := List.append_inj' e rfl
  injection e2 with e2
  unfold has
  rw [decide_eq_true hc, hq, anyN_yes (i := m) (by omega) (by subst e2; exact hx)]
  simp
theorem chk_zero {l : List P} (h : chk l = 0) : rng l = true ∧ 3 ≤ l.length ∧ l.length ≤ 32 := by
  unfold chk at h
  split at h
  · cases h
  · split at h
    · cases h
    · split at h
      · rename_i h1 h2 h3; exact ⟨h3, by omega, by omega⟩
      · cases h
theorem boxb_own {β : Type} (B : Nat) (t : TypeId) (f : β → Bool) : _root_.Go.Own (fun s W => Boxed W B t (.bool (f s))) := boxed_own B t (fun s => .bool (f s))
theorem flp_eq {a b q : P} {sd : Int} (h : crs a b q = sd) : flp a b q = ((decide (a.2 ≤ q.2) && decide (q.2 < b.2) && decide (0 < sd)) || (decide (b.2 ≤ q.2) && decide (q.2 < a.2) && decide (sd < 0))) := by subst h; rfl
theorem Q.keeps {W W' : World} (h : Q W W') : KeepsOthers W W' := ⟨h.size, fun k o hk _ => (h.block k (Array.getElem?_eq_some_iff.1 hk).1).trans hk⟩
/-- the boxes of Has: the point, the result, whether it is inside, the list -/
structure HB (b1 b2 b3 b4 : Nat) (q : P) (v : Value) (res ins : Bool) (W : World) : Prop where
  pt : BoxP W b1 q
  re : Boxed W b2 4 (.bool res)
  ins : Boxed W b3 4 (.bool ins)
  ls : Boxed W b4 22 v
theorem HB.q {b1 b2 b3 b4 : Nat} {q : P} {v : Value} {res ins : Bool} {W W' : World} (h : HB b1 b2 b3 b4 q v res ins W) (hq : Q W W') : HB b1 b2 b3 b4 q v res ins W' := ⟨h.pt.q hq, Boxed.q h.re hq, Boxed.q h.ins hq, Boxed.q h.ls hq⟩
theorem HB.own {β : Type} {b1 b2 b3 b4 : Nat} {q : P} {v : Value} (f k : β → Bool) : _root_.Go.Own (fun s W => HB b1 b2 b3 b4 q v (f s) (k s) W) := fun s X Y row hs hg hr =>
  ⟨BoxP.own b1 (fun (_ : Unit) => q) () X Y row hs.pt hg hr, boxed_own b2 _ (fun s => .bool (f s)) s X Y row hs.re hg hr, boxed_own b3 _ (fun s => .bool (k s)) s X Y row hs.ins hg hr, boxed_own b4 _ (fun (_ : Unit) => v) () X Y row hs.ls hg hr⟩
theorem BoxP.other {W : World} {B B' : Nat} {q : P} (h : BoxP W B q) (hne : B ≠ B') (u : Value) : BoxP (W.setCell ⟨B', 0, none⟩ u) B q := h.kept (grownBy_setCell' W B' u) (fun e => hne (by cases e; rfl))
theorem HB.setI {b1 b2 b3 b4 : Nat} {q : P} {v : Value} {res ins : Bool} {W : World} (h : HB b1 b2 b3 b4 q v res ins W) (h1 : b1 ≠ b3) (h2 : b2 ≠ b3) (h4 : b4 ≠ b3) (x : Bool) : HB b1 b2 b3 b4 q v res x (W.setCell ⟨b3, 0, none⟩ (.bool x)) :=
  ⟨h.pt.other h1 _, h.re.other h2 _, h.ins.set _, h.ls.other h4 _⟩
/-- what a way through a round must show -/
theorem fin_on {b1 b2 b3 b4 n0 : Nat} {q : P} {v : Value} {ins : Bool} {w W W' : World} {B : Nat} (h : HB b1 b2 b3 b4 q v false ins W') (hq : Q W W') (hw : Below n0 w W) (h2 : n0 ≤ b2) (hn : n0 ≤ W.heap.size) :
    KeepsFrom B W (W'.setCell ⟨b2, 0, none⟩ (.bool true)) ∧ Boxed (W'.setCell ⟨b2, 0, none⟩ (.bool true)) b2 4 (.bool true) ∧ Below n0 w (W'.setCell ⟨b2, 0, none⟩ (.bool true)) :=
  ⟨(hq.keeps.trans (KeepsOthers.setCell _ _ _)).from _, h.re.set _, (hw.trans (hq.mono hn)).setCell (p := ⟨b2, 0, none⟩) h2 _⟩
theorem fin_same {b1 b2 b3 b4 n0 : Nat} {q : P} {v : Value} {ins : Bool} {w W W' : World} {B : Nat} (h : HB b1 b2 b3 b4 q v false ins W) (hq : Q W W') (hw : Below n0 w W) (hn : n0 ≤ W.heap.size) :
    KeepsFrom B W W' ∧ Kp n0 b4 W W' ∧ HB b1 b2 b3 b4 q v false ins W' ∧ Below n0 w W' :=
  ⟨hq.keeps.from _, ⟨hq.mono hn, hq.block b4 h.ls.lt⟩, h.q hq, hw.trans (hq.mono hn)⟩
theorem fin_flip {b1 b2 b3 b4 n0 : Nat} {q : P} {v : Value} {ins : Bool} {w W W' : World} {B : Nat} (h : HB b1 b2 b3 b4 q v false ins W) (hq : Q W W') (hw : Below n0 w W) (h3 : n0 ≤ b3) (hn : n0 ≤ W.heap.size) (e1 : b1 ≠ b3) (e2 : b2 ≠ b3) (e4 : b4 ≠ b3) (x : Bool) :
    KeepsFrom B W (W'.setCell ⟨b3, 0, none⟩ (.bool x)) ∧ Kp n0 b4 W (W'.setCell ⟨b3, 0, none⟩ (.bool x)) ∧ HB b1 b2 b3 b4 q v false x (W'.setCell ⟨b3, 0, none⟩ (.bool x)) ∧ Below n0 w (W'.setCell ⟨b3, 0, none⟩ (.bool x)) := by
  have hb : Below n0 W (W'.setCell ⟨b3, 0, none⟩ (.bool x)) := (hq.mono hn).setCell (p := ⟨b3, 0, none⟩) h3 _
  exact ⟨(hq.keeps.trans (KeepsOthers.setCell _ _ _)).from _, ⟨hb, (Below.heap_setCell _ _ _ _ (by show b4 ≠ b3; exact e4)).trans (hq.block b4 h.ls.lt)⟩, (h.q hq).setI e1 e2 e4 _, hw.trans hb⟩
set_option maxRecDepth 100000 in
set_option maxHeartbeats 4000000 in
theorem Has_in (v : Value) (l : List P) (q : P) (r : Bool) (h : Hid (has l q = r)) (hc : Hid (chk l = 0)) (hq : Hid (inP q = true)) (w : World) (hr : RdP w v l) : Calls Try.prog 25 #[v, pv q] w fun e w' => e = .returned (.bool r) ∧ Q w w' := by
  have HR := Lib.hid hr
  obtain ⟨h1, h2, h3⟩ := chk_zero hc.out
  have HRL := Lib.hid (rng_mem h1)
  have HL := Lib.hid (show l.length ≤ maxLen by unfold maxLen; omega)
  obtain ⟨A, c, rfl, hcc, _⟩ := hr
  obtain ⟨n, hn⟩ : ∃ n, l.length = n := ⟨_, rfl⟩
  have HN := Lib.hid hn
  rw [hn] at h2 h3 HR
  rw [hn]
  obtain ⟨qx, qy⟩ := q
  unfold pv
  dsimp only
  clear hcc hn h1
  refine (callsIn_wide (n := 5)).1 ?_
  refine callsIn_of_wp_marks Try.func25 rfl trivial ?_ rfl
  simp only [Try.ntmps25, List.size_toArray, List.length_cons, List.length_nil, Nat.reduceAdd, Nat.reduceSub, Array.replicate_succ, Array.replicate_zero, List.push_toArray, List.append_toArray, List.nil_append, List.cons_append]
  gi_wp2_with fail
  refine ⟨trivial, ?_⟩
  obtain ⟨V0, hV0⟩ : ∃ V, (w.alloc (.cells #[.int .i64 qx, .int .i64 qy] 38)).alloc (.cells #[.bool false] 4) = V := ⟨_, rfl⟩
  have bQ0 : BoxP V0 w.heap.size (qx, qy) := by rw [← hV0]; exact (BoxP.new w (qx, qy)).alloc _
  have bR0 : Boxed V0 (w.heap.size + 1) 4 (.bool false) := by
    rw [← hV0]; have := Boxed.new (w.alloc (.cells #[.int .i64 qx, .int .i64 qy] 38)) 4 (.bool false); rw [World.size_alloc] at this; exact this
  have hQ0 := Lib.hid (show Q w V0 by rw [← hV0]; exact ((Q.refl w).alloc _).alloc _)
  rw [hV0]
  clear hV0
  refine (callsIn_wide.2 (Check_c _ l 0 hc _ (RdG.q HR.out hQ0.out) HL.out)).mono ?_
  rintro e w1 ⟨rfl, hq1⟩
  have bQ1 := bQ0.q hq1
  have bR1 := Boxed.q bR0 hq1
  have HQ1 := Lib.hid (hQ0.out.trans hq1)
  have c0 := bQ1.c0
  have c1 := bQ1.c1
  clear hq1 bQ0 bR0 hQ0
  gi_wp2_with fail
  refine ⟨trivial, ?_⟩
  refine (callsIn_wide.2 (inRange_c qx qy true hq _)).mono ?_
  rintro e w2 ⟨rfl, hq2⟩
  have bQ2 := bQ1.q hq2
  have bR2 := Boxed.q bR1 hq2
  have HQ2 := Lib.hid (HQ1.out.trans hq2)
  clear hq2 bQ1 bR1 HQ1 c0 c1
  gi_wp2_with fail
  refine ⟨trivial, ?_⟩
  refine (edges_in _ _ _ _ _).mono ?_
  rintro e w' ⟨rfl, rfl⟩
  gi_wp2_with fail
  have hs2 := HQ2.out.size
  have bI := (Boxed.new w2 4 (.bool false)).alloc (.cells #[.slice A n c] 22)
  have bN := Boxed.new (w2.alloc (.cells #[.bool false] 4)) 22 (.slice A n c)
  rw [World.size_alloc] at bN
  have hB0 : Below w.heap.size w ((w2.alloc (.cells #[.bool false] 4)).alloc (.cells #[.slice A n c] 22)) := Below.alloc (Below.alloc HQ2.out hs2 _) (by simp; omega) _
  have hsz : ((w2.alloc (.cells #[.bool false] 4)).alloc (.cells #[.slice A n c] 22)).heap.size = w2.heap.size + 2 := by simp
  have hH0 : HB w.heap.size (w.heap.size + 1) w2.heap.size (w2.heap.size + 1) (qx, qy) (.slice A n c) false false ((w2.alloc (.cells #[.bool false] 4)).alloc (.cells #[.slice A n c] 22)) := ⟨(bQ2.alloc _).alloc _, (bR2.alloc _).alloc _, bI, bN⟩
  have hlt2 := bR2.lt
  obtain ⟨W0, hW0⟩ : ∃ W0, (w2.alloc (.cells #[.bool false] 4)).alloc (.cells #[.slice A n c] 22) = W0 := ⟨_, rfl⟩
  rw [hW0] at bN hB0 hsz hH0 ⊢
  clear hW0 bI bQ2 bR2
  obtain ⟨s2, hs2e⟩ : ∃ s, w2.heap.size = s := ⟨_, rfl⟩
  rw [hs2e] at hlt2 hsz hH0 bN hs2 ⊢
  clear hs2e HQ2
  refine wpIn_rangeFunc_ownH rfl (by omega) (gf := 57) (lb := #[.pointer (some ⟨s2 + 1, 0, none⟩)]) rfl trivial (enters_of Try.func57 (by kernel_rfl) rfl)
    (edges_stops _ (by omega) (s2 + 1) w.heap.size _ l HRL.out (by rw [HN.out]; omega) W0 (by omega) (by omega) bN.cell w rfl HR.out hB0) Kp.t (Kp.b (by omega) (by omega)) (Below.refl _ _) (fun _ => rfl)
    (fun pre W => (HB w.heap.size (w.heap.size + 1) s2 (s2 + 1) (qx, qy) (.slice A n c) false (flE (qx, qy) pre) W ∧ noE (qx, qy) pre) ∧ Below w.heap.size w W)
    (fun cd pre W => (Boxed W (w.heap.size + 1) 4 (.bool true) ∧ (cd = .ret ∧ ∃ p x, pre = p ++ [x] ∧ onE x.1.1 x.1.2 (qx, qy) = true)) ∧ Below w.heap.size w W)
    (OwnFrom.and (OwnFrom.and (_root_.Go.Own.from (HB.own _ _) _) (ownFrom_pure _ _)) (ownFrom_below (Nat.le_refl _) (by omega)))
    (fun cd => OwnFrom.and (OwnFrom.and (_root_.Go.Own.from (boxed_own _ _ _) _) (ownFrom_pure _ _)) (ownFrom_below (Nat.le_refl _) (by omega)))
    ⟨⟨hH0, fun x hx => by cases hx⟩, hB0⟩
    (fun x a' W => Two (s2 + 1) x.1 a' (fun B1 B2 => #[.slice A n c, .agg #[.int .i64 qx, .int .i64 qy], undef, .pointer (some ⟨w.heap.size, 0, none⟩), .pointer (some ⟨w.heap.size + 1, 0, none⟩), .pointer (some ⟨s2, 0, none⟩), .pointer (some ⟨B1, 0, none⟩), .pointer (some ⟨B2, 0, none⟩), undef, undef, undef, .slice A n c, .int .i64 0, .bool false, .bool false, .agg #[.int .i64 qx, .int .i64 qy], .bool true, .bool false, .bool false, .slice A n c, .func (.func 57) #[] #[.pointer (some ⟨s2 + 1, 0, none⟩)], pv x.1.1, pv x.1.2, undef, undef, undef, undef, undef, undef, undef, undef, undef, undef, undef, undef, undef, undef, undef, undef, undef, undef, undef, undef, undef, undef, undef, undef, undef, undef, undef, undef, undef, undef, undef, undef, undef, undef, undef, undef, undef, undef, undef, undef, undef, undef, undef, undef, undef, undef, undef, undef, undef, undef, undef]) W)
    (fun x a' => two_own)
    ?assign ?body ?done ?stop
  case assign =>
    rintro l' pre ⟨⟨⟨a1, a2⟩, b1, b2⟩, hx⟩ W K ⟨⟨hH, hno⟩, hB1⟩ hK
    unfold pv at hK ⊢
    dsimp only at hK ⊢
    gi_wp2
    have hle := hB1.size
    have hq : Q W ((W.alloc (.cells #[.int .i64 a1, .int .i64 a2] 38)).alloc (.cells #[.int .i64 b1, .int .i64 b2] 38)) := ((Q.refl W).alloc _).alloc _
    refine hK _ _ (((KeepsOthers.alloc _ _).trans (KeepsOthers.alloc _ _)).from _) ⟨hq.mono hle, hq.block _ hH.ls.lt⟩ ⟨⟨hH.q hq, hno⟩, hB1.trans (hq.mono hle)⟩
      ⟨W.heap.size, W.heap.size + 1, hH.ls.lt, by have := hH.ls.lt; omega, by omega, (BoxP.new W (a1, a2)).alloc _, ?_, rfl⟩
    have := BoxP.new (W.alloc (.cells #[.int .i64 a1, .int .i64 a2] 38)) (b1, b2)
    rw [World.size_alloc] at this
    exact this
  case body =>
    rintro l' pre ⟨⟨⟨a1, a2⟩, b1, b2⟩, hx1, hx2⟩ a' W hl ⟨r', hr'⟩ ⟨⟨hH, hno⟩, hB1⟩ ⟨B1, B2, hB1', hB2', hne, bx1, bx2, rfl⟩ hlt
    obtain ⟨sd, hsd⟩ : ∃ z, crs (a1, a2) (b1, b2) (qx, qy) = z := ⟨_, rfl⟩
    obtain ⟨ib, hib⟩ : ∃ z, inB (a1, a2) (b1, b2) (qx, qy) = z := ⟨_, rfl⟩
    have HSD := Lib.hid hsd
    have HIB := Lib.hid hib
    have HX := Lib.hid (show inP (a1, a2) = true ∧ inP (b1, b2) = true from ⟨hx1, hx2⟩)
    have HH := Lib.hid hH
    have HBB := Lib.hid hB1
    have HNO := Lib.hid hno
    have c0 := hH.pt.c0
    have c1 := hH.pt.c1
    have d0 := bx1.c0
    have d1 := bx1.c1
    have e0 := bx2.c0
    have e1 := bx2.c1
    dsimp only at c0 c1 d0 d1 e0 e1
    clear hsd hib hr' hlt
    gi_wp2_with fail
    -- WAYS
    refine ⟨trivial, ?_⟩
    refine (CallsIn.inRound l' (callsIn_wide.2 (cross_c (a1, a2) (b1, b2) (qx, qy) sd HSD HX.out.1 HX.out.2 hq.out _))).mono ?_
    rintro e V1 ⟨rfl, hv1⟩
    have HV1 := Lib.hid hv1
    have HBX := Lib.hid (show BoxP W B1 (a1, a2) ∧ BoxP W B2 (b1, b2) from ⟨bx1, bx2⟩)
    clear c0 c1 d0 d1 e0 e1 bx1 bx2 hv1 hH hB1 hno
    rcases Int.lt_trichotomy sd 0 with hs | hs | hs
    · have hz : (sd == 0) = false := by simp; omega
      have HON := Lib.hid (show onE (a1, a2) (b1, b2) (qx, qy) = false by unfold onE; rw [HSD.out, decide_eq_false (by omega)]; rfl)
      by_cases p1 : a2 ≤ qy
      · by_cases p2 : qy < b2
        · have p3 : ¬ b2 ≤ qy := by omega
          have n0 : decide (b2 ≤ qy) = false := decide_eq_false (by omega)
          have n1 : decide (0 < sd) = false := decide_eq_false (by omega)
          have HF := Lib.hid (show flp (a1, a2) (b1, b2) (qx, qy) = false by rw [flp_eq HSD.out]; simp; omega)
          have c0 := (HH.out.pt.q HV1.out).c0
          have c1 := (HH.out.pt.q HV1.out).c1
          have d0 := (HBX.out.1.q HV1.out).c0
          have d1 := (HBX.out.1.q HV1.out).c1
          have e0 := (HBX.out.2.q HV1.out).c0
          have e1 := (HBX.out.2.q HV1.out).c1
          dsimp only at c0 c1 d0 d1 e0 e1
          have ci := (HH.out.q HV1.out).ins.cell
          have fi := (HH.out.q HV1.out).ins.frozen
          gi_wp2
          refine ⟨trivial, ?_⟩
          gi_wp2
          obtain ⟨k1, k2, k3, k4⟩ := fin_same (B := W0.heap.size) HH.out HV1.out HBB.out HBB.out.size
          exact ⟨k1, k2, ⟨by rw [flE_snoc, if_neg (by rw [HF.out]; decide)]; exact k3, noE_snoc HNO.out HON.out⟩, k4⟩
        · have p3 : b2 ≤ qy := by omega
          have p4 : ¬ qy < a2 := by omega
          have n0 : decide (qy < b2) = false := decide_eq_false (by omega)
          have n1 : decide (qy < a2) = false := decide_eq_false (by omega)
          have n2 : decide (0 < sd) = false := decide_eq_false (by omega)
          have HF := Lib.hid (show flp (a1, a2) (b1, b2) (qx, qy) = false by rw [flp_eq HSD.out]; simp; omega)
          have c0 := (HH.out.pt.q HV1.out).c0
          have c1 := (HH.out.pt.q HV1.out).c1
          have d0 := (HBX.out.1.q HV1.out).c0
          have d1 := (HBX.out.1.q HV1.out).c1
          have e0 := (HBX.out.2.q HV1.out).c0
          have e1 := (HBX.out.2.q HV1.out).c1
          dsimp only at c0 c1 d0 d1 e0 e1
          have ci := (HH.out.q HV1.out).ins.cell
          have fi := (HH.out.q HV1.out).ins.frozen
          gi_wp2
          refine ⟨trivial, ?_⟩
          gi_wp2
          obtain ⟨k1, k2, k3, k4⟩ := fin_same (B := W0.heap.size) HH.out HV1.out HBB.out HBB.out.size
          exact ⟨k1, k2, ⟨by rw [flE_snoc, if_neg (by rw [HF.out]; decide)]; exact k3, noE_snoc HNO.out HON.out⟩, k4⟩
      · by_cases p2 : b2 ≤ qy
        · have p3 : qy < a2 := by omega
          have n0 : decide (a2 ≤ qy) = false := decide_eq_false (by omega)
          have n1 : decide (0 < sd) = false := decide_eq_false (by omega)
          have HF := Lib.hid (show flp (a1, a2) (b1, b2) (qx, qy) = true by rw [flp_eq HSD.out]; simp; omega)
          have c0 := (HH.out.pt.q HV1.out).c0
          have c1 := (HH.out.pt.q HV1.out).c1
          have d0 := (HBX.out.1.q HV1.out).c0
          have d1 := (HBX.out.1.q HV1.out).c1
          have e0 := (HBX.out.2.q HV1.out).c0
          have e1 := (HBX.out.2.q HV1.out).c1
          dsimp only at c0 c1 d0 d1 e0 e1
          have ci := (HH.out.q HV1.out).ins.cell
          have fi := (HH.out.q HV1.out).ins.frozen
          gi_wp2
          refine ⟨trivial, ?_⟩
          gi_wp2
          obtain ⟨k1, k2, k3, k4⟩ := fin_flip (B := W0.heap.size) HH.out HV1.out HBB.out (b3 := s2) (by omega) HBB.out.size (by omega) (by omega) (by omega) (!flE (qx, qy) pre)
          exact ⟨k1, k2, ⟨by rw [flE_snoc, if_pos HF.out]; exact k3, noE_snoc HNO.out HON.out⟩, k4⟩
        · have p3 : qy < a2 := by omega
          have p4 : qy < b2 := by omega
          have n0 : decide (a2 ≤ qy) = false := decide_eq_false (by omega)
          have n1 : decide (b2 ≤ qy) = false := decide_eq_false (by omega)
          have n2 : decide (0 < sd) = false := decide_eq_false (by omega)
          have HF := Lib.hid (show flp (a1, a2) (b1, b2) (qx, qy) = false by rw [flp_eq HSD.out]; simp; omega)
          have c0 := (HH.out.pt.q HV1.out).c0
          have c1 := (HH.out.pt.q HV1.out).c1
          have d0 := (HBX.out.1.q HV1.out).c0
          have d1 := (HBX.out.1.q HV1.out).c1
          have e0 := (HBX.out.2.q HV1.out).c0
          have e1 := (HBX.out.2.q HV1.out).c1
          dsimp only at c0 c1 d0 d1 e0 e1
          have ci := (HH.out.q HV1.out).ins.cell
          have fi := (HH.out.q HV1.out).ins.frozen
          gi_wp2
          refine ⟨trivial, ?_⟩
          gi_wp2
          obtain ⟨k1, k2, k3, k4⟩ := fin_same (B := W0.heap.size) HH.out HV1.out HBB.out HBB.out.size
          exact ⟨k1, k2, ⟨by rw [flE_snoc, if_neg (by rw [HF.out]; decide)]; exact k3, noE_snoc HNO.out HON.out⟩, k4⟩
    · have hz : (sd == 0) = true := by simp [hs]
      cases ib with
      | true =>
        have HON := Lib.hid (show onE (a1, a2) (b1, b2) (qx, qy) = true by unfold onE; rw [HSD.out, HIB.out, decide_eq_true hs]; rfl)
        have c0 := (HH.out.pt.q HV1.out).c0
        have c1 := (HH.out.pt.q HV1.out).c1
        have d0 := (HBX.out.1.q HV1.out).c0
        have d1 := (HBX.out.1.q HV1.out).c1
        have e0 := (HBX.out.2.q HV1.out).c0
        have e1 := (HBX.out.2.q HV1.out).c1
        dsimp only at c0 c1 d0 d1 e0 e1
        clear hs
        gi_wp2_with fail
        refine ⟨trivial, ?_⟩
        refine (CallsIn.inRound l' (callsIn_wide.2 (isIn_c (a1, a2) (b1, b2) (qx, qy) true HIB _))).mono ?_
        rintro e V2 ⟨rfl, hv2⟩
        have HV2 := Lib.hid (HV1.out.trans hv2)
        clear c0 c1 d0 d1 e0 e1 hv2
        have ci := (HH.out.q HV2.out).re.cell
        have fi := (HH.out.q HV2.out).re.frozen
        gi_wp2
        obtain ⟨k1, k2, k3⟩ := fin_on (B := W0.heap.size) (HH.out.q HV2.out) HV2.out HBB.out (by omega) HBB.out.size
        exact ⟨k1, ⟨k2, rfl, pre, _, rfl, HON.out⟩, k3⟩
      | false =>
        have HON := Lib.hid (show onE (a1, a2) (b1, b2) (qx, qy) = false by unfold onE; rw [HIB.out, Bool.and_false])
        by_cases p1 : a2 ≤ qy
        · by_cases p2 : qy < b2
          · have p3 : ¬ b2 ≤ qy := by omega
            have n0 : decide (b2 ≤ qy) = false := decide_eq_false (by omega)
            have n1 : decide (0 < sd) = false := decide_eq_false (by omega)
            have n2 : decide (sd < 0) = false := decide_eq_false (by omega)
            have HF := Lib.hid (show flp (a1, a2) (b1, b2) (qx, qy) = false by rw [flp_eq HSD.out]; simp; omega)
            have c0 := (HH.out.pt.q HV1.out).c0
            have c1 := (HH.out.pt.q HV1.out).c1
            have d0 := (HBX.out.1.q HV1.out).c0
            have d1 := (HBX.out.1.q HV1.out).c1
            have e0 := (HBX.out.2.q HV1.out).c0
            have e1 := (HBX.out.2.q HV1.out).c1
            dsimp only at c0 c1 d0 d1 e0 e1
            gi_wp2_with fail
            refine ⟨trivial, ?_⟩
            refine (CallsIn.inRound l' (callsIn_wide.2 (isIn_c (a1, a2) (b1, b2) (qx, qy) false HIB _))).mono ?_
            rintro e V2 ⟨rfl, hv2⟩
            have HV2 := Lib.hid (HV1.out.trans hv2)
            clear c0 c1 d0 d1 e0 e1 hv2
            have c0 := (HH.out.pt.q HV2.out).c0
            have c1 := (HH.out.pt.q HV2.out).c1
            have d0 := (HBX.out.1.q HV2.out).c0
            have d1 := (HBX.out.1.q HV2.out).c1
            have e0 := (HBX.out.2.q HV2.out).c0
            have e1 := (HBX.out.2.q HV2.out).c1
            dsimp only at c0 c1 d0 d1 e0 e1
            have ci := (HH.out.q HV2.out).ins.cell
            have fi := (HH.out.q HV2.out).ins.frozen
            gi_wp2
            obtain ⟨k1, k2, k3, k4⟩ := fin_same (B := W0.heap.size) HH.out HV2.out HBB.out HBB.out.size
            exact ⟨k1, k2, ⟨by rw [flE_snoc, if_neg (by rw [HF.out]; decide)]; exact k3, noE_snoc HNO.out HON.out⟩, k4⟩
          · have p3 : b2 ≤ qy := by omega
            have p4 : ¬ qy < a2 := by omega
            have n0 : decide (qy < b2) = false := decide_eq_false (by omega)
            have n1 : decide (qy < a2) = false := decide_eq_false (by omega)
            have n2 : decide (0 < sd) = false := decide_eq_false (by omega)
            have n3 : decide (sd < 0) = false := decide_eq_false (by omega)
            have HF := Lib.hid (show flp (a1, a2) (b1, b2) (qx, qy) = false by rw [flp_eq HSD.out]; simp; omega)
            have c0 := (HH.out.pt.q HV1.out).c0
            have c1 := (HH.out.pt.q HV1.out).c1
            have d0 := (HBX.out.1.q HV1.out).c0
            have d1 := (HBX.out.1.q HV1.out).c1
            have e0 := (HBX.out.2.q HV1.out).c0
            have e1 := (HBX.out.2.q HV1.out).c1
            dsimp only at c0 c1 d0 d1 e0 e1
            gi_wp2_with fail
            refine ⟨trivial, ?_⟩
            refine (CallsIn.inRound l' (callsIn_wide.2 (isIn_c (a1, a2) (b1, b2) (qx, qy) false HIB _))).mono ?_
            rintro e V2 ⟨rfl, hv2⟩
            have HV2 := Lib.hid (HV1.out.trans hv2)
            clear c0 c1 d0 d1 e0 e1 hv2
            have c0 := (HH.out.pt.q HV2.out).c0
            have c1 := (HH.out.pt.q HV2.out).c1
            have d0 := (HBX.out.1.q HV2.out).c0
            have d1 := (HBX.out.1.q HV2.out).c1
            have e0 := (HBX.out.2.q HV2.out).c0
            have e1 := (HBX.out.2.q HV2.out).c1
            dsimp only at c0 c1 d0 d1 e0 e1
            have ci := (HH.out.q HV2.out).ins.cell
            have fi := (HH.out.q HV2.out).ins.frozen
            gi_wp2
            obtain ⟨k1, k2, k3, k4⟩ := fin_same (B := W0.heap.size) HH.out HV2.out HBB.out HBB.out.size
            exact ⟨k1, k2, ⟨by rw [flE_snoc, if_neg (by rw [HF.out]; decide)]; exact k3, noE_snoc HNO.out HON.out⟩, k4⟩
        · by_cases p2 : b2 ≤ qy
          · have p3 : qy < a2 := by omega
            have n0 : decide (a2 ≤ qy) = false := decide_eq_false (by omega)
            have n1 : decide (0 < sd) = false := decide_eq_false (by omega)
            have n2 : decide (sd < 0) = false := decide_eq_false (by omega)
            have HF := Lib.hid (show flp (a1, a2) (b1, b2) (qx, qy) = false by rw [flp_eq HSD.out]; simp; omega)
            have c0 := (HH.out.pt.q HV1.out).c0
            have c1 := (HH.out.pt.q HV1.out).c1
            have d0 := (HBX.out.1.q HV1.out).c0
            have d1 := (HBX.out.1.q HV1.out).c1
            have e0 := (HBX.out.2.q HV1.out).c0
            have e1 := (HBX.out.2.q HV1.out).c1
            dsimp only at c0 c1 d0 d1 e0 e1
            gi_wp2_with fail
            refine ⟨trivial, ?_⟩
            refine (CallsIn.inRound l' (callsIn_wide.2 (isIn_c (a1, a2) (b1, b2) (qx, qy) false HIB _))).mono ?_
            rintro e V2 ⟨rfl, hv2⟩
            have HV2 := Lib.hid (HV1.out.trans hv2)
            clear c0 c1 d0 d1 e0 e1 hv2
            have c0 := (HH.out.pt.q HV2.out).c0
            have c1 := (HH.out.pt.q HV2.out).c1
            have d0 := (HBX.out.1.q HV2.out).c0
            have d1 := (HBX.out.1.q HV2.out).c1
            have e0 := (HBX.out.2.q HV2.out).c0
            have e1 := (HBX.out.2.q HV2.out).c1
            dsimp only at c0 c1 d0 d1 e0 e1
            have ci := (HH.out.q HV2.out).ins.cell
            have fi := (HH.out.q HV2.out).ins.frozen
            gi_wp2
            obtain ⟨k1, k2, k3, k4⟩ := fin_same (B := W0.heap.size) HH.out HV2.out HBB.out HBB.out.size
            exact ⟨k1, k2, ⟨by rw [flE_snoc, if_neg (by rw [HF.out]; decide)]; exact k3, noE_snoc HNO.out HON.out⟩, k4⟩
          · have p3 : qy < a2 := by omega
            have p4 : qy < b2 := by omega
            have n0 : decide (a2 ≤ qy) = false := decide_eq_false (by omega)
            have n1 : decide (b2 ≤ qy) = false := decide_eq_false (by omega)
            have n2 : decide (0 < sd) = false := decide_eq_false (by omega)
            have n3 : decide (sd < 0) = false := decide_eq_false (by omega)
            have HF := Lib.hid (show flp (a1, a2) (b1, b2) (qx, qy) = false by rw [flp_eq HSD.out]; simp; omega)
            have c0 := (HH.out.pt.q HV1.out).c0
            have c1 := (HH.out.pt.q HV1.out).c1
            have d0 := (HBX.out.1.q HV1.out).c0
            have d1 := (HBX.out.1.q HV1.out).c1
            have e0 := (HBX.out.2.q HV1.out).c0
            have e1 := (HBX.out.2.q HV1.out).c1
            dsimp only at c0 c1 d0 d1 e0 e1
            gi_wp2_with fail
            refine ⟨trivial, ?_⟩
            refine (CallsIn.inRound l' (callsIn_wide.2 (isIn_c (a1, a2) (b1, b2) (qx, qy) false HIB _))).mono ?_
            rintro e V2 ⟨rfl, hv2⟩
            have HV2 := Lib.hid (HV1.out.trans hv2)
            clear c0 c1 d0 d1 e0 e1 hv2
            have c0 := (HH.out.pt.q HV2.out).c0
            have c1 := (HH.out.pt.q HV2.out).c1
            have d0 := (HBX.out.1.q HV2.out).c0
            have d1 := (HBX.out.1.q HV2.out).c1
            have e0 := (HBX.out.2.q HV2.out).c0
            have e1 := (HBX.out.2.q HV2.out).c1
            dsimp only at c0 c1 d0 d1 e0 e1
            have ci := (HH.out.q HV2.out).ins.cell
            have fi := (HH.out.q HV2.out).ins.frozen
            gi_wp2
            obtain ⟨k1, k2, k3, k4⟩ := fin_same (B := W0.heap.size) HH.out HV2.out HBB.out HBB.out.size
            exact ⟨k1, k2, ⟨by rw [flE_snoc, if_neg (by rw [HF.out]; decide)]; exact k3, noE_snoc HNO.out HON.out⟩, k4⟩
    · have hz : (sd == 0) = false := by simp; omega
      have HON := Lib.hid (show onE (a1, a2) (b1, b2) (qx, qy) = false by unfold onE; rw [HSD.out, decide_eq_false (by omega)]; rfl)
      by_cases p1 : a2 ≤ qy
      · by_cases p2 : qy < b2
        · have p3 : ¬ b2 ≤ qy := by omega
          have n0 : decide (b2 ≤ qy) = false := decide_eq_false (by omega)
          have n1 : decide (sd < 0) = false := decide_eq_false (by omega)
          have HF := Lib.hid (show flp (a1, a2) (b1, b2) (qx, qy) = true by rw [flp_eq HSD.out]; simp; omega)
          have c0 := (HH.out.pt.q HV1.out).c0
          have c1 := (HH.out.pt.q HV1.out).c1
          have d0 := (HBX.out.1.q HV1.out).c0
          have d1 := (HBX.out.1.q HV1.out).c1
          have e0 := (HBX.out.2.q HV1.out).c0
          have e1 := (HBX.out.2.q HV1.out).c1
          dsimp only at c0 c1 d0 d1 e0 e1
          have ci := (HH.out.q HV1.out).ins.cell
          have fi := (HH.out.q HV1.out).ins.frozen
          gi_wp2
          refine ⟨trivial, ?_⟩
          gi_wp2
          obtain ⟨k1, k2, k3, k4⟩ := fin_flip (B := W0.heap.size) HH.out HV1.out HBB.out (b3 := s2) (by omega) HBB.out.size (by omega) (by omega) (by omega) (!flE (qx, qy) pre)
          exact ⟨k1, k2, ⟨by rw [flE_snoc, if_pos HF.out]; exact k3, noE_snoc HNO.out HON.out⟩, k4⟩
        · have p3 : b2 ≤ qy := by omega
          have p4 : ¬ qy < a2 := by omega
          have n0 : decide (qy < b2) = false := decide_eq_false (by omega)
          have n1 : decide (qy < a2) = false := decide_eq_false (by omega)
          have n2 : decide (sd < 0) = false := decide_eq_false (by omega)
          have HF := Lib.hid (show flp (a1, a2) (b1, b2) (qx, qy) = false by rw [flp_eq HSD.out]; simp; omega)
          have c0 := (HH.out.pt.q HV1.out).c0
          have c1 := (HH.out.pt.q HV1.out).c1
          have d0 := (HBX.out.1.q HV1.out).c0
          have d1 := (HBX.out.1.q HV1.out).c1
          have e0 := (HBX.out.2.q HV1.out).c0
          have e1 := (HBX.out.2.q HV1.out).c1
          dsimp only at c0 c1 d0 d1 e0 e1
          have ci := (HH.out.q HV1.out).ins.cell
          have fi := (HH.out.q HV1.out).ins.frozen
          gi_wp2
          refine ⟨trivial, ?_⟩
          gi_wp2
          obtain ⟨k1, k2, k3, k4⟩ := fin_same (B := W0.heap.size) HH.out HV1.out HBB.out HBB.out.size
          exact ⟨k1, k2, ⟨by rw [flE_snoc, if_neg (by rw [HF.out]; decide)]; exact k3, noE_snoc HNO.out HON.out⟩, k4⟩
      · by_cases p2 : b2 ≤ qy
        · have p3 : qy < a2 := by omega
          have n0 : decide (a2 ≤ qy) = false := decide_eq_false (by omega)
          have n1 : decide (sd < 0) = false := decide_eq_false (by omega)
          have HF := Lib.hid (show flp (a1, a2) (b1, b2) (qx, qy) = false by rw [flp_eq HSD.out]; simp; omega)
          have c0 := (HH.out.pt.q HV1.out).c0
          have c1 := (HH.out.pt.q HV1.out).c1
          have d0 := (HBX.out.1.q HV1.out).c0
          have d1 := (HBX.out.1.q HV1.out).c1
          have e0 := (HBX.out.2.q HV1.out).c0
          have e1 := (HBX.out.2.q HV1.out).c1
          dsimp only at c0 c1 d0 d1 e0 e1
          have ci := (HH.out.q HV1.out).ins.cell
          have fi := (HH.out.q HV1.out).ins.frozen
          gi_wp2
          refine ⟨trivial, ?_⟩
          gi_wp2
          obtain ⟨k1, k2, k3, k4⟩ := fin_same (B := W0.heap.size) HH.out HV1.out HBB.out HBB.out.size
          exact ⟨k1, k2, ⟨by rw [flE_snoc, if_neg (by rw [HF.out]; decide)]; exact k3, noE_snoc HNO.out HON.out⟩, k4⟩
        · have p3 : qy < a2 := by omega
          have p4 : qy < b2 := by omega
          have n0 : decide (a2 ≤ qy) = false := decide_eq_false (by omega)
          have n1 : decide (b2 ≤ qy) = false := decide_eq_false (by omega)
          have n2 : decide (sd < 0) = false := decide_eq_false (by omega)
          have HF := Lib.hid (show flp (a1, a2) (b1, b2) (qx, qy) = false by rw [flp_eq HSD.out]; simp; omega)
          have c0 := (HH.out.pt.q HV1.out).c0
          have c1 := (HH.out.pt.q HV1.out).c1
          have d0 := (HBX.out.1.q HV1.out).c0
          have d1 := (HBX.out.1.q HV1.out).c1
          have e0 := (HBX.out.2.q HV1.out).c0
          have e1 := (HBX.out.2.q HV1.out).c1
          dsimp only at c0 c1 d0 d1 e0 e1
          have ci := (HH.out.q HV1.out).ins.cell
          have fi := (HH.out.q HV1.out).ins.frozen
          gi_wp2
          refine ⟨trivial, ?_⟩
          gi_wp2
          obtain ⟨k1, k2, k3, k4⟩ := fin_same (B := W0.heap.size) HH.out HV1.out HBB.out HBB.out.size
          exact ⟨k1, k2, ⟨by rw [flE_snoc, if_neg (by rw [HF.out]; decide)]; exact k3, noE_snoc HNO.out HON.out⟩, k4⟩
    -- END
  case done =>
    rintro D zs W hD rfl ⟨⟨hH, hno⟩, hB1⟩ hK
    have cS := hH.ins.cell
    have fR := hH.re.frozen
    have cR := hH.re.cell
    rw [← has_in HRL.out hc.out hq.out hno, h.out] at cS
    gi_wp2
    have hK' := (KeepsOthers.setCell W ⟨w.heap.size + 1, 0, none⟩ (.bool r)).same D _ hK rfl
    refine ⟨by simp, .inl ⟨_, _, rfl, run_takeDeferred hK', ?_⟩⟩
    have hc5 := cell_kept (World.cell?_setCell_same' W ⟨w.heap.size + 1, 0, none⟩ (.bool r) (by rw [cR]; rfl)) (grownBy_putObj' _ D (.deferred none)) (fun r e => by cases e; exact ⟨_, hK', rfl⟩)
    refine ⟨.bool r, ?_, rfl, (hB1.setCell (p := ⟨w.heap.size + 1, 0, none⟩) (by simp) _).trans (belowK_b (w := w) (Nat.le_refl _) _ D _ _ (by omega) hK' rfl rfl)⟩
    simp [results, Try.f25, go_sem, hc5]
  case stop =>
    rintro D cd pre W hD ⟨k, hk, rfl⟩ ⟨⟨hRe, rfl, p, x, e1, e2⟩, hB1⟩ hK
    have hT := has_on HRL.out hc.out hq.out hk e1 e2
    rw [h.out] at hT
    subst hT
    gi_wp2
    refine ⟨by simp, .inl ⟨_, _, rfl, run_takeDeferred hK, ?_⟩⟩
    have hc5 := cell_kept hRe.cell (grownBy_putObj' _ D (.deferred none)) (fun r e => by cases e; exact ⟨_, hK, rfl⟩)
    refine ⟨.bool true, ?_, rfl, hB1.trans (belowK_b (w := w) (Nat.le_refl _) W D _ _ (by omega) hK rfl rfl)⟩
    simp [results, Try.f25, go_sem, hc5]
end Go.Proofs.Ytkkghejbdakmpaa
