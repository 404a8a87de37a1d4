/- The contracts of areInRange and of Area2: a sum over the edges. -/
import Derived.Test.YtkkghejbdakmpaaEdge
set_option linter.unusedVariables false
set_option linter.unusedSimpArgs false
namespace Go.Proofs.Ytkkghejbdakmpaa
open Go.ChangeShapes Go.WideShapes Go.ChangeAt Go.RowKit Go.Shelf Pm

attribute [local go_sem] Oper.semAt_some
theorem rng_next {l : List P} {k : Nat} (h : ∀ i, i < k → inP (g l i) = true) (h1 : inP (g l k) = true) : ∀ i, i < k + 1 → inP (g l i) = true := fun i hi => by
  by_cases e : i = k
  · rw [e]; exact h1
  · exact h i (by omega)
set_option maxRecDepth 100000 in
set_option maxHeartbeats 1600000 in
theorem are_c (v : Value) (l : List P) (b : Bool) (h : Hid (rng l = b)) (w : World) (hr : RdP w v l) (hl : l.length ≤ maxLen) : Calls Try.prog 37 #[v] w fun e w' => e = .returned (.bool b) ∧ Q w w' := by
  have HR := Lib.hid hr
  obtain ⟨A, c, rfl, hc, _⟩ := hr
  obtain ⟨n, hn⟩ : ∃ n, l.length = n := ⟨_, rfl⟩
  have HN := Lib.hid hn
  rw [hn] at HR
  rw [hn]
  have hl' : n ≤ 9223372036854775807 := by unfold maxLen at hl; omega
  clear hc hn hl
  go_enter Try.func37, Try.ntmps37
  go_wp2_with fail
  go_loopw [7] (fun u wr => ∃ k : Nat, k ≤ n ∧ u = .int .i64 k ∧ Hid ((∀ i, i < k → inP (g l i) = true) ∧ Q w wr)) (fun u _ => n - (intOf u).toNat)
  case atStart => exact ⟨0, Nat.zero_le _, rfl, fun i hi => by omega, Q.refl _⟩
  case round =>
    obtain ⟨k, hk, rfl, HI⟩ := hrel
    by_cases hlt : k < n
    · have hkl : k < l.length := by rw [HN.out]; exact hlt
      obtain ⟨bb, off, rfl, hb, hc, c0, c1⟩ := HR.out.at HI.out.2 hkl
      obtain ⟨⟨x, y⟩, hx⟩ : ∃ q, g l k = q := ⟨_, rfl⟩
      rw [hx] at c0 c1
      have HX := Lib.hid hx
      clear hx
      cases hin : inP (x, y) with
      | true =>
        have HB := Lib.hid hin
        have HG := Lib.hid (rng_next HI.out.1 (by rw [HX.out]; exact hin))
        clear hkl hin
        go_wp2_with fail
        refine (inRange_c x y true HB _).mono ?_; rintro E w2 ⟨rfl, hq2⟩
        have HQ := Lib.hid (show Q w w2 from (HI.out.2.alloc _).trans hq2)
        clear hq2
        go_wp2_with fail
        go_roundw
        case rel => exact ⟨k + 1, by omega, by go_num, HG.out, HQ.out⟩
        case measure => simp [intOf] <;> omega
      | false =>
        have HB := Lib.hid hin
        have HE := Lib.hid (show false = b by rw [← h.out]; exact (allN_no hkl (by rw [HX.out]; exact hin)).symm)
        clear hkl hin
        go_wp2_with fail
        refine (inRange_c x y false HB _).mono ?_; rintro E w2 ⟨rfl, hq2⟩
        have HQ := Lib.hid (show Q w w2 from (HI.out.2.alloc _).trans hq2)
        clear hq2
        go_wp2_with fail
        go_ret
        exact ⟨ret_bool HE.out, HQ.out⟩
    · obtain rfl : k = n := by omega
      have HE := Lib.hid (show true = b by rw [← h.out]; exact (allN_yes (by rw [HN.out]; exact HI.out.1)).symm)
      go_wp2_with fail
      go_ret
      exact ⟨ret_bool HE.out, HI.out.2⟩

/-! Area2 -/
theorem ar_step (l : List P) (k : Nat) : ar l (k + 1) = ar l k + arT (g l k) (g l (nx l k)) := rfl
/-- the part of the sum over the edges that have come -/
def arE (pre : List EP) : Int := (pre.map fun e => arT e.1.1 e.1.2).sum
theorem arE_snoc (pre : List EP) (e : EP) : arE (pre ++ [e]) = arE pre + arT e.1.1 e.1.2 := by unfold arE; simp
theorem arE_is (l : List P) (h : RL l) : ∀ k, arE (eE l h k) = ar l k
  | 0 => rfl
  | k + 1 => by rw [eE_succ, arE_snoc, arE_is l h k]; rfl
theorem arE_bd (pre : List EP) : -(720000 * (pre.length : Int)) ≤ arE pre ∧ arE pre ≤ 720000 * (pre.length : Int) := by
  induction pre with
  | nil => exact ⟨by show _ ≤ (0 : Int); simp, by show (0 : Int) ≤ _; simp⟩
  | cons e pre ih =>
    have hb := arT_bd e.2.1 e.2.2
    have : arE (e :: pre) = arT e.1.1 e.1.2 + arE pre := by unfold arE; simp
    rw [this, List.length_cons]; omega
/-- the box of a point -/
def BoxP (W : World) (B : Nat) (q : P) : Prop := W.heap[B]? = some (.cells #[.int .i64 q.1, .int .i64 q.2] 38 (0, 0))
theorem BoxP.lt {W : World} {B : Nat} {q : P} (h : BoxP W B q) : B < W.heap.size := (Array.getElem?_eq_some_iff.1 h).1
theorem BoxP.c0 {W : World} {B : Nat} {q : P} (h : BoxP W B q) : W.cell? ⟨B, 0, none⟩ = some (.int .i64 q.1) := by simp [World.cell?, show W.heap[B]? = _ from h]
theorem BoxP.c1 {W : World} {B : Nat} {q : P} (h : BoxP W B q) : W.cell? ⟨B, 1, none⟩ = some (.int .i64 q.2) := by simp [World.cell?, show W.heap[B]? = _ from h]
theorem BoxP.f0 {W : World} {B : Nat} {q : P} (h : BoxP W B q) : W.frozen? ⟨B, 0, none⟩ = false := by simp [World.frozen?, show W.heap[B]? = _ from h]
theorem BoxP.f1 {W : World} {B : Nat} {q : P} (h : BoxP W B q) : W.frozen? ⟨B, 1, none⟩ = false := by simp [World.frozen?, show W.heap[B]? = _ from h]
theorem BoxP.new (W : World) (q : P) : BoxP (W.alloc (.cells #[.int .i64 q.1, .int .i64 q.2] 38)) W.heap.size q := World.alloc_heap_new W _
theorem BoxP.kept {W W' : World} {row : Option Nat} {B : Nat} {q : P} (h : BoxP W B q) (hg : W.grownBy W' row) (hne : some B ≠ row) : BoxP W' B q := (hg.block B h.lt hne).trans h
theorem BoxP.alloc {W : World} {B : Nat} {q : P} (h : BoxP W B q) (o : Obj) : BoxP (W.alloc o) B q := h.kept (World.grownBy_alloc W o none) (by simp)
theorem BoxP.q {W W' : World} {B : Nat} {q : P} (h : BoxP W B q) (hq : Q W W') : BoxP W' B q := (hq.block B h.lt).trans h
theorem BoxP.own {β : Type} (B : Nat) (f : β → P) : _root_.Go.Own (fun s W => BoxP W B (f s)) := fun s X Y row hs hg hrow =>
  hs.kept hg (fun e' => by obtain ⟨o, ho, hc⟩ := hrow B e'.symm; rw [show X.heap[B]? = _ from hs] at ho; cases ho; cases hc)
theorem Boxed.q {W W' : World} {B : Nat} {t : TypeId} {v : Value} (h : Boxed W B t v) (hq : Q W W') : Boxed W' B t v := (hq.block B h.lt).trans h
/-- the two boxes of a round's edge -/
def Two (lo : Nat) (x : P × P) (a' : Act) (f : Nat → Nat → Array Value) (W : World) : Prop := ∃ B1 B2, lo < B1 ∧ lo < B2 ∧ B1 ≠ B2 ∧ BoxP W B1 x.1 ∧ BoxP W B2 x.2 ∧ a' = { tmps := f B1 B2, defers := [] }
theorem two_own {B lo : Nat} {x : P × P} {a' : Act} {f : Nat → Nat → Array Value} : OwnFrom B (fun (_ : Unit) W => Two lo x a' f W) := fun _ X Y row hs hg hr => by
  obtain ⟨B1, B2, h1, h2, h3, h4, h5, h6⟩ := hs
  exact ⟨B1, B2, h1, h2, h3, BoxP.own B1 (fun (_ : Unit) => x.1) () X Y row h4 hg (fun r e => (hr r e).2), BoxP.own B2 (fun (_ : Unit) => x.2) () X Y row h5 hg (fun r e => (hr r e).2), h6⟩
theorem Kp.of {n b : Nat} {W W' : World} (h : Below n W W') (hb : W'.heap[b]? = W.heap[b]?) : Kp n b W W' := ⟨h, hb⟩
set_option maxRecDepth 100000 in
set_option maxHeartbeats 2000000 in
theorem Area2_in (v : Value) (l : List P) (r : Int) (h : Hid (ar l l.length = r)) (hR : RL l) (h32 : l.length ≤ 32) (hrg : Hid (rng l = true)) (w : World) (hr : RdP w v l) : Calls Try.prog 16 #[v] w fun e w' => e = .returned (.int .i64 r) ∧ Q w w' := by
  have HR := Lib.hid hr
  have HRL := Lib.hid hR
  obtain ⟨A, c, rfl, hc, _⟩ := hr
  obtain ⟨n, hn⟩ : ∃ n, l.length = n := ⟨_, rfl⟩
  have HN := Lib.hid hn
  have h32' : n ≤ 32 := by omega
  have h32'' : ¬ (32 : Int) < (n : Int) := by omega
  rw [hn] at HR
  rw [hn]
  clear hc hn h32 hR
  refine (callsIn_wide (n := 5)).1 ?_
  refine callsIn_of_wp_marks Try.func16 rfl trivial ?_ rfl
  simp only [Try.ntmps16, List.size_toArray, List.length_cons, List.length_nil, Nat.reduceAdd, Nat.reduceSub, Array.replicate_succ, Array.replicate_zero, List.push_toArray, List.append_toArray, List.nil_append, List.cons_append]
  gi_wp2_with fail
  refine ⟨trivial, ?_⟩
  refine (callsIn_wide.2 (are_c _ l true hrg _ HR.out (by rw [HN.out]; unfold maxLen; omega))).mono ?_
  rintro e w1 ⟨rfl, hq1⟩
  have HQ1 := Lib.hid hq1
  clear hq1
  gi_wp2_with fail
  refine ⟨trivial, ?_⟩
  refine (edges_in _ _ _ _ _).mono ?_
  rintro e w' ⟨rfl, rfl⟩
  gi_wp2_with fail
  have hsz0 := HQ1.out.size
  have bS := (Boxed.new w1 3 (.int .i64 0)).alloc (.cells #[.slice A n c] 22)
  have bN := Boxed.new (w1.alloc (.cells #[.int .i64 0] 3)) 22 (.slice A n c)
  rw [World.size_alloc] at bN
  have hB0 : Below w.heap.size w ((w1.alloc (.cells #[.int .i64 0] 3)).alloc (.cells #[.slice A n c] 22)) := Below.alloc (Below.alloc HQ1.out hsz0 _) (by simp; omega) _
  have hsz : ((w1.alloc (.cells #[.int .i64 0] 3)).alloc (.cells #[.slice A n c] 22)).heap.size = w1.heap.size + 2 := by simp
  obtain ⟨W0, hW0⟩ : ∃ W0, (w1.alloc (.cells #[.int .i64 0] 3)).alloc (.cells #[.slice A n c] 22) = W0 := ⟨_, rfl⟩
  rw [hW0] at bS bN hB0 hsz ⊢
  clear hW0
  refine wpIn_rangeFunc_ownH rfl (by omega) (gf := 57) (lb := #[.pointer (some ⟨w1.heap.size + 1, 0, none⟩)]) rfl trivial (enters_of Try.func57 (by kernel_rfl) rfl)
    (edges_stops _ (by omega) (w1.heap.size + 1) w.heap.size _ l HRL.out (by rw [HN.out]; omega) W0 (by omega) (by omega) bN.cell w rfl HR.out hB0) Kp.t (Kp.b (by omega) (by omega)) (Below.refl _ _) (fun _ => rfl)
    (fun pre W => (Boxed W w1.heap.size 3 (.int .i64 (arE pre)) ∧ Boxed W (w1.heap.size + 1) 22 (.slice A n c)) ∧ Below w.heap.size w W)
    (fun _ _ _ => False)
    (OwnFrom.and (OwnFrom.and (_root_.Go.Own.from (boxed_own _ _ _) _) (_root_.Go.Own.from (boxed_own _ _ _) _)) (ownFrom_below (Nat.le_refl _) (by omega)))
    (fun _ _ _ _ _ hs _ _ => hs)
    ⟨⟨bS, bN⟩, hB0⟩
    (fun x a' W => Two (w1.heap.size + 1) x.1 a' (fun B1 B2 => #[.slice A n c, undef, .int .i64 0, .pointer (some ⟨w1.heap.size, 0, none⟩), .pointer (some ⟨B1, 0, none⟩), .pointer (some ⟨B2, 0, none⟩), .slice A n c, .int .i64 n, .bool false, .bool false, .slice A n c, .bool true, .bool false, .bool false, .slice A n c, .func (.func 57) #[] #[.pointer (some ⟨w1.heap.size + 1, 0, none⟩)], pv x.1.1, pv x.1.2, undef, undef, undef, undef, undef, undef, undef, undef, undef, undef, undef, undef, undef, undef]) W)
    (fun x a' => two_own)
    ?assign ?body ?done ?stop
  case assign =>
    rintro l' pre ⟨⟨⟨a1, a2⟩, b1, b2⟩, hx⟩ W K ⟨⟨bS1, bN1⟩, hB1⟩ hK
    unfold pv at hK ⊢
    dsimp only at hK ⊢
    gi_wp2
    have hle := hB1.size
    refine hK _ _ (((KeepsOthers.alloc _ _).trans (KeepsOthers.alloc _ _)).from _) ⟨((Below.refl _ W).alloc hle _).alloc (by simp; omega) _, ?_⟩ ⟨⟨(bS1.alloc _).alloc _, (bN1.alloc _).alloc _⟩, (hB1.alloc hle _).alloc (by simp; omega) _⟩
      ⟨W.heap.size, W.heap.size + 1, bN1.lt, by have := bN1.lt; omega, by omega, (BoxP.new W (a1, a2)).alloc _, ?_, rfl⟩
    · exact (((bN1.alloc _).alloc _ : Boxed _ _ _ _) : _ = _).trans (bN1 : _ = _).symm
    · have := BoxP.new (W.alloc (.cells #[.int .i64 a1, .int .i64 a2] 38)) (b1, b2)
      rw [World.size_alloc] at this
      exact this
  case body =>
    rintro l' pre ⟨⟨⟨a1, a2⟩, b1, b2⟩, hx1, hx2⟩ a' W hl ⟨r', hr'⟩ ⟨⟨bS1, bN1⟩, hB1⟩ ⟨B1, B2, hB1', hB2', hne, bx1, bx2, rfl⟩ hlt
    have hbd := arE_bd pre
    have hst := arE_snoc pre ⟨((a1, a2), b1, b2), hx1, hx2⟩
    obtain ⟨⟨i1, i2⟩, i3, i4⟩ := inP_yes hx1
    obtain ⟨⟨j1, j2⟩, j3, j4⟩ := inP_yes hx2
    have m1 := mul_bd (a := a1) (b := b2) i1 i2 j3 j4
    have m2 := mul_bd (a := b1) (b := a2) j1 j2 i3 i4
    have cS := bS1.cell
    have fS := bS1.frozen
    have c0 := bx1.c0
    have c1 := bx1.c1
    have d0 := bx2.c0
    have d1 := bx2.c1
    have hlt' : pre.length < n := by rw [HN.out] at hlt; exact hlt
    dsimp only at c0 c1 d0 d1
    unfold arT at hst
    dsimp only at hst
    obtain ⟨s, hs⟩ : ∃ z, arE pre = z := ⟨_, rfl⟩
    obtain ⟨p, hp⟩ : ∃ z, a1 * b2 = z := ⟨_, rfl⟩
    obtain ⟨t, ht⟩ : ∃ z, b1 * a2 = z := ⟨_, rfl⟩
    rw [hs] at hbd hst cS
    rw [hp] at m1 hst
    rw [ht] at m2 hst
    obtain ⟨m11, m12⟩ := m1
    obtain ⟨m21, m22⟩ := m2
    obtain ⟨s1, s2⟩ := hbd
    have s1' : -30000000 ≤ s := by omega
    have s2' : s ≤ 30000000 := by omega
    have HST := Lib.hid hst
    have HS := Lib.hid hs
    have HB := Lib.hid hB1
    have HX1 := Lib.hid bS1
    have HX2 := Lib.hid bN1
    clear hst hs hlt hlt' s1 s2
    gi_wp2
    have hBW : Below w.heap.size W (W.setCell ⟨w1.heap.size, 0, none⟩ (.int .i64 (s + (p - t)))) := (Below.refl _ W).setCell (p := ⟨w1.heap.size, 0, none⟩) hsz0 _
    refine ⟨(KeepsOthers.setCell _ _ _).from _, ⟨hBW, Below.heap_setCell _ _ _ _ (by show w1.heap.size + 1 ≠ w1.heap.size; omega)⟩, ⟨⟨?_, HX2.out.other (by omega) _⟩, HB.out.trans hBW⟩⟩
    rw [HST.out]
    exact HX1.out.set _
  case done =>
    rintro D zs W hD rfl ⟨⟨bS1, bN1⟩, hB1⟩ hK
    have cS := bS1.cell
    rw [arE_is, h.out] at cS
    gi_wp2
    refine ⟨by simp, .inl ⟨_, _, rfl, run_takeDeferred hK, ?_⟩⟩
    exact ⟨_, results_tmp rfl _ _ _, rfl, hB1.trans (belowK_b (w := w) (Nat.le_refl _) W D _ _ (by omega) hK rfl rfl)⟩
  case stop =>
    rintro D c pre W _ _ h _
    exact h.elim
theorem ar2_long {l : List P} (h : 32 < l.length) : ar2 l = 0 := by unfold ar2; rw [if_pos h]
theorem ar2_out {l : List P} (h : rng l = false) : ar2 l = 0 := by unfold ar2; rw [h]; split <;> rfl
theorem ar2_in {l : List P} (h : ¬ 32 < l.length) (h1 : rng l = true) : ar2 l = ar l l.length := by unfold ar2; rw [if_neg h, if_pos h1]
set_option maxRecDepth 100000 in
set_option maxHeartbeats 1600000 in
theorem Area2_c (v : Value) (l : List P) (r : Int) (h : Hid (ar2 l = r)) (w : World) (hr : RdP w v l) (hl : l.length ≤ maxLen) : Calls Try.prog 16 #[v] w fun e w' => e = .returned (.int .i64 r) ∧ Q w w' := by
  by_cases h32 : 32 < l.length
  · have HE := Lib.hid (show 0 = r by rw [← h.out, ar2_long h32])
    obtain ⟨A, c, rfl, hc, _⟩ := hr
    obtain ⟨n, hn⟩ : ∃ n, l.length = n := ⟨_, rfl⟩
    rw [hn]
    have t : (32 : Int) < (n : Int) := by omega
    clear hc hn hl h32 h
    go_enter Try.func16, Try.ntmps16
    go_wp2_with fail
    go_ret
    exact ⟨ret_int HE.out, Q.refl _⟩
  · obtain ⟨b, hb⟩ : ∃ b, rng l = b := ⟨_, rfl⟩
    cases b with
    | true => exact Area2_in v l r (Lib.hid (by rw [← h.out, ar2_in h32 hb])) (rng_mem hb) (by omega) (Lib.hid hb) w hr
    | false =>
      have HE := Lib.hid (show 0 = r by rw [← h.out, ar2_out hb])
      have HB := Lib.hid hb
      have HR := Lib.hid hr
      have HL := Lib.hid hl
      obtain ⟨A, c, rfl, hc, _⟩ := hr
      obtain ⟨n, hn⟩ : ∃ n, l.length = n := ⟨_, rfl⟩
      rw [hn] at HR
      rw [hn]
      have t : ¬ (32 : Int) < (n : Int) := by omega
      clear hc hn hl h32 h hb
      go_enter Try.func16, Try.ntmps16
      go_wp2_with fail
      refine (are_c _ l false HB _ HR.out HL.out).mono ?_
      rintro e w1 ⟨rfl, hq1⟩
      go_wp2_with fail
      go_ret
      exact ⟨ret_int HE.out, hq1⟩
/-! Check -/
theorem chk_short {l : List P} (h : l.length < 3) : chk l = 3 := by unfold chk; rw [if_pos h]
theorem chk_long {l : List P} (h : 32 < l.length) : chk l = 4 := by unfold chk; rw [if_neg (by omega), if_pos h]
theorem chk_out {l : List P} (h1 : ¬ l.length < 3) (h2 : ¬ 32 < l.length) (h : rng l = false) : chk l = 9 := by unfold chk; rw [if_neg h1, if_neg h2, h]; rfl
theorem chk_flat {l : List P} (h1 : ¬ l.length < 3) (h2 : ¬ 32 < l.length) (h : rng l = true) (h3 : ar2 l = 0) : chk l = 19 := by unfold chk; rw [if_neg h1, if_neg h2, h, if_pos rfl, if_pos h3]
theorem chk_ok {l : List P} (h1 : ¬ l.length < 3) (h2 : ¬ 32 < l.length) (h : rng l = true) (h3 : ¬ ar2 l = 0) : chk l = 0 := by unfold chk; rw [if_neg h1, if_neg h2, h, if_pos rfl, if_neg h3]
set_option maxRecDepth 100000 in
set_option maxHeartbeats 1600000 in
theorem Check_c (v : Value) (l : List P) (e : Nat) (h : Hid (chk l = e)) (w : World) (hr : RdP w v l) (hl : l.length ≤ maxLen) : Calls Try.prog 14 #[v] w fun r w' => r = .returned (.int .i64 e) ∧ Q w w' := by
  have HR := Lib.hid hr
  have HL := Lib.hid hl
  obtain ⟨A, c, rfl, hc, _⟩ := hr
  obtain ⟨n, hn⟩ : ∃ n, l.length = n := ⟨_, rfl⟩
  have HN := Lib.hid hn
  rw [hn] at HR
  rw [hn]
  clear hc hl
  by_cases h1 : n < 3
  · have HE := Lib.hid (show ((3 : Nat) : Int) = (e : Int) by rw [← h.out, chk_short (by omega)])
    have t1 : (n : Int) < 3 := by omega
    clear hn h h1
    go_enter Try.func14, Try.ntmps14
    go_wp2_with fail
    go_ret
    exact ⟨ret_int HE.out, Q.refl _⟩
  · by_cases h2 : 32 < n
    · have HE := Lib.hid (show ((4 : Nat) : Int) = (e : Int) by rw [← h.out, chk_long (by omega)])
      have t1 : ¬ (n : Int) < 3 := by omega
      have t2 : (32 : Int) < (n : Int) := by omega
      clear hn h h1 h2
      go_enter Try.func14, Try.ntmps14
      go_wp2_with fail
      go_ret
      exact ⟨ret_int HE.out, Q.refl _⟩
    · have t1 : ¬ (n : Int) < 3 := by omega
      have t2 : ¬ (32 : Int) < (n : Int) := by omega
      obtain ⟨b, hb⟩ : ∃ b, rng l = b := ⟨_, rfl⟩
      have HB := Lib.hid hb
      cases b with
      | false =>
        have HE := Lib.hid (show ((9 : Nat) : Int) = (e : Int) by rw [← h.out, chk_out (by omega) (by omega) hb])
        clear hn h h1 h2 hb
        go_enter Try.func14, Try.ntmps14
        go_wp2_with fail
        refine (are_c _ l false HB _ HR.out HL.out).mono ?_; rintro E w1 ⟨rfl, hq1⟩
        go_wp2_with fail
        go_ret
        exact ⟨ret_int HE.out, hq1⟩
      | true =>
        obtain ⟨r, hr⟩ : ∃ r, ar2 l = r := ⟨_, rfl⟩
        have HA := Lib.hid hr
        by_cases h3 : r = 0
        · have HE := Lib.hid (show ((19 : Nat) : Int) = (e : Int) by rw [← h.out, chk_flat (by omega) (by omega) hb (by rw [hr, h3])])
          have t3 : (r == 0) = true := by simp [h3]
          clear hn h h1 h2 hb hr h3
          go_enter Try.func14, Try.ntmps14
          go_wp2_with fail
          refine (are_c _ l true HB _ HR.out HL.out).mono ?_; rintro E w1 ⟨rfl, hq1⟩
          have HQ1 := Lib.hid hq1; clear hq1
          go_wp2_with fail
          refine (Area2_c _ l r HA _ (by rw [← HN.out] at HR ⊢; exact RdG.q HR.out HQ1.out) HL.out).mono ?_; rintro E w2 ⟨rfl, hq2⟩
          have HQ2 := Lib.hid (HQ1.out.trans hq2); clear hq2
          go_wp2_with fail
          go_ret
          exact ⟨ret_int HE.out, HQ2.out⟩
        · have HE := Lib.hid (show ((0 : Nat) : Int) = (e : Int) by rw [← h.out, chk_ok (by omega) (by omega) hb (by rw [hr]; exact h3)])
          have t3 : (r == 0) = false := by simp [h3]
          clear hn h h1 h2 hb hr h3
          go_enter Try.func14, Try.ntmps14
          go_wp2_with fail
          refine (are_c _ l true HB _ HR.out HL.out).mono ?_; rintro E w1 ⟨rfl, hq1⟩
          have HQ1 := Lib.hid hq1; clear hq1
          go_wp2_with fail
          refine (Area2_c _ l r HA _ (by rw [← HN.out] at HR ⊢; exact RdG.q HR.out HQ1.out) HL.out).mono ?_; rintro E w2 ⟨rfl, hq2⟩
          have HQ2 := Lib.hid (HQ1.out.trans hq2); clear hq2
          go_wp2_with fail
          go_ret
          exact ⟨ret_int HE.out, HQ2.out⟩
end Go.Proofs.Ytkkghejbdakmpaa
