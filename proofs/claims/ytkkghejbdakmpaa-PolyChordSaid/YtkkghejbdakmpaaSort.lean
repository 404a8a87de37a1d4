/- slices.Clone and slices.SortFunc at points, as Canon calls them. -/
import Derived.Test.YtkkghejbdakmpaaLeafB
import Derived.Test.YtkkghejbdakmpaaShelf
set_option linter.unusedVariables false
set_option linter.unusedSimpArgs false
namespace Go.Proofs.Ytkkghejbdakmpaa
open Go.ChangeShapes Go.WideShapes Go.ChangeAt Go.RowKit Go.Sort Go.Shelf Pm

def cfP (x y : P) : Int := if Lib.compareInt x.1 y.1 = 0 then Lib.compareInt x.2 y.2 else Lib.compareInt x.1 y.1
theorem ltP (x y : P) : ltOf cfP x y = bef x y := by
  unfold ltOf cfP Lib.compareInt bef
  by_cases h1 : x.1 < y.1
  · simp [h1]
  · by_cases h2 : y.1 < x.1
    · have h3 : ¬ x.1 = y.1 := by omega
      simp [h1, h2, h3]
    · have h3 : x.1 = y.1 := by omega
      by_cases h4 : x.2 < y.2
      · simp [h3, h4]
      · by_cases h5 : y.2 < x.2 <;> simp [h3, h4, h5]
theorem swoP : SWO (ltOf cfP) where
  irrefl x := by rw [ltP, bef_no]; omega
  trans x y z h1 h2 := by rw [ltP] at *; rw [bef_iff] at *; omega
  ntrans x y z h1 h2 := by rw [ltP] at *; rw [bef_no] at *; omega
set_option maxHeartbeats 800000 in
theorem or_c (g : Nat) (a b r : Int) (w : World) (h : Hid ((if a = 0 then b else a) = r)) (hc0 : w.cell? ⟨g, 0, none⟩ = some (.int .i64 a)) (hc1 : w.cell? ⟨g, 1, none⟩ = some (.int .i64 b)) :
    Calls Try.prog 49 #[.slice (some ⟨g, 0, none⟩) 2 2] w fun e w' => e = .returned (.int .i64 r) ∧ w = w' := by
  by_cases ha : a = 0
  · have h0 : (a != 0) = false := by simp [ha]
    by_cases hb : b = 0
    · have h1 : (b != 0) = false := by simp [hb]
      have HR := Lib.hid (show 0 = r by rw [← h.out, if_pos ha, hb])
      clear h ha hb
      go_enter Try.func49, Try.ntmps49
      go_wp2_with fail
      refine wp_loop_rounds 3 ?_
      rw [rounds_succ]
      go_wp2_with fail
      rw [rounds_succ]
      go_wp2_with fail
      rw [rounds_succ]
      go_wp2_with fail
      go_ret
      exact ⟨ret_int HR.out, rfl⟩
    · have h1 : (b != 0) = true := by simp [hb]
      have HR := Lib.hid (show b = r by rw [← h.out, if_pos ha])
      clear h ha hb
      go_enter Try.func49, Try.ntmps49
      go_wp2_with fail
      refine wp_loop_rounds 3 ?_
      rw [rounds_succ]
      go_wp2_with fail
      rw [rounds_succ]
      go_wp2_with fail
      go_ret
      exact ⟨ret_int HR.out, rfl⟩
  · have h0 : (a != 0) = true := by simp [ha]
    have HR := Lib.hid (show a = r by rw [← h.out, if_neg ha])
    clear h ha
    go_enter Try.func49, Try.ntmps49
    go_wp2_with fail
    refine wp_loop_rounds 3 ?_
    rw [rounds_succ]
    go_wp2_with fail
    go_ret
    exact ⟨ret_int HR.out, rfl⟩
def Gr (w w' : World) : Prop := ∃ q os', w' = grow (w.drewN q) os'
theorem Gr.refl (w : World) : Gr w w := ⟨0, #[], by simp [grow]; rfl⟩
theorem gsAl {b : Nat} {x1 x2 y1 y2 : Int} {W W1 : World} (h : W1.cell? ⟨b, 0, none⟩ = some (.int .i64 x1) ∧ W1.cell? ⟨b, 1, none⟩ = some (.int .i64 x2) ∧ W1.cell? ⟨b + 1, 0, none⟩ = some (.int .i64 y1) ∧ W1.cell? ⟨b + 1, 1, none⟩ = some (.int .i64 y2) ∧ b + 1 < W1.heap.size ∧ Hid (Gr W W1)) (o : Obj) :
    (W1.alloc o).cell? ⟨b, 0, none⟩ = some (.int .i64 x1) ∧ (W1.alloc o).cell? ⟨b, 1, none⟩ = some (.int .i64 x2) ∧ (W1.alloc o).cell? ⟨b + 1, 0, none⟩ = some (.int .i64 y1) ∧ (W1.alloc o).cell? ⟨b + 1, 1, none⟩ = some (.int .i64 y2) ∧ b + 1 < (W1.alloc o).heap.size ∧ Hid (Gr W (W1.alloc o)) := by
  obtain ⟨h0, h1, h2, h3, h4, h5⟩ := h
  have k := fun (a : Addr) (ha : a.block < W1.heap.size) => ((Q.refl W1).alloc o).cell (p := a) ha
  refine ⟨(k _ (show b < _ by omega)).trans h0, (k _ (show b < _ by omega)).trans h1, (k _ h4).trans h2, (k _ h4).trans h3, by simp; omega, Lib.hid ?_⟩
  obtain ⟨q, os, e⟩ := h5.out
  exact ⟨q, _, by rw [alloc_eq_grow, e, grow_grow]⟩
set_option maxHeartbeats 1600000 in
theorem closure_c (x y : P) (W : World) : Calls Try.prog 48 #[.agg (pc x).toArray, .agg (pc y).toArray] W fun e w' => e = .returned (.int .i64 (cfP x y)) ∧ ∃ q os', w' = grow (W.drewN q) os' := by
  have hcon1 := fun W' => AnyG.cmp_Compare_int Try.cmpInt x.1 y.1 W'
  have hcon2 := fun W' => AnyG.cmp_Compare_int Try.cmpInt x.2 y.2 W'
  change ∀ W', Calls Try.prog 50 _ _ _ at hcon1
  change ∀ W', Calls Try.prog 50 _ _ _ at hcon2
  have HR := Lib.hid (show (if Lib.compareInt x.1 y.1 = 0 then Lib.compareInt x.2 y.2 else Lib.compareInt x.1 y.1) = cfP x y from rfl)
  obtain ⟨x1, x2⟩ := x
  obtain ⟨y1, y2⟩ := y
  unfold pc
  dsimp only at hcon1 hcon2 HR
  generalize Lib.compareInt x1 y1 = r1 at hcon1 HR
  generalize Lib.compareInt x2 y2 = r2 at hcon2 HR
  generalize cfP (x1, x2) (y1, y2) = r at HR ⊢
  go_enter Try.func48, Try.ntmps48
  go_wp2_with fail
  obtain ⟨W0, hW0⟩ : ∃ W0, (W.alloc (.cells #[.int .i64 x1, .int .i64 x2] 38)).alloc (.cells #[.int .i64 y1, .int .i64 y2] 38) = W0 := ⟨_, rfl⟩
  have s0 : W0.drew.cell? ⟨W.heap.size, 0, none⟩ = some (.int .i64 x1) := by rw [← hW0]; simp [go_sem]
  have s1 : W0.drew.cell? ⟨W.heap.size, 1, none⟩ = some (.int .i64 x2) := by rw [← hW0]; simp [go_sem]
  have s2 : W0.drew.cell? ⟨W.heap.size + 1, 0, none⟩ = some (.int .i64 y1) := by rw [← hW0]; simp [go_sem]
  have s3 : W0.drew.cell? ⟨W.heap.size + 1, 1, none⟩ = some (.int .i64 y2) := by rw [← hW0]; simp [go_sem]
  have s4 : W.heap.size + 1 < W0.drew.heap.size := by rw [← hW0]; simp [World.drew]
  have s5 := Lib.hid (show Gr W W0.drew by rw [← hW0, alloc_eq_grow, alloc_eq_grow, grow_grow]; exact ⟨1, _, rfl⟩)
  rw [hW0]
  clear hW0
  go_region_held3 (fun w' => w'.cell? ⟨W.heap.size, 0, none⟩ = some (.int .i64 x1) ∧ w'.cell? ⟨W.heap.size, 1, none⟩ = some (.int .i64 x2) ∧ w'.cell? ⟨W.heap.size + 1, 0, none⟩ = some (.int .i64 y1) ∧ w'.cell? ⟨W.heap.size + 1, 1, none⟩ = some (.int .i64 y2) ∧ W.heap.size + 1 < w'.heap.size ∧ Hid (Gr W w')) (first | exact ⟨s0, s1, s2, s3, s4, s5⟩ | exact gsAl (W1 := W0.drew) ⟨s0, s1, s2, s3, s4, s5⟩ _) (first | (go_at_call_of 50 x1; refine (hcon1 _).mono ?_; rintro e w' ⟨rfl, rfl⟩) | (go_at_call_of 50 x2; refine (hcon2 _).mono ?_; rintro e w' ⟨rfl, rfl⟩) | (go_at_call 49; refine (or_c _ r1 r2 r _ HR (by simp [go_sem]) (by simp [go_sem])).mono ?_; rintro e w' ⟨rfl, rfl⟩))
  have hg := Lib.hid (gsAl (W1 := W0.drew) ⟨s0, s1, s2, s3, s4, s5⟩ (.cells #[.int .i64 r1, .int .i64 r2] 3)).2.2.2.2.2.out
  clear s0 s1 s2 s3 s4 s5 hcon1 hcon2
  go_wp2_with fail
  go_ret
  exact ⟨rfl, hg.out⟩
theorem cmpLays (blk off size : Nat) (w : World) : CmpLays Try.prog 48 #[] pc 2 cfP blk off size w := fun _ _ _ _ x y => closure_c x y _

theorem ins_nil (w : World) (f : Value) : Calls Try.prog 62 #[.slice none 0 0, .int .i64 0, .int .i64 0, f] w fun e w' => e = .returned (.tuple #[]) ∧ w = w' := by
  go_enter Try.func62, Try.ntmps62
  go_wp2_with fail
  refine wp_loop_rounds 1 ?_
  rw [rounds_succ]
  go_wp2_with fail
  go_end0
  exact ⟨rfl, rfl⟩
theorem pdq_nil (w : World) (n : Int) (f : Value) : Calls Try.prog 58 #[.slice none 0 0, .int .i64 0, .int .i64 0, .int .i64 n, f] w fun e w' => e = .returned (.tuple #[]) ∧ w = w' := by
  go_enter Try.func58, Try.ntmps58
  go_wp2_with fail
  refine wp_loop_rounds 1 ?_
  rw [rounds_succ]
  go_wp2_with fail
  refine (ins_nil _ _).mono ?_; rintro e w1 ⟨rfl, rfl⟩
  go_wp2_with fail
  exact bodyPost_ret (v := .tuple #[]) (by simp [results, Try.results58, go_sem]) rfl ⟨rfl, rfl⟩
theorem len_zero (w : World) : Calls Try.prog 59 #[.int .u64 0] w fun e w' => e = .returned (.int .i64 (Lib.bitLen 0 : Nat)) ∧ w = w' := by
  have h := Any.bits_Len (SlLaysF0.n15.bits (P := Try.prog) (ρ := Try.sortS_ren) { Try.sortS with }) (0 : Int) w (by omega) (by omega)
  change Calls Try.prog 59 _ _ _ at h
  exact h.mono fun _ _ ⟨a, b⟩ => ⟨a, b.symm⟩
theorem sort_nil (w : World) (f : Value) : Calls Try.prog 47 #[.slice none 0 0, f] w fun e w' => e = .returned (.tuple #[]) ∧ w = w' := by
  go_enter Try.func47, Try.ntmps47
  go_wp2_with fail
  refine (len_zero _).mono ?_; rintro e w1 ⟨rfl, rfl⟩
  go_wp2_with fail
  refine (pdq_nil _ _ _).mono ?_; rintro e w1 ⟨rfl, rfl⟩
  go_wp2_with fail
  go_end0
  exact ⟨rfl, rfl⟩
theorem cellsL_one (l : List P) : ∀ u ∈ cellsL l, u.oneCell' = true := by
  intro u hu
  unfold cellsL at hu
  obtain ⟨s, _, hs⟩ := List.mem_flatMap.1 hu
  simp [pc] at hs
  rcases hs with rfl | rfl <;> rfl
theorem rdp_cells {w : World} {b off n c : Nat} {l : List P} (h : RdP w (.slice (some ⟨b, off, none⟩) n c) l) : ∀ j u, (cellsL l)[j]? = some u → w.cell? ⟨b, off + j, none⟩ = some u := fun j u hj => by
  obtain ⟨A, c', h1, h2, h3⟩ := h
  injection h1 with e1 e2 e3
  subst e1 e2 e3
  have hjl : j < (cellsL l).length := by
    rcases Nat.lt_or_ge j (cellsL l).length with k | k
    · exact k
    · rw [List.getElem?_eq_none k] at hj; cases hj
  rw [cellsL_len] at hjl
  obtain ⟨b', off', e4, hb, hcell⟩ := h3 (by omega)
  injection e4 with e4; injection e4 with e5 e6
  subst e5 e6
  have hil : j / 2 < l.length := by omega
  have c1 := cellsL_at l (j / 2) l[j / 2] (List.getElem?_eq_getElem hil)
  have c2 := hcell (j / 2) l[j / 2] (List.getElem?_eq_getElem hil)
  rcases Nat.mod_two_eq_zero_or_one j with m | m
  · have e : j = j / 2 * 2 := by omega
    have c3 := c2 0 _ rfl
    rw [show off + j / 2 * 2 + 0 = off + j by omega] at c3
    rw [show (cellsL l)[j]? = _ from (congrArg (fun t => (cellsL l)[t]?) e).trans c1.1] at hj
    rw [c3]; exact hj
  · have e : j = j / 2 * 2 + 1 := by omega
    have c3 := c2 1 _ rfl
    rw [show off + j / 2 * 2 + 1 = off + j by omega] at c3
    rw [show (cellsL l)[j]? = _ from (congrArg (fun t => (cellsL l)[t]?) e).trans c1.2] at hj
    rw [c3]; exact hj
/-- a clone: nothing, or a row of the call's own -/
def ClonePost (l : List P) (w : World) (e : Ending) (w' : World) : Prop :=
  (l = [] ∧ e = .returned (.slice none 0 0) ∧ w = w') ∨ ∃ g cap, e = .returned (.slice (some ⟨g, 0, none⟩) l.length cap) ∧ Own w.heap.size (.slice (some ⟨g, 0, none⟩) l.length cap) l w' ∧ Q w w'
theorem sizeS : ∀ w, (Go.sizeOf 38).run Try.prog w = .ok 2 w := Try.sizeOf38
set_option maxHeartbeats 1000000 in
theorem clone_c (v : Value) (l : List P) (w : World) (hr : RdP w v l) (hl : l.length ≤ 1000000) : Calls Try.prog 40 #[v] w (ClonePost l w) := by
  obtain ⟨i0, hi, hz0, hz1, hz2⟩ := info_parts infoP
  by_cases h0 : 0 < l.length
  · obtain ⟨A, c, rfl, hc, h3⟩ := hr
    obtain ⟨b, off, rfl, hb, hcell⟩ := h3 h0
    have hcon := AnyE.slices_Clone Try.cloneS i0 (.agg #[.int .i64 0, .int .i64 0]) 2 16 hi hz0 hz1 hz2 rfl (by decide) sizeS b off l.length c (cellsL l) w (cellsL_len l) (by unfold maxLen; omega) (by omega) (fun j u hj => rdp_cells (n := l.length) ⟨_, c, rfl, hc, fun _ => ⟨b, off, rfl, hb, hcell⟩⟩ j u hj) (cellsL_one l)
    change Calls Try.prog 40 _ _ _ at hcon
    refine hcon.mono fun e w' ⟨v', he, ho, hne, hb⟩ => ?_
    have ho' : Own w.heap.size v' l w' := ho
    obtain ⟨g, cap, rfl, _, _, _⟩ := ho'.form h0
    exact .inr ⟨g, cap, he, ho', hb⟩
  · have hl0 : l = [] := List.eq_nil_of_length_eq_zero (by omega)
    subst hl0
    obtain ⟨A, c, rfl, hc, h3⟩ := hr
    rcases A with _ | a
    · have hcon := AnyE.slices_Clone_nil Try.cloneS 0 c w
      change Calls Try.prog 40 _ _ _ at hcon
      exact hcon.mono fun e w' ⟨he, hw⟩ => .inl ⟨rfl, he, hw.symm⟩
    · have q28 : ∀ (w : World) (a : Option Addr) (n c n' c' : Nat), (binOp .eql 22 (.slice a n c) (.slice none n' c')).run Try.prog w = .ok (.bool a.isNone) w := fun w a n c n' c' => Lib.run_eql_slice_nil w _ _ a n c n' c' Try.underlying22
      clear h3 hc hl h0
      go_enter Try.func40, Try.ntmps40
      go_wp2_with (at_builtin; refine wpList_append_own _ rfl _ _ 22 rfl w.heap.size 38 i0 (.agg #[.int .i64 0, .int .i64 0]) 2 16 Try.underlying22 hi hz0 hz1 hz2 rfl (by decide) _ _ _ rfl (World.ownsRow_made w #[] 0 (Nat.le_refl _) (Nat.zero_le _) (by simp)) a 0 c [] rfl rfl (fun j u hj => by simp at hj) (fun u hu => by cases hu) (by unfold maxLen; omega) (by omega) (by simp) ?_)
      intro v' w1 hown hgrow hnil
      go_wp2_with fail
      go_ret
      have ho' : Own w.heap.size v' [] w1 := hown
      have hq : Q w w1 := ((Below.refl _ w).alloc (Nat.le_refl _) _).grown hgrow (by simp) (by intro k hk; simp [Value.ownBlock] at hk; omega)
      obtain ⟨_, ⟨rfl, _⟩ | ⟨g, cap, cur, rfl, _⟩⟩ := hown
      · exact absurd rfl hnil
      · exact .inr ⟨g, cap, rfl, ho', hq⟩

/-- a world of the sort's, from below -/
theorem below_sorted {B : Nat} {w0 w : World} {g n : Nat} {d : Array P} (os : Array Obj) (h : Go.RowKit.Below B w0 w) (hB : B ≤ w.heap.size) (hg : B ≤ g) : Go.RowKit.Below B w0 (sortWorldK pc 2 w g 0 n d os) := by
  unfold sortWorldK
  have h1 : Go.RowKit.Below B w0 (putRowK pc 2 (Sort.ahead w n) g 0 d) := Lib.below_putRow (enc := id) h hg
  have h2 : B ≤ (putRowK pc 2 (Sort.ahead w n) g 0 d).heap.size := by
    unfold putRowK; rw [size_putRow]; exact hB
  have h3 := Lib.below_grow B (putRowK pc 2 (Sort.ahead w n) g 0 d) h2 0 os
  exact h1.trans h3
theorem holds_own {B : Nat} {g cap : Nat} {l : List P} {w : World} (h : Own B (.slice (some ⟨g, 0, none⟩) l.length cap) l w) : HoldsK pc 2 w g 0 l.toArray := by
  intro j hj
  rw [size_flatK] at hj
  have hjl : j < l.length * 2 := by simpa using hj
  have hil : j / 2 < l.length := by omega
  obtain ⟨c1, c2⟩ := cellsL_at l (j / 2) l[j / 2] (List.getElem?_eq_getElem hil)
  rw [Nat.zero_add, get_flatK pc 2 l.toArray j hj]
  refine ⟨?_, h.frozenAt j⟩
  rw [h.cellAt j (by omega)]
  have e : l.toArray[j / 2]! = l[j / 2] := by simp [hil]
  rw [e]
  obtain ⟨s, hs⟩ : ∃ s, l[j / 2] = s := ⟨_, rfl⟩
  rw [hs] at c1 c2 ⊢
  rcases Nat.mod_two_eq_zero_or_one j with m | m
  · rw [m]
    exact (congrArg (fun t => (cellsL l)[t]?) (show j = j / 2 * 2 by omega)).trans c1
  · rw [m]
    exact (congrArg (fun t => (cellsL l)[t]?) (show j = j / 2 * 2 + 1 by omega)).trans c2
/-- block g holds the cells C from its head on, and they may be written -/
def WrC (w : World) (b : Nat) (C : List Value) : Prop := b < w.heap.size ∧ ∀ j u, C[j]? = some u → w.cell? ⟨b, j, none⟩ = some u ∧ w.frozen? ⟨b, j, none⟩ = false
def Wr (w : World) (b : Nat) (l : List P) : Prop := WrC w b (cellsL l)
/-- what the sort leaves: a row that reads as the points in ascending order -/
def SortPost (g cap : Nat) (l : List P) (w : World) (e : Ending) (w' : World) : Prop :=
  ∃ p : List P, e = .returned (.tuple #[]) ∧ p = srt l ∧ Wr w' g p ∧ ∀ B, B ≤ g → B ≤ w.heap.size → Go.RowKit.Below B w w'
theorem sort_c (B g cap : Nat) (l : List P) (w : World) (ho : Own B (.slice (some ⟨g, 0, none⟩) l.length cap) l w) (hl : l.length ≤ 1000000) (hgw : g < w.heap.size) (hcap : l.length ≤ cap) :
    Calls Try.prog 47 #[.slice (some ⟨g, 0, none⟩) l.length cap, .func (.func 48) #[] #[]] w (SortPost g cap l w) := by
  have eg : ∀ args w, (callFunc 48 args).run Try.prog w = .ok (.enter 48 args) w := enters_of Try.func48 (by kernel_rfl) rfl
  have hH := holds_own ho
  have hcon := AnyQ.slices_SortFunc Try.sortS 2 Try.isAgg38 Try.sizeOf38 pc (fun _ => rfl) (fun x v hv => by simp [pc] at hv; rcases hv with rfl | rfl <;> rfl) cfP swoP 48 #[] g 0 cap l.toArray w eg (cmpLays g 0 l.toArray.size w) hH hgw (by simp; omega)
  change Calls Try.prog 47 _ _ _ at hcon
  have hsz : l.toArray.size = l.length := by simp
  rw [hsz] at hcon
  refine hcon.mono fun e w' ⟨he, d', n, os, hp, hs, hw⟩ => ?_
  obtain ⟨hp1, _, hp3⟩ := hp
  rw [hsz] at hp1
  have hpl : d'.toList.length = l.length := by rw [Array.length_toList]; exact hp1
  have ex : d'.toList.Perm l := by
    have h1 : d'.extract 0 l.length = d' := by rw [← hp1]; simp
    have h2 : l.toArray.extract 0 l.length = l.toArray := by simp
    rw [h1, h2] at hp3
    simpa using hp3
  refine ⟨d'.toList, he, srt_is ex ?_, ?_, fun B hB1 hB2 => ?_⟩
  · rw [List.pairwise_iff_getElem]
    intro i j hi hj hij
    have hj' : j < l.length := by omega
    have := hs i j (Nat.zero_le _) hij hj'
    rw [ltP] at this
    rw [getElem!_pos d' j (by omega), getElem!_pos d' i (by omega)] at this
    simpa [le] using this
  · have hH2 := holdsK_sortWorldK_c pc 2 w g 0 l.toArray d' n os hH hgw (by rw [hp1, hsz])
    rw [hw]
    refine ⟨Nat.lt_of_lt_of_le hgw (size_sortWorldK_c pc 2 w g 0 n d' os), fun j u hj => ?_⟩
    have hjl : j < (cellsL d'.toList).length := by
      rcases Nat.lt_or_ge j (cellsL d'.toList).length with k | k
      · exact k
      · rw [List.getElem?_eq_none k] at hj; cases hj
    rw [cellsL_len] at hjl
    have hil : j / 2 < d'.size := by rw [Array.length_toList] at hjl; omega
    have e2 : d'[j / 2]! = d'.toList[j / 2]'(by rw [Array.length_toList]; exact hil) := by rw [getElem!_pos d' (j / 2) hil]; simp
    obtain ⟨c1, c2⟩ := cellsL_at d'.toList (j / 2) _ (List.getElem?_eq_getElem (by rw [Array.length_toList]; exact hil))
    have k0 := hH2.cell hil (c := 0) (by omega)
    have k1 := hH2.cell hil (c := 1) (by omega)
    rw [e2] at k0 k1
    rcases Nat.mod_two_eq_zero_or_one j with m | m
    · have e : j = j / 2 * 2 := by omega
      rw [show (cellsL d'.toList)[j]? = _ from (congrArg (fun t => (cellsL d'.toList)[t]?) e).trans c1] at hj
      rw [show (0 + j / 2 * 2 + 0) = j by omega] at k0
      injection hj with hj
      rw [← hj]; exact ⟨k0.1, k0.2⟩
    · have e : j = j / 2 * 2 + 1 := by omega
      rw [show (cellsL d'.toList)[j]? = _ from (congrArg (fun t => (cellsL d'.toList)[t]?) e).trans c2] at hj
      rw [show (0 + j / 2 * 2 + 1) = j by omega] at k1
      injection hj with hj
      rw [← hj]; exact ⟨k1.1, k1.2⟩
  · rw [hw]; exact below_sorted os (Below.refl _ _) hB2 hB1
end Go.Proofs.Ytkkghejbdakmpaa
