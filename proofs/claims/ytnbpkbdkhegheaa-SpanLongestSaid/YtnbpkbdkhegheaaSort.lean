/- slices.Clone and slices.SortFunc at spans, as Canon calls them. -/
import Derived.Test.YtnbpkbdkhegheaaAdd
import Derived.Lib.OwnBridge
import Derived.Lib.AppendIntMem
set_option linter.unusedVariables false
set_option linter.unusedSimpArgs false
namespace Go.Proofs.Ytnbpkbdkhegheaa
open Go.ChangeShapes Go.WideShapes Go.ChangeAt Go.RowKit Go.Sort Go.Shelf Sm

def cfS (x y : S) : Int := Lib.compareInt x.1 y.1
theorem ltS (x y : S) : ltOf cfS x y = decide (x.1 < y.1) := by
  unfold ltOf cfS Lib.compareInt
  by_cases h1 : x.1 < y.1
  · simp [h1]
  · by_cases h2 : y.1 < x.1 <;> simp [h1, h2]
theorem swoS : SWO (ltOf cfS) where
  irrefl x := by rw [ltS]; simp
  trans x y z h1 h2 := by rw [ltS] at *; simp at *; omega
  ntrans x y z h1 h2 := by rw [ltS] at *; simp at *; omega
set_option maxHeartbeats 1000000 in
theorem closure_c (x y : S) (W : World) : Calls Try.prog 38 #[.agg (sp x).toArray, .agg (sp y).toArray] W fun e w' => e = .returned (.int .i64 (cfS x y)) ∧ ∃ q os', w' = grow (W.drewN q) os' := by
  have hcon := fun W' => AnyG.cmp_Compare_int Try.cmpInt x.1 y.1 W'
  change ∀ W', Calls Try.prog 39 _ _ _ at hcon
  unfold cfS sp
  generalize Lib.compareInt x.1 y.1 = r at hcon ⊢
  go_enter Try.func38, Try.ntmps38
  go_wp2_with (go_at_call 39; refine (hcon _).mono ?_; rintro e w' ⟨rfl, rfl⟩)
  go_ret
  exact ⟨rfl, 0, _, by rw [alloc_eq_grow, alloc_eq_grow, grow_grow]; rfl⟩
theorem cmpLays (blk off size : Nat) (w : World) : CmpLays Try.prog 38 #[] sp 2 cfS blk off size w := fun _ _ _ _ x y => closure_c x y _

theorem ins_nil (w : World) (f : Value) : Calls Try.prog 48 #[.slice none 0 0, .int .i64 0, .int .i64 0, f] w fun e w' => e = .returned (.tuple #[]) ∧ w = w' := by
  go_enter Try.func48, Try.ntmps48
  go_wp2_with fail
  refine wp_loop_rounds 1 ?_
  rw [rounds_succ]
  go_wp2_with fail
  go_end0
  exact ⟨rfl, rfl⟩
theorem pdq_nil (w : World) (n : Int) (f : Value) : Calls Try.prog 44 #[.slice none 0 0, .int .i64 0, .int .i64 0, .int .i64 n, f] w fun e w' => e = .returned (.tuple #[]) ∧ w = w' := by
  go_enter Try.func44, Try.ntmps44
  go_wp2_with fail
  refine wp_loop_rounds 1 ?_
  rw [rounds_succ]
  go_wp2_with fail
  refine (ins_nil _ _).mono ?_; rintro e w1 ⟨rfl, rfl⟩
  go_wp2_with fail
  exact bodyPost_ret (v := .tuple #[]) (by simp [results, Try.results44, go_sem]) rfl ⟨rfl, rfl⟩
theorem len_zero (w : World) : Calls Try.prog 45 #[.int .u64 0] w fun e w' => e = .returned (.int .i64 (Lib.bitLen 0 : Nat)) ∧ w = w' := by
  have h := Any.bits_Len (SlLaysF0.n15.bits (P := Try.prog) (ρ := Try.sortS_ren) { Try.sortS with }) (0 : Int) w (by omega) (by omega)
  change Calls Try.prog 45 _ _ _ at h
  exact h.mono fun _ _ ⟨a, b⟩ => ⟨a, b.symm⟩
theorem sort_nil (w : World) (f : Value) : Calls Try.prog 37 #[.slice none 0 0, f] w fun e w' => e = .returned (.tuple #[]) ∧ w = w' := by
  go_enter Try.func37, Try.ntmps37
  go_wp2_with fail
  refine (len_zero _).mono ?_; rintro e w1 ⟨rfl, rfl⟩
  go_wp2_with fail
  refine (pdq_nil _ _ _).mono ?_; rintro e w1 ⟨rfl, rfl⟩
  go_wp2_with fail
  go_end0
  exact ⟨rfl, rfl⟩
/-- a clone: nothing, or a row of the call's own -/
def ClonePost (l : List S) (w : World) (e : Ending) (w' : World) : Prop :=
  (l = [] ∧ e = .returned (.slice none 0 0) ∧ w = w') ∨ ∃ g cap, e = .returned (.slice (some ⟨g, 0, none⟩) l.length cap) ∧ Own w.heap.size (.slice (some ⟨g, 0, none⟩) l.length cap) l w' ∧ Q w w'
theorem sizeS : ∀ w, (Go.sizeOf 23).run Try.prog w = .ok 2 w := Try.sizeOf23
set_option maxHeartbeats 1000000 in
theorem clone_c (v : Value) (l : List S) (w : World) (hr : Rd w v l) (hl : l.length ≤ 1000000) : Calls Try.prog 36 #[v] w (ClonePost l w) := by
  obtain ⟨i0, hi, hz0, hz1, hz2⟩ := info_parts infoS
  by_cases h0 : 0 < l.length
  · obtain ⟨A, c, rfl, hc, h3⟩ := hr
    obtain ⟨b, off, rfl, hb, hcell⟩ := h3 h0
    have hcon := AnyE.slices_Clone Try.cloneS i0 (.agg #[.int .i64 0, .int .i64 0]) 2 16 hi hz0 hz1 hz2 rfl (by decide) sizeS b off l.length c (cellsL l) w (cellsL_len l) (by unfold maxLen; omega) (by omega) (fun j u hj => by
      have hjl : j < (cellsL l).length := by
        rcases Nat.lt_or_ge j (cellsL l).length with k | k
        · exact k
        · rw [List.getElem?_eq_none k] at hj; cases hj
      rw [cellsL_len] at hjl
      have hil : j / 2 < l.length := by omega
      have c1 := cellsL_at l (j / 2) l[j / 2] (List.getElem?_eq_getElem hil)
      have c2 := hcell (j / 2) l[j / 2] (List.getElem?_eq_getElem hil)
      rcases Nat.mod_two_eq_zero_or_one j with g | g
      · rw [show j = j / 2 * 2 by omega] at hj ⊢
        rw [c1.1] at hj; rw [c2.1, hj]
      · rw [show j = j / 2 * 2 + 1 by omega] at hj ⊢
        rw [c1.2] at hj; rw [← Nat.add_assoc, c2.2, hj]) (cellsL_one l)
    change Calls Try.prog 36 _ _ _ at hcon
    refine hcon.mono fun e w' ⟨v', he, ho, hne, hb⟩ => ?_
    have ho' : Own w.heap.size v' l w' := ho
    obtain ⟨g, cap, rfl, _, _, _⟩ := ho'.form h0
    exact .inr ⟨g, cap, he, ho', hb⟩
  · have hl0 : l = [] := List.eq_nil_of_length_eq_zero (by omega)
    subst hl0
    obtain ⟨A, c, rfl, hc, h3⟩ := hr
    rcases A with _ | a
    · have hcon := AnyE.slices_Clone_nil Try.cloneS 0 c w
      change Calls Try.prog 36 _ _ _ at hcon
      exact hcon.mono fun e w' ⟨he, hw⟩ => .inl ⟨rfl, he, hw.symm⟩
    · have q28 : ∀ (w : World) (a : Option Addr) (n c n' c' : Nat), (binOp .eql 28 (.slice a n c) (.slice none n' c')).run Try.prog w = .ok (.bool a.isNone) w := fun w a n c n' c' => Lib.run_eql_slice_nil w _ _ a n c n' c' Try.underlying28
      clear h3 hc hl h0
      go_enter Try.func36, Try.ntmps36
      go_wp2_with (at_builtin; refine wpList_append_own _ rfl _ _ 28 rfl w.heap.size 23 i0 (.agg #[.int .i64 0, .int .i64 0]) 2 16 Try.underlying28 hi hz0 hz1 hz2 rfl (by decide) _ _ _ rfl (World.ownsRow_made w #[] 0 (Nat.le_refl _) (Nat.zero_le _) (by simp)) a 0 c [] rfl rfl (fun j u hj => by simp at hj) (fun u hu => by cases hu) (by unfold maxLen; omega) (by omega) (by simp) ?_)
      intro v' w1 hown hgrow hnil
      go_wp2_with fail
      go_ret
      have ho' : Own w.heap.size v' [] w1 := hown
      have hq : Q w w1 := ((Below.refl _ w).alloc (Nat.le_refl _) _).grown hgrow (by simp) (by intro k hk; simp [Value.ownBlock] at hk; omega)
      obtain ⟨_, ⟨rfl, _⟩ | ⟨g, cap, cur, rfl, _⟩⟩ := hown
      · exact absurd rfl hnil
      · exact .inr ⟨g, cap, rfl, ho', hq⟩

/-- a world of the sort's, from below -/
theorem below_sorted {B : Nat} {w0 w : World} {g n : Nat} {d : Array S} (os : Array Obj) (h : Go.RowKit.Below B w0 w) (hB : B ≤ w.heap.size) (hg : B ≤ g) : Go.RowKit.Below B w0 (sortWorldK sp 2 w g 0 n d os) := by
  unfold sortWorldK
  have h1 : Go.RowKit.Below B w0 (putRowK sp 2 (Sort.ahead w n) g 0 d) := Lib.below_putRow (enc := id) h hg
  have h2 : B ≤ (putRowK sp 2 (Sort.ahead w n) g 0 d).heap.size := by
    unfold putRowK; rw [size_putRow]; exact hB
  have h3 := Lib.below_grow B (putRowK sp 2 (Sort.ahead w n) g 0 d) h2 0 os
  exact h1.trans h3
theorem holds_own {B : Nat} {g cap : Nat} {l : List S} {w : World} (h : Own B (.slice (some ⟨g, 0, none⟩) l.length cap) l w) : HoldsK sp 2 w g 0 l.toArray := by
  intro j hj
  rw [size_flatK] at hj
  have hjl : j < l.length * 2 := by simpa using hj
  have hil : j / 2 < l.length := by omega
  obtain ⟨c1, c2⟩ := cellsL_at l (j / 2) l[j / 2] (List.getElem?_eq_getElem hil)
  rw [Nat.zero_add, get_flatK sp 2 l.toArray j hj]
  refine ⟨?_, h.frozenAt j⟩
  rw [h.cellAt j (by omega)]
  have e : l.toArray[j / 2]! = l[j / 2] := by simp [hil]
  rw [e]
  obtain ⟨s, hs⟩ : ∃ s, l[j / 2] = s := ⟨_, rfl⟩
  rw [hs] at c1 c2 ⊢
  rcases Nat.mod_two_eq_zero_or_one j with m | m
  · rw [m]
    exact (congrArg (fun t => (cellsL l)[t]?) (show j = j / 2 * 2 by omega)).trans c1
  · rw [m]
    exact (congrArg (fun t => (cellsL l)[t]?) (show j = j / 2 * 2 + 1 by omega)).trans c2
/-- what the sort leaves: a row that reads as the spans in ascending order -/
def SortPost (g cap : Nat) (l : List S) (w : World) (e : Ending) (w' : World) : Prop :=
  ∃ p : List S, e = .returned (.tuple #[]) ∧ p.Perm l ∧ p.Pairwise (fun s t => s.1 ≤ t.1) ∧ Rd w' (.slice (some ⟨g, 0, none⟩) l.length cap) p ∧ ∀ B, B ≤ g → B ≤ w.heap.size → Go.RowKit.Below B w w'
theorem sort_c (B g cap : Nat) (l : List S) (w : World) (ho : Own B (.slice (some ⟨g, 0, none⟩) l.length cap) l w) (hl : l.length ≤ 1000000) (hgw : g < w.heap.size) (hcap : l.length ≤ cap) :
    Calls Try.prog 37 #[.slice (some ⟨g, 0, none⟩) l.length cap, .func (.func 38) #[] #[]] w (SortPost g cap l w) := by
  have eg : ∀ args w, (callFunc 38 args).run Try.prog w = .ok (.enter 38 args) w := enters_of Try.func38 (by kernel_rfl) rfl
  have hH := holds_own ho
  have hcon := AnyQ.slices_SortFunc Try.sortS 2 Try.isAgg23 Try.sizeOf23 sp (fun _ => rfl) (fun x v hv => by simp [sp] at hv; rcases hv with rfl | rfl <;> rfl) cfS swoS 38 #[] g 0 cap l.toArray w eg (cmpLays g 0 l.toArray.size w) hH hgw (by simp; omega)
  change Calls Try.prog 37 _ _ _ at hcon
  have hsz : l.toArray.size = l.length := by simp
  rw [hsz] at hcon
  refine hcon.mono fun e w' ⟨he, d', n, os, hp, hs, hw⟩ => ?_
  obtain ⟨hp1, _, hp3⟩ := hp
  rw [hsz] at hp1
  have hpl : d'.toList.length = l.length := by rw [Array.length_toList]; exact hp1
  have ex : d'.toList.Perm l := by
    have h1 : d'.extract 0 l.length = d' := by rw [← hp1]; simp
    have h2 : l.toArray.extract 0 l.length = l.toArray := by simp
    rw [h1, h2] at hp3
    simpa using hp3
  refine ⟨d'.toList, he, ex, ?_, ?_, fun B hB1 hB2 => ?_⟩
  · rw [List.pairwise_iff_getElem]
    intro i j hi hj hij
    have hj' : j < l.length := by omega
    have := hs i j (Nat.zero_le _) hij hj'
    rw [ltS] at this
    have h1 := of_decide_eq_false this
    rw [getElem!_pos d' j (by omega), getElem!_pos d' i (by omega)] at h1
    simp only [Array.getElem_toList]
    omega
  · have hH2 := holdsK_sortWorldK_c sp 2 w g 0 l.toArray d' n os hH hgw (by rw [hp1, hsz])
    rw [hw]
    refine ⟨_, cap, by rw [hpl], by rw [hpl]; exact hcap, fun _ => ⟨g, 0, rfl, Nat.lt_of_lt_of_le hgw (size_sortWorldK_c sp 2 w g 0 n d' os), fun i s hi => ?_⟩⟩
    have hil : i < d'.size := by
      rcases Nat.lt_or_ge i d'.toList.length with k | k
      · simpa using k
      · rw [List.getElem?_eq_none k] at hi; cases hi
    have e2 : d'[i]! = s := by
      rw [List.getElem?_eq_getElem (by simpa using hil)] at hi
      rw [getElem!_pos d' i hil]
      simpa using hi
    have c0 := (hH2.cell hil (c := 0) (by omega)).1
    have c1 := (hH2.cell hil (c := 1) (by omega)).1
    rw [e2] at c0 c1
    exact ⟨c0, c1⟩
  · rw [hw]; exact below_sorted os (Below.refl _ _) hB2 hB1
end Go.Proofs.Ytnbpkbdkhegheaa
