/- Points that come more than once change no hull: the hull of the different points in order is the hull. -/
import Derived.Test.YtkkghejbdakmpaaMath
set_option linter.unusedVariables false
set_option linter.unusedSimpArgs false
namespace Go.Proofs.Ytkkghejbdakmpaa
namespace Pm

/-- the different points of a list, those that follow an equal one left out -/
def ddF (l : List P) : List P := l.foldl (fun d x => if d.getLast? = some x then d else d ++ [x]) []
theorem ddF_snoc (l : List P) (q : P) : ddF (l ++ [q]) = if (ddF l).getLast? = some q then ddF l else ddF l ++ [q] := by unfold ddF; rw [List.foldl_append]; rfl
theorem snoc_ind {p : List P → Prop} (h0 : p []) (h1 : ∀ l q, p l → p (l ++ [q])) : ∀ l, p l := by
  intro l
  suffices ∀ n, ∀ l : List P, l.length = n → p l from this _ l rfl
  intro n
  induction n with
  | zero => intro l h; rw [List.eq_nil_of_length_eq_zero h]; exact h0
  | succ n ih =>
    intro l h
    obtain ⟨m, q, rfl⟩ : ∃ m q, l = m ++ [q] := ⟨l.dropLast, l.getLast (by intro e; subst e; simp at h), (List.dropLast_concat_getLast _).symm⟩
    exact h1 m q (ih m (by simp at h; exact h))
theorem ddF_mem (l : List P) : ∀ x, x ∈ ddF l ↔ x ∈ l := by
  refine snoc_ind (p := fun l => ∀ x, x ∈ ddF l ↔ x ∈ l) (fun x => Iff.rfl) (fun l q ih x => ?_) l
  rw [ddF_snoc]
  split
  · rename_i h
    have hq : q ∈ l := (ih q).1 (List.mem_of_getLast? h)
    rw [ih x, List.mem_append, List.mem_singleton]
    exact ⟨.inl, fun h => h.elim id fun e => e ▸ hq⟩
  · rw [List.mem_append, List.mem_append, ih x]
theorem ddF_len (l : List P) : (ddF l).length ≤ l.length := by
  refine snoc_ind (p := fun l => (ddF l).length ≤ l.length) (Nat.le_refl _) (fun l q ih => ?_) l
  rw [ddF_snoc, List.length_append, List.length_singleton]
  split
  · omega
  · rw [List.length_append, List.length_singleton]; omega
theorem ddF_pw {LE LT : P → P → Prop} (h1 : ∀ a b, LE a b → a ≠ b → LT a b) (h2 : ∀ a b, LT a b → ¬ LE b a) (l : List P) (h : l.Pairwise LE) : (ddF l).Pairwise LT := by
  revert h
  refine snoc_ind (p := fun l => l.Pairwise LE → (ddF l).Pairwise LT) (fun _ => .nil) (fun l q ih h => ?_) l
  obtain ⟨hl, _, hq⟩ := List.pairwise_append.1 h
  have ihl := ih hl
  rw [ddF_snoc]
  split
  · exact ihl
  · rename_i hne
    refine List.pairwise_append.2 ⟨ihl, List.pairwise_singleton _ _, fun x hx y hy => ?_⟩
    rw [List.mem_singleton.1 hy]
    refine h1 x q (hq x ((ddF_mem l x).1 hx) q (by simp)) fun e => ?_
    subst e
    have hn : ddF l ≠ [] := by intro e; rw [e] at hx; cases hx
    obtain ⟨m, z, hz⟩ : ∃ m z, ddF l = m ++ [z] := ⟨_, _, (List.dropLast_concat_getLast hn).symm⟩
    rw [hz] at hx hne ihl
    rw [List.getLast?_append] at hne
    rcases List.mem_append.1 hx with e | e
    · have hlt := (List.pairwise_append.1 ihl).2.2 x e z (by simp)
      refine h2 x z hlt (hq z ((ddF_mem l z).1 (by rw [hz]; simp)) x (by simp))
    · rw [List.mem_singleton] at e
      apply hne; rw [e]; rfl
/-- two lists in the same strict order with the same members are the same -/
theorem ss_eq {R : P → P → Prop} (hR : ∀ a b, R a b → ¬ R b a) : ∀ a b : List P, a.Pairwise R → b.Pairwise R → (∀ x, x ∈ a ↔ x ∈ b) → a = b
  | [], [], _, _, _ => rfl
  | [], y :: b, _, _, h => by have := (h y).2 (by simp); cases this
  | x :: a, [], _, _, h => by have := (h x).1 (by simp); cases this
  | x :: a, y :: b, ha, hb, h => by
    obtain ⟨a1, a2⟩ := List.pairwise_cons.1 ha
    obtain ⟨b1, b2⟩ := List.pairwise_cons.1 hb
    have e : x = y := by
      rcases List.mem_cons.1 ((h x).1 (by simp)) with e | e
      · exact e
      · rcases List.mem_cons.1 ((h y).2 (by simp)) with e2 | e2
        · exact e2.symm
        · exact absurd (a1 y e2) (hR _ _ (b1 x e))
    subst e
    rw [ss_eq hR a b a2 b2 fun z => ⟨fun hz => ?_, fun hz => ?_⟩]
    · rcases List.mem_cons.1 ((h z).1 (List.mem_cons_of_mem _ hz)) with e | e
      · subst e; exact absurd (a1 z hz) (hR _ _ (a1 z hz))
      · exact e
    · rcases List.mem_cons.1 ((h z).2 (List.mem_cons_of_mem _ hz)) with e | e
      · subst e; exact absurd (b1 z hz) (hR _ _ (b1 z hz))
      · exact e
theorem bef_asym {a b : P} (h : bef a b = true) : ¬ bef b a = true := by rw [bef_iff] at *; omega
theorem le_lt {a b : P} (h : le a b) (hne : a ≠ b) : bef a b = true := by
  unfold le at h; rw [bef_no] at h; rw [bef_iff]
  have : ¬ (a.1 = b.1 ∧ a.2 = b.2) := fun e => hne (Prod.ext e.1 e.2)
  omega
theorem lt_nle {a b : P} (h : bef a b = true) : ¬ le b a := by unfold le; rw [h]; simp
/-- insertion in order, not if it is there -/
def insD (x : P) : List P → List P
  | [] => [x]
  | y :: l => if bef y x then y :: insD x l else if y = x then y :: l else x :: y :: l
def srtD (l : List P) : List P := l.foldl (fun s x => insD x s) []
theorem srtD_snoc (l : List P) (q : P) : srtD (l ++ [q]) = insD q (srtD l) := by unfold srtD; rw [List.foldl_append]; rfl
theorem insD_mem (x : P) : ∀ (l : List P) z, z ∈ insD x l ↔ z = x ∨ z ∈ l
  | [], z => by simp [insD]
  | y :: l, z => by
    unfold insD
    split
    · rw [List.mem_cons, insD_mem x l z, List.mem_cons]
      constructor
      · rintro (h | h | h)
        · exact .inr (.inl h)
        · exact .inl h
        · exact .inr (.inr h)
      · rintro (h | h | h)
        · exact .inr (.inl h)
        · exact .inl h
        · exact .inr (.inr h)
    · split
      · rename_i e; subst e
        constructor
        · exact .inr
        · rintro (h | h)
          · rw [h]; simp
          · exact h
      · rw [List.mem_cons]
theorem insD_pw (x : P) : ∀ l : List P, l.Pairwise (fun a b => bef a b = true) → (insD x l).Pairwise (fun a b => bef a b = true)
  | [], _ => List.pairwise_singleton _ _
  | y :: l, h => by
    obtain ⟨h1, h2⟩ := List.pairwise_cons.1 h
    unfold insD
    split
    · rename_i hb
      refine List.pairwise_cons.2 ⟨fun z hz => ?_, insD_pw x l h2⟩
      rcases (insD_mem x l z).1 hz with e | e
      · rw [e]; exact hb
      · exact h1 z e
    · rename_i hb
      split
      · exact h
      · rename_i hne
        have hxy : bef x y = true := le_lt (by unfold le; simpa using hb) (fun e => hne e.symm)
        refine List.pairwise_cons.2 ⟨fun z hz => ?_, h⟩
        rcases List.mem_cons.1 hz with e | e
        · rw [e]; exact hxy
        · have := h1 z e
          rw [bef_iff] at *; omega
theorem srtD_spec (l : List P) : (srtD l).Pairwise (fun a b => bef a b = true) ∧ ∀ x, x ∈ srtD l ↔ x ∈ l := by
  refine snoc_ind (p := fun l => (srtD l).Pairwise (fun a b => bef a b = true) ∧ ∀ x, x ∈ srtD l ↔ x ∈ l) ⟨.nil, fun x => Iff.rfl⟩ (fun l q ih => ?_) l
  rw [srtD_snoc]
  refine ⟨insD_pw q _ ih.1, fun x => ?_⟩
  rw [insD_mem, ih.2 x, List.mem_append, List.mem_singleton]
  exact Or.comm
theorem insD_len (x : P) : ∀ l : List P, (insD x l).length ≤ l.length + 1
  | [] => Nat.le_refl _
  | y :: l => by
    unfold insD
    split
    · have := insD_len x l; simp; omega
    · split
      · simp
      · exact Nat.le_refl _
theorem srtD_len (l : List P) : (srtD l).length ≤ l.length := by
  refine snoc_ind (p := fun l => (srtD l).length ≤ l.length) (Nat.le_refl _) (fun l q ih => ?_) l
  rw [srtD_snoc, List.length_append, List.length_singleton]
  have := insD_len q (srtD l); omega
theorem ddF_srt (l : List P) : ddF (srt l) = srtD l :=
  ss_eq (R := fun a b => bef a b = true) (fun a b h => bef_asym h) _ _ (ddF_pw (LE := le) (fun a b => le_lt) (fun a b => lt_nle) _ (srt_pw l)) (srtD_spec l).1 fun x => by
    rw [ddF_mem, (srtD_spec l).2 x]; exact (srt_perm l).mem_iff
theorem ddF_rev (l : List P) : ddF (srt l).reverse = (srtD l).reverse :=
  ss_eq (R := fun a b => bef b a = true) (fun a b h => bef_asym h) _ _ (ddF_pw (LE := fun a b => le b a) (LT := fun a b => bef b a = true) (fun a b h hne => le_lt h (fun e => hne e.symm)) (fun a b h => lt_nle h) _ (List.pairwise_reverse.2 (srt_pw l)))
    (List.pairwise_reverse.2 (srtD_spec l).1) fun x => by
    rw [ddF_mem, List.mem_reverse, List.mem_reverse, (srtD_spec l).2 x]; exact (srt_perm l).mem_iff
/-! the ways -/
theorem crs_self (a q : P) : crs a q q = 0 := by unfold crs; rw [Int.mul_comm]; omega
theorem crs_two (q p : P) : crs q q p = 0 := by unfold crs; simp
theorem pop_pop (q : P) : ∀ s : List P, pop q (pop q s) = pop q s
  | [] => rfl
  | [a] => rfl
  | b :: a :: r => by
    by_cases h : crs a b q ≤ 0
    · have e : pop q (b :: a :: r) = pop q (a :: r) := by rw [pop, if_pos h]
      rw [e]; exact pop_pop q (a :: r)
    · have e : pop q (b :: a :: r) = b :: a :: r := by rw [pop, if_neg h]
      rw [e, e]
theorem pop_top {q : P} : ∀ {r : List P}, r ≠ [] → pop q r = r → pop q (q :: r) = r
  | [], h, _ => absurd rfl h
  | b :: r, _, h => by rw [pop, if_pos (by rw [crs_self]; exact Int.le_refl 0)]; exact h
structure Way (l : List P) : Prop where
  same : chR l = chR (ddF l) ∨ ∃ q, chR l = [q, q] ∧ chR (ddF l) = [q]
  head : (chR (ddF l)).head? = (ddF l).getLast?
  stab : ∀ q r, chR (ddF l) = q :: r → pop q r = r
theorem way (l : List P) : Way l := by
  refine snoc_ind (p := Way) ⟨.inl rfl, rfl, fun q r h => by cases h⟩ (fun l q ih => ?_) l
  by_cases e : (ddF l).getLast? = some q
  · have ed : ddF (l ++ [q]) = ddF l := by rw [ddF_snoc, if_pos e]
    refine ⟨?_, by rw [ed]; exact ih.head, by rw [ed]; exact ih.stab⟩
    rw [ed, chR_snoc]
    have hh := ih.head
    rw [e] at hh
    obtain ⟨r, hr⟩ : ∃ r, chR (ddF l) = q :: r := by
      cases hc : chR (ddF l) with
      | nil => rw [hc] at hh; cases hh
      | cons a r => rw [hc] at hh; have : a = q := Option.some.inj hh; exact ⟨r, by rw [this]⟩
    have hs := ih.stab q r hr
    rcases ih.same with h | ⟨p, h1, h2⟩
    · rw [h, hr]
      by_cases hn : r = []
      · subst hn; exact .inr ⟨q, rfl, rfl⟩
      · rw [pop_top hn hs]; exact .inl rfl
    · rw [hr] at h2
      injection h2 with h3 h4
      subst h3 h4
      rw [h1]
      refine .inr ⟨q, ?_, hr⟩
      rw [pop, if_pos (by rw [crs_two]; exact Int.le_refl 0)]; rfl
  · have ed : ddF (l ++ [q]) = ddF l ++ [q] := by rw [ddF_snoc, if_neg e]
    refine ⟨?_, ?_, ?_⟩
    · rw [ed, chR_snoc, chR_snoc]
      rcases ih.same with h | ⟨p, h1, h2⟩
      · rw [h]; exact .inl rfl
      · rw [h1, h2]
        left
        rw [pop, if_pos (by rw [crs_two]; exact Int.le_refl 0)]
    · rw [ed, chR_snoc, List.getLast?_append]; rfl
    · intro p r h
      rw [ed, chR_snoc] at h
      injection h with h1 h2
      subst h1
      rw [← h2]; exact pop_pop _ _
theorem chR_two {l : List P} (h : 2 ≤ l.length) : 2 ≤ (chR l).length := by
  obtain ⟨m, q, rfl⟩ : ∃ m q, l = m ++ [q] := ⟨l.dropLast, l.getLast (by intro e; subst e; simp at h), (List.dropLast_concat_getLast _).symm⟩
  rw [List.length_append, List.length_singleton] at h
  obtain ⟨m2, q2, rfl⟩ : ∃ m2 q2, m = m2 ++ [q2] := ⟨m.dropLast, m.getLast (by intro e; subst e; simp at h), (List.dropLast_concat_getLast _).symm⟩
  rw [chR_snoc, chR_snoc]
  have : pop q (q2 :: pop q2 (chR m2)) ≠ [] := by
    suffices ∀ s : List P, s ≠ [] → pop q s ≠ [] from this _ (by simp)
    intro s
    induction s with
    | nil => intro h; exact absurd rfl h
    | cons b r ih =>
      intro _
      cases r with
      | nil => intro e; cases e
      | cons a r =>
        rw [pop]; split
        · exact ih (by simp)
        · simp
  have := List.length_pos_iff.2 this
  rw [List.length_cons]; omega
/-- the reference's hull -/
def hulD (l : List P) : List P := (chn (srtD l)).dropLast ++ (chn (srtD l).reverse).dropLast
def hullD (l : List P) : List P := if 32 < l.length then [] else if rng l then (if (chn (srtD l)).length + (chn (srtD l).reverse).length < 5 then [] else hulD l) else []
theorem chn_length (l : List P) : (chn l).length = (chR l).length := by unfold chn; rw [List.length_reverse]
theorem hull_same (l : List P) : hull l = hullD l := by
  unfold hull hullD
  by_cases h32 : 32 < l.length
  · rw [if_pos h32]; split <;> rfl
  · rw [if_neg h32]
    have L1 := chR_len (srtD l)
    have L2 := chR_len (srtD l).reverse
    have L3 := srtD_len l
    rw [List.length_reverse] at L2
    by_cases h3 : l.length < 3
    · rw [if_pos h3]
      rw [chn_length, chn_length, if_pos (show (chR (srtD l)).length + (chR (srtD l).reverse).length < 5 by omega)]
      simp
    · rw [if_neg h3, if_neg h32]
      split
      · have w1 := (way (srt l)).same
        have w2 := (way (srt l).reverse).same
        rw [ddF_srt] at w1
        rw [ddF_rev] at w2
        have hl : (hul l).length = ((chR (srt l)).length - 1) + ((chR (srt l).reverse).length - 1) := by
          unfold hul; rw [List.length_append, List.length_dropLast, List.length_dropLast, chn_length, chn_length]
        have few : (srtD l).length ≤ 1 → (hul l).length < 3 ∧ (chR (srtD l)).length + (chR (srtD l).reverse).length < 5 := fun h1 => by
          refine ⟨?_, by omega⟩
          rw [hl]
          have a1 : (chR (srt l)).length ≤ 2 := by
            rcases w1 with e | ⟨q, e, _⟩
            · rw [e]; omega
            · rw [e]; exact Nat.le_refl 2
          have a2 : (chR (srt l).reverse).length ≤ 2 := by
            rcases w2 with e | ⟨q, e, _⟩
            · rw [e]; omega
            · rw [e]; exact Nat.le_refl 2
          omega
        rw [chn_length, chn_length]
        by_cases h1 : (srtD l).length ≤ 1
        · rw [if_pos (few h1).1, if_pos (few h1).2]
        · have t1 := chR_two (l := srtD l) (by omega)
          have t2 := chR_two (l := (srtD l).reverse) (by rw [List.length_reverse]; omega)
          have e1 : chR (srt l) = chR (srtD l) := by
            rcases w1 with e | ⟨q, _, e⟩
            · exact e
            · rw [e] at t1; exact absurd t1 (show ¬ 2 ≤ 1 by decide)
          have e2 : chR (srt l).reverse = chR (srtD l).reverse := by
            rcases w2 with e | ⟨q, _, e⟩
            · exact e
            · rw [e] at t2; exact absurd t2 (show ¬ 2 ≤ 1 by decide)
          have eh : hul l = hulD l := by unfold hul hulD chn; rw [e1, e2]
          rw [e1, e2] at hl
          rw [eh] at hl ⊢
          by_cases h5 : (chR (srtD l)).length + (chR (srtD l).reverse).length < 5
          · rw [if_pos (by omega), if_pos h5]
          · rw [if_neg (by omega), if_neg h5]
      · rfl
end Pm
end Go.Proofs.Ytkkghejbdakmpaa
