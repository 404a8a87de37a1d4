/- The geometry of a way that only turns to the left: all points lie to the left of each of its edges. -/
import Derived.Test.YtkkghejbdakmpaaHullM
set_option linter.unusedVariables false
set_option linter.unusedSimpArgs false
namespace Go.Proofs.Ytkkghejbdakmpaa
namespace Pm

/-- the product of two vectors: above 0 if the second one lies to the left of the first one -/
def cx (u v : P) : Int := u.1 * v.2 - u.2 * v.1
def sb (a b : P) : P := (b.1 - a.1, b.2 - a.2)
/-- a vector that leads forwards in the order of the points, or 0 -/
def fw (u : P) : Prop := 0 < u.1 ∨ (u.1 = 0 ∧ 0 ≤ u.2)
def fwp (u : P) : Prop := 0 < u.1 ∨ (u.1 = 0 ∧ 0 < u.2)
theorem crs_cx (a b q : P) : crs a b q = cx (sb a b) (sb a q) := by unfold crs cx sb; rfl
theorem cx_id (u v w : P) : cx u w * v.1 = cx u v * w.1 + cx v w * u.1 := by
  unfold cx
  obtain ⟨a, b⟩ := u; obtain ⟨c, d⟩ := v; obtain ⟨e, f⟩ := w
  dsimp only
  rw [Int.sub_mul, Int.sub_mul, Int.sub_mul]
  have h1 : a * f * c = c * f * a := by rw [Int.mul_comm a f, Int.mul_assoc, Int.mul_comm a c, ← Int.mul_assoc, Int.mul_comm f c]
  have h2 : b * e * c = b * c * e := by rw [Int.mul_assoc, Int.mul_comm e c, ← Int.mul_assoc]
  have h3 : a * d * e = d * e * a := by rw [Int.mul_assoc, Int.mul_comm a (d * e)]
  rw [h1, h2, h3]; omega
theorem cx_anti (u v : P) : cx u v = - cx v u := by
  unfold cx
  rw [Int.mul_comm u.1 v.2, Int.mul_comm u.2 v.1]; omega
/-- the order of directions is transitive among vectors that lead forwards -/
theorem cx_trans {u v w : P} (hu : fw u) (hv : fwp v) (hw : fw w) (h1 : 0 ≤ cx u v) (h2 : 0 ≤ cx v w) : 0 ≤ cx u w := by
  have hu1 : 0 ≤ u.1 := by unfold fw at hu; omega
  have hw1 : 0 ≤ w.1 := by unfold fw at hw; omega
  rcases hv with hv | ⟨hv, hv2⟩
  · have e := cx_id u v w
    have a := Int.mul_nonneg h1 hw1
    have b := Int.mul_nonneg h2 hu1
    rcases Int.lt_or_le (cx u w) 0 with c | c
    · have := Int.mul_neg_of_neg_of_pos c hv; omega
    · exact c
  · have e : cx v w = -(v.2 * w.1) := by unfold cx; rw [hv]; omega
    have e0 : w.1 = 0 := by
      rcases Int.lt_or_le 0 w.1 with c | c
      · have := Int.mul_pos hv2 c; omega
      · omega
    have hw2 : 0 ≤ w.2 := by unfold fw at hw; omega
    have e2 : cx u w = u.1 * w.2 := by unfold cx; rw [e0]; omega
    rw [e2]; exact Int.mul_nonneg hu1 hw2
/-- strictly -/
theorem cx_transP {u v w : P} (hu : fwp u) (hv : fwp v) (hw : fwp w) (h1 : 0 < cx u v) (h2 : 0 < cx v w) : 0 < cx u w := by
  have hu1 : 0 ≤ u.1 := by unfold fwp at hu; omega
  have hw1 : 0 ≤ w.1 := by unfold fwp at hw; omega
  rcases hv with hv | ⟨hv, hv2⟩
  · have e := cx_id u v w
    have hup : 0 < u.1 := by
      rcases hu with c | ⟨c, c2⟩
      · exact c
      · have e2 : cx u v = -(u.2 * v.1) := by unfold cx; rw [c]; omega
        have := Int.mul_pos c2 hv; omega
    have a := Int.mul_nonneg (Int.le_of_lt h1) hw1
    have b := Int.mul_pos h2 hup
    rcases Int.lt_or_le 0 (cx u w) with c | c
    · exact c
    · have := Int.mul_nonneg (show 0 ≤ -(cx u w) by omega) (Int.le_of_lt hv)
      rw [Int.neg_mul] at this; omega
  · have e : cx v w = -(v.2 * w.1) := by unfold cx; rw [hv]; omega
    have := Int.mul_nonneg (Int.le_of_lt hv2) hw1
    omega
theorem fw_sb {a b : P} (h : le a b) : fw (sb a b) := by
  unfold le at h; rw [bef_no] at h; unfold fw sb; dsimp only; omega
theorem fwp_sb {a b : P} (h : bef a b = true) : fwp (sb a b) := by
  rw [bef_iff] at h; unfold fwp sb; dsimp only; omega
theorem sb_cx (a b c : P) : cx (sb a b) (sb a c) = cx (sb a b) (sb b c) := by
  unfold cx sb
  dsimp only
  have h1 : c.2 - a.2 = (c.2 - b.2) + (b.2 - a.2) := by omega
  have h2 : c.1 - a.1 = (c.1 - b.1) + (b.1 - a.1) := by omega
  rw [h1, h2, Int.mul_add, Int.mul_add, Int.mul_comm (b.2 - a.2) (b.1 - a.1)]; omega
theorem crs_next (a b c : P) : crs a b c = cx (sb a b) (sb b c) := by rw [crs_cx, sb_cx]
/-- crs is the same for the three points in a round -/
theorem crs_round (a b c : P) : crs a b c = crs b c a := by
  rw [crs_next, crs_cx, cx_anti]
  unfold cx sb
  dsimp only
  rw [show a.2 - b.2 = -(b.2 - a.2) by omega, show a.1 - b.1 = -(b.1 - a.1) by omega, Int.mul_neg, Int.mul_neg]; omega
theorem crs_swap (a b c : P) : crs a b c = - crs a c b := by rw [crs_cx, crs_cx, cx_anti]
/-- p ahead of t, on the left of the edge to t; the way turns left at t towards q: p is on the left of the next edge -/
theorem left_back {s t q p : P} (h1 : bef s t = true) (h2 : bef t q = true) (hp : le p t) (hl : 0 ≤ crs s t p) (hq : 0 < crs s t q) : 0 ≤ crs t q p := by
  have a : 0 ≤ cx (sb p t) (sb s t) := by
    rw [crs_round, crs_cx] at hl
    have : cx (sb t p) (sb t s) = cx (sb p t) (sb s t) := by
      unfold cx sb; dsimp only
      rw [show p.1 - t.1 = -(t.1 - p.1) by omega, show p.2 - t.2 = -(t.2 - p.2) by omega, show s.1 - t.1 = -(t.1 - s.1) by omega, show s.2 - t.2 = -(t.2 - s.2) by omega, Int.neg_mul_neg, Int.neg_mul_neg]
    rw [this] at hl; exact hl
  have b : 0 ≤ cx (sb s t) (sb t q) := by rw [crs_next] at hq; omega
  have c := cx_trans (fw_sb hp) (fwp_sb h1) (fw_sb (show le t q by unfold le; exact (bef_no _ _).2 (by rw [bef_iff] at h2; omega))) a b
  rw [← crs_round, crs_next]; exact c
/-- a and b follow each other, b is popped for q; p between a and b on the left of their edge: on the left of the way from a to q -/
theorem left_mid {a b q p : P} (h1 : bef a b = true) (h2 : le b q) (hp : le a p) (hl : 0 ≤ crs a b p) (hq : crs a b q ≤ 0) : 0 ≤ crs a q p := by
  have e1 : 0 ≤ cx (sb a q) (sb a b) := by rw [crs_swap, crs_cx] at hq; omega
  have e2 : 0 ≤ cx (sb a b) (sb a p) := by rw [crs_cx] at hl; exact hl
  have hab : le a b := by unfold le; exact (bef_no _ _).2 (by rw [bef_iff] at h1; omega)
  rw [crs_cx]
  exact cx_trans (fw_sb (le_trans hab h2)) (fwp_sb h1) (fw_sb hp) e1 e2
/-- the same for p from b on -/
theorem left_far {a b q p : P} (h1 : bef a b = true) (h2 : bef b q = true) (hp : le b p) (hpq : le p q) (hl : 0 ≤ crs b q p) (hq : crs a b q ≤ 0) : 0 ≤ crs a q p := by
  have e1 : 0 ≤ cx (sb p q) (sb b q) := by
    rw [crs_round, crs_cx] at hl
    have : cx (sb q p) (sb q b) = cx (sb p q) (sb b q) := by
      unfold cx sb; dsimp only
      rw [show p.1 - q.1 = -(q.1 - p.1) by omega, show p.2 - q.2 = -(q.2 - p.2) by omega, show b.1 - q.1 = -(q.1 - b.1) by omega, show b.2 - q.2 = -(q.2 - b.2) by omega, Int.neg_mul_neg, Int.neg_mul_neg]
    rw [this] at hl; exact hl
  have e2 : 0 ≤ cx (sb b q) (sb a b) := by rw [crs_next, cx_anti] at hq; omega
  have hab : le a b := by unfold le; exact (bef_no _ _).2 (by rw [bef_iff] at h1; omega)
  have e3 := cx_trans (fw_sb hpq) (fwp_sb h2) (fw_sb hab) e1 e2
  have e4 : 0 ≤ cx (sb p q) (sb b p) := by
    rw [crs_swap, crs_next] at hl
    rw [cx_anti]; exact hl
  have e5 : crs a q p = cx (sb p q) (sb a b) + cx (sb p q) (sb b p) := by
    rw [crs_swap, crs_next, cx_anti]
    unfold cx sb; dsimp only
    rw [show p.1 - a.1 = (b.1 - a.1) + (p.1 - b.1) by omega, show p.2 - a.2 = (b.2 - a.2) + (p.2 - b.2) by omega, Int.mul_add, Int.mul_add]; omega
  omega
/-! the invariant of a way: its last point first -/
def edg (E : P → P → Prop) : List P → Prop
  | b :: a :: r => E a b ∧ edg E (a :: r)
  | _ => True
def trn : List P → Prop
  | c :: b :: a :: r => 0 < crs a b c ∧ trn (b :: a :: r)
  | _ => True
def EdL (D : List P) (a b : P) : Prop := bef a b = true ∧ ∀ p, p ∈ D → 0 ≤ crs a b p
structure JW (D S : List P) : Prop where
  hd : S.head? = D.getLast?
  bot : S.getLast? = D.head?
  ed : edg (EdL D) S
  tr : trn S
theorem edg_imp {E F : P → P → Prop} (h : ∀ a b, E a b → F a b) : ∀ {S : List P}, edg E S → edg F S
  | [], _ => trivial
  | [a], _ => trivial
  | b :: a :: r, ⟨h1, h2⟩ => ⟨h a b h1, edg_imp h h2⟩
/-- a way that turns to the left turns to the left towards q at each of its edges, if it does at the last one -/
theorem turn_all {D : List P} {q : P} : ∀ {S : List P}, edg (EdL D) S → trn S → (∀ b a r, S = b :: a :: r → 0 < crs a b q ∧ bef b q = true) → edg (fun a b => 0 < crs a b q) S
  | [], _, _, _ => trivial
  | [a], _, _, _ => trivial
  | [b, a], _, _, h => ⟨(h b a [] rfl).1, trivial⟩
  | t :: a :: z :: r, ⟨e1, e2⟩, ⟨t1, t2⟩, h => by
    obtain ⟨h1, h2⟩ := h t a (z :: r) rfl
    obtain ⟨e3, _⟩ := e2
    have haq : bef a q = true := by rw [bef_iff]; have := e1.1; rw [bef_iff] at this h2; omega
    have x1 : 0 < cx (sb z a) (sb a t) := by rw [crs_next] at t1; exact t1
    have x2 : 0 < cx (sb a t) (sb t q) := by rw [crs_next] at h1; exact h1
    have x3 := cx_transP (fwp_sb e3.1) (fwp_sb e1.1) (fwp_sb h2) x1 x2
    have x4 : crs z a q = cx (sb z a) (sb a t) + cx (sb z a) (sb t q) := by
      rw [crs_next]; unfold cx sb; dsimp only
      rw [show q.1 - a.1 = (t.1 - a.1) + (q.1 - t.1) by omega, show q.2 - a.2 = (t.2 - a.2) + (q.2 - t.2) by omega, Int.mul_add, Int.mul_add]; omega
    exact ⟨h1, turn_all (S := a :: z :: r) ⟨e3, by assumption⟩ t2 (fun b' a' r' e => by
      injection e with e4 e5; injection e5 with e5 e6
      subst e4 e5
      exact ⟨by omega, haq⟩)⟩
theorem edg_snoc {D : List P} {q : P} : ∀ {S : List P}, edg (EdL D) S → edg (fun a b => 0 < crs a b q) S → edg (EdL (D ++ [q])) S
  | [], _, _ => trivial
  | [a], _, _ => trivial
  | b :: a :: r, ⟨h1, h2⟩, ⟨k1, k2⟩ => ⟨⟨h1.1, fun p hp => by
      rcases List.mem_append.1 hp with e | e
      · exact h1.2 p e
      · rw [List.mem_singleton.1 e]; exact Int.le_of_lt k1⟩, edg_snoc h2 k2⟩
theorem pop_J {D : List P} {q : P} (hq : ∀ p, p ∈ D → bef p q = true) (hmin : ∀ m, D.head? = some m → ∀ p, p ∈ D → le m p) :
    ∀ {S : List P}, S ≠ [] → (∀ x, x ∈ S → x ∈ D) → edg (EdL D) S → trn S → (∀ b r, S = b :: r → ∀ p, p ∈ D → le b p → 0 ≤ crs b q p) → S.getLast? = D.head? → JW (D ++ [q]) (q :: pop q S)
  | [], h, _, _, _, _, _ => absurd rfl h
  | [b], _, hS, _, _, hF, hb => by
    have hbD := hS b (by simp)
    have hb' : D.head? = some b := hb.symm
    refine ⟨by rw [List.getLast?_append]; rfl, ?_, ⟨⟨hq b hbD, fun p hp => ?_⟩, trivial⟩, trivial⟩
    · rw [List.head?_append, hb']; rfl
    · rcases List.mem_append.1 hp with e | e
      · exact hF b [] rfl p e (hmin b hb' p e)
      · rw [List.mem_singleton.1 e, crs_self]; exact Int.le_refl 0
  | b :: a :: r, _, hS, ⟨e1, e2⟩, ht, hF, hb => by
    have hbD := hS b (by simp)
    have haD := hS a (by simp)
    by_cases h : crs a b q ≤ 0
    · rw [pop, if_pos h]
      refine pop_J hq hmin (S := a :: r) (by simp) (fun x hx => hS x (List.mem_cons_of_mem _ hx)) e2 ?_ (fun b' r' e p hp hle => ?_) ?_
      · cases r with
        | nil => trivial
        | cons z r => exact ht.2
      · injection e with e3 e4
        subst e3
        by_cases hbp : le b p
        · have hpq : le p q := by unfold le; exact (bef_no _ _).2 (by have := hq p hp; rw [bef_iff] at this; omega)
          exact left_far e1.1 (hq b hbD) hbp hpq (hF b _ rfl p hp hbp) h
        · have hpb : le p b := by rcases le_total b p with k | k; exact absurd k hbp; exact k
          have hbq : le b q := by unfold le; exact (bef_no _ _).2 (by have := hq b hbD; rw [bef_iff] at this; omega)
          exact left_mid e1.1 hbq hle (e1.2 p hp) h
      · rw [← hb, List.getLast?_cons_cons]
    · have hp0 : 0 < crs a b q := by omega
      rw [pop, if_neg h]
      have hne : D ≠ [] := by intro e; rw [e] at hbD; cases hbD
      have hall := turn_all (q := q) (S := b :: a :: r) ⟨e1, e2⟩ ht (fun b' a' r' e => by
        injection e with e3 e4; injection e4 with e4 e5
        subst e3 e4; exact ⟨hp0, hq b hbD⟩)
      refine ⟨by rw [List.getLast?_append]; rfl, ?_, ⟨⟨hq b hbD, fun p hp => ?_⟩, edg_snoc ⟨e1, e2⟩ hall⟩, ⟨hp0, ht⟩⟩
      · rw [List.getLast?_cons_cons, hb, List.head?_append]
        cases hD : D with
        | nil => exact absurd hD hne
        | cons d D' => rfl
      · rcases List.mem_append.1 hp with e | e
        · by_cases hbp : le b p
          · exact hF b _ rfl p e hbp
          · have hpb : le p b := by rcases le_total b p with k | k; exact absurd k hbp; exact k
            exact left_back e1.1 (hq b hbD) hpb (e1.2 p e) hp0
        · rw [List.mem_singleton.1 e, crs_self]; exact Int.le_refl 0
theorem bef_le {a b : P} (h : bef a b = true) : le a b := by unfold le; exact (bef_no _ _).2 (by rw [bef_iff] at h; omega)
/-- the way over points in strict order -/
theorem chR_J (D : List P) (h : D.Pairwise (fun a b => bef a b = true)) (hne : D ≠ []) : JW D (chR D) := by
  revert h hne
  refine snoc_ind (p := fun D => D.Pairwise (fun a b => bef a b = true) → D ≠ [] → JW D (chR D)) (fun _ h => absurd rfl h) (fun D q ih h _ => ?_) D
  obtain ⟨hD, _, hq⟩ := List.pairwise_append.1 h
  have hq' : ∀ p, p ∈ D → bef p q = true := fun p hp => hq p hp q (by simp)
  by_cases h0 : D = []
  · subst h0
    exact ⟨rfl, rfl, trivial, trivial⟩
  · have ihD := ih hD h0
    rw [chR_snoc]
    have hSne : chR D ≠ [] := by
      intro e
      have := ihD.hd
      rw [e] at this
      obtain ⟨m, z, hz⟩ : ∃ m z, D = m ++ [z] := ⟨_, _, (List.dropLast_concat_getLast h0).symm⟩
      rw [hz, List.getLast?_append] at this; cases this
    refine pop_J hq' (fun m hm p hp => ?_) hSne (chR_mem D) ihD.ed ihD.tr (fun b r e p hp hle => ?_) ihD.bot
    · cases hc : D with
      | nil => rw [hc] at hm; cases hm
      | cons d D' =>
        rw [hc] at hm hp hD
        have e : d = m := Option.some.inj hm
        subst e
        rcases List.mem_cons.1 hp with e | e
        · rw [e]; unfold le; exact (bef_no _ _).2 (by omega)
        · exact bef_le ((List.pairwise_cons.1 hD).1 p e)
    · have hb := ihD.hd
      rw [e] at hb
      obtain ⟨m, z, hz⟩ : ∃ m z, D = m ++ [z] := ⟨_, _, (List.dropLast_concat_getLast h0).symm⟩
      have e2 : b = z := by rw [hz, List.getLast?_append] at hb; exact Option.some.inj hb
      subst e2
      have e3 : p = b := by
        rw [hz] at hp hD
        rcases List.mem_append.1 hp with e | e
        · exact le_anti (bef_le ((List.pairwise_append.1 hD).2.2 p e b (by simp))) hle
        · exact List.mem_singleton.1 e
      rw [e3]
      have : crs b q b = 0 := by rw [crs_round, crs_self]
      rw [this]; exact Int.le_refl 0
end Pm
end Go.Proofs.Ytkkghejbdakmpaa
