/- The calls of the chapter's examples, with their results. -/
import Derived.Test.YtnbpkbdkhegheaaHas
import Derived.Test.YtnbpkbdkhegheaaIs
import Derived.Test.YtnbpkbdkhegheaaTotal
import Derived.Test.YtnbpkbdkhegheaaLongest
import Derived.Test.YtnbpkbdkhegheaaGaps
import Derived.Test.YtnbpkbdkhegheaaConcat
set_option linter.unusedVariables false
set_option linter.unusedSimpArgs false
namespace Go.Proofs.Ytnbpkbdkhegheaa
open Go.ChangeShapes Go.WideShapes Go.ChangeAt Go.RowKit Sm

theorem rd_new (w : World) (l : List S) (c : Nat) (hc : l.length ≤ c) (xs : Array Value) (hx : xs = (cellsL l).toArray) : Rd (w.alloc (.cells xs 23)) (.slice (some ⟨w.heap.size, 0, none⟩) l.length c) l := by
  subst hx
  refine ⟨_, _, rfl, hc, fun _ => ⟨w.heap.size, 0, rfl, by simp, fun i s hs => ?_⟩⟩
  obtain ⟨h1, h2⟩ := cellsL_at l i s hs
  have hk : ∀ (j : Nat) (u : Value), (cellsL l)[j]? = some u → (w.alloc (.cells (cellsL l).toArray 23)).cell? ⟨w.heap.size, j, none⟩ = some u := fun j u h =>
    (World.cell?_alloc_at _ _ _ _ rfl).trans (by rw [← h]; simp)
  rw [Nat.zero_add]
  exact ⟨hk _ _ h1, hk _ _ h2⟩
theorem rd_part {w : World} {b off n c : Nat} {l : List S} (h : Rd w (.slice (some ⟨b, off, none⟩) n c) l) (k m c' : Nat) (hm : m ≤ c') (l' : List S) (hl : l' = (l.drop k).take m) (hn : l'.length = m) (h0 : 0 < m) : Rd w (.slice (some ⟨b, off + k * 2, none⟩) m c') l' := by
  obtain ⟨A, c1, h1, h2, h3⟩ := h
  injection h1 with e1 e2 e3
  have hll : 0 < l.length := by
    rcases l with _ | ⟨t, l⟩
    · rw [hl] at hn; simp at hn; omega
    · simp
  obtain ⟨b', off', e, hb, hc⟩ := h3 hll
  rw [← e1] at e; injection e with e; injection e with e4 e5
  subst e4 e5
  refine ⟨_, _, by rw [hn], by omega, fun _ => ⟨b, off + k * 2, rfl, hb, fun i s hs => ?_⟩⟩
  have := hc (k + i) s (by
    rw [hl, List.getElem?_take] at hs
    split at hs
    · rw [List.getElem?_drop] at hs; exact hs
    · cases hs)
  rw [show off + (k + i) * 2 = off + k * 2 + i * 2 by omega] at this
  exact this
def fitB (l : List S) : Bool := l.all fun s => decide (-9223372036854775808 ≤ s.1) && decide (s.1 ≤ 9223372036854775807) && decide (-9223372036854775808 ≤ s.2) && decide (s.2 ≤ 9223372036854775807)
theorem fit_of {l : List S} (h : fitB l = true) : FitL l := fun s hs => by
  unfold fitB at h
  have := List.all_eq_true.1 h s hs
  simp only [Bool.and_eq_true, decide_eq_true_eq] at this
  unfold FitS Fit; omega
def aL : List S := [(5, 8), (1, 3), (7, 7), (3, 4), (6, 9)]
theorem c3 : canonL [(0, 2), (5, 8), (10, 13)] = [(0, 2), (5, 8), (10, 13)] := by rw [← rcan_eq]; decide +kernel
theorem c7 : canonL [(7, 7)] = [] := by rw [← rcan_eq]; decide +kernel
theorem ca : canonL aL = [(1, 4), (5, 9)] := by rw [← rcan_eq]; decide +kernel
theorem aw1 (v : Value) (w : World) (h : Rd w v [(0, 2), (5, 8), (10, 13)]) : Calls Try.prog 28 #[v] w fun e w' => e = .returned (.tuple #[.agg #[.int .i64 5, .int .i64 8], .bool true]) ∧ Q w w' :=
  (Longest_c v _ w h (by decide) (fit_of (by decide))).mono fun _ _ ⟨a, b⟩ => ⟨by rw [a, c3]; rfl, b⟩
theorem aw2 (v : Value) (w : World) (h : Rd w v [(7, 7)]) : Calls Try.prog 28 #[v] w fun e w' => e = .returned (.tuple #[.agg #[.int .i64 0, .int .i64 0], .bool false]) ∧ Q w w' :=
  (Longest_c v _ w h (by decide) (fit_of (by decide))).mono fun _ _ ⟨a, b⟩ => ⟨by rw [a, c7]; rfl, b⟩
theorem aw3 (w : World) : Calls Try.prog 11 #[.agg #[.int .i64 (-2), .int .i64 3]] w fun e w' => e = .returned (.int .i64 5) ∧ Q w w' :=
  (Len_c (-2) 3 w (by unfold FitS Fit; decide)).mono fun _ _ ⟨a, b⟩ => ⟨by rw [a]; rfl, b⟩
theorem aw4 (w : World) : Calls Try.prog 13 #[.agg #[.int .i64 1, .int .i64 5], .agg #[.int .i64 3, .int .i64 9]] w fun e w' => e = .returned (.agg #[.int .i64 3, .int .i64 5]) ∧ Q w w' :=
  (Meet_c (1, 5) (3, 9) w).mono fun _ _ ⟨a, b⟩ => ⟨by rw [a]; rfl, b⟩
/-- a set whose list is known: what a slice reads as -/
def RdPost (L : List S) (w : World) (e : Ending) (w' : World) : Prop := ∃ v', e = .returned v' ∧ Rd w' v' L ∧ Q w w'
theorem aw5 (v : Value) (w : World) (h : Rd w v aL) : Calls Try.prog 18 #[v] w (RdPost [(1, 4), (5, 9)] w) :=
  (Canon_c v _ w h (by decide)).mono fun _ _ ⟨x, a, b, c⟩ => ⟨x, a, by rw [← ca]; exact b.rd, c⟩
theorem aw6 (v : Value) (w : World) (h : Rd w v aL) : Calls Try.prog 20 #[v] w fun e w' => e = .returned (.bool false) ∧ Q w w' :=
  (Is_c v _ w h (by decide)).mono fun _ _ ⟨a, b⟩ => ⟨by rw [a, isL_no fun g => by have := (List.pairwise_cons.1 g.2).1 (1, 3) (by simp); simp at this], b⟩
theorem aw7 (w : World) : Calls Try.prog 20 #[.slice none 0 0] w fun e w' => e = .returned (.bool true) ∧ Q w w' :=
  (Is_c _ _ w (Rd.nil w) (by decide)).mono fun _ _ ⟨a, b⟩ => ⟨by rw [a, isL_yes can_nil], b⟩
theorem aw8 (v v1 : Value) (w : World) (h : Rd w v [(0, 10)]) (h1 : Rd w v1 [(3, 5)]) : Calls Try.prog 26 #[v, v1] w (RdPost [(0, 3), (5, 10)] w) :=
  (Minus_c v v1 _ _ w h h1 (by decide) (by decide) (fit_of (by decide)) (fit_of (by decide))).mono fun _ _ ⟨x, a, b, c⟩ => ⟨x, a, by
    have e : minS [(0, 10)] [(3, 5)] = [(0, 3), (5, 10)] := by unfold minS; rw [← rcan_eq, ← rcan_eq]; decide +kernel
    rw [← e]; exact b.rd, c⟩
theorem aw9 (v v1 : Value) (w : World) (h : Rd w v [(0, 4), (6, 9)]) (h1 : Rd w v1 [(2, 7)]) : Calls Try.prog 24 #[v, v1] w (RdPost [(2, 4), (6, 7)] w) :=
  (Common_c v v1 _ _ w h h1 (by decide) (by decide)).mono fun _ _ ⟨x, a, b, c⟩ => ⟨x, a, by
    have e : comS [(0, 4), (6, 9)] [(2, 7)] = [(2, 4), (6, 7)] := by unfold comS; rw [← rcan_eq, ← rcan_eq]; decide +kernel
    rw [← e]; exact b.rd, c⟩
theorem aw10 (v : Value) (w : World) (h : Rd w v [(0, 4), (2, 6)]) : Calls Try.prog 30 #[v] w fun e w' => e = .returned (.int .i64 6) ∧ Q w w' :=
  (Total_c v _ w h (by decide) (fit_of (by decide))).mono fun _ _ ⟨a, b⟩ => ⟨by
    rw [a, show canonL [(0, 4), (2, 6)] = [(0, 6)] by rw [← rcan_eq]; decide +kernel]; rfl, b⟩
def LenPost (n : Nat) (w : World) (e : Ending) (w' : World) : Prop := ∃ A c, e = .returned (.slice A n c) ∧ Q w w'
theorem aw11 (v v1 : Value) (w : World) (h : Rd w v [(5, 8)]) (h1 : Rd w v1 [(1, 3)]) (n : Nn v) (n1 : Nn v1) : Calls Try.prog 22 #[v, v1] w (LenPost 2 w) :=
  (Union_c v v1 _ _ w h h1 n n1 (by decide) (by decide)).mono fun _ _ ⟨x, a, b, c⟩ => by
    have e : uniS [(5, 8)] [(1, 3)] = [(1, 3), (5, 8)] := by unfold uniS; rw [← rcan_eq]; decide +kernel
    rw [e] at b
    obtain ⟨A, cc, rfl⟩ := b.len
    exact ⟨A, cc, a, c⟩
theorem aw12 (v : Value) (w : World) (h : Rd w v aL) : Calls Try.prog 32 #[v, .int .i64 8] w fun e w' => e = .returned (.bool true) ∧ Q w w' :=
  (Has_c v _ 8 w h (by decide)).mono fun _ _ ⟨a, b⟩ => ⟨by rw [a]; rfl, b⟩
theorem aw13 (v : Value) (w : World) (h : Rd w v aL) : Calls Try.prog 32 #[v, .int .i64 4] w fun e w' => e = .returned (.bool false) ∧ Q w w' :=
  (Has_c v _ 4 w h (by decide)).mono fun _ _ ⟨a, b⟩ => ⟨by rw [a]; rfl, b⟩
theorem aw14 (v v1 : Value) (L : List S) (w : World) (h : Rd w v L) (h1 : Rd w v1 L) (hl : L.length ≤ 1000000) : Calls Try.prog 17 #[v, v1] w fun e w' => e = .returned (.bool true) ∧ Q w w' :=
  (Same_c v v1 L L w h h1 hl).mono fun _ _ ⟨a, b⟩ => ⟨by rw [a, decide_eq_true rfl], b⟩

/-! a region's walk, cut where its orders meet -/
def setAll (l : Array Bool) (is : List Nat) : Array Bool := is.foldl (fun l i => l.setIfInBounds i true) l
def putAll (a : Act) (vs : List (Nat × Value)) : Act := vs.foldl (fun a v => a.put (some v.1) v.2) a
theorem any_via {P : Program} {md : Region.Mode} {ops : Array Oper} {Q' : Exit → Act → World → Prop} {fuel : Nat} {listed : Array Bool} {a : Act} {w : World} {α : Type} (k : Nat) (is : List Nat) (puts : α → List (Nat × Value)) (I : α → World → Prop)
    (first : (∀ x w', I x w' → wpAny P md ops Q' (fuel - k) (setAll listed is) (putAll a (puts x)) w') → wpAny P md ops Q' fuel listed a w)
    (rest : ∀ x w', I x w' → wpAny P md ops Q' (fuel - k) (setAll listed is) (putAll a (puts x)) w') : wpAny P md ops Q' fuel listed a w := first rest
theorem any_eq {P : Program} {md : Region.Mode} {ops : Array Oper} {Q' : Exit → Act → World → Prop} {f f' : Nat} {l l' : Array Bool} {a a' : Act} {w : World} (h1 : f = f') (h2 : l = l') (h3 : a = a') (h : wpAny P md ops Q' f l a w) : wpAny P md ops Q' f' l' a' w := by
  subst h1 h2 h3; exact h
end Go.Proofs.Ytnbpkbdkhegheaa
