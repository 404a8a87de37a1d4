/- The numbers of integers of sets add up. -/
import Derived.Test.YtnbpkbdkhegheaaW4
set_option linter.unusedVariables false
set_option linter.unusedSimpArgs false
namespace Go.Proofs.Ytnbpkbdkhegheaa
open Go.RowKit Sm

def ind (b : Bool) : Int := if b then 1 else 0
/-- how many of the N integers from lo on are chosen -/
def cnt (p : Int → Bool) (lo : Int) : Nat → Int
  | 0 => 0
  | N + 1 => cnt p lo N + ind (p (lo + N))
theorem ind_range (b : Bool) : 0 ≤ ind b ∧ ind b ≤ 1 := by cases b <;> decide
theorem cnt_range (p : Int → Bool) (lo : Int) : ∀ N : Nat, 0 ≤ cnt p lo N ∧ cnt p lo N ≤ N
  | 0 => ⟨Int.le_refl _, Int.le_refl _⟩
  | N + 1 => by have := cnt_range p lo N; have := ind_range (p (lo + N)); unfold cnt; omega
theorem cnt_four {p q r t : Int → Bool} (h : ∀ x, ind (p x) + ind (q x) = ind (r x) + ind (t x)) (lo : Int) : ∀ N, cnt p lo N + cnt q lo N = cnt r lo N + cnt t lo N
  | 0 => rfl
  | N + 1 => by have := cnt_four h lo N; have := h (lo + N); unfold cnt; omega
theorem cnt_eq {p q : Int → Bool} (h : ∀ x, p x = q x) (lo : Int) (N : Nat) : cnt p lo N = cnt q lo N := by rw [show p = q from funext h]
theorem cnt_none (lo : Int) : ∀ N, cnt (fun _ => false) lo N = 0
  | 0 => rfl
  | N + 1 => by unfold cnt; rw [cnt_none lo N]; rfl
theorem inS_true {s : S} {x : Int} : inS s x = true ↔ s.1 ≤ x ∧ x < s.2 := by unfold inS; rw [Bool.and_eq_true, decide_eq_true_eq, decide_eq_true_eq]
theorem cnt_one (s : S) (lo : Int) : ∀ N : Nat, cnt (inS s) lo N = max 0 (min s.2 (lo + N) - max s.1 lo)
  | 0 => by unfold cnt; omega
  | N + 1 => by
    have ih := cnt_one s lo N
    unfold cnt
    rw [ih]
    by_cases h : inS s (lo + N) = true
    · have := inS_true.1 h
      rw [h]; unfold ind; simp only [if_true]; omega
    · have h2 : ¬ (s.1 ≤ lo + N ∧ lo + N < s.2) := fun g => h (inS_true.2 g)
      rw [Bool.eq_false_iff.2 h]; unfold ind; simp; omega
def sumL (l : List S) : Int := l.foldr (fun s t => len0 s + t) 0
theorem cnt_list : ∀ (L : List S), can L → ∀ (lo : Int) (N : Nat), (∀ s ∈ L, lo ≤ s.1 ∧ s.2 ≤ lo + N) → cnt (hasL L) lo N = sumL L
  | [], _, lo, N, _ => cnt_none lo N
  | s :: L, h, lo, N, hb => by
    have ih := cnt_list L (can_tail h) lo N fun t ht => hb t (List.mem_cons_of_mem _ ht)
    have h1 := hb s List.mem_cons_self
    have h2 := (can_head h).1
    have hc := cnt_one s lo N
    have h4 := cnt_four (p := hasL (s :: L)) (q := fun _ => false) (r := inS s) (t := hasL L) (fun x => by
      have e : hasL (s :: L) x = (inS s x || hasL L x) := rfl
      rw [e]
      cases h5 : inS s x
      · cases hasL L x <;> rfl
      · have h6 := inS_true.1 h5
        have : hasL L x = false := by
          rw [Bool.eq_false_iff]; intro g
          have := mem_gt h ((hasL_mem L x).1 g)
          omega
        rw [this]; rfl) lo N
    rw [cnt_none, ih, hc] at h4
    show _ = len0 s + sumL L
    unfold len0; omega
theorem sum_pos : ∀ L : List S, 0 ≤ sumL L
  | [] => Int.le_refl _
  | s :: L => by have := sum_pos L; show 0 ≤ len0 s + sumL L; unfold len0; omega
theorem tot_sum : ∀ (L : List S) (t : Int), 0 ≤ t → t + sumL L ≤ 9223372036854775807 → L.foldl stepT t = t + sumL L
  | [], t, _, _ => by show t = t + 0; omega
  | s :: L, t, h0, h => by
    have e : sumL (s :: L) = len0 s + sumL L := rfl
    have hp := sum_pos L
    have h1 : stepT t s = t + len0 s := by unfold stepT; rw [len_len0]; rw [e] at h; unfold len0 at *; omega
    rw [List.foldl_cons, h1, tot_sum L (t + len0 s) (by unfold len0; omega) (by rw [e] at h; omega), e]; omega
def lo60 : Int := -1152921504606846976
theorem small_mem {L a : List S} (hc : can L) (hm : ∀ n, mem L n → mem a n) (hs : smallL a) : ∀ s ∈ L, lo60 ≤ s.1 ∧ s.2 ≤ lo60 + (2305843009213693952 : Nat) := fun s hin => by
  have h0 := hc.1 s hin
  obtain ⟨t, ht, h1, h2⟩ := hm s.1 ⟨s, hin, by omega, h0⟩
  obtain ⟨u, hu, h3, h4⟩ := hm (s.2 - 1) ⟨s, hin, by omega, by omega⟩
  have g1 := hs t ht
  have g2 := hs u hu
  unfold smallS at g1 g2
  unfold lo60
  omega
/-- the total of a set is the number of its members -/
theorem tot_cnt {L a : List S} (hc : can L) (hm : ∀ n, mem L n → mem a n) (hs : smallL a) : totL L = cnt (hasL L) lo60 2305843009213693952 := by
  have h1 := cnt_list L hc lo60 2305843009213693952 (small_mem hc hm hs)
  have h2 := cnt_range (hasL L) lo60 2305843009213693952
  rw [h1]
  have := tot_sum L 0 (Int.le_refl _) (by rw [h1] at h2; have h3 : sumL L ≤ ((2305843009213693952 : Nat) : Int) := h2.2; omega)
  unfold totL; rw [this]; omega
theorem small_app {a b : List S} (ha : smallL a) (hb : smallL b) : smallL (a ++ b) := fun s hs => (List.mem_append.1 hs).elim (ha s) (hb s)
theorem measure_uni {a b : List S} (ha : smallL a) (hb : smallL b) : totL (canonL (uniS a b)) + totL (canonL (comS a b)) = totL (canonL a) + totL (canonL b) := by
  rw [canon_self (uniS_spec a b).1, canon_self (comS_spec a b).1,
    tot_cnt (uniS_spec a b).1 (a := a ++ b) (fun n h => mem_append.2 (((uniS_spec a b).2 n).1 h)) (small_app ha hb),
    tot_cnt (comS_spec a b).1 (a := a) (fun n h => (((comS_spec a b).2 n).1 h).1) ha,
    tot_cnt (canon_spec a).1 (a := a) (fun n h => ((canon_spec a).2.1 n).1 h) ha, tot_cnt (canon_spec b).1 (a := b) (fun n h => ((canon_spec b).2.1 n).1 h) hb]
  exact cnt_four (fun x => by rw [has_uni, has_com, has_can, has_can]; cases hasL a x <;> cases hasL b x <;> rfl) _ _
theorem measure_min {a b : List S} (ha : smallL a) (hb : smallL b) : totL (canonL (minS a b)) = totL (canonL a) - totL (canonL (comS a b)) := by
  rw [canon_self (minS_spec a b).1, canon_self (comS_spec a b).1,
    tot_cnt (minS_spec a b).1 (a := a) (fun n h => (((minS_spec a b).2 n).1 h).1) ha,
    tot_cnt (comS_spec a b).1 (a := a) (fun n h => (((comS_spec a b).2 n).1 h).1) ha,
    tot_cnt (canon_spec a).1 (a := a) (fun n h => ((canon_spec a).2.1 n).1 h) ha]
  have := cnt_four (p := hasL (minS a b)) (q := hasL (comS a b)) (r := hasL (canonL a)) (t := fun _ => false) (fun x => by rw [has_min, has_com, has_can]; cases hasL a x <;> cases hasL b x <;> rfl) lo60 2305843009213693952
  rw [cnt_none] at this
  omega
theorem tot_small {L a : List S} (hc : can L) (hm : ∀ n, mem L n → mem a n) (hs : smallL a) : 0 ≤ totL L ∧ totL L ≤ 2305843009213693952 := by
  rw [tot_cnt hc hm hs]
  have h2 := cnt_range (hasL L) lo60 2305843009213693952
  have h3 : cnt (hasL L) lo60 2305843009213693952 ≤ ((2305843009213693952 : Nat) : Int) := h2.2
  omega
end Go.Proofs.Ytnbpkbdkhegheaa
