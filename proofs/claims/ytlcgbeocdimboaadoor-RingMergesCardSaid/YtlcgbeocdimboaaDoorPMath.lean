/- Plain facts about polygons: edges, areas, regions, hulls and chords as functions of lists (no program). -/
import Derived.WalkKit
import Derived.ProofKit
set_option linter.unusedVariables false
set_option linter.unusedSimpArgs false
namespace Go.Proofs.YtlcgbeocdimboaaDoor
open Go.RowKit
namespace Pm
abbrev P := Int × Int
def inR (n : Int) : Bool := decide (-600 ≤ n) && decide (n ≤ 600)
theorem inR_yes {n : Int} (h : inR n = true) : -600 ≤ n ∧ n ≤ 600 := by
  unfold inR at h; rw [Bool.and_eq_true, decide_eq_true_eq, decide_eq_true_eq] at h; exact h
theorem inR_mk {n : Int} (h : -600 ≤ n) (k : n ≤ 600) : inR n = true := by
  unfold inR; rw [Bool.and_eq_true, decide_eq_true_eq, decide_eq_true_eq]; exact ⟨h, k⟩
/-- a point in range -/
def inP (q : P) : Bool := inR q.1 && inR q.2
theorem inP_yes {q : P} (h : inP q = true) : (-600 ≤ q.1 ∧ q.1 ≤ 600) ∧ -600 ≤ q.2 ∧ q.2 ≤ 600 := by
  unfold inP at h; rw [Bool.and_eq_true] at h; exact ⟨inR_yes h.1, inR_yes h.2⟩
/-- the point number i -/
def g (l : List P) (i : Nat) : P := l.getD i (0, 0)
theorem g_at {l : List P} {i : Nat} (h : i < l.length) : g l i = l[i] := by unfold g; rw [List.getD_eq_getElem?_getD, List.getElem?_eq_getElem h]; rfl
theorem g_some {l : List P} {i : Nat} (h : i < l.length) : l[i]? = some (g l i) := by rw [g_at h]; exact List.getElem?_eq_getElem h
/-- the number of the point behind the one with number i -/
def nx (l : List P) (i : Nat) : Nat := (i + 1) % l.length
theorem nx_lt {l : List P} (i : Nat) (h : 0 < l.length) : nx l i < l.length := Nat.mod_lt _ h
def sumN (f : Nat → Int) : Nat → Int
  | 0 => 0
  | n + 1 => sumN f n + f n
/-- the first number from which on f says no, or n: all before it say yes -/
def allN (f : Nat → Bool) : Nat → Bool
  | 0 => true
  | n + 1 => allN f n && f n
theorem allN_yes {f : Nat → Bool} : ∀ {n : Nat}, (∀ i, i < n → f i = true) → allN f n = true
  | 0, _ => rfl
  | n + 1, h => by show (allN f n && f n) = true; rw [allN_yes fun i hi => h i (by omega), h n (by omega)]; rfl
theorem allN_at {f : Nat → Bool} : ∀ {n : Nat}, allN f n = true → ∀ i, i < n → f i = true
  | 0, _, i, hi => by omega
  | n + 1, h, i, hi => by
    have h : (allN f n && f n) = true := h
    rw [Bool.and_eq_true] at h
    by_cases e : i = n
    · rw [e]; exact h.2
    · exact allN_at h.1 i (by omega)
theorem allN_no {f : Nat → Bool} {n i : Nat} (hi : i < n) (h : f i = false) : allN f n = false := by
  cases e : allN f n with
  | false => rfl
  | true => rw [allN_at e i hi] at h; cases h
def anyN (f : Nat → Bool) : Nat → Bool
  | 0 => false
  | n + 1 => anyN f n || f n
theorem anyN_no {f : Nat → Bool} : ∀ {n : Nat}, (∀ i, i < n → f i = false) → anyN f n = false
  | 0, _ => rfl
  | n + 1, h => by show (anyN f n || f n) = false; rw [anyN_no fun i hi => h i (by omega), h n (by omega)]; rfl
theorem anyN_yes {f : Nat → Bool} : ∀ {n i : Nat}, i < n → f i = true → anyN f n = true
  | 0, i, hi, _ => by omega
  | n + 1, i, hi, h => by
    show (anyN f n || f n) = true
    by_cases e : i = n
    · rw [← e, h, Bool.or_true]
    · rw [anyN_yes (by omega : i < n) h]; rfl
/-- how often f says yes is odd -/
def parN (f : Nat → Bool) : Nat → Bool
  | 0 => false
  | n + 1 => if f n then !parN f n else parN f n
/-! points and lists in range -/
def rng (l : List P) : Bool := allN (fun i => inP (g l i)) l.length
theorem rng_at {l : List P} (h : rng l = true) {i : Nat} (hi : i < l.length) : inP (g l i) = true := allN_at h i hi
def arT (a b : P) : Int := a.1 * b.2 - b.1 * a.2
def ar (l : List P) (n : Nat) : Int := sumN (fun i => arT (g l i) (g l (nx l i))) n
def ar2 (l : List P) : Int := if 32 < l.length then 0 else if rng l then ar l l.length else 0
def chk (l : List P) : Nat := if l.length < 3 then 3 else if 32 < l.length then 4 else if rng l then (if ar2 l = 0 then 19 else 0) else 9
theorem mul_bd {a b : Int} {A B : Int} (h1 : -A ≤ a) (h2 : a ≤ A) (h3 : -B ≤ b) (h4 : b ≤ B) : -(A * B) ≤ a * b ∧ a * b ≤ A * B := by
  have hA : 0 ≤ A := by omega
  have hB : 0 ≤ B := by omega
  have e1 := Int.mul_nonneg (show 0 ≤ A - a by omega) (show 0 ≤ B + b by omega)
  have e2 := Int.mul_nonneg (show 0 ≤ A + a by omega) (show 0 ≤ B - b by omega)
  have e3 := Int.mul_nonneg (show 0 ≤ A - a by omega) (show 0 ≤ B - b by omega)
  have e4 := Int.mul_nonneg (show 0 ≤ A + a by omega) (show 0 ≤ B + b by omega)
  rw [Int.sub_mul, Int.mul_add, Int.mul_add] at e1
  rw [Int.add_mul, Int.mul_sub, Int.mul_sub] at e2
  rw [Int.sub_mul, Int.mul_sub, Int.mul_sub] at e3
  rw [Int.add_mul, Int.mul_add, Int.mul_add] at e4
  omega
theorem arT_bd {a b : P} (ha : inP a = true) (hb : inP b = true) : -720000 ≤ arT a b ∧ arT a b ≤ 720000 := by
  obtain ⟨⟨a1, a2⟩, a3, a4⟩ := inP_yes ha
  obtain ⟨⟨b1, b2⟩, b3, b4⟩ := inP_yes hb
  have h1 := mul_bd a1 a2 b3 b4
  have h2 := mul_bd b1 b2 a3 a4
  unfold arT
  omega
theorem ar_bd {l : List P} (h : rng l = true) : ∀ n : Nat, n ≤ l.length → -(720000 * (n : Int)) ≤ ar l n ∧ ar l n ≤ 720000 * (n : Int)
  | 0, _ => ⟨by show _ ≤ (0 : Int); omega, by show (0 : Int) ≤ _; omega⟩
  | n + 1, hn => by
    have ih := ar_bd h n (by omega)
    have hb := arT_bd (rng_at h (show n < l.length by omega)) (rng_at h (nx_lt (l := l) n (by omega)))
    show _ ≤ ar l n + arT (g l n) (g l (nx l n)) ∧ ar l n + arT (g l n) (g l (nx l n)) ≤ _
    omega
/-! the least and the greatest of the first numbers, with the first one -/
def loN (f : Nat → Int) : Nat → Int
  | 0 => f 0
  | n + 1 => min (loN f n) (f n)
def hiN (f : Nat → Int) : Nat → Int
  | 0 => f 0
  | n + 1 => max (hiN f n) (f n)
/-! turns -/
def least : Int := -9223372036854775808
def negP (q : P) : Bool := !(decide (q.1 = least) || decide (q.2 = least))
def negL (l : List P) : Bool := allN (fun i => negP (g l i)) l.length
def rot (q : P) : Nat → P
  | 0 => q
  | n + 1 => (-(rot q n).2, (rot q n).1)
def qt (n : Int) : Nat := (n % 4).toNat
def turn (l : List P) (n : Int) : List P := if negL l then l.map fun q => rot q (qt n) else []
def mir (l : List P) : List P := if negL l then (l.map fun q => (-q.1, q.2)).reverse else []
/-! the region -/
def crs (a b q : P) : Int := (b.1 - a.1) * (q.2 - a.2) - (b.2 - a.2) * (q.1 - a.1)
def inB (a b q : P) : Bool := decide (min a.1 b.1 ≤ q.1) && decide (q.1 ≤ max a.1 b.1) && decide (min a.2 b.2 ≤ q.2) && decide (q.2 ≤ max a.2 b.2)
def onE (a b q : P) : Bool := decide (crs a b q = 0) && inB a b q
def flp (a b q : P) : Bool := (decide (a.2 ≤ q.2) && decide (q.2 < b.2) && decide (0 < crs a b q)) || (decide (b.2 ≤ q.2) && decide (q.2 < a.2) && decide (crs a b q < 0))
def has (l : List P) (q : P) : Bool := decide (chk l = 0) && inP q && (anyN (fun i => onE (g l i) (g l (nx l i)) q) l.length || parN (fun i => flp (g l i) (g l (nx l i)) q) l.length)
theorem crs_bd {a b q : P} (ha : inP a = true) (hb : inP b = true) (hq : inP q = true) : -2880000 ≤ crs a b q ∧ crs a b q ≤ 2880000 := by
  obtain ⟨⟨a1, a2⟩, a3, a4⟩ := inP_yes ha
  obtain ⟨⟨b1, b2⟩, b3, b4⟩ := inP_yes hb
  obtain ⟨⟨q1, q2⟩, q3, q4⟩ := inP_yes hq
  have h1 := mul_bd (a := b.1 - a.1) (b := q.2 - a.2) (A := 1200) (B := 1200) (by omega) (by omega) (by omega) (by omega)
  have h2 := mul_bd (a := b.2 - a.2) (b := q.1 - a.1) (A := 1200) (B := 1200) (by omega) (by omega) (by omega) (by omega)
  unfold crs
  omega
/-! the hull -/
def bef (a b : P) : Bool := decide (a.1 < b.1) || (decide (a.1 = b.1) && decide (a.2 < b.2))
theorem bef_iff (a b : P) : bef a b = true ↔ a.1 < b.1 ∨ (a.1 = b.1 ∧ a.2 < b.2) := by
  unfold bef; rw [Bool.or_eq_true, Bool.and_eq_true, decide_eq_true_eq, decide_eq_true_eq, decide_eq_true_eq]
theorem bef_no (a b : P) : bef a b = false ↔ ¬ (a.1 < b.1 ∨ (a.1 = b.1 ∧ a.2 < b.2)) := by
  rw [← bef_iff]; cases bef a b <;> simp
def le (a b : P) : Prop := bef b a = false
theorem le_anti {a b : P} (h : le a b) (k : le b a) : a = b := by
  unfold le at h k; rw [bef_no] at h k
  exact Prod.ext (by omega) (by omega)
theorem le_trans {a b c : P} (h : le a b) (k : le b c) : le a c := by
  unfold le at h k ⊢; rw [bef_no] at h k ⊢; omega
theorem le_total (a b : P) : le a b ∨ le b a := by
  unfold le; rw [bef_no, bef_no]; omega
def ins (x : P) : List P → List P
  | [] => [x]
  | y :: l => if bef y x then y :: ins x l else x :: y :: l
def srt : List P → List P
  | [] => []
  | x :: l => ins x (srt l)
theorem ins_perm (x : P) : ∀ l : List P, (ins x l).Perm (x :: l)
  | [] => .refl _
  | y :: l => by
    show (if bef y x then y :: ins x l else x :: y :: l).Perm _
    split
    · exact ((ins_perm x l).cons y).trans (List.Perm.swap x y l)
    · exact .refl _
theorem srt_perm : ∀ l : List P, (srt l).Perm l
  | [] => .refl _
  | x :: l => (ins_perm x (srt l)).trans ((srt_perm l).cons x)
theorem ins_pw (x : P) : ∀ l : List P, l.Pairwise le → (ins x l).Pairwise le
  | [], _ => List.pairwise_singleton _ _
  | y :: l, h => by
    obtain ⟨h1, h2⟩ := List.pairwise_cons.1 h
    show (if bef y x then y :: ins x l else x :: y :: l).Pairwise le
    split
    · rename_i hb
      refine List.pairwise_cons.2 ⟨fun z hz => ?_, ins_pw x l h2⟩
      rcases List.mem_cons.1 ((ins_perm x l).mem_iff.1 hz) with e | e
      · subst e; unfold le; rw [bef_no]; rw [bef_iff] at hb; omega
      · exact h1 z e
    · rename_i hb
      have hxy : le x y := by simpa [le] using hb
      refine List.pairwise_cons.2 ⟨fun z hz => ?_, h⟩
      rcases List.mem_cons.1 hz with e | e
      · subst e; exact hxy
      · exact le_trans hxy (h1 z e)
theorem srt_pw : ∀ l : List P, (srt l).Pairwise le
  | [] => .nil
  | x :: l => ins_pw x _ (srt_pw l)
theorem srt_is {l p : List P} (h : p.Perm l) (k : p.Pairwise le) : p = srt l :=
  List.Perm.eq_of_pairwise (fun a b _ _ h1 h2 => le_anti h1 h2) k (srt_pw l) (h.trans (srt_perm l).symm)
theorem srt_len (l : List P) : (srt l).length = l.length := (srt_perm l).length_eq
/-- the way, its last point first, without the points that the way to q does not turn left at -/
def pop (q : P) : List P → List P
  | b :: a :: r => if crs a b q ≤ 0 then pop q (a :: r) else b :: a :: r
  | s => s
def chR (l : List P) : List P := l.foldl (fun s q => q :: pop q s) []
def chn (l : List P) : List P := (chR l).reverse
theorem pop_len (q : P) : ∀ s : List P, (pop q s).length ≤ s.length
  | [] => Nat.le_refl _
  | [a] => Nat.le_refl _
  | b :: a :: r => by
    unfold pop; split
    · exact Nat.le_trans (pop_len q (a :: r)) (by simp)
    · exact Nat.le_refl _
theorem pop_mem (q : P) : ∀ (s : List P) (x : P), x ∈ pop q s → x ∈ s
  | [], x, h => h
  | [a], x, h => h
  | b :: a :: r, x, h => by
    unfold pop at h; split at h
    · exact List.mem_cons_of_mem _ (pop_mem q (a :: r) x h)
    · exact h
theorem chR_snoc (l : List P) (q : P) : chR (l ++ [q]) = q :: pop q (chR l) := by unfold chR; rw [List.foldl_append]; rfl
theorem chR_len (l : List P) : (chR l).length ≤ l.length := by
  suffices ∀ n, ∀ l : List P, l.length = n → (chR l).length ≤ l.length from this _ l rfl
  intro n
  induction n with
  | zero => intro l h; rw [List.eq_nil_of_length_eq_zero h]; exact Nat.le_refl _
  | succ n ih =>
    intro l h
    obtain ⟨m, q, rfl⟩ : ∃ m q, l = m ++ [q] := ⟨l.dropLast, l.getLast (by intro e; subst e; simp at h), (List.dropLast_concat_getLast _).symm⟩
    rw [chR_snoc]
    have h1 := ih m (by simp at h; exact h)
    have h2 := pop_len q (chR m)
    simp; omega
theorem chR_mem (l : List P) : ∀ x, x ∈ chR l → x ∈ l := by
  suffices ∀ n, ∀ l : List P, l.length = n → ∀ x, x ∈ chR l → x ∈ l from this _ l rfl
  intro n
  induction n with
  | zero => intro l h; rw [List.eq_nil_of_length_eq_zero h]; intro x hx; exact hx
  | succ n ih =>
    intro l h x hx
    obtain ⟨m, q, rfl⟩ : ∃ m q, l = m ++ [q] := ⟨l.dropLast, l.getLast (by intro e; subst e; simp at h), (List.dropLast_concat_getLast _).symm⟩
    rw [chR_snoc] at hx
    rcases List.mem_cons.1 hx with e | e
    · rw [e]; simp
    · exact List.mem_append_left _ (ih m (by simp at h; exact h) x (pop_mem q _ x e))
theorem chn_len (l : List P) : (chn l).length ≤ l.length := by unfold chn; rw [List.length_reverse]; exact chR_len l
theorem chn_mem (l : List P) (x : P) (h : x ∈ chn l) : x ∈ l := chR_mem l x (List.mem_reverse.1 h)
theorem chn_ne {l : List P} (h : 0 < l.length) : 0 < (chn l).length := by
  obtain ⟨m, q, rfl⟩ : ∃ m q, l = m ++ [q] := ⟨l.dropLast, l.getLast (by intro e; subst e; simp at h), (List.dropLast_concat_getLast _).symm⟩
  unfold chn; rw [List.length_reverse, chR_snoc]; simp
def hul (l : List P) : List P := (chn (srt l)).dropLast ++ (chn (srt l).reverse).dropLast
def hull (l : List P) : List P := if l.length < 3 then [] else if 32 < l.length then [] else if rng l then (if (hul l).length < 3 then [] else hul l) else []
theorem hul_len (l : List P) : (hul l).length ≤ 2 * l.length := by
  unfold hul
  have h1 := chn_len (srt l)
  have h2 := chn_len (srt l).reverse
  rw [List.length_reverse] at h2
  rw [srt_len] at h1 h2
  rw [List.length_append, List.length_dropLast, List.length_dropLast]; omega
theorem hul_mem (l : List P) (x : P) (h : x ∈ hul l) : x ∈ l := by
  unfold hul at h
  rcases List.mem_append.1 h with e | e
  · exact (srt_perm l).mem_iff.1 (chn_mem _ x (List.dropLast_subset _ e))
  · exact (srt_perm l).mem_iff.1 (List.mem_reverse.1 (chn_mem _ x (List.dropLast_subset _ e)))
theorem hull_mem (l : List P) (x : P) (h : x ∈ hull l) : x ∈ l := by
  unfold hull at h
  split at h
  · cases h
  · split at h
    · cases h
    · split at h
      · split at h
        · cases h
        · exact hul_mem l x h
      · cases h
theorem hull_len (l : List P) : (hull l).length ≤ 64 := by
  unfold hull
  split
  · exact Nat.zero_le _
  · split
    · exact Nat.zero_le _
    · split
      · split
        · exact Nat.zero_le _
        · have := hul_len l; omega
      · exact Nat.zero_le _
/-- a list of points in range -/
def RL (l : List P) : Prop := ∀ x, x ∈ l → inP x = true
theorem rng_mem {l : List P} (h : rng l = true) : RL l := fun x hx => by
  obtain ⟨i, hi, e⟩ := List.getElem_of_mem hx
  rw [← e, ← g_at hi]; exact rng_at h hi
theorem rng_of {l : List P} (h : RL l) : rng l = true := allN_yes fun i hi => by rw [g_at hi]; exact h _ (List.getElem_mem hi)
theorem hull_rng (l : List P) : RL (hull l) := by
  by_cases h : rng l = true
  · exact fun x hx => rng_mem h x (hull_mem l x hx)
  · have e : hull l = [] := by unfold hull; simp [h]
    rw [e]; intro x hx; cases hx
/-! the chord -/
def top : Int := 9223372036854775807
/-- what an edge from a to b, the lower end first, adds at the height y -/
def addE (y : Int) (a b : P) (s : P) : P :=
  if a.2 = b.2 ∨ y < a.2 ∨ b.2 < y then s else (min s.1 (a.1 - -((b.1 - a.1) * (y - a.2)) / (b.2 - a.2)), max s.2 (a.1 + (b.1 - a.1) * (y - a.2) / (b.2 - a.2)))
def addO (y : Int) (a b : P) (s : P) : P := if b.2 < a.2 then addE y b a s else addE y a b s
def parA (h : List P) (y : Int) : Nat → P
  | 0 => (top, least)
  | n + 1 => addO y (g h n) (g h (nx h n)) (parA h y n)
def part (h : List P) (y : Int) : P := parA h y h.length
def cmb (a b : P) : P := if min a.2 b.2 ≤ max a.1 b.1 then (0, 0) else (max a.1 b.1, min a.2 b.2)
def chord (l : List P) (lo hi : Int) : P := if hi ≤ lo then (0, 0) else cmb (part (hull l) lo) (part (hull l) hi)
end Pm
end Go.Proofs.YtlcgbeocdimboaaDoor
