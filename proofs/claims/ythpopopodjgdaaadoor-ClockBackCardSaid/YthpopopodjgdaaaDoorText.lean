/- The contracts of number, plainNumber, twoDigitNumber, twoDigits, and of the library's cuts. -/
import Derived.Test.YthpopopodjgdaaaDoorMem
import Derived.Test.YthpopopodjgdaaaDoorShelf
import Derived.Laws.IdiomStrings
import Derived.Shelf.Strings.Runes
import Derived.Lib.RuneCount
set_option linter.unusedVariables false
set_option linter.unusedSimpArgs false
namespace Go.Proofs.YthpopopodjgdaaaDoor
open Go.ChangeShapes Go.WideShapes Go.ChangeAt Go.RowKit Km

theorem iterP {w : World} {k p : Nat} {s : ByteArray} (h : w.heap[k]? = some (.stringIter s p)) : w.iterPos k = p := by unfold World.iterPos; rw [h]
def rn (s : ByteArray) (p : Nat) : Int := ((Utf8.decode s p).1 : Int)
def rl (s : ByteArray) (p : Nat) : Nat := (Utf8.decode s p).2
/-- the number that a text is read as from place p on, n before it -/
def numF (s : ByteArray) (g : Int) : Nat → Nat → Int → Int × Bool
  | 0, _, n => (n, true)
  | f + 1, p, n => if p < s.size then (if rn s p < 48 ∨ 57 < rn s p then (0, false) else if g < 10 * n + (rn s p - 48) then (0, false) else numF s g f (p + rl s p) (10 * n + (rn s p - 48))) else (n, true)
def finN (s : ByteArray) (r : Int × Bool) : Int × Bool := if r.2 = true then (r.1, decide (0 < s.size)) else (0, false)
def numS (s : ByteArray) (g : Int) : Int × Bool := finN s (numF s g s.size 0 0)
theorem numF_end {s : ByteArray} {g : Int} {f p : Nat} {n : Int} (h : ¬ p < s.size) : numF s g f p n = (n, true) := by
  cases f with
  | zero => rfl
  | succ f => show (if p < s.size then _ else (n, true)) = _; rw [if_neg h]
theorem numF_go {s : ByteArray} {g : Int} {f p : Nat} {n : Int} (h : p < s.size) (hf : s.size - p ≤ f) : numF s g f p n = if rn s p < 48 ∨ 57 < rn s p then (0, false) else if g < 10 * n + (rn s p - 48) then (0, false) else numF s g (f - 1) (p + rl s p) (10 * n + (rn s p - 48)) := by
  obtain ⟨k, rfl⟩ : ∃ k, f = k + 1 := ⟨f - 1, by omega⟩
  show (if p < s.size then _ else (n, true)) = _
  rw [if_pos h]; rfl
theorem ret_ib {a b : Int} {c d : Bool} (h : a = b) (k : c = d) : Ending.returned (.tuple #[.int .i64 a, .bool c]) = .returned (.tuple #[.int .i64 b, .bool d]) := by rw [h, k]
theorem rl_pos {s : ByteArray} {p : Nat} (h : p < s.size) : 1 ≤ rl s p := Lib.decode_width_pos s p h
theorem loop_len (s : ByteArray) : ∀ (n i : Nat) (r : List UInt8), s.size - i = n → (ByteArray.toList.loop s i r).length = r.length + n
  | 0, i, r, h => by
    rw [ByteArray.toList.loop, if_neg (by omega), List.length_reverse]; rfl
  | n + 1, i, r, h => by
    rw [ByteArray.toList.loop, if_pos (by omega), loop_len s n (i + 1) _ (by omega), List.length_cons]; omega
theorem toList_some (s : ByteArray) : (!s.toList.isEmpty) = decide (0 < s.size) := by
  have h : s.toList.length = s.size := by
    have := loop_len s s.size 0 [] (by omega)
    simpa [ByteArray.toList] using this
  by_cases g : 0 < s.size
  · rw [decide_eq_true g]
    cases hl : s.toList with
    | nil => rw [hl] at h; simp at h; omega
    | cons a l => rfl
  · rw [decide_eq_false g]
    cases hl : s.toList with
    | nil => rfl
    | cons a l => rw [hl] at h; simp at h; omega
set_option maxRecDepth 100000 in
set_option maxHeartbeats 1600000 in
theorem number_c (s : ByteArray) (g v : Int) (o : Bool) (w : World) (hs : s.size ≤ 1000000) (hg0 : 0 ≤ g) (hg : g ≤ 100000000000000000) (h : Hid (numS s g = (v, o))) : Calls Tryd.prog 51 #[.string s, .int .i64 g] w fun E w' => E = .returned (.tuple #[.int .i64 v, .bool o]) ∧ Q w w' := by
  have HR := Lib.hid (show finN s (numF s g s.size 0 0) = (v, o) from h.out)
  go_enter Tryd.func51, Tryd.ntmps51
  go_wp2_with fail
  go_loopw [6] (fun v6 wr => ∃ (k f : Nat) (n : Int), v6 = .int .i64 n ∧ Hid (s.size - k ≤ f ∧ 0 ≤ n ∧ n ≤ g ∧ finN s (numF s g f k n) = (v, o) ∧ wr.heap[w.heap.size]? = some (.stringIter s k) ∧ Q w wr)) (fun _ wr => s.size - wr.iterPos w.heap.size)
  case atStart => exact ⟨0, s.size, 0, rfl, Nat.le_refl _, Int.le_refl _, hg0, HR.out, World.iter_heap _ _ _, (Q.refl w).alloc _⟩
  case round =>
    obtain ⟨k, f, n, rfl, HI⟩ := hrel
    by_cases hlt : k < s.size
    · obtain ⟨hf, hn0, hng, hfin, hit, hqw⟩ := HI.out
      have hnx := fun ty => Lib.run_next_any_at (P := Tryd.prog) wr w.heap.size s k ty hit hlt
      rw [numF_go hlt hf] at hfin
      have hl := rl_pos hlt
      obtain ⟨z, hz⟩ : ∃ z : Int, rn s k = z := ⟨_, rfl⟩
      have hz0 : 0 ≤ z := by rw [← hz]; exact Int.natCast_nonneg _
      obtain ⟨m, hm⟩ : ∃ n, rl s k = n := ⟨_, rfl⟩
      rw [hz, hm] at hfin
      rw [hm] at hl
      unfold rn at hz
      unfold rl at hm
      rw [hm, hz] at hnx
      obtain ⟨W1, hW1⟩ : ∃ W1, wr.iterAt w.heap.size s (k + m) = W1 := ⟨_, rfl⟩
      rw [hW1] at hnx
      have HQ := Lib.hid (show Q w W1 by rw [← hW1]; exact Lib.below_iterAt hqw (Nat.le_refl _) _ _)
      have HT := Lib.hid (show W1.heap[w.heap.size]? = some (.stringIter s (k + m)) by rw [← hW1]; exact Lib.iterAt_heap _ _ _ _ _ hit)
      have HP := Lib.hid (iterP hit)
      have HP1 := Lib.hid (iterP HT.out)
      have HK := Lib.hid (And.intro hlt (And.intro hl hf))
      clear hit hW1 hm hz hqw HI hl hf
      by_cases e1 : z < 48 ∨ 57 < z
      · rw [if_pos e1] at hfin
        have hE : (0 : Int) = v ∧ false = o := by unfold finN at hfin; rw [if_neg (by decide)] at hfin; injection hfin with a b; exact ⟨a, b⟩
        obtain ⟨rfl, rfl⟩ := hE
        have e2 : (decide (z < 48) = true ∧ z < 48) ∨ (decide (z < 48) = false ∧ ¬ z < 48 ∧ decide (57 < z) = true ∧ 57 < z) := by
          by_cases q : z < 48
          · exact .inl ⟨decide_eq_true q, q⟩
          · have q2 : 57 < z := by omega
            exact .inr ⟨decide_eq_false q, q, decide_eq_true q2, q2⟩
        clear e1 hfin
        rcases e2 with ⟨q1, q1'⟩ | ⟨q1, q1', q2, q2'⟩
        all_goals go_wp2_with fail
        all_goals go_ret2
        all_goals exact ⟨rfl, HQ.out⟩
      · rw [if_neg e1] at hfin
        have q1 : decide (z < 48) = false := decide_eq_false (by omega)
        have q2 : decide (57 < z) = false := decide_eq_false (by omega)
        have q1' : ¬ z < 48 := by omega
        have q2' : ¬ 57 < z := by omega
        obtain ⟨d, hd⟩ : ∃ d, z - 48 = d := ⟨_, rfl⟩
        have r1 : IntKind.i32.wrap (z - 48) = d := by rw [hd]; simp [IntKind.wrap, IntKind.bits, IntKind.signed]; omega
        have r2 : wrap64 d = d := IntWalk.wrap64_in _ (by omega)
        obtain ⟨t, ht⟩ : ∃ t, 10 * n = t := ⟨_, rfl⟩
        have r3 : wrap64 (10 * n) = t := by rw [ht]; exact IntWalk.wrap64_in _ (by omega)
        obtain ⟨x, hx⟩ : ∃ x, t + d = x := ⟨_, rfl⟩
        have r4 : wrap64 (t + d) = x := by rw [hx]; exact IntWalk.wrap64_in _ (by omega)
        rw [hd, ht, hx] at hfin
        have hx0 : 0 ≤ x := by omega
        by_cases e2 : g < x
        · rw [if_pos e2] at hfin
          have hE : (0 : Int) = v ∧ false = o := by unfold finN at hfin; rw [if_neg (by decide)] at hfin; injection hfin with a b; exact ⟨a, b⟩
          obtain ⟨rfl, rfl⟩ := hE
          have e2' : decide (g < x) = true := decide_eq_true e2
          clear e1 hfin hd ht hx hn0 hng
          go_wp2_with fail
          go_ret2
          exact ⟨rfl, HQ.out⟩
        · rw [if_neg e2] at hfin
          have e2' : decide (g < x) = false := decide_eq_false e2
          have HF := Lib.hid hfin
          have HX := Lib.hid (show 0 ≤ x ∧ x ≤ g by omega)
          clear e1 hfin hd ht hx hn0 hng
          go_wp2_with fail
          go_roundw
          case rel => exact ⟨k + m, f - 1, x, by first | rfl | rw [r4], by have := HK.out; omega, HX.out.1, HX.out.2, HF.out, HT.out, HQ.out⟩
          case measure => rw [HP.out, HP1.out]; have := HK.out; omega
    · obtain ⟨hf, hn0, hng, hfin, hit, hqw⟩ := HI.out
      have hnx := fun ty => Lib.run_next_end_at (P := Tryd.prog) wr w.heap.size s k ty hit (by omega)
      rw [numF_end hlt] at hfin
      have hE : n = v ∧ decide (0 < s.size) = o := by unfold finN at hfin; rw [if_pos rfl] at hfin; injection hfin with a b; exact ⟨a, b⟩
      have HE := Lib.hid hE
      have HQ := Lib.hid hqw
      clear HI hfin hit hqw hE hn0 hng
      go_wp2_with fail
      go_ret2
      exact ⟨ret_ib HE.out.1 (by rw [toList_some]; exact HE.out.2), HQ.out⟩
end Go.Proofs.YthpopopodjgdaaaDoor
