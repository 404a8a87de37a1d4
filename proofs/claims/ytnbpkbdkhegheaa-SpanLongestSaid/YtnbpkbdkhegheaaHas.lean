/- The contracts of Has and of Is. -/
import Derived.Test.YtnbpkbdkhegheaaRead
set_option linter.unusedVariables false
set_option linter.unusedSimpArgs false
namespace Go.Proofs.Ytnbpkbdkhegheaa
open Go.ChangeShapes Go.WideShapes Go.ChangeAt Go.RowKit Sm

def inS (s : S) (x : Int) : Bool := decide (s.1 ≤ x) && decide (x < s.2)
def hasL (l : List S) (x : Int) : Bool := l.any fun s => inS s x
theorem hasL_mem (l : List S) (x : Int) : hasL l x = true ↔ mem l x := by
  unfold hasL inS mem
  rw [List.any_eq_true]
  constructor
  · rintro ⟨s, hs, h⟩; rw [Bool.and_eq_true, decide_eq_true_eq, decide_eq_true_eq] at h; exact ⟨s, hs, h⟩
  · rintro ⟨s, hs, h⟩; exact ⟨s, hs, by rw [Bool.and_eq_true, decide_eq_true_eq, decide_eq_true_eq]; exact h⟩
theorem any_hit {l : List S} {x : Int} {k : Nat} {s : S} (h : l[k]? = some s) (hs : inS s x = true) : hasL l x = true := by
  unfold hasL; rw [List.any_eq_true]; exact ⟨s, List.mem_of_getElem? h, hs⟩
theorem any_miss {l : List S} {x : Int} (h : ∀ i, i < l.length → ∀ s, l[i]? = some s → inS s x = false) : hasL l x = false := by
  unfold hasL
  rw [List.any_eq_false]
  intro s hs
  obtain ⟨i, hi, e⟩ := List.getElem_of_mem hs
  rw [h i hi s (by rw [List.getElem?_eq_getElem hi, e])]; decide
set_option maxRecDepth 100000 in
set_option maxHeartbeats 1600000 in
theorem Has_c (v : Value) (l : List S) (x : Int) (w : World) (hr : Rd w v l) (hl : l.length ≤ 1000000) : Calls Try.prog 32 #[v, .int .i64 x] w fun e w' => e = .returned (.bool (hasL l x)) ∧ Q w w' := by
  have HR := Lib.hid hr
  obtain ⟨A, c, rfl, hc, _⟩ := hr
  obtain ⟨n, hn⟩ : ∃ n, l.length = n := ⟨_, rfl⟩
  have HN := Lib.hid hn
  rw [hn]
  have hn6 : n ≤ 1000000 := by omega
  clear hc hn hl
  go_enter Try.func32, Try.ntmps32
  go_wp2_with fail
  go_loopw [9] (fun u9 wr => ∃ k : Nat, k ≤ n ∧ u9 = .int .i64 k ∧ Hid ((∀ i, i < k → ∀ s, l[i]? = some s → inS s x = false) ∧ Q w wr)) (fun u9 _ => n - (intOf u9).toNat)
  case atStart => exact ⟨0, Nat.zero_le _, rfl, fun i hi => by omega, Q.refl _⟩
  case round =>
    obtain ⟨k, hk, rfl, HI⟩ := hrel
    by_cases hlt : k < n
    · have hkl : k < l.length := by rw [HN.out]; exact hlt
      obtain ⟨b, off, c', hv', hc', hb', hx0, hx1⟩ := HR.out.cons (i := k) hkl
      obtain ⟨rfl, _, rfl⟩ : A = some ⟨b, off, none⟩ ∧ l.length = l.length ∧ c = c' := by injection hv' with e1 e2 e3; exact ⟨e1, e2, e3⟩
      have hq := HI.out.2
      have hp0 := (hq.cell (p := ⟨b, off + k * 2, none⟩) hb').trans hx0
      have hp1 := (hq.cell (p := ⟨b, off + k * 2 + 1, none⟩) hb').trans hx1
      obtain ⟨s, hs⟩ : ∃ s, l[k] = s := ⟨_, rfl⟩
      rw [hs] at hp0 hp1
      have HS := Lib.hid (show l[k]? = some s by rw [List.getElem?_eq_getElem hkl, hs])
      obtain ⟨sa, sb⟩ := s
      dsimp only at hp0 hp1
      clear hx0 hx1 hv' hc' hs hq hkl
      by_cases h1 : sa ≤ x
      · by_cases h2 : x < sb
        · have HE := Lib.hid (any_hit (x := x) HS.out (by unfold inS; simp [h1, h2]))
          go_wp2_with fail
          go_ret
          exact ⟨ret_bool HE.out.symm, HI.out.2.alloc _⟩
        · have h2' : decide (x < sb) = false := decide_eq_false h2
          have HG := Lib.hid (show ∀ i, i < k + 1 → ∀ s, l[i]? = some s → inS s x = false from fun i hi s hs => by
            by_cases e : i = k
            · subst e; rw [HS.out] at hs; injection hs with hs; subst hs; unfold inS; simp [h2]; 
            · exact HI.out.1 i (by omega) s hs)
          go_wp2_with fail
          go_roundw
          case rel => exact ⟨k + 1, by omega, by go_num, HG.out, HI.out.2.alloc _⟩
          case measure => simp [intOf] <;> omega
      · have h1' : decide (sa ≤ x) = false := decide_eq_false h1
        have HG := Lib.hid (show ∀ i, i < k + 1 → ∀ s, l[i]? = some s → inS s x = false from fun i hi s hs => by
          by_cases e : i = k
          · subst e; rw [HS.out] at hs; injection hs with hs; subst hs; unfold inS; simp [h1]
          · exact HI.out.1 i (by omega) s hs)
        go_wp2_with fail
        go_roundw
        case rel => exact ⟨k + 1, by omega, by go_num, HG.out, HI.out.2.alloc _⟩
        case measure => simp [intOf] <;> omega
    · obtain rfl : k = n := by omega
      have HE := Lib.hid (any_miss (l := l) (x := x) fun i hi => HI.out.1 i (by rw [HN.out] at hi; exact hi))
      go_wp2_with fail
      go_ret
      exact ⟨ret_bool HE.out.symm, HI.out.2⟩
end Go.Proofs.Ytnbpkbdkhegheaa
