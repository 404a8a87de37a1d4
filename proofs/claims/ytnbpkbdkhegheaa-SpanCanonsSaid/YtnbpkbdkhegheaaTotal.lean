/- The contracts of Total and its reference. -/
import Derived.Test.YtnbpkbdkhegheaaRCanon
set_option linter.unusedVariables false
set_option linter.unusedSimpArgs false
namespace Go.Proofs.Ytnbpkbdkhegheaa
open Go.ChangeShapes Go.WideShapes Go.ChangeAt Go.RowKit Sm

/-- the number of integers of a span, unbounded -/
def len0 (s : S) : Int := max (s.2 - s.1) 0
def most : Int := 9223372036854775807
def stepT (t : Int) (s : S) : Int := t + min (lenS s) (9223372036854775807 - t)
def totL (l : List S) : Int := l.foldl stepT 0
theorem len_len0 (s : S) : lenS s = min (len0 s) 9223372036854775807 := by
  unfold lenS len0
  by_cases h : s.2 ≤ s.1
  · rw [if_pos h]; omega
  · rw [if_neg h]; omega
theorem len_range (s : S) : 0 ≤ lenS s ∧ lenS s ≤ 9223372036854775807 := by rw [len_len0]; unfold len0; omega
theorem step_range {t : Int} (h : 0 ≤ t ∧ t ≤ 9223372036854775807) (s : S) : 0 ≤ stepT t s ∧ stepT t s ≤ 9223372036854775807 ∧ t ≤ stepT t s := by
  have := len_range s; unfold stepT; omega
theorem tot_take {l : List S} {k : Nat} {s : S} (h : l[k]? = some s) : totL (l.take (k + 1)) = stepT (totL (l.take k)) s := by
  obtain ⟨hk, e⟩ := List.getElem?_eq_some_iff.1 h
  unfold totL; rw [List.take_succ_eq_append_getElem hk, List.foldl_append, e]; rfl
theorem tot_range (l : List S) : 0 ≤ totL l ∧ totL l ≤ 9223372036854775807 := by
  refine snoc_ind (p := fun l => 0 ≤ totL l ∧ totL l ≤ 9223372036854775807) ?_ (fun l s ih => ?_) l
  · show (0 : Int) ≤ 0 ∧ (0 : Int) ≤ _; omega
  · have := step_range ih s
    unfold totL at *; rw [List.foldl_append]; exact ⟨this.1, this.2.1⟩
theorem tot_stay {l : List S} : ∀ {t : Int}, t = 9223372036854775807 → l.foldl stepT t = t := by
  induction l with
  | nil => intro t h; rfl
  | cons s l ih =>
    intro t h
    have e : stepT t s = t := by have := len_range s; unfold stepT; omega
    rw [List.foldl_cons, e]; exact ih h
theorem tot_full {l : List S} {k : Nat} {s : S} (h : l[k]? = some s) (hs : 9223372036854775807 - totL (l.take k) < lenS s) : totL l = 9223372036854775807 := by
  obtain ⟨hk, e⟩ := List.getElem?_eq_some_iff.1 h
  have h1 := tot_take h
  have e1 : stepT (totL (l.take k)) s = 9223372036854775807 := by have := tot_range (l.take k); unfold stepT; omega
  have h2 : totL l = (l.drop (k + 1)).foldl stepT (totL (l.take (k + 1))) := by
    unfold totL; rw [← List.foldl_append, List.take_append_drop]
  rw [h2, h1, e1]; exact tot_stay rfl
theorem fit_add {X : List S} {s : S} (hX : FitL X) (hs : FitS s) : FitL (addL X s) := fun u hu => by
  by_cases h0 : s.2 ≤ s.1
  · rw [add_empty h0] at hu; exact hX u hu
  · rcases snoc_cases X with rfl | ⟨Y, t, rfl⟩
    · rw [add_nil h0, List.mem_singleton] at hu; rw [hu]; exact hs
    · by_cases h1 : t.2 < s.1
      · rw [add_far h0 h1, List.mem_append, List.mem_singleton] at hu
        rcases hu with hu | rfl
        · exact hX u hu
        · exact hs
      · rw [add_near h0 h1, List.mem_append, List.mem_singleton] at hu
        rcases hu with hu | rfl
        · exact hX u (List.mem_append_left _ hu)
        · have := hX t (by simp)
          unfold FitS Fit at *; simp only; omega
theorem fit_adds {l : List S} : FitL l → FitL (addsL l) := by
  refine snoc_ind (p := fun l => FitL l → FitL (addsL l)) (fun _ s hs => by cases hs) (fun l s ih h => ?_) l
  rw [adds_snoc]
  exact fit_add (ih fun t ht => h t (List.mem_append_left _ ht)) (h s (by simp))
theorem FitL.canon {l : List S} (h : FitL l) : FitL (canonL l) :=
  fit_adds fun s hs => h s ((List.mergeSort_perm l leS).mem_iff.1 hs)
theorem FitL.at {l : List S} (h : FitL l) {i : Nat} {s : S} (hs : l[i]? = some s) : FitS s := h s (List.mem_of_getElem? hs)
theorem Own.len {B : Nat} {v : Value} {l : List S} {w : World} (h : Own B v l w) : ∃ A c, v = .slice A l.length c := by
  obtain ⟨A, c, h, _⟩ := h.rd; exact ⟨A, c, h⟩
theorem tot_fit (l : List S) : Fit (totL l) := by have := tot_range l; unfold Fit; omega
theorem wrap_i64' {n : Int} (h : Fit n) : IntKind.i64.wrap n = n := wrap_i64 n h
theorem Len_at (s : S) (x : Int) (w : World) (hf : Hid (FitS s)) (h : Hid (lenS s = x)) : Calls Try.prog 11 #[.agg #[.int .i64 s.1, .int .i64 s.2]] w fun e w' => e = .returned (.int .i64 x) ∧ Q w w' :=
  (Len_c s.1 s.2 w hf.out).mono fun _ _ ⟨a, b⟩ => ⟨by rw [a, ← h.out], b⟩
theorem rLen_at (s : S) (x : Int) (w : World) (hf : Hid (FitS s)) (h : Hid (lenS s = x)) : Calls Try.prog 12 #[.agg #[.int .i64 s.1, .int .i64 s.2]] w fun e w' => e = .returned (.int .i64 x) ∧ Q w w' :=
  (rLen_c s.1 s.2 w hf.out).mono fun _ _ ⟨a, b⟩ => ⟨by rw [a, ← h.out], b⟩
set_option maxRecDepth 100000 in
set_option maxHeartbeats 1600000 in
theorem Total_c (v : Value) (l : List S) (w : World) (hr : Rd w v l) (hl : l.length ≤ 1000000) (hf : FitL l) : Calls Try.prog 30 #[v] w fun e w' => e = .returned (.int .i64 (totL (canonL l))) ∧ Q w w' := by
  have HR := Lib.hid hr
  have HL := Lib.hid hl
  have HF := Lib.hid hf.canon
  have HCL := Lib.hid (Nat.le_trans (canon_spec l).2.2 hl)
  clear hr hl hf
  generalize hX : canonL l = X at HF HCL
  have HX := Lib.hid hX
  clear hX
  go_enter Try.func30, Try.ntmps30
  go_wp2_with fail
  refine (Canon_c v l _ HR.out HL.out).mono ?_
  rintro e w1 ⟨x1, rfl, ho1, hq1⟩
  rw [HX.out] at ho1
  have HR1 := Lib.hid ho1.rd
  obtain ⟨A, c, rfl⟩ := ho1.len
  obtain ⟨n, hn⟩ : ∃ n, X.length = n := ⟨_, rfl⟩
  have HN := Lib.hid hn
  have hn6 : n ≤ 1000000 := by have := HCL.out; omega
  have HQ1 := Lib.hid hq1
  rw [hn]
  clear hn ho1 hq1
  go_wp2_with fail
  go_loopw [3, 9] (fun u3 u9 wr => ∃ (k : Nat) (t : Int), k ≤ n ∧ u3 = .int .i64 t ∧ u9 = .int .i64 k ∧ Hid (totL (X.take k) = t ∧ Q w1 wr)) (fun _ u9 _ => n - (intOf u9).toNat)
  case atStart => exact ⟨0, 0, Nat.zero_le _, rfl, rfl, rfl, Q.refl _⟩
  case round =>
    obtain ⟨k, t, hk, rfl, rfl, HI⟩ := hrel
    by_cases hlt : k < n
    · have hkl : k < X.length := by rw [HN.out]; exact hlt
      obtain ⟨b, off, c', hv', hc', hb', hx0, hx1⟩ := HR1.out.cons (i := k) hkl
      obtain ⟨rfl, _, rfl⟩ : A = some ⟨b, off, none⟩ ∧ X.length = X.length ∧ c = c' := by injection hv' with e1 e2 e3; exact ⟨e1, e2, e3⟩
      have hq := HI.out.2
      have hp0 := (hq.cell (p := ⟨b, off + k * 2, none⟩) hb').trans hx0
      have hp1 := (hq.cell (p := ⟨b, off + k * 2 + 1, none⟩) hb').trans hx1
      obtain ⟨s, hs⟩ : ∃ s, X[k] = s := ⟨_, rfl⟩
      rw [hs] at hp0 hp1
      have hs2 : X[k]? = some s := by rw [List.getElem?_eq_getElem hkl, hs]
      have HFS := Lib.hid (HF.out.at hs2)
      obtain ⟨x, hx⟩ : ∃ x, lenS s = x := ⟨_, rfl⟩
      have HX1 := Lib.hid hx
      have ht0 : 0 ≤ t ∧ t ≤ 9223372036854775807 := by rw [← HI.out.1]; exact tot_range _
      have hx0' := len_range s
      rw [hx] at hx0'
      obtain ⟨r, hr⟩ : ∃ r, 9223372036854775807 - t = r := ⟨_, rfl⟩
      have hr1 : IntKind.i64.wrap (9223372036854775807 - t) = r := by rw [hr]; exact wrap_i64 _ (by unfold Fit; omega)
      obtain ⟨m, hm⟩ : ∃ m, min x r = m := ⟨_, rfl⟩
      obtain ⟨t', ht'⟩ : ∃ t', t + m = t' := ⟨_, rfl⟩
      have hr2 : IntKind.i64.wrap (t + m) = t' := by rw [ht']; exact wrap_i64 _ (by unfold Fit; omega)
      have HT := Lib.hid (show totL (X.take (k + 1)) = t' by rw [tot_take hs2, HI.out.1]; unfold stepT; rw [hx, hr, hm, ht'])
      clear hx0 hx1 hv' hc' hs hs2 hq hkl hx hx0' ht0 hr ht'
      go_wp2_with fail
      refine (Len_at s x _ HFS HX1).mono ?_; rintro e w2 ⟨rfl, hq2⟩
      have HQ2 := Lib.hid (((HI.out.2.alloc _).trans hq2))
      clear hq2
      go_wp2_with fail
      go_roundw
      case rel => exact ⟨k + 1, t', by omega, rfl, by go_num, HT.out, HQ2.out⟩
      case measure => simp [intOf] <;> omega
    · obtain rfl : k = n := by omega
      have HE := Lib.hid (show totL X = t by rw [← HI.out.1, List.take_of_length_le (by rw [HN.out]; exact Nat.le_refl _)])
      go_wp2_with fail
      go_ret
      exact ⟨ret_int HE.out.symm, HQ1.out.trans HI.out.2⟩
end Go.Proofs.Ytnbpkbdkhegheaa
