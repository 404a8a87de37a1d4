/- The contracts of the reference's Has and Total, and of small. -/
import Derived.Test.YtnbpkbdkhegheaaHas
import Derived.Test.YtnbpkbdkhegheaaTotal
set_option linter.unusedVariables false
set_option linter.unusedSimpArgs false
namespace Go.Proofs.Ytnbpkbdkhegheaa
open Go.ChangeShapes Go.WideShapes Go.ChangeAt Go.RowKit Sm

set_option maxRecDepth 100000 in
set_option maxHeartbeats 1600000 in
theorem rHas_c (v : Value) (l : List S) (x : Int) (w : World) (hr : Rd w v l) (hl : l.length ≤ 1000000) : Calls Try.prog 33 #[v, .int .i64 x] w fun e w' => e = .returned (.bool (hasL l x)) ∧ Q w w' := by
  have HR := Lib.hid hr
  obtain ⟨A, c, rfl, hc, _⟩ := hr
  obtain ⟨n, hn⟩ : ∃ n, l.length = n := ⟨_, rfl⟩
  have HN := Lib.hid hn
  rw [hn]
  have hn6 : n ≤ 1000000 := by omega
  clear hc hn hl
  go_enter Try.func33, Try.ntmps33
  go_wp2_with fail
  go_loopw [5] (fun u5 wr => ∃ k : Nat, k ≤ n ∧ u5 = .int .i64 k ∧ Hid ((∀ i, i < k → ∀ s, l[i]? = some s → inS s x = false) ∧ Q w wr)) (fun u5 _ => n - (intOf u5).toNat)
  case atStart => exact ⟨0, Nat.zero_le _, rfl, fun i hi => by omega, Q.refl _⟩
  case round =>
    obtain ⟨k, hk, rfl, HI⟩ := hrel
    by_cases hlt : k < n
    · have hkl : k < l.length := by rw [HN.out]; exact hlt
      obtain ⟨b, off, c', hv', hc', hb', hx0, hx1⟩ := HR.out.cons (i := k) hkl
      obtain ⟨rfl, _, rfl⟩ : A = some ⟨b, off, none⟩ ∧ l.length = l.length ∧ c = c' := by injection hv' with e1 e2 e3; exact ⟨e1, e2, e3⟩
      have hq := HI.out.2
      have hp0 := (hq.cell (p := ⟨b, off + k * 2, none⟩) hb').trans hx0
      have hp1 := (hq.cell (p := ⟨b, off + k * 2 + 1, none⟩) hb').trans hx1
      obtain ⟨s, hs⟩ : ∃ s, l[k] = s := ⟨_, rfl⟩
      rw [hs] at hp0 hp1
      have HS := Lib.hid (show l[k]? = some s by rw [List.getElem?_eq_getElem hkl, hs])
      obtain ⟨sa, sb⟩ := s
      dsimp only at hp0 hp1
      clear hx0 hx1 hv' hc' hs hq hkl
      by_cases h1 : sa ≤ x
      · by_cases h2 : x < sb
        · have HE := Lib.hid (any_hit (x := x) HS.out (by unfold inS; simp [h1, h2]))
          have h2' : decide (x < sb) = true := decide_eq_true h2
          go_wp2_with fail
          go_ret
          exact ⟨ret_bool HE.out.symm, HI.out.2⟩
        · have h2' : decide (x < sb) = false := decide_eq_false h2
          have HG := Lib.hid (show ∀ i, i < k + 1 → ∀ s, l[i]? = some s → inS s x = false from fun i hi s hs => by
            by_cases e : i = k
            · subst e; rw [HS.out] at hs; injection hs with hs; subst hs; unfold inS; simp [h2]; 
            · exact HI.out.1 i (by omega) s hs)
          go_wp2_with fail
          go_roundw
          case rel => exact ⟨k + 1, by omega, by go_num, HG.out, HI.out.2⟩
          case measure => simp [intOf] <;> omega
      · have h1' : decide (sa ≤ x) = false := decide_eq_false h1
        have HG := Lib.hid (show ∀ i, i < k + 1 → ∀ s, l[i]? = some s → inS s x = false from fun i hi s hs => by
          by_cases e : i = k
          · subst e; rw [HS.out] at hs; injection hs with hs; subst hs; unfold inS; simp [h1]
          · exact HI.out.1 i (by omega) s hs)
        go_wp2_with fail
        go_roundw
        case rel => exact ⟨k + 1, by omega, by go_num, HG.out, HI.out.2⟩
        case measure => simp [intOf] <;> omega
    · obtain rfl : k = n := by omega
      have HE := Lib.hid (any_miss (l := l) (x := x) fun i hi => HI.out.1 i (by rw [HN.out] at hi; exact hi))
      go_wp2_with fail
      go_ret
      exact ⟨ret_bool HE.out.symm, HI.out.2⟩
def smallS (s : S) : Prop := -1152921504606846976 ≤ s.1 ∧ s.1 ≤ 1152921504606846976 ∧ -1152921504606846976 ≤ s.2 ∧ s.2 ≤ 1152921504606846976
def smallL (l : List S) : Prop := ∀ s ∈ l, smallS s
/-- whatever small answers, 'true' says that the list is small -/
def SmallPost (l : List S) (w : World) (e : Ending) (w' : World) : Prop := ∃ b, e = .returned (.bool b) ∧ (b = true → smallL l) ∧ Q w w'
set_option maxRecDepth 100000 in
set_option maxHeartbeats 1600000 in
theorem small_c (v : Value) (l : List S) (w : World) (hr : Rd w v l) (hl : l.length ≤ 1000000) : Calls Try.prog 34 #[v] w (SmallPost l w) := by
  have HR := Lib.hid hr
  obtain ⟨A, c, rfl, hc, _⟩ := hr
  obtain ⟨n, hn⟩ : ∃ n, l.length = n := ⟨_, rfl⟩
  have HN := Lib.hid hn
  rw [hn]
  have hn6 : n ≤ 1000000 := by omega
  clear hc hn hl
  go_enter Try.func34, Try.ntmps34
  go_wp2_with fail
  go_loopw [3] (fun u3 wr => ∃ k : Nat, k ≤ n ∧ u3 = .int .i64 k ∧ Hid ((∀ i, i < k → ∀ s, l[i]? = some s → smallS s) ∧ Q w wr)) (fun u3 _ => n - (intOf u3).toNat)
  case atStart => exact ⟨0, Nat.zero_le _, rfl, fun i hi => by omega, Q.refl _⟩
  case round =>
    obtain ⟨k, hk, rfl, HI⟩ := hrel
    by_cases hlt : k < n
    · have hkl : k < l.length := by rw [HN.out]; exact hlt
      obtain ⟨b, off, c', hv', hc', hb', hx0, hx1⟩ := HR.out.cons (i := k) hkl
      obtain ⟨rfl, _, rfl⟩ : A = some ⟨b, off, none⟩ ∧ l.length = l.length ∧ c = c' := by injection hv' with e1 e2 e3; exact ⟨e1, e2, e3⟩
      have hq := HI.out.2
      have hp0 := (hq.cell (p := ⟨b, off + k * 2, none⟩) hb').trans hx0
      have hp1 := (hq.cell (p := ⟨b, off + k * 2 + 1, none⟩) hb').trans hx1
      obtain ⟨s, hs⟩ : ∃ s, l[k] = s := ⟨_, rfl⟩
      rw [hs] at hp0 hp1
      have HS := Lib.hid (show l[k]? = some s by rw [List.getElem?_eq_getElem hkl, hs])
      obtain ⟨sa, sb⟩ := s
      dsimp only at hp0 hp1
      clear hx0 hx1 hv' hc' hs hq hkl
      by_cases h1 : sa < -1152921504606846976
      · have h1' : decide (sa < -1152921504606846976) = true := decide_eq_true h1
        go_wp2_with fail
        go_ret
        exact ⟨false, rfl, fun e => (by cases e), HI.out.2⟩
      · have h1' : decide (sa < -1152921504606846976) = false := decide_eq_false h1
        by_cases h2 : 1152921504606846976 < sa
        · have h2' : decide (1152921504606846976 < sa) = true := decide_eq_true h2
          go_wp2_with fail
          go_ret
          exact ⟨false, rfl, fun e => (by cases e), HI.out.2⟩
        · have h2' : decide (1152921504606846976 < sa) = false := decide_eq_false h2
          by_cases h3 : sb < -1152921504606846976
          · have h3' : decide (sb < -1152921504606846976) = true := decide_eq_true h3
            go_wp2_with fail
            go_ret
            exact ⟨false, rfl, fun e => (by cases e), HI.out.2⟩
          · have h3' : decide (sb < -1152921504606846976) = false := decide_eq_false h3
            by_cases h4 : 1152921504606846976 < sb
            · have h4' : decide (1152921504606846976 < sb) = true := decide_eq_true h4
              go_wp2_with fail
              go_ret
              exact ⟨false, rfl, fun e => (by cases e), HI.out.2⟩
            · have h4' : decide (1152921504606846976 < sb) = false := decide_eq_false h4
              have HG := Lib.hid (show ∀ i, i < k + 1 → ∀ s, l[i]? = some s → smallS s from fun i hi s hs => by
                by_cases e : i = k
                · subst e; rw [HS.out] at hs; injection hs with hs; subst hs; unfold smallS; simp only; omega
                · exact HI.out.1 i (by omega) s hs)
              go_wp2_with fail
              go_roundw
              case rel => exact ⟨k + 1, by omega, by go_num, HG.out, HI.out.2⟩
              case measure => simp [intOf] <;> omega
    · obtain rfl : k = n := by omega
      have HE := Lib.hid (show smallL l from fun s hs => by
        obtain ⟨i, hi, e⟩ := List.getElem_of_mem hs
        exact HI.out.1 i (by rw [HN.out] at hi; exact hi) s (by rw [List.getElem?_eq_getElem hi, e]))
      go_wp2_with fail
      go_ret
      exact ⟨true, rfl, fun _ => HE.out, HI.out.2⟩
set_option maxRecDepth 100000 in
set_option maxHeartbeats 1600000 in
theorem rTotal_c (v : Value) (l : List S) (w : World) (hr : Rd w v l) (hl : l.length ≤ 100000) (hf : FitL l) : Calls Try.prog 31 #[v] w fun e w' => e = .returned (.int .i64 (totL (canonL l))) ∧ Q w w' := by
  have HR := Lib.hid hr
  have HL := Lib.hid hl
  have HF := Lib.hid hf.canon
  have HCL := Lib.hid (Nat.le_trans (canon_spec l).2.2 hl)
  clear hr hl hf
  generalize hX : canonL l = X at HF HCL
  have HX := Lib.hid hX
  clear hX
  go_enter Try.func31, Try.ntmps31
  go_wp2_with fail
  refine (rCanon_c v l _ HR.out HL.out).mono ?_
  rintro e w1 ⟨x1, rfl, ho1, hq1⟩
  rw [HX.out] at ho1
  have HR1 := Lib.hid ho1.rd
  obtain ⟨A, c, rfl⟩ := ho1.len
  obtain ⟨n, hn⟩ : ∃ n, X.length = n := ⟨_, rfl⟩
  have HN := Lib.hid hn
  have hn6 : n ≤ 1000000 := by have := HCL.out; omega
  have HQ1 := Lib.hid hq1
  rw [hn]
  clear hn ho1 hq1
  go_wp2_with fail
  go_loopw [3, 5] (fun u3 u5 wr => ∃ (k : Nat) (t : Int), k ≤ n ∧ u3 = .int .i64 t ∧ u5 = .int .i64 k ∧ Hid (totL (X.take k) = t ∧ Q w1 wr)) (fun _ u5 _ => n - (intOf u5).toNat)
  case atStart => exact ⟨0, 0, Nat.zero_le _, rfl, rfl, rfl, Q.refl _⟩
  case round =>
    obtain ⟨k, t, hk, rfl, rfl, HI⟩ := hrel
    by_cases hlt : k < n
    · have hkl : k < X.length := by rw [HN.out]; exact hlt
      obtain ⟨b, off, c', hv', hc', hb', hx0, hx1⟩ := HR1.out.cons (i := k) hkl
      obtain ⟨rfl, _, rfl⟩ : A = some ⟨b, off, none⟩ ∧ X.length = X.length ∧ c = c' := by injection hv' with e1 e2 e3; exact ⟨e1, e2, e3⟩
      have hq := HI.out.2
      have hp0 := (hq.cell (p := ⟨b, off + k * 2, none⟩) hb').trans hx0
      have hp1 := (hq.cell (p := ⟨b, off + k * 2 + 1, none⟩) hb').trans hx1
      obtain ⟨s, hs⟩ : ∃ s, X[k] = s := ⟨_, rfl⟩
      rw [hs] at hp0 hp1
      have hs2 : X[k]? = some s := by rw [List.getElem?_eq_getElem hkl, hs]
      have HFS := Lib.hid (HF.out.at hs2)
      obtain ⟨x, hx⟩ : ∃ x, lenS s = x := ⟨_, rfl⟩
      have HX1 := Lib.hid hx
      have ht0 : 0 ≤ t ∧ t ≤ 9223372036854775807 := by rw [← HI.out.1]; exact tot_range _
      have hx0' := len_range s
      rw [hx] at hx0'
      obtain ⟨r, hr⟩ : ∃ r, 9223372036854775807 - t = r := ⟨_, rfl⟩
      have hr1 : IntKind.i64.wrap (9223372036854775807 - t) = r := by rw [hr]; exact wrap_i64 _ (by unfold Fit; omega)
      have HP := Lib.hid (show ∀ W, Q wr W → W.cell? ⟨b, off + k * 2, none⟩ = some (.int .i64 s.1) ∧ W.cell? ⟨b, off + k * 2 + 1, none⟩ = some (.int .i64 s.2) from fun W hW =>
        ⟨(hW.cell (p := ⟨b, off + k * 2, none⟩) (Nat.lt_of_lt_of_le hb' hq.size)).trans hp0, (hW.cell (p := ⟨b, off + k * 2 + 1, none⟩) (Nat.lt_of_lt_of_le hb' hq.size)).trans hp1⟩)
      by_cases hbig : r < x
      · have HE := Lib.hid (show totL X = 9223372036854775807 from tot_full hs2 (by rw [HI.out.1, hx, hr]; exact hbig))
        have hbig' : decide (r < x) = true := decide_eq_true hbig
        clear hx0 hx1 hv' hc' hs hs2 hq hkl hx hx0' ht0 hr
        go_wp2_with fail
        refine (rLen_at s x _ HFS HX1).mono ?_; rintro e w2 ⟨rfl, hq2⟩
        have HQ2 := Lib.hid (HI.out.2.trans hq2)
        clear hq2
        go_wp2_with fail
        go_ret
        exact ⟨ret_int HE.out.symm, HQ1.out.trans HQ2.out⟩
      · have hbig' : decide (r < x) = false := decide_eq_false hbig
        obtain ⟨t', ht'⟩ : ∃ t', t + x = t' := ⟨_, rfl⟩
        have hr2 : IntKind.i64.wrap (t + x) = t' := by rw [ht']; exact wrap_i64 _ (by unfold Fit; omega)
        have HT := Lib.hid (show totL (X.take (k + 1)) = t' by rw [tot_take hs2, HI.out.1]; unfold stepT; rw [hx, hr, ← ht']; omega)
        clear hx0 hx1 hv' hc' hs hs2 hq hkl hx hx0' ht0 hr ht'
        go_wp2_with fail
        refine (rLen_at s x _ HFS HX1).mono ?_; rintro e w2 ⟨rfl, hq2⟩
        have HQ2 := Lib.hid (HI.out.2.trans hq2)
        obtain ⟨hy0, hy1⟩ := HP.out w2 hq2
        clear hq2
        go_wp2_with fail
        refine (rLen_at s x _ HFS HX1).mono ?_; rintro e w3 ⟨rfl, hq3⟩
        have HQ3 := Lib.hid (HQ2.out.trans hq3)
        clear hq3
        go_wp2_with fail
        go_roundw
        case rel => exact ⟨k + 1, t', by omega, rfl, by go_num, HT.out, HQ3.out⟩
        case measure => simp [intOf] <;> omega
    · obtain rfl : k = n := by omega
      have HE := Lib.hid (show totL X = t by rw [← HI.out.1, List.take_of_length_le (by rw [HN.out]; exact Nat.le_refl _)])
      go_wp2_with fail
      go_ret
      exact ⟨ret_int HE.out.symm, HQ1.out.trans HI.out.2⟩
end Go.Proofs.Ytnbpkbdkhegheaa
