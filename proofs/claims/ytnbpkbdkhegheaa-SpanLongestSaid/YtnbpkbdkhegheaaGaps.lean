/- The contracts of gaps and Minus. -/
import Derived.Test.YtnbpkbdkhegheaaTotal
import Derived.Test.YtnbpkbdkhegheaaCommon
set_option linter.unusedVariables false
set_option linter.unusedSimpArgs false
namespace Go.Proofs.Ytnbpkbdkhegheaa
open Go.ChangeShapes Go.WideShapes Go.ChangeAt Go.RowKit Sm
theorem can_take {l : List S} (h : can l) (k : Nat) : can (l.take k) := ⟨fun s hs => h.1 s (List.mem_of_mem_take hs), List.Pairwise.sublist (List.take_sublist k l) h.2⟩
theorem gap_take {l : List S} {k : Nat} {s : S} (m : Int) (h : l[k]? = some s) : gapF (l.take (k + 1)) m = (addL (gapF (l.take k) m).1 ((gapF (l.take k) m).2, s.1), s.2) := by
  obtain ⟨hk, e⟩ := List.getElem?_eq_some_iff.1 h
  rw [List.take_succ_eq_append_getElem hk, gapF_snoc, e]
theorem gap_len {X : List S} (hX : can X) (hf : FitL X) (hl : X.length ≤ 1000000) (k : Nat) : (gapF (X.take k) (-9223372036854775808)).1.length ≤ 1000000 := by
  have := (gapF_spec (-9223372036854775808) (X.take k) (can_take hX k) fun s hs => (hf s (List.mem_of_mem_take hs)).1.1).2.2.2.2.2
  rw [List.length_take] at this; omega
theorem own_far {B : Nat} {v : Value} {l : List S} {w : World} (h : Own B v l w) : some w.heap.size ≠ v.ownBlock := fun e => by
  have := (h.lt w.heap.size e.symm).2; omega
def gapI (X : List S) (B : Nat) (w1 : World) (k : Nat) (f : Int) (u3 : Value) (wr : World) : Prop := ∃ R, gapF (X.take k) (-9223372036854775808) = (R, f) ∧ Own B u3 R wr ∧ Below B w1 wr
set_option maxRecDepth 100000 in
set_option maxHeartbeats 3200000 in
theorem gaps_c (v : Value) (l : List S) (w : World) (hr : Rd w v l) (hl : l.length ≤ 100000) (hf : FitL l) : Calls Try.prog 43 #[v] w (SetPost (gapL (canonL l) (-9223372036854775808) 9223372036854775807) w) := by
  have HR := Lib.hid hr
  have HL := Lib.hid (show l.length ≤ 1000000 by omega)
  have HF := Lib.hid hf.canon
  have HCL := Lib.hid (Nat.le_trans (canon_spec l).2.2 hl)
  clear hr hl hf
  generalize hX : canonL l = X at HF HCL
  have HX := Lib.hid hX
  clear hX
  go_enter Try.func43, Try.ntmps43
  go_wp2_with fail
  refine (Canon_c v l _ HR.out HL.out).mono ?_
  rintro e w1 ⟨x1, rfl, ho1, hq1⟩
  rw [HX.out] at ho1
  have HR1 := Lib.hid ho1.rd
  obtain ⟨A, c, rfl⟩ := ho1.len
  obtain ⟨n, hn⟩ : ∃ n, X.length = n := ⟨_, rfl⟩
  have HN := Lib.hid hn
  have hn6 : n ≤ 100000 := by have := HCL.out; omega
  have HQ1 := Lib.hid hq1
  rw [hn]
  have HLN := Lib.hid (fun k => gap_len (X := X) (by rw [← HX.out]; exact (canon_spec l).1) HF.out (by have := HCL.out; omega) k)
  clear hn ho1 hq1
  go_wp2_with fail
  go_loopw [3, 4, 10] (fun u3 u4 u10 wr => ∃ (k : Nat) (f : Int), k ≤ n ∧ u4 = .int .i64 f ∧ u10 = .int .i64 k ∧ Hid (gapI X w1.heap.size w1 k f u3 wr)) (fun _ _ u10 _ => n - (intOf u10).toNat)
  case atStart => exact ⟨0, _, Nat.zero_le _, rfl, rfl, [], rfl, own_nil _ _, Below.refl _ _⟩
  case round =>
    obtain ⟨k, f, hk, rfl, rfl, HI⟩ := hrel
    obtain ⟨R, hR, hO, hB⟩ := HI.out
    have HRR := Lib.hid hR
    have HO := Lib.hid hO
    have HB := Lib.hid hB
    clear HI hR hO
    by_cases hlt : k < n
    · have hkl : k < X.length := by rw [HN.out]; exact hlt
      obtain ⟨b, off, c', hv', hc', hb', hx0, hx1⟩ := HR1.out.cons (i := k) hkl
      obtain ⟨rfl, _, rfl⟩ : A = some ⟨b, off, none⟩ ∧ X.length = X.length ∧ c = c' := by injection hv' with e1 e2 e3; exact ⟨e1, e2, e3⟩
      have hp0 := (hB.cell (p := ⟨b, off + k * 2, none⟩) hb').trans hx0
      have hp1 := (hB.cell (p := ⟨b, off + k * 2 + 1, none⟩) hb').trans hx1
      obtain ⟨s, hs⟩ : ∃ s, X[k] = s := ⟨_, rfl⟩
      rw [hs] at hp0 hp1
      have HT := Lib.hid (show gapF (X.take (k + 1)) (-9223372036854775808) = (addL R (f, s.1), s.2) by rw [gap_take _ (show X[k]? = some s by rw [List.getElem?_eq_getElem hkl, hs]), HRR.out])
      have HRL := Lib.hid (show R.length ≤ 1000000 by have := HLN.out k; rw [HRR.out] at this; exact this)
      clear hx0 hx1 hv' hc' hs hkl hB
      go_wp2_with fail
      refine (add_c w1.heap.size u3 R (f, s.1) _ (HO.out.alloc _) (alloc_le HB.out.size _) HRL.out).mono ?_
      rintro e w3 ⟨v', rfl, ho3, hb3, hg3⟩
      have HO3 := Lib.hid ho3
      have HB3 := Lib.hid ((HB.out.alloc HB.out.size _).trans hb3)
      have hz1 : w3.cell? ⟨wr.heap.size, 1, none⟩ = some (.int .i64 s.2) := hg3.cell (World.cell?_alloc_at _ _ _ _ rfl) (own_far HO.out)
      clear ho3 hb3 hg3
      go_wp2_with fail
      go_roundw
      case rel => exact ⟨k + 1, s.2, by omega, rfl, by go_num, _, HT.out, HO3.out, HB3.out⟩
      case measure => simp [intOf] <;> omega
    · obtain rfl : k = n := by omega
      have HRL := Lib.hid (show R.length ≤ 1000000 by have := HLN.out k; rw [HRR.out] at this; exact this)
      have HE := Lib.hid (show gapL X (-9223372036854775808) 9223372036854775807 = addL R (f, 9223372036854775807) by
        have h1 := HRR.out
        rw [List.take_of_length_le (by rw [HN.out]; exact Nat.le_refl _)] at h1
        unfold gapL; rw [h1])
      clear hB
      go_wp2_with fail
      refine (add_c w1.heap.size u3 R (f, 9223372036854775807) _ HO.out HB.out.size HRL.out).mono ?_
      rintro e w3 ⟨v', rfl, ho3, hb3, hg3⟩
      have HO3 := Lib.hid ho3
      have HB3 := Lib.hid (HB.out.trans hb3)
      clear ho3 hb3 hg3
      go_wp2_with fail
      go_ret
      exact ⟨_, rfl, by rw [HE.out]; exact HO3.out.mono HQ1.out.size, Below.trans HQ1.out (Below.mono HB3.out HQ1.out.size)⟩
/-- the difference, by the gaps of the second set -/
theorem com_gaps {a b : List S} (ha : FitL a) (hb : FitL b) : comS a (gapL (canonL b) (-9223372036854775808) 9223372036854775807) = minS a b := by
  obtain ⟨g1, g2, _⟩ := gapL_spec (m := -9223372036854775808) (M := 9223372036854775807) (canon_spec b).1 fun s hs => (hb.canon s hs).1.1
  refine can_eq (comS_spec _ _).1 (minS_spec _ _).1 fun n => ?_
  rw [(comS_spec _ _).2, (minS_spec _ _).2]
  constructor
  · rintro ⟨h1, h2⟩
    obtain ⟨s, hs, k1, k2⟩ := h1
    have := ha s hs
    unfold FitS Fit at this
    exact ⟨⟨s, hs, k1, k2⟩, fun g => (g2 n (by omega) (by omega)).1 h2 (((canon_spec b).2.1 n).2 g)⟩
  · rintro ⟨h1, h2⟩
    obtain ⟨s, hs, k1, k2⟩ := h1
    have := ha s hs
    unfold FitS Fit at this
    exact ⟨⟨s, hs, k1, k2⟩, (g2 n (by omega) (by omega)).2 fun g => h2 (((canon_spec b).2.1 n).1 g)⟩
set_option maxRecDepth 100000 in
set_option maxHeartbeats 1600000 in
theorem Minus_c (v v1 : Value) (l l' : List S) (w : World) (ha : Rd w v l) (hb : Rd w v1 l') (hal : l.length ≤ 100000) (hbl : l'.length ≤ 90000) (hf : FitL l) (hf' : FitL l') : Calls Try.prog 26 #[v, v1] w (SetPost (minS l l') w) := by
  have HA := Lib.hid ha
  have HB := Lib.hid hb
  have HAL := Lib.hid hal
  have HBL := Lib.hid (show l'.length ≤ 100000 by omega)
  have HF := Lib.hid hf'
  have HE := Lib.hid (com_gaps hf hf')
  have HGL := Lib.hid (show (gapL (canonL l') (-9223372036854775808) 9223372036854775807).length ≤ 100000 by
    have h1 := (gapL_spec (m := -9223372036854775808) (M := 9223372036854775807) (canon_spec l').1 fun s hs => (hf'.canon s hs).1.1).2.2
    have h2 := (canon_spec l').2.2
    omega)
  clear ha hb hal hbl hf hf'
  go_enter Try.func26, Try.ntmps26
  go_wp2_with fail
  refine (gaps_c v1 l' _ HB.out HBL.out HF.out).mono ?_
  rintro e w1 ⟨x1, rfl, ho1, hq1⟩
  have HO1 := Lib.hid ho1
  have HQ1 := Lib.hid hq1
  clear ho1 hq1
  go_wp2_with fail
  refine (Common_c v x1 l _ _ (HA.out.q HQ1.out) HO1.out.rd HAL.out HGL.out).mono ?_
  rintro e w2 ⟨x2, rfl, ho2, hq2⟩
  have HO2 := Lib.hid ho2
  have HQ2 := Lib.hid hq2
  clear ho2 hq2
  go_wp2_with fail
  go_ret
  exact ⟨_, rfl, by rw [← HE.out]; exact HO2.out.mono HQ1.out.size, HQ1.out.trans HQ2.out⟩
end Go.Proofs.Ytnbpkbdkhegheaa
