/- The contract of Canon. -/
import Derived.Test.YtnbpkbdkhegheaaSort
set_option linter.unusedVariables false
set_option linter.unusedSimpArgs false
namespace Go.Proofs.Ytnbpkbdkhegheaa
open Go.ChangeShapes Go.WideShapes Go.ChangeAt Go.RowKit Sm

def SetPost (L : List S) (w : World) (e : Ending) (w' : World) : Prop := ∃ v', e = .returned v' ∧ Own w.heap.size v' L w' ∧ Q w w'
theorem Own.mono {B B' : Nat} {v : Value} {l : List S} {w : World} (h : Own B v l w) (hB : B' ≤ B) : Own B' v l w := by
  obtain ⟨h1, h2⟩ := h
  refine ⟨h1, ?_⟩
  rcases h2 with h2 | ⟨g, cap, cur, h3, h4, h5⟩
  · exact .inl h2
  · exact .inr ⟨g, cap, cur, h3, Nat.le_trans hB h4, h5⟩
theorem canon_nil : canonL [] = [] := (canon_of can_nil fun n => Iff.rfl).symm
theorem take_next (p : List S) (k : Nat) (h : k < p.length) : addsL (p.take (k + 1)) = addL (addsL (p.take k)) p[k] := by
  rw [List.take_succ_eq_append_getElem h, adds_snoc]
theorem adds_len {p : List S} (h : p.Pairwise fun s t => s.1 ≤ t.1) (k : Nat) : (addsL (p.take k)).length ≤ k := by
  have := (adds_spec (l := p.take k) (List.Pairwise.sublist (List.take_sublist k p) h)).2.2.2
  rw [List.length_take] at this; omega

set_option maxRecDepth 100000 in
set_option maxHeartbeats 1600000 in
theorem Canon_c (v : Value) (l : List S) (w : World) (hr : Rd w v l) (hl : l.length ≤ 1000000) : Calls Try.prog 18 #[v] w (SetPost (canonL l) w) := by
  have HR := Lib.hid hr
  have HL := Lib.hid hl
  clear hr hl
  go_enter Try.func18, Try.ntmps18
  go_wp2_with fail
  refine (clone_c v l _ HR.out HL.out).mono ?_
  intro e w1 hpost
  rcases hpost with ⟨rfl, rfl, rfl⟩ | ⟨g, cap, rfl, ho, hq⟩
  · go_wp2_with fail
    refine (sort_nil _ _).mono ?_; rintro e w1 ⟨rfl, rfl⟩
    go_wp2_with fail
    refine wp_loop_rounds 1 ?_
    rw [rounds_succ]
    go_wp2_with fail
    go_ret
    exact ⟨_, rfl, by rw [canon_nil]; exact own_nil _ _, Q.refl _⟩
  · obtain ⟨n, hn⟩ : ∃ n, l.length = n := ⟨_, rfl⟩
    have HO := Lib.hid ho
    have HQ := Lib.hid hq
    have HG := Lib.hid (show w.heap.size ≤ g ∧ g < w1.heap.size ∧ l.length ≤ cap by
      obtain ⟨_, ⟨h1, _⟩ | ⟨g', cap', cur, h1, h2, h3, h4, _⟩⟩ := ho
      · cases h1
      · injection h1 with e1 e2 e3
        injection e1 with e1; injection e1 with e1
        subst e1 e3
        refine ⟨h2, ?_, h4⟩
        rcases Nat.lt_or_ge g w1.heap.size with k | k
        · exact k
        · rw [Array.getElem?_eq_none k] at h3; cases h3)
    have HS := Lib.hid (sort_c w.heap.size g cap l w1 ho HL.out HG.out.2.1 HG.out.2.2)
    clear ho hq
    rw [hn]
    rw [hn] at HS HL
    have HN := Lib.hid hn
    clear hn
    go_wp2_with fail
    refine HS.out.mono ?_
    rintro e w2 ⟨p, rfl, hperm, hsort, hrd, hbel⟩
    have hpn : p.length = n := by rw [hperm.length_eq]; exact HN.out
    have HP := Lib.hid hperm
    have HSO := Lib.hid hsort
    have HRD := Lib.hid hrd
    have HB2 := Lib.hid (hbel w.heap.size HG.out.1 HQ.out.size)
    have hgw2 : g < w2.heap.size := Nat.lt_of_lt_of_le HG.out.2.1 (hbel w.heap.size HG.out.1 HQ.out.size).size
    have HPN := Lib.hid hpn
    have hn6 : n ≤ 1000000 := HL.out
    clear hperm hsort hrd hbel hpn
    go_wp2_with fail
    go_loopw [4, 13] (fun v4 v13 wr => ∃ k : Nat, k ≤ n ∧ v13 = .int .i64 k ∧ Hid (Own w2.heap.size v4 (addsL (p.take k)) wr ∧ Below w2.heap.size w2 wr)) (fun _ v13 _ => n - (intOf v13).toNat)
    case atStart => exact ⟨0, Nat.zero_le _, rfl, own_nil _ _, Below.refl _ _⟩
    case round =>
      obtain ⟨k, hk, rfl, HI⟩ := hrel
      by_cases hlt : k < n
      · have hkp : k < p.length := by rw [HPN.out]; exact hlt
        obtain ⟨b', off', c', hv', hc', hb', hc0, hc1⟩ := HRD.out.cons hkp
        injection hv' with e1 e2 e3
        injection e1 with e1; injection e1 with e1 e4
        subst e1 e3 e4
        obtain ⟨s, hs⟩ : ∃ s, p[k] = s := ⟨_, rfl⟩
        rw [hs] at hc0 hc1
        rw [Nat.zero_add] at hc0 hc1
        have hd0 : wr.cell? ⟨g, k * 2, none⟩ = some (.int .i64 s.1) := (HI.out.2.cell (p := ⟨g, k * 2, none⟩) hgw2).trans hc0
        have hd1 : wr.cell? ⟨g, k * 2 + 1, none⟩ = some (.int .i64 s.2) := (HI.out.2.cell (p := ⟨g, k * 2 + 1, none⟩) hgw2).trans hc1
        have HT := Lib.hid (show addsL (p.take (k + 1)) = addL (addsL (p.take k)) s by rw [take_next p k hkp, hs])
        have HLN := Lib.hid (show (addsL (p.take k)).length ≤ 1000000 from Nat.le_trans (adds_len HSO.out k) (by omega))
        obtain ⟨X, hX⟩ : ∃ X, addsL (p.take k) = X := ⟨_, rfl⟩
        rw [hX] at HT HLN
        have HOX := Lib.hid (show Own w2.heap.size u4 X wr by rw [← hX]; exact HI.out.1)
        have HBX := Lib.hid HI.out.2
        clear hc0 hc1 hs hX hc'
        go_wp2_with fail
        refine (add_c w2.heap.size u4 X s _ (HOX.out.alloc _) (alloc_le HBX.out.size _) HLN.out).mono ?_
        rintro e w3 ⟨v', rfl, ho3, hb3, _⟩
        have HO3 := Lib.hid ho3
        have HB3 := Lib.hid ((HBX.out.alloc HBX.out.size _).trans hb3)
        clear ho3 hb3
        go_wp2_with fail
        go_roundw
        case rel => exact ⟨k + 1, by omega, by go_num, by rw [HT.out]; exact ⟨HO3.out, HB3.out⟩⟩
        case measure => simp [intOf] <;> omega
      · obtain rfl : k = n := by omega
        go_wp2_with fail
        go_ret
        refine ⟨_, rfl, ?_, ?_⟩
        · have h1 := HI.out.1
          rw [List.take_of_length_le (by rw [HPN.out]; exact Nat.le_refl _), canon_sorted HP.out HSO.out] at h1
          exact h1.mono (Nat.le_trans HQ.out.size HB2.out.size)
        · exact Below.trans (Below.trans HQ.out HB2.out) (Below.mono HI.out.2 (Nat.le_trans HQ.out.size HB2.out.size))
end Go.Proofs.Ytnbpkbdkhegheaa
