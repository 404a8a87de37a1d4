/- The contracts of points and between. -/
import Derived.Test.YtlcgbeocdimboaaDoorCleanC
import Derived.Test.YtlcgbeocdimboaaDoorPRTurn
set_option linter.unusedVariables false
set_option linter.unusedSimpArgs false
namespace Go.Proofs.YtlcgbeocdimboaaDoor
open Go.ChangeShapes Go.WideShapes Go.ChangeAt Go.RowKit Go.Shelf Pm

def ptsL (l : List RD) : List P := l.map ptR
/-- a list of points that is the call's own -/
def PtP (l : List P) (w : World) (v : Value) (w' : World) : Prop := RdP w' v l ∧ Q w w' ∧ (0 < l.length → ∃ g cap, v = .slice (some ⟨g, 0, none⟩) l.length cap ∧ l.length ≤ cap ∧ w.heap.size ≤ g ∧ Wr w' g l)
theorem pts_next {l : List RD} {k : Nat} (h : k < l.length) : (ptsL l).take (k + 1) = (ptsL l).take k ++ [ptR (gr l k)] := by
  unfold ptsL
  rw [List.take_succ_eq_append_getElem (by rw [List.length_map]; exact h), List.getElem_map, gr_at h]
theorem own_pt {B : Nat} {v : Value} {l : List P} {w0 w : World} (h : Own B v l w) (hB : B = w0.heap.size) (hq : Q w0 w) : PtP l w0 v w := by
  subst hB
  refine ⟨h.rd, hq, fun h0 => ?_⟩
  obtain ⟨g, cap, rfl, h1, h2, h3⟩ := h.form h0
  exact ⟨g, cap, rfl, h1, h2, wr_own h rfl h3⟩
theorem own_shape {B : Nat} {v : Value} {l : List P} {w : World} (h : Own B v l w) : ∃ A c, v = .slice A l.length c ∧ l.length ≤ c := by
  obtain ⟨_, ⟨h1, h2⟩ | ⟨g, cap, cur, h1, _, _, h3, _⟩⟩ := h
  · exact ⟨none, 0, by rw [h1, h2], by omega⟩
  · exact ⟨_, cap, h1, h3⟩
set_option maxRecDepth 100000 in
set_option maxHeartbeats 1600000 in
theorem points_c (v : Value) (l : List RD) (w : World) (hr : RdR w v l) (hl : l.length ≤ 1000000) : Calls Tryd.prog 34 #[v] w fun e w' => ∃ A c, e = .returned (.slice A l.length c) ∧ PtP (ptsL l) w (.slice A l.length c) w' := by
  obtain ⟨i0, hi, hz0, hz1, hz2⟩ := info_parts infoP
  have HR := Lib.hid hr
  obtain ⟨A, c, rfl, hc, _⟩ := hr
  obtain ⟨n, hn⟩ : ∃ n, l.length = n := ⟨_, rfl⟩
  have HN := Lib.hid hn
  rw [hn] at HR hl hc
  rw [hn]
  clear hn
  go_enter Tryd.func34, Tryd.ntmps34
  go_wp2_with fail
  go_loopw [3, 8] (fun v3 v8 wr => ∃ k : Nat, k ≤ n ∧ v8 = .int .i64 k ∧ Hid (Own w.heap.size v3 ((ptsL l).take k) wr ∧ Q w wr)) (fun _ v8 _ => n - (intOf v8).toNat)
  case atStart => exact ⟨0, by omega, rfl, own_nil _ _, Q.refl _⟩
  case round =>
    obtain ⟨k, hk, rfl, HI⟩ := hrel
    by_cases hlt : k < n
    · have hkl : k < l.length := by rw [HN.out]; exact hlt
      have HZ := Lib.hid (pts_next hkl)
      obtain ⟨bb, off, rfl, hbb, _, c0, c1', c2⟩ := HR.out.at HI.out.2 hkl
      obtain ⟨d, hd⟩ : ∃ d, gr l k = d := ⟨_, rfl⟩
      rw [hd] at c0 c1' c2 HZ
      obtain ⟨x, y, o⟩ := d
      unfold ptR at HZ
      dsimp only at c0 c1' c2 HZ
      obtain ⟨L, hL⟩ : ∃ L, (ptsL l).take k = L := ⟨_, rfl⟩
      have hLl : L.length = k := by rw [← hL, List.length_take]; unfold ptsL; rw [List.length_map, HN.out]; omega
      rw [hL] at HZ
      obtain ⟨Wx, hWx⟩ : ∃ W, wr.alloc (.cells #[.int .i64 x, .int .i64 y, .bool o] 44) = W := ⟨_, rfl⟩
      have HWX := Lib.hid hWx
      have hsz := Lib.hid (show Wx.heap.size = wr.heap.size + 1 by rw [← hWx]; simp)
      have HO2 := Lib.hid (show Own w.heap.size u3 L Wx by rw [← hWx, ← hL]; exact World.ownsRow.alloc HI.out.1 _)
      have HQ2 := Lib.hid (show Q w Wx by rw [← hWx]; exact HI.out.2.alloc _)
      have RM := Lib.hid (room_of (n := L.length) (by omega))
      have HP := Lib.hid (show ∀ j u, ([.int .i64 x, .int .i64 y] : List Value)[j]? = some u → (Wx.alloc (.cells #[.int .i64 x, .int .i64 y] 38)).cell? ((⟨wr.heap.size + 1, 0, none⟩ : Addr).add j) = some u from fun j u hj => by rw [← hsz.out]; exact pair_at Wx _ _ _ j u hj)
      have hown1 : Wx.ownsRow w.heap.size 38 2 u3 L.length (cellsL L) := HO2.out
      have i5 : (k : Int) < (n : Int) := by omega
      have i6 : (0 : Int) ≤ (k : Int) := by omega
      clear hd hL hLl hWx hkl
      go_wp2_with (first
        | (at_builtin; rw [HWX.out]; refine wpList_append_own _ rfl _ _ 34 rfl w.heap.size 38 i0 (.agg #[.int .i64 0, .int .i64 0]) 2 16 Tryd.underlying34 hi hz0 hz1 hz2 rfl (by decide) _ _ _ rfl (hown1.alloc _) ⟨wr.heap.size + 1, 0, none⟩ 1 1 [.int .i64 x, .int .i64 y] rfl rfl HP.out (pair_cell _ _) RM.out.1 RM.out.2 (alloc_le HQ2.out.size _) ?_)
        | go_in)
      intro v' w2 hown' hgrow _
      have N := Lib.hid (own_next (s := (x, y)) HO2.out HQ2.out HQ2.out.size hown' hgrow)
      clear hown' hgrow hown1
      go_wp2_with fail
      go_roundw
      case rel => exact ⟨k + 1, by omega, by go_num, by rw [HZ.out]; exact N.out.1, N.out.2⟩
      case measure => simp [intOf] <;> omega
    · obtain rfl : k = n := by omega
      have HA := Lib.hid (show Own w.heap.size u3 (ptsL l) wr by have := HI.out.1; rwa [List.take_of_length_le (by unfold ptsL; rw [List.length_map, HN.out]; exact Nat.le_refl _)] at this)
      have HQ := Lib.hid HI.out.2
      have HL2 := Lib.hid (show (ptsL l).length = k by unfold ptsL; rw [List.length_map, HN.out])
      obtain ⟨A3, c3, e3, h3⟩ := own_shape HA.out
      rw [HL2.out] at e3
      subst e3
      clear HI h3
      go_wp2_with fail
      go_ret
      exact ⟨_, _, rfl, own_pt HA.out rfl HQ.out⟩
end Go.Proofs.YtlcgbeocdimboaaDoor
