/- For every string, place and four bytes the law SumsDetects returns true: Open reports up to four consecutive changed bytes of a sealed string, and a changed byte of its seal (asked for strings of at most 1000 bytes). No condition. -/
import Derived.Test.YtiffnnjegfghoaaMathD
import Derived.OpenShut
import Derived.Laws.IdiomArrays
import Derived.ShutString
import Derived.RegionTactic
import Derived.BigRegion
set_option linter.unusedVariables false
set_option linter.unusedSimpArgs false
namespace Go.Proofs.Ytiffnnjegfghoaa
open Go.ChangeShapes Go.WideShapes Go.ChangeAt Go.RowKit Cm

theorem Open_is (s : ByteArray) (v : Int) (hs : s.size ≤ 1100) (h : Hid (opE s = v)) (w : World) : Calls Try.prog 23 #[.string s] w fun e w' => e = .returned (.tuple #[.string (opS s), .int .i64 v]) ∧ Q w w' :=
  (Open_c s w hs).mono fun _ _ ⟨a, b⟩ => ⟨by rw [a, h.out], b⟩
theorem Seal_is (s S : ByteArray) (hs : s.size ≤ 1100) (h : Hid (s ++ bs (ckL s) = S)) (w : World) : Calls Try.prog 25 #[.string s] w fun e w' => e = .returned (.string S) ∧ Q w w' :=
  (Seal_c s w hs).mono fun _ _ ⟨a, b⟩ => ⟨by rw [a, h.out], b⟩
theorem box4 (x : Nat → UInt8) (w : World) : Byt (w.alloc (.cells #[.int .u8 ((x 0).toNat : Int), .int .u8 ((x 1).toNat : Int), .int .u8 ((x 2).toNat : Int), .int .u8 ((x 3).toNat : Int)] 39)) w.heap.size 4 x := by
  intro j hj
  rcases (show j = 0 ∨ j = 1 ∨ j = 2 ∨ j = 3 by omega) with rfl | rfl | rfl | rfl <;> exact ⟨World.cell?_alloc_at _ _ _ _ rfl, World.frozen?_alloc_at _ _ _ _ rfl⟩
theorem byt_below {W W2 : World} {b n : Nat} {f : Nat → UInt8} (h : Byt W b n f) {B : Nat} (hb : Below B W W2) (hB : b < B) : Byt W2 b n f := fun j hj =>
  ⟨(hb.cell (p := ⟨b, j, none⟩) hB).trans (h j hj).1, (hb.frozen (p := ⟨b, j, none⟩) hB).trans (h j hj).2⟩

set_option maxRecDepth 100000 in
set_option maxHeartbeats 3200000 in
theorem detects_nat (s : ByteArray) (a : Nat) (x : Nat → UInt8) (w : World) (hs : s.size ≤ 1000) (hsm : s.size ≤ maxLen) (ha : a ≤ s.size) :
    Calls Try.prog 9 #[.string s, .int .i64 a, .agg #[.int .u8 ((x 0).toNat : Int), .int .u8 ((x 1).toNat : Int), .int .u8 ((x 2).toNat : Int), .int .u8 ((x 3).toNat : Int)]] w fun e w' => e = .returned (.bool true) ∧ Below w.heap.size w w' := by
  have HH := Lib.hid (show decide (s.size ≤ 1000) = true from decide_eq_true hs)
  have HM := Lib.hid hsm
  have HS := Lib.hid hs
  have H11 := Lib.hid (show s.size ≤ 1100 by omega)
  obtain ⟨S, hS⟩ : ∃ S, s ++ bs (ckL s) = S := ⟨_, rfl⟩
  obtain ⟨n, hn⟩ : ∃ n, s.size = n := ⟨_, rfl⟩
  have hSz : S.size = n + 8 := by rw [← hS, ByteArray.size_append, size_bs, ckL_len, hn]
  have HSS := Lib.hid hS
  have t1 : ((S.size : Int) != (s.size : Int) + 8) = false := by rw [hSz, hn]; simp
  have HN := Lib.hid hn
  have HSZ := Lib.hid hSz
  have HA := Lib.hid (show a ≤ n by omega)
  have hs1 : s.size ≤ 1000 := hs
  have ha1 : (a : Int) ≤ (s.size : Int) := by omega
  have ha2 : a ≤ 1000 := by omega
  clear hsm hs hS hn hSz ha
  go_enter Try.func9, Try.ntmps9
  go_wp2_with fail
  refine (short_is s true HM.out HH _).mono ?_; rintro e w0 ⟨rfl, rfl⟩
  go_wp2_with fail
  refine (Seal_is s S H11.out HSS _).mono ?_; rintro e W1 ⟨rfl, hq1⟩
  have HX := Lib.hid (byt_below (box4 x w) hq1 (by show w.heap.size < (w.heap.push _).size; simp))
  have HQ1 := Lib.hid (show Q w W1 from ((Q.refl w).alloc _).trans hq1)
  have HBX := Lib.hid (show w.heap.size < W1.heap.size by
    have : (w.heap.push (Obj.cells #[.int .u8 ((x 0).toNat : Int), .int .u8 ((x 1).toNat : Int), .int .u8 ((x 2).toNat : Int), .int .u8 ((x 3).toNat : Int)] 39)).size ≤ W1.heap.size := hq1.size
    rw [Array.size_push] at this; omega)
  clear hq1
  obtain ⟨cap, W2, hconv, hBy, hq2, hsz⟩ := to_bytes S W1
  rw [HSZ.out] at hconv hBy
  have HBY := Lib.hid hBy
  have HQ2 := Lib.hid hq2
  clear hBy hq2 hsz
  go_wp2_with fail
  go_loopw [9, 10] (fun v9 v10 wr => ∃ k : Nat, k ≤ 4 ∧ v9 = .bool (chg x k) ∧ v10 = .int .i64 k ∧ Hid (a + k ≤ n ∧ Byt wr W1.heap.size (n + 8) (chr (bu S) x a k) ∧ Below W1.heap.size W1 wr)) (fun _ v10 _ => 4 - (intOf v10).toNat)
  case atStart => exact ⟨0, by omega, rfl, rfl, HA.out, fun j hj => by
    have := HBY.out j hj
    unfold chr; rw [if_neg (by omega)]; exact this, HQ2.out⟩
  case round =>
    obtain ⟨k, hk, rfl, rfl, HI⟩ := hrel
    by_cases hgo : k < 4 ∧ a + k < n
    · obtain ⟨hk4, hkn⟩ := hgo
      obtain ⟨m, hm⟩ : ∃ m : Nat, a + k = m := ⟨_, rfl⟩
      have hm' : (a : Int) + (k : Int) = (m : Int) := by omega
      have hmw : IntKind.i64.wrap ((a : Int) + (k : Int)) = (m : Int) := by rw [hm']; exact IntWalk.i64_in _ (by omega)
      have hm0 : m < n + 8 := by omega
      have hms : (m : Int) < (s.size : Int) := by have := HN.out; omega
      have hmb : (m : Int) < ((n + 8 : Nat) : Int) := by omega
      have hmb2 : (m : Int) < (n : Int) + 8 := by omega
      have hk4' : (k : Int) < 4 := by omega
      obtain ⟨y, hy⟩ : ∃ y, bu S m = y := ⟨_, rfl⟩
      obtain ⟨d, hd⟩ : ∃ d, x k = d := ⟨_, rfl⟩
      obtain ⟨z, hz⟩ : ∃ z, y ^^^ d = z := ⟨_, rfl⟩
      have e1 := xor8 y d
      rw [hz] at e1
      have hcx : wr.cell? ⟨w.heap.size, k, none⟩ = some (.int .u8 (d.toNat : Int)) := by
        rw [← hd]; exact (byt_below HX.out HI.out.2.2 HBX.out k hk4).1
      have hcy : wr.cell? ⟨W1.heap.size, m, none⟩ = some (.int .u8 (y.toNat : Int)) := by
        rw [(HI.out.2.1 m hm0).1]; unfold chr; rw [if_neg (by omega), hy]; rfl
      have hfy := (HI.out.2.1 m hm0).2
      have hcx2 : (wr.setCell ⟨W1.heap.size, m, none⟩ (.int .u8 (z.toNat : Int))).cell? ⟨w.heap.size, k, none⟩ = some (.int .u8 (d.toNat : Int)) :=
        (World.cell?_setCell_other wr ⟨W1.heap.size, m, none⟩ ⟨w.heap.size, k, none⟩ (.int .u8 (z.toNat : Int)) (by intro g; injection g with g1 g2; have := HBX.out; omega)).trans hcx
      have HW := Lib.hid (show Byt (wr.setCell ⟨W1.heap.size, m, none⟩ (.int .u8 (z.toNat : Int))) W1.heap.size (n + 8) (chr (bu S) x a (k + 1)) ∧ Below W1.heap.size W1 (wr.setCell ⟨W1.heap.size, m, none⟩ (.int .u8 (z.toNat : Int))) from
        ⟨fun j hj => by
          have h1 := byt_set HI.out.2.1 hm0 z j hj
          refine ⟨h1.1.trans (congrArg (fun z => some (bv z)) ?_), h1.2⟩
          show (if j = m then z else chr (bu S) x a k j) = chr (bu S) x a (k + 1) j
          unfold chr
          by_cases g : j = m
          · subst g
            rw [if_pos rfl, if_pos (by omega), hy, show j - a = k by omega, hd, hz]
          · rw [if_neg g]
            by_cases g2 : a ≤ j ∧ j < a + k
            · rw [if_pos g2, if_pos (by omega)]
            · rw [if_neg g2, if_neg (by omega)], Below.setCell HI.out.2.2 (Nat.le_refl _) _⟩)
      have HK := Lib.hid (show a + (k + 1) ≤ n by omega)
      have HCG := Lib.hid (show chg x (k + 1) = (chg x k || ((d.toNat : Int) != 0)) by rw [← hd]; rfl)
      clear hm hm0 hy hd hz hkn hm'
      cases hch : chg x k with
      | true =>
        have HC := Lib.hid (show chg x (k + 1) = true by rw [HCG.out, hch]; rfl)
        clear hch
        go_wp2_with fail
        go_region
        clear hcx hcy hfy e1
        go_wp2_with fail
        go_roundw
        case rel => exact ⟨k + 1, by omega, by rw [HC.out], by go_num, HK.out, fun j hj => HW.out.1 j hj, HW.out.2.drew⟩
        case measure => simp [intOf] <;> omega
      | false =>
        have HC := Lib.hid (show chg x (k + 1) = ((d.toNat : Int) != 0) by rw [HCG.out, hch]; rfl)
        clear hch
        go_wp2_with fail
        go_region
        clear hcx hcy hfy e1
        go_wp2_with fail
        go_roundw
        case rel => exact ⟨k + 1, by omega, by rw [HC.out], by go_num, HK.out, fun j hj => HW.out.1 j hj, HW.out.2.drew⟩
        case measure => simp [intOf] <;> omega
    · have hstop : (¬ (k : Int) < 4) ∨ ((k : Int) < 4 ∧ ¬ (a : Int) + (k : Int) < (s.size : Int)) := by have := HN.out; omega
      have hkk : (k : Int) ≤ 4 := by omega
      clear hgo
      have hback := from_bytes HI.out.2.1 cap
      obtain ⟨T, hT⟩ : ∃ T, mk (n + 8) (chr (bu S) x a k) = T := ⟨_, rfl⟩
      rw [hT] at hback
      have hTs : T.size = n + 8 := by rw [← hT, mk_size]
      have HT11 := Lib.hid (show T.size ≤ 1100 by have := HS.out; have := HN.out; omega)
      obtain ⟨v, hv⟩ : ∃ v, opE T = v := ⟨_, rfl⟩
      have hv16 : (v == 16) = chg x k := by
        rw [← hv, ← hT, ← HSS.out, ← HN.out]
        exact burst_seen s x a k hk (by rw [HN.out]; exact HI.out.1)
      have HV := Lib.hid hv
      have HQ3 := Lib.hid (show Q w wr from HQ1.out.trans (Q.of HI.out.2.2))
      have HXW := Lib.hid (byt_below HX.out HI.out.2.2 HBX.out)
      have HBW := Lib.hid (show w.heap.size < wr.heap.size from Nat.lt_of_lt_of_le HBX.out HI.out.2.2.size)
      have h1000 : s.size ≤ 1000 := HS.out
      clear hT hTs hv
      have tail : ∀ b : Bool, chg x k = b → True := fun _ _ => trivial
      clear tail
      cases hch : chg x k with
      | true =>
        rw [hch] at hv16
        clear hch
        rcases hstop with hs1 | ⟨hs1, hs2⟩
        · skip
          go_wp2_with fail
          refine (Open_is T v HT11.out HV _).mono ?_; rintro e W3 ⟨rfl, hq3⟩
          have HX3 := Lib.hid (byt_below HXW.out hq3 HBW.out)
          have HB3 := Lib.hid (show w.heap.size < W3.heap.size from Nat.lt_of_lt_of_le HBW.out hq3.size)
          have HQ4 := Lib.hid (HQ3.out.trans hq3)
          obtain ⟨cap2, W4, hconv2, hBy2, hq4, hsz4⟩ := to_bytes S W3
          rw [HSZ.out] at hconv2 hBy2
          obtain ⟨r, hr⟩ : ∃ r : Nat, a % 8 = r := ⟨_, rfl⟩
          have hr8 : r < 8 := by omega
          have hri : (a : Int) % 8 = (r : Int) := by omega
          obtain ⟨m, hm⟩ : ∃ m : Nat, n + r = m := ⟨_, rfl⟩
          have hm' : (s.size : Int) + (r : Int) = (m : Int) := by have := HN.out; omega
          have hmw : IntKind.i64.wrap ((s.size : Int) + (r : Int)) = (m : Int) := by rw [hm']; exact IntWalk.i64_in _ (by have := HN.out; omega)
          have hm0 : m < n + 8 := by omega
          have hmb : (m : Int) < ((n + 8 : Nat) : Int) := by omega
          have hmb2 : (m : Int) < (n : Int) + 8 := by omega
          have hr8i : (r : Int) ≤ 7 := by omega
          obtain ⟨y, hy⟩ : ∃ y, bu S m = y := ⟨_, rfl⟩
          obtain ⟨d, hd⟩ : ∃ d, x 0 = d := ⟨_, rfl⟩
          obtain ⟨z, hz⟩ : ∃ z, y ^^^ d = z := ⟨_, rfl⟩
          have e1 := xor8 y d
          rw [hz] at e1
          have hX4 := byt_below HX3.out hq4 HB3.out
          have hcx : W4.cell? ⟨w.heap.size, 0, none⟩ = some (.int .u8 (d.toNat : Int)) := by rw [← hd]; exact (hX4 0 (by omega)).1
          have hcy : W4.cell? ⟨W3.heap.size, m, none⟩ = some (.int .u8 (y.toNat : Int)) := by rw [(hBy2 m hm0).1, hy]; rfl
          have hfy := (hBy2 m hm0).2
          obtain ⟨W5, hW5⟩ : ∃ W5, W4.setCell ⟨W3.heap.size, m, none⟩ (.int .u8 (z.toNat : Int)) = W5 := ⟨_, rfl⟩
          have hB5 : Byt W5 W3.heap.size (n + 8) (fun j => if j = s.size + r then bu (s ++ bs (ckL s)) j ^^^ x 0 else bu (s ++ bs (ckL s)) j) := by
            rw [← hW5]
            intro j hj
            have h1 := byt_set hBy2 hm0 z j hj
            refine ⟨h1.1.trans (congrArg (fun z => some (bv z)) ?_), h1.2⟩
            show (if j = m then z else bu S j) = if j = s.size + r then bu (s ++ bs (ckL s)) j ^^^ x 0 else bu (s ++ bs (ckL s)) j
            rw [HN.out, hm, HSS.out]
            by_cases g : j = m
            · subst g; rw [if_pos rfl, if_pos rfl, hy, hd, hz]
            · rw [if_neg g, if_neg g]
          have hq5 : Q W3 W5 := by rw [← hW5]; exact Below.setCell hq4 (Nat.le_refl _) _
          have hcx5 : W5.cell? ⟨w.heap.size, 0, none⟩ = some (.int .u8 (d.toNat : Int)) := by rw [← hd]; exact (byt_below HX3.out hq5 HB3.out 0 (by omega)).1
          obtain ⟨T2, hT2⟩ : ∃ T2, mk (n + 8) (fun j => if j = s.size + r then bu (s ++ bs (ckL s)) j ^^^ x 0 else bu (s ++ bs (ckL s)) j) = T2 := ⟨_, rfl⟩
          have hback5 : ∀ q, (convert 37 9 (.slice (some ⟨W3.heap.size, 0, none⟩) (n + 8) cap2)).run Try.prog (W5.drewN q) = .ok (.string T2) (W5.drewN q) := fun q => by
            rw [← hT2]; exact from_bytes (W := W5.drewN q) (fun j hj => hB5 j hj) cap2
          have hback6 : (convert 37 9 (.slice (some ⟨W3.heap.size, 0, none⟩) (n + 8) cap2)).run Try.prog W5.drew = .ok (.string T2) W5.drew := by
            rw [← hT2]; exact from_bytes (W := W5.drew) (fun j hj => hB5 j hj) cap2
          have HT2 := Lib.hid (show T2.size ≤ 1100 by rw [← hT2, mk_size]; have := HS.out; have := HN.out; omega)
          obtain ⟨v2, hv2⟩ : ∃ v, opE T2 = v := ⟨_, rfl⟩
          have hv216 : (v2 == 16) = ((d.toNat : Int) != 0) := by
            rw [← hv2, ← hT2, ← hd, ← HN.out]
            exact tail_seen s (x 0) r hr8
          have HV2 := Lib.hid hv2
          have HQ5 := Lib.hid (show Q w W5 from HQ4.out.trans hq5)
          have HB5 := Lib.hid (show w.heap.size < W5.heap.size from Nat.lt_of_lt_of_le HB3.out hq5.size)
          have HX5 := Lib.hid hcx5
          clear hq3 hBy2 hq4 hsz4 hm hm' hy hd hz hX4 hB5 hq5 hT2 hv2 hr hr8
          go_wp2_with fail
          go_region
          try rw [hW5]
          clear hcx hcy hfy e1 hW5
          cases hd0 : ((d.toNat : Int) != 0) with
          | true =>
            rw [hd0] at hv216
            go_wp2_with fail
            refine (Open_is T2 v2 HT2.out HV2 _).mono ?_; rintro e W6 ⟨rfl, hq6⟩
            have hc6 : W6.cell? ⟨w.heap.size, 0, none⟩ = some (.int .u8 (d.toNat : Int)) := (hq6.cell (p := ⟨w.heap.size, 0, none⟩) HB5.out).trans HX5.out
            have HQ6 := Lib.hid (HQ5.out.drew.trans hq6)
            clear hq6
            go_wp2_with fail
            refine (awake_c _).mono ?_; rintro e wz ⟨rfl, hqz⟩
            go_wp2_with fail
            go_ret
            exact ⟨rfl, HQ6.out.trans hqz⟩
          | false =>
            rw [hd0] at hv216
            go_wp2_with fail
            refine (Open_is T2 v2 HT2.out HV2 _).mono ?_; rintro e W6 ⟨rfl, hq6⟩
            have hc6 : W6.cell? ⟨w.heap.size, 0, none⟩ = some (.int .u8 (d.toNat : Int)) := (hq6.cell (p := ⟨w.heap.size, 0, none⟩) HB5.out).trans HX5.out
            have HQ6 := Lib.hid (HQ5.out.drew.trans hq6)
            clear hq6
            go_wp2_with fail
            refine (awake_c _).mono ?_; rintro e wz ⟨rfl, hqz⟩
            go_wp2_with fail
            go_ret
            exact ⟨rfl, HQ6.out.trans hqz⟩
        · skip
          go_wp2_with fail
          refine (Open_is T v HT11.out HV _).mono ?_; rintro e W3 ⟨rfl, hq3⟩
          have HX3 := Lib.hid (byt_below HXW.out hq3 HBW.out)
          have HB3 := Lib.hid (show w.heap.size < W3.heap.size from Nat.lt_of_lt_of_le HBW.out hq3.size)
          have HQ4 := Lib.hid (HQ3.out.trans hq3)
          obtain ⟨cap2, W4, hconv2, hBy2, hq4, hsz4⟩ := to_bytes S W3
          rw [HSZ.out] at hconv2 hBy2
          obtain ⟨r, hr⟩ : ∃ r : Nat, a % 8 = r := ⟨_, rfl⟩
          have hr8 : r < 8 := by omega
          have hri : (a : Int) % 8 = (r : Int) := by omega
          obtain ⟨m, hm⟩ : ∃ m : Nat, n + r = m := ⟨_, rfl⟩
          have hm' : (s.size : Int) + (r : Int) = (m : Int) := by have := HN.out; omega
          have hmw : IntKind.i64.wrap ((s.size : Int) + (r : Int)) = (m : Int) := by rw [hm']; exact IntWalk.i64_in _ (by have := HN.out; omega)
          have hm0 : m < n + 8 := by omega
          have hmb : (m : Int) < ((n + 8 : Nat) : Int) := by omega
          have hmb2 : (m : Int) < (n : Int) + 8 := by omega
          have hr8i : (r : Int) ≤ 7 := by omega
          obtain ⟨y, hy⟩ : ∃ y, bu S m = y := ⟨_, rfl⟩
          obtain ⟨d, hd⟩ : ∃ d, x 0 = d := ⟨_, rfl⟩
          obtain ⟨z, hz⟩ : ∃ z, y ^^^ d = z := ⟨_, rfl⟩
          have e1 := xor8 y d
          rw [hz] at e1
          have hX4 := byt_below HX3.out hq4 HB3.out
          have hcx : W4.cell? ⟨w.heap.size, 0, none⟩ = some (.int .u8 (d.toNat : Int)) := by rw [← hd]; exact (hX4 0 (by omega)).1
          have hcy : W4.cell? ⟨W3.heap.size, m, none⟩ = some (.int .u8 (y.toNat : Int)) := by rw [(hBy2 m hm0).1, hy]; rfl
          have hfy := (hBy2 m hm0).2
          obtain ⟨W5, hW5⟩ : ∃ W5, W4.setCell ⟨W3.heap.size, m, none⟩ (.int .u8 (z.toNat : Int)) = W5 := ⟨_, rfl⟩
          have hB5 : Byt W5 W3.heap.size (n + 8) (fun j => if j = s.size + r then bu (s ++ bs (ckL s)) j ^^^ x 0 else bu (s ++ bs (ckL s)) j) := by
            rw [← hW5]
            intro j hj
            have h1 := byt_set hBy2 hm0 z j hj
            refine ⟨h1.1.trans (congrArg (fun z => some (bv z)) ?_), h1.2⟩
            show (if j = m then z else bu S j) = if j = s.size + r then bu (s ++ bs (ckL s)) j ^^^ x 0 else bu (s ++ bs (ckL s)) j
            rw [HN.out, hm, HSS.out]
            by_cases g : j = m
            · subst g; rw [if_pos rfl, if_pos rfl, hy, hd, hz]
            · rw [if_neg g, if_neg g]
          have hq5 : Q W3 W5 := by rw [← hW5]; exact Below.setCell hq4 (Nat.le_refl _) _
          have hcx5 : W5.cell? ⟨w.heap.size, 0, none⟩ = some (.int .u8 (d.toNat : Int)) := by rw [← hd]; exact (byt_below HX3.out hq5 HB3.out 0 (by omega)).1
          obtain ⟨T2, hT2⟩ : ∃ T2, mk (n + 8) (fun j => if j = s.size + r then bu (s ++ bs (ckL s)) j ^^^ x 0 else bu (s ++ bs (ckL s)) j) = T2 := ⟨_, rfl⟩
          have hback5 : ∀ q, (convert 37 9 (.slice (some ⟨W3.heap.size, 0, none⟩) (n + 8) cap2)).run Try.prog (W5.drewN q) = .ok (.string T2) (W5.drewN q) := fun q => by
            rw [← hT2]; exact from_bytes (W := W5.drewN q) (fun j hj => hB5 j hj) cap2
          have hback6 : (convert 37 9 (.slice (some ⟨W3.heap.size, 0, none⟩) (n + 8) cap2)).run Try.prog W5.drew = .ok (.string T2) W5.drew := by
            rw [← hT2]; exact from_bytes (W := W5.drew) (fun j hj => hB5 j hj) cap2
          have HT2 := Lib.hid (show T2.size ≤ 1100 by rw [← hT2, mk_size]; have := HS.out; have := HN.out; omega)
          obtain ⟨v2, hv2⟩ : ∃ v, opE T2 = v := ⟨_, rfl⟩
          have hv216 : (v2 == 16) = ((d.toNat : Int) != 0) := by
            rw [← hv2, ← hT2, ← hd, ← HN.out]
            exact tail_seen s (x 0) r hr8
          have HV2 := Lib.hid hv2
          have HQ5 := Lib.hid (show Q w W5 from HQ4.out.trans hq5)
          have HB5 := Lib.hid (show w.heap.size < W5.heap.size from Nat.lt_of_lt_of_le HB3.out hq5.size)
          have HX5 := Lib.hid hcx5
          clear hq3 hBy2 hq4 hsz4 hm hm' hy hd hz hX4 hB5 hq5 hT2 hv2 hr hr8
          go_wp2_with fail
          go_region
          try rw [hW5]
          clear hcx hcy hfy e1 hW5
          cases hd0 : ((d.toNat : Int) != 0) with
          | true =>
            rw [hd0] at hv216
            go_wp2_with fail
            refine (Open_is T2 v2 HT2.out HV2 _).mono ?_; rintro e W6 ⟨rfl, hq6⟩
            have hc6 : W6.cell? ⟨w.heap.size, 0, none⟩ = some (.int .u8 (d.toNat : Int)) := (hq6.cell (p := ⟨w.heap.size, 0, none⟩) HB5.out).trans HX5.out
            have HQ6 := Lib.hid (HQ5.out.drew.trans hq6)
            clear hq6
            go_wp2_with fail
            refine (awake_c _).mono ?_; rintro e wz ⟨rfl, hqz⟩
            go_wp2_with fail
            go_ret
            exact ⟨rfl, HQ6.out.trans hqz⟩
          | false =>
            rw [hd0] at hv216
            go_wp2_with fail
            refine (Open_is T2 v2 HT2.out HV2 _).mono ?_; rintro e W6 ⟨rfl, hq6⟩
            have hc6 : W6.cell? ⟨w.heap.size, 0, none⟩ = some (.int .u8 (d.toNat : Int)) := (hq6.cell (p := ⟨w.heap.size, 0, none⟩) HB5.out).trans HX5.out
            have HQ6 := Lib.hid (HQ5.out.drew.trans hq6)
            clear hq6
            go_wp2_with fail
            refine (awake_c _).mono ?_; rintro e wz ⟨rfl, hqz⟩
            go_wp2_with fail
            go_ret
            exact ⟨rfl, HQ6.out.trans hqz⟩
      | false =>
        rw [hch] at hv16
        clear hch
        rcases hstop with hs1 | ⟨hs1, hs2⟩
        · skip
          go_wp2_with fail
          refine (Open_is T v HT11.out HV _).mono ?_; rintro e W3 ⟨rfl, hq3⟩
          have HX3 := Lib.hid (byt_below HXW.out hq3 HBW.out)
          have HB3 := Lib.hid (show w.heap.size < W3.heap.size from Nat.lt_of_lt_of_le HBW.out hq3.size)
          have HQ4 := Lib.hid (HQ3.out.trans hq3)
          obtain ⟨cap2, W4, hconv2, hBy2, hq4, hsz4⟩ := to_bytes S W3
          rw [HSZ.out] at hconv2 hBy2
          obtain ⟨r, hr⟩ : ∃ r : Nat, a % 8 = r := ⟨_, rfl⟩
          have hr8 : r < 8 := by omega
          have hri : (a : Int) % 8 = (r : Int) := by omega
          obtain ⟨m, hm⟩ : ∃ m : Nat, n + r = m := ⟨_, rfl⟩
          have hm' : (s.size : Int) + (r : Int) = (m : Int) := by have := HN.out; omega
          have hmw : IntKind.i64.wrap ((s.size : Int) + (r : Int)) = (m : Int) := by rw [hm']; exact IntWalk.i64_in _ (by have := HN.out; omega)
          have hm0 : m < n + 8 := by omega
          have hmb : (m : Int) < ((n + 8 : Nat) : Int) := by omega
          have hmb2 : (m : Int) < (n : Int) + 8 := by omega
          have hr8i : (r : Int) ≤ 7 := by omega
          obtain ⟨y, hy⟩ : ∃ y, bu S m = y := ⟨_, rfl⟩
          obtain ⟨d, hd⟩ : ∃ d, x 0 = d := ⟨_, rfl⟩
          obtain ⟨z, hz⟩ : ∃ z, y ^^^ d = z := ⟨_, rfl⟩
          have e1 := xor8 y d
          rw [hz] at e1
          have hX4 := byt_below HX3.out hq4 HB3.out
          have hcx : W4.cell? ⟨w.heap.size, 0, none⟩ = some (.int .u8 (d.toNat : Int)) := by rw [← hd]; exact (hX4 0 (by omega)).1
          have hcy : W4.cell? ⟨W3.heap.size, m, none⟩ = some (.int .u8 (y.toNat : Int)) := by rw [(hBy2 m hm0).1, hy]; rfl
          have hfy := (hBy2 m hm0).2
          obtain ⟨W5, hW5⟩ : ∃ W5, W4.setCell ⟨W3.heap.size, m, none⟩ (.int .u8 (z.toNat : Int)) = W5 := ⟨_, rfl⟩
          have hB5 : Byt W5 W3.heap.size (n + 8) (fun j => if j = s.size + r then bu (s ++ bs (ckL s)) j ^^^ x 0 else bu (s ++ bs (ckL s)) j) := by
            rw [← hW5]
            intro j hj
            have h1 := byt_set hBy2 hm0 z j hj
            refine ⟨h1.1.trans (congrArg (fun z => some (bv z)) ?_), h1.2⟩
            show (if j = m then z else bu S j) = if j = s.size + r then bu (s ++ bs (ckL s)) j ^^^ x 0 else bu (s ++ bs (ckL s)) j
            rw [HN.out, hm, HSS.out]
            by_cases g : j = m
            · subst g; rw [if_pos rfl, if_pos rfl, hy, hd, hz]
            · rw [if_neg g, if_neg g]
          have hq5 : Q W3 W5 := by rw [← hW5]; exact Below.setCell hq4 (Nat.le_refl _) _
          have hcx5 : W5.cell? ⟨w.heap.size, 0, none⟩ = some (.int .u8 (d.toNat : Int)) := by rw [← hd]; exact (byt_below HX3.out hq5 HB3.out 0 (by omega)).1
          obtain ⟨T2, hT2⟩ : ∃ T2, mk (n + 8) (fun j => if j = s.size + r then bu (s ++ bs (ckL s)) j ^^^ x 0 else bu (s ++ bs (ckL s)) j) = T2 := ⟨_, rfl⟩
          have hback5 : ∀ q, (convert 37 9 (.slice (some ⟨W3.heap.size, 0, none⟩) (n + 8) cap2)).run Try.prog (W5.drewN q) = .ok (.string T2) (W5.drewN q) := fun q => by
            rw [← hT2]; exact from_bytes (W := W5.drewN q) (fun j hj => hB5 j hj) cap2
          have hback6 : (convert 37 9 (.slice (some ⟨W3.heap.size, 0, none⟩) (n + 8) cap2)).run Try.prog W5.drew = .ok (.string T2) W5.drew := by
            rw [← hT2]; exact from_bytes (W := W5.drew) (fun j hj => hB5 j hj) cap2
          have HT2 := Lib.hid (show T2.size ≤ 1100 by rw [← hT2, mk_size]; have := HS.out; have := HN.out; omega)
          obtain ⟨v2, hv2⟩ : ∃ v, opE T2 = v := ⟨_, rfl⟩
          have hv216 : (v2 == 16) = ((d.toNat : Int) != 0) := by
            rw [← hv2, ← hT2, ← hd, ← HN.out]
            exact tail_seen s (x 0) r hr8
          have HV2 := Lib.hid hv2
          have HQ5 := Lib.hid (show Q w W5 from HQ4.out.trans hq5)
          have HB5 := Lib.hid (show w.heap.size < W5.heap.size from Nat.lt_of_lt_of_le HB3.out hq5.size)
          have HX5 := Lib.hid hcx5
          clear hq3 hBy2 hq4 hsz4 hm hm' hy hd hz hX4 hB5 hq5 hT2 hv2 hr hr8
          go_wp2_with fail
          go_region
          try rw [hW5]
          clear hcx hcy hfy e1 hW5
          cases hd0 : ((d.toNat : Int) != 0) with
          | true =>
            rw [hd0] at hv216
            go_wp2_with fail
            refine (Open_is T2 v2 HT2.out HV2 _).mono ?_; rintro e W6 ⟨rfl, hq6⟩
            have hc6 : W6.cell? ⟨w.heap.size, 0, none⟩ = some (.int .u8 (d.toNat : Int)) := (hq6.cell (p := ⟨w.heap.size, 0, none⟩) HB5.out).trans HX5.out
            have HQ6 := Lib.hid (HQ5.out.drew.trans hq6)
            clear hq6
            go_wp2_with fail
            refine (awake_c _).mono ?_; rintro e wz ⟨rfl, hqz⟩
            go_wp2_with fail
            go_ret
            exact ⟨rfl, HQ6.out.trans hqz⟩
          | false =>
            rw [hd0] at hv216
            go_wp2_with fail
            refine (Open_is T2 v2 HT2.out HV2 _).mono ?_; rintro e W6 ⟨rfl, hq6⟩
            have hc6 : W6.cell? ⟨w.heap.size, 0, none⟩ = some (.int .u8 (d.toNat : Int)) := (hq6.cell (p := ⟨w.heap.size, 0, none⟩) HB5.out).trans HX5.out
            have HQ6 := Lib.hid (HQ5.out.drew.trans hq6)
            clear hq6
            go_wp2_with fail
            refine (awake_c _).mono ?_; rintro e wz ⟨rfl, hqz⟩
            go_wp2_with fail
            go_ret
            exact ⟨rfl, HQ6.out.trans hqz⟩
        · skip
          go_wp2_with fail
          refine (Open_is T v HT11.out HV _).mono ?_; rintro e W3 ⟨rfl, hq3⟩
          have HX3 := Lib.hid (byt_below HXW.out hq3 HBW.out)
          have HB3 := Lib.hid (show w.heap.size < W3.heap.size from Nat.lt_of_lt_of_le HBW.out hq3.size)
          have HQ4 := Lib.hid (HQ3.out.trans hq3)
          obtain ⟨cap2, W4, hconv2, hBy2, hq4, hsz4⟩ := to_bytes S W3
          rw [HSZ.out] at hconv2 hBy2
          obtain ⟨r, hr⟩ : ∃ r : Nat, a % 8 = r := ⟨_, rfl⟩
          have hr8 : r < 8 := by omega
          have hri : (a : Int) % 8 = (r : Int) := by omega
          obtain ⟨m, hm⟩ : ∃ m : Nat, n + r = m := ⟨_, rfl⟩
          have hm' : (s.size : Int) + (r : Int) = (m : Int) := by have := HN.out; omega
          have hmw : IntKind.i64.wrap ((s.size : Int) + (r : Int)) = (m : Int) := by rw [hm']; exact IntWalk.i64_in _ (by have := HN.out; omega)
          have hm0 : m < n + 8 := by omega
          have hmb : (m : Int) < ((n + 8 : Nat) : Int) := by omega
          have hmb2 : (m : Int) < (n : Int) + 8 := by omega
          have hr8i : (r : Int) ≤ 7 := by omega
          obtain ⟨y, hy⟩ : ∃ y, bu S m = y := ⟨_, rfl⟩
          obtain ⟨d, hd⟩ : ∃ d, x 0 = d := ⟨_, rfl⟩
          obtain ⟨z, hz⟩ : ∃ z, y ^^^ d = z := ⟨_, rfl⟩
          have e1 := xor8 y d
          rw [hz] at e1
          have hX4 := byt_below HX3.out hq4 HB3.out
          have hcx : W4.cell? ⟨w.heap.size, 0, none⟩ = some (.int .u8 (d.toNat : Int)) := by rw [← hd]; exact (hX4 0 (by omega)).1
          have hcy : W4.cell? ⟨W3.heap.size, m, none⟩ = some (.int .u8 (y.toNat : Int)) := by rw [(hBy2 m hm0).1, hy]; rfl
          have hfy := (hBy2 m hm0).2
          obtain ⟨W5, hW5⟩ : ∃ W5, W4.setCell ⟨W3.heap.size, m, none⟩ (.int .u8 (z.toNat : Int)) = W5 := ⟨_, rfl⟩
          have hB5 : Byt W5 W3.heap.size (n + 8) (fun j => if j = s.size + r then bu (s ++ bs (ckL s)) j ^^^ x 0 else bu (s ++ bs (ckL s)) j) := by
            rw [← hW5]
            intro j hj
            have h1 := byt_set hBy2 hm0 z j hj
            refine ⟨h1.1.trans (congrArg (fun z => some (bv z)) ?_), h1.2⟩
            show (if j = m then z else bu S j) = if j = s.size + r then bu (s ++ bs (ckL s)) j ^^^ x 0 else bu (s ++ bs (ckL s)) j
            rw [HN.out, hm, HSS.out]
            by_cases g : j = m
            · subst g; rw [if_pos rfl, if_pos rfl, hy, hd, hz]
            · rw [if_neg g, if_neg g]
          have hq5 : Q W3 W5 := by rw [← hW5]; exact Below.setCell hq4 (Nat.le_refl _) _
          have hcx5 : W5.cell? ⟨w.heap.size, 0, none⟩ = some (.int .u8 (d.toNat : Int)) := by rw [← hd]; exact (byt_below HX3.out hq5 HB3.out 0 (by omega)).1
          obtain ⟨T2, hT2⟩ : ∃ T2, mk (n + 8) (fun j => if j = s.size + r then bu (s ++ bs (ckL s)) j ^^^ x 0 else bu (s ++ bs (ckL s)) j) = T2 := ⟨_, rfl⟩
          have hback5 : ∀ q, (convert 37 9 (.slice (some ⟨W3.heap.size, 0, none⟩) (n + 8) cap2)).run Try.prog (W5.drewN q) = .ok (.string T2) (W5.drewN q) := fun q => by
            rw [← hT2]; exact from_bytes (W := W5.drewN q) (fun j hj => hB5 j hj) cap2
          have hback6 : (convert 37 9 (.slice (some ⟨W3.heap.size, 0, none⟩) (n + 8) cap2)).run Try.prog W5.drew = .ok (.string T2) W5.drew := by
            rw [← hT2]; exact from_bytes (W := W5.drew) (fun j hj => hB5 j hj) cap2
          have HT2 := Lib.hid (show T2.size ≤ 1100 by rw [← hT2, mk_size]; have := HS.out; have := HN.out; omega)
          obtain ⟨v2, hv2⟩ : ∃ v, opE T2 = v := ⟨_, rfl⟩
          have hv216 : (v2 == 16) = ((d.toNat : Int) != 0) := by
            rw [← hv2, ← hT2, ← hd, ← HN.out]
            exact tail_seen s (x 0) r hr8
          have HV2 := Lib.hid hv2
          have HQ5 := Lib.hid (show Q w W5 from HQ4.out.trans hq5)
          have HB5 := Lib.hid (show w.heap.size < W5.heap.size from Nat.lt_of_lt_of_le HB3.out hq5.size)
          have HX5 := Lib.hid hcx5
          clear hq3 hBy2 hq4 hsz4 hm hm' hy hd hz hX4 hB5 hq5 hT2 hv2 hr hr8
          go_wp2_with fail
          go_region
          try rw [hW5]
          clear hcx hcy hfy e1 hW5
          cases hd0 : ((d.toNat : Int) != 0) with
          | true =>
            rw [hd0] at hv216
            go_wp2_with fail
            refine (Open_is T2 v2 HT2.out HV2 _).mono ?_; rintro e W6 ⟨rfl, hq6⟩
            have hc6 : W6.cell? ⟨w.heap.size, 0, none⟩ = some (.int .u8 (d.toNat : Int)) := (hq6.cell (p := ⟨w.heap.size, 0, none⟩) HB5.out).trans HX5.out
            have HQ6 := Lib.hid (HQ5.out.drew.trans hq6)
            clear hq6
            go_wp2_with fail
            refine (awake_c _).mono ?_; rintro e wz ⟨rfl, hqz⟩
            go_wp2_with fail
            go_ret
            exact ⟨rfl, HQ6.out.trans hqz⟩
          | false =>
            rw [hd0] at hv216
            go_wp2_with fail
            refine (Open_is T2 v2 HT2.out HV2 _).mono ?_; rintro e W6 ⟨rfl, hq6⟩
            have hc6 : W6.cell? ⟨w.heap.size, 0, none⟩ = some (.int .u8 (d.toNat : Int)) := (hq6.cell (p := ⟨w.heap.size, 0, none⟩) HB5.out).trans HX5.out
            have HQ6 := Lib.hid (HQ5.out.drew.trans hq6)
            clear hq6
            go_wp2_with fail
            refine (awake_c _).mono ?_; rintro e wz ⟨rfl, hqz⟩
            go_wp2_with fail
            go_ret
            exact ⟨rfl, HQ6.out.trans hqz⟩

def four (x0 x1 x2 x3 : UInt8) (j : Nat) : UInt8 := if j = 0 then x0 else if j = 1 then x1 else if j = 2 then x2 else x3
set_option maxHeartbeats 800000 in
theorem detects_walk (s : ByteArray) (a x0 x1 x2 x3 : Int) (w : World) (hs : s.size ≤ maxLen) (h0 : (Lit.int .u8 x0).wf = true) (h1 : (Lit.int .u8 x1).wf = true) (h2 : (Lit.int .u8 x2).wf = true) (h3 : (Lit.int .u8 x3).wf = true) :
    Calls Try.prog 9 #[.string s, .int .i64 a, .agg #[.int .u8 x0, .int .u8 x1, .int .u8 x2, .int .u8 x3]] w fun e w' => e = .returned (.bool true) ∧ Below w.heap.size w w' := by
  have HS := Lib.hid hs
  cases hsh : decide (s.size ≤ 1000) with
  | false =>
    have HH := Lib.hid hsh; clear hsh hs
    go_enter Try.func9, Try.ntmps9
    go_wp2_with fail
    refine (short_is s false HS.out HH _).mono ?_; rintro e w1 ⟨rfl, rfl⟩
    go_wp2_with fail
    refine (awake_c _).mono ?_; rintro e wz ⟨rfl, hqz⟩
    go_wp2_with fail
    go_ret
    exact ⟨rfl, ((Q.refl w).alloc _).trans hqz⟩
  | true =>
    by_cases ha : 0 ≤ a ∧ a ≤ (s.size : Int)
    · obtain ⟨c0, rfl⟩ := u8_of h0
      obtain ⟨c1, rfl⟩ := u8_of h1
      obtain ⟨c2, rfl⟩ := u8_of h2
      obtain ⟨c3, rfl⟩ := u8_of h3
      obtain ⟨m, rfl⟩ := Int.eq_ofNat_of_zero_le ha.1
      exact detects_nat s m (four c0 c1 c2 c3) w (of_decide_eq_true hsh) hs (by omega)
    · have HH := Lib.hid hsh; clear hsh hs
      have hc : a < 0 ∨ (0 ≤ a ∧ (s.size : Int) < a) := by omega
      have hsz : s.size ≤ 1000 := of_decide_eq_true HH.out
      clear ha
      rcases hc with hc | ⟨hc, hc2⟩
      · go_enter Try.func9, Try.ntmps9
        go_wp2_with fail
        refine (short_is s true HS.out HH _).mono ?_; rintro e w1 ⟨rfl, rfl⟩
        go_wp2_with fail
        refine (awake_c _).mono ?_; rintro e wz ⟨rfl, hqz⟩
        go_wp2_with fail
        go_ret
        exact ⟨rfl, ((Q.refl w).alloc _).trans hqz⟩
      · have hc3 : ¬ a < 0 := by omega
        go_enter Try.func9, Try.ntmps9
        go_wp2_with fail
        refine (short_is s true HS.out HH _).mono ?_; rintro e w1 ⟨rfl, rfl⟩
        go_wp2_with fail
        refine (awake_c _).mono ?_; rintro e wz ⟨rfl, hqz⟩
        go_wp2_with fail
        go_ret
        exact ⟨rfl, ((Q.refl w).alloc _).trans hqz⟩

open Go.ChangeMaps (open_string shut_string)
theorem list4 {α : Type} (l : List α) (h : (⟨l⟩ : Array α).size = 4) : ∃ a b c d, l = [a, b, c, d] := by
  match l, h with
  | [a, b, c, d], _ => exact ⟨a, b, c, d, rfl⟩
theorem cellsB : Try.prog.cellsOf 5 = 1 := by kernel_rfl
theorem cellsA : Try.prog.cellsOf 39 = 4 := by kernel_rfl
namespace sumsDetects
theorem own : ownKnob Try.prog.godebug = none := by kernel_rfl
set_option maxRecDepth 100000 in
set_option maxHeartbeats 800000 in
theorem lifted (os : Os) (started : os.Started) (H : Type) (enc : TypeId × Value → H) :
    ReturnsInHanded {} Try.checked os 9 .any (Rows.sumsDetectsSpec.pre6 enc Try.prog Try.f9 Rows.sumsDetectsRow.domain false) (Rows.sumsDetectsSpec.post enc Try.prog Try.f9 false true false false) := by
  refine returnsInHanded_of_change (C := Try.checked) own started (by kernel_rfl) Try.func9
    (ChangeSpec.witness6 (enc := enc) (C := Try.checked) false ⟨#[], #[.string ByteArray.empty, .int .i64 0, .agg #[.int .u8 0, .int .u8 0, .int .u8 0, .int .u8 0]], []⟩ 8 (by kernel_rfl) (by kernel_rfl) (by kernel_rfl) (by kernel_rfl)) ?_
  intro W base args ds gs before hval0 hW hcnd _
  have hval : ∀ (j : Nat) t v, Try.f9.params[j]? = some t → args[j]? = some v → Value.okWide Try.prog W .any base t v := hval0
  have hW' := hW
  obtain ⟨p, q, hA0, hV, rfl, hfz, hnd⟩ := hW
  have hA : DataW.TrodAll enc Try.prog W 0 (fun _ => true) true Try.f9.params.toList args.toList ds p := hA0
  rw [Try.params9] at hA hval
  obtain ⟨v0, vs0, d0, ds0, p0, q0, hargs, rfl, rfl, h0, r0⟩ := trodAll_cons hA
  obtain ⟨v1, vs1, d1, ds1, p1, q1, rfl, rfl, rfl, h1, r1⟩ := trodAll_cons r0
  obtain ⟨v2, vs2, d2, ds2, p2, q2, rfl, rfl, rfl, h2, r2⟩ := trodAll_cons r1
  obtain ⟨rfl, rfl, rfl⟩ := trodAll_nil r2
  obtain rfl : args = #[v0, v1, v2] := by cases args; simp_all
  obtain ⟨rfl, rfl⟩ := trodVars_none hV
  obtain ⟨a0, rfl, rfl, rfl, w0⟩ := open_string Try.underlying9 (hval 0 9 v0 rfl rfl) h0
  obtain ⟨a1, rfl, rfl, rfl, w1⟩ := open_int Try.underlying3 (hval 1 3 v1 rfl rfl) h1
  obtain ⟨cs, rfl, hsz, _⟩ : ∃ cs, v2 = .agg cs ∧ cs.size = Try.prog.cellsOf 39 ∧ Row.okWide Try.prog W .any base 39 cs := by
    have := hval 2 39 v2 rfl rfl
    simpa [Value.okWide, Try.underlying39] using this
  rw [cellsA] at hsz
  obtain ⟨l⟩ := cs
  obtain ⟨c0, c1, c2, c3, rfl⟩ := list4 l hsz
  obtain ⟨fuel, hf⟩ := h2
  obtain ⟨y0, y1, y2, y3, m, hx, hy0, hy1, hy2, hy3⟩ := trod_array4 Try.underlying39 cellsB hf
  obtain ⟨x0, e0, rfl, z0⟩ := DataW.trod_int Try.underlying5 hy0
  obtain ⟨x1, e1, rfl, z1⟩ := DataW.trod_int Try.underlying5 hy1
  obtain ⟨x2, e2, rfl, z2⟩ := DataW.trod_int Try.underlying5 hy2
  obtain ⟨x3, e3, rfl, z3⟩ := DataW.trod_int Try.underlying5 hy3
  simp at e0 e1 e2 e3
  subst e0 e1 e2 e3
  simp only [Prod.mk.injEq] at hx
  obtain ⟨rfl, rfl⟩ := hx
  clear hA0 hval0
  have rdA : ∀ (X : World) (sp : Nat → Bool), DataW.Trod enc Try.prog X 0 sp true 39 (.agg #[.int .u8 x0, .int .u8 x1, .int .u8 x2, .int .u8 x3]) (DataW.agg [.lit (.int .u8 x0), .lit (.int .u8 x1), .lit (.int .u8 x2), .lit (.int .u8 x3)]) [] :=
    fun X sp => ⟨2, by simp [DataW.trod, Value.cells, Try.underlying39, Try.underlying5, cellsA, cellsB, z0, z1, z2, z3, show List.range 4 = [0, 1, 2, 3] from rfl]⟩
  refine (detects_walk a0 a1 x0 x1 x2 x3 W w0 z0 z1 z2 z3).mono fun e W' ⟨he, bel⟩ => ?_
  subst he
  exact ⟨_, rfl, _, _, _, [], _, [], hW', trodAll_mk1 (shut_bool Try.underlying4 _), (trodAll_cons_mk (shut_string Try.underlying9 w0) (trodAll_cons_mk (shut_int Try.underlying3 w1) (trodAll_cons_mk (rdA _ _) trodAll_mk0))), rfl, bel.frame _, fun h => by cases h⟩
theorem over : Rows.sumsDetectsRow.holds Try.pinned (OpenSpec.ofChange Rows.sumsDetectsSpec) :=
  OpenClaim.holds_of_wide 9 Try.f9 rfl rfl rfl rfl rfl rfl rfl ⟨rfl, rfl, rfl, rfl, rfl⟩ rfl rfl rfl rfl rfl (by kernel_rfl) Try.func9 (by kernel_rfl)
    (of_decide_eq_true (by kernel_rfl)) (by unfold Func.isWrapper; first | (rw [if_pos (by decide +kernel)]; kernel_rfl) | (rw [if_neg (by decide +kernel)]; exact ⟨rfl, rfl⟩))
    (fun os started H enc _ => lifted os started H enc)
theorem proved : Rows.SumsDetectsSaid := over
end sumsDetects
end Go.Proofs.Ytiffnnjegfghoaa
