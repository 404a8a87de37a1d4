/- For every three strings the law SumsXors returns true: Crc of their exclusive or is the exclusive or of their Crcs (asked for strings of the same length, of at most 1000 bytes). No condition. -/
import Derived.Test.YtiffnnjegfghoaaBytesB
import Derived.OpenShut
import Derived.ShutString
import Derived.RegionTactic
import Derived.BigRegion
set_option linter.unusedVariables false
set_option linter.unusedSimpArgs false
namespace Go.Proofs.Ytiffnnjegfghoaa
open Go.ChangeShapes Go.WideShapes Go.ChangeAt Go.RowKit Cm

theorem Crc_is (s : ByteArray) (v : Nat) (hs : s.size ≤ maxLen) (h : Hid (crcS (bt s) s.size = v)) (w : World) : Calls Try.prog 12 #[.string s] w fun e w' => e = .returned (.int .u32 v) ∧ w = w' :=
  (Crc_c s w hs).mono fun _ _ ⟨a, b⟩ => ⟨by rw [a, h.out], b⟩
/-- the row behind k rounds -/
def xr (a b c : ByteArray) (k j : Nat) : UInt8 := if j < k then bu a j ^^^ bu b j ^^^ bu c j else bu a j
theorem bu_eq (s : ByteArray) (k : Nat) (h : k < s.size) : s[k] = bu s k := by
  apply UInt8.toNat_inj.1
  have := bt_eq s k h
  rw [bt_bu] at this; omega
set_option maxRecDepth 100000 in
set_option maxHeartbeats 1600000 in
theorem xors_walk (a b c : ByteArray) (w : World) (ha : a.size ≤ maxLen) (hb : b.size ≤ maxLen) (hc : c.size ≤ maxLen) : Calls Try.prog 10 #[.string a, .string b, .string c] w fun e w' => e = .returned (.bool true) ∧ Below w.heap.size w w' := by
  have HA := Lib.hid ha
  have HBb := Lib.hid hb
  have HCc := Lib.hid hc
  clear ha hb hc
  cases hsh : decide (a.size ≤ 1000) with
  | false =>
    have HH := Lib.hid hsh; clear hsh
    go_enter Try.func10, Try.ntmps10
    go_wp2_with fail
    refine (short_is a false HA.out HH _).mono ?_; rintro e w1 ⟨rfl, rfl⟩
    go_wp2_with fail
    refine (awake_c _).mono ?_; rintro e wz ⟨rfl, hqz⟩
    go_wp2_with fail
    go_ret
    exact ⟨rfl, hqz⟩
  | true =>
    have HH := Lib.hid hsh
    have HB := Lib.hid (of_decide_eq_true hsh); clear hsh
    by_cases h1 : a.size = b.size
    · by_cases h2 : a.size = c.size
      · obtain ⟨n, hn⟩ : ∃ n, a.size = n := ⟨_, rfl⟩
        have hbn : b.size = n := by omega
        have hcn : c.size = n := by omega
        have t1 : ((a.size : Int) != (b.size : Int)) = false := by rw [h1]; simp
        have t2 : ((a.size : Int) != (c.size : Int)) = false := by rw [h2]; simp
        obtain ⟨cap, W2, hconv, hBy, hq2, hsz⟩ := to_bytes a w
        rw [hn] at hconv hBy
        have HN := Lib.hid hn
        have HBN := Lib.hid hbn
        have HCN := Lib.hid hcn
        have HBY := Lib.hid hBy
        have HQ2 := Lib.hid hq2
        have hn1000 : n ≤ 1000 := by rw [← hn]; exact HB.out
        clear hn hbn hcn h1 h2 hBy hq2
        go_enter Try.func10, Try.ntmps10
        go_wp2_with fail
        refine (short_is a true HA.out HH _).mono ?_; rintro e w1 ⟨rfl, rfl⟩
        go_wp2_with fail
        go_loopw [8] (fun i wr => ∃ k : Nat, k ≤ n ∧ i = .int .i64 k ∧ Hid (Byt wr w.heap.size n (xr a b c k) ∧ Q w wr)) (fun i _ => n - (intOf i).toNat)
        case atStart => exact ⟨0, by omega, rfl, by unfold xr; simpa using HBY.out, HQ2.out⟩
        case round =>
          obtain ⟨k, hk, rfl, HI⟩ := hrel
          by_cases hlt : k < n
          · have hkb : k < b.size := by rw [HBN.out]; exact hlt
            have hkc : k < c.size := by rw [HCN.out]; exact hlt
            have eb := bu_eq b k hkb
            have ec := bu_eq c k hkc
            obtain ⟨x, hx⟩ : ∃ x, bu a k = x := ⟨_, rfl⟩
            obtain ⟨y, hy⟩ : ∃ y, x ^^^ b[k] = y := ⟨_, rfl⟩
            obtain ⟨z, hz⟩ : ∃ z, y ^^^ c[k] = z := ⟨_, rfl⟩
            have e1 := xor8 x b[k]
            have e2 := xor8 y c[k]
            rw [hy] at e1
            rw [hz] at e2
            obtain ⟨hB, hQ⟩ := HI.out
            have hcell := (hB k hlt).1
            have hfr := (hB k hlt).2
            have hxr : xr a b c k k = x := by unfold xr; rw [if_neg (by omega), hx]
            rw [hxr] at hcell
            unfold bv at hcell
            have HW := Lib.hid (show Byt (wr.setCell ⟨w.heap.size, k, none⟩ (.int .u8 (z.toNat : Int))) w.heap.size n (xr a b c (k + 1)) ∧ Q w (wr.setCell ⟨w.heap.size, k, none⟩ (.int .u8 (z.toNat : Int))) from
              ⟨fun j hj => by
                have h1 := byt_set hB hlt z j hj
                refine ⟨h1.1.trans (congrArg (fun z => some (bv z)) ?_), h1.2⟩
                show (if j = k then z else xr a b c k j) = xr a b c (k + 1) j
                unfold xr
                by_cases g : j = k
                · subst g
                  rw [if_pos rfl, if_pos (by omega), ← hz, ← hy, ← hx, eb, ec]
                · rw [if_neg g]
                  by_cases g2 : j < k
                  · rw [if_pos g2, if_pos (by omega)]
                  · rw [if_neg g2, if_neg (by omega)], Below.setCell hQ (Nat.le_refl _) _⟩)
            clear hB hQ eb ec hx hy hz hxr
            go_wp2_with fail
            go_region
            clear hcell hfr e1 e2
            go_wp2_with fail
            go_roundw
            case rel => exact ⟨k + 1, by omega, by go_num, ⟨fun j hj => HW.out.1 j hj, HW.out.2.drew⟩⟩
            case measure => simp [intOf] <;> omega
          · obtain rfl : k = n := by omega
            have hback := from_bytes HI.out.1 cap
            obtain ⟨T, hT⟩ : ∃ T, mk k (xr a b c k) = T := ⟨_, rfl⟩
            rw [hT] at hback
            have hTs : T.size = k := by rw [← hT, mk_size]
            have HTM := Lib.hid (show T.size ≤ maxLen by rw [hTs, ← HN.out]; exact HA.out)
            obtain ⟨va, hva⟩ : ∃ v, crcS (bt a) a.size = v := ⟨_, rfl⟩
            obtain ⟨vb, hvb⟩ : ∃ v, crcS (bt b) b.size = v := ⟨_, rfl⟩
            obtain ⟨vc, hvc⟩ : ∃ v, crcS (bt c) c.size = v := ⟨_, rfl⟩
            obtain ⟨vt, hvt⟩ : ∃ v, crcS (bt T) T.size = v := ⟨_, rfl⟩
            have la : va < 4294967296 := by rw [← hva]; exact crcS_lt (bt_bd a) _
            have lb : vb < 4294967296 := by rw [← hvb]; exact crcS_lt (bt_bd b) _
            have lc : vc < 4294967296 := by rw [← hvc]; exact crcS_lt (bt_bd c) _
            have hx1 := xor32 la lb
            have hx2 := xor32 (xor_lt32 la lb) lc
            have he : va ^^^ vb ^^^ vc = vt := by
              rw [← hva, ← hvb, ← hvc, ← hvt, HN.out, HBN.out, HCN.out, hTs, ← crc_three]
              refine crc_same fun i hi => ?_
              rw [← hT, mk_bt _ _ _ hi]
              unfold xr
              rw [if_pos hi, UInt8.toNat_xor, UInt8.toNat_xor]; rfl
            rw [he] at hx2
            have HVA := Lib.hid hva
            have HVB := Lib.hid hvb
            have HVC := Lib.hid hvc
            have HVT := Lib.hid hvt
            obtain ⟨vd, hvd⟩ : ∃ v, va ^^^ vb = v := ⟨_, rfl⟩
            rw [hvd] at hx1 hx2
            have HQ3 := Lib.hid HI.out.2
            clear hT hTs hva hvb hvc hvt la lb lc he hvd
            go_wp2_with fail
            refine (Crc_is T vt HTM.out HVT _).mono ?_; rintro e w1 ⟨rfl, rfl⟩
            go_wp2_with fail
            refine (Crc_is a va HA.out HVA _).mono ?_; rintro e w1 ⟨rfl, rfl⟩
            go_wp2_with fail
            refine (Crc_is b vb HBb.out HVB _).mono ?_; rintro e w1 ⟨rfl, rfl⟩
            go_wp2_with fail
            refine (Crc_is c vc HCc.out HVC _).mono ?_; rintro e w1 ⟨rfl, rfl⟩
            go_wp2_with fail
            refine (awake_c _).mono ?_; rintro e wz ⟨rfl, hqz⟩
            go_wp2_with fail
            go_ret
            exact ⟨rfl, HQ3.out.trans hqz⟩
      · have t1 : ((a.size : Int) != (b.size : Int)) = false := by rw [h1]; simp
        have t2 : ((a.size : Int) != (c.size : Int)) = true := by rw [bne_iff_ne]; omega
        clear h1 h2
        go_enter Try.func10, Try.ntmps10
        go_wp2_with fail
        refine (short_is a true HA.out HH _).mono ?_; rintro e w1 ⟨rfl, rfl⟩
        go_wp2_with fail
        refine (awake_c _).mono ?_; rintro e wz ⟨rfl, hqz⟩
        go_wp2_with fail
        go_ret
        exact ⟨rfl, hqz⟩
    · have t1 : ((a.size : Int) != (b.size : Int)) = true := by rw [bne_iff_ne]; omega
      clear h1
      go_enter Try.func10, Try.ntmps10
      go_wp2_with fail
      refine (short_is a true HA.out HH _).mono ?_; rintro e w1 ⟨rfl, rfl⟩
      go_wp2_with fail
      refine (awake_c _).mono ?_; rintro e wz ⟨rfl, hqz⟩
      go_wp2_with fail
      go_ret
      exact ⟨rfl, hqz⟩

open Go.ChangeMaps (open_string shut_string)
namespace sumsXors
theorem own : ownKnob Try.prog.godebug = none := by kernel_rfl
set_option maxRecDepth 100000 in
theorem lifted (os : Os) (started : os.Started) (H : Type) (enc : TypeId × Value → H) :
    ReturnsInHanded {} Try.checked os 10 .any (Rows.sumsXorsSpec.pre6 enc Try.prog Try.f10 Rows.sumsXorsRow.domain false) (Rows.sumsXorsSpec.post enc Try.prog Try.f10 false true false false) := by
  refine returnsInHanded_of_change (C := Try.checked) own started (by kernel_rfl) Try.func10
    (ChangeSpec.witness6 (enc := enc) (C := Try.checked) false ⟨#[], #[.string ByteArray.empty, .string ByteArray.empty, .string ByteArray.empty], []⟩ 8 (by kernel_rfl) (by kernel_rfl) (by kernel_rfl) (by kernel_rfl)) ?_
  intro W base args ds gs before hval0 hW hcnd _
  have hval : ∀ (j : Nat) t v, Try.f10.params[j]? = some t → args[j]? = some v → Value.okWide Try.prog W .any base t v := hval0
  have hW' := hW
  obtain ⟨p, q, hA0, hV, rfl, hfz, hnd⟩ := hW
  have hA : DataW.TrodAll enc Try.prog W 0 (fun _ => true) true Try.f10.params.toList args.toList ds p := hA0
  rw [Try.params10] at hA hval
  obtain ⟨v0, vs0, d0, ds0, p0, q0, hargs, rfl, rfl, h0, r0⟩ := trodAll_cons hA
  obtain ⟨v1, vs1, d1, ds1, p1, q1, rfl, rfl, rfl, h1, r1⟩ := trodAll_cons r0
  obtain ⟨v2, vs2, d2, ds2, p2, q2, rfl, rfl, rfl, h2, r2⟩ := trodAll_cons r1
  obtain ⟨rfl, rfl, rfl⟩ := trodAll_nil r2
  obtain rfl : args = #[v0, v1, v2] := by cases args; simp_all
  obtain ⟨rfl, rfl⟩ := trodVars_none hV
  obtain ⟨a0, rfl, rfl, rfl, w0⟩ := open_string Try.underlying9 (hval 0 9 v0 rfl rfl) h0
  obtain ⟨a1, rfl, rfl, rfl, w1⟩ := open_string Try.underlying9 (hval 1 9 v1 rfl rfl) h1
  obtain ⟨a2, rfl, rfl, rfl, w2⟩ := open_string Try.underlying9 (hval 2 9 v2 rfl rfl) h2
  clear hA0 hval0
  refine (xors_walk a0 a1 a2 W w0 w1 w2).mono fun e W' ⟨he, bel⟩ => ?_
  subst he
  exact ⟨_, rfl, _, _, _, [], _, [], hW', trodAll_mk1 (shut_bool Try.underlying4 _), (trodAll_cons_mk (shut_string Try.underlying9 w0) (trodAll_cons_mk (shut_string Try.underlying9 w1) (trodAll_cons_mk (shut_string Try.underlying9 w2) trodAll_mk0))), rfl, bel.frame _, fun h => by cases h⟩
theorem over : Rows.sumsXorsRow.holds Try.pinned (OpenSpec.ofChange Rows.sumsXorsSpec) :=
  OpenClaim.holds_of_wide 10 Try.f10 rfl rfl rfl rfl rfl rfl rfl ⟨rfl, rfl, rfl, rfl, rfl⟩ rfl rfl rfl rfl rfl (by kernel_rfl) Try.func10 (by kernel_rfl)
    (of_decide_eq_true (by kernel_rfl)) (by unfold Func.isWrapper; first | (rw [if_pos (by decide +kernel)]; kernel_rfl) | (rw [if_neg (by decide +kernel)]; exact ⟨rfl, rfl⟩))
    (fun os started H enc _ => lifted os started H enc)
theorem proved : Rows.SumsXorsSaid := over
end sumsXors

end Go.Proofs.Ytiffnnjegfghoaa
