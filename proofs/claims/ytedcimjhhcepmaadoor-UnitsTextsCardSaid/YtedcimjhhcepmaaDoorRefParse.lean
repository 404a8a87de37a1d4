/- The contract of the reference's Parse. -/
import Derived.Test.YtedcimjhhcepmaaDoorRefForm
set_option linter.unusedVariables false
set_option linter.unusedSimpArgs false
namespace Go.Proofs.YtedcimjhhcepmaaDoor
open Go.ChangeShapes Go.WideShapes Go.ChangeAt Go.RowKit Um

def ParInv (ds : List UInt8) (v9 v10 v11 v12 : Value) : Prop :=
  ∃ (m u V : Nat) (over zero : Bool), v9 = .int .u64 (u : Int) ∧ v10 = .bool over ∧ v11 = .bool zero ∧ v12 = .int .i64 (m : Int) ∧
    Hid (m ≤ ds.length ∧ V = vl 0 (ds.take m) ∧ over = decide (9223372036854775808 < V) ∧ zero = decide (V = 0) ∧ (over = false → u = V) ∧ u ≤ 9223372036854775808)
theorem vl_take {ds : List UInt8} {m : Nat} {c : UInt8} (h : ds[m]? = some c) : vl 0 (ds.take (m + 1)) = vl 0 (ds.take m) * 10 + (c.toNat - 48) := by
  rw [List.take_add_one, h]; show vl 0 (ds.take m ++ [c]) = _; rw [vl_app, vl_one]
theorem hasP {s : ByteArray} (h : 0 < s.size) : Lib.hasPrefix (lst s) [45] = decide (s[0].toNat = 45) := by
  have h0 := lst_at s 0 h
  generalize hl : lst s = l at h0
  cases l with
  | nil => cases h0
  | cons c r =>
    have hc : c = s[0] := by simpa using h0
    unfold Lib.hasPrefix
    simp only [List.isPrefixOf, Bool.and_true]
    rw [hc, Bool.eq_iff_iff, beq_iff_eq, decide_eq_true_eq]
    constructor
    · intro g; rw [← g]; rfl
    · intro g; exact (UInt8.toNat_inj.1 g).symm
theorem ext1 {s : ByteArray} (h : 0 < s.size) : lst (s.extract 1 s.size) = (lst s).drop 1 := by
  unfold lst; simp [ByteArray.data_extract, List.extract]
  rw [List.take_of_length_le]; simp
/-- what Parse answers, over the digits' value -/
theorem pRes_yes {l : List UInt8} {K : Nat} (h0 : l ≠ []) (hw : wpOk (Lib.trimPrefix l [45]) K = true) {V : Nat} (hV : vl 0 ((parts (Lib.trimPrefix l [45]) K).1 ++ (parts (Lib.trimPrefix l [45]) K).2) = V) {neg : Bool} (hn : Lib.hasPrefix l [45] = neg) :
    pRes l K = if 9223372036854775808 < V then (0, 9) else if neg = true ∧ V = 0 then (0, 5) else (sgV neg V, sgE neg V) := by
  obtain ⟨w1, w2⟩ := wp_ok hw
  unfold pRes
  rw [if_neg h0, if_neg (by rw [hw]; simp), puok_vl w1 w2, hV, hn]
  by_cases h1 : V ≤ 18446744073709551615
  · rw [if_pos h1]
    simp only
    by_cases h2 : 9223372036854775808 < V
    · have hok : sgOk neg V = false := by cases neg <;> (unfold sgOk; simp; omega)
      rw [if_pos h2, if_neg (by simp; omega)]
      unfold sgV sgE; rw [hok]; rfl
    · rw [if_neg h2]
      by_cases h3 : neg = true ∧ V = 0
      · rw [if_pos h3, if_pos (by rw [h3.1, h3.2]; rfl)]
      · rw [if_neg h3, if_neg (by intro g; rw [Bool.and_eq_true, decide_eq_true_eq] at g; exact h3 g)]
  · rw [if_neg h1, if_pos (by omega)]
theorem sgT {V : Nat} (h : V ≤ 9223372036854775808) : sgV true V = -(V : Int) ∧ sgE true V = 0 := sg_neg h

set_option maxRecDepth 1000000 in
set_option maxHeartbeats 6400000 in
theorem rParse_is (s : ByteArray) (digits : Int) (K : Nat) (v f : Int) (hs : s.size ≤ 100) (hK : Hid (clamp digits 0 9 = (K : Int))) (hv : Hid (pRes (lst s) K = (v, f))) (w : World) :
    Calls Tryd.prog 25 #[.string s, .int .i64 digits] w fun e w' => e = .returned (.tuple #[.int .i64 v, .int .i64 f]) ∧ Q w w' := by
  have hKb : K ≤ 9 := by have := hK.out; unfold clamp at this; split at this <;> (try split at this) <;> (try split at this) <;> omega
  by_cases h0 : s.size = 0
  · have hl : lst s = [] := List.length_eq_zero_iff.1 (by rw [lst_len]; exact h0)
    have HE := Lib.hid (show (v, f) = ((0 : Int), (3 : Int)) by rw [← hv.out]; unfold pRes; rw [if_pos hl])
    have i1 : s.toList = [] := by rw [Lib.toList_data]; exact hl
    have i2 : (s.toList == []) = true := by rw [i1]; rfl
    clear h0 hl hs hKb
    go_enter Tryd.func25, Tryd.ntmps25
    go_wp2_with fail
    go_ret2
    exact ⟨ret_ii (congrArg Prod.fst HE.out).symm (congrArg Prod.snd HE.out).symm, Q.refl _⟩
  · have hl : lst s ≠ [] := fun g => h0 (by rw [← lst_len, g]; rfl)
    have i1 : s.toList.isEmpty = false := by rw [Lib.toList_data, List.isEmpty_eq_false_iff]; exact hl
    have i2 : (s.toList == []) = false := by rw [beq_eq_false_iff_ne, Lib.toList_data]; exact hl
    have hp0 : 0 < s.size := by omega
    have js : (s.size : Int) ≤ 100 := by omega
    have SN := Lib.hid hl
    have KB := Lib.hid hKb
    have hpre := hasP hp0
    by_cases hneg : s[0].toNat = 45
    · have n1 : ((s[0].toNat : Int) == 45) = true := by rw [beq_iff_eq]; omega
      rw [decide_eq_true hneg] at hpre
      have HN := Lib.hid hpre
      obtain ⟨T, hT⟩ : ∃ T, s.extract 1 s.size = T := ⟨_, rfl⟩
      have ET := Lib.hid (show lst T = Lib.trimPrefix (lst s) [45] by rw [← hT, ext1 hp0]; unfold Lib.trimPrefix; rw [hpre]; rfl)
      have TS := Lib.hid (show T.size ≤ 100 by rw [← hT, ByteArray.size_extract]; omega)
      clear h0 hl hs hKb hneg hpre
      go_enter Tryd.func25, Tryd.ntmps25
      go_wp2_with fail
      refine (rClamp_c digits 0 9 _).mono ?_; rintro e w1 ⟨rfl, rfl⟩
      rw [hK.out]
      go_wp2_with fail
      refine (form_c T K TS.out KB.out _).mono ?_
      rintro e w1 ⟨hb, ⟨hno, rfl⟩ | ⟨hyes, vv, rfl, ho⟩⟩
      · have HE := Lib.hid (show (v, f) = ((0 : Int), (5 : Int)) by rw [← hv.out]; unfold pRes; rw [if_neg SN.out, ← ET.out, if_pos hno])
        clear hno
        go_wp2_with fail
        go_ret2
        exact ⟨ret_ii (congrArg Prod.fst HE.out).symm (congrArg Prod.snd HE.out).symm, hb⟩
      · have QF := Lib.hid (show Q w w1 from hb)
        clear hb
        obtain ⟨ds, hds⟩ : ∃ ds, (parts (lst T) K).1 ++ (parts (lst T) K).2 = ds := ⟨_, rfl⟩
        have hwp := wp_ok hyes
        rw [hds] at ho hwp
        have hlen : 0 < (ds.map sub).length := by rw [List.length_map]; exact List.length_pos_iff.2 hwp.2
        obtain ⟨g, cap, rfl, hgB, hgs, hcell⟩ := own_row ho hlen
        rw [List.length_map]
        have HCELL := Lib.hid hcell
        have HDS := Lib.hid hwp.1
        have HLEN := Lib.hid (show ds.length ≤ 1000 by
          rw [← hds, List.length_append]
          have := ctI_len (lst T)
          rw [lst_len] at this
          have := TS.out
          unfold parts; split
          · simp only [List.length_nil]; rw [lst_len]; omega
          · omega)
        have jl : (ds.length : Int) ≤ 1000 := by have := HLEN.out; omega
        have HP := Lib.hid (show ∀ V, vl 0 ds = V → (v, f) = (if 9223372036854775808 < V then ((0 : Int), (9 : Int)) else if true = true ∧ V = 0 then (0, 5) else (sgV true V, sgE true V)) from fun V hV => by
          rw [← hv.out]; exact pRes_yes SN.out (by rw [← ET.out]; exact hyes) (by rw [← ET.out, hds]; exact hV) HN.out)
        clear hcell hwp hlen ho hds hgB hgs hyes
        go_wp2_with fail
        go_loop [9, 10, 11, 12] (fun v9 v10 v11 v12 => ParInv ds v9 v10 v11 v12) (fun _ _ _ v12 => ds.length - (intOf v12).toNat)
        case atStart => exact ⟨0, 0, 0, false, true, rfl, rfl, rfl, rfl, ⟨Nat.zero_le _, rfl, rfl, rfl, fun _ => rfl, by omega⟩⟩
        case round =>
          obtain ⟨m, u, V, over, zero, rfl, rfl, rfl, rfl, HI⟩ := hrel
          have jm : (m : Int) ≤ 1000 := by have := HI.out.1; have := HLEN.out; omega
          have ju : (u : Int) ≤ 9223372036854775808 := by have := HI.out.2.2.2.2.2; omega
          by_cases hlt : m < ds.length
          · obtain ⟨c, hc⟩ : ∃ c, ds[m]? = some c := ⟨ds[m], List.getElem?_eq_getElem hlt⟩
            have hdc : isD c = true := by have := HDS.out; unfold digs at this; exact List.all_eq_true.1 this c (List.mem_of_getElem? hc)
            obtain ⟨d, d1, d2, d3⟩ := chr_dig hdc
            have hcx : w1.cell? ⟨g, m, none⟩ = some (.int .u8 (d : Int)) := by
              refine (HCELL.out m (sub c) (by rw [List.getElem?_map, hc]; rfl)).trans ?_
              rw [bv_sub hdc, d2]; congr 2; omega
            have HV := Lib.hid (show vl 0 (ds.take (m + 1)) = V * 10 + d by rw [vl_take hc, ← HI.out.2.1, d2]; omega)
            have jd : (d : Int) ≤ 9 := by omega
            have HLT := Lib.hid (show m + 1 ≤ ds.length by omega)
            clear hc hdc d2 d3
            obtain ⟨E, hE⟩ : ∃ E : Int, (9223372036854775808 - (d : Int)) / 10 = E := ⟨_, rfl⟩
            obtain ⟨X, hX⟩ : ∃ X : Nat, 10 * u = X := ⟨_, rfl⟩
            have eX : 10 * (u : Int) = (X : Int) := by omega
            cases over with
            | true =>
              have HO := Lib.hid (show 9223372036854775808 < V * 10 + d by have := HI.out.2.2.1; have := of_decide_eq_true this.symm; omega)
              cases zero with
              | true => exact absurd HI.out.2.2.2.1 (by have := HI.out.2.2.1; have := of_decide_eq_true this.symm; rw [decide_eq_false (by omega)]; simp)
              | false =>
                have HZ := Lib.hid (show V ≠ 0 by have := HI.out.2.2.2.1; exact of_decide_eq_false this.symm)
                have HU := Lib.hid (show u ≤ 9223372036854775808 from HI.out.2.2.2.2.2)
                clear HI d1 hX hE
                go_wp2_with fail
                go_round
                case rel => exact ⟨m + 1, u, V * 10 + d, true, false, by go_num, rfl, rfl, by go_num, ⟨HLT.out, HV.out.symm, (decide_eq_true HO.out).symm, (decide_eq_false (by have := HZ.out; omega)).symm, (fun h => by cases h), HU.out⟩⟩
                case measure => simp [intOf]; omega
            | false =>
              have huV : u = V := HI.out.2.2.2.2.1 rfl
              subst huV
              by_cases hov : 9223372036854775808 < u * 10 + d
              · have iE : E < (u : Int) := by omega
                have HO := Lib.hid hov
                have HU := Lib.hid (show u ≤ 9223372036854775808 from HI.out.2.2.2.2.2)
                have hu0 : 0 < u := by omega
                cases zero with
                | true => exact absurd HI.out.2.2.2.1 (by rw [decide_eq_false (by omega)]; simp)
                | false =>
                  clear HI d1 hX hov
                  go_wp2_with fail
                  go_round
                  case rel => exact ⟨m + 1, u, u * 10 + d, true, false, by go_num, rfl, rfl, by go_num, ⟨HLT.out, HV.out.symm, (decide_eq_true HO.out).symm, (decide_eq_false (by omega)).symm, (fun h => by cases h), HU.out⟩⟩
                  case measure => simp [intOf]; omega
              · have iE : ¬ E < (u : Int) := by omega
                have HO := Lib.hid hov
                obtain ⟨Y, hY⟩ : ∃ Y : Nat, X + d = Y := ⟨_, rfl⟩
                have eY : (X : Int) + (d : Int) = (Y : Int) := by omega
                have jX : (X : Int) ≤ 9223372036854775808 := by omega
                have jY : (Y : Int) ≤ 9223372036854775808 := by omega
                have HY := Lib.hid (show Y = u * 10 + d by omega)
                cases zero with
                | true =>
                  have hu0 : u = 0 := of_decide_eq_true HI.out.2.2.2.1.symm
                  by_cases hd0 : d = 0
                  · have z1 : ((d : Int) == 0) = true := by rw [beq_iff_eq]; omega
                    have HZ := Lib.hid (show Y = 0 by omega)
                    have hu9 : ¬ 0 < (u : Int) := by omega
                    clear HI d1 hX hov hY hu0 hd0
                    go_wp2_with fail
                    go_round
                    case rel => exact ⟨m + 1, Y, u * 10 + d, false, true, by go_num, rfl, rfl, by go_num, ⟨HLT.out, HV.out.symm, (decide_eq_false HO.out).symm, (decide_eq_true (by rw [← HY.out]; exact HZ.out)).symm, fun _ => HY.out, by have := HO.out; have := HY.out; omega⟩⟩
                    case measure => simp [intOf]; omega
                  · have z1 : ((d : Int) == 0) = false := by rw [beq_eq_false_iff_ne]; omega
                    have HZ := Lib.hid (show Y ≠ 0 by omega)
                    clear HI d1 hX hov hY hu0 hd0
                    go_wp2_with fail
                    go_round
                    case rel => exact ⟨m + 1, Y, u * 10 + d, false, false, by go_num, rfl, rfl, by go_num, ⟨HLT.out, HV.out.symm, (decide_eq_false HO.out).symm, (decide_eq_false (by rw [← HY.out]; exact HZ.out)).symm, fun _ => HY.out, by have := HO.out; have := HY.out; omega⟩⟩
                    case measure => simp [intOf]; omega
                | false =>
                  have HZ := Lib.hid (show Y ≠ 0 by have := of_decide_eq_false HI.out.2.2.2.1.symm; omega)
                  clear HI d1 hX hov hY
                  go_wp2_with fail
                  go_round
                  case rel => exact ⟨m + 1, Y, u * 10 + d, false, false, by go_num, rfl, rfl, by go_num, ⟨HLT.out, HV.out.symm, (decide_eq_false HO.out).symm, (decide_eq_false (by rw [← HY.out]; exact HZ.out)).symm, fun _ => HY.out, by have := HO.out; have := HY.out; omega⟩⟩
                  case measure => simp [intOf]; omega
          · obtain rfl : m = ds.length := by have := HI.out.1; omega
            have hV := HI.out.2.1
            rw [List.take_length] at hV
            have hR := HP.out V hV.symm
            have hov := HI.out.2.2.1
            have hze := HI.out.2.2.2.1
            have huu := HI.out.2.2.2.2.1
            clear HI hV hlt
            cases over with
            | true =>
              have h1 := of_decide_eq_true hov.symm
              rw [if_pos h1] at hR
              cases zero with
              | true => exact absurd (of_decide_eq_true hze.symm) (by omega)
              | false =>
                have HR := Lib.hid hR
                clear hR hov hze huu h1
                go_wp2_with fail
                go_ret2
                exact ⟨ret_ii (congrArg Prod.fst HR.out).symm (congrArg Prod.snd HR.out).symm, QF.out⟩
            | false =>
              have h1 := of_decide_eq_false hov.symm
              obtain rfl := huu rfl
              rw [if_neg h1] at hR
              cases zero with
              | true =>
                have h2 := of_decide_eq_true hze.symm
                rw [if_pos (by first | exact ⟨rfl, h2⟩ | exact ⟨trivial, h2⟩)] at hR
                have HR := Lib.hid hR
                clear hR hov hze huu h1 h2
                go_wp2_with fail
                go_ret2
                exact ⟨ret_ii (congrArg Prod.fst HR.out).symm (congrArg Prod.snd HR.out).symm, QF.out⟩
              | false =>
                have h2 := of_decide_eq_false hze.symm
                rw [if_neg (by rintro ⟨_, g⟩; exact h2 g)] at hR
                have hs2 := sg_neg (q := u) (by omega)
                rw [hs2.1, hs2.2] at hR
                have HR := Lib.hid hR
                have ju1 : 1 ≤ (u : Int) := by omega
                clear hR hov hze huu h1 h2 hs2
                go_wp2_with fail
                all_goals go_ret2
                all_goals exact ⟨ret_ii (by have e2 : v = -(u : Int) := congrArg Prod.fst HR.out; rw [e2]; (try simp only [IntKind.wrap_u64, wrap64]); omega) (congrArg Prod.snd HR.out).symm, QF.out⟩
    · have n1 : ((s[0].toNat : Int) == 45) = false := by rw [beq_eq_false_iff_ne]; omega
      rw [decide_eq_false hneg] at hpre
      have HN := Lib.hid hpre
      obtain ⟨T, hT⟩ : ∃ T, s = T := ⟨_, rfl⟩
      have ET := Lib.hid (show lst T = Lib.trimPrefix (lst s) [45] by rw [← hT]; exact (sign_no hpre).symm)
      have TS := Lib.hid (show T.size ≤ 100 by rw [← hT]; exact hs)
      subst hT
      clear h0 hl hs hKb hneg hpre
      go_enter Tryd.func25, Tryd.ntmps25
      go_wp2_with fail
      refine (rClamp_c digits 0 9 _).mono ?_; rintro e w1 ⟨rfl, rfl⟩
      rw [hK.out]
      go_wp2_with fail
      refine (form_c s K TS.out KB.out _).mono ?_
      rintro e w1 ⟨hb, ⟨hno, rfl⟩ | ⟨hyes, vv, rfl, ho⟩⟩
      · have HE := Lib.hid (show (v, f) = ((0 : Int), (5 : Int)) by rw [← hv.out]; unfold pRes; rw [if_neg SN.out, ← ET.out, if_pos hno])
        clear hno
        go_wp2_with fail
        go_ret2
        exact ⟨ret_ii (congrArg Prod.fst HE.out).symm (congrArg Prod.snd HE.out).symm, hb⟩
      · have QF := Lib.hid (show Q w w1 from hb)
        clear hb
        obtain ⟨ds, hds⟩ : ∃ ds, (parts (lst s) K).1 ++ (parts (lst s) K).2 = ds := ⟨_, rfl⟩
        have hwp := wp_ok hyes
        rw [hds] at ho hwp
        have hlen : 0 < (ds.map sub).length := by rw [List.length_map]; exact List.length_pos_iff.2 hwp.2
        obtain ⟨g, cap, rfl, hgB, hgs, hcell⟩ := own_row ho hlen
        rw [List.length_map]
        have HCELL := Lib.hid hcell
        have HDS := Lib.hid hwp.1
        have HLEN := Lib.hid (show ds.length ≤ 1000 by
          rw [← hds, List.length_append]
          have := ctI_len (lst s)
          rw [lst_len] at this
          have := TS.out
          unfold parts; split
          · simp only [List.length_nil]; rw [lst_len]; omega
          · omega)
        have jl : (ds.length : Int) ≤ 1000 := by have := HLEN.out; omega
        have HP := Lib.hid (show ∀ V, vl 0 ds = V → (v, f) = (if 9223372036854775808 < V then ((0 : Int), (9 : Int)) else if false = true ∧ V = 0 then (0, 5) else (sgV false V, sgE false V)) from fun V hV => by
          rw [← hv.out]; exact pRes_yes SN.out (by rw [← ET.out]; exact hyes) (by rw [← ET.out, hds]; exact hV) HN.out)
        clear hcell hwp hlen ho hds hgB hgs hyes
        go_wp2_with fail
        go_loop [9, 10, 11, 12] (fun v9 v10 v11 v12 => ParInv ds v9 v10 v11 v12) (fun _ _ _ v12 => ds.length - (intOf v12).toNat)
        case atStart => exact ⟨0, 0, 0, false, true, rfl, rfl, rfl, rfl, ⟨Nat.zero_le _, rfl, rfl, rfl, fun _ => rfl, by omega⟩⟩
        case round =>
          obtain ⟨m, u, V, over, zero, rfl, rfl, rfl, rfl, HI⟩ := hrel
          have jm : (m : Int) ≤ 1000 := by have := HI.out.1; have := HLEN.out; omega
          have ju : (u : Int) ≤ 9223372036854775808 := by have := HI.out.2.2.2.2.2; omega
          by_cases hlt : m < ds.length
          · obtain ⟨c, hc⟩ : ∃ c, ds[m]? = some c := ⟨ds[m], List.getElem?_eq_getElem hlt⟩
            have hdc : isD c = true := by have := HDS.out; unfold digs at this; exact List.all_eq_true.1 this c (List.mem_of_getElem? hc)
            obtain ⟨d, d1, d2, d3⟩ := chr_dig hdc
            have hcx : w1.cell? ⟨g, m, none⟩ = some (.int .u8 (d : Int)) := by
              refine (HCELL.out m (sub c) (by rw [List.getElem?_map, hc]; rfl)).trans ?_
              rw [bv_sub hdc, d2]; congr 2; omega
            have HV := Lib.hid (show vl 0 (ds.take (m + 1)) = V * 10 + d by rw [vl_take hc, ← HI.out.2.1, d2]; omega)
            have jd : (d : Int) ≤ 9 := by omega
            have HLT := Lib.hid (show m + 1 ≤ ds.length by omega)
            clear hc hdc d2 d3
            obtain ⟨E, hE⟩ : ∃ E : Int, (9223372036854775808 - (d : Int)) / 10 = E := ⟨_, rfl⟩
            obtain ⟨X, hX⟩ : ∃ X : Nat, 10 * u = X := ⟨_, rfl⟩
            have eX : 10 * (u : Int) = (X : Int) := by omega
            cases over with
            | true =>
              have HO := Lib.hid (show 9223372036854775808 < V * 10 + d by have := HI.out.2.2.1; have := of_decide_eq_true this.symm; omega)
              cases zero with
              | true => exact absurd HI.out.2.2.2.1 (by have := HI.out.2.2.1; have := of_decide_eq_true this.symm; rw [decide_eq_false (by omega)]; simp)
              | false =>
                have HZ := Lib.hid (show V ≠ 0 by have := HI.out.2.2.2.1; exact of_decide_eq_false this.symm)
                have HU := Lib.hid (show u ≤ 9223372036854775808 from HI.out.2.2.2.2.2)
                clear HI d1 hX hE
                go_wp2_with fail
                go_round
                case rel => exact ⟨m + 1, u, V * 10 + d, true, false, by go_num, rfl, rfl, by go_num, ⟨HLT.out, HV.out.symm, (decide_eq_true HO.out).symm, (decide_eq_false (by have := HZ.out; omega)).symm, (fun h => by cases h), HU.out⟩⟩
                case measure => simp [intOf]; omega
            | false =>
              have huV : u = V := HI.out.2.2.2.2.1 rfl
              subst huV
              by_cases hov : 9223372036854775808 < u * 10 + d
              · have iE : E < (u : Int) := by omega
                have HO := Lib.hid hov
                have HU := Lib.hid (show u ≤ 9223372036854775808 from HI.out.2.2.2.2.2)
                have hu0 : 0 < u := by omega
                cases zero with
                | true => exact absurd HI.out.2.2.2.1 (by rw [decide_eq_false (by omega)]; simp)
                | false =>
                  clear HI d1 hX hov
                  go_wp2_with fail
                  go_round
                  case rel => exact ⟨m + 1, u, u * 10 + d, true, false, by go_num, rfl, rfl, by go_num, ⟨HLT.out, HV.out.symm, (decide_eq_true HO.out).symm, (decide_eq_false (by omega)).symm, (fun h => by cases h), HU.out⟩⟩
                  case measure => simp [intOf]; omega
              · have iE : ¬ E < (u : Int) := by omega
                have HO := Lib.hid hov
                obtain ⟨Y, hY⟩ : ∃ Y : Nat, X + d = Y := ⟨_, rfl⟩
                have eY : (X : Int) + (d : Int) = (Y : Int) := by omega
                have jX : (X : Int) ≤ 9223372036854775808 := by omega
                have jY : (Y : Int) ≤ 9223372036854775808 := by omega
                have HY := Lib.hid (show Y = u * 10 + d by omega)
                cases zero with
                | true =>
                  have hu0 : u = 0 := of_decide_eq_true HI.out.2.2.2.1.symm
                  by_cases hd0 : d = 0
                  · have z1 : ((d : Int) == 0) = true := by rw [beq_iff_eq]; omega
                    have HZ := Lib.hid (show Y = 0 by omega)
                    have hu9 : ¬ 0 < (u : Int) := by omega
                    clear HI d1 hX hov hY hu0 hd0
                    go_wp2_with fail
                    go_round
                    case rel => exact ⟨m + 1, Y, u * 10 + d, false, true, by go_num, rfl, rfl, by go_num, ⟨HLT.out, HV.out.symm, (decide_eq_false HO.out).symm, (decide_eq_true (by rw [← HY.out]; exact HZ.out)).symm, fun _ => HY.out, by have := HO.out; have := HY.out; omega⟩⟩
                    case measure => simp [intOf]; omega
                  · have z1 : ((d : Int) == 0) = false := by rw [beq_eq_false_iff_ne]; omega
                    have HZ := Lib.hid (show Y ≠ 0 by omega)
                    clear HI d1 hX hov hY hu0 hd0
                    go_wp2_with fail
                    go_round
                    case rel => exact ⟨m + 1, Y, u * 10 + d, false, false, by go_num, rfl, rfl, by go_num, ⟨HLT.out, HV.out.symm, (decide_eq_false HO.out).symm, (decide_eq_false (by rw [← HY.out]; exact HZ.out)).symm, fun _ => HY.out, by have := HO.out; have := HY.out; omega⟩⟩
                    case measure => simp [intOf]; omega
                | false =>
                  have HZ := Lib.hid (show Y ≠ 0 by have := of_decide_eq_false HI.out.2.2.2.1.symm; omega)
                  clear HI d1 hX hov hY
                  go_wp2_with fail
                  go_round
                  case rel => exact ⟨m + 1, Y, u * 10 + d, false, false, by go_num, rfl, rfl, by go_num, ⟨HLT.out, HV.out.symm, (decide_eq_false HO.out).symm, (decide_eq_false (by rw [← HY.out]; exact HZ.out)).symm, fun _ => HY.out, by have := HO.out; have := HY.out; omega⟩⟩
                  case measure => simp [intOf]; omega
          · obtain rfl : m = ds.length := by have := HI.out.1; omega
            have hV := HI.out.2.1
            rw [List.take_length] at hV
            have hR := HP.out V hV.symm
            have hov := HI.out.2.2.1
            have hze := HI.out.2.2.2.1
            have huu := HI.out.2.2.2.2.1
            clear HI hV hlt
            cases over with
            | true =>
              have h1 := of_decide_eq_true hov.symm
              rw [if_pos h1] at hR
              cases zero with
              | true => exact absurd (of_decide_eq_true hze.symm) (by omega)
              | false =>
                have HR := Lib.hid hR
                clear hR hov hze huu h1
                go_wp2_with fail
                go_ret2
                exact ⟨ret_ii (congrArg Prod.fst HR.out).symm (congrArg Prod.snd HR.out).symm, QF.out⟩
            | false =>
              have h1 := of_decide_eq_false hov.symm
              obtain rfl := huu rfl
              rw [if_neg h1] at hR
              cases zero with
              | true =>
                have h2 := of_decide_eq_true hze.symm
                subst h2
                rw [if_neg (by rintro ⟨g, _⟩; cases g), show sgV false 0 = 0 from rfl, show sgE false 0 = 0 from rfl] at hR
                have HR := Lib.hid hR
                clear hR hov hze huu h1
                go_wp2_with fail
                go_ret2
                exact ⟨ret_ii (congrArg Prod.fst HR.out).symm (congrArg Prod.snd HR.out).symm, QF.out⟩
              | false =>
                have h2 := of_decide_eq_false hze.symm
                rw [if_neg (by rintro ⟨_, g⟩; exact h2 g)] at hR
                by_cases hm : (9223372036854775807 : Int) < (u : Int)
                · have hs2 := sg_pos_over (q := u) (by omega)
                  rw [hs2.1, hs2.2] at hR
                  have HR := Lib.hid hR
                  clear hR hov hze huu h1 h2 hs2
                  go_wp2_with fail
                  go_ret2
                  exact ⟨ret_ii (congrArg Prod.fst HR.out).symm (congrArg Prod.snd HR.out).symm, QF.out⟩
                · have hs2 := sg_pos (q := u) (by omega)
                  rw [hs2.1, hs2.2] at hR
                  have HR := Lib.hid hR
                  clear hR hov hze huu h1 h2 hs2
                  go_wp2_with fail
                  go_ret2
                  exact ⟨ret_ii (congrArg Prod.fst HR.out).symm (congrArg Prod.snd HR.out).symm, QF.out⟩
end Go.Proofs.YtedcimjhhcepmaaDoor
