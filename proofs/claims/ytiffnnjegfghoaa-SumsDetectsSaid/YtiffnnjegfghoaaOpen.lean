/- The contracts of Open and of its reference. -/
import Derived.Test.YtiffnnjegfghoaaSeal
import Derived.Deep.RegionWith
import Derived.Deep.DeepCutAuto
set_option linter.unusedVariables false
set_option linter.unusedSimpArgs false
namespace Go.Proofs.Ytiffnnjegfghoaa
open Go.ChangeShapes Go.WideShapes Go.ChangeAt Go.RowKit Cm

def bodyS (s : ByteArray) : ByteArray := s.extract 0 (s.size - 8)
def tailS (s : ByteArray) : ByteArray := s.extract (s.size - 8) s.size
/-- is the string a sealed one? -/
def opn (s : ByteArray) : Bool := (tailS s).toList == (bs (ckL (bodyS s))).toList
def opS (s : ByteArray) : ByteArray := if s.size < 8 then ByteArray.empty else if opn s = true then bodyS s else ByteArray.empty
def opE (s : ByteArray) : Int := if s.size < 8 then 3 else if opn s = true then 0 else 16
theorem ret_se {a b : ByteArray} {c d : Int} (h : (a, c) = (b, d)) : Ending.returned (.tuple #[.string a, .int .i64 c]) = .returned (.tuple #[.string b, .int .i64 d]) := by
  injection h with h1 h2; rw [h1, h2]
set_option maxHeartbeats 800000 in
theorem Open_c (s : ByteArray) (w : World) (hs : s.size ≤ 1100) : Calls Try.prog 23 #[.string s] w fun e w' => e = .returned (.tuple #[.string (opS s), .int .i64 (opE s)]) ∧ Q w w' := by
  by_cases h8 : s.size < 8
  · have HE := Lib.hid (show (ByteArray.empty, (3 : Int)) = (opS s, opE s) by unfold opS opE; rw [if_pos h8, if_pos h8])
    have h9 : (s.size : Int) < 8 := by omega
    go_enter Try.func23, Try.ntmps23
    go_wp2_with fail
    go_ret2
    exact ⟨ret_se HE.out, Q.refl _⟩
  · obtain ⟨n, hn⟩ : ∃ n, s.size = n + 8 := ⟨s.size - 8, by omega⟩
    have HN := Lib.hid hn
    have e1 : (s.size : Int) - 8 = (n : Int) := by omega
    have e2 : n ≤ s.size := by omega
    have e3 : (n : Int) ≤ (s.size : Int) := by omega
    have hb : s.extract 0 n = bodyS s := by unfold bodyS; rw [hn, Nat.add_sub_cancel]
    have ht : s.extract n s.size = tailS s := by unfold tailS; rw [hn, Nat.add_sub_cancel]
    have hbs : (bodyS s).size ≤ 1100 := by unfold bodyS; rw [ByteArray.size_extract]; omega
    have HB := Lib.hid hbs
    clear hn hbs
    go_enter Try.func23, Try.ntmps23
    go_upto_region 5 with (fail)
    go_cut [19] (fun v19 wx => v19 = .bool (!opn s) ∧ Q w wx)
    case first =>
      go_region_with (go_at_call 32; refine (seal_c (bodyS s) _ HB.out).mono ?_; rintro e w1 ⟨rfl, hq1⟩)
      all_goals (go_wp2_with fail; go_meet; exact ⟨rfl, ((Q.refl w).drew).trans hq1⟩)
    case rest =>
      obtain ⟨rfl, hq⟩ := hcut
      have HQ := Lib.hid hq; clear hq
      cases ho : opn s with
      | true =>
        have HE := Lib.hid (show (bodyS s, (0 : Int)) = (opS s, opE s) by unfold opS opE; rw [if_neg h8, if_neg h8, if_pos ho, if_pos ho])
        clear ho
        go_wp2_with fail
        go_ret2
        exact ⟨ret_se HE.out, HQ.out⟩
      | false =>
        have HE := Lib.hid (show (ByteArray.empty, (16 : Int)) = (opS s, opE s) by unfold opS opE; rw [if_neg h8, if_neg h8, if_neg (by rw [ho]; decide), if_neg (by rw [ho]; decide)])
        clear ho
        go_wp2_with fail
        go_ret2
        exact ⟨ret_se HE.out, HQ.out⟩
theorem tl (s : ByteArray) : s.toList = s.data.toList := ByteArray.toList_eq s
theorem ext_list (s : ByteArray) (a b : Nat) : (s.extract a b).data.toList = (s.data.toList.take b).drop a := by
  rw [ByteArray.data_extract, Array.toList_extract, List.extract_eq_take_drop, List.drop_take]
theorem app_list (s t : ByteArray) : (s ++ t).data.toList = s.data.toList ++ t.data.toList := by
  rw [ByteArray.data_append, Array.toList_append]
theorem ropn (s : ByteArray) (h : 8 ≤ s.size) : ((bodyS s ++ bs (ckL (bodyS s))).toList == s.toList) = opn s := by
  unfold opn
  have e : s.data.toList = (bodyS s).data.toList ++ (tailS s).data.toList := by
    unfold bodyS tailS
    rw [ext_list, ext_list, List.drop_zero, List.take_of_length_le (l := s.data.toList) (i := s.size) (Nat.le_of_eq (by rw [Array.length_toList]; rfl)), List.take_append_drop]
  rw [tl, tl, tl, tl, app_list, Bool.eq_iff_iff, beq_iff_eq, beq_iff_eq, e, List.append_cancel_left_eq]
  exact eq_comm
set_option maxHeartbeats 800000 in
theorem rOpen_c (s : ByteArray) (w : World) (hs : s.size ≤ 1100) : Calls Try.prog 24 #[.string s] w fun e w' => e = .returned (.tuple #[.string (opS s), .int .i64 (opE s)]) ∧ Q w w' := by
  by_cases h8 : s.size < 8
  · have HE := Lib.hid (show (ByteArray.empty, (3 : Int)) = (opS s, opE s) by unfold opS opE; rw [if_pos h8, if_pos h8])
    have h9 : (s.size : Int) < 8 := by omega
    go_enter Try.func24, Try.ntmps24
    go_wp2_with fail
    go_ret2
    exact ⟨ret_se HE.out, Q.refl _⟩
  · obtain ⟨n, hn⟩ : ∃ n, s.size = n + 8 := ⟨s.size - 8, by omega⟩
    have HN := Lib.hid hn
    have e1 : (s.size : Int) - 8 = (n : Int) := by omega
    have e2 : n ≤ s.size := by omega
    have e3 : (n : Int) ≤ (s.size : Int) := by omega
    have hb : s.extract 0 n = bodyS s := by unfold bodyS; rw [hn, Nat.add_sub_cancel]
    have hbs : (bodyS s).size ≤ 1100 := by unfold bodyS; rw [ByteArray.size_extract]; omega
    have HB := Lib.hid hbs
    have hr := ropn s (by omega)
    clear hn hbs
    cases ho : opn s with
    | true =>
      have HE := Lib.hid (show (bodyS s, (0 : Int)) = (opS s, opE s) by unfold opS opE; rw [if_neg h8, if_neg h8, if_pos ho, if_pos ho])
      rw [ho] at hr
      clear ho
      go_enter Try.func24, Try.ntmps24
      go_wp2_with fail
      refine (rSeal_c (bodyS s) _ HB.out).mono ?_; rintro e w1 ⟨rfl, hq1⟩
      go_wp2_with fail
      go_ret2
      exact ⟨ret_se HE.out, hq1⟩
    | false =>
      have HE := Lib.hid (show (ByteArray.empty, (16 : Int)) = (opS s, opE s) by unfold opS opE; rw [if_neg h8, if_neg h8, if_neg (by rw [ho]; decide), if_neg (by rw [ho]; decide)])
      rw [ho] at hr
      clear ho
      go_enter Try.func24, Try.ntmps24
      go_wp2_with fail
      refine (rSeal_c (bodyS s) _ HB.out).mono ?_; rintro e w1 ⟨rfl, hq1⟩
      go_wp2_with fail
      go_ret2
      exact ⟨ret_se HE.out, hq1⟩
end Go.Proofs.Ytiffnnjegfghoaa
