/- For every string the law LexerScans returns true: Scan returns the specified lexemes, or the error and its offset (asked for at most 9000 bytes), and the examples hold. The row's list gives the error variable. -/
import Derived.Test.YtpibeojmippfhaaDoorLaid
import Derived.Test.YtpibeojmippfhaaDoorRScanC
set_option linter.unusedVariables false
set_option linter.unusedSimpArgs false
namespace Go.Proofs.YtpibeojmippfhaaDoor
open Go.ChangeShapes Go.WideShapes Go.ChangeAt Go.RowKit Lm

theorem scF_len (s : ByteArray) : ∀ (m p : Nat), (scF s m p).1.length ≤ m + 1
  | 0, p => Nat.le_refl _
  | m + 1, p => by
    have ih := scF_len s m (skS s false (p + (frT (rs s p)).2.1.size))
    show (if p < s.size then _ else _ : Sc).1.length ≤ _
    split
    · split
      · split
        · rw [List.length_cons]; omega
        · exact Nat.zero_le _
      · exact Nat.zero_le _
    · exact Nat.succ_le_succ (Nat.zero_le _)
theorem scan_len (s : ByteArray) (hs : s.size ≤ 9000) : (scan s).1.length ≤ 1000000 := by
  unfold scan
  split
  · exact Nat.zero_le _
  · unfold finS
    split
    · have h := scF_len s (s.size - skS s false 0) (skS s false 0)
      rw [List.nil_append]
      exact Nat.le_trans h (by omega)
    · exact Nat.zero_le _
def TPost (l : List LT) (e p : Nat) (w : World) (E : Ending) (w' : World) : Prop := ∃ v, E = .returned (.tuple #[v, .int .i64 e, .int .i64 p]) ∧ Rd w' v l ∧ Q w w'
set_option maxRecDepth 100000 in
set_option maxHeartbeats 1600000 in
theorem scans_walk (s : ByteArray) (w : World) (hs : s.size ≤ maxLen) (hL : Laid w) : Calls Tryd.prog 3 #[.string s] w fun e w' => e = .returned (.bool true) ∧ Below w.heap.size w w' := by
  unfold maxLen at hs
  have HL := Lib.hid hL
  clear hL
  by_cases h1 : 9000 < s.size
  · have i1 : 9000 < (s.size : Int) := by omega
    go_enter Tryd.func3, Tryd.ntmps3
    go_wp2_with fail
    refine (awake_c _ HL.out).mono ?_; rintro E w1 ⟨rfl, hq1⟩
    go_wp2_with fail
    go_ret
    exact ⟨rfl, hq1⟩
  · have i1 : ¬ 9000 < (s.size : Int) := by omega
    have HB := Lib.hid (scan_len s (by omega))
    obtain ⟨l, e, p, hr⟩ : ∃ l e p, scan s = (l, e, p) := ⟨_, _, _, rfl⟩
    rw [hr] at HB
    have HA := Lib.hid (fun w h => sc_is s l e p hr (by omega) w h)
    have HC := Lib.hid (show ∀ w, Calls Tryd.prog 12 #[.string s] w (TPost l e p w) from fun w => (rScan_c s w (by omega)).mono fun E w' ⟨v, a, b, c⟩ => ⟨v, by rw [a, hr], by rw [hr] at b; exact b.rd, c⟩)
    have t1 : ((e : Int) == (e : Int)) = true := by simp
    have t2 : ((p : Int) == (p : Int)) = true := by simp
    clear hr
    go_enter Tryd.func3, Tryd.ntmps3
    go_wp2_with fail
    refine (HA.out _ HL.out).mono ?_; rintro E w1 ⟨v1, rfl, hr1, hq1⟩
    have R1 := Lib.hid hr1
    have L1 := Lib.hid (HL.out.stays hq1)
    have Q1 := Lib.hid hq1
    obtain ⟨A1, c1, rfl, hc1, _⟩ := hr1
    clear hq1 hc1
    go_wp2_with fail
    refine (HC.out _).mono ?_; rintro E w2 ⟨v2, rfl, hr2, hq2⟩
    have R2 := Lib.hid hr2
    have R12 := Lib.hid (R1.out.q hq2)
    have L2 := Lib.hid (L1.out.stays hq2)
    have Q2 := Lib.hid (Q1.out.trans hq2)
    obtain ⟨A2, c2, rfl, hc2, _⟩ := hr2
    clear hq2 hc2
    go_wp2_with fail
    refine (equal_c _ _ l _ R12.out R2.out HB.out).mono ?_; rintro E w3 ⟨rfl, hq3⟩
    have L3 := Lib.hid (L2.out.stays hq3)
    have Q3 := Lib.hid (Q2.out.trans hq3)
    clear hq3
    go_wp2_with fail
    refine (awake_c _ L3.out).mono ?_; rintro E w4 ⟨rfl, hq4⟩
    go_wp2_with fail
    go_ret
    exact ⟨rfl, Q3.out.trans hq4⟩

open Go.ChangeMaps (open_string shut_string)
namespace lexerScans
theorem witness (os : Os) {H : Type} (enc : TypeId × Value → H) : (OpenSpec.ofChange Rows.lexerScansSpec).preRow enc Tryd.prog Tryd.f3 Rows.lexerScansRow.domain false Rows.lexerScansRow.laid ((start os).forCall (fun _ _ => 0) ⟨#[], #[Value.string ⟨#[]⟩], []⟩).memory #[Value.string ⟨#[]⟩] := by
  have hw : (DataW.whole enc Tryd.prog ((start os).forCall (fun _ _ => 0) ⟨#[], #[Value.string ⟨#[]⟩], []⟩).memory Tryd.f3.params.toList Rows.lexerScansSpec.vars false (#[Value.string ⟨#[]⟩] : Array Value).toList 8).map (fun x => (x.1, x.2.1)) = some ([.lit (.string [])], []) := by kernel_rfl
  obtain ⟨⟨x1, x2, x3⟩, hx, hx1⟩ := Option.map_eq_some_iff.1 hw
  simp only [Prod.mk.injEq] at hx1
  obtain ⟨rfl, rfl⟩ := hx1
  exact OpenSpec.preRow_of_cond 8 hx (by kernel_rfl) (fun k hk => by cases hk) (by kernel_rfl) (door_met os _)
set_option maxRecDepth 100000 in
theorem lifted (os : Os) (started : os.Started) (H : Type) (enc : TypeId × Value → H) (F : Stop.Interp) :
    ReturnsInHanded {} Tryd.checked os 3 .any ((OpenSpec.ofChange Rows.lexerScansSpec).preRow enc Tryd.prog Tryd.f3 Rows.lexerScansRow.domain false Rows.lexerScansRow.laid) (((OpenSpec.ofChange Rows.lexerScansSpec).at F).post enc Tryd.prog Tryd.f3 false true false false) := by
  refine returnsInHanded_of_row (C := Tryd.checked) (s := OpenSpec.ofChange Rows.lexerScansSpec) own started (by kernel_rfl) Tryd.func3
    (witness_row_atRef (enc := enc) (C := Tryd.checked) false (start os) #[Value.string ⟨#[]⟩] rfl (by kernel_rfl) (by kernel_rfl) (by kernel_rfl) (witness os enc)) ?_
  intro W base args ds gs before hval0 hW _ _ _ hL _ _
  have hval : ∀ (j : Nat) t v, Tryd.f3.params[j]? = some t → args[j]? = some v → Value.okWide Tryd.prog W .any base t v := hval0
  have hW' := hW
  obtain ⟨p, q, hA0, hV, rfl, hfz, hnd⟩ := hW
  have hA : DataW.TrodAll enc Tryd.prog W 0 (fun _ => true) true Tryd.f3.params.toList args.toList ds p := hA0
  rw [Tryd.params3] at hA hval
  obtain ⟨v0, vs0, d0, ds0, p0, q0, hargs, rfl, rfl, h0, r0⟩ := trodAll_cons hA
  obtain ⟨rfl, rfl, rfl⟩ := trodAll_nil r0
  obtain rfl : args = #[v0] := by cases args; simp_all
  obtain ⟨rfl, rfl⟩ := trodVars_none hV
  obtain ⟨a0, rfl, rfl, rfl, w0⟩ := open_string Tryd.underlying9 (hval 0 9 v0 rfl rfl) h0
  clear hA0 hval0
  refine (scans_walk a0 W w0 (five_laid hL)).mono fun e W' ⟨he, bel⟩ => ?_
  subst he
  exact ⟨_, rfl, _, _, _, [], _, [], hW', trodAll_mk1 (shut_bool Tryd.underlying4 _), (trodAll_cons_mk (shut_string Tryd.underlying9 w0) trodAll_mk0), rfl, bel.frame _, fun h => by cases h⟩
theorem said : Rows.lexerScansRow.holds Tryd.pinned (OpenSpec.ofChange Rows.lexerScansSpec) :=
  OpenClaim.holds_of_cond 3 Tryd.f3 rfl rfl rfl rfl rfl rfl rfl ⟨rfl, rfl, rfl, rfl, rfl⟩ rfl rfl rfl rfl rfl (by kernel_rfl) Tryd.func3 (by kernel_rfl)
    (of_decide_eq_true (by kernel_rfl)) (by unfold Func.isWrapper; first | (rw [if_pos (by decide +kernel)]; kernel_rfl) | (rw [if_neg (by decide +kernel)]; exact ⟨rfl, rfl⟩))
    (fun os started H enc _ F => by rw [OpenClaim.pre_eq_preRow]; exact lifted os started H enc F)
theorem plain (f : FuncId) (fn : Func) (hf : Tryd.pinned.checked.prog.funcNamed "sawmill/sawmilllaw06.LexerScans" = some f) (hfn : Tryd.pinned.checked.prog.funcs[f]? = some fn) :
    true = Tryd.pinned.checked.prog.looks [] ∧ ∀ (j : Nat) t, fn.params[j]? = some t → Tryd.pinned.checked.prog.wantsStandIn t = false := by
  obtain rfl : f = 3 := Option.some.inj ((show Tryd.prog.funcNamed "sawmill/sawmilllaw06.LexerScans" = some 3 by kernel_rfl).symm.trans hf) |>.symm
  obtain rfl : fn = Tryd.f3 := (Option.some.inj (Tryd.func3.symm.trans hfn)).symm
  refine ⟨by kernel_rfl, fun j t ht => ?_⟩
  rw [Tryd.params3] at ht
  have hm := Array.mem_of_getElem? ht
  obtain rfl : t = 9 := by simpa using hm
  exact (show Tryd.prog.wantsStandIn 9 = false by kernel_rfl)
theorem proved : Rows.LexerScansCardSaid :=
  Claim7.holds_tied_plain_at .later [] _ _ _ _ said (fun _ h => by cases h) (by kernel_rfl) (fun _ h => by cases h) lexerScans_row_tie rfl ⟨rfl, rfl⟩ (by kernel_rfl) rfl plain (by kernel_rfl)
end lexerScans

end Go.Proofs.YtpibeojmippfhaaDoor
