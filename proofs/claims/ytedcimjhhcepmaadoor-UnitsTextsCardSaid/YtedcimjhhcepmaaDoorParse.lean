/- The contracts of withoutPoint and Parse. -/
import Derived.Test.YtedcimjhhcepmaaDoorPars
set_option linter.unusedVariables false
set_option linter.unusedSimpArgs false
namespace Go.Proofs.YtedcimjhhcepmaaDoor
open Go.ChangeShapes Go.WideShapes Go.ChangeAt Go.RowKit Um

/-- integer part and decimals -/
def parts (l : List UInt8) (K : Nat) : List UInt8 × List UInt8 := if K = 0 then (l, []) else ctI l
/-- are the parts those of a decimal number with K decimals? -/
def wpOk (l : List UInt8) (K : Nat) : Bool :=
  decide ((parts l K).2.length = K) && !(decide ((parts l K).1 = [] ∨ ((parts l K).1[0]? = some 48 ∧ 1 < (parts l K).1.length))) && digs (parts l K).1 && digs (parts l K).2
def WpEnd (l : List UInt8) (K : Nat) (w : World) (e : Ending) (w' : World) : Prop :=
  ∃ X : ByteArray, e = .returned (.tuple #[.string X, .bool (wpOk l K)]) ∧ (wpOk l K = true → X = bs ((parts l K).1 ++ (parts l K).2)) ∧ Q w w'
theorem wp_no {l : List UInt8} {K : Nat} {w w' : World} {e : Ending} {X : ByteArray} (h : wpOk l K = false) (he : e = .returned (.tuple #[.string X, .bool false])) (hq : Q w w') : WpEnd l K w e w' :=
  ⟨X, by rw [he, h], (fun g => by rw [h] at g; cases g), hq⟩
theorem wp_any {l : List UInt8} {K : Nat} {w w' : World} {e : Ending} {X : ByteArray} {b : Bool} (h : wpOk l K = b) (he : e = .returned (.tuple #[.string X, .bool b])) (hX : X = bs ((parts l K).1 ++ (parts l K).2)) (hq : Q w w') : WpEnd l K w e w' :=
  ⟨X, by rw [he, h], fun _ => hX, hq⟩
theorem ctI_len (l : List UInt8) : (ctI l).1.length ≤ l.length ∧ (ctI l).2.length ≤ l.length := by
  unfold ctI; split
  · simp only [List.length_take, List.length_drop]; omega
  · simp
theorem Digits_is (s : ByteArray) (b : Bool) (h : Hid (digs (lst s) = b)) (hs : s.size ≤ 1000) (w : World) : Calls Tryd.prog 50 #[.string s] w fun e w' => e = .returned (.bool b) ∧ w = w' :=
  (areDigits_c s hs w).mono fun _ _ ⟨a, c⟩ => ⟨by rw [a, h.out], c⟩
theorem CutP_is (s I F : ByteArray) (b : Bool) (h : Hid (bs (ctI (lst s)).1 = I ∧ bs (ctI (lst s)).2 = F ∧ ctB (lst s) = b)) (hs : s.size ≤ 1000) (w : World) : Calls Tryd.prog 49 #[.string s, .string ⟨#[46]⟩] w fun e w' =>
    e = .returned (.tuple #[.string I, .string F, .bool b]) ∧ Q w w' :=
  (Cut_c s hs w).mono fun _ _ ⟨a, c⟩ => ⟨by rw [a, h.out.1, h.out.2.1, h.out.2.2], c⟩

set_option maxRecDepth 100000 in
set_option maxHeartbeats 1600000 in
theorem without_c (s : ByteArray) (K : Nat) (hs : s.size ≤ 1000) (hK : K ≤ 9) (w : World) : Calls Tryd.prog 42 #[.string s, .int .i64 (K : Int)] w (WpEnd (lst s) K w) := by
  obtain ⟨I, hI⟩ : ∃ I, bs (parts (lst s) K).1 = I := ⟨_, rfl⟩
  obtain ⟨F, hF⟩ : ∃ F, bs (parts (lst s) K).2 = F := ⟨_, rfl⟩
  have hc := ctI_len (lst s)
  rw [lst_len] at hc
  have hIs : I.size = (parts (lst s) K).1.length := by rw [← hI, bs_size]
  have hFs : F.size = (parts (lst s) K).2.length := by rw [← hF, bs_size]
  have s1 : I.size ≤ 1000 := by
    rw [hIs]; unfold parts; split
    · rw [lst_len]; exact hs
    · omega
  have s2 : F.size ≤ 1000 := by
    rw [hFs]; unfold parts; split
    · exact Nat.zero_le _
    · omega
  have eI : lst I = (parts (lst s) K).1 := by rw [← hI, lst_bs]
  have eF : lst F = (parts (lst s) K).2 := by rw [← hF, lst_bs]
  have HI := Lib.hid hI
  have HF := Lib.hid hF
  have HIF := Lib.hid (show lst I = (parts (lst s) K).1 ∧ lst F = (parts (lst s) K).2 ∧ I.size = (parts (lst s) K).1.length ∧ F.size = (parts (lst s) K).2.length from ⟨eI, eF, hIs, hFs⟩)
  clear hI hF hc hIs hFs eI eF
  go_enter Tryd.func42, Tryd.ntmps42
  go_upto_if 10 with (fail)
  go_cut [6, 7] (fun v6 v7 wx => v6 = .string I ∧ v7 = .string F ∧ Q w wx)
  case first =>
    by_cases h0 : K = 0
    · have HE := Lib.hid (show s = I ∧ (⟨#[]⟩ : ByteArray) = F by
        rw [← HI.out, ← HF.out]; unfold parts; rw [if_pos h0]; exact ⟨(bs_lst s).symm, rfl⟩)
      subst h0
      go_wp2_with fail
      go_meet
      exact ⟨by rw [HE.out.1], by rw [HE.out.2], Q.refl _⟩
    · have i1 : (0 : Int) < (K : Int) := by omega
      obtain ⟨cb, hcb⟩ : ∃ b, ctB (lst s) = b := ⟨_, rfl⟩
      have HC := Lib.hid (show bs (ctI (lst s)).1 = I ∧ bs (ctI (lst s)).2 = F ∧ ctB (lst s) = cb by
        rw [← HI.out, ← HF.out]; unfold parts; rw [if_neg h0]; exact ⟨rfl, rfl, hcb⟩)
      clear h0 hcb
      go_wp2_with fail
      refine (CutP_is s I F cb HC hs _).mono ?_; rintro e w1 ⟨rfl, hq1⟩
      go_wp2_with fail
      go_meet
      exact ⟨rfl, rfl, hq1⟩
  case rest =>
    obtain ⟨rfl, rfl, hq⟩ := hcut
    by_cases h1 : F.size = K
    · have i1 : ((F.size : Int) != (K : Int)) = false := by simp; omega
      by_cases h2 : I.size = 0
      · have HN := Lib.hid (show wpOk (lst s) K = false by
          have := HIF.out.2.2.1
          unfold wpOk; rw [List.length_eq_zero_iff.1 (show (parts (lst s) K).1.length = 0 by omega)]; simp)
        have i2 : I.toList = [] := by rw [Lib.toList_data]; exact List.length_eq_zero_iff.1 (by simpa using h2)
        clear h1 h2
        go_wp2_with fail
        go_ret2
        exact wp_no HN.out rfl hq
      · have i2 : I.toList.isEmpty = false := by rw [Lib.toList_data, List.isEmpty_eq_false_iff]; intro h; apply h2; have := congrArg List.length h; simpa using this
        have i2b : (I.toList == []) = false := by rw [beq_eq_false_iff_ne]; intro h; rw [h] at i2; cases i2
        have i3 : 0 < I.size := by omega
        by_cases h3 : ((I[0].toNat : Int) == 48) = true ∧ 1 < I.size
        · have HN := Lib.hid (show wpOk (lst s) K = false by
            have h4 : (parts (lst s) K).1[0]? = some 48 := by
              rw [← HIF.out.1, lst_at I 0 i3]
              have := h3.1; rw [beq_iff_eq] at this
              exact congrArg some (UInt8.toNat_inj.1 (by show I[0].toNat = 48; omega))
            unfold wpOk
            rw [decide_eq_true (show (parts (lst s) K).1 = [] ∨ ((parts (lst s) K).1[0]? = some 48 ∧ 1 < (parts (lst s) K).1.length) from .inr ⟨h4, by have := HIF.out.2.2.1; omega⟩)]
            simp)
          obtain ⟨i4, h5⟩ := h3
          have i5 : (1 : Int) < (I.size : Int) := by omega
          clear h1 h2 h5
          go_wp2_with fail
          go_ret2
          exact wp_no HN.out rfl hq
        · have HN := Lib.hid (show wpOk (lst s) K = (digs (lst I) && digs (lst F)) by
            have h4 : ¬ ((parts (lst s) K).1 = [] ∨ ((parts (lst s) K).1[0]? = some 48 ∧ 1 < (parts (lst s) K).1.length)) := by
              rintro (g | ⟨g1, g2⟩)
              · have := HIF.out.2.2.1; rw [g] at this; exact h2 this
              · rw [← HIF.out.1, lst_at I 0 i3] at g1
                apply h3
                have g3 : I[0] = 48 := Option.some.inj g1
                exact ⟨by rw [g3]; rfl, by have := HIF.out.2.2.1; omega⟩
            unfold wpOk
            rw [decide_eq_false h4, decide_eq_true (show (parts (lst s) K).2.length = K by have := HIF.out.2.2.2; omega), HIF.out.1, HIF.out.2.1]; simp)
          have h4 : ((I[0].toNat : Int) == 48) = false ∨ (((I[0].toNat : Int) == 48) = true ∧ ¬ (1 : Int) < (I.size : Int)) := by
            cases hb : ((I[0].toNat : Int) == 48) with
            | false => exact .inl rfl
            | true => exact .inr ⟨rfl, fun g => h3 ⟨hb, by omega⟩⟩
          have HX := Lib.hid (show I ++ F = bs ((parts (lst s) K).1 ++ (parts (lst s) K).2) by rw [← HI.out, ← HF.out, bs_app])
          clear h1 h2 h3
          rcases h4 with h4 | ⟨h4, h5⟩
          all_goals
            cases hd : digs (lst I) with
            | false =>
              have HD := Lib.hid hd
              have HNN := Lib.hid (show wpOk (lst s) K = false by rw [HN.out, hd]; rfl)
              clear hd
              go_wp2_with fail
              refine (Digits_is I false HD s1 _).mono ?_; rintro e w2 ⟨rfl, rfl⟩
              go_wp2_with fail
              go_ret2
              exact wp_no HNN.out rfl hq
            | true =>
              have HD := Lib.hid hd
              obtain ⟨fd, hfd⟩ : ∃ b, digs (lst F) = b := ⟨_, rfl⟩
              have HFD := Lib.hid hfd
              have HNN := Lib.hid (show wpOk (lst s) K = fd by rw [HN.out, hd, hfd]; rfl)
              clear hd hfd
              go_wp2_with fail
              refine (Digits_is I true HD s1 _).mono ?_; rintro e w2 ⟨rfl, rfl⟩
              go_wp2_with fail
              refine (Digits_is F fd HFD s2 _).mono ?_; rintro e w2 ⟨rfl, rfl⟩
              go_wp2_with fail
              go_ret2
              exact wp_any HNN.out rfl HX.out hq
    · have i1 : ((F.size : Int) != (K : Int)) = true := by simp; omega
      have HN := Lib.hid (show wpOk (lst s) K = false by
        unfold wpOk; rw [decide_eq_false (show ¬ (parts (lst s) K).2.length = K by have := HIF.out.2.2.2; omega)]; rfl)
      clear h1
      go_wp2_with fail
      go_ret2
      exact wp_no HN.out rfl hq

/-- what the package-level variables hold: the table of powers, and the error of a number out of range -/
structure Laid (w : World) : Prop where
  tab : Tab w
  rng : ∃ tp p, w.var? Tryd.prog "strconv.ErrRange" = some #[.iface tp p]
theorem gRng : Tryd.prog.globalNamed "strconv.ErrRange" = some 3 := by kernel_rfl
theorem Laid.stays {w w' : World} (h : Laid w) (hq : Q w w') : Laid w' := by
  obtain ⟨t, ⟨a, b, r⟩⟩ := h
  exact ⟨t.stays hq, ⟨a, b, Joins.var_stays gRng r hq (Nat.le_refl _)⟩⟩
/-- a number that a word holds -/
def PuOk (l : List UInt8) : Option Nat := match Lib.parseUintB 64 l with | .ok u => some u | _ => none
def PuEnd (l : List UInt8) (w : World) (e : Ending) (w' : World) : Prop :=
  ((∃ u, PuOk l = some u ∧ u < 18446744073709551616 ∧ e = .returned (.tuple #[.int .u64 (u : Int), .nilIface])) ∨
    (PuOk l = none ∧ ∃ v t x, e = .returned (.tuple #[.int .u64 v, .iface t x]))) ∧ Q w w'
theorem pum_bd (M : Nat) : ∀ (l : List UInt8) (acc u : Nat), acc ≤ M → Lib.parseUintM M acc l = .ok u → u ≤ M := by
  intro l
  induction l with
  | nil => intro acc u h g; unfold Lib.parseUintM at g; injection g with g; omega
  | cons c r ih =>
    intro acc u h g
    unfold Lib.parseUintM at g
    split at g
    · split at g
      · cases g
      · split at g
        · cases g
        · exact ih _ _ (by omega) g
    · cases g
theorem pum_dig (M : Nat) : ∀ (l : List UInt8) (acc : Nat), digs l = true → (∃ u, Lib.parseUintM M acc l = .ok u) ∨ Lib.parseUintM M acc l = .range := by
  intro l
  induction l with
  | nil => intro acc _; exact .inl ⟨acc, rfl⟩
  | cons c r ih =>
    intro acc h
    unfold digs at h ih
    rw [List.all_cons, Bool.and_eq_true] at h
    have hc : 48 ≤ c.toNat ∧ c.toNat ≤ 57 := by have := h.1; unfold isD at this; simpa using this
    unfold Lib.parseUintM
    rw [if_pos hc]
    split
    · exact .inr rfl
    · split
      · exact .inr rfl
      · exact ih _ h.2
theorem pub_dig {l : List UInt8} (h : digs l = true) (h0 : l ≠ []) : (∃ u, Lib.parseUintB 64 l = .ok u) ∨ Lib.parseUintB 64 l = .range := by
  unfold Lib.parseUintB; rw [if_neg h0]; exact pum_dig _ l 0 h
theorem pub_bd {l : List UInt8} {u : Nat} (h : Lib.parseUintB 64 l = .ok u) : u < 18446744073709551616 := by
  unfold Lib.parseUintB at h
  split at h
  · cases h
  · have := pum_bd _ l 0 u (Nat.zero_le _) h
    omega
theorem ParseUint_c (s : ByteArray) (hs : s.size ≤ 10000) (hd : digs (lst s) = true) (h0 : lst s ≠ []) (w : World) (h : Laid w) :
    Calls Tryd.prog 43 #[.string s, .int .i64 10, .int .i64 64] w (PuEnd (lst s) w) := by
  obtain ⟨_, ⟨a, b, hr⟩⟩ := h
  rcases pub_dig hd h0 with ⟨u, hp⟩ | hp
  · refine (Tryd.strconv_ParseUint_10_at64_ok s (by omega) u hp w).mono fun e w' ⟨he, hw⟩ => ⟨.inl ⟨u, by unfold PuOk; rw [hp], pub_bd hp, he⟩, ?_⟩
    rcases hw with hw | hw
    · rw [hw]; exact Q.refl _
    · rw [hw]; exact Joins.below_bytesWorld _ _ _ _ (Nat.le_refl _)
  · exact (Tryd.strconv_ParseUint_10_at64_range_var s (by omega) hp a b w hr).mono fun e w' ⟨N, he, _, _, hb⟩ => ⟨.inr ⟨by unfold PuOk; rw [hp], _, _, _, he⟩, hb⟩

/-- what Parse answers: the number and the error -/
def pRes (l : List UInt8) (K : Nat) : Int × Int :=
  if l = [] then (0, 3) else if wpOk (Lib.trimPrefix l [45]) K = false then (0, 5) else
    match PuOk ((parts (Lib.trimPrefix l [45]) K).1 ++ (parts (Lib.trimPrefix l [45]) K).2) with
    | none => (0, 9)
    | some u => if (Lib.hasPrefix l [45] && decide (u = 0)) = true then (0, 5) else (sgV (Lib.hasPrefix l [45]) u, sgE (Lib.hasPrefix l [45]) u)
theorem wp_ok {l : List UInt8} {K : Nat} (h : wpOk l K = true) : digs ((parts l K).1 ++ (parts l K).2) = true ∧ (parts l K).1 ++ (parts l K).2 ≠ [] := by
  unfold wpOk at h
  simp only [Bool.and_eq_true, Bool.not_eq_true', decide_eq_false_iff_not, not_or] at h
  refine ⟨by unfold digs at *; rw [List.all_append, h.1.2, h.2]; rfl, fun g => h.1.1.2.1 (List.append_eq_nil_iff.1 g).1⟩
theorem CutPre_is (s T : ByteArray) (b : Bool) (h : Hid (bs (Lib.trimPrefix (lst s) [45]) = T ∧ Lib.hasPrefix (lst s) [45] = b)) (w : World) :
    Calls Tryd.prog 41 #[.string s, .string ⟨#[45]⟩] w fun e w' => e = .returned (.tuple #[.string T, .bool b]) ∧ w = w' :=
  (Tryd.strings_CutPrefix s ⟨#[45]⟩ w).mono fun _ _ ⟨a, c⟩ => ⟨by rw [a, ← h.out.1, ← h.out.2]; rfl, c.symm⟩
theorem trim_len (l : List UInt8) : (Lib.trimPrefix l [45]).length ≤ l.length := by
  unfold Lib.trimPrefix; split
  · rw [List.length_drop]; omega
  · exact Nat.le_refl _

set_option maxRecDepth 100000 in
set_option maxHeartbeats 1600000 in
theorem Parse_k (s : ByteArray) (digits : Int) (K : Nat) (hs : s.size ≤ 1000) (hK : Hid (clamp digits 0 9 = (K : Int))) (w : World) (hL : Laid w) :
    Calls Tryd.prog 24 #[.string s, .int .i64 digits] w fun e w' => e = .returned (.tuple #[.int .i64 (pRes (lst s) K).1, .int .i64 (pRes (lst s) K).2]) ∧ Q w w' := by
  have HL := Lib.hid hL
  clear hL
  by_cases h0 : s.size = 0
  · have hl : lst s = [] := List.length_eq_zero_iff.1 (by rw [lst_len]; exact h0)
    have HE := Lib.hid (show pRes (lst s) K = (0, 3) by unfold pRes; rw [if_pos hl])
    have i1 : s.toList = [] := by rw [Lib.toList_data]; exact hl
    have i2 : (s.toList == []) = true := by rw [i1]; rfl
    clear h0 hl
    go_enter Tryd.func24, Tryd.ntmps24
    go_wp2_with fail
    go_ret2
    exact ⟨ret_ii (by rw [HE.out]) (by rw [HE.out]), Q.refl _⟩
  · have hl : lst s ≠ [] := fun g => h0 (by rw [← lst_len, g]; rfl)
    have i1 : s.toList.isEmpty = false := by rw [Lib.toList_data, List.isEmpty_eq_false_iff]; exact hl
    have i2 : (s.toList == []) = false := by rw [beq_eq_false_iff_ne, Lib.toList_data]; exact hl
    obtain ⟨T, hT⟩ : ∃ T, bs (Lib.trimPrefix (lst s) [45]) = T := ⟨_, rfl⟩
    obtain ⟨neg, hneg⟩ : ∃ b, Lib.hasPrefix (lst s) [45] = b := ⟨_, rfl⟩
    have HT := Lib.hid (show bs (Lib.trimPrefix (lst s) [45]) = T ∧ Lib.hasPrefix (lst s) [45] = neg from ⟨hT, hneg⟩)
    have eT : lst T = Lib.trimPrefix (lst s) [45] := by rw [← hT, lst_bs]
    have s1 : T.size ≤ 1000 := by rw [← lst_len, eT]; have := trim_len (lst s); rw [lst_len] at this; omega
    have HLl := Lib.hid hl
    have HTe := Lib.hid eT
    have hKb : K ≤ 9 := by have := hK.out; unfold clamp at this; split at this <;> (try split at this) <;> (try split at this) <;> omega
    clear h0 hl hT hneg eT
    go_enter Tryd.func24, Tryd.ntmps24
    go_wp2_with fail
    refine (CutPre_is s T neg HT _).mono ?_; rintro e w' ⟨rfl, rfl⟩
    go_wp2_with fail
    refine (Clamp9_is digits K hK _).mono ?_; rintro e w' ⟨rfl, rfl⟩
    go_wp2_with fail
    refine (without_c T K s1 hKb _).mono ?_; rintro e w1 ⟨X, rfl, hX, hq1⟩
    cases hok : wpOk (lst T) K with
    | false =>
      have HE := Lib.hid (show pRes (lst s) K = (0, 5) by unfold pRes; rw [if_neg HLl.out, ← HTe.out, if_pos hok])
      clear hok hX
      go_wp2_with fail
      go_ret2
      exact ⟨ret_ii (by rw [HE.out]) (by rw [HE.out]), hq1⟩
    | true =>
      have hwp := wp_ok hok
      have eX : lst X = (parts (lst T) K).1 ++ (parts (lst T) K).2 := by rw [hX hok, lst_bs]
      have s2 : X.size ≤ 10000 := by
        rw [← lst_len, eX, List.length_append]
        have := ctI_len (lst T)
        rw [lst_len] at this
        unfold parts; split
        · rw [lst_len]; simp; omega
        · omega
      have HX := Lib.hid (show digs (lst X) = true ∧ lst X ≠ [] by rw [eX]; exact hwp)
      have HR := Lib.hid (show pRes (lst s) K = match PuOk (lst X) with
          | none => (0, 9)
          | some u => if (neg && decide (u = 0)) = true then (0, 5) else (sgV neg u, sgE neg u) by
        unfold pRes; rw [if_neg HLl.out, ← HTe.out, if_neg (by rw [hok]; simp), ← eX, HT.out.2])
      clear hok hX hwp eX
      go_wp2_with fail
      refine (ParseUint_c X s2 HX.out.1 HX.out.2 _ (HL.out.stays hq1)).mono ?_
      rintro e w2 ⟨⟨u, hu, hub, rfl⟩ | ⟨hu, v, t, x, rfl⟩, hq2⟩
      · have HUB := Lib.hid hub
        have hR := HR.out
        rw [hu] at hR
        cases neg with
        | false =>
          have HE := Lib.hid (show pRes (lst s) K = (sgV false u, sgE false u) from hR)
          clear hR hu hub
          go_wp2_with fail
          refine (signed_c false u HUB.out _).mono ?_; rintro e w3 ⟨rfl, rfl⟩
          go_wp2_with fail
          go_ret2
          exact ⟨ret_ii (by rw [HE.out]) (by rw [HE.out]), hq1.trans hq2⟩
        | true =>
          by_cases hu0 : u = 0
          · have HE := Lib.hid (show pRes (lst s) K = (0, 5) by rw [hR]; simp [hu0])
            have i3 : ((u : Int) == 0) = true := by rw [beq_iff_eq]; omega
            clear hR hu hub hu0
            go_wp2_with fail
            go_ret2
            exact ⟨ret_ii (by rw [HE.out]) (by rw [HE.out]), hq1.trans hq2⟩
          · have HE := Lib.hid (show pRes (lst s) K = (sgV true u, sgE true u) by rw [hR]; simp [hu0])
            have i3 : ((u : Int) == 0) = false := by rw [beq_eq_false_iff_ne]; omega
            clear hR hu hub hu0
            go_wp2_with fail
            refine (signed_c true u HUB.out _).mono ?_; rintro e w3 ⟨rfl, rfl⟩
            go_wp2_with fail
            go_ret2
            exact ⟨ret_ii (by rw [HE.out]) (by rw [HE.out]), hq1.trans hq2⟩
      · have HE := Lib.hid (show pRes (lst s) K = (0, 9) by rw [HR.out, hu])
        clear hu
        go_wp2_with fail
        go_ret2
        exact ⟨ret_ii (by rw [HE.out]) (by rw [HE.out]), hq1.trans hq2⟩
theorem Parse_c (s : ByteArray) (digits : Int) (hs : s.size ≤ 1000) (w : World) (hL : Laid w) :
    Calls Tryd.prog 24 #[.string s, .int .i64 digits] w fun e w' => e = .returned (.tuple #[.int .i64 (pRes (lst s) (clamp digits 0 9).toNat).1, .int .i64 (pRes (lst s) (clamp digits 0 9).toNat).2]) ∧ Q w w' := by
  have h0 : 0 ≤ clamp digits 0 9 := by unfold clamp; split <;> (try split) <;> (try split) <;> omega
  obtain ⟨K, hK⟩ := Int.eq_ofNat_of_zero_le h0
  have := Parse_k s digits K hs (Lib.hid hK) w hL
  rw [hK, Int.toNat_natCast]; exact this
end Go.Proofs.YtedcimjhhcepmaaDoor
