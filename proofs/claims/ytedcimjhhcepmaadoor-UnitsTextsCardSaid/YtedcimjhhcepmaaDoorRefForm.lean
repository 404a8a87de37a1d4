/- The contract of the reference's form. -/
import Derived.Test.YtedcimjhhcepmaaDoorFormMath
import Derived.Test.YtedcimjhhcepmaaDoorRefDec
import Derived.Deep.QuietTactic
import Derived.BigQuiet
set_option linter.unusedVariables false
set_option linter.unusedSimpArgs false
namespace Go.Proofs.YtedcimjhhcepmaaDoor
open Go.ChangeShapes Go.WideShapes Go.ChangeAt Go.RowKit Um

def dgI (c : Int) : Bool := decide (48 ≤ c) && decide (c ≤ 57)
theorem rdigit_is (c : Int) (x : Bool) (h : Hid (dgI c = x)) (w : World) : Calls Tryd.prog 53 #[.int .u8 c] w fun e w' => e = .returned (.bool x) ∧ w = w' := by
  by_cases h1 : 48 ≤ c
  · by_cases h2 : c ≤ 57
    · have e := Lib.hid (show x = true by rw [← h.out]; unfold dgI; simp [h1, h2])
      go_enter Tryd.func53, Tryd.ntmps53
      go_wp2
      go_ret
      exact ⟨ret_bool e.out.symm, rfl⟩
    · have e := Lib.hid (show x = false by rw [← h.out]; unfold dgI; simp [h1, h2])
      go_enter Tryd.func53, Tryd.ntmps53
      go_wp2
      go_ret
      exact ⟨ret_bool e.out.symm, rfl⟩
  · have e := Lib.hid (show x = false by rw [← h.out]; unfold dgI; simp [h1])
    go_enter Tryd.func53, Tryd.ntmps53
    go_wp2
    go_ret
    exact ⟨ret_bool e.out.symm, rfl⟩
def sub (c : UInt8) : UInt8 := c - 48
def FormEnd (t : List UInt8) (K : Nat) (w : World) (e : Ending) (w' : World) : Prop :=
  Below w.heap.size w w' ∧ ((wpOk t K = false ∧ e = .returned (.tuple #[.slice none 0 0, .bool false])) ∨
    (wpOk t K = true ∧ ∃ v, e = .returned (.tuple #[v, .bool true]) ∧ Own w.heap.size v (((parts t K).1 ++ (parts t K).2).map sub) w'))
def FormInv (B : Nat) (t : List UInt8) (N : Nat) (w0 : World) (v7 v8 : Value) (wr : World) : Prop :=
  ∃ m : Nat, v8 = .int .i64 (m : Int) ∧ Hid (m ≤ t.length ∧ (∀ j, j < m → j ≠ N → isD (t.getD j 0) = true) ∧ Own B v7 ((gt t N m).map sub) wr ∧ Below B w0 wr)
theorem lst_D (s : ByteArray) (k : Nat) (h : k < s.size) : (lst s).getD k 0 = s[k] := by
  have := lst_at s k h
  rw [getD_lt (by rw [lst_len]; exact h)] at this; exact Option.some.inj this
theorem dgI_isD (s : ByteArray) (k : Nat) (h : k < s.size) : dgI (s[k].toNat : Int) = isD ((lst s).getD k 0) := by
  rw [lst_D s k h]; unfold dgI isD
  rw [Bool.eq_iff_iff]; simp; omega
theorem bv_sub {c : UInt8} (h : isD c = true) : bv (sub c) = .int .u8 ((c.toNat : Int) - 48) := by
  obtain ⟨d, h1, h2, h3⟩ := chr_dig h
  unfold bv sub
  have : (c - 48).toNat = c.toNat - 48 := by
    rw [UInt8.toNat_sub_of_le _ _ (by rw [UInt8.le_iff_toNat_le]; show 48 ≤ c.toNat; omega)]; rfl
  rw [this]; congr 1; omega

set_option maxRecDepth 1000000 in
set_option maxHeartbeats 6400000 in
theorem form_c (s : ByteArray) (K : Nat) (hs : s.size ≤ 100) (hK : K ≤ 9) (w : World) : Calls Tryd.prog 44 #[.string s, .int .i64 (K : Int)] w (FormEnd (lst s) K w) := by
  obtain ⟨i0, hi, hz0, hz1, hz2⟩ := info_parts infoB
  obtain ⟨A, hA⟩ : ∃ A : Int, (s.size : Int) - (K : Int) = A := ⟨_, rfl⟩
  obtain ⟨n, hn⟩ : ∃ n : Int, A - (if 0 < K then 1 else 0) = n := ⟨_, rfl⟩
  have js : (s.size : Int) ≤ 100 := by omega
  have jK : (K : Int) ≤ 9 := by omega
  have jn : A - 1 = n ∨ K = 0 := by by_cases h : 0 < K; rw [if_pos h] at hn; exact .inl hn; right; omega
  by_cases h1 : n < 1
  · have HE := Lib.hid (show wpOk (lst s) K = false from form_short (by
      rw [lst_len]
      by_cases g : 0 < K
      · rw [if_pos g] at hn ⊢; omega
      · rw [if_neg g] at hn ⊢; omega))
    by_cases hK0 : 0 < K
    · have t1 : 0 < (K : Int) := by omega
      have t2 : A - 1 = n := by omega
      clear hn jn hs hK hK0
      go_enter Tryd.func44, Tryd.ntmps44
      go_wp2_with fail
      go_ret2
      exact ⟨Below.refl _ _, .inl ⟨HE.out, rfl⟩⟩
    · obtain rfl : K = 0 := by omega
      have t2 : A = n := by simpa using hn
      subst t2
      clear hn jn hs hK hK0
      go_enter Tryd.func44, Tryd.ntmps44
      go_wp2_with fail
      go_ret2
      exact ⟨Below.refl _ _, .inl ⟨HE.out, rfl⟩⟩
  · obtain ⟨N, rfl⟩ := Int.eq_ofNat_of_zero_le (show 0 ≤ n by omega)
    have HN := Lib.hid (show N + K + (if 0 < K then 1 else 0) = (lst s).length by
      rw [lst_len]
      by_cases g : 0 < K
      · rw [if_pos g] at hn ⊢; omega
      · rw [if_neg g] at hn ⊢; omega)
    have H1 := Lib.hid (show 1 ≤ N by omega)
    have h0 : 0 < s.size := by omega
    have hNK : N + (if 0 < K then 1 else 0) ≤ s.size := by have := HN.out; rw [lst_len] at this; omega
    by_cases hz : s[0].toNat = 48 ∧ 1 < N
    · have HE := Lib.hid (show wpOk (lst s) K = false from form_not HN.out fun g => g.zero ⟨by rw [lst_D s 0 h0]; exact UInt8.toNat_inj.1 hz.1, hz.2⟩)
      have z1 : ((s[0].toNat : Int) == 48) = true := by rw [beq_iff_eq]; omega
      have z2 : 1 < (N : Int) := by omega
      by_cases hK0 : 0 < K
      · have t1 : 0 < (K : Int) := by omega
        have t2 : A - 1 = (N : Int) := by rw [if_pos hK0] at hn; exact hn
        clear hn jn hs hK hK0 hz hNK
        go_enter Tryd.func44, Tryd.ntmps44
        go_wp2_with fail
        go_ret2
        exact ⟨Below.refl _ _, .inl ⟨HE.out, rfl⟩⟩
      · have t1 : ¬ 0 < (K : Int) := by omega
        have t2 : A = (N : Int) := by rw [if_neg hK0] at hn; omega
        subst t2
        clear hn jn hs hK hK0 hz hNK
        go_enter Tryd.func44, Tryd.ntmps44
        go_wp2_with fail
        go_ret2
        exact ⟨Below.refl _ _, .inl ⟨HE.out, rfl⟩⟩
    · have HZ := Lib.hid (show ¬ ((lst s).getD 0 0 = 48 ∧ 1 < N) by
        rw [lst_D s 0 h0]; intro g; exact hz ⟨by rw [g.1]; rfl, g.2⟩)
      have z1 : ((s[0].toNat : Int) == 48) = false ∨ (((s[0].toNat : Int) == 48) = true ∧ ¬ 1 < (N : Int)) := by
        by_cases g : s[0].toNat = 48
        · right; exact ⟨by rw [beq_iff_eq]; omega, fun k => hz ⟨g, by omega⟩⟩
        · left; rw [beq_eq_false_iff_ne]; omega
      clear hz
      by_cases hK0 : 0 < K
      · have t1 : 0 < (K : Int) := by omega
        have t2 : A - 1 = (N : Int) := by rw [if_pos hK0] at hn; exact hn
        have hNs : N < s.size := by rw [if_pos hK0] at hNK; omega
        by_cases hp : s[N].toNat = 46
        · have HP := Lib.hid (show 0 < K → (lst s).getD N 0 = 46 from fun _ => by rw [lst_D s N hNs]; exact UInt8.toNat_inj.1 hp)
          have p1 : ((s[N].toNat : Int) != 46) = false := by simpa using (by omega : (s[N].toNat : Int) = 46)
          clear hn jn hs hK hK0 hNK hp
          rcases z1 with z1 | ⟨z1, z2⟩
          · go_enter Tryd.func44, Tryd.ntmps44
            go_wp2_with fail
            go_loopw [7, 8] (fun v7 v8 wr => FormInv w.heap.size (lst s) N w v7 v8 wr) (fun _ v8 _ => s.size - (intOf v8).toNat)
            case atStart => exact ⟨0, rfl, ⟨Nat.zero_le _, fun j hj => by omega, own_nil _ _, Below.refl _ _⟩⟩
            case round =>
              obtain ⟨m, rfl, HI⟩ := hrel
              obtain ⟨m1, dg1, ow1, bl1⟩ := HI.out
              rw [lst_len] at m1
              have DG := Lib.hid dg1
              have OW := Lib.hid ow1
              have HB0 := Lib.hid bl1
              have BS := Lib.hid bl1.size
              clear dg1 bl1 HI
              by_cases hlt : m < s.size
              · by_cases hmN : m = N
                · have c1 : ((m : Int) == (N : Int)) = true := by rw [beq_iff_eq]; omega
                  have NX := Lib.hid (show (∀ j, j < m + 1 → j ≠ N → isD ((lst s).getD j 0) = true) ∧ gt (lst s) N (m + 1) = gt (lst s) N m from
                    ⟨fun j hj hne => DG.out j (by omega) hne, by show (if m = N then _ else _) = _; rw [if_pos hmN]⟩)
                  clear ow1 hmN
                  go_wp2_with fail
                  go_roundw
                  case rel => exact ⟨m + 1, by go_num, ⟨by rw [lst_len]; omega, NX.out.1, by rw [NX.out.2]; exact OW.out, HB0.out⟩⟩
                  case measure => simp [intOf]; omega
                · have c1 : ((m : Int) == (N : Int)) = false := by rw [beq_eq_false_iff_ne]; omega
                  cases hd : dgI (s[m].toNat : Int) with
                  | false =>
                    have HD := Lib.hid hd
                    have HE := Lib.hid (show wpOk (lst s) K = false from form_not HN.out fun g => by
                      have := g.digs m (by rw [lst_len]; exact hlt) hmN
                      rw [← dgI_isD s m hlt, hd] at this; cases this)
                    clear ow1 hmN hd
                    go_wp2_with fail
                    refine (rdigit_is _ _ HD _).mono ?_; rintro e w' ⟨rfl, rfl⟩
                    go_wp2_with fail
                    go_ret2
                    exact ⟨HB0.out, .inl ⟨HE.out, rfl⟩⟩
                  | true =>
                    have HD := Lib.hid hd
                    have hD2 := hd
                    rw [dgI_isD s m hlt] at hD2
                    have q1 : 48 ≤ (s[m].toNat : Int) ∧ (s[m].toNat : Int) ≤ 57 := by unfold dgI at hd; rw [Bool.and_eq_true, decide_eq_true_eq, decide_eq_true_eq] at hd; exact hd
                    obtain ⟨q2, q3⟩ := q1
                    obtain ⟨l0, hl0⟩ : ∃ l0, (gt (lst s) N m).map sub = l0 := ⟨_, rfl⟩
                    rw [hl0] at OW ow1
                    have RM := Lib.hid (room_of (n := l0.length) (by rw [← hl0, List.length_map]; have := gt_len (lst s) N m; omega))
                    have NX := Lib.hid (show (∀ j, j < m + 1 → j ≠ N → isD ((lst s).getD j 0) = true) ∧ (gt (lst s) N (m + 1)).map sub = l0 ++ [sub ((lst s).getD m 0)] from
                      ⟨fun j hj hne => by
                        rcases Nat.lt_or_ge j m with k | k
                        · exact DG.out j k hne
                        · obtain rfl : j = m := by omega
                          exact hD2, by
                        show (if m = N then _ else _ : List UInt8).map sub = _; rw [if_neg hmN, List.map_append, hl0]; rfl⟩)
                    have BV := Lib.hid (show bv (sub ((lst s).getD m 0)) = .int .u8 ((s[m].toNat : Int) - 48) by rw [bv_sub hD2, lst_D s m hlt])
                    have hown := ow1
                    unfold Own at hown
                    clear ow1 hmN hd hl0 hD2
                    go_wp2_with fail
                    refine (rdigit_is _ _ HD _).mono ?_; rintro e w' ⟨rfl, rfl⟩
                    go_wp2_with (first
                      | (at_builtin; refine wpList_append_own _ rfl _ _ 56 rfl w.heap.size 5 i0 (.int .u8 0) 1 1 Tryd.underlying56 hi hz0 hz1 hz2 rfl (by decide) _ _ _ rfl (hown.alloc _) ⟨wr.heap.size, 0, none⟩ 1 1 [.int .u8 ((s[m].toNat : Int) - 48)] rfl rfl (one_at _ _ _) (one_cell _ _) RM.out.1 RM.out.2 (alloc_le BS.out _) ?_)
                      | go_in)
                    intro v' w1 hown' hgrow _
                    have N2 := Lib.hid (own_next (c := sub ((lst s).getD m 0)) OW.out HB0.out BS.out (by rw [BV.out]; exact hown') hgrow)
                    clear hown' hgrow hown
                    go_wp2_with fail
                    go_roundw
                    case rel => exact ⟨m + 1, by go_num, ⟨by rw [lst_len]; omega, NX.out.1, by rw [NX.out.2]; exact N2.out.1, N2.out.2⟩⟩
                    case measure => simp [intOf]; omega
              · obtain rfl : m = s.size := by omega
                have F := Lib.hid (form_ok (show Form (lst s) K N from ⟨HN.out, H1.out, HZ.out, HP.out, fun j hj hne => DG.out j (by rw [lst_len] at hj; exact hj) hne⟩))
                clear ow1
                go_wp2_with fail
                go_ret2
                exact ⟨HB0.out, .inr ⟨F.out.1, _, rfl, by rw [F.out.2, lst_len]; exact OW.out⟩⟩
          · go_enter Tryd.func44, Tryd.ntmps44
            go_wp2_with fail
            go_loopw [7, 8] (fun v7 v8 wr => FormInv w.heap.size (lst s) N w v7 v8 wr) (fun _ v8 _ => s.size - (intOf v8).toNat)
            case atStart => exact ⟨0, rfl, ⟨Nat.zero_le _, fun j hj => by omega, own_nil _ _, Below.refl _ _⟩⟩
            case round =>
              obtain ⟨m, rfl, HI⟩ := hrel
              obtain ⟨m1, dg1, ow1, bl1⟩ := HI.out
              rw [lst_len] at m1
              have DG := Lib.hid dg1
              have OW := Lib.hid ow1
              have HB0 := Lib.hid bl1
              have BS := Lib.hid bl1.size
              clear dg1 bl1 HI
              by_cases hlt : m < s.size
              · by_cases hmN : m = N
                · have c1 : ((m : Int) == (N : Int)) = true := by rw [beq_iff_eq]; omega
                  have NX := Lib.hid (show (∀ j, j < m + 1 → j ≠ N → isD ((lst s).getD j 0) = true) ∧ gt (lst s) N (m + 1) = gt (lst s) N m from
                    ⟨fun j hj hne => DG.out j (by omega) hne, by show (if m = N then _ else _) = _; rw [if_pos hmN]⟩)
                  clear ow1 hmN
                  go_wp2_with fail
                  go_roundw
                  case rel => exact ⟨m + 1, by go_num, ⟨by rw [lst_len]; omega, NX.out.1, by rw [NX.out.2]; exact OW.out, HB0.out⟩⟩
                  case measure => simp [intOf]; omega
                · have c1 : ((m : Int) == (N : Int)) = false := by rw [beq_eq_false_iff_ne]; omega
                  cases hd : dgI (s[m].toNat : Int) with
                  | false =>
                    have HD := Lib.hid hd
                    have HE := Lib.hid (show wpOk (lst s) K = false from form_not HN.out fun g => by
                      have := g.digs m (by rw [lst_len]; exact hlt) hmN
                      rw [← dgI_isD s m hlt, hd] at this; cases this)
                    clear ow1 hmN hd
                    go_wp2_with fail
                    refine (rdigit_is _ _ HD _).mono ?_; rintro e w' ⟨rfl, rfl⟩
                    go_wp2_with fail
                    go_ret2
                    exact ⟨HB0.out, .inl ⟨HE.out, rfl⟩⟩
                  | true =>
                    have HD := Lib.hid hd
                    have hD2 := hd
                    rw [dgI_isD s m hlt] at hD2
                    have q1 : 48 ≤ (s[m].toNat : Int) ∧ (s[m].toNat : Int) ≤ 57 := by unfold dgI at hd; rw [Bool.and_eq_true, decide_eq_true_eq, decide_eq_true_eq] at hd; exact hd
                    obtain ⟨q2, q3⟩ := q1
                    obtain ⟨l0, hl0⟩ : ∃ l0, (gt (lst s) N m).map sub = l0 := ⟨_, rfl⟩
                    rw [hl0] at OW ow1
                    have RM := Lib.hid (room_of (n := l0.length) (by rw [← hl0, List.length_map]; have := gt_len (lst s) N m; omega))
                    have NX := Lib.hid (show (∀ j, j < m + 1 → j ≠ N → isD ((lst s).getD j 0) = true) ∧ (gt (lst s) N (m + 1)).map sub = l0 ++ [sub ((lst s).getD m 0)] from
                      ⟨fun j hj hne => by
                        rcases Nat.lt_or_ge j m with k | k
                        · exact DG.out j k hne
                        · obtain rfl : j = m := by omega
                          exact hD2, by
                        show (if m = N then _ else _ : List UInt8).map sub = _; rw [if_neg hmN, List.map_append, hl0]; rfl⟩)
                    have BV := Lib.hid (show bv (sub ((lst s).getD m 0)) = .int .u8 ((s[m].toNat : Int) - 48) by rw [bv_sub hD2, lst_D s m hlt])
                    have hown := ow1
                    unfold Own at hown
                    clear ow1 hmN hd hl0 hD2
                    go_wp2_with fail
                    refine (rdigit_is _ _ HD _).mono ?_; rintro e w' ⟨rfl, rfl⟩
                    go_wp2_with (first
                      | (at_builtin; refine wpList_append_own _ rfl _ _ 56 rfl w.heap.size 5 i0 (.int .u8 0) 1 1 Tryd.underlying56 hi hz0 hz1 hz2 rfl (by decide) _ _ _ rfl (hown.alloc _) ⟨wr.heap.size, 0, none⟩ 1 1 [.int .u8 ((s[m].toNat : Int) - 48)] rfl rfl (one_at _ _ _) (one_cell _ _) RM.out.1 RM.out.2 (alloc_le BS.out _) ?_)
                      | go_in)
                    intro v' w1 hown' hgrow _
                    have N2 := Lib.hid (own_next (c := sub ((lst s).getD m 0)) OW.out HB0.out BS.out (by rw [BV.out]; exact hown') hgrow)
                    clear hown' hgrow hown
                    go_wp2_with fail
                    go_roundw
                    case rel => exact ⟨m + 1, by go_num, ⟨by rw [lst_len]; omega, NX.out.1, by rw [NX.out.2]; exact N2.out.1, N2.out.2⟩⟩
                    case measure => simp [intOf]; omega
              · obtain rfl : m = s.size := by omega
                have F := Lib.hid (form_ok (show Form (lst s) K N from ⟨HN.out, H1.out, HZ.out, HP.out, fun j hj hne => DG.out j (by rw [lst_len] at hj; exact hj) hne⟩))
                clear ow1
                go_wp2_with fail
                go_ret2
                exact ⟨HB0.out, .inr ⟨F.out.1, _, rfl, by rw [F.out.2, lst_len]; exact OW.out⟩⟩
        · have HE := Lib.hid (show wpOk (lst s) K = false from form_not HN.out fun g => hp (by have := g.point hK0; rw [lst_D s N hNs] at this; rw [this]; rfl))
          have p1 : ((s[N].toNat : Int) != 46) = true := by simpa using (by omega : ¬ (s[N].toNat : Int) = 46)
          clear hn jn hs hK hK0 hNK hp
          rcases z1 with z1 | ⟨z1, z2⟩
          all_goals
            go_enter Tryd.func44, Tryd.ntmps44
            go_wp2_with fail
            go_ret2
            exact ⟨Below.refl _ _, .inl ⟨HE.out, rfl⟩⟩
      · have t1 : ¬ 0 < (K : Int) := by omega
        have t2 : A = (N : Int) := by rw [if_neg hK0] at hn; omega
        subst t2
        have HP := Lib.hid (show 0 < K → (lst s).getD N 0 = 46 from fun g => absurd g hK0)
        clear hn jn hs hK hK0 hNK
        rcases z1 with z1 | ⟨z1, z2⟩
        · go_enter Tryd.func44, Tryd.ntmps44
          go_wp2_with fail
          go_loopw [7, 8] (fun v7 v8 wr => FormInv w.heap.size (lst s) N w v7 v8 wr) (fun _ v8 _ => s.size - (intOf v8).toNat)
          case atStart => exact ⟨0, rfl, ⟨Nat.zero_le _, fun j hj => by omega, own_nil _ _, Below.refl _ _⟩⟩
          case round =>
            obtain ⟨m, rfl, HI⟩ := hrel
            obtain ⟨m1, dg1, ow1, bl1⟩ := HI.out
            rw [lst_len] at m1
            have DG := Lib.hid dg1
            have OW := Lib.hid ow1
            have HB0 := Lib.hid bl1
            have BS := Lib.hid bl1.size
            clear dg1 bl1 HI
            by_cases hlt : m < s.size
            · by_cases hmN : m = N
              · have c1 : ((m : Int) == (N : Int)) = true := by rw [beq_iff_eq]; omega
                have NX := Lib.hid (show (∀ j, j < m + 1 → j ≠ N → isD ((lst s).getD j 0) = true) ∧ gt (lst s) N (m + 1) = gt (lst s) N m from
                  ⟨fun j hj hne => DG.out j (by omega) hne, by show (if m = N then _ else _) = _; rw [if_pos hmN]⟩)
                clear ow1 hmN
                go_wp2_with fail
                go_roundw
                case rel => exact ⟨m + 1, by go_num, ⟨by rw [lst_len]; omega, NX.out.1, by rw [NX.out.2]; exact OW.out, HB0.out⟩⟩
                case measure => simp [intOf]; omega
              · have c1 : ((m : Int) == (N : Int)) = false := by rw [beq_eq_false_iff_ne]; omega
                cases hd : dgI (s[m].toNat : Int) with
                | false =>
                  have HD := Lib.hid hd
                  have HE := Lib.hid (show wpOk (lst s) K = false from form_not HN.out fun g => by
                    have := g.digs m (by rw [lst_len]; exact hlt) hmN
                    rw [← dgI_isD s m hlt, hd] at this; cases this)
                  clear ow1 hmN hd
                  go_wp2_with fail
                  refine (rdigit_is _ _ HD _).mono ?_; rintro e w' ⟨rfl, rfl⟩
                  go_wp2_with fail
                  go_ret2
                  exact ⟨HB0.out, .inl ⟨HE.out, rfl⟩⟩
                | true =>
                  have HD := Lib.hid hd
                  have hD2 := hd
                  rw [dgI_isD s m hlt] at hD2
                  have q1 : 48 ≤ (s[m].toNat : Int) ∧ (s[m].toNat : Int) ≤ 57 := by unfold dgI at hd; rw [Bool.and_eq_true, decide_eq_true_eq, decide_eq_true_eq] at hd; exact hd
                  obtain ⟨q2, q3⟩ := q1
                  obtain ⟨l0, hl0⟩ : ∃ l0, (gt (lst s) N m).map sub = l0 := ⟨_, rfl⟩
                  rw [hl0] at OW ow1
                  have RM := Lib.hid (room_of (n := l0.length) (by rw [← hl0, List.length_map]; have := gt_len (lst s) N m; omega))
                  have NX := Lib.hid (show (∀ j, j < m + 1 → j ≠ N → isD ((lst s).getD j 0) = true) ∧ (gt (lst s) N (m + 1)).map sub = l0 ++ [sub ((lst s).getD m 0)] from
                    ⟨fun j hj hne => by
                      rcases Nat.lt_or_ge j m with k | k
                      · exact DG.out j k hne
                      · obtain rfl : j = m := by omega
                        exact hD2, by
                      show (if m = N then _ else _ : List UInt8).map sub = _; rw [if_neg hmN, List.map_append, hl0]; rfl⟩)
                  have BV := Lib.hid (show bv (sub ((lst s).getD m 0)) = .int .u8 ((s[m].toNat : Int) - 48) by rw [bv_sub hD2, lst_D s m hlt])
                  have hown := ow1
                  unfold Own at hown
                  clear ow1 hmN hd hl0 hD2
                  go_wp2_with fail
                  refine (rdigit_is _ _ HD _).mono ?_; rintro e w' ⟨rfl, rfl⟩
                  go_wp2_with (first
                    | (at_builtin; refine wpList_append_own _ rfl _ _ 56 rfl w.heap.size 5 i0 (.int .u8 0) 1 1 Tryd.underlying56 hi hz0 hz1 hz2 rfl (by decide) _ _ _ rfl (hown.alloc _) ⟨wr.heap.size, 0, none⟩ 1 1 [.int .u8 ((s[m].toNat : Int) - 48)] rfl rfl (one_at _ _ _) (one_cell _ _) RM.out.1 RM.out.2 (alloc_le BS.out _) ?_)
                    | go_in)
                  intro v' w1 hown' hgrow _
                  have N2 := Lib.hid (own_next (c := sub ((lst s).getD m 0)) OW.out HB0.out BS.out (by rw [BV.out]; exact hown') hgrow)
                  clear hown' hgrow hown
                  go_wp2_with fail
                  go_roundw
                  case rel => exact ⟨m + 1, by go_num, ⟨by rw [lst_len]; omega, NX.out.1, by rw [NX.out.2]; exact N2.out.1, N2.out.2⟩⟩
                  case measure => simp [intOf]; omega
            · obtain rfl : m = s.size := by omega
              have F := Lib.hid (form_ok (show Form (lst s) K N from ⟨HN.out, H1.out, HZ.out, HP.out, fun j hj hne => DG.out j (by rw [lst_len] at hj; exact hj) hne⟩))
              clear ow1
              go_wp2_with fail
              go_ret2
              exact ⟨HB0.out, .inr ⟨F.out.1, _, rfl, by rw [F.out.2, lst_len]; exact OW.out⟩⟩
        · go_enter Tryd.func44, Tryd.ntmps44
          go_wp2_with fail
          go_loopw [7, 8] (fun v7 v8 wr => FormInv w.heap.size (lst s) N w v7 v8 wr) (fun _ v8 _ => s.size - (intOf v8).toNat)
          case atStart => exact ⟨0, rfl, ⟨Nat.zero_le _, fun j hj => by omega, own_nil _ _, Below.refl _ _⟩⟩
          case round =>
            obtain ⟨m, rfl, HI⟩ := hrel
            obtain ⟨m1, dg1, ow1, bl1⟩ := HI.out
            rw [lst_len] at m1
            have DG := Lib.hid dg1
            have OW := Lib.hid ow1
            have HB0 := Lib.hid bl1
            have BS := Lib.hid bl1.size
            clear dg1 bl1 HI
            by_cases hlt : m < s.size
            · by_cases hmN : m = N
              · have c1 : ((m : Int) == (N : Int)) = true := by rw [beq_iff_eq]; omega
                have NX := Lib.hid (show (∀ j, j < m + 1 → j ≠ N → isD ((lst s).getD j 0) = true) ∧ gt (lst s) N (m + 1) = gt (lst s) N m from
                  ⟨fun j hj hne => DG.out j (by omega) hne, by show (if m = N then _ else _) = _; rw [if_pos hmN]⟩)
                clear ow1 hmN
                go_wp2_with fail
                go_roundw
                case rel => exact ⟨m + 1, by go_num, ⟨by rw [lst_len]; omega, NX.out.1, by rw [NX.out.2]; exact OW.out, HB0.out⟩⟩
                case measure => simp [intOf]; omega
              · have c1 : ((m : Int) == (N : Int)) = false := by rw [beq_eq_false_iff_ne]; omega
                cases hd : dgI (s[m].toNat : Int) with
                | false =>
                  have HD := Lib.hid hd
                  have HE := Lib.hid (show wpOk (lst s) K = false from form_not HN.out fun g => by
                    have := g.digs m (by rw [lst_len]; exact hlt) hmN
                    rw [← dgI_isD s m hlt, hd] at this; cases this)
                  clear ow1 hmN hd
                  go_wp2_with fail
                  refine (rdigit_is _ _ HD _).mono ?_; rintro e w' ⟨rfl, rfl⟩
                  go_wp2_with fail
                  go_ret2
                  exact ⟨HB0.out, .inl ⟨HE.out, rfl⟩⟩
                | true =>
                  have HD := Lib.hid hd
                  have hD2 := hd
                  rw [dgI_isD s m hlt] at hD2
                  have q1 : 48 ≤ (s[m].toNat : Int) ∧ (s[m].toNat : Int) ≤ 57 := by unfold dgI at hd; rw [Bool.and_eq_true, decide_eq_true_eq, decide_eq_true_eq] at hd; exact hd
                  obtain ⟨q2, q3⟩ := q1
                  obtain ⟨l0, hl0⟩ : ∃ l0, (gt (lst s) N m).map sub = l0 := ⟨_, rfl⟩
                  rw [hl0] at OW ow1
                  have RM := Lib.hid (room_of (n := l0.length) (by rw [← hl0, List.length_map]; have := gt_len (lst s) N m; omega))
                  have NX := Lib.hid (show (∀ j, j < m + 1 → j ≠ N → isD ((lst s).getD j 0) = true) ∧ (gt (lst s) N (m + 1)).map sub = l0 ++ [sub ((lst s).getD m 0)] from
                    ⟨fun j hj hne => by
                      rcases Nat.lt_or_ge j m with k | k
                      · exact DG.out j k hne
                      · obtain rfl : j = m := by omega
                        exact hD2, by
                      show (if m = N then _ else _ : List UInt8).map sub = _; rw [if_neg hmN, List.map_append, hl0]; rfl⟩)
                  have BV := Lib.hid (show bv (sub ((lst s).getD m 0)) = .int .u8 ((s[m].toNat : Int) - 48) by rw [bv_sub hD2, lst_D s m hlt])
                  have hown := ow1
                  unfold Own at hown
                  clear ow1 hmN hd hl0 hD2
                  go_wp2_with fail
                  refine (rdigit_is _ _ HD _).mono ?_; rintro e w' ⟨rfl, rfl⟩
                  go_wp2_with (first
                    | (at_builtin; refine wpList_append_own _ rfl _ _ 56 rfl w.heap.size 5 i0 (.int .u8 0) 1 1 Tryd.underlying56 hi hz0 hz1 hz2 rfl (by decide) _ _ _ rfl (hown.alloc _) ⟨wr.heap.size, 0, none⟩ 1 1 [.int .u8 ((s[m].toNat : Int) - 48)] rfl rfl (one_at _ _ _) (one_cell _ _) RM.out.1 RM.out.2 (alloc_le BS.out _) ?_)
                    | go_in)
                  intro v' w1 hown' hgrow _
                  have N2 := Lib.hid (own_next (c := sub ((lst s).getD m 0)) OW.out HB0.out BS.out (by rw [BV.out]; exact hown') hgrow)
                  clear hown' hgrow hown
                  go_wp2_with fail
                  go_roundw
                  case rel => exact ⟨m + 1, by go_num, ⟨by rw [lst_len]; omega, NX.out.1, by rw [NX.out.2]; exact N2.out.1, N2.out.2⟩⟩
                  case measure => simp [intOf]; omega
            · obtain rfl : m = s.size := by omega
              have F := Lib.hid (form_ok (show Form (lst s) K N from ⟨HN.out, H1.out, HZ.out, HP.out, fun j hj hne => DG.out j (by rw [lst_len] at hj; exact hj) hne⟩))
              clear ow1
              go_wp2_with fail
              go_ret2
              exact ⟨HB0.out, .inr ⟨F.out.1, _, rfl, by rw [F.out.2, lst_len]; exact OW.out⟩⟩
end Go.Proofs.YtedcimjhhcepmaaDoor
