/- The contract of Parse at any string: the walk. -/
import Derived.Test.YthpopopodjgdaaaDoorParseG
set_option linter.unusedVariables false
set_option linter.unusedSimpArgs false
namespace Go.Proofs.YthpopopodjgdaaaDoor
open Go.ChangeShapes Go.WideShapes Go.ChangeAt Go.RowKit Km

theorem numF_bd {s : ByteArray} {g : Int} (hg : 0 ≤ g) : ∀ (f p : Nat) (n : Int), 0 ≤ n → n ≤ g → 0 ≤ (numF s g f p n).1 ∧ (numF s g f p n).1 ≤ g
  | 0, _, n, h0, h1 => ⟨h0, h1⟩
  | f + 1, p, n, h0, h1 => by
    show 0 ≤ (if p < s.size then (if rn s p < 48 ∨ 57 < rn s p then ((0 : Int), false) else if g < 10 * n + (rn s p - 48) then (0, false) else numF s g f (p + rl s p) (10 * n + (rn s p - 48))) else (n, true)).1 ∧ (if p < s.size then (if rn s p < 48 ∨ 57 < rn s p then ((0 : Int), false) else if g < 10 * n + (rn s p - 48) then (0, false) else numF s g f (p + rl s p) (10 * n + (rn s p - 48))) else (n, true)).1 ≤ g
    by_cases h : p < s.size
    · rw [if_pos h]
      by_cases h2 : rn s p < 48 ∨ 57 < rn s p
      · rw [if_pos h2]; exact ⟨Int.le_refl _, hg⟩
      · rw [if_neg h2]
        by_cases h3 : g < 10 * n + (rn s p - 48)
        · rw [if_pos h3]; exact ⟨Int.le_refl _, hg⟩
        · rw [if_neg h3]; exact numF_bd hg f _ _ (by omega) (by omega)
    · rw [if_neg h]; exact ⟨h0, h1⟩
theorem numS_bd {s : ByteArray} {g v : Int} {o : Bool} (hg : 0 ≤ g) (h : numS s g = (v, o)) : 0 ≤ v ∧ v ≤ g := by
  have hb := numF_bd (s := s) hg s.size 0 0 (Int.le_refl _) hg
  unfold numS finN at h
  by_cases k : (numF s g s.size 0 0).2 = true
  · rw [if_pos k] at h; injection h with a _; rw [← a]; exact hb
  · rw [if_neg k] at h; injection h with a _; rw [← a]; exact ⟨Int.le_refl _, hg⟩
theorem plS_bd {s : ByteArray} {v : Int} {o : Bool} (h : plS s = (v, o)) : 0 ≤ v ∧ v ≤ 1099511627776 := by
  unfold plS at h
  by_cases k : 1 < s.size ∧ (s.get! 0).toNat = 48
  · rw [if_pos k] at h; injection h with a _; omega
  · rw [if_neg k] at h; exact numS_bd (by omega) h
theorem twS_bd {s : ByteArray} {l v : Int} {o : Bool} (hl : 1 ≤ l) (h : twS s l = (v, o)) : 0 ≤ v ∧ v < l := by
  unfold twS at h
  by_cases k : s.size = 2
  · rw [if_pos k] at h; have := numS_bd (by omega) h; omega
  · rw [if_neg k] at h; injection h with a _; omega
theorem three_b (a b c : Bool) : (a = true ∧ b = true ∧ c = true) ∨ a = false ∨ (a = true ∧ b = false) ∨ (a = true ∧ b = true ∧ c = false) := by
  cases a <;> cases b <;> cases c <;> simp
set_option maxRecDepth 100000 in
set_option maxHeartbeats 3200000 in
theorem Parse_c (s : ByteArray) (x : Int) (e : Nat) (w : World) (hs : s.size ≤ 1000000) (h : Hid (paS s = (x, e))) : Calls Tryd.prog 26 #[.string s] w fun E w' => E = .returned (.tuple #[.int .i64 x, .int .i64 e]) ∧ Q w w' := by
  obtain ⟨a, f, ha⟩ : ∃ a f, preS s = (a, f) := ⟨_, _, rfl⟩
  obtain ⟨b, mt, g, hb⟩ : ∃ b1 m1 g1, cutS a 58 = (b1, m1, g1) := ⟨_, _, _, rfl⟩
  obtain ⟨c, ht, k, hc⟩ : ∃ c1 m1 g1, cutS b 32 = (c1, m1, g1) := ⟨_, _, _, rfl⟩
  have hp := h.out
  unfold paS at hp
  rw [ha] at hp
  unfold paB at hp
  dsimp only at hp
  rw [hb] at hp
  dsimp only at hp
  rw [hc] at hp
  unfold paC at hp
  dsimp only at hp
  have la := preS_le ha
  have lb := cutS_le hb
  have lc := cutS_le hc
  have sa : a.size ≤ 1000000 := by omega
  have sb : b.size ≤ 1000000 := by omega
  have smt : mt.size ≤ 1000000 := by omega
  have sc : c.size ≤ 1000000 := by omega
  have sht : ht.size ≤ 1000000 := by omega
  have HA := Lib.hid ha
  have HB := Lib.hid hb
  have HC := Lib.hid hc
  have SS := Lib.hid (And.intro hs (And.intro sa (And.intro sb (And.intro smt (And.intro sc sht)))))
  clear ha hb hc la lb lc sa sb smt sc sht hs h
  rcases three_b f g k with ⟨rfl, rfl, rfl⟩ | hno
  · rw [if_pos ⟨rfl, rfl, rfl⟩] at hp
    obtain ⟨d, df, hd⟩ : ∃ v o, plS c = (v, o) := ⟨_, _, rfl⟩
    obtain ⟨o, off, ho⟩ : ∃ v o, twS ht 24 = (v, o) := ⟨_, _, rfl⟩
    obtain ⟨m, mf, hm⟩ : ∃ v o, twS mt 60 = (v, o) := ⟨_, _, rfl⟩
    rw [hd, ho, hm] at hp
    unfold paT at hp
    dsimp only at hp
    have bd := plS_bd hd
    have bo := twS_bd (by omega) ho
    have bm := twS_bd (by omega) hm
    have HD := Lib.hid hd
    have HO := Lib.hid ho
    have HM := Lib.hid hm
    have r1 : wrap64 (d * 1440) = d * 1440 := IntWalk.wrap64_in _ (by omega)
    have r2 : wrap64 (o * 60) = o * 60 := IntWalk.wrap64_in _ (by omega)
    have r3 : wrap64 (d * 1440 + o * 60) = d * 1440 + o * 60 := IntWalk.wrap64_in _ (by omega)
    have r4 : wrap64 (d * 1440 + o * 60 + m) = d * 1440 + o * 60 + m := IntWalk.wrap64_in _ (by omega)
    clear hd ho hm bd bo bm
    rcases three_b df off mf with ⟨rfl, rfl, rfl⟩ | hno
    · rw [if_pos ⟨rfl, rfl, rfl⟩] at hp
      have HP := Lib.hid hp
      clear hp
      go_enter Tryd.func26, Tryd.ntmps26
      go_wp2_with fail
      refine (pre_c s a true SS.out.1 HA _).mono ?_; rintro E w1 ⟨rfl, hq1⟩
      have Q1 := Lib.hid hq1
      clear hq1
      go_wp2_with fail
      refine (cut_c a b mt 58 true SS.out.2.1 HB _).mono ?_; rintro E w2 ⟨rfl, hq2⟩
      have Q2 := Lib.hid (Q1.out.trans hq2)
      clear hq2
      go_wp2_with fail
      refine (cut_c b c ht 32 true SS.out.2.2.1 HC _).mono ?_; rintro E w3 ⟨rfl, hq3⟩
      have Q3 := Lib.hid (Q2.out.trans hq3)
      clear hq3
      go_wp2_with fail
      refine (plain_c c d true _ SS.out.2.2.2.2.1 HD).mono ?_; rintro E w4 ⟨rfl, hq4⟩
      have Q4 := Lib.hid (Q3.out.trans hq4)
      clear hq4
      go_wp2_with fail
      refine (two_c ht 24 o true _ SS.out.2.2.2.2.2 (by decide) (by decide) HO).mono ?_; rintro E w5 ⟨rfl, hq5⟩
      have Q5 := Lib.hid (Q4.out.trans hq5)
      clear hq5
      go_wp2_with fail
      refine (two_c mt 60 m true _ SS.out.2.2.2.1 (by decide) (by decide) HM).mono ?_; rintro E w6 ⟨rfl, hq6⟩
      have Q6 := Lib.hid (Q5.out.trans hq6)
      clear hq6
      go_wp2_with fail
      refine (asTime_c (d * 1440 + o * 60 + m) x e HP _).mono ?_; rintro E w7 ⟨rfl, rfl⟩
      go_wp2_with fail
      go_ret2
      exact ⟨rfl, Q6.out⟩
    · have hx : 0 = x ∧ 5 = e := by
        rw [if_neg (by rcases hno with rfl | ⟨rfl, rfl⟩ | ⟨rfl, rfl, rfl⟩ <;> simp)] at hp
        injection hp with a b; exact ⟨a, b⟩
      obtain ⟨rfl, rfl⟩ := hx
      clear hp
      rcases hno with rfl | ⟨rfl, rfl⟩ | ⟨rfl, rfl, rfl⟩
      all_goals
        go_enter Tryd.func26, Tryd.ntmps26
        go_wp2_with fail
        refine (pre_c s a true SS.out.1 HA _).mono ?_; rintro E w1 ⟨rfl, hq1⟩
        have Q1 := Lib.hid hq1
        clear hq1
        go_wp2_with fail
        refine (cut_c a b mt 58 true SS.out.2.1 HB _).mono ?_; rintro E w2 ⟨rfl, hq2⟩
        have Q2 := Lib.hid (Q1.out.trans hq2)
        clear hq2
        go_wp2_with fail
        refine (cut_c b c ht 32 true SS.out.2.2.1 HC _).mono ?_; rintro E w3 ⟨rfl, hq3⟩
        have Q3 := Lib.hid (Q2.out.trans hq3)
        clear hq3
        go_wp2_with fail
        refine (plain_c c d _ _ SS.out.2.2.2.2.1 HD).mono ?_; rintro E w4 ⟨rfl, hq4⟩
        have Q4 := Lib.hid (Q3.out.trans hq4)
        clear hq4
        go_wp2_with fail
        refine (two_c ht 24 o _ _ SS.out.2.2.2.2.2 (by decide) (by decide) HO).mono ?_; rintro E w5 ⟨rfl, hq5⟩
        have Q5 := Lib.hid (Q4.out.trans hq5)
        clear hq5
        go_wp2_with fail
        refine (two_c mt 60 m _ _ SS.out.2.2.2.1 (by decide) (by decide) HM).mono ?_; rintro E w6 ⟨rfl, hq6⟩
        have Q6 := Lib.hid (Q5.out.trans hq6)
        clear hq6
        go_wp2_with fail
        go_ret2
        exact ⟨rfl, Q6.out⟩
  · have hx : 0 = x ∧ 5 = e := by
      rw [if_neg (by rcases hno with rfl | ⟨rfl, rfl⟩ | ⟨rfl, rfl, rfl⟩ <;> simp)] at hp
      injection hp with a b; exact ⟨a, b⟩
    obtain ⟨rfl, rfl⟩ := hx
    clear hp
    rcases hno with rfl | ⟨rfl, rfl⟩ | ⟨rfl, rfl, rfl⟩
    all_goals
      go_enter Tryd.func26, Tryd.ntmps26
      go_wp2_with fail
      refine (pre_c s a _ SS.out.1 HA _).mono ?_; rintro E w1 ⟨rfl, hq1⟩
      have Q1 := Lib.hid hq1
      clear hq1
      go_wp2_with fail
      refine (cut_c a b mt 58 _ SS.out.2.1 HB _).mono ?_; rintro E w2 ⟨rfl, hq2⟩
      have Q2 := Lib.hid (Q1.out.trans hq2)
      clear hq2
      go_wp2_with fail
      refine (cut_c b c ht 32 _ SS.out.2.2.1 HC _).mono ?_; rintro E w3 ⟨rfl, hq3⟩
      have Q3 := Lib.hid (Q2.out.trans hq3)
      clear hq3
      go_wp2_with fail
      go_ret2
      exact ⟨rfl, Q3.out⟩
end Go.Proofs.YthpopopodjgdaaaDoor
