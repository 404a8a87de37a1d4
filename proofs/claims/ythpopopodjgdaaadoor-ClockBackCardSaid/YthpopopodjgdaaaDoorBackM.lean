/- Format and Parse undo each other (plain facts). -/
import Derived.Test.YthpopopodjgdaaaDoorNumC
set_option linter.unusedVariables false
set_option linter.unusedSimpArgs false
namespace Go.Proofs.YthpopopodjgdaaaDoor
open Go.ChangeShapes Go.WideShapes Go.ChangeAt Go.RowKit Km

theorem lst_app (x y : ByteArray) : lst (x ++ y) = lst x ++ lst y := by unfold lst; rw [ByteArray.data_append, Array.toList_append]
theorem lst_mk (l : List UInt8) : lst ⟨l.toArray⟩ = l := by unfold lst; simp
theorem lst_inj {x y : ByteArray} (h : lst x = lst y) : x = y := by rw [← ba_of x, ← ba_of y, h]
theorem lst_take (s : ByteArray) (p : Nat) (h : p ≤ s.size) : lst (s.extract 0 p) = (lst s).take p := by
  unfold lst; rw [ByteArray.data_extract, Array.toList_extract]; simp
theorem lst_drop (s : ByteArray) (p : Nat) : lst (s.extract p s.size) = (lst s).drop p := by
  have h : s.size = s.data.toList.length := by simp
  unfold lst; rw [ByteArray.data_extract, Array.toList_extract, h]; simp
  exact List.take_of_length_le (by rw [List.length_drop, ← h]; omega)
theorem ib_of (c : UInt8) : ∀ (x y : List UInt8), c ∉ x → Lib.indexByte (x ++ c :: y) c = (x.length : Int) := by
  intro x
  induction x with
  | nil => intro y _; simp [Lib.indexByte]
  | cons a r ih =>
    intro y h
    have h1 : a ≠ c := fun e => h (by rw [e]; exact List.mem_cons_self)
    have h2 := ih y (fun e => h (List.mem_cons_of_mem _ e))
    have h3 : ¬ (c = a) := fun e => h1 e.symm
    simp [Lib.indexByte, h1, h3, h2]
    try omega
theorem cut_of {s : ByteArray} {c : UInt8} {x y : List UInt8} (h : lst s = x ++ c :: y) (hx : c ∉ x) : cutS s c = (⟨x.toArray⟩, ⟨y.toArray⟩, true) := by
  have hi : Lib.indexByte s.data.toList c = (x.length : Int) := by
    have := ib_of c x y hx
    rw [← h] at this
    exact this
  have hl : s.size = x.length + 1 + y.length := by rw [← lst_len, h]; simp; omega
  unfold cutS
  rw [hi, if_neg (by omega)]
  refine Prod.ext (lst_inj ?_) (Prod.ext (lst_inj ?_) rfl)
  · show lst (s.extract 0 (x.length : Int).toNat) = lst ⟨x.toArray⟩
    rw [Int.toNat_natCast, lst_take _ _ (by omega), h, lst_mk]; simp
  · show lst (s.extract ((x.length : Int).toNat + 1) s.size) = lst ⟨y.toArray⟩
    rw [Int.toNat_natCast, lst_drop, h, lst_mk, List.drop_append]; simp
theorem cut_join {s a b : ByteArray} {c : UInt8} (h : cutS s c = (a, b, true)) : lst s = lst a ++ c :: lst b := by
  unfold cutS at h
  by_cases g : Lib.indexByte s.data.toList c < 0
  · rw [if_pos g] at h; injection h with _ e; injection e with _ e; cases e
  · rw [if_neg g] at h
    injection h with e1 e
    injection e with e2 _
    have hp := ib_lt g
    obtain ⟨p, hpe⟩ : ∃ p : Nat, Lib.indexByte s.data.toList c = (p : Int) := ⟨(Lib.indexByte s.data.toList c).toNat, by omega⟩
    have h1 := (Lib.indexByte_some hpe).1
    rw [hpe, Int.toNat_natCast] at e1 e2 hp
    rw [← e1, ← e2, lst_take _ _ (by omega), lst_drop]
    have h2 : (lst s).drop p = c :: (lst s).drop (p + 1) := by
      rw [lst_at s p hp]
      have h3 : (lst s)[p]? = some s[p] := by
        have := congrArg List.head? (lst_at s p hp)
        rw [List.head?_drop] at this
        exact this
      have h4 : some c = some s[p] := h1.symm.trans h3
      injection h4 with h4
      rw [h4]
    rw [← h2, List.take_append_drop]
theorem pre_join {s a : ByteArray} (h : preS s = (a, true)) : lst s = 100 :: lst a := by
  unfold preS at h
  by_cases g : 1 ≤ s.size ∧ ((s.extract 0 1).toList == [100]) = true
  · rw [if_pos g] at h
    injection h with e1 _
    have h0 : 0 < s.size := g.1
    have h2 := lst_at s 0 h0
    rw [List.drop_zero] at h2
    have h3 : lst (s.extract 0 1) = [s[0]] := by rw [lst_take _ _ g.1, h2]; rfl
    have h5 : s.extract 0 1 = ⟨#[s[0]]⟩ := lst_inj (h3.trans (lst_mk _).symm)
    have h4 := g.2
    rw [h5] at h4
    have h6 : s[0] = 100 := by
      have : (ByteArray.mk #[s[0]]).toList = [s[0]] := by
        unfold ByteArray.toList
        rw [ByteArray.toList.loop, if_pos (by show 0 < 1; omega), ByteArray.toList.loop, if_neg (by show ¬ 0 + 1 < 1; omega)]
        rfl
      rw [this, beq_iff_eq] at h4
      injection h4
    rw [h6] at h2
    rw [← e1, lst_drop]
    exact h2
  · rw [if_neg g] at h; injection h with _ e; cases e
theorem pre_of {s : ByteArray} {r : List UInt8} (h : lst s = 100 :: r) : preS s = (⟨r.toArray⟩, true) := by
  have hl : s.size = r.length + 1 := by rw [← lst_len, h]; rfl
  have h3 : lst (s.extract 0 1) = [100] := by rw [lst_take _ _ (by omega), h]; rfl
  have h5 : s.extract 0 1 = ⟨#[100]⟩ := lst_inj (h3.trans (lst_mk _).symm)
  unfold preS
  rw [if_pos ⟨by omega, by rw [h5]; decide +kernel⟩]
  refine Prod.ext (lst_inj ?_) rfl
  show lst (s.extract 1 s.size) = lst ⟨r.toArray⟩
  rw [lst_drop, h, lst_mk]; rfl
theorem td_digs : ∀ n, n < 100 → digs (lst (tdS n)) = true := by decide +kernel
theorem not_in {l : List UInt8} {c : UInt8} (h : digs l = true) (hc : isD c = false) : c ∉ l := fun g => by
  have := List.all_eq_true.1 h c g
  rw [this] at hc; cases hc
theorem fmS_lst {t : Int} (h : isT t = true) : lst (fmS t) = 100 :: ((Lib.decDigits (t.toNat / 1440) ++ 32 :: lst (tdS (t.toNat % 1440 / 60))) ++ 58 :: lst (tdS (t.toNat % 60))) := by
  unfold fmS
  rw [if_pos h, lst_app, lst_app, lst_app, lst_app, lst_app, itS_lst]
  simp [lst]
theorem back_one {t : Int} (h : isT t = true) : paS (fmS t) = (t, 0) := by
  have hb := isT_yes h
  have e1 := pre_of (fmS_lst h)
  have o1 : t.toNat % 1440 / 60 < 24 := by omega
  have m1 : t.toNat % 60 < 60 := by omega
  have dg := (dec_facts (t.toNat / 1440)).1
  have e2 := cut_of (c := 58) (lst_mk ((Lib.decDigits (t.toNat / 1440) ++ 32 :: lst (tdS (t.toNat % 1440 / 60))) ++ 58 :: lst (tdS (t.toNat % 60)))) (by
    intro g
    rcases List.mem_append.1 g with g | g
    · exact not_in dg (by decide) g
    · rcases List.mem_cons.1 g with g | g
      · exact absurd g (by decide)
      · exact not_in (td_digs _ (by omega)) (by decide) g)
  have e3 := cut_of (c := 32) (lst_mk (Lib.decDigits (t.toNat / 1440) ++ 32 :: lst (tdS (t.toNat % 1440 / 60)))) (not_in dg (by decide))
  unfold paS
  rw [e1]
  unfold paB
  dsimp only
  rw [e2]
  dsimp only
  rw [e3]
  unfold paC
  dsimp only
  rw [if_pos ⟨rfl, rfl, rfl⟩, ba_of, ba_of]
  have e4 := plS_of (t.toNat / 1440) (by omega)
  unfold itS at e4
  rw [e4, twS_of24 _ o1, twS_of60 _ m1]
  unfold paT
  dsimp only
  rw [if_pos ⟨rfl, rfl, rfl⟩]
  have e5 : ((t.toNat / 1440 : Nat) : Int) * 1440 + ((t.toNat % 1440 / 60 : Nat) : Int) * 60 + ((t.toNat % 60 : Nat) : Int) = t := by omega
  rw [e5]
  unfold asT
  rw [if_pos h]
theorem asT_zero {n x : Int} {e : Nat} (h : asT n = (x, e)) : (e = 0 → isT n = true ∧ x = n) ∧ (e ≠ 0 → x = 0) := by
  unfold asT at h
  by_cases g : isT n = true
  · rw [if_pos g] at h; injection h with a b; exact ⟨fun _ => ⟨g, a.symm⟩, fun q => absurd b.symm q⟩
  · rw [if_neg g] at h; injection h with a b; exact ⟨fun q => by omega, fun _ => a.symm⟩
theorem back_two {s : ByteArray} {n : Int} {e : Nat} (h : paS s = (n, e)) : (e = 0 → isT n = true ∧ fmS n = s) ∧ (e ≠ 0 → n = 0) := by
  obtain ⟨a, f, ha⟩ : ∃ a f, preS s = (a, f) := ⟨_, _, rfl⟩
  obtain ⟨b, mt, g, hb⟩ : ∃ b1 m1 g1, cutS a 58 = (b1, m1, g1) := ⟨_, _, _, rfl⟩
  obtain ⟨c, ht, k, hc⟩ : ∃ c1 m1 g1, cutS b 32 = (c1, m1, g1) := ⟨_, _, _, rfl⟩
  unfold paS at h
  rw [ha] at h
  unfold paB at h
  dsimp only at h
  rw [hb] at h
  dsimp only at h
  rw [hc] at h
  unfold paC at h
  dsimp only at h
  by_cases hf : f = true ∧ g = true ∧ k = true
  · rw [if_pos hf] at h
    obtain ⟨rfl, rfl, rfl⟩ := hf
    obtain ⟨d, df, hd⟩ : ∃ v o, plS c = (v, o) := ⟨_, _, rfl⟩
    obtain ⟨o, off, ho⟩ : ∃ v o, twS ht 24 = (v, o) := ⟨_, _, rfl⟩
    obtain ⟨m, mf, hm⟩ : ∃ v o, twS mt 60 = (v, o) := ⟨_, _, rfl⟩
    rw [hd, ho, hm] at h
    unfold paT at h
    dsimp only at h
    by_cases hg : df = true ∧ off = true ∧ mf = true
    · rw [if_pos hg] at h
      obtain ⟨rfl, rfl, rfl⟩ := hg
      have hz := asT_zero h
      refine ⟨fun he => ?_, hz.2⟩
      obtain ⟨hT, hn⟩ := hz.1 he
      have bd := plS_bd hd
      have bo := twS_bd (by omega) ho
      have bm := twS_bd (by omega) hm
      subst hn
      refine ⟨hT, lst_inj ?_⟩
      rw [fmS_lst hT, pre_join ha, cut_join hb, cut_join hc]
      have q1 : (d * 1440 + o * 60 + m).toNat / 1440 = d.toNat := by omega
      have q2 : (d * 1440 + o * 60 + m).toNat % 1440 / 60 = o.toNat := by omega
      have q3 : (d * 1440 + o * 60 + m).toNat % 60 = m.toNat := by omega
      rw [q1, q2, q3, ← itS_lst, ← plS_is hd, ← twS_is ho, ← twS_is hm]
    · rw [if_neg hg] at h
      injection h with x y
      exact ⟨fun q => by omega, fun _ => x.symm⟩
  · rw [if_neg hf] at h
    injection h with x y
    exact ⟨fun q => by omega, fun _ => x.symm⟩
theorem fmS_no {t : Int} (h : isT t = false) : fmS t = ByteArray.empty := by unfold fmS; rw [h, if_neg (by decide)]
theorem fmS_size (t : Int) : (fmS t).size ≤ 1000 := by
  by_cases h : isT t = true
  · have hb := isT_yes h
    have h1 := itS_small (t.toNat / 1440) (by omega)
    have h2 := tdS_small (t.toNat % 1440 / 60) (by omega)
    have h3 := tdS_small (t.toNat % 60) (by omega)
    rw [← lst_len, fmS_lst h, ← itS_lst]
    simp [lst_len]
    omega
  · unfold fmS; rw [if_neg h]; decide
end Go.Proofs.YthpopopodjgdaaaDoor
