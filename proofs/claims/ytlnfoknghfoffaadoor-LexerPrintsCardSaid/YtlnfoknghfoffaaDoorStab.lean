/- Where a lexeme begins in another text with the same bytes, it is the same lexeme; the scan as a relation (no walk). -/
import Derived.Test.YtlnfoknghfoffaaDoorScanM
set_option linter.unusedVariables false
set_option linter.unusedSimpArgs false
namespace Go.Proofs.YtlnfoknghfoffaaDoor
open Go.RowKit Lm

theorem bt_ext {a b : ByteArray} (h : a.size = b.size) (hb : ∀ i, i < a.size → bt a i = bt b i) : a = b := by
  apply ByteArray.ext
  apply Array.ext
  · exact h
  · intro i h1 h2
    have e := hb i h1
    unfold bt at e
    rw [List.getD_eq_getElem?_getD, List.getD_eq_getElem?_getD, List.getElem?_eq_getElem (by simpa using h1), List.getElem?_eq_getElem (by simpa using h2)] at e
    simp only [Option.getD_some, Array.getElem_toList] at e
    exact UInt8.toNat_inj.1 e
theorem bt_zero_ext (u : ByteArray) (n i : Nat) (hn : n ≤ u.size) (h : i < n) : bt (u.extract 0 n) i = bt u i := by rw [bt_extract u 0 n i hn (by omega), Nat.zero_add]
theorem ldS_is {f : Int → Bool} {s : ByteArray} {m : Nat} (hm : m ≤ s.size) (h1 : ∀ i, i < m → f (bt s i) = true) (h2 : m = s.size ∨ f (bt s m) = false) : ∀ (n p : Nat), m - p = n → p ≤ m → ldS f s p = m
  | 0, p, hn, hp => by
    obtain rfl : p = m := by omega
    rcases h2 with h2 | h2
    · exact ldS_end (by omega)
    · exact ldS_no h2
  | n + 1, p, hn, hp => by rw [ldS_go (by omega) (h1 p (by omega))]; exact ldS_is hm h1 h2 n (p + 1) (by omega) (by omega)
theorem ldS_stop {f : Int → Bool} {s : ByteArray} : ∀ (n p : Nat), s.size - p = n → p ≤ s.size → ldS f s p = s.size ∨ f (bt s (ldS f s p)) = false
  | 0, p, hn, hp => by rw [ldS_end (by omega)]; left; omega
  | n + 1, p, hn, hp => by
    cases hb : f (bt s p) with
    | false => rw [ldS_no hb]; exact .inr hb
    | true => rw [ldS_go (by omega) hb]; exact ldS_stop n (p + 1) (by omega) (by omega)
/-- how a lexeme ends: with the text, ahead of a blank or a line feed, or ahead of the same byte -/
def Ends (u v : ByteArray) (m : Nat) : Prop := v.size = m ∨ bt v m = 10 ∨ bt v m = 32 ∨ (m < u.size ∧ bt v m = bt u m)
theorem stab_ld {f : Int → Bool} {u v : ByteArray} (f10 : f 10 = false) (f32 : f 32 = false) (hv : ldS f u 0 ≤ v.size) (hb : ∀ i, i < ldS f u 0 → bt v i = bt u i) (hc : Ends u v (ldS f u 0)) :
    ldS f v 0 = ldS f u 0 ∧ v.extract 0 (ldS f v 0) = u.extract 0 (ldS f u 0) := by
  have hu := (ldS_bd (f := f) (s := u) _ 0 rfl (Nat.zero_le _)).2
  have e : ldS f v 0 = ldS f u 0 := by
    refine ldS_is hv (fun i hi => ?_) ?_ _ 0 rfl (Nat.zero_le _)
    · rw [hb i hi]; exact ldS_fit _ 0 rfl i (Nat.zero_le _) hi
    · rcases hc with h | h | h | ⟨h, h'⟩
      · exact .inl h.symm
      · right; rw [h]; exact f10
      · right; rw [h]; exact f32
      · right
        rcases ldS_stop (f := f) (s := u) _ 0 rfl (Nat.zero_le _) with g | g
        · omega
        · rw [h']; exact g
  refine ⟨e, ?_⟩
  rw [e]
  have z1 := ext_size hv
  have z2 := ext_size hu
  refine bt_ext (by omega) fun i hi => ?_
  rw [z1] at hi
  rw [bt_zero_ext v _ i hv hi, bt_zero_ext u _ i hu hi, hb i hi]
theorem bt_toList (x : ByteArray) (i : Nat) : bt x i = (x.toList.getD i 0).toNat := by unfold bt; rw [ByteArray.toList_eq]
theorem two_marks : ∀ m ∈ marksL, m.length = 2 → (m.getD 1 0).toNat = 61 ∨ (m.getD 1 0).toNat = 46 := by decide
theorem mk2 {v : ByteArray} (h2 : 2 ≤ v.size) (h : isM (v.extract 0 2).toList = true) : bt v 1 = 61 ∨ bt v 1 = 46 := by
  unfold isM at h
  obtain ⟨m, hm, he⟩ := List.any_eq_true.1 h
  rw [beq_iff_eq] at he
  have e : bt v 1 = (m.getD 1 0).toNat := by rw [← bt_zero_ext v 2 1 h2 (by omega), bt_toList, he]
  have hl : m.length = 2 := by rw [← he, ByteArray.toList_eq]; have := ext_size h2; simpa using this
  rw [e]; exact two_marks m hm hl
/-- the bytes that the first lexeme, or its error, takes -/
def ext (u : ByteArray) : Nat := if dg (bt u 0) = true then ldS dg u 0 else if lt (bt u 0) = true then ldS nm u 0 else if mkS u = 0 then 1 else mkS u
theorem ext_bd {u : ByteArray} (h0 : 0 < u.size) : 1 ≤ ext u ∧ ext u ≤ u.size := by
  unfold ext
  split
  · rename_i a
    obtain ⟨l1, l2, l3⟩ := lead_size h0 a
    omega
  · split
    · rename_i c
      obtain ⟨l1, l2, l3⟩ := lead_size (f := nm) h0 (by unfold nm; rw [c]; rfl)
      omega
    · split
      · omega
      · rename_i h
        unfold mkS at h ⊢
        split
        · rename_i g; omega
        · rename_i g
          rw [if_neg g] at h
          split
          · omega
          · rename_i g'; rw [if_neg g'] at h; omega
theorem stab {u v : ByteArray} (h0 : 0 < u.size) (hv : ext u ≤ v.size) (hb : ∀ i, i < ext u → bt v i = bt u i) (hc : Ends u v (ext u)) : frT v = frT u := by
  have hx := ext_bd h0
  have e0 : bt v 0 = bt u 0 := hb 0 (by omega)
  unfold frT
  rw [e0]
  unfold ext at hv hb hc hx
  by_cases a : dg (bt u 0) = true
  · rw [if_pos a] at hv hb hc hx
    rw [if_pos a, if_pos a, (stab_ld (f := dg) rfl rfl hv hb hc).2]
  · rw [if_neg a] at hv hb hc hx
    rw [if_neg a, if_neg a]
    by_cases c : lt (bt u 0) = true
    · rw [if_pos c] at hv hb hc hx
      rw [if_pos c, if_pos c, (stab_ld (f := nm) rfl rfl hv hb hc).2]
    · rw [if_neg c] at hv hb hc hx
      rw [if_neg c, if_neg c]
      have two : 2 ≤ u.size → 2 ≤ v.size → bt v 1 = bt u 1 → v.extract 0 2 = u.extract 0 2 := fun g1 g2 g3 => by
        have z1 := ext_size g2
        have z2 := ext_size g1
        refine bt_ext (by omega) fun i hi => ?_
        rw [z1] at hi
        rw [bt_zero_ext v _ i g2 hi, bt_zero_ext u _ i g1 hi]
        rcases (show i = 0 ∨ i = 1 by omega) with rfl | rfl
        · exact e0
        · exact g3
      have one : v.extract 0 1 = u.extract 0 1 := by
        have z1 := ext_size (u := v) (n := 1) (by omega)
        have z2 := ext_size (u := u) (n := 1) (by omega)
        refine bt_ext (by omega) fun i hi => ?_
        rw [z1] at hi
        rw [bt_zero_ext v _ i (by omega) hi, bt_zero_ext u _ i (by omega) hi]
        obtain rfl : i = 0 := by omega
        exact e0
      have hm : mkS v = mkS u := by
        unfold mkS at hv hb hc hx ⊢
        by_cases g : 2 ≤ u.size ∧ isM (u.extract 0 2).toList = true
        · rw [if_pos g] at hv hb hc hx
          simp only [show ¬ (2 = 0) by omega, if_false] at hv hb hc hx
          rw [if_pos g, if_pos ⟨hv, by rw [two g.1 hv (hb 1 (by omega))]; exact g.2⟩]
        · rw [if_neg g] at hv hb hc hx
          have hv1 : Ends u v 1 := by
            by_cases k : isM (u.extract 0 1).toList = true
            · rw [if_pos k] at hc; simpa using hc
            · rw [if_neg k] at hc; simpa using hc
          have g' : ¬ (2 ≤ v.size ∧ isM (v.extract 0 2).toList = true) := fun ⟨k1, k2⟩ => by
            rcases hv1 with h | h | h | ⟨h, h'⟩
            · omega
            · have := mk2 k1 k2; omega
            · have := mk2 k1 k2; omega
            · exact g ⟨h, by rw [← two h k1 h']; exact k2⟩
          rw [if_neg g, if_neg g', one]
      unfold mkT
      rw [hm]
      by_cases k : mkS u = 0
      · rw [if_pos k, if_pos k]
      · rw [if_neg k, if_neg k]
        rw [if_neg k] at hv hb hx
        have z1 := ext_size hv
        have z2 := ext_size hx.2
        rw [show v.extract 0 (mkS u) = u.extract 0 (mkS u) from bt_ext (by omega) fun i hi => by
          rw [z1] at hi
          rw [bt_zero_ext v _ i hv hi, bt_zero_ext u _ i hx.2 hi, hb i hi]]
/-- a lexeme takes its text -/
theorem ext_ok {u : ByteArray} (h0 : 0 < u.size) (he : (frT u).2.2.2 = 0) : (frT u).2.1.size = ext u := by
  unfold frT at he ⊢
  unfold ext
  by_cases a : dg (bt u 0) = true
  · rw [if_pos a] at he
    rw [if_pos a, if_pos a]
    unfold nuT at he ⊢
    by_cases b : numE (u.extract 0 (ldS dg u 0)) = 0
    · rw [if_pos b]; exact (lead_size h0 a).2.1
    · rw [if_neg b] at he; exact absurd he b
  · rw [if_neg a] at he
    rw [if_neg a, if_neg a]
    by_cases c : lt (bt u 0) = true
    · rw [if_pos c] at he
      rw [if_pos c, if_pos c]
      unfold naT at he ⊢
      by_cases b : 16 < (u.extract 0 (ldS nm u 0)).size
      · rw [if_pos b] at he; exact absurd he (by simp)
      · rw [if_neg b]; exact (lead_size (f := nm) h0 (by unfold nm; rw [c]; rfl)).2.1
    · rw [if_neg c] at he
      rw [if_neg c, if_neg c]
      unfold mkT at he ⊢
      by_cases b : mkS u = 0
      · rw [if_pos b] at he; exact absurd he (by simp)
      · rw [if_neg b, if_neg b]
        have hx := ext_bd h0
        unfold ext at hx
        rw [if_neg a, if_neg c, if_neg b] at hx
        exact ext_size hx.2
/-- the kinds of a lexeme and of an error -/
theorem frT_kind {u : ByteArray} (he : (frT u).2.2.2 = 0) : (frT u).1 ≠ 0 := by
  unfold frT at he ⊢
  split
  · rename_i a
    rw [if_pos a] at he
    unfold nuT at he ⊢
    split
    · simp
    · rename_i b; rw [if_neg b] at he; exact absurd he b
  · rename_i a
    rw [if_neg a] at he
    split
    · rename_i c
      rw [if_pos c] at he
      unfold naT at he ⊢
      split
      · rename_i b; rw [if_pos b] at he; exact absurd he (by simp)
      · simp
    · rename_i c
      rw [if_neg c] at he
      unfold mkT at he ⊢
      split
      · rename_i b; rw [if_pos b] at he; exact absurd he (by simp)
      · simp
theorem frT_err (u : ByteArray) : (frT u).2.2.2 = 0 ∨ (frT u).2.2.2 = 5 ∨ (frT u).2.2.2 = 6 ∨ (frT u).2.2.2 = 9 := by
  unfold frT
  split
  · unfold nuT
    split
    · exact .inl rfl
    · simp only
      unfold numE
      split
      · exact .inr (.inl rfl)
      · split
        · exact .inr (.inr (.inr rfl))
        · exact .inl rfl
  · split
    · unfold naT
      split
      · exact .inr (.inr (.inl rfl))
      · exact .inl rfl
    · unfold mkT
      split
      · exact .inr (.inl rfl)
      · exact .inl rfl
/-- the scan from a place on: lexemes, error, its place -/
inductive Run (s : ByteArray) : Nat → List LT → Nat → Nat → Prop
  | fin (p : Nat) : s.size = p → Run s p [⟨0, ⟨#[]⟩, 0, s.size⟩] 0 0
  | bad (p e : Nat) : p < s.size → (frT (rs s p)).2.2.2 = e → e ≠ 0 → Run s p [] e p
  | ok (p k : Nat) (t : ByteArray) (n q : Nat) (l : List LT) : p < s.size → frT (rs s p) = (k, t, n, 0) → 1 ≤ t.size → p + t.size ≤ s.size → skS s false (p + t.size) = q → Run s q l 0 0 → Run s p (⟨k, t, n, p⟩ :: l) 0 0
  | on (p k : Nat) (t : ByteArray) (n q e a : Nat) : p < s.size → frT (rs s p) = (k, t, n, 0) → 1 ≤ t.size → p + t.size ≤ s.size → skS s false (p + t.size) = q → e ≠ 0 → Run s q [] e a → Run s p [] e a
theorem run_bd {s : ByteArray} {p : Nat} {l : List LT} {e a : Nat} (h : Run s p l e a) : p ≤ s.size ∧ (e = 0 → a = 0 ∧ l ≠ []) ∧ (e ≠ 0 → l = [] ∧ p ≤ a ∧ a < s.size ∧ (frT (rs s a)).2.2.2 = e) := by
  induction h with
  | fin p h => exact ⟨by omega, fun _ => ⟨rfl, by simp⟩, fun h => absurd rfl h⟩
  | bad p e h1 h2 h3 => exact ⟨by omega, fun h => absurd h h3, fun _ => ⟨rfl, Nat.le_refl _, h1, h2⟩⟩
  | ok p k t n q l h1 h2 h3 h4 h5 h6 ih => exact ⟨by omega, fun _ => ⟨rfl, by simp⟩, fun h => absurd rfl h⟩
  | on p k t n q e a h1 h2 h3 h4 h5 h6 h7 ih =>
    have := skS_ge (s := s) false h4
    have g := ih.2.2 h6
    exact ⟨by omega, fun h => absurd h h6, fun _ => ⟨rfl, by omega, g.2.2⟩⟩
theorem run_of (s : ByteArray) : ∀ (m p : Nat), s.size - p = m → p ≤ s.size → ∃ l e a, Run s p l e a ∧ scS s p = (l, e, a) := by
  intro m
  induction m using Nat.strongRecOn with
  | _ m ih =>
    intro p hm hp
    by_cases h : p < s.size
    · by_cases he : (frT (rs s p)).2.2.2 = 0
      · obtain ⟨h1, h2, h3, h4, h5⟩ := next_gt h he
        obtain ⟨l, e, a, hr, hs⟩ := ih _ (by omega) (skS s false (p + (frT (rs s p)).2.1.size)) rfl h2
        have hf : frT (rs s p) = ((frT (rs s p)).1, (frT (rs s p)).2.1, (frT (rs s p)).2.2.1, 0) := by rw [← he]
        have g := scS_go [] h hf rfl
        rw [hs] at g
        have g0 : (scS s p) = if e = 0 then (⟨(frT (rs s p)).1, (frT (rs s p)).2.1, (frT (rs s p)).2.2.1, p⟩ :: l, 0, 0) else ([], e, a) := by
          have e2 := scF_fuel s (s.size - p - 1) (skS s false (p + (frT (rs s p)).2.1.size)) (by omega)
          show scF s (s.size - p) p = _
          rw [show s.size - p = (s.size - p - 1) + 1 by omega]
          show (if p < s.size then _ else _) = _
          rw [if_pos h, if_pos he, e2, hs]
        by_cases h0 : e = 0
        · subst h0
          have ha : a = 0 := ((run_bd hr).2.1 rfl).1
          subst ha
          rw [if_pos rfl] at g0
          exact ⟨_, _, _, .ok p _ _ _ _ l h hf h4 h3 rfl hr, g0⟩
        · rw [if_neg h0] at g0
          have hl : l = [] := ((run_bd hr).2.2 h0).1
          subst hl
          exact ⟨_, _, _, .on p _ _ _ _ e a h hf h4 h3 rfl h0 hr, g0⟩
      · exact ⟨_, _, _, .bad p _ h rfl he, scS_bad h he⟩
    · exact ⟨_, _, _, .fin p (by omega), scS_end h⟩
theorem scan_run {s : ByteArray} (hs : s.size ≤ 8000) : ∃ l e a, scan s = (l, e, a) ∧ Run s (skS s false 0) l e a := by
  obtain ⟨l, e, a, hr, h⟩ := run_of s _ (skS s false 0) rfl (skS_le false (Nat.zero_le _))
  refine ⟨l, e, a, ?_, hr⟩
  unfold scan
  rw [if_neg (by omega), h]
  unfold finS
  have hb := run_bd hr
  by_cases h0 : e = 0
  · rw [if_pos h0, h0, (hb.2.1 h0).1]; simp
  · rw [if_neg h0, (hb.2.2 h0).1]
theorem run_det {s : ByteArray} {p : Nat} {l : List LT} {e a : Nat} (h : Run s p l e a) : ∀ {l' e' a'}, Run s p l' e' a' → l = l' ∧ e = e' ∧ a = a' := by
  induction h with
  | fin p h => intro l' e' a' h'; cases h' <;> first | exact ⟨rfl, rfl, rfl⟩ | omega
  | bad p e h1 h2 h3 =>
    intro l' e' a' h'
    cases h' with
    | fin _ g => omega
    | bad _ _ g1 g2 g3 => exact ⟨rfl, by rw [← h2, ← g2], rfl⟩
    | ok _ _ _ _ _ _ g1 g2 => rw [g2] at h2; exact absurd h2.symm h3
    | on _ _ _ _ _ _ _ g1 g2 => rw [g2] at h2; exact absurd h2.symm h3
  | ok p k t n q l h1 h2 h3 h4 h5 h6 ih =>
    intro l' e' a' h'
    cases h' with
    | fin _ g => omega
    | bad _ _ g1 g2 g3 => rw [h2] at g2; exact absurd g2.symm g3
    | ok _ k' t' n' q' l' g1 g2 g3 g4 g5 g6 =>
      rw [h2] at g2; injection g2 with x1 x2; injection x2 with x2 x3; injection x3 with x3 x4
      subst x1 x2 x3
      rw [h5] at g5; subst g5
      obtain ⟨rfl, _, _⟩ := ih g6
      exact ⟨rfl, rfl, rfl⟩
    | on _ k' t' n' q' e' a' g1 g2 g3 g4 g5 g6 g7 =>
      rw [h2] at g2; injection g2 with x1 x2; injection x2 with x2 x3; injection x3 with x3 x4
      subst x1 x2 x3
      rw [h5] at g5; subst g5
      exact absurd (ih g7).2.1.symm g6
  | on p k t n q e a h1 h2 h3 h4 h5 h6 h7 ih =>
    intro l' e' a' h'
    cases h' with
    | fin _ g => omega
    | bad _ _ g1 g2 g3 => rw [h2] at g2; exact absurd g2.symm g3
    | ok _ k' t' n' q' l' g1 g2 g3 g4 g5 g6 =>
      rw [h2] at g2; injection g2 with x1 x2; injection x2 with x2 x3; injection x3 with x3 x4
      subst x1 x2 x3
      rw [h5] at g5; subst g5
      exact absurd (ih g6).2.1 h6
    | on _ k' t' n' q' e' a' g1 g2 g3 g4 g5 g6 g7 =>
      rw [h2] at g2; injection g2 with x1 x2; injection x2 with x2 x3; injection x3 with x3 x4
      subst x1 x2 x3
      rw [h5] at g5; subst g5
      obtain ⟨_, rfl, rfl⟩ := ih g7
      exact ⟨rfl, rfl, rfl⟩
theorem run_scan {s : ByteArray} (hs : s.size ≤ 8000) {l : List LT} {e a : Nat} (h : Run s (skS s false 0) l e a) : scan s = (l, e, a) := by
  obtain ⟨l', e', a', h1, h2⟩ := scan_run hs
  obtain ⟨rfl, rfl, rfl⟩ := run_det h h2
  exact h1
/-- gaps in two texts with the same first bytes -/
theorem skS_pre {s z : ByteArray} {L : Nat} (hL : L ≤ s.size) (hz : L ≤ z.size) (hb : ∀ i, i < L → bt z i = bt s i) : ∀ (n p : Nat) (r : Bool), L - p = n → p ≤ L → (skS s r p < L ∧ skS z r p = skS s r p) ∨ (L ≤ skS s r p ∧ ∃ r', skS z r p = skS z r' L)
  | 0, p, r, hn, hp => by
    obtain rfl : p = L := by omega
    exact .inr ⟨skS_ge r hL, r, rfl⟩
  | n + 1, p, r, hn, hp => by
    rw [skS_step (s := s) (by omega), skS_step (s := z) (by omega), hb p (by omega)]
    split
    · exact skS_pre hL hz hb n (p + 1) false (by omega) (by omega)
    · split
      · exact skS_pre hL hz hb n (p + 1) r (by omega) (by omega)
      · split
        · exact skS_pre hL hz hb n (p + 1) true (by omega) (by omega)
        · exact .inl ⟨by omega, rfl⟩
/-- where a gap ends, the text ends or stands a byte of a lexeme -/
theorem skS_lex {s : ByteArray} : ∀ (n p : Nat) (r : Bool), s.size - p = n → p ≤ s.size → skS s r p = s.size ∨ (bt s (skS s r p) ≠ 10 ∧ bt s (skS s r p) ≠ 32 ∧ bt s (skS s r p) ≠ 35)
  | 0, p, r, hn, hp => by rw [skS_end (by omega)]; left; omega
  | n + 1, p, r, hn, hp => by
    rw [skS_step (s := s) (by omega)]
    split
    · exact skS_lex n (p + 1) false (by omega) (by omega)
    · split
      · exact skS_lex n (p + 1) r (by omega) (by omega)
      · split
        · exact skS_lex n (p + 1) true (by omega) (by omega)
        · rename_i h1 h2 h3
          exact .inr ⟨h1, fun h => h2 (.inr h), h3⟩
theorem skS_here {s : ByteArray} {p : Nat} (h : p = s.size ∨ (bt s p ≠ 10 ∧ bt s p ≠ 32 ∧ bt s p ≠ 35)) : skS s false p = p := by
  by_cases hp : p < s.size
  · rcases h with h | ⟨h1, h2, h3⟩
    · omega
    · exact skS_stop hp h1 h2 h3
  · exact skS_end hp
end Go.Proofs.YtlnfoknghfoffaaDoor
