/- The mathematics of LexerErrors, LexerJoins, LexerAgain, LexerOffsets (no walk). -/
import Derived.Test.YtlnfoknghfoffaaDoorStab
import Derived.Test.YtlnfoknghfoffaaDoorPrint
set_option linter.unusedVariables false
set_option linter.unusedSimpArgs false
namespace Go.Proofs.YtlnfoknghfoffaaDoor
open Go.RowKit Lm

theorem rs_rs (s : ByteArray) (p q : Nat) : rs (rs s p) q = rs s (p + q) := by
  refine bt_ext (by rw [rs_size, rs_size, rs_size]; omega) fun i hi => ?_
  rw [bt_rs, bt_rs, bt_rs, Nat.add_assoc]
/-! errors -/
theorem cut_run {s : ByteArray} {p : Nat} {l : List LT} {e a : Nat} (h : Run s p l e a) (he : e ≠ 0) : ∃ l', Run (s.extract 0 a) p l' 0 0 := by
  induction h with
  | fin p h => exact absurd rfl he
  | bad p e h1 h2 h3 => exact ⟨_, .fin p (ext_size (by omega))⟩
  | ok p k t n q l h1 h2 h3 h4 h5 h6 ih => exact absurd rfl he
  | on p k t n q e a h1 h2 h3 h4 h5 h6 h7 ih =>
    obtain ⟨l', hl⟩ := ih he
    have hq := ((run_bd h7).2.2 he).2
    have hge := skS_ge (s := s) false h4
    have hz : (s.extract 0 a).size = a := ext_size (by omega)
    have hb : ∀ i, i < a → bt (s.extract 0 a) i = bt s i := fun i hi => bt_zero_ext s a i (by omega) hi
    have hx := ext_ok (u := rs s p) (by rw [rs_size]; omega) (by rw [h2])
    rw [h2] at hx
    have hf : frT (rs (s.extract 0 a) p) = frT (rs s p) := by
      refine stab (by rw [rs_size]; omega) (by rw [← hx, rs_size, hz]; simp only; omega) (fun i hi => ?_) ?_
      · rw [← hx] at hi; simp only at hi
        rw [bt_rs, bt_rs, hb _ (by omega)]
      · rw [← hx]; simp only
        by_cases g : p + t.size = a
        · left; rw [rs_size, hz]; omega
        · right; right; right
          exact ⟨by rw [rs_size]; omega, by rw [bt_rs, bt_rs, hb _ (by omega)]⟩
    refine ⟨_, .ok p k t n q l' (by omega) (by rw [hf, h2]) h3 (by omega) ?_ hl⟩
    rcases skS_pre (s := s) (z := s.extract 0 a) (L := a) (by omega) (by omega) hb _ (p + t.size) false rfl (by omega) with ⟨g1, g2⟩ | ⟨g1, r', g2⟩
    · rw [g2, h5]
    · rw [g2, skS_end (by omega)]; omega
theorem run_gap {s : ByteArray} {p : Nat} {l : List LT} {e a : Nat} (h : Run s p l e a) (he : e ≠ 0) : skS s false p = p → skS s false a = a := by
  induction h with
  | fin p h => exact absurd rfl he
  | bad p e h1 h2 h3 => exact id
  | ok p k t n q l h1 h2 h3 h4 h5 h6 ih => exact absurd rfl he
  | on p k t n q e a h1 h2 h3 h4 h5 h6 h7 ih =>
    intro _
    refine ih he ?_
    rw [← h5]
    exact skS_here (skS_lex _ _ false rfl h4)
theorem scan_err {s : ByteArray} (hs : s.size ≤ 8000) {l : List LT} {e a : Nat} (h : scan s = (l, e, a)) (he : e ≠ 0) : l = [] ∧ a < s.size ∧ (e = 5 ∨ e = 6 ∨ e = 9) ∧ (∃ l', scan (s.extract 0 a) = (l', 0, 0)) ∧ scan (rs s a) = ([], e, 0) := by
  obtain ⟨l', e', a', h1, h2⟩ := scan_run hs
  rw [h] at h1
  injection h1 with x1 x2
  injection x2 with x2 x3
  subst x1 x2 x3
  obtain ⟨g1, g2, g3, g4⟩ := (run_bd h2).2.2 he
  have hz : (s.extract 0 a).size = a := ext_size (by omega)
  refine ⟨g1, g3, ?_, ?_, ?_⟩
  · rcases frT_err (rs s a) with k | k | k | k <;> omega
  · obtain ⟨l', hl⟩ := cut_run h2 he
    refine ⟨l', run_scan (by omega) ?_⟩
    have hb : ∀ i, i < a → bt (s.extract 0 a) i = bt s i := fun i hi => bt_zero_ext s a i (by omega) hi
    rcases skS_pre (s := s) (z := s.extract 0 a) (L := a) (by omega) (by omega) hb _ 0 false rfl (Nat.zero_le _) with ⟨k1, k2⟩ | ⟨k1, r', k2⟩
    · rw [k2]; exact hl
    · rw [k2, skS_end (by omega)]
      have : skS s false 0 = a := by omega
      rw [this] at hl; exact hl
  · have hg := run_gap h2 he (skS_here (skS_lex _ _ false rfl (Nat.zero_le _)))
    have h0 : skS (rs s a) false 0 = 0 := by have := skS_rs (s := s) a (by omega) _ false 0 rfl; rw [Nat.add_zero, hg] at this; omega
    refine run_scan (by rw [rs_size]; omega) ?_
    rw [h0]
    exact .bad 0 e (by rw [rs_size]; omega) (by rw [rs_zero]; exact g4) he
theorem scan_ok {s : ByteArray} (hs : s.size ≤ 8000) {l : List LT} {a : Nat} (h : scan s = (l, 0, a)) : a = 0 ∧ l ≠ [] ∧ Run s (skS s false 0) l 0 0 := by
  obtain ⟨l', e', a', h1, h2⟩ := scan_run hs
  rw [h] at h1
  injection h1 with x1 x2
  injection x2 with x2 x3
  subst x1 x2 x3
  have hb := (run_bd h2).2.1 rfl
  obtain ⟨rfl, hl⟩ := hb
  exact ⟨rfl, hl, h2⟩
/-! two texts with a line feed between them -/
def shf (q : Nat) (x : LT) : LT := ⟨x.k, x.t, x.n, x.a + q⟩
theorem run_shift {z : ByteArray} {q : Nat} (hq : q ≤ z.size) {u : ByteArray} (hu : u = rs z q) {p : Nat} {l : List LT} {e a : Nat} (h : Run u p l e a) : Run z (q + p) (l.map (shf q)) e (if e = 0 then 0 else a + q) := by
  have hz : u.size = z.size - q := by rw [hu, rs_size]
  induction h with
  | fin p h =>
    have := Run.fin (s := z) (q + p) (by omega)
    have e1 : ([⟨0, ⟨#[]⟩, 0, u.size⟩] : List LT).map (shf q) = [⟨0, ⟨#[]⟩, 0, z.size⟩] := by
      simp only [List.map_cons, List.map_nil, shf]
      rw [show ((u.size : Nat) : Int) + (q : Int) = ((z.size : Nat) : Int) by omega]
    rw [e1]; exact this
  | bad p e h1 h2 h3 =>
    rw [if_neg h3, Nat.add_comm p q]
    exact .bad _ e (by omega) (by rw [← h2, hu, rs_rs]) h3
  | ok p k t n q' l h1 h2 h3 h4 h5 h6 ih =>
    rw [if_pos rfl] at ih ⊢
    have e1 : (⟨k, t, n, p⟩ :: l : List LT).map (shf q) = ⟨k, t, n, ((q + p : Nat) : Int)⟩ :: l.map (shf q) := by
      simp only [List.map_cons, shf]
      rw [show ((p : Nat) : Int) + (q : Int) = ((q + p : Nat) : Int) by omega]
    rw [e1]
    refine .ok _ k t n (q + q') _ (by omega) (by rw [← h2, hu, rs_rs]) h3 (by omega) ?_ ih
    rw [← h5, hu, skS_rs q hq _ false (p + t.size) rfl, Nat.add_assoc]
  | on p k t n q' e a h1 h2 h3 h4 h5 h6 h7 ih =>
    rw [if_neg h6] at ih ⊢
    refine .on _ k t n (q + q') e _ (by omega) (by rw [← h2, hu, rs_rs]) h3 (by omega) ?_ h6 ih
    rw [← h5, hu, skS_rs q hq _ false (p + t.size) rfl, Nat.add_assoc]
theorem join_run {s z : ByteArray} (hz : s.size < z.size) (hb : ∀ i, i < s.size → bt z i = bt s i) (hn : bt z s.size = 10) {m : List LT} {f b : Nat} (hm : Run z (skS z false (s.size + 1)) m f b) {p : Nat} {l : List LT} {e a : Nat} (h : Run s p l e a) :
    ∀ (p0 : Nat) (r : Bool), skS s r p0 = p → p0 ≤ s.size → if e = 0 then Run z (skS z r p0) (if f = 0 then l.dropLast ++ m else []) f b else Run z (skS z r p0) [] e a := by
  have hfm : f ≠ 0 → m = [] := fun g => ((run_bd hm).2.2 g).1
  have nl : ∀ r', skS z r' s.size = skS z false (s.size + 1) := fun r' => skS_nl hz hn
  have go : ∀ (p k : Nat) (t : ByteArray) (n : Nat), p < s.size → frT (rs s p) = (k, t, n, 0) → p + t.size ≤ s.size → frT (rs z p) = (k, t, n, 0) := fun p k t n h1 h2 h4 => by
    have hx := ext_ok (u := rs s p) (by rw [rs_size]; omega) (by rw [h2])
    rw [h2] at hx
    rw [← h2]
    refine stab (by rw [rs_size]; omega) (by rw [← hx, rs_size]; simp only; omega) (fun i hi => ?_) ?_
    · rw [← hx] at hi; simp only at hi
      rw [bt_rs, bt_rs, hb _ (by omega)]
    · rw [← hx]; simp only
      by_cases g : p + t.size = s.size
      · right; left; rw [bt_rs, g]; exact hn
      · right; right; right
        exact ⟨by rw [rs_size]; omega, by rw [bt_rs, bt_rs, hb _ (by omega)]⟩
  have at_ : ∀ (p p0 : Nat) (r : Bool), p < s.size → skS s r p0 = p → p0 ≤ s.size → skS z r p0 = p := fun p p0 r h1 h2 h3 => by
    rcases skS_pre (s := s) (z := z) (L := s.size) (Nat.le_refl _) (by omega) hb _ p0 r rfl h3 with ⟨g1, g2⟩ | ⟨g1, r', g2⟩
    · rw [g2, h2]
    · omega
  induction h with
  | fin p h =>
    intro p0 r h0 hp
    rw [if_pos rfl]
    have e1 : skS z r p0 = skS z false (s.size + 1) := by
      rcases skS_pre (s := s) (z := z) (L := s.size) (Nat.le_refl _) (by omega) hb _ p0 r rfl hp with ⟨g1, g2⟩ | ⟨g1, r', g2⟩
      · omega
      · rw [g2, nl]
    rw [e1]
    by_cases g : f = 0
    · rw [if_pos g]; simpa using hm
    · rw [if_neg g]; rw [hfm g] at hm; exact hm
  | bad p e h1 h2 h3 =>
    intro p0 r h0 hp
    rw [if_neg h3, at_ p p0 r h1 h0 hp]
    refine .bad p e (by omega) ?_ h3
    have hx := ext_bd (u := rs s p) (by rw [rs_size]; omega)
    rw [rs_size] at hx
    rw [← h2, stab (u := rs s p) (v := rs z p) (by rw [rs_size]; omega) (by rw [rs_size]; omega) (fun i hi => by rw [bt_rs, bt_rs, hb _ (by omega)]) ?_]
    by_cases g : p + ext (rs s p) = s.size
    · right; left; rw [bt_rs, g]; exact hn
    · right; right; right
      exact ⟨by rw [rs_size]; omega, by rw [bt_rs, bt_rs, hb _ (by omega)]⟩
  | ok p k t n q l h1 h2 h3 h4 h5 h6 ih =>
    intro p0 r h0 hp
    have g := ih (p + t.size) false h5 h4
    rw [if_pos rfl] at g ⊢
    rw [at_ p p0 r h1 h0 hp]
    have hl : l ≠ [] := ((run_bd h6).2.1 rfl).2
    by_cases k0 : f = 0
    · subst k0
      rw [if_pos rfl] at g ⊢
      have hb0 : b = 0 := ((run_bd hm).2.1 rfl).1
      subst hb0
      rw [List.dropLast_cons_of_ne_nil hl, List.cons_append]
      exact .ok p k t n _ _ (by omega) (go p k t n h1 h2 h4) h3 (by omega) rfl g
    · rw [if_neg k0] at g ⊢
      exact .on p k t n _ f b (by omega) (go p k t n h1 h2 h4) h3 (by omega) rfl k0 g
  | on p k t n q e a h1 h2 h3 h4 h5 h6 h7 ih =>
    intro p0 r h0 hp
    have g := ih (p + t.size) false h5 h4
    rw [if_neg h6] at g ⊢
    rw [at_ p p0 r h1 h0 hp]
    exact .on p k t n _ e a (by omega) (go p k t n h1 h2 h4) h3 (by omega) rfl h6 g
/-- the scan of two texts with a line feed between them -/
theorem scan_join {s t z : ByteArray} (hz : z.size = s.size + 1 + t.size) (h8 : z.size ≤ 8000) (hb : ∀ i, i < s.size → bt z i = bt s i) (hn : bt z s.size = 10) (ht : ∀ i, i < t.size → bt z (s.size + 1 + i) = bt t i) {a b : List LT} {e f p q : Nat} (h1 : scan s = (a, e, p)) (h2 : scan t = (b, f, q)) :
    (e ≠ 0 → scan z = ([], e, p)) ∧ (e = 0 → f ≠ 0 → scan z = ([], f, q + s.size + 1)) ∧ (e = 0 → f = 0 → scan z = (a.dropLast ++ b.map (shf (s.size + 1)), 0, 0)) := by
  obtain ⟨a', e', p', g1, r1⟩ := scan_run (s := s) (by omega)
  obtain ⟨b', f', q', g2, r2⟩ := scan_run (s := t) (by omega)
  rw [h1] at g1
  rw [h2] at g2
  injection g1 with x1 x2; injection x2 with x2 x3
  injection g2 with y1 y2; injection y2 with y2 y3
  subst x1 x2 x3 y1 y2 y3
  have et : t = rs z (s.size + 1) := by
    refine bt_ext (by rw [rs_size]; omega) fun i hi => ?_
    rw [bt_rs, ht i hi]
  have hm := run_shift (z := z) (q := s.size + 1) (by omega) et r2
  have hg : s.size + 1 + skS t false 0 = skS z false (s.size + 1) := by rw [et]; exact skS_rs _ (by omega) _ false 0 rfl
  rw [hg] at hm
  have h := join_run (s := s) (z := z) (by omega) hb hn hm r1 0 false rfl (Nat.zero_le _)
  refine ⟨fun h0 => ?_, fun h0 k0 => ?_, fun h0 k0 => ?_⟩
  · rw [if_neg h0] at h; exact run_scan h8 h
  · rw [if_pos h0, if_neg k0, if_neg k0] at h
    rw [Nat.add_assoc]
    exact run_scan h8 h
  · rw [if_pos h0, if_pos k0, if_pos k0, k0] at h
    exact run_scan h8 h
/-! the printed text -/
def Good (x : LT) : Prop := ∃ k n : Nat, x.k = k ∧ x.n = n ∧ k ≠ 0 ∧ 1 ≤ x.t.size ∧ frT x.t = (k, x.t, n, 0)
theorem run_good {s : ByteArray} {p : Nat} {l : List LT} {e a : Nat} (h : Run s p l e a) : e = 0 → ∃ l0, l = l0 ++ [⟨0, ⟨#[]⟩, 0, s.size⟩] ∧ (∀ x ∈ l0, Good x) ∧ (l0.map (fun x => x.t.size)).sum + p ≤ s.size := by
  induction h with
  | fin p h => exact fun _ => ⟨[], rfl, fun x hx => (by simp at hx), by simp; omega⟩
  | bad p e h1 h2 h3 => exact fun g => absurd g h3
  | ok p k t n q l h1 h2 h3 h4 h5 h6 ih =>
    intro _
    obtain ⟨l0, rfl, hg, hs⟩ := ih rfl
    have hq := skS_ge (s := s) false h4
    rw [h5] at hq
    refine ⟨⟨k, t, n, p⟩ :: l0, rfl, fun x hx => ?_, ?_⟩
    · rcases List.mem_cons.1 hx with rfl | hx
      · refine ⟨k, n, rfl, rfl, ?_, h3, ?_⟩
        · have := frT_kind (u := rs s p) (by rw [h2]); rw [h2] at this; exact this
        · obtain ⟨f1, f2, f3⟩ := frT_ok (u := rs s p) (by rw [rs_size]; omega) h2 rfl
          have hx := ext_ok (u := rs s p) (by rw [rs_size]; omega) (by rw [h2])
          rw [h2] at hx; simp only at hx
          rw [← h2]
          refine stab (u := rs s p) (v := t) (by rw [rs_size]; omega) (Nat.le_of_eq hx.symm) (fun i hi => ?_) (.inl hx)
          rw [← hx] at hi
          have f4 := bt_zero_ext (rs s p) t.size i (by omega) (by omega)
          rw [← f1] at f4
          exact f4
      · exact hg x hx
    · simp only [List.map_cons, List.sum_cons]; omega
  | on p k t n q e a h1 h2 h3 h4 h5 h6 h7 ih => exact fun g => absurd g h6
theorem one_mark : ∀ m ∈ marksL, 1 ≤ m.length → (m.getD 0 0).toNat ≠ 10 ∧ (m.getD 0 0).toNat ≠ 32 ∧ (m.getD 0 0).toNat ≠ 35 := by decide
theorem good_byte {u : ByteArray} (h0 : 0 < u.size) (he : (frT u).2.2.2 = 0) : bt u 0 ≠ 10 ∧ bt u 0 ≠ 32 ∧ bt u 0 ≠ 35 := by
  unfold frT at he
  by_cases a : dg (bt u 0) = true
  · unfold dg at a; have := of_decide_eq_true a; omega
  · rw [if_neg a] at he
    by_cases c : lt (bt u 0) = true
    · unfold lt at c; have := of_decide_eq_true c; omega
    · rw [if_neg c] at he
      unfold mkT at he
      by_cases b : mkS u = 0
      · rw [if_pos b] at he; exact absurd he (by simp)
      · have key : ∀ n, 1 ≤ n → n ≤ u.size → isM (u.extract 0 n).toList = true → bt u 0 ≠ 10 ∧ bt u 0 ≠ 32 ∧ bt u 0 ≠ 35 := fun n h1 h2 h => by
          unfold isM at h
          obtain ⟨m, hm, hh⟩ := List.any_eq_true.1 h
          rw [beq_iff_eq] at hh
          have e : bt u 0 = (m.getD 0 0).toNat := by rw [← bt_zero_ext u n 0 h2 (by omega), bt_toList, hh]
          have hl : m.length = n := by rw [← hh, ByteArray.toList_eq]; have := ext_size h2; simpa using this
          rw [e]; exact one_mark m hm (by omega)
        unfold mkS at b
        by_cases g : 2 ≤ u.size ∧ isM (u.extract 0 2).toList = true
        · exact key 2 (by omega) g.1 g.2
        · rw [if_neg g] at b
          by_cases g2 : isM (u.extract 0 1).toList = true
          · exact key 1 (by omega) (by omega) g2
          · rw [if_neg g2] at b; exact absurd rfl b
def tr (x : LT) : Int × ByteArray × Int := (x.k, x.t, x.n)
theorem bt_list (z : ByteArray) (i : Nat) : bt z i = (z.data.toList.getD i 0).toNat := rfl
theorem join_one (x : List UInt8) : Lib.join [x] [32] = x := by simp [Lib.join, List.intercalate]
theorem join_two (x y : List UInt8) (l : List (List UInt8)) : Lib.join (x :: y :: l) [32] = x ++ 32 :: Lib.join (y :: l) [32] := by simp [Lib.join, List.intercalate]
theorem size_list (z : ByteArray) : z.size = z.data.toList.length := by simp
theorem again_run : ∀ (l0 : List LT), (∀ x ∈ l0, Good x) → ∀ z : ByteArray, z.data.toList = Lib.join (l0.map (·.t.data.toList)) [32] → ∃ m, Run z 0 (m ++ [⟨0, ⟨#[]⟩, 0, z.size⟩]) 0 0 ∧ m.map tr = l0.map tr ∧ skS z false 0 = 0
  | [], hg, z, hz => by
    have h0 : z.size = 0 := by rw [size_list, hz]; rfl
    exact ⟨[], .fin 0 h0, rfl, skS_end (by omega)⟩
  | [x], hg, z, hz => by
    obtain ⟨k, n, e1, e2, e3, e4, e5⟩ := hg x (by simp)
    obtain ⟨xk, xt, xn, xa⟩ := x
    simp only at e1 e2 e4 e5
    subst e1 e2
    simp only [List.map_cons, List.map_nil] at hz
    rw [join_one] at hz
    obtain rfl : z = xt := by apply ByteArray.ext; apply Array.toList_inj.1; exact hz
    have hb := good_byte (u := z) (by omega) (by rw [e5])
    refine ⟨[⟨k, z, n, (0 : Nat)⟩], ?_, rfl, skS_stop (s := z) (p := 0) (by omega) hb.1 hb.2.1 hb.2.2⟩
    exact .ok 0 k z n z.size _ (by omega) (by rw [rs_zero]; exact e5) e4 (by omega) (by rw [Nat.zero_add]; exact skS_end (by omega)) (.fin _ rfl)
  | x :: y :: l, hg, z, hz => by
    obtain ⟨k, n, e1, e2, e3, e4, e5⟩ := hg x (by simp)
    obtain ⟨xk, xt, xn, xa⟩ := x
    simp only at e1 e2 e4 e5
    subst e1 e2
    simp only [List.map_cons] at hz
    rw [join_two] at hz
    have hzs : z.size = xt.size + 1 + (Lib.join (y.t.data.toList :: l.map (·.t.data.toList)) [32]).length := by
      rw [size_list, hz, List.length_append, List.length_cons, ← size_list]; omega
    obtain ⟨z', hz'⟩ : ∃ z' : ByteArray, z'.data.toList = Lib.join (y.t.data.toList :: l.map (·.t.data.toList)) [32] := ⟨⟨(Lib.join (y.t.data.toList :: l.map (·.t.data.toList)) [32]).toArray⟩, by simp⟩
    have hs' : z.size = xt.size + 1 + z'.size := by rw [hzs, size_list z', hz']
    obtain ⟨m, hr, hm, h0⟩ := again_run (y :: l) (fun v hv => hg v (by simp at hv ⊢; exact .inr hv)) z' (by simpa using hz')
    have b1 : ∀ i, i < xt.size → bt z i = bt xt i := fun i hi => by
      rw [bt_list, bt_list, hz, List.getD_eq_getElem?_getD, List.getD_eq_getElem?_getD, List.getElem?_append_left (by rw [← size_list]; exact hi)]
    have b2 : bt z xt.size = 32 := by
      rw [bt_list, hz, List.getD_eq_getElem?_getD, List.getElem?_append_right (by rw [← size_list]; omega), ← size_list, Nat.sub_self]; rfl
    have b3 : z' = rs z (xt.size + 1) := by
      refine bt_ext (by rw [rs_size]; omega) fun i hi => ?_
      rw [bt_rs, bt_list, bt_list z, hz', hz, List.getD_eq_getElem?_getD, List.getD_eq_getElem?_getD, List.getElem?_append_right (by rw [← size_list]; omega), ← size_list, show xt.size + 1 + i - xt.size = i + 1 by omega, List.getElem?_cons_succ]
    have hb := good_byte (u := xt) (by omega) (by rw [e5])
    have hx := ext_ok (u := xt) (by omega) (by rw [e5])
    rw [e5] at hx; simp only at hx
    have hf : frT (rs z 0) = (k, xt, n, 0) := by
      rw [rs_zero, ← e5]
      refine stab (by omega) (by omega) (fun i hi => b1 i (by omega)) (.inr (.inr (.inl ?_)))
      rw [← hx]; exact b2
    have hq : skS z false (0 + xt.size) = xt.size + 1 + 0 := by
      rw [Nat.zero_add, skS_sp (by omega) b2]
      have := skS_rs (s := z) (xt.size + 1) (by omega) _ false 0 rfl
      rw [← b3, h0, Nat.add_zero] at this
      omega
    have hr' := run_shift (z := z) (q := xt.size + 1) (by omega) b3 hr
    rw [if_pos rfl, List.map_append] at hr'
    have hend : ([⟨0, ⟨#[]⟩, 0, z'.size⟩] : List LT).map (shf (xt.size + 1)) = [⟨0, ⟨#[]⟩, 0, z.size⟩] := by
      simp only [List.map_cons, List.map_nil, shf]
      rw [show ((z'.size : Nat) : Int) + ((xt.size + 1 : Nat) : Int) = ((z.size : Nat) : Int) by omega]
    rw [hend] at hr'
    refine ⟨⟨k, xt, n, (0 : Nat)⟩ :: m.map (shf (xt.size + 1)), ?_, ?_, skS_stop (s := z) (p := 0) (by omega) (by rw [b1 0 (by omega)]; exact hb.1) (by rw [b1 0 (by omega)]; exact hb.2.1) (by rw [b1 0 (by omega)]; exact hb.2.2)⟩
    · exact .ok 0 k xt n _ _ (by omega) hf e4 (by omega) hq hr'
    · simp only [List.map_cons, List.map_map]
      rw [show (tr ∘ shf (xt.size + 1)) = tr from rfl, hm]
      rfl
theorem txL_end {l0 : List LT} (h : ∀ x ∈ l0, x.k ≠ 0) (a : Int) : txL (l0 ++ [⟨0, ⟨#[]⟩, 0, a⟩]) = l0.map (·.t) := by
  unfold txL
  rw [List.flatMap_append]
  have : ∀ l0 : List LT, (∀ x ∈ l0, x.k ≠ 0) → l0.flatMap (fun x => if x.k = 0 then [] else [x.t]) = l0.map (·.t) := by
    intro l0
    induction l0 with
    | nil => intro _; rfl
    | cons x l ih =>
      intro h
      rw [List.flatMap_cons, if_neg (h x (by simp)), ih (fun y hy => h y (by simp [hy]))]
      rfl
  rw [this l0 h]
  simp
theorem join_len : ∀ l : List (List UInt8), (Lib.join l [32]).length ≤ (l.map List.length).sum + l.length
  | [] => by simp [Lib.join, List.intercalate]
  | [x] => by rw [join_one]; simp
  | x :: y :: l => by
    have := join_len (y :: l)
    rw [join_two, List.length_append, List.length_cons]
    simp only [List.map_cons, List.sum_cons, List.length_cons] at this ⊢
    omega
theorem sum_ge : ∀ l : List LT, (∀ x ∈ l, Good x) → l.length ≤ (l.map (fun x => x.t.size)).sum
  | [], _ => by simp
  | x :: l, h => by
    have := sum_ge l (fun y hy => h y (by simp [hy]))
    obtain ⟨_, _, _, _, _, g, _⟩ := h x (by simp)
    simp only [List.map_cons, List.sum_cons, List.length_cons]
    omega
/-- the printed text is read as the same lexemes -/
theorem scan_again {s : ByteArray} (hs : s.size ≤ 3000) {l : List LT} {a : Nat} (h : scan s = (l, 0, a)) : (Lib.join ((txL l).map (·.data.toList)) [32]).length ≤ 6000 ∧ l.length ≤ 3001 ∧ (prS l).size ≤ 6000 ∧ ∃ m, scan (prS l) = (m, 0, 0) ∧ likeL l m ∧ txL m = txL l ∧ m.length = l.length := by
  obtain ⟨rfl, _, hr⟩ := scan_ok (by omega) h
  obtain ⟨l0, rfl, hg, hsum⟩ := run_good hr rfl
  have hk : ∀ x ∈ l0, x.k ≠ 0 := fun x hx => by obtain ⟨k, _, e1, _, e3, _⟩ := hg x hx; rw [e1]; omega
  have ht := txL_end hk (s.size : Nat)
  have hlen := sum_ge l0 hg
  have hm : ((txL (l0 ++ [⟨0, ⟨#[]⟩, 0, s.size⟩])).map (·.data.toList)) = l0.map (·.t.data.toList) := by rw [ht, List.map_map]; rfl
  have hj := join_len (l0.map (·.t.data.toList))
  rw [List.map_map, List.length_map] at hj
  have hsame : (l0.map (List.length ∘ fun x => x.t.data.toList)) = l0.map (fun x => x.t.size) := List.map_congr_left fun x _ => by simp
  rw [hsame] at hj
  have hz : (prS (l0 ++ [⟨0, ⟨#[]⟩, 0, s.size⟩])).data.toList = Lib.join (l0.map (·.t.data.toList)) [32] := by unfold prS; rw [hm]
  have hzs : (prS (l0 ++ [⟨0, ⟨#[]⟩, 0, s.size⟩])).size ≤ 6000 := by rw [size_list, hz]; omega
  obtain ⟨m, hr2, hm2, h0⟩ := again_run l0 hg _ hz
  refine ⟨by rw [hm]; omega, by rw [List.length_append, List.length_singleton]; omega, hzs, m ++ [⟨0, ⟨#[]⟩, 0, (prS (l0 ++ [⟨0, ⟨#[]⟩, 0, s.size⟩])).size⟩], run_scan (by omega) (by rw [h0]; exact hr2), ?_, ?_, ?_⟩
  · have hl : m.length = l0.length := by have := congrArg List.length hm2; simpa using this
    refine ⟨by rw [List.length_append, List.length_append, hl]; rfl, fun i x y hx hy => ?_⟩
    by_cases hi : i < l0.length
    · rw [List.getElem?_append_left hi] at hx
      rw [List.getElem?_append_left (by omega)] at hy
      have e := congrArg (fun l => l[i]?) hm2
      simp only [List.getElem?_map, hx, hy, Option.map_some, Option.some.injEq, tr, Prod.mk.injEq] at e
      exact ⟨e.1.symm, e.2.1.symm, e.2.2.symm⟩
    · rw [List.getElem?_append_right (by omega)] at hx
      rw [List.getElem?_append_right (by omega), hl] at hy
      rcases Nat.eq_zero_or_pos (i - l0.length) with g | g
      · rw [g] at hx hy
        simp at hx hy
        subst hx hy
        exact ⟨rfl, rfl, rfl⟩
      · obtain ⟨j, hj⟩ : ∃ j, i - l0.length = j + 1 := ⟨i - l0.length - 1, by omega⟩
        rw [hj] at hx; simp at hx
  · have hk2 : ∀ x ∈ m, x.k ≠ 0 := fun x hx => by
      have : tr x ∈ m.map tr := List.mem_map_of_mem hx
      rw [hm2] at this
      obtain ⟨y, hy, e⟩ := List.mem_map.1 this
      have e1 : y.k = x.k := congrArg (fun v => v.1) e
      rw [← e1]; exact hk y hy
    rw [txL_end hk2, ht]
    have e := congrArg (fun l => l.map (fun v : Int × ByteArray × Int => v.2.1)) hm2
    simp only [List.map_map] at e
    exact e
  · have hl : m.length = l0.length := by have := congrArg List.length hm2; simpa using this
    rw [List.length_append, List.length_append, hl]; rfl
/-! offsets -/
/-- the lexemes stand one behind the other, with gaps between -/
def offP (s : ByteArray) : Nat → List LT → Prop
  | p, [] => p = s.size
  | p, x :: l => ∃ (k n a : Nat), x.k = k ∧ x.n = n ∧ x.a = a ∧ p ≤ a ∧ a + x.t.size ≤ s.size ∧ s.extract a (a + x.t.size) = x.t ∧ skS (s.extract p a) false 0 = a - p ∧ (k = 0 ↔ l = []) ∧ (x.t.size = 0 ↔ k = 0) ∧ offP s (a + x.t.size) l
theorem gap_in {s : ByteArray} {p a : Nat} (hp : p ≤ s.size) (h : skS s false p = a) : p ≤ a ∧ a ≤ s.size ∧ skS (s.extract p a) false 0 = a - p := by
  have h1 := skS_ge (s := s) false hp
  have h2 := skS_le (s := s) false hp
  have h3 := skS_rs (s := s) p hp _ false 0 rfl
  rw [Nat.add_zero, h] at h3
  refine ⟨by omega, by omega, ?_⟩
  have e : s.extract p a = (rs s p).extract 0 (a - p) := by rw [rs_take s p _ (by omega), show p + (a - p) = a by omega]
  have hz : (s.extract p a).size = a - p := by rw [ByteArray.size_extract]; omega
  have hb : ∀ i, i < a - p → bt (s.extract p a) i = bt (rs s p) i := fun i hi => by rw [e]; exact bt_zero_ext _ _ i (by rw [rs_size]; omega) hi
  rcases skS_pre (s := rs s p) (z := s.extract p a) (L := a - p) (by rw [rs_size]; omega) (by omega) hb _ 0 false rfl (Nat.zero_le _) with ⟨g1, g2⟩ | ⟨g1, r', g2⟩
  · omega
  · rw [g2, skS_end (by omega)]
theorem run_off {s : ByteArray} {p : Nat} {l : List LT} {e a : Nat} (h : Run s p l e a) : e = 0 → ∀ p0, p0 ≤ s.size → skS s false p0 = p → offP s p0 l := by
  induction h with
  | fin p h =>
    intro _ p0 hp h0
    obtain ⟨g1, g2, g3⟩ := gap_in hp h0
    refine ⟨0, 0, s.size, rfl, rfl, rfl, hp, Nat.le_refl _, ?_, by rw [h]; exact g3, ⟨fun _ => rfl, fun _ => rfl⟩, ⟨fun _ => rfl, fun _ => rfl⟩, rfl⟩
    apply bt_ext
    · rw [ByteArray.size_extract]; show min (s.size + 0) s.size - s.size = 0; omega
    · intro i hi; rw [ByteArray.size_extract] at hi; exfalso; simp at hi
  | bad p e h1 h2 h3 => exact fun g => absurd g h3
  | ok p k t n q l h1 h2 h3 h4 h5 h6 ih =>
    intro _ p0 hp h0
    obtain ⟨g1, g2, g3⟩ := gap_in hp h0
    have hl : l ≠ [] := ((run_bd h6).2.1 rfl).2
    have hk : k ≠ 0 := by have := frT_kind (u := rs s p) (by rw [h2]); rw [h2] at this; exact this
    obtain ⟨f1, f2, f3⟩ := frT_ok (u := rs s p) (by rw [rs_size]; omega) h2 rfl
    refine ⟨k, n, p, rfl, rfl, rfl, g1, h4, ?_, g3, ⟨fun g => absurd g hk, fun g => absurd g hl⟩, ⟨fun g => by simp only at g; omega, fun g => absurd g hk⟩, ih rfl (p + t.size) h4 h5⟩
    show s.extract p (p + t.size) = t
    rw [← rs_take s p _ h4]; exact f1.symm
  | on p k t n q e a h1 h2 h3 h4 h5 h6 h7 ih => exact fun g => absurd g h6
theorem scan_off {s : ByteArray} (hs : s.size ≤ 8000) {l : List LT} {a : Nat} (h : scan s = (l, 0, a)) : offP s 0 l := by
  obtain ⟨_, _, hr⟩ := scan_ok hs h
  exact run_off hr rfl 0 (Nat.zero_le _) rfl
end Go.Proofs.YtlnfoknghfoffaaDoor
