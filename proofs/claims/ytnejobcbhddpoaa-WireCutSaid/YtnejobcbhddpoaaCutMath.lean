/- Plain facts: a beginning of an encoding is too short; fields that came in, opened. -/
import Derived.Test.YtnejobcbhddpoaaExact
import Derived.Test.YtnejobcbhddpoaaBackMath
set_option linter.unusedVariables false
set_option linter.unusedSimpArgs false
namespace Go.Proofs.Ytnejobcbhddpoaa
open Go.ChangeShapes Go.WideShapes Go.ChangeAt Go.RowKit Go.Deep Go.Joins Wm

theorem num_cut (pre : List UInt8) {n m : Nat} (hn : n < 18446744073709551616) (hm : m < (uv n).length) : eU (bs (pre ++ (uv n).take m)) pre.length = 3 := by
  unfold eU
  have e : (bs (pre ++ (uv n).take m)).size - pre.length = m := by rw [size_bs, List.length_append, List.length_take]; omega
  rw [fr_pre, e]
  exact n_cut hn hm
theorem ints_cut (lo hi : Int) : ∀ (l : List Int) (pre : List UInt8) (m : Nat), FitI l → (∀ z ∈ l, lo ≤ z ∧ z ≤ hi) → m < (bodyI l).length → (intsF (bs (pre ++ (bodyI l).take m)) lo hi l.length pre.length).2.2 = 3 := by
  intro l
  induction l with
  | nil => intro pre m _ _ h; simp [bodyI] at h
  | cons z l ih =>
    intro pre m hf hb h
    have hz := hf z (by simp)
    have e0 : bodyI (z :: l) = uv (zz z) ++ bodyI l := rfl
    rw [e0] at h ⊢
    rw [List.length_append] at h
    rw [List.length_cons, List.take_append]
    by_cases g : m < (uv (zz z)).length
    · have e1 : m - (uv (zz z)).length = 0 := by omega
      rw [e1, List.take_zero, List.append_nil]
      have h3 := num_cut pre (zz_lt hz.1 hz.2) g
      have h4 : eI (bs (pre ++ (uv (zz z)).take m)) pre.length lo hi = 3 := by unfold eI; rw [if_neg (by rw [h3]; decide)]; exact h3
      show (if eI _ _ lo hi = 0 then _ else _ : List Int × Nat × Nat).2.2 = 3
      rw [if_neg (by rw [h4]; decide)]; exact h4
    · rw [List.take_of_length_le (by omega)]
      obtain ⟨a, b, c⟩ := int_at pre ((bodyI l).take (m - (uv (zz z)).length)) hz (hb z (by simp)).1 (hb z (by simp)).2
      have hi2 := ih (pre ++ uv (zz z)) (m - (uv (zz z)).length) (fun y hy => hf y (List.mem_cons_of_mem _ hy)) (fun y hy => hb y (List.mem_cons_of_mem _ hy)) (by omega)
      rw [List.append_assoc, List.length_append] at hi2
      show (if eI _ _ lo hi = 0 then _ else _ : List Int × Nat × Nat).2.2 = 3
      rw [if_pos c, b]
      rw [if_neg (by rw [hi2]; decide)]
      exact hi2
theorem take_pre (S : ByteArray) (L : List UInt8) (h : S = bs L) (m : Nat) : S.extract 0 m = bs (L.take m) := by rw [h, bs_extract, List.drop_zero, Nat.sub_zero]
/-- the encoding of a field as a list -/
def encL (k n : Nat) (i : Int) (t : ByteArray) (l : List Int) : List UInt8 := if k = 0 then uv n else if k = 1 then uv (zz i) else if k = 2 then uv t.size ++ t.data.toList else insL l
theorem encF_bs (k n : Nat) (i : Int) (t : ByteArray) (l : List Int) : encF k n i t l = bs (encL k n i t l) := by
  unfold encF encL
  split
  · rfl
  · split
    · rfl
    · split
      · unfold txS; rw [← bs_app, bs_self]
      · rfl
theorem encL_pos (k n : Nat) (i : Int) (t : ByteArray) (l : List Int) : 0 < (encL k n i t l).length := by
  unfold encL
  split
  · exact uv_pos _
  · split
    · exact uv_pos _
    · split
      · rw [List.length_append]; have := uv_pos t.size; omega
      · unfold insL; rw [List.length_append]; have := uv_pos l.length; omega
theorem encL_len {k n : Nat} {i : Int} {t : ByteArray} {l : List Int} (hn : n < 18446744073709551616) (hi : Fit i) (ht : t.size ≤ 3000) (hf : FitI l) (hl : l.length ≤ 300) : (encL k n i t l).length ≤ 3010 := by
  unfold encL
  have h1 := uv_len hn
  have h2 := uv_len (zz_lt hi.1 hi.2)
  have h3 := uv_len (n := t.size) (by omega)
  have h4 := uv_len (n := l.length) (by omega)
  have h5 := bodyI_len l hf
  have h6 : t.data.toList.length = t.size := Array.length_toList
  split
  · omega
  · split
    · omega
    · split
      · rw [List.length_append]; omega
      · unfold insL; rw [List.length_append]; omega
/-- what is read of a beginning -/
theorem outR_cut {k n : Nat} {i : Int} {t : ByteArray} {l : List Int} {m : Nat} (hn : n < 18446744073709551616) (hi : Fit i) (ht : t.size ≤ 1000000) (hf : FitI l) (hl : l.length ≤ 100000) (hm : m < (encL k n i t l).length) :
    outR (bs ((encL k n i t l).take m)) 0 0 (exO k i t l).k (exO k i t l).lo (exO k i t l).hi (exO k i t l).most = (0, 0, ByteArray.empty, [], 0, 3) := by
  have hk : (exO k i t l).k = k := by unfold exO; split <;> rfl
  rw [hk]
  unfold outR
  rw [if_pos rfl]
  have bad : ∀ (S : ByteArray), eU S 0 = 3 → vU S 0 = 0 ∧ lU S 0 = 0 := fun S h => bad_U (by rw [h]; decide)
  by_cases k0 : k = 0
  · subst k0
    have e := num_cut [] (m := m) hn (by unfold encL at hm; rw [if_pos rfl] at hm; exact hm)
    rw [if_pos rfl]
    have e2 : encL 0 n i t l = uv n := by unfold encL; rw [if_pos rfl]
    rw [e2]
    change eU (bs ((uv n).take m)) 0 = 3 at e
    obtain ⟨a, b⟩ := bad _ e
    rw [a, b, e]
  · rw [if_neg k0]
    by_cases k1 : k = 1
    · subst k1
      have e2 : encL 1 n i t l = uv (zz i) := by unfold encL; rw [if_neg k0, if_pos rfl]
      rw [e2] at hm ⊢
      have e := num_cut [] (m := m) (zz_lt hi.1 hi.2) hm
      change eU (bs ((uv (zz i)).take m)) 0 = 3 at e
      rw [if_pos rfl]
      have e3 : ∀ lo hi, eI (bs ((uv (zz i)).take m)) 0 lo hi = 3 := fun lo hi => by unfold eI; rw [if_neg (by rw [e]; decide)]; exact e
      have e4 : ∀ lo hi, vI (bs ((uv (zz i)).take m)) 0 lo hi = 0 := fun lo hi => by unfold vI; rw [e3]; rfl
      have e5 : ∀ lo hi, lI (bs ((uv (zz i)).take m)) 0 lo hi = 0 := fun lo hi => by unfold lI; rw [e3]; rfl
      rw [e3, e4, e5]
    · rw [if_neg k1]
      by_cases k2 : k = 2
      · subst k2
        have e2 : encL 2 n i t l = uv t.size ++ t.data.toList := by unfold encL; rw [if_neg k0, if_neg k1, if_pos rfl]
        have ho : (exO 2 i t l).most = (t.size : Int) := by unfold exO; rw [if_neg (by decide)]
        have h6 : t.data.toList.length = t.size := Array.length_toList
        rw [e2, List.length_append] at hm
        rw [e2, ho, if_pos rfl, List.take_append]
        have fin : ∀ S : ByteArray, eT S 0 (t.size : Int) = 3 → ((0, 0, tT S 0 (t.size : Int), [], lT S 0 (t.size : Int), eT S 0 (t.size : Int)) : Nat × Int × ByteArray × List Int × Nat × Nat) = (0, 0, ByteArray.empty, [], 0, 3) := fun S h => by
          have a : tT S 0 (t.size : Int) = ByteArray.empty := by unfold tT; rw [h]; rfl
          have b : lT S 0 (t.size : Int) = 0 := by unfold lT; rw [h]; rfl
          rw [a, b, h]
        apply fin
        by_cases g : m < (uv t.size).length
        · rw [show m - (uv t.size).length = 0 by omega, List.take_zero, List.append_nil]
          have e := num_cut [] (m := m) (n := t.size) (by omega) g
          change eU (bs ((uv t.size).take m)) 0 = 3 at e
          have ec : eC (bs ((uv t.size).take m)) 0 (t.size : Int) = 3 := by unfold eC; rw [if_neg (by rw [e]; decide)]; exact e
          unfold eT; rw [if_neg (by rw [ec]; decide)]; exact ec
        · rw [List.take_of_length_le (by omega)]
          obtain ⟨a, b, c⟩ := num_at [] (t.data.toList.take (m - (uv t.size).length)) (n := t.size) (by omega)
          have ec := count_at [] (t.data.toList.take (m - (uv t.size).length)) (n := t.size) (most := (t.size : Int)) (by omega) (Int.le_refl _)
          change eU (bs (uv t.size ++ t.data.toList.take (m - (uv t.size).length))) 0 = 0 at a
          change vU (bs (uv t.size ++ t.data.toList.take (m - (uv t.size).length))) 0 = t.size at b
          change lU (bs (uv t.size ++ t.data.toList.take (m - (uv t.size).length))) 0 = (uv t.size).length at c
          change eC (bs (uv t.size ++ t.data.toList.take (m - (uv t.size).length))) 0 (t.size : Int) = 0 at ec
          unfold eT; rw [if_pos ec, b, c, size_bs, List.length_append, List.length_take, if_pos (by omega)]
      · rw [if_neg k2]
        by_cases k3 : 2 < k
        · have e2 : encL k n i t l = uv l.length ++ bodyI l := by unfold encL; rw [if_neg k0, if_neg k1, if_neg k2]; rfl
          have ho : exO k i t l = ⟨k, loL l, hiL l, l.length⟩ := by unfold exO; rw [if_pos k3]
          rw [e2, List.length_append] at hm
          rw [e2, ho, List.take_append]
          simp only
          have fin : ∀ S : ByteArray, (outL S 0 (l.length : Int) (loL l) (hiL l)).2.2 = 3 → ((0, 0, ByteArray.empty, (outL S 0 (l.length : Int) (loL l) (hiL l)).1, (outL S 0 (l.length : Int) (loL l) (hiL l)).2.1, (outL S 0 (l.length : Int) (loL l) (hiL l)).2.2) : Nat × Int × ByteArray × List Int × Nat × Nat) = (0, 0, ByteArray.empty, [], 0, 3) := fun S h => by
            obtain ⟨a, b⟩ := outL_zero S 0 (l.length : Int) (loL l) (hiL l) (by rw [h]; decide)
            rw [a, b, h]
          apply fin
          by_cases g : m < (uv l.length).length
          · rw [show m - (uv l.length).length = 0 by omega, List.take_zero, List.append_nil]
            have e := num_cut [] (m := m) (n := l.length) (by omega) g
            change eU (bs ((uv l.length).take m)) 0 = 3 at e
            have ec : eC (bs ((uv l.length).take m)) 0 (l.length : Int) = 3 := by unfold eC; rw [if_neg (by rw [e]; decide)]; exact e
            unfold outL; rw [if_neg (by rw [ec]; decide)]; exact ec
          · rw [List.take_of_length_le (by omega)]
            obtain ⟨a, b, c⟩ := num_at [] ((bodyI l).take (m - (uv l.length).length)) (n := l.length) (by omega)
            have ec := count_at [] ((bodyI l).take (m - (uv l.length).length)) (n := l.length) (most := (l.length : Int)) (by omega) (Int.le_refl _)
            change eU (bs (uv l.length ++ (bodyI l).take (m - (uv l.length).length))) 0 = 0 at a
            change vU (bs (uv l.length ++ (bodyI l).take (m - (uv l.length).length))) 0 = l.length at b
            change lU (bs (uv l.length ++ (bodyI l).take (m - (uv l.length).length))) 0 = (uv l.length).length at c
            change eC (bs (uv l.length ++ (bodyI l).take (m - (uv l.length).length))) 0 (l.length : Int) = 0 at ec
            have hh := ints_cut (loL l) (hiL l) l (uv l.length) (m - (uv l.length).length) hf (lim_all l) (by omega)
            unfold outL
            rw [if_pos ec, b, c]
            unfold finI
            rw [Nat.zero_add, hh]
            rfl
        · exfalso; omega
/-- a field -/
structure FdT where
  k : Nat
  n : Nat
  i : Int
  t : ByteArray
  u : Value
  l : List Int
def FdT.vl (f : FdT) : Value := fv f.k f.n f.i f.t f.u
def fc (f : FdT) : List Value := [.int .u8 f.k, .int .u64 f.n, .int .i64 f.i, .string f.t, f.u]
def FdT.ok (W : World) (f : FdT) : Prop := f.k < 256 ∧ f.n < 18446744073709551616 ∧ Fit f.i ∧ f.t.size ≤ maxLen ∧ RdI W f.u f.l ∧ FitI f.l ∧ f.l.length ≤ maxLen
def ArgF (W : World) (v : Value) : Prop := ∃ f : FdT, v = f.vl ∧ f.ok W
def RdF (w : World) (v : Value) (l : List FdT) : Prop := RdG 5 fc w v l
def ArgFs (W : World) (v : Value) : Prop := ∃ l : List FdT, RdF W v l ∧ (∀ f ∈ l, f.ok W) ∧ l.length ≤ maxLen
def ArgH (W : World) (v : Value) : Prop := ∃ n : Nat, v = .int .u16 n ∧ n < 65536
section
variable {H : Type} {enc : TypeId × Value → H} {W : World} {base : Nat} {v : Value} {d : DataW H} {ps : List MemPlace}
theorem u16_of {n : Int} (h : (Lit.int .u16 n).wf = true) : ∃ m : Nat, n = (m : Int) ∧ m < 65536 := by
  have h2 : (decide (IntKind.min .u16 ≤ n) && decide (n ≤ IntKind.max .u16)) = true := h
  rw [Bool.and_eq_true, decide_eq_true_eq, decide_eq_true_eq, show IntKind.min .u16 = 0 by decide, show IntKind.max .u16 = 65535 by decide] at h2
  exact ⟨n.toNat, by omega, by omega⟩
theorem open_u16 (hval : Value.okWide Try.prog W .any base 63 v) (h : DataW.Trod enc Try.prog W 0 (fun _ => true) true 63 v d ps) : ArgH W v := by
  obtain ⟨a, rfl, rfl, rfl, w⟩ := open_int Try.underlying63 hval h
  obtain ⟨m, rfl, hm⟩ := u16_of w
  exact ⟨m, rfl, hm⟩
theorem trod_field {fuel : Nat} {cs : List Value} {x : DataW H × List MemPlace} (hl : cs.length = 5) (h : DataW.trod enc Try.prog W 0 (fun _ => true) true fuel 41 cs = some x) : ∃ f : FdT, cs = fc f ∧ f.ok W := by
  match cs, hl with
  | [c0, c1, c2, c3, c4], _ =>
    obtain ⟨xs, n, _, _, _, hxl, hf⟩ := DataW.trod_struct Try.underlying41 h
    match xs, hxl with
    | [y0, y1, y2, y3, y4], _ =>
      obtain ⟨x0, e0, _, z0⟩ := DataW.trod_int Try.underlying5 (hf 0 _ rfl)
      obtain ⟨x1, e1, _, z1⟩ := DataW.trod_int Try.underlying22 (hf 1 _ rfl)
      obtain ⟨x2, e2, _, z2⟩ := DataW.trod_int Try.underlying3 (hf 2 _ rfl)
      obtain ⟨x3, e3, _, z3⟩ := DataW.trod_string Try.underlying9 (hf 3 _ rfl)
      have e0' : [c0] = [Value.int .u8 x0] := e0
      have e1' : [c1] = [Value.int .u64 x1] := e1
      have e2' : [c2] = [Value.int .i64 x2] := e2
      have e3' : [c3] = [Value.string x3] := e3
      simp only [List.cons.injEq, and_true] at e0' e1' e2' e3'
      subst e0' e1' e2' e3'
      obtain ⟨k, rfl, hk⟩ := u8_of z0
      obtain ⟨m, rfl, hm⟩ := u64_of z1
      obtain ⟨l, h1, h2, h3⟩ := trod_list (v := c4) (hf 4 _ rfl)
      exact ⟨⟨k, m, x2, x3, c4, l⟩, rfl, hk, hm, fit_i64 z2, z3, h1, h2, h3⟩
theorem open_field (hval : Value.okWide Try.prog W .any base 41 v) (h : DataW.Trod enc Try.prog W 0 (fun _ => true) true 41 v d ps) : ArgF W v := by
  obtain ⟨cs, rfl, hsz⟩ := okWide_struct Try.underlying41 hval
  obtain ⟨fuel, hf⟩ := h
  have hl : cs.toList.length = 5 := by rw [Array.length_toList]; exact hsz
  obtain ⟨f, h1, h2⟩ := trod_field (cs := cs.toList) hl (by simpa [Value.cells] using hf)
  refine ⟨f, ?_, h2⟩
  obtain ⟨cl⟩ := cs
  have h3 : cl = fc f := h1
  subst h3; rfl
theorem open_fields (hval : Value.okWide Try.prog W .any base 57 v) (h : DataW.Trod enc Try.prog W 0 (fun _ => true) true 57 v d ps) : ArgFs W v := by
  obtain ⟨a0, len, cap, rfl⟩ := okWide_slice Try.underlying57 hval
  obtain ⟨fuel, hf⟩ := h
  exact open_rdG Try.underlying57 (by kernel_rfl) (by decide) (fun _ _ _ hl h => trod_field hl h) hf
end
end Go.Proofs.Ytnejobcbhddpoaa
