/- The contracts of great, of the reference's Print and Same, and of Same at any two lists. -/
import Derived.Test.YtlnfoknghfoffaaDoorPrint
import Derived.Test.YtlnfoknghfoffaaDoorTexts
set_option linter.unusedVariables false
set_option linter.unusedSimpArgs false
namespace Go.Proofs.YtlnfoknghfoffaaDoor
open Go.ChangeShapes Go.WideShapes Go.ChangeAt Go.RowKit Lm

def gr (l : List LT) : Bool := (l.any fun x => decide (200 < x.t.size)) || decide (60 < l.length)
set_option maxRecDepth 100000 in
set_option maxHeartbeats 1600000 in
theorem great_c (v : Value) (l : List LT) (w : World) (hr : Rd w v l) (hl : l.length ≤ maxLen) : Calls Tryd.prog 14 #[v] w fun E w' => E = .returned (.bool (gr l)) ∧ w' = w := by
  unfold maxLen at hl
  have HR := Lib.hid hr
  obtain ⟨sA, sc, rfl, hle, _⟩ := hr
  obtain ⟨n, hn⟩ : ∃ n, l.length = n := ⟨_, rfl⟩
  have HN := Lib.hid hn
  obtain ⟨b, hb⟩ : ∃ b, gr l = b := ⟨_, rfl⟩
  have HB := Lib.hid hb
  rw [hn] at hl HR hle
  rw [hn, hb]
  clear hn hb
  go_enter Tryd.func14, Tryd.ntmps14
  go_wp2_with fail
  go_loop [3] (fun i => ∃ k : Nat, k ≤ n ∧ i = .int .i64 k ∧ Hid (∀ x ∈ l.take k, ¬ 200 < x.t.size)) (fun i => n - (intOf i).toNat)
  case atStart => exact ⟨0, by omega, rfl, fun x hx => by simp at hx⟩
  case round =>
    obtain ⟨k, hk, rfl, HI⟩ := hrel
    by_cases hlt : k < n
    · have hkl : k < l.length := by rw [HN.out]; exact hlt
      obtain ⟨rb, ro, rfl, hrb, hlc, hnl, c0, c1, c2, c3⟩ := HR.out.at (Q.refl _) hkl
      have hmem := List.getElem_mem hkl
      have HS := Lib.hid (List.take_succ_eq_append_getElem hkl)
      obtain ⟨x, hx⟩ : ∃ x, l[k] = x := ⟨_, rfl⟩
      rw [hx] at c0 c1 c2 c3 hmem HS
      obtain ⟨xk, xt, xn, xa⟩ := x
      simp only at c0 c1 c2 c3
      have i1 : (0 : Int) ≤ (k : Int) := by omega
      have i2 : (k : Int) < (n : Int) := by omega
      by_cases g : 200 < xt.size
      · have i3 : (200 : Int) < (xt.size : Int) := by omega
        have HE := Lib.hid (show b = true by
          rw [← HB.out]; unfold gr
          rw [show (l.any fun x => decide (200 < x.t.size)) = true from List.any_eq_true.2 ⟨_, hmem, decide_eq_true g⟩]; rfl)
        clear hx hlc hnl hmem
        go_wp2_with fail
        go_ret
        exact ⟨by rw [HE.out]; rfl, rfl⟩
      · have i3 : ¬ (200 : Int) < (xt.size : Int) := by omega
        have HE := Lib.hid (show ∀ x ∈ l.take (k + 1), ¬ 200 < x.t.size by
          rw [HS.out]
          intro y hy
          rcases List.mem_append.1 hy with hy | hy
          · exact HI.out y hy
          · rw [List.mem_singleton] at hy; subst hy; exact g)
        clear hx hlc hnl hmem
        go_wp2_with fail
        go_round
        case rel => exact ⟨k + 1, by omega, by go_num, HE⟩
        case measure => simp [intOf] <;> omega
    · obtain rfl : k = n := by omega
      have HF := Lib.hid (show (l.any fun x => decide (200 < x.t.size)) = false by
        rw [List.any_eq_false]
        intro x hx
        have := HI.out x (by rw [← HN.out, List.take_length]; exact hx)
        simpa using this)
      have HE := Lib.hid (show decide (60 < k) = b by rw [← HB.out]; unfold gr; rw [HF.out, HN.out]; rfl)
      by_cases g : 60 < k
      · have i3 : (60 : Int) < (k : Int) := by omega
        have HG := Lib.hid (show b = true by rw [← HE.out]; exact decide_eq_true g)
        go_wp2_with fail
        go_ret
        exact ⟨by rw [HG.out]; simp [g], rfl⟩
      · have i3 : ¬ (60 : Int) < (k : Int) := by omega
        have HG := Lib.hid (show b = false by rw [← HE.out]; exact decide_eq_false g)
        go_wp2_with fail
        go_ret
        exact ⟨by rw [HG.out]; simp [g], rfl⟩
/-! the reference's Print -/
def jS (ts : List ByteArray) : ByteArray := ⟨(Lib.join (ts.map (·.data.toList)) [32]).toArray⟩
theorem prS_jS (l : List LT) : prS l = jS (txL l) := rfl
theorem join_snoc : ∀ (ts : List (List UInt8)) (t : List UInt8), ts ≠ [] → Lib.join (ts ++ [t]) [32] = Lib.join ts [32] ++ 32 :: t
  | [], t, h => absurd rfl h
  | [x], t, _ => by rw [List.singleton_append, join_two, join_one, join_one]
  | x :: y :: l, t, _ => by
    rw [List.cons_append, List.cons_append, join_two, ← List.cons_append, join_snoc (y :: l) t (by simp), join_two]; simp
theorem jS_nil : jS [] = ⟨#[]⟩ := rfl
theorem app_data (a b : ByteArray) : (a ++ b).data.toList = a.data.toList ++ b.data.toList := by rw [ByteArray.data_append, Array.toList_append]
theorem jS_one (t : ByteArray) : jS ([] ++ [t]) = jS [] ++ t := by
  apply ByteArray.ext; apply Array.toList_inj.1
  rw [app_data]; unfold jS; simp [join_one]
  rfl
theorem jS_snoc (ts : List ByteArray) (t : ByteArray) (h : ts ≠ []) : jS (ts ++ [t]) = jS ts ++ ⟨#[32]⟩ ++ t := by
  apply ByteArray.ext; apply Array.toList_inj.1
  rw [app_data, app_data]
  unfold jS
  simp only [List.map_append, List.map_cons, List.map_nil]
  rw [join_snoc _ _ (by simpa using h)]
  simp
def RP (l : List LT) (k : Nat) (S : ByteArray) (b : Bool) : Prop := S = jS (txL (l.take k)) ∧ (b = true ↔ txL (l.take k) ≠ []) ∧ S.size ≤ 201 * k
theorem rp_skip {l : List LT} {k : Nat} {S : ByteArray} {b : Bool} (h : RP l k S b) (hk : k < l.length) (h0 : l[k].k = 0) : RP l (k + 1) S b := by
  obtain ⟨h1, h2, h3⟩ := h
  have e := txL_snoc l k hk
  rw [if_pos h0, List.append_nil] at e
  exact ⟨by rw [e]; exact h1, by rw [e]; exact h2, by omega⟩
theorem rp_first {l : List LT} {k : Nat} {S : ByteArray} (h : RP l k S false) (hk : k < l.length) (h0 : l[k].k ≠ 0) (hs : l[k].t.size ≤ 200) : RP l (k + 1) (S ++ l[k].t) true ∧ (S ++ l[k].t).size ≤ 201 * k + 200 := by
  obtain ⟨h1, h2, h3⟩ := h
  have e := txL_snoc l k hk
  rw [if_neg h0] at e
  have hn : txL (l.take k) = [] := by
    rcases List.eq_nil_or_concat (txL (l.take k)) with g | g
    · exact g
    · obtain ⟨x, y, g⟩ := g; exact absurd (h2.2 (by rw [g]; simp)) (by decide)
  rw [hn] at e h1
  have hz : (S ++ l[k].t).size = S.size + l[k].t.size := ByteArray.size_append
  exact ⟨⟨by rw [e, jS_one, h1], ⟨fun _ => by rw [e]; simp, fun _ => rfl⟩, by omega⟩, by omega⟩
theorem rp_next {l : List LT} {k : Nat} {S : ByteArray} (h : RP l k S true) (hk : k < l.length) (h0 : l[k].k ≠ 0) (hs : l[k].t.size ≤ 200) : RP l (k + 1) (S ++ ⟨#[32]⟩ ++ l[k].t) true ∧ (S ++ ⟨#[32]⟩ ++ l[k].t).size ≤ 201 * k + 201 ∧ (S ++ ⟨#[32]⟩).size ≤ 201 * k + 1 := by
  obtain ⟨h1, h2, h3⟩ := h
  have e := txL_snoc l k hk
  rw [if_neg h0] at e
  have z1 : (S ++ ⟨#[32]⟩).size = S.size + 1 := ByteArray.size_append
  have z2 : (S ++ ⟨#[32]⟩ ++ l[k].t).size = S.size + 1 + l[k].t.size := by rw [ByteArray.size_append, z1]
  exact ⟨⟨by rw [e, jS_snoc _ _ (h2.1 rfl), h1], ⟨fun _ => by rw [e]; simp, fun _ => rfl⟩, by omega⟩, by omega, by omega⟩
set_option maxRecDepth 100000 in
set_option maxHeartbeats 1600000 in
theorem rPrint_c (v : Value) (l : List LT) (w : World) (hr : Rd w v l) (hl : l.length ≤ 60) (ht : ∀ x ∈ l, x.t.size ≤ 200) : Calls Tryd.prog 16 #[v] w fun E w' => E = .returned (.string (prS l)) ∧ w' = w := by
  have HR := Lib.hid hr
  have HT := Lib.hid ht
  obtain ⟨sA, sc, rfl, hle, _⟩ := hr
  obtain ⟨n, hn⟩ : ∃ n, l.length = n := ⟨_, rfl⟩
  have HN := Lib.hid hn
  rw [hn] at hl HR hle
  rw [hn]
  clear hn ht
  go_enter Tryd.func16, Tryd.ntmps16
  go_wp2_with fail
  go_loop [3, 4, 5] (fun v3 v4 i => ∃ (k : Nat) (S : ByteArray) (b : Bool), k ≤ n ∧ i = .int .i64 k ∧ v3 = .string S ∧ v4 = .bool b ∧ Hid (RP l k S b)) (fun _ _ i => n - (intOf i).toNat)
  case atStart => exact ⟨0, ⟨#[]⟩, false, by omega, rfl, rfl, rfl, rfl, by simp [txL], by decide⟩
  case round =>
    obtain ⟨k, S, b, hk, rfl, rfl, rfl, HI⟩ := hrel
    by_cases hlt : k < n
    · have hkl : k < l.length := by rw [HN.out]; exact hlt
      have hts := HT.out _ (List.getElem_mem hkl)
      obtain ⟨rb, ro, rfl, hrb, hlc, hnl, c0, c1, c2, c3⟩ := HR.out.at (Q.refl _) hkl
      have i1 : (0 : Int) ≤ (k : Int) := by omega
      have i2 : (k : Int) < (n : Int) := by omega
      by_cases h0 : l[k].k = 0
      · have HE := Lib.hid (rp_skip HI.out hkl h0)
        rw [h0] at c0
        obtain ⟨x, hx⟩ : ∃ x, l[k] = x := ⟨_, rfl⟩
        rw [hx] at c1 c2 c3
        clear hx hlc hnl hts h0
        go_wp2_with fail
        go_round
        case rel => exact ⟨k + 1, S, b, by omega, by go_num, rfl, rfl, HE⟩
        case measure => simp [intOf] <;> omega
      · cases b with
        | false =>
          obtain ⟨g1, g2⟩ := rp_first HI.out hkl h0 hts
          have HE := Lib.hid g1
          obtain ⟨x, hx⟩ : ∃ x, l[k] = x := ⟨_, rfl⟩
          rw [hx] at c0 c1 c2 c3 g2 HE h0
          obtain ⟨xk, xt, xn, xa⟩ := x
          simp only at c0 c1 c2 c3 g2 HE h0
          have t1 : (xk == 0) = false := by simp; omega
          have j1 : ¬ 9223372036854775807 < (S ++ xt).size := by omega
          have j3 : ¬ 9223372036854775807 < S.size + xt.size := by have : (S ++ xt).size = S.size + xt.size := ByteArray.size_append; omega
          clear hx hlc hnl hts h0 g1 g2
          go_wp2_with fail
          go_round
          case rel => exact ⟨k + 1, _, true, by omega, by go_num, rfl, rfl, HE⟩
          case measure => simp [intOf] <;> omega
        | true =>
          obtain ⟨g1, g2, g3⟩ := rp_next HI.out hkl h0 hts
          have HE := Lib.hid g1
          obtain ⟨x, hx⟩ : ∃ x, l[k] = x := ⟨_, rfl⟩
          rw [hx] at c0 c1 c2 c3 g2 HE h0
          obtain ⟨xk, xt, xn, xa⟩ := x
          simp only at c0 c1 c2 c3 g2 HE h0
          have t1 : (xk == 0) = false := by simp; omega
          have j1 : ¬ 9223372036854775807 < (S ++ ⟨#[32]⟩).size := by omega
          have j2 : ¬ 9223372036854775807 < (S ++ ⟨#[32]⟩ ++ xt).size := by omega
          have j4 : (S ++ (⟨#[32]⟩ : ByteArray)).size = S.size + 1 := ByteArray.size_append
          have j5 : (S ++ (⟨#[32]⟩ : ByteArray) ++ xt).size = S.size + 1 + xt.size := by rw [ByteArray.size_append, j4]
          have j6 : ¬ 9223372036854775807 < S.size + 1 := by omega
          have j7 : ¬ 9223372036854775807 < S.size + 1 + xt.size := by omega
          clear hx hlc hnl hts h0 g1 g2 g3
          go_wp2_with fail
          go_round
          case rel => exact ⟨k + 1, _, true, by omega, by go_num, rfl, rfl, HE⟩
          case measure => simp [intOf] <;> omega
    · obtain rfl : k = n := by omega
      have HE := Lib.hid (show S = prS l by rw [HI.out.1, ← HN.out, List.take_length]; rfl)
      go_wp2_with fail
      go_ret
      exact ⟨ret_str HE.out, rfl⟩
end Go.Proofs.YtlnfoknghfoffaaDoor
