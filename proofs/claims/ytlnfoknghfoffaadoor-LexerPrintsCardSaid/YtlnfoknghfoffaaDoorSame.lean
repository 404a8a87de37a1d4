/- The contracts of equal and Same at equal lists. -/
import Derived.Test.YtlnfoknghfoffaaDoorScan
set_option linter.unusedVariables false
set_option linter.unusedSimpArgs false
namespace Go.Proofs.YtlnfoknghfoffaaDoor
open Go.ChangeShapes Go.WideShapes Go.ChangeAt Go.RowKit Lm

/-- an element of a list that a slice reads as, in a later world -/
theorem Rd.at {w w' : World} {A : Option Addr} {n c : Nat} {l : List LT} (h : Rd w (.slice A n c) l) (hq : Q w w') {i : Nat} (hi : i < l.length) : ∃ b off, A = some ⟨b, off, none⟩ ∧ b < w.heap.size ∧ l.length ≤ c ∧ n = l.length ∧
    w'.cell? ⟨b, off + i * 4, none⟩ = some (.int .i64 l[i].k) ∧ w'.cell? ⟨b, off + i * 4 + 1, none⟩ = some (.string l[i].t) ∧ w'.cell? ⟨b, off + i * 4 + 2, none⟩ = some (.int .i64 l[i].n) ∧ w'.cell? ⟨b, off + i * 4 + 3, none⟩ = some (.int .i64 l[i].a) := by
  obtain ⟨A', c', h1, h2, h3⟩ := h
  injection h1 with e1 e2 e3
  subst e1 e2 e3
  obtain ⟨b, off, e, hb, hc⟩ := h3 (by omega)
  have g := fun j u (hu : l[i].c[j]? = some u) => (hq.cell (p := ⟨b, off + i * 4 + j, none⟩) hb).trans (hc i l[i] (List.getElem?_eq_getElem hi) j u hu)
  exact ⟨b, off, e, hb, h2, rfl, g 0 _ rfl, g 1 _ rfl, g 2 _ rfl, g 3 _ rfl⟩
set_option maxRecDepth 100000 in
set_option maxHeartbeats 1600000 in
theorem equal_c (v u : Value) (l : List LT) (w : World) (hr : Rd w v l) (hu : Rd w u l) (hl : l.length ≤ 1000000) : Calls Tryd.prog 13 #[v, u] w fun E w' => E = .returned (.bool true) ∧ Q w w' := by
  have HR := Lib.hid hr
  have HU := Lib.hid hu
  obtain ⟨sA, sc, rfl, hle, _⟩ := hr
  obtain ⟨uA, uc, rfl, hue, _⟩ := hu
  obtain ⟨n, hn⟩ : ∃ n, l.length = n := ⟨_, rfl⟩
  have HN := Lib.hid hn
  rw [hn] at hl HR HU hle hue
  rw [hn]
  clear hn
  go_enter Tryd.func13, Tryd.ntmps13
  go_wp2_with fail
  go_loopw [5] (fun i wr => ∃ k : Nat, k ≤ n ∧ i = .int .i64 k ∧ Hid (Q w wr)) (fun i _ => n - (intOf i).toNat)
  case atStart => exact ⟨0, by omega, rfl, Q.refl _⟩
  case round =>
    obtain ⟨k, hk, rfl, HI⟩ := hrel
    by_cases hlt : k < n
    · have hkl : k < l.length := by rw [HN.out]; exact hlt
      obtain ⟨rb, ro, rfl, hrb, hlc, hnl, c0, c1, c2, c3⟩ := HR.out.at HI.out hkl
      obtain ⟨rb', ro', rfl, hrb', hlc', hnl', d0, d1, d2, d3⟩ := HU.out.at HI.out hkl
      obtain ⟨x, hx⟩ : ∃ x, l[k] = x := ⟨_, rfl⟩
      rw [hx] at c0 c1 c2 c3 d0 d1 d2 d3
      obtain ⟨xk, xt, xn, xa⟩ := x
      simp only at c0 c1 c2 c3 d0 d1 d2 d3
      have e4 : (xt.toList == xt.toList) = true := by simp
      have i1 : (0 : Int) ≤ (k : Int) := by omega
      have i2 : (k : Int) < (n : Int) := by omega
      clear hx hlc hnl hlc' hnl'
      go_wp2_with fail
      go_quiet (fail)
      go_wp2_with fail
      go_roundw
      case rel => exact ⟨k + 1, by omega, by go_num, HI.out.drewN _⟩
      case measure => simp [intOf] <;> omega
    · obtain rfl : k = n := by omega
      go_wp2_with fail
      go_ret
      exact ⟨rfl, HI.out⟩
def likeL (l m : List LT) : Prop := l.length = m.length ∧ ∀ (i : Nat) (x y : LT), l[i]? = some x → m[i]? = some y → x.k = y.k ∧ x.t = y.t ∧ x.n = y.n
theorem likeL.refl (l : List LT) : likeL l l := ⟨rfl, fun i x y hx hy => by rw [hx] at hy; injection hy with e; subst e; exact ⟨rfl, rfl, rfl⟩⟩
set_option maxRecDepth 100000 in
set_option maxHeartbeats 1600000 in
theorem Same_eq (v u : Value) (l m : List LT) (w : World) (hr : Rd w v l) (hu : Rd w u m) (hlm : likeL l m) (hl : l.length ≤ 1000000) : Calls Tryd.prog 17 #[v, u] w fun E w' => E = .returned (.bool true) ∧ Q w w' := by
  have HR := Lib.hid hr
  have HU := Lib.hid hu
  have HLM := Lib.hid hlm.2
  obtain ⟨sA, sc, rfl, hle, _⟩ := hr
  obtain ⟨uA, uc, rfl, hue, _⟩ := hu
  obtain ⟨n, hn⟩ : ∃ n, l.length = n := ⟨_, rfl⟩
  have hm : m.length = n := by rw [← hn]; exact hlm.1.symm
  have HN := Lib.hid hn
  have HM := Lib.hid hm
  rw [hn] at hl HR hle
  rw [hm] at HU hue
  rw [hn, hm]
  clear hn hm hlm
  go_enter Tryd.func17, Tryd.ntmps17
  go_wp2_with fail
  go_loopw [14] (fun i wr => ∃ k : Nat, k ≤ n ∧ i = .int .i64 k ∧ Hid (Q w wr)) (fun i _ => n - (intOf i).toNat)
  case atStart => exact ⟨0, by omega, rfl, Q.refl _⟩
  case round =>
    obtain ⟨k, hk, rfl, HI⟩ := hrel
    by_cases hlt : k < n
    · have hkl : k < l.length := by rw [HN.out]; exact hlt
      have hkm : k < m.length := by rw [HM.out]; exact hlt
      obtain ⟨rb, ro, rfl, hrb, hlc, hnl, c0, c1, c2, c3⟩ := HR.out.at HI.out hkl
      obtain ⟨rb', ro', rfl, hrb', hlc', hnl', d0, d1, d2, d3⟩ := HU.out.at HI.out hkm
      obtain ⟨q1, q2, q3⟩ := HLM.out k _ _ (List.getElem?_eq_getElem hkl) (List.getElem?_eq_getElem hkm)
      rw [q1] at c0
      rw [q2] at c1
      rw [q3] at c2
      obtain ⟨x, hx⟩ : ∃ x, m[k] = x := ⟨_, rfl⟩
      obtain ⟨a, ha⟩ : ∃ a, l[k].a = a := ⟨_, rfl⟩
      rw [hx] at c0 c1 c2 d0 d1 d2 d3
      rw [ha] at c3
      obtain ⟨xk, xt, xn, xa⟩ := x
      simp only at c0 c1 c2 c3 d0 d1 d2 d3
      have e4 : (xt.toList == xt.toList) = true := by simp
      have i1 : (0 : Int) ≤ (k : Int) := by omega
      have i2 : (k : Int) < (n : Int) := by omega
      have hz := HI.out.size
      have j1 : rb' < wr.heap.size := by omega
      clear hx hlc hnl hlc' hnl' q1 q2 q3 ha
      go_wp2_with fail
      go_quiet (fail)
      go_wp2_with fail
      go_roundw
      case rel => exact ⟨k + 1, by omega, by go_num, (HI.out.alloc _).drewN _⟩
      case measure => simp [intOf] <;> omega
    · obtain rfl : k = n := by omega
      go_wp2_with fail
      go_ret
      exact ⟨rfl, HI.out⟩
theorem Same_len (v u : Value) (l m : List LT) (w : World) (hr : Rd w v l) (hu : Rd w u m) (hlm : l.length ≠ m.length) (hl : l.length ≤ 1000000) (hm : m.length ≤ 1000000) : Calls Tryd.prog 17 #[v, u] w fun E w' => E = .returned (.bool false) ∧ Q w w' := by
  obtain ⟨sA, sc, rfl, hle, _⟩ := hr
  obtain ⟨uA, uc, rfl, hue, _⟩ := hu
  obtain ⟨n, hn⟩ : ∃ n, l.length = n := ⟨_, rfl⟩
  obtain ⟨n', hn'⟩ : ∃ n, m.length = n := ⟨_, rfl⟩
  rw [hn, hn'] at hlm
  rw [hn, hn']
  have t0 : ((n : Int) != (n' : Int)) = true := by simp; omega
  have t1 : ((n : Int) == (n' : Int)) = false := by simp; omega
  clear hn hn' hlm hl hm hle hue
  go_enter Tryd.func17, Tryd.ntmps17
  go_wp2_with fail
  go_ret
  exact ⟨rfl, Q.refl _⟩
end Go.Proofs.YtlnfoknghfoffaaDoor
