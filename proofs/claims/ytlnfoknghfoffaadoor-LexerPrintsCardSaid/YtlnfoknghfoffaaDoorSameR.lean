/- The contracts of Same and of the reference's Same at any two lists. -/
import Derived.Test.YtlnfoknghfoffaaDoorSame
set_option linter.unusedVariables false
set_option linter.unusedSimpArgs false
namespace Go.Proofs.YtlnfoknghfoffaaDoor
open Go.ChangeShapes Go.WideShapes Go.ChangeAt Go.RowKit Lm

theorem bl_of {s t : ByteArray} (h : s = t) : (s.toList == t.toList) = true := by subst h; simp
theorem bl_no {s t : ByteArray} (h : s ≠ t) : (s.toList == t.toList) = false := by
  rw [beq_eq_false_iff_ne]; exact fun g => h (lst_eq g)
theorem il_of {s t : Int} (h : s = t) : (s == t) = true := by subst h; simp
theorem il_no {s t : Int} (h : s ≠ t) : (s == t) = false := by simp [h]
def like1 (x y : LT) : Prop := x.k = y.k ∧ x.t = y.t ∧ x.n = y.n
theorem like_no {x y : LT} (h : ¬ like1 x y) : ∃ b1 b2 b3, (x.k == y.k) = b1 ∧ (x.t.toList == y.t.toList) = b2 ∧ (x.n == y.n) = b3 ∧ (b1 && b2 && b3) = false := by
  refine ⟨_, _, _, rfl, rfl, rfl, ?_⟩
  by_cases h1 : x.k = y.k
  · by_cases h2 : x.t = y.t
    · have h3 : x.n ≠ y.n := fun h3 => h ⟨h1, h2, h3⟩
      rw [il_no h3]; simp
    · rw [bl_no h2]; simp
  · rw [il_no h1]; simp
/-- the same length, and the answer -/
def SmP (l m : List LT) (n : Nat) (b : Bool) : Prop := l.length = n ∧ m.length = n ∧ (b = true ↔ ∀ (i : Nat) (h1 : i < l.length) (h2 : i < m.length), like1 l[i] m[i])
theorem smp_no {l m : List LT} {n k : Nat} {b : Bool} (h : SmP l m n b) (h1 : k < l.length) (h2 : k < m.length) (hk : ¬ like1 l[k] m[k]) : b = false := by
  cases b with
  | false => rfl
  | true => exact absurd (h.2.2.1 rfl k h1 h2) hk
theorem smp_yes {l m : List LT} {n : Nat} {b : Bool} (h : SmP l m n b) (hk : ∀ (i : Nat) (h1 : i < l.length) (h2 : i < m.length), i < n → like1 l[i] m[i]) : b = true := h.2.2.2 fun i h1 h2 => hk i h1 h2 (by rw [h.1] at h1; exact h1)
set_option maxRecDepth 100000 in
set_option maxHeartbeats 3200000 in
theorem Same_any (v u : Value) (l m : List LT) (n : Nat) (b : Bool) (w : World) (hr : Rd w v l) (hu : Rd w u m) (hs : Hid (SmP l m n b)) (hl : n ≤ 1000000) : Calls Tryd.prog 17 #[v, u] w fun E w' => E = .returned (.bool b) ∧ Q w w' := by
  have HR := Lib.hid hr
  have HU := Lib.hid hu
  obtain ⟨sA, sc, rfl, hle, _⟩ := hr
  obtain ⟨uA, uc, rfl, hue, _⟩ := hu
  rw [hs.out.1] at HR hle
  rw [hs.out.2.1] at HU hue
  rw [hs.out.1, hs.out.2.1]
  go_enter Tryd.func17, Tryd.ntmps17
  go_wp2_with fail
  go_loopw [14] (fun i wr => ∃ k : Nat, k ≤ n ∧ i = .int .i64 k ∧ Hid (Q w wr ∧ ∀ (i : Nat) (h1 : i < l.length) (h2 : i < m.length), i < k → like1 l[i] m[i])) (fun i _ => n - (intOf i).toNat)
  case atStart => exact ⟨0, by omega, rfl, Q.refl _, fun i h1 h2 h3 => absurd h3 (Nat.not_lt_zero _)⟩
  case round =>
    obtain ⟨k, hk, rfl, HI⟩ := hrel
    by_cases hlt : k < n
    · have hkl : k < l.length := by rw [hs.out.1]; exact hlt
      have hkm : k < m.length := by rw [hs.out.2.1]; exact hlt
      obtain ⟨rb, ro, rfl, hrb, hlc, hnl, c0, c1, c2, c3⟩ := HR.out.at HI.out.1 hkl
      obtain ⟨rb', ro', rfl, hrb', hlc', hnl', d0, d1, d2, d3⟩ := HU.out.at HI.out.1 hkm
      have i1 : (0 : Int) ≤ (k : Int) := by omega
      have i2 : (k : Int) < (n : Int) := by omega
      have hz := HI.out.1.size
      have j1 : rb' < wr.heap.size := by omega
      by_cases g : like1 l[k] m[k]
      · have HE := Lib.hid (show ∀ (i : Nat) (h1 : i < l.length) (h2 : i < m.length), i < k + 1 → like1 l[i] m[i] from fun i h1 h2 h3 => by
          by_cases e : i = k
          · subst e; exact g
          · exact HI.out.2 i h1 h2 (by omega))
        obtain ⟨q1, q2, q3⟩ := g
        rw [q1] at c0
        rw [q2] at c1
        rw [q3] at c2
        obtain ⟨x, hx⟩ : ∃ x, m[k] = x := ⟨_, rfl⟩
        obtain ⟨a, ha⟩ : ∃ a, l[k].a = a := ⟨_, rfl⟩
        rw [hx] at c0 c1 c2 d0 d1 d2 d3
        rw [ha] at c3
        obtain ⟨xk, xt, xn, xa⟩ := x
        simp only at c0 c1 c2 c3 d0 d1 d2 d3
        have e4 : (xt.toList == xt.toList) = true := by simp
        clear hx hlc hnl hlc' hnl' q1 q2 q3 ha
        go_wp2_with fail
        go_quiet (fail)
        go_wp2_with fail
        go_roundw
        case rel => exact ⟨k + 1, by omega, by go_num, (HI.out.1.alloc _).drewN _, HE.out⟩
        case measure => simp [intOf] <;> omega
      · have hb := smp_no hs.out hkl hkm g
        obtain ⟨b1, b2, b3, t1, t2, t3, t4⟩ := like_no g
        obtain ⟨x, hx⟩ : ∃ x, m[k] = x := ⟨_, rfl⟩
        obtain ⟨y, hy⟩ : ∃ y, l[k] = y := ⟨_, rfl⟩
        rw [hx] at d0 d1 d2 d3 t1 t2 t3
        rw [hy] at c0 c1 c2 c3 t1 t2 t3
        obtain ⟨xk, xt, xn, xa⟩ := x
        obtain ⟨yk, yt, yn, ya⟩ := y
        simp only at c0 c1 c2 c3 d0 d1 d2 d3 t1 t2 t3
        subst hb
        clear hx hlc hnl hlc' hnl' hy g
        cases b1 <;> cases b2 <;> cases b3 <;> first | (exact absurd t4 (by decide)) | skip
        all_goals
          clear t4
          go_wp2_with fail
          go_quiet (fail)
          go_wp2_with fail
          go_ret
          exact ⟨rfl, (HI.out.1.alloc _).drewN _⟩
    · obtain rfl : k = n := by omega
      have HE := Lib.hid (smp_yes hs.out HI.out.2)
      go_wp2_with fail
      go_ret
      exact ⟨by rw [HE.out]; rfl, HI.out.1⟩
set_option maxRecDepth 100000 in
set_option maxHeartbeats 3200000 in
theorem rSame_any (v u : Value) (l m : List LT) (n : Nat) (b : Bool) (w : World) (hr : Rd w v l) (hu : Rd w u m) (hs : Hid (SmP l m n b)) (hl : n ≤ 1000000) : Calls Tryd.prog 18 #[v, u] w fun E w' => E = .returned (.bool b) ∧ Q w w' := by
  have HR := Lib.hid hr
  have HU := Lib.hid hu
  obtain ⟨sA, sc, rfl, hle, _⟩ := hr
  obtain ⟨uA, uc, rfl, hue, _⟩ := hu
  rw [hs.out.1] at HR hle
  rw [hs.out.2.1] at HU hue
  rw [hs.out.1, hs.out.2.1]
  go_enter Tryd.func18, Tryd.ntmps18
  go_wp2_with fail
  go_loopw [5] (fun i wr => ∃ k : Nat, k ≤ n ∧ i = .int .i64 k ∧ Hid (Q w wr ∧ ∀ (i : Nat) (h1 : i < l.length) (h2 : i < m.length), i < k → like1 l[i] m[i])) (fun i _ => n - (intOf i).toNat)
  case atStart => exact ⟨0, by omega, rfl, Q.refl _, fun i h1 h2 h3 => absurd h3 (Nat.not_lt_zero _)⟩
  case round =>
    obtain ⟨k, hk, rfl, HI⟩ := hrel
    by_cases hlt : k < n
    · have hkl : k < l.length := by rw [hs.out.1]; exact hlt
      have hkm : k < m.length := by rw [hs.out.2.1]; exact hlt
      obtain ⟨rb, ro, rfl, hrb, hlc, hnl, c0, c1, c2, c3⟩ := HR.out.at HI.out.1 hkl
      obtain ⟨rb', ro', rfl, hrb', hlc', hnl', d0, d1, d2, d3⟩ := HU.out.at HI.out.1 hkm
      have i1 : (0 : Int) ≤ (k : Int) := by omega
      have i2 : (k : Int) < (n : Int) := by omega
      by_cases g : like1 l[k] m[k]
      · have HE := Lib.hid (show ∀ (i : Nat) (h1 : i < l.length) (h2 : i < m.length), i < k + 1 → like1 l[i] m[i] from fun i h1 h2 h3 => by
          by_cases e : i = k
          · subst e; exact g
          · exact HI.out.2 i h1 h2 (by omega))
        obtain ⟨q1, q2, q3⟩ := g
        rw [q1] at c0
        rw [q2] at c1
        rw [q3] at c2
        obtain ⟨x, hx⟩ : ∃ x, m[k] = x := ⟨_, rfl⟩
        obtain ⟨a, ha⟩ : ∃ a, l[k].a = a := ⟨_, rfl⟩
        rw [hx] at c0 c1 c2 d0 d1 d2 d3
        rw [ha] at c3
        obtain ⟨xk, xt, xn, xa⟩ := x
        simp only at c0 c1 c2 c3 d0 d1 d2 d3
        have e4 : (xt.toList == xt.toList) = true := by simp
        clear hx hlc hnl hlc' hnl' q1 q2 q3 ha
        go_wp2_with fail
        go_quiet (fail)
        go_wp2_with fail
        go_roundw
        case rel => exact ⟨k + 1, by omega, by go_num, HI.out.1.drewN _, HE.out⟩
        case measure => simp [intOf] <;> omega
      · have hb := smp_no hs.out hkl hkm g
        obtain ⟨x, hx⟩ : ∃ x, m[k] = x := ⟨_, rfl⟩
        obtain ⟨y, hy⟩ : ∃ y, l[k] = y := ⟨_, rfl⟩
        rw [hx] at d0 d1 d2 d3 g
        rw [hy] at c0 c1 c2 c3 g
        obtain ⟨xk, xt, xn, xa⟩ := x
        obtain ⟨yk, yt, yn, ya⟩ := y
        unfold like1 at g
        simp only at c0 c1 c2 c3 d0 d1 d2 d3 g
        subst hb
        clear hx hlc hnl hlc' hnl' hy
        by_cases g1 : yk = xk
        · subst g1
          by_cases g2 : yt = xt
          · subst g2
            have g3 : ¬ yn = xn := fun e => g ⟨rfl, rfl, e⟩
            have e4 : (yt.toList == yt.toList) = true := by simp
            have t1 : (yn == xn) = false := il_no g3
            have t2 : (yn != xn) = true := by simp [g3]
            clear g
            go_wp2_with fail
            go_quiet (fail)
            go_wp2_with fail
            go_ret
            exact ⟨rfl, HI.out.1.drewN _⟩
          · have t1 : (yt.toList == xt.toList) = false := bl_no g2
            have t2 : (yt.toList != xt.toList) = true := by rw [bne, t1]; rfl
            clear g g2
            go_wp2_with fail
            go_quiet (fail)
            go_wp2_with fail
            go_ret
            exact ⟨rfl, HI.out.1.drewN _⟩
        · have t1 : (yk == xk) = false := il_no g1
          have t2 : (yk != xk) = true := by simp [g1]
          clear g
          go_wp2_with fail
          go_quiet (fail)
          go_wp2_with fail
          go_ret
          exact ⟨rfl, HI.out.1.drewN _⟩
    · obtain rfl : k = n := by omega
      have HE := Lib.hid (smp_yes hs.out HI.out.2)
      go_wp2_with fail
      go_ret
      exact ⟨by rw [HE.out]; rfl, HI.out.1⟩
theorem rSame_len (v u : Value) (l m : List LT) (w : World) (hr : Rd w v l) (hu : Rd w u m) (hlm : l.length ≠ m.length) : Calls Tryd.prog 18 #[v, u] w fun E w' => E = .returned (.bool false) ∧ Q w w' := by
  obtain ⟨sA, sc, rfl, hle, _⟩ := hr
  obtain ⟨uA, uc, rfl, hue, _⟩ := hu
  obtain ⟨n, hn⟩ : ∃ n, l.length = n := ⟨_, rfl⟩
  obtain ⟨n', hn'⟩ : ∃ n, m.length = n := ⟨_, rfl⟩
  rw [hn, hn'] at hlm
  rw [hn, hn']
  have t0 : ((n : Int) != (n' : Int)) = true := by simp; omega
  have t1 : ((n : Int) == (n' : Int)) = false := by simp; omega
  clear hn hn' hlm hle hue
  go_enter Tryd.func18, Tryd.ntmps18
  go_wp2_with fail
  go_ret
  exact ⟨rfl, Q.refl _⟩
end Go.Proofs.YtlnfoknghfoffaaDoor
