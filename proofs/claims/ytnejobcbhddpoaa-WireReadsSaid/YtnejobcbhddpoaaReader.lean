/- The contracts of NewReader and of a reader's methods. -/
import Derived.Test.YtnejobcbhddpoaaCutC
import Derived.OneCell
set_option linter.unusedVariables false
set_option linter.unusedSimpArgs false
namespace Go.Proofs.Ytnejobcbhddpoaa
open Go.ChangeShapes Go.WideShapes Go.ChangeAt Go.RowKit Wm

/-- a reader in block b: it stands at a place of a string, with an error -/
def Rr (w : World) (b : Nat) (s : ByteArray) (p e : Nat) : Prop := w.heap[b]? = some (.cells #[.string (rs s p), .int .i64 e] 81 (0, 0))
theorem two_c0 {w : World} {b : Nat} {u v : Value} {t : TypeId} (h : w.heap[b]? = some (.cells #[u, v] t (0, 0))) : w.cell? ⟨b, 0, none⟩ = some u := by simp [World.cell?, h]
theorem two_c1 {w : World} {b : Nat} {u v : Value} {t : TypeId} (h : w.heap[b]? = some (.cells #[u, v] t (0, 0))) : w.cell? ⟨b, 1, none⟩ = some v := by simp [World.cell?, h]
theorem two_f {w : World} {b : Nat} {u v : Value} {t : TypeId} (h : w.heap[b]? = some (.cells #[u, v] t (0, 0))) (i : Nat) : w.frozen? ⟨b, i, none⟩ = false := by simp [World.frozen?, h]
theorem two_s0 {w : World} {b : Nat} {u v x : Value} {t : TypeId} (h : w.heap[b]? = some (.cells #[u, v] t (0, 0))) : (w.setCell ⟨b, 0, none⟩ x).heap[b]? = some (.cells #[x, v] t (0, 0)) := by
  have hlt := lt_of_block h
  have h' : w.heap[b] = .cells #[u, v] t (0, 0) := by simpa [Array.getElem?_eq_getElem hlt] using h
  show (w.heap.modify b _)[b]? = _
  rw [Array.getElem?_eq_getElem (by simpa using hlt), Array.getElem_modify_self, h']
  rfl
theorem two_s1 {w : World} {b : Nat} {u v x : Value} {t : TypeId} (h : w.heap[b]? = some (.cells #[u, v] t (0, 0))) : (w.setCell ⟨b, 1, none⟩ x).heap[b]? = some (.cells #[u, x] t (0, 0)) := by
  have hlt := lt_of_block h
  have h' : w.heap[b] = .cells #[u, v] t (0, 0) := by simpa [Array.getElem?_eq_getElem hlt] using h
  show (w.heap.modify b _)[b]? = _
  rw [Array.getElem?_eq_getElem (by simpa using hlt), Array.getElem_modify_self, h']
  rfl
theorem Rr.lt {w : World} {b : Nat} {s : ByteArray} {p e : Nat} (h : Rr w b s p e) : b < w.heap.size := lt_of_block h
theorem Rr.q {w w' : World} {b : Nat} {s : ByteArray} {p e : Nat} (h : Rr w b s p e) (hq : Q w w') : Rr w' b s p e := (hq.block b h.lt).trans h
theorem Rr.set {w : World} {b : Nat} {s : ByteArray} {p e : Nat} (h : Rr w b s p e) (q e' : Nat) : Rr ((w.setCell ⟨b, 0, none⟩ (.string (rs s q))).setCell ⟨b, 1, none⟩ (.int .i64 e')) b s q e' := two_s1 (two_s0 h)
/-- what stood in memory stands as it was, but for block b -/
def G (b : Nat) (w w' : World) : Prop := w.grownBy w' (some b)
theorem G.of {b : Nat} {w w' : World} (h : Q w w') : G b w w' := ⟨h.os, h.tape, h.output, h.size, fun k hk _ => h.block k hk⟩
theorem G.refl (b : Nat) (w : World) : G b w w := G.of (Q.refl w)
theorem G.trans {b : Nat} {x y z : World} (h : G b x y) (k : G b y z) : G b x z := ⟨k.os.trans h.os, k.tape.trans h.tape, k.output.trans h.output, Nat.le_trans h.size k.size, fun i hi hne => (k.block i (Nat.lt_of_lt_of_le hi h.size) hne).trans (h.block i hi hne)⟩
theorem G.set {b : Nat} {w w' : World} (h : G b w w') (i : Nat) (u : Value) : G b w (w'.setCell ⟨b, i, none⟩ u) :=
  ⟨h.os, h.tape, h.output, Nat.le_trans h.size (by simp [World.setCell]), fun k hk hne => (Below.heap_setCell _ _ _ _ (fun e => hne (by rw [e]))).trans (h.block k hk hne)⟩
theorem G.below {b B : Nat} {w0 w w' : World} (hb : Below B w0 w) (h : G b w w') (hB : B ≤ b) (hw : B ≤ w.heap.size) : Below B w0 w' :=
  hb.grown h hw (fun k hk => by injection hk with hk; omega)
theorem G.rdI {b : Nat} {w w' : World} {v : Value} {l : List Int} (h : RdI w v l) (g : G b w w') (hne : ∀ A n c, v = .slice (some A) n c → 0 < n → A.block ≠ b) : RdI w' v l := by
  obtain ⟨A, c, rfl, h2, h3⟩ := h
  refine ⟨A, c, rfl, h2, fun h0 => ?_⟩
  obtain ⟨b', off, rfl, hb, hc⟩ := h3 h0
  have hn := hne _ _ _ rfl h0
  exact ⟨b', off, rfl, Nat.lt_of_lt_of_le hb g.size, fun i z hz => (World.cell?_of_block (a := ⟨b', off + i, none⟩) (g.block b' hb (fun e => hn (by injection e)))).trans (hc i z hz)⟩
def NewPost (s : ByteArray) (w : World) (E : Ending) (w' : World) : Prop := ∃ b, E = .returned (.pointer (some ⟨b, 0, none⟩)) ∧ w.heap.size ≤ b ∧ Rr w' b s 0 0 ∧ Q w w'
theorem New_c (s : ByteArray) (w : World) : Calls Try.prog 21 #[.string s] w (NewPost s w) := by
  have HR := Lib.hid (show Rr (w.alloc (.cells #[.string s, .int .i64 0] 81)) w.heap.size s 0 0 by unfold Rr; rw [rs_zero]; exact heap_alloc_new w _)
  go_enter Try.func21, Try.ntmps21
  go_wp2_with fail
  go_ret
  exact ⟨_, rfl, Nat.le_refl _, HR.out, (Q.refl w).alloc _⟩
theorem Err_c (s : ByteArray) (p e b : Nat) (w : World) (h : Rr w b s p e) : Calls Try.prog 31 #[.pointer (some ⟨b, 0, none⟩)] w fun E w' => E = .returned (.int .i64 e) ∧ w = w' := by
  have h1 := two_c1 h
  clear h
  go_enter Try.func31, Try.ntmps31
  go_wp2_with fail
  go_ret
  exact ⟨rfl, rfl⟩
theorem Left_c (s : ByteArray) (p e b : Nat) (w : World) (hs : s.size ≤ 1000000) (h : Rr w b s p e) : Calls Try.prog 29 #[.pointer (some ⟨b, 0, none⟩)] w fun E w' => E = .returned (.int .i64 (s.size - p : Nat)) ∧ w = w' := by
  have h1 := two_c0 h
  have h2 := rs_size s p
  have H2 := Lib.hid h2
  obtain ⟨R, hR⟩ : ∃ R, rs s p = R := ⟨_, rfl⟩
  rw [hR] at h1 h2 H2
  have h3 : R.size ≤ 1000000 := by omega
  clear h h2 hR
  go_enter Try.func29, Try.ntmps29
  go_wp2_with fail
  go_ret
  exact ⟨ret_int (by rw [H2.out]), rfl⟩
def endE (s : ByteArray) (p e : Nat) : Nat := if e = 0 then (if 0 < s.size - p then 4 else 0) else e
theorem End_c (s : ByteArray) (p e b : Nat) (w : World) (hs : s.size ≤ 1000000) (h : Rr w b s p e) : Calls Try.prog 32 #[.pointer (some ⟨b, 0, none⟩)] w fun E w' => E = .returned (.int .i64 (endE s p e)) ∧ w = w' := by
  have HS := Lib.hid hs; clear hs
  have HR := Lib.hid h; clear h
  by_cases h0 : e = 0
  · subst h0
    obtain ⟨m, hm⟩ : ∃ m, s.size - p = m := ⟨_, rfl⟩
    have HC := Lib.hid (fun w h => Left_c s p 0 b w HS.out h)
    rw [hm] at HC
    have hmb : (m : Int) ≤ 1000000 := by have := HS.out; omega
    by_cases h1 : 0 < m
    · have t1 : 0 < (m : Int) := by omega
      have HE := Lib.hid (show endE s p 0 = 4 by unfold endE; rw [if_pos rfl, hm, if_pos h1])
      clear hm
      go_enter Try.func32, Try.ntmps32
      go_wp2_with fail
      refine (Err_c s p 0 b _ HR.out).mono ?_; rintro E w1 ⟨rfl, rfl⟩
      go_wp2_with fail
      refine (HC.out _ HR.out).mono ?_; rintro E w1 ⟨rfl, rfl⟩
      go_wp2_with fail
      go_ret
      exact ⟨ret_int (by rw [HE.out]; rfl), rfl⟩
    · have t1 : ¬ 0 < (m : Int) := by omega
      have HE := Lib.hid (show endE s p 0 = 0 by unfold endE; rw [if_pos rfl, hm, if_neg h1])
      clear hm
      go_enter Try.func32, Try.ntmps32
      go_wp2_with fail
      refine (Err_c s p 0 b _ HR.out).mono ?_; rintro E w1 ⟨rfl, rfl⟩
      go_wp2_with fail
      refine (HC.out _ HR.out).mono ?_; rintro E w1 ⟨rfl, rfl⟩
      go_wp2_with fail
      go_ret
      exact ⟨ret_int (by rw [HE.out]; rfl), rfl⟩
  · have t0 : ((e : Int) != 0) = true := by simp; omega
    have t0' : ((e : Int) == 0) = false := by simp; omega
    have HE := Lib.hid (show endE s p e = e by unfold endE; rw [if_neg h0])
    clear h0
    go_enter Try.func32, Try.ntmps32
    go_wp2_with fail
    refine (Err_c s p e b _ HR.out).mono ?_; rintro E w1 ⟨rfl, rfl⟩
    go_wp2_with fail
    go_ret
    exact ⟨ret_int (by rw [HE.out]), rfl⟩
set_option maxRecDepth 100000 in
set_option maxHeartbeats 800000 in
theorem mUint_ok (s : ByteArray) (p b v l e : Nat) (w : World) (hs : s.size ≤ 1000000) (hn : Hid (NU s p v l e)) (h : Rr w b s p 0) : Calls Try.prog 42 #[.pointer (some ⟨b, 0, none⟩)] w fun E w' => E = .returned (.int .u64 v) ∧ Rr w' b s (p + l) e ∧ G b w w' := by
  have HR := Lib.hid h
  have h1 := two_c0 h
  clear h
  have HS := Lib.hid hs; clear hs
  go_enter Try.func42, Try.ntmps42
  go_wp2_with fail
  refine (Err_c s p 0 b _ HR.out).mono ?_; rintro E w1 ⟨rfl, rfl⟩
  go_wp2_with fail
  refine (cutUint_at s p v l e HS.out hn _).mono ?_; rintro E w1 ⟨rfl, hq1⟩
  have HR1 := Lib.hid (HR.out.q hq1)
  have HG := Lib.hid (G.of (b := b) hq1)
  clear h1 hq1
  have k0 := two_c0 HR1.out
  have k1 := two_c1 HR1.out
  have k2 := two_f HR1.out 0
  have k3 := two_f HR1.out 1
  go_wp2_with fail
  go_ret
  exact ⟨rfl, HR1.out.set _ _, (HG.out.set _ _).set _ _⟩
theorem mUint_stop (s : ByteArray) (p b e : Nat) (w : World) (he : e ≠ 0) (h : Rr w b s p e) : Calls Try.prog 42 #[.pointer (some ⟨b, 0, none⟩)] w fun E w' => E = .returned (.int .u64 0) ∧ w = w' := by
  have HR := Lib.hid h; clear h
  have t0 : ((e : Int) != 0) = true := by simp; omega
  have t0' : ((e : Int) == 0) = false := by simp; omega
  clear he
  go_enter Try.func42, Try.ntmps42
  go_wp2_with fail
  refine (Err_c s p e b _ HR.out).mono ?_; rintro E w1 ⟨rfl, rfl⟩
  go_wp2_with fail
  go_ret
  exact ⟨rfl, rfl⟩
theorem mInt_stop (s : ByteArray) (p b e : Nat) (lo hi : Int) (w : World) (he : e ≠ 0) (h : Rr w b s p e) : Calls Try.prog 39 #[.pointer (some ⟨b, 0, none⟩), .int .i64 lo, .int .i64 hi] w fun E w' => E = .returned (.int .i64 0) ∧ w = w' := by
  have HR := Lib.hid h; clear h
  have t0 : ((e : Int) != 0) = true := by simp; omega
  have t0' : ((e : Int) == 0) = false := by simp; omega
  clear he
  go_enter Try.func39, Try.ntmps39
  go_wp2_with fail
  refine (Err_c s p e b _ HR.out).mono ?_; rintro E w1 ⟨rfl, rfl⟩
  go_wp2_with fail
  go_ret
  exact ⟨rfl, rfl⟩
theorem mText_stop (s : ByteArray) (p b e : Nat) (most : Int) (w : World) (he : e ≠ 0) (h : Rr w b s p e) : Calls Try.prog 40 #[.pointer (some ⟨b, 0, none⟩), .int .i64 most] w fun E w' => E = .returned (.string ByteArray.empty) ∧ w = w' := by
  have HR := Lib.hid h; clear h
  have t0 : ((e : Int) != 0) = true := by simp; omega
  have t0' : ((e : Int) == 0) = false := by simp; omega
  clear he
  go_enter Try.func40, Try.ntmps40
  go_wp2_with fail
  refine (Err_c s p e b _ HR.out).mono ?_; rintro E w1 ⟨rfl, rfl⟩
  go_wp2_with fail
  go_ret
  exact ⟨rfl, rfl⟩
theorem mInts_stop (s : ByteArray) (p b e : Nat) (most lo hi : Int) (w : World) (he : e ≠ 0) (h : Rr w b s p e) : Calls Try.prog 45 #[.pointer (some ⟨b, 0, none⟩), .int .i64 most, .int .i64 lo, .int .i64 hi] w fun E w' => E = .returned (.slice none 0 0) ∧ w = w' := by
  have HR := Lib.hid h; clear h
  have t0 : ((e : Int) != 0) = true := by simp; omega
  have t0' : ((e : Int) == 0) = false := by simp; omega
  clear he
  go_enter Try.func45, Try.ntmps45
  go_wp2_with fail
  refine (Err_c s p e b _ HR.out).mono ?_; rintro E w1 ⟨rfl, rfl⟩
  go_wp2_with fail
  go_ret
  exact ⟨rfl, rfl⟩
set_option maxRecDepth 100000 in
set_option maxHeartbeats 800000 in
theorem mInt_ok (s : ByteArray) (p b : Nat) (lo hi v : Int) (l e : Nat) (w : World) (hs : s.size ≤ 1000000) (hn : Hid (NI s p lo hi v l e)) (h : Rr w b s p 0) : Calls Try.prog 39 #[.pointer (some ⟨b, 0, none⟩), .int .i64 lo, .int .i64 hi] w fun E w' => E = .returned (.int .i64 v) ∧ Rr w' b s (p + l) e ∧ G b w w' := by
  have HR := Lib.hid h
  have h1 := two_c0 h
  clear h
  have HC := Lib.hid (fun w => cutInt_at s p lo hi v l e hs hn w)
  clear hs
  go_enter Try.func39, Try.ntmps39
  go_wp2_with fail
  refine (Err_c s p 0 b _ HR.out).mono ?_; rintro E w1 ⟨rfl, rfl⟩
  go_wp2_with fail
  refine (HC.out _).mono ?_; rintro E w1 ⟨rfl, hq1⟩
  have HR1 := Lib.hid (HR.out.q hq1)
  have HG := Lib.hid (G.of (b := b) hq1)
  clear h1 hq1
  have k0 := two_c0 HR1.out
  have k1 := two_c1 HR1.out
  have k2 := two_f HR1.out 0
  have k3 := two_f HR1.out 1
  go_wp2_with fail
  go_ret
  exact ⟨rfl, HR1.out.set _ _, (HG.out.set _ _).set _ _⟩
set_option maxRecDepth 100000 in
set_option maxHeartbeats 800000 in
theorem mText_ok (s : ByteArray) (p b : Nat) (most : Int) (t : ByteArray) (l e : Nat) (w : World) (hs : s.size ≤ 1000000) (hp : p ≤ s.size) (hm : Fit most) (hn : Hid (NT s p most t l e)) (h : Rr w b s p 0) : Calls Try.prog 40 #[.pointer (some ⟨b, 0, none⟩), .int .i64 most] w fun E w' => E = .returned (.string t) ∧ Rr w' b s (p + l) e ∧ G b w w' := by
  have HR := Lib.hid h
  have h1 := two_c0 h
  clear h
  have HC := Lib.hid (fun w => cutText_at s p most t l e hs hp hm hn w)
  clear hs hp hm
  go_enter Try.func40, Try.ntmps40
  go_wp2_with fail
  refine (Err_c s p 0 b _ HR.out).mono ?_; rintro E w1 ⟨rfl, rfl⟩
  go_wp2_with fail
  refine (HC.out _).mono ?_; rintro E w1 ⟨rfl, hq1⟩
  have HR1 := Lib.hid (HR.out.q hq1)
  have HG := Lib.hid (G.of (b := b) hq1)
  clear h1 hq1
  have k0 := two_c0 HR1.out
  have k1 := two_c1 HR1.out
  have k2 := two_f HR1.out 0
  have k3 := two_f HR1.out 1
  go_wp2_with fail
  go_ret
  exact ⟨rfl, HR1.out.set _ _, (HG.out.set _ _).set _ _⟩
theorem G.rd {b : Nat} {w w' : World} {v : Value} {l : List Int} (h : RdI w v l) (hn : NB (b + 1) v) (g : G b w w') : RdI w' v l :=
  g.rdI h (fun A n c e _ => by have := hn A n c e; omega)
/-- what a read of a list leaves -/
def MPost (s : ByteArray) (p b : Nat) (w : World) (l : List Int) (n e : Nat) (E : Ending) (w' : World) : Prop := ∃ v, E = .returned v ∧ RdI w' v l ∧ NB w.heap.size v ∧ Rr w' b s (p + n) e ∧ G b w w'
set_option maxRecDepth 100000 in
set_option maxHeartbeats 800000 in
theorem mInts_ok (s : ByteArray) (p b : Nat) (most lo hi : Int) (l : List Int) (n e : Nat) (w : World) (hs : s.size ≤ 1000000) (hp : p ≤ s.size) (hm : Fit most) (hn : Hid (outL s p most lo hi = (l, n, e))) (h : Rr w b s p 0) : Calls Try.prog 45 #[.pointer (some ⟨b, 0, none⟩), .int .i64 most, .int .i64 lo, .int .i64 hi] w (MPost s p b w l n e) := by
  have HR := Lib.hid h
  have h1 := two_c0 h
  clear h
  have HC := Lib.hid (fun w => cutInts_at s p most lo hi l n e hs hp hm hn w)
  clear hs hp hm
  go_enter Try.func45, Try.ntmps45
  go_wp2_with fail
  refine (Err_c s p 0 b _ HR.out).mono ?_; rintro E w1 ⟨rfl, rfl⟩
  go_wp2_with fail
  refine (HC.out _).mono ?_; rintro E w1 ⟨v, rfl, hv, hnb, hq1⟩
  have HV := Lib.hid hv
  have HB := Lib.hid hnb
  have HR1 := Lib.hid (HR.out.q hq1)
  have HG := Lib.hid (G.of (b := b) hq1)
  clear h1 hq1 hv hnb
  have k0 := two_c0 HR1.out
  have k1 := two_c1 HR1.out
  have k2 := two_f HR1.out 0
  have k3 := two_f HR1.out 1
  go_wp2_with fail
  go_ret
  exact ⟨v, rfl, G.rd HV.out (fun A n c e => by have := HB.out A n c e; have := HR.out.lt; omega) (((G.refl b _).set _ _).set _ _), HB.out, HR1.out.set _ _, (HG.out.set _ _).set _ _⟩
/-! a reader that is nil -/
theorem Err_nil (w : World) : Calls Try.prog 31 #[.pointer none] w fun E w' => E = .returned (.int .i64 1) ∧ w = w' := by
  go_enter Try.func31, Try.ntmps31
  go_wp2_with fail
  go_ret
  exact ⟨rfl, rfl⟩
theorem Left_nil (w : World) : Calls Try.prog 29 #[.pointer none] w fun E w' => E = .returned (.int .i64 0) ∧ w = w' := by
  go_enter Try.func29, Try.ntmps29
  go_wp2_with fail
  go_ret
  exact ⟨rfl, rfl⟩
theorem End_nil (w : World) : Calls Try.prog 32 #[.pointer none] w fun E w' => E = .returned (.int .i64 1) ∧ w = w' := by
  go_enter Try.func32, Try.ntmps32
  go_wp2_with fail
  refine (Err_nil _).mono ?_; rintro E w1 ⟨rfl, rfl⟩
  go_wp2_with fail
  go_ret
  exact ⟨rfl, rfl⟩
theorem mUint_nil (w : World) : Calls Try.prog 42 #[.pointer none] w fun E w' => E = .returned (.int .u64 0) ∧ w = w' := by
  go_enter Try.func42, Try.ntmps42
  go_wp2_with fail
  refine (Err_nil _).mono ?_; rintro E w1 ⟨rfl, rfl⟩
  go_wp2_with fail
  go_ret
  exact ⟨rfl, rfl⟩
theorem mInt_nil (lo hi : Int) (w : World) : Calls Try.prog 39 #[.pointer none, .int .i64 lo, .int .i64 hi] w fun E w' => E = .returned (.int .i64 0) ∧ w = w' := by
  go_enter Try.func39, Try.ntmps39
  go_wp2_with fail
  refine (Err_nil _).mono ?_; rintro E w1 ⟨rfl, rfl⟩
  go_wp2_with fail
  go_ret
  exact ⟨rfl, rfl⟩
theorem mText_nil (most : Int) (w : World) : Calls Try.prog 40 #[.pointer none, .int .i64 most] w fun E w' => E = .returned (.string ByteArray.empty) ∧ w = w' := by
  go_enter Try.func40, Try.ntmps40
  go_wp2_with fail
  refine (Err_nil _).mono ?_; rintro E w1 ⟨rfl, rfl⟩
  go_wp2_with fail
  go_ret
  exact ⟨rfl, rfl⟩
theorem mInts_nil (most lo hi : Int) (w : World) : Calls Try.prog 45 #[.pointer none, .int .i64 most, .int .i64 lo, .int .i64 hi] w fun E w' => E = .returned (.slice none 0 0) ∧ w = w' := by
  go_enter Try.func45, Try.ntmps45
  go_wp2_with fail
  refine (Err_nil _).mono ?_; rintro E w1 ⟨rfl, rfl⟩
  go_wp2_with fail
  go_ret
  exact ⟨rfl, rfl⟩
end Go.Proofs.Ytnejobcbhddpoaa
