/- The contract of the law's read. -/
import Derived.Test.YtnejobcbhddpoaaReader
set_option linter.unusedVariables false
set_option linter.unusedSimpArgs false
namespace Go.Proofs.Ytnejobcbhddpoaa
open Go.ChangeShapes Go.WideShapes Go.ChangeAt Go.RowKit Wm

theorem G.blk {b : Nat} {w w' : World} (g : G b w w') {c : Nat} {o : Obj} (h : w.heap[c]? = some o) (hne : c ≠ b) : w'.heap[c]? = some o :=
  (g.block c (lt_of_block h) (fun e => hne (by injection e))).trans h
theorem cell_blk {w : World} {b : Nat} {cs : Array Value} {T : TypeId} (h : w.heap[b]? = some (.cells cs T (0, 0))) (i : Nat) : w.cell? ⟨b, i, none⟩ = cs[i]? := by simp [World.cell?, h]
theorem free_blk {w : World} {b : Nat} {cs : Array Value} {T : TypeId} (h : w.heap[b]? = some (.cells cs T (0, 0))) (i : Nat) : w.frozen? ⟨b, i, none⟩ = false := by simp [World.frozen?, h]
theorem five {w : World} {b : Nat} {c0 c1 c2 c3 c4 : Value} {T : TypeId} (h : w.heap[b]? = some (.cells #[c0, c1, c2, c3, c4] T (0, 0))) : w.cell? ⟨b, 0, none⟩ = some c0 ∧ w.cell? ⟨b, 1, none⟩ = some c1 ∧ w.cell? ⟨b, 2, none⟩ = some c2 ∧ w.cell? ⟨b, 3, none⟩ = some c3 ∧ w.cell? ⟨b, 4, none⟩ = some c4 ∧ ∀ i, w.frozen? ⟨b, i, none⟩ = false :=
  ⟨cell_blk h 0, cell_blk h 1, cell_blk h 2, cell_blk h 3, cell_blk h 4, free_blk h⟩
theorem three (w : World) (c1 c2 c3 : Array Value) (t1 t2 t3 : TypeId) : (((w.alloc (.cells c1 t1)).alloc (.cells c2 t2)).alloc (.cells c3 t3)).heap[w.heap.size]? = some (.cells c1 t1 (0, 0)) ∧ (((w.alloc (.cells c1 t1)).alloc (.cells c2 t2)).alloc (.cells c3 t3)).heap[w.heap.size + 1]? = some (.cells c2 t2 (0, 0)) ∧ (((w.alloc (.cells c1 t1)).alloc (.cells c2 t2)).alloc (.cells c3 t3)).heap[w.heap.size + 1 + 1]? = some (.cells c3 t3 (0, 0)) := by
  show (((w.heap.push _).push _).push _)[_]? = _ ∧ (((w.heap.push _).push _).push _)[_]? = _ ∧ (((w.heap.push _).push _).push _)[_]? = _
  refine ⟨?_, ?_, ?_⟩
  · simp [Array.getElem?_push]
    intro h; omega
  · simp [Array.getElem?_push, Array.getElem_push]
  · simp [Array.getElem?_push, Array.getElem_push]
def ov (k : Nat) (lo hi most : Int) : Value := .agg #[.int .u8 k, .int .i64 lo, .int .i64 hi, .int .i64 most]
def fv (k n : Nat) (i : Int) (t : ByteArray) (v : Value) : Value := .agg #[.int .u8 k, .int .u64 n, .int .i64 i, .string t, v]
/-- what a read answers: number, int, text, list, bytes, error -/
def outR (s : ByteArray) (p e k : Nat) (lo hi most : Int) : Nat × Int × ByteArray × List Int × Nat × Nat :=
  if e = 0 then
    (if k = 0 then (vU s p, 0, ByteArray.empty, [], lU s p, eU s p)
     else if k = 1 then (0, vI s p lo hi, ByteArray.empty, [], lI s p lo hi, eI s p lo hi)
     else if k = 2 then (0, 0, tT s p most, [], lT s p most, eT s p most)
     else (0, 0, ByteArray.empty, (outL s p most lo hi).1, (outL s p most lo hi).2.1, (outL s p most lo hi).2.2))
  else (0, 0, ByteArray.empty, [], 0, e)
def RPost (s : ByteArray) (p b : Nat) (w : World) (k : Nat) (r : Nat × Int × ByteArray × List Int × Nat × Nat) (E : Ending) (w' : World) : Prop :=
  ∃ v, E = .returned (fv k r.1 r.2.1 r.2.2.1 v) ∧ RdI w' v r.2.2.2.1 ∧ NB w.heap.size v ∧ Rr w' b s (p + r.2.2.2.2.1) r.2.2.2.2.2 ∧ G b w w'
theorem G.new {b : Nat} {w w' : World} (h : G b w w') {g i : Nat} (hg : w.heap.size ≤ g) (u : Value) : G b w (w'.setCell ⟨g, i, none⟩ u) :=
  ⟨h.os, h.tape, h.output, Nat.le_trans h.size (by simp [World.setCell]), fun k hk hne => (Below.heap_setCell _ _ _ _ (fun e => by simp at e; omega)).trans (h.block k hk hne)⟩
theorem Rr.other {w : World} {b : Nat} {s : ByteArray} {p e : Nat} (h : Rr w b s p e) {g i : Nat} (hg : g ≠ b) (u : Value) : Rr (w.setCell ⟨g, i, none⟩ u) b s p e :=
  (Below.heap_setCell _ _ _ _ (fun e => hg (by simp at e; omega))).trans h
theorem RdI.other {w : World} {v : Value} {l : List Int} (h : RdI w v l) {g i : Nat} (hn : NB (g + 1) v) (u : Value) : RdI (w.setCell ⟨g, i, none⟩ u) v l := by
  obtain ⟨A, c, rfl, h2, h3⟩ := h
  refine ⟨A, c, rfl, h2, fun h0 => ?_⟩
  obtain ⟨b', off, rfl, hb, hc⟩ := h3 h0
  have := hn _ _ _ rfl
  simp only at this
  exact ⟨b', off, rfl, by simp [World.setCell]; exact hb, fun i z hz => (World.cell?_setCell_other _ _ _ _ (by intro g; injection g with g1 g2; omega)).trans (hc i z hz)⟩
theorem NB.mono {B B' : Nat} {v : Value} (h : NB B v) (hb : B' ≤ B) : NB B' v := fun A n c e => Nat.le_trans hb (h A n c e)
theorem zeroB : (ByteArray.mk #[]) = ByteArray.empty := rfl
theorem mUint_r (s : ByteArray) (p b e : Nat) (lo hi most : Int) {n : Nat} {i : Int} {t : ByteArray} {l : List Int} {c e' : Nat} (w : World) (hs : s.size ≤ 1000000) (ho : outR s p e 0 lo hi most = (n, i, t, l, c, e')) (h : Rr w b s p e) : Calls Try.prog 42 #[.pointer (some ⟨b, 0, none⟩)] w fun E w' => E = .returned (.int .u64 n) ∧ i = 0 ∧ t = ByteArray.empty ∧ l = [] ∧ Rr w' b s (p + c) e' ∧ G b w w' := by
  unfold outR at ho
  by_cases he : e = 0
  · subst he
    rw [if_pos rfl, if_pos rfl] at ho
    simp only [Prod.mk.injEq] at ho
    obtain ⟨rfl, rfl, rfl, rfl, rfl, rfl⟩ := ho
    exact (mUint_ok s p b _ _ _ w hs (Lib.hid (NU.self s p)) h).mono fun E w' ⟨a, c, d⟩ => ⟨a, rfl, rfl, rfl, c, d⟩
  · rw [if_neg he] at ho
    simp only [Prod.mk.injEq] at ho
    obtain ⟨rfl, rfl, rfl, rfl, rfl, rfl⟩ := ho
    exact (mUint_stop s p b e w he h).mono fun E w' ⟨a, c⟩ => ⟨a, rfl, rfl, rfl, c ▸ h, c ▸ G.refl b w⟩
theorem mInt_r (s : ByteArray) (p b e : Nat) (lo hi most : Int) {n : Nat} {i : Int} {t : ByteArray} {l : List Int} {c e' : Nat} (w : World) (hs : s.size ≤ 1000000) (ho : outR s p e 1 lo hi most = (n, i, t, l, c, e')) (h : Rr w b s p e) : Calls Try.prog 39 #[.pointer (some ⟨b, 0, none⟩), .int .i64 lo, .int .i64 hi] w fun E w' => E = .returned (.int .i64 i) ∧ n = 0 ∧ t = ByteArray.empty ∧ l = [] ∧ Rr w' b s (p + c) e' ∧ G b w w' := by
  unfold outR at ho
  by_cases he : e = 0
  · subst he
    rw [if_pos rfl, if_neg (by omega), if_pos rfl] at ho
    simp only [Prod.mk.injEq] at ho
    obtain ⟨rfl, rfl, rfl, rfl, rfl, rfl⟩ := ho
    exact (mInt_ok s p b lo hi _ _ _ w hs (Lib.hid ⟨rfl, rfl, rfl⟩) h).mono fun E w' ⟨a, c, d⟩ => ⟨a, rfl, rfl, rfl, c, d⟩
  · rw [if_neg he] at ho
    simp only [Prod.mk.injEq] at ho
    obtain ⟨rfl, rfl, rfl, rfl, rfl, rfl⟩ := ho
    exact (mInt_stop s p b e lo hi w he h).mono fun E w' ⟨a, c⟩ => ⟨a, rfl, rfl, rfl, c ▸ h, c ▸ G.refl b w⟩
theorem mText_r (s : ByteArray) (p b e : Nat) (lo hi most : Int) {n : Nat} {i : Int} {t : ByteArray} {l : List Int} {c e' : Nat} (w : World) (hs : s.size ≤ 1000000) (hp : p ≤ s.size) (hm : Fit most) (ho : outR s p e 2 lo hi most = (n, i, t, l, c, e')) (h : Rr w b s p e) : Calls Try.prog 40 #[.pointer (some ⟨b, 0, none⟩), .int .i64 most] w fun E w' => E = .returned (.string t) ∧ n = 0 ∧ i = 0 ∧ l = [] ∧ Rr w' b s (p + c) e' ∧ G b w w' := by
  unfold outR at ho
  by_cases he : e = 0
  · subst he
    rw [if_pos rfl, if_neg (by omega), if_neg (by omega), if_pos rfl] at ho
    simp only [Prod.mk.injEq] at ho
    obtain ⟨rfl, rfl, rfl, rfl, rfl, rfl⟩ := ho
    exact (mText_ok s p b most _ _ _ w hs hp hm (Lib.hid ⟨rfl, rfl, rfl⟩) h).mono fun E w' ⟨a, c, d⟩ => ⟨a, rfl, rfl, rfl, c, d⟩
  · rw [if_neg he] at ho
    simp only [Prod.mk.injEq] at ho
    obtain ⟨rfl, rfl, rfl, rfl, rfl, rfl⟩ := ho
    exact (mText_stop s p b e most w he h).mono fun E w' ⟨a, c⟩ => ⟨a, rfl, rfl, rfl, c ▸ h, c ▸ G.refl b w⟩
def IPost (s : ByteArray) (p b : Nat) (w : World) (n : Nat) (i : Int) (t : ByteArray) (l : List Int) (c e : Nat) (E : Ending) (w' : World) : Prop := ∃ v, E = .returned v ∧ n = 0 ∧ i = 0 ∧ t = ByteArray.empty ∧ RdI w' v l ∧ NB w.heap.size v ∧ Rr w' b s (p + c) e ∧ G b w w'
theorem mInts_r (s : ByteArray) (p b e k : Nat) (lo hi most : Int) {n : Nat} {i : Int} {t : ByteArray} {l : List Int} {c e' : Nat} (w : World) (hk : 2 < k) (hs : s.size ≤ 1000000) (hp : p ≤ s.size) (hm : Fit most) (ho : outR s p e k lo hi most = (n, i, t, l, c, e')) (h : Rr w b s p e) : Calls Try.prog 45 #[.pointer (some ⟨b, 0, none⟩), .int .i64 most, .int .i64 lo, .int .i64 hi] w (IPost s p b w n i t l c e') := by
  unfold outR at ho
  by_cases he : e = 0
  · subst he
    rw [if_pos rfl, if_neg (by omega), if_neg (by omega), if_neg (by omega)] at ho
    simp only [Prod.mk.injEq] at ho
    obtain ⟨rfl, rfl, rfl, rfl, rfl, rfl⟩ := ho
    exact (mInts_ok s p b most lo hi _ _ _ w hs hp hm (Lib.hid rfl) h).mono fun E w' ⟨v, a, c, d, f, g⟩ => ⟨v, a, rfl, rfl, rfl, c, d, f, g⟩
  · rw [if_neg he] at ho
    simp only [Prod.mk.injEq] at ho
    obtain ⟨rfl, rfl, rfl, rfl, rfl, rfl⟩ := ho
    exact (mInts_stop s p b e most lo hi w he h).mono fun E w' ⟨a, c⟩ => ⟨_, a, rfl, rfl, rfl, RdI.nil _, NB.nil _, c ▸ h, c ▸ G.refl b w⟩
set_option maxRecDepth 100000 in
set_option maxHeartbeats 1600000 in
theorem read_r (s : ByteArray) (p b e k : Nat) (lo hi most : Int) (n : Nat) (i : Int) (t : ByteArray) (l : List Int) (c e' : Nat) (w : World) (hs : s.size ≤ 1000000) (hp : p ≤ s.size) (hm : Fit most) (ho : Hid (outR s p e k lo hi most = (n, i, t, l, c, e'))) (h : Rr w b s p e) : Calls Try.prog 23 #[.pointer (some ⟨b, 0, none⟩), ov k lo hi most] w (RPost s p b w k (n, i, t, l, c, e')) := by
  unfold ov
  have HR := Lib.hid h
  have HS := Lib.hid hs; clear hs
  have HP := Lib.hid hp; clear hp
  have HM := Lib.hid hm; clear hm
  have hlt := h.lt
  clear h
  have b3 := Lib.hid (three w #[.int .u8 k, .int .i64 lo, .int .i64 hi, .int .i64 most] #[.int .u8 0, .int .u64 0, .int .i64 0, .string ⟨#[]⟩, .slice none 0 0] #[.int .u8 k, .int .u64 0, .int .i64 0, .string ⟨#[]⟩, .slice none 0 0] 39 41 41)
  have q3 := Lib.hid ((((Q.refl w).alloc (.cells #[.int .u8 k, .int .i64 lo, .int .i64 hi, .int .i64 most] 39)).alloc (.cells #[.int .u8 0, .int .u64 0, .int .i64 0, .string ⟨#[]⟩, .slice none 0 0] 41)).alloc (.cells #[.int .u8 k, .int .u64 0, .int .i64 0, .string ⟨#[]⟩, .slice none 0 0] 41))
  have hB := Lib.hid hlt
  by_cases hk0 : k = 0
  · subst hk0
    go_enter Try.func23, Try.ntmps23
    go_wp2_with fail
    refine (mUint_r s p b e lo hi most _ HS.out ho.out (HR.out.q q3.out)).mono ?_
    rintro E w3 ⟨rfl, rfl, rfl, rfl, hr3, hg3⟩
    have HR3 := Lib.hid hr3
    have HG3 := Lib.hid ((G.of q3.out).trans hg3)
    obtain ⟨x0, x1, x2, x3, x4, xf⟩ := five (hg3.blk b3.out.2.1 (by omega))
    obtain ⟨y0, y1, y2, y3, y4, yf⟩ := five (hg3.blk b3.out.2.2 (by omega))
    clear hr3 hg3 hlt
    go_wp2_with fail
    refine bodyPost_ret (v := fv 0 n 0 ⟨#[]⟩ (.slice none 0 0)) (by simp [results, Try.results23, go_sem, fv, x0, x1, x2, x3, x4, y0, y1, y2, y3, y4]) rfl ⟨.slice none 0 0, rfl, RdI.nil _, NB.nil _, ?_, ?_⟩
    · have := hB.out
      show Rr _ b s (p + c) e'
      repeat (first | with_reducible exact HR3.out | refine Rr.other ?_ (by omega) _)
    · show G b w _
      repeat (first | with_reducible exact HG3.out | refine G.new ?_ (by omega) _)
  · by_cases hk1 : k = 1
    · subst hk1
      go_enter Try.func23, Try.ntmps23
      go_wp2_with fail
      refine (mInt_r s p b e lo hi most _ HS.out ho.out (HR.out.q q3.out)).mono ?_
      rintro E w3 ⟨rfl, rfl, rfl, rfl, hr3, hg3⟩
      have HR3 := Lib.hid hr3
      have HG3 := Lib.hid ((G.of q3.out).trans hg3)
      obtain ⟨x0, x1, x2, x3, x4, xf⟩ := five (hg3.blk b3.out.2.1 (by omega))
      obtain ⟨y0, y1, y2, y3, y4, yf⟩ := five (hg3.blk b3.out.2.2 (by omega))
      clear hr3 hg3 hlt
      go_wp2_with fail
      refine bodyPost_ret (v := fv 1 0 i ⟨#[]⟩ (.slice none 0 0)) (by simp [results, Try.results23, go_sem, fv, x0, x1, x2, x3, x4, y0, y1, y2, y3, y4]) rfl ⟨.slice none 0 0, rfl, RdI.nil _, NB.nil _, ?_, ?_⟩
      · have := hB.out
        show Rr _ b s (p + c) e'
        repeat (first | with_reducible exact HR3.out | refine Rr.other ?_ (by omega) _)
      · show G b w _
        repeat (first | with_reducible exact HG3.out | refine G.new ?_ (by omega) _)
    · by_cases hk2 : k = 2
      · subst hk2
        go_enter Try.func23, Try.ntmps23
        go_wp2_with fail
        refine (mText_r s p b e lo hi most _ HS.out HP.out HM.out ho.out (HR.out.q q3.out)).mono ?_
        rintro E w3 ⟨rfl, rfl, rfl, rfl, hr3, hg3⟩
        have HR3 := Lib.hid hr3
        have HG3 := Lib.hid ((G.of q3.out).trans hg3)
        obtain ⟨x0, x1, x2, x3, x4, xf⟩ := five (hg3.blk b3.out.2.1 (by omega))
        obtain ⟨y0, y1, y2, y3, y4, yf⟩ := five (hg3.blk b3.out.2.2 (by omega))
        clear hr3 hg3 hlt
        go_wp2_with fail
        refine bodyPost_ret (v := fv 2 0 0 t (.slice none 0 0)) (by simp [results, Try.results23, go_sem, fv, x0, x1, x2, x3, x4, y0, y1, y2, y3, y4]) rfl ⟨.slice none 0 0, rfl, RdI.nil _, NB.nil _, ?_, ?_⟩
        · have := hB.out
          show Rr _ b s (p + c) e'
          repeat (first | with_reducible exact HR3.out | refine Rr.other ?_ (by omega) _)
        · show G b w _
          repeat (first | with_reducible exact HG3.out | refine G.new ?_ (by omega) _)
      · by_cases hk3 : 2 < k
        · have t0 : ((k : Int) == 0) = false := by simp; omega
          have t1 : ((k : Int) == 1) = false := by simp; omega
          have t2 : ((k : Int) == 2) = false := by simp; omega
          have HK := Lib.hid hk3
          clear hk0 hk1 hk2 hk3
          go_enter Try.func23, Try.ntmps23
          go_wp2_with fail
          refine (mInts_r s p b e k lo hi most _ HK.out HS.out HP.out HM.out ho.out (HR.out.q q3.out)).mono ?_
          rintro E w3 ⟨sl, rfl, rfl, rfl, rfl, hv, hnb, hr3, hg3⟩
          have hv2 := hv
          obtain ⟨sA, sc, rfl, _, _⟩ := hv2
          have HV := Lib.hid hv
          have HNB := Lib.hid hnb
          have HR3 := Lib.hid hr3
          have HG3 := Lib.hid ((G.of q3.out).trans hg3)
          obtain ⟨x0, x1, x2, x3, x4, xf⟩ := five (hg3.blk b3.out.2.1 (by omega))
          obtain ⟨y0, y1, y2, y3, y4, yf⟩ := five (hg3.blk b3.out.2.2 (by omega))
          clear hr3 hg3 hlt hv hnb
          go_wp2_with fail
          refine bodyPost_ret (v := fv k 0 0 ⟨#[]⟩ (.slice sA l.length sc)) (by simp [results, Try.results23, go_sem, fv, x0, x1, x2, x3, x4, y0, y1, y2, y3, y4]) rfl ⟨(.slice sA l.length sc), rfl, ?_, HNB.out.mono (by simp; omega), ?_, ?_⟩
          · have h1 : NB (w.heap.size + 3) (.slice sA l.length sc) := HNB.out.mono (by simp)
            show RdI _ (.slice sA l.length sc) l
            repeat (first | with_reducible exact HV.out | refine RdI.other ?_ (h1.mono (by omega)) _)
          · have := hB.out
            show Rr _ b s (p + c) e'
            repeat (first | with_reducible exact HR3.out | refine Rr.other ?_ (by omega) _)
          · show G b w _
            repeat (first | with_reducible exact HG3.out | refine G.new ?_ (by omega) _)
        · exfalso; omega
end Go.Proofs.Ytnejobcbhddpoaa
