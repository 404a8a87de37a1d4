/- For every string and list of reads the law WireReads returns true: every result, the bytes left and the errors are as specified (asked for at most 3000 bytes and 60 reads), and the examples hold. No condition. -/
import Derived.Test.YtnejobcbhddpoaaRefU
import Derived.Test.YtnejobcbhddpoaaExact
import Derived.Deep.RegionHeld3
import Derived.Deep.DrawnRows
set_option linter.unusedVariables false
set_option linter.unusedSimpArgs false
namespace Go.Proofs.Ytnejobcbhddpoaa
open Go.ChangeShapes Go.WideShapes Go.ChangeAt Go.RowKit Wm

theorem same_b (z x y : Int) (k n : Nat) (i : Int) (t t2 : ByteArray) (v u : Value) (l : List Int) (w : World) (hk : (k : Int) = z) (hn : (n : Int) = x) (hi : i = y) (ht : t = t2) (hr : RdI w v l) (hu : RdI w u l) (hl : l.length ≤ 1000000) : Calls Try.prog 28 #[.agg #[.int .u8 z, .int .u64 n, .int .i64 i, .string t, v], .agg #[.int .u8 z, .int .u64 x, .int .i64 y, .string t2, u]] w fun e w' => e = .returned (.bool true) ∧ Q w w' := by
  subst hk hn hi ht
  exact same_c k n i t v u l w hr hu hl
theorem triK {W W2 : World} {g : Nat} {c0 c1 c2 : Value} (h : W.cell? ⟨g, 0, none⟩ = some c0 ∧ W.cell? ⟨g, 1, none⟩ = some c1 ∧ W.cell? ⟨g, 2, none⟩ = some c2 ∧ g < W.heap.size) (hq : Q W W2) :
    W2.cell? ⟨g, 0, none⟩ = some c0 ∧ W2.cell? ⟨g, 1, none⟩ = some c1 ∧ W2.cell? ⟨g, 2, none⟩ = some c2 ∧ g < W2.heap.size := by
  obtain ⟨h0, h1, h2, hz⟩ := h
  exact ⟨(hq.cell (p := ⟨g, 0, none⟩) hz).trans h0, (hq.cell (p := ⟨g, 1, none⟩) hz).trans h1, (hq.cell (p := ⟨g, 2, none⟩) hz).trans h2, Nat.lt_of_lt_of_le hz hq.size⟩
theorem fiveK {W W2 : World} {g : Nat} {c0 c1 c2 c3 c4 : Value} (h : W.cell? ⟨g, 0, none⟩ = some c0 ∧ W.cell? ⟨g, 1, none⟩ = some c1 ∧ W.cell? ⟨g, 2, none⟩ = some c2 ∧ W.cell? ⟨g, 3, none⟩ = some c3 ∧ W.cell? ⟨g, 4, none⟩ = some c4 ∧ g < W.heap.size) (hq : Q W W2) :
    W2.cell? ⟨g, 0, none⟩ = some c0 ∧ W2.cell? ⟨g, 1, none⟩ = some c1 ∧ W2.cell? ⟨g, 2, none⟩ = some c2 ∧ W2.cell? ⟨g, 3, none⟩ = some c3 ∧ W2.cell? ⟨g, 4, none⟩ = some c4 ∧ g < W2.heap.size := by
  obtain ⟨h0, h1, h2, h3, h4, hz⟩ := h
  exact ⟨(hq.cell (p := ⟨g, 0, none⟩) hz).trans h0, (hq.cell (p := ⟨g, 1, none⟩) hz).trans h1, (hq.cell (p := ⟨g, 2, none⟩) hz).trans h2, (hq.cell (p := ⟨g, 3, none⟩) hz).trans h3, (hq.cell (p := ⟨g, 4, none⟩) hz).trans h4, Nat.lt_of_lt_of_le hz hq.size⟩

theorem outL_len (s : ByteArray) (p : Nat) (most lo hi : Int) (hp : p ≤ s.size) : (outL s p most lo hi).1.length ≤ s.size := by
  have go : ∀ m q, q ≤ s.size → q + (intsF s lo hi m q).1.length ≤ s.size := by
    intro m
    induction m with
    | zero => intro q hq; exact hq
    | succ m ih =>
      intro q hq
      show q + (if eI s q lo hi = 0 then (if (intsF s lo hi m (q + lI s q lo hi)).2.2 = 0 then (vI s q lo hi :: (intsF s lo hi m (q + lI s q lo hi)).1, lI s q lo hi + (intsF s lo hi m (q + lI s q lo hi)).2.1, 0) else ([], 0, (intsF s lo hi m (q + lI s q lo hi)).2.2)) else ([], 0, eI s q lo hi) : List Int × Nat × Nat).1.length ≤ s.size
      by_cases h1 : eI s q lo hi = 0
      · rw [if_pos h1]
        have hl := lI_le s q lo hi
        have hps := lI_pos h1
        have h2 := ih (q + lI s q lo hi) (by omega)
        by_cases h3 : (intsF s lo hi m (q + lI s q lo hi)).2.2 = 0
        · rw [if_pos h3]; simp only [List.length_cons]; omega
        · rw [if_neg h3]; simp only [List.length_nil]; omega
      · rw [if_neg h1]; simp only [List.length_nil]; omega
  unfold outL
  by_cases h1 : eC s p most = 0
  · rw [if_pos h1]
    unfold finI
    have hl := lU_le s p
    have h2 := go (vU s p) (p + lU s p) (by omega)
    by_cases h3 : (intsF s lo hi (vU s p) (p + lU s p)).2.2 = 0
    · rw [if_pos h3]; simp only [List.nil_append]; omega
    · rw [if_neg h3]; simp only [List.length_nil]; omega
  · rw [if_neg h1]; simp only [List.length_nil]; omega
theorem outR_len {s : ByteArray} {p e k : Nat} {lo hi most : Int} {n : Nat} {i : Int} {t : ByteArray} {l : List Int} {c e' : Nat} (hp : p ≤ s.size) (h : outR s p e k lo hi most = (n, i, t, l, c, e')) : l.length ≤ s.size := by
  unfold outR at h
  have h4 := outL_len s p most lo hi hp
  by_cases he : e = 0
  · rw [if_pos he] at h
    by_cases k0 : k = 0
    · rw [if_pos k0] at h; simp only [Prod.mk.injEq] at h; rw [← h.2.2.2.1]; simp only [List.length_nil]; omega
    · rw [if_neg k0] at h
      by_cases k1 : k = 1
      · rw [if_pos k1] at h; simp only [Prod.mk.injEq] at h; rw [← h.2.2.2.1]; simp only [List.length_nil]; omega
      · rw [if_neg k1] at h
        by_cases k2 : k = 2
        · rw [if_pos k2] at h; simp only [Prod.mk.injEq] at h; rw [← h.2.2.2.1]; simp only [List.length_nil]; omega
        · rw [if_neg k2] at h; simp only [Prod.mk.injEq] at h; rw [← h.2.2.2.1]; exact h4
  · rw [if_neg he] at h; simp only [Prod.mk.injEq] at h; rw [← h.2.2.2.1]; simp only [List.length_nil]; omega
/-- what the region of the comparisons holds on to -/
theorem rdK {W0 W W2 : World} {g a b : Nat} {c0 c1 c2 a0 a1 a2 a3 a4 b0 b1 b2 b3 b4 : Value} (h : (W.cell? ⟨g, 0, none⟩ = some c0 ∧ W.cell? ⟨g, 1, none⟩ = some c1 ∧ W.cell? ⟨g, 2, none⟩ = some c2 ∧ g < W.heap.size) ∧ (W.cell? ⟨a, 0, none⟩ = some a0 ∧ W.cell? ⟨a, 1, none⟩ = some a1 ∧ W.cell? ⟨a, 2, none⟩ = some a2 ∧ W.cell? ⟨a, 3, none⟩ = some a3 ∧ W.cell? ⟨a, 4, none⟩ = some a4 ∧ a < W.heap.size) ∧ (W.cell? ⟨b, 0, none⟩ = some b0 ∧ W.cell? ⟨b, 1, none⟩ = some b1 ∧ W.cell? ⟨b, 2, none⟩ = some b2 ∧ W.cell? ⟨b, 3, none⟩ = some b3 ∧ W.cell? ⟨b, 4, none⟩ = some b4 ∧ b < W.heap.size) ∧ Q W0 W) (hq : Q W W2) :
    (W2.cell? ⟨g, 0, none⟩ = some c0 ∧ W2.cell? ⟨g, 1, none⟩ = some c1 ∧ W2.cell? ⟨g, 2, none⟩ = some c2 ∧ g < W2.heap.size) ∧ (W2.cell? ⟨a, 0, none⟩ = some a0 ∧ W2.cell? ⟨a, 1, none⟩ = some a1 ∧ W2.cell? ⟨a, 2, none⟩ = some a2 ∧ W2.cell? ⟨a, 3, none⟩ = some a3 ∧ W2.cell? ⟨a, 4, none⟩ = some a4 ∧ a < W2.heap.size) ∧ (W2.cell? ⟨b, 0, none⟩ = some b0 ∧ W2.cell? ⟨b, 1, none⟩ = some b1 ∧ W2.cell? ⟨b, 2, none⟩ = some b2 ∧ W2.cell? ⟨b, 3, none⟩ = some b3 ∧ W2.cell? ⟨b, 4, none⟩ = some b4 ∧ b < W2.heap.size) ∧ Q W0 W2 :=
  ⟨triK h.1 hq, fiveK h.2.1 hq, fiveK h.2.2.1 hq, h.2.2.2.trans hq⟩
theorem rdQq {W0 W : World} {g a b : Nat} {c0 c1 c2 a0 a1 a2 a3 a4 b0 b1 b2 b3 b4 : Value} (h : (W.cell? ⟨g, 0, none⟩ = some c0 ∧ W.cell? ⟨g, 1, none⟩ = some c1 ∧ W.cell? ⟨g, 2, none⟩ = some c2 ∧ g < W.heap.size) ∧ (W.cell? ⟨a, 0, none⟩ = some a0 ∧ W.cell? ⟨a, 1, none⟩ = some a1 ∧ W.cell? ⟨a, 2, none⟩ = some a2 ∧ W.cell? ⟨a, 3, none⟩ = some a3 ∧ W.cell? ⟨a, 4, none⟩ = some a4 ∧ a < W.heap.size) ∧ (W.cell? ⟨b, 0, none⟩ = some b0 ∧ W.cell? ⟨b, 1, none⟩ = some b1 ∧ W.cell? ⟨b, 2, none⟩ = some b2 ∧ W.cell? ⟨b, 3, none⟩ = some b3 ∧ W.cell? ⟨b, 4, none⟩ = some b4 ∧ b < W.heap.size) ∧ Q W0 W) : Q W0 W := h.2.2.2

theorem rdEK {W0 W W2 : World} {g : Nat} {c0 c1 c2 : Value} (h : (W.cell? ⟨g, 0, none⟩ = some c0 ∧ W.cell? ⟨g, 1, none⟩ = some c1 ∧ W.cell? ⟨g, 2, none⟩ = some c2 ∧ g < W.heap.size) ∧ Q W0 W) (hq : Q W W2) : (W2.cell? ⟨g, 0, none⟩ = some c0 ∧ W2.cell? ⟨g, 1, none⟩ = some c1 ∧ W2.cell? ⟨g, 2, none⟩ = some c2 ∧ g < W2.heap.size) ∧ Q W0 W2 := ⟨triK h.1 hq, h.2.trans hq⟩
theorem rdE {W0 W : World} {g : Nat} {c0 c1 c2 : Value} (h : (W.cell? ⟨g, 0, none⟩ = some c0 ∧ W.cell? ⟨g, 1, none⟩ = some c1 ∧ W.cell? ⟨g, 2, none⟩ = some c2 ∧ g < W.heap.size) ∧ Q W0 W) : Q W0 W := h.2
set_option maxRecDepth 100000 in
set_option maxHeartbeats 6400000 in
theorem reads_walk (w : World) (v u : Value) (hv : ArgS w v) (hu : ArgOs w u) : Calls Try.prog 5 #[v, u] w fun e w' => e = .returned (.bool true) ∧ Below w.heap.size w w' := by
  obtain ⟨s, rfl, hs⟩ := hv
  obtain ⟨l, hr, hf, hl⟩ := hu
  have HR := Lib.hid hr
  have HF := Lib.hid hf; clear hf
  obtain ⟨sA, sc, rfl, hle, _⟩ := hr
  unfold maxLen at hs hl
  obtain ⟨n, hn⟩ : ∃ n, l.length = n := ⟨_, rfl⟩
  have HN := Lib.hid hn
  rw [hn] at hl HR hle
  rw [hn]
  clear hn
  by_cases h : s.size ≤ 3000 ∧ n ≤ 60
  · obtain ⟨g1, g2⟩ := h
    have i1 : ¬ 3000 < (s.size : Int) := by omega
    have i2 : ¬ 60 < (n : Int) := by omega
    have HS := Lib.hid (show s.size ≤ 1000000 by omega)
    clear hs
    go_enter Try.func5, Try.ntmps5
    go_wp2_with fail
    refine (New_c s _).mono ?_; rintro E w1 ⟨b, rfl, hb, hr1, hq1⟩
    have R1 := Lib.hid hr1
    have Q1 := Lib.hid hq1
    have HB := Lib.hid hb
    clear hr1 hq1 hb
    go_wp2_with fail
    refine (rNew_c s _).mono ?_; rintro E w2 ⟨rfl, hq2⟩
    have R2 := Lib.hid (R1.out.q (hq2.trans ((Q.refl w2).alloc (.cells #[.string s, .int .i64 0, .int .i64 0] 36))))
    have Q2 := Lib.hid (Q1.out.trans (hq2.trans ((Q.refl w2).alloc (.cells #[.string s, .int .i64 0, .int .i64 0] 36))))
    have G2 := Lib.hid (heap_alloc_new w2 (.cells #[.string s, .int .i64 0, .int .i64 0] 36))
    have HGB := Lib.hid (show w2.heap.size ≠ b ∧ w.heap.size ≤ w2.heap.size by have := R1.out.lt; have := hq2.size; have := Q1.out.size; omega)
    clear hq2
    unfold rv
    go_wp2_with fail
    go_loopw [7] (fun i wr => ∃ k p e : Nat, k ≤ n ∧ i = .int .i64 k ∧ Hid (Rr wr b s p e ∧ p ≤ s.size ∧ Below w.heap.size w wr ∧ wr.heap[w2.heap.size]? = some (.cells #[.string s, .int .i64 p, .int .i64 e] 36 (0, 0)))) (fun i _ => n - (intOf i).toNat)
    case atStart => exact ⟨0, 0, 0, by omega, rfl, R2.out, Nat.zero_le _, Q2.out, G2.out⟩
    case round =>
      obtain ⟨k, p, e, hk, rfl, HI⟩ := hrel
      by_cases hlt : k < n
      · have hkl : k < l.length := by rw [HN.out]; exact hlt
        obtain ⟨rb, ro, rfl, hrb, hlc, hnl, c0, c1, c2, c3⟩ := HR.out.at HI.out.2.2.1 hkl
        obtain ⟨o, ho⟩ : ∃ o, l[k] = o := ⟨_, rfl⟩
        have HO := Lib.hid (show o.ok from ho ▸ HF.out _ (List.getElem_mem hkl))
        rw [ho] at c0 c1 c2 c3
        obtain ⟨ok, olo, ohi, omost⟩ := o
        simp only at c0 c1 c2 c3
        obtain ⟨z, hz⟩ : ∃ z : Int, (ok : Int) = z := ⟨_, rfl⟩
        rw [hz] at c0
        obtain ⟨rn, ri, rt, rl, rc, re, hout⟩ : ∃ a b c d f g, outR s p e ok olo ohi omost = (a, b, c, d, f, g) := ⟨_, _, _, _, _, _, rfl⟩
        have HOUT := Lib.hid hout
        have HLE := Lib.hid (outR_le HI.out.2.1 hout)
        clear ho hout hnl hlc
        obtain ⟨W1, hW1⟩ : ∃ W, wr.alloc (.cells #[.int .u8 z, .int .i64 olo, .int .i64 ohi, .int .i64 omost] 39) = W := ⟨_, rfl⟩
        have R1 := Lib.hid (show Rr W1 b s p e by rw [← hW1]; exact HI.out.1.q ((Q.refl wr).alloc _))
        have B1 := Lib.hid (show Below w.heap.size w W1 by rw [← hW1]; exact HI.out.2.2.1.alloc HI.out.2.2.1.size _)
        have O1 := Lib.hid (show W1.heap[wr.heap.size]? = some (.cells #[.int .u8 z, .int .i64 olo, .int .i64 ohi, .int .i64 omost] 39 (0, 0)) by rw [← hW1]; exact heap_alloc_new wr _)
        have G1 := Lib.hid (show W1.heap[w2.heap.size]? = some (.cells #[.string s, .int .i64 p, .int .i64 e] 36 (0, 0)) by rw [← hW1]; exact (Lib.alloc_old wr _ _ (lt_of_block HI.out.2.2.2)).trans HI.out.2.2.2)
        have HNO := Lib.hid (show wr.heap.size ≠ b ∧ w2.heap.size < wr.heap.size by have := HI.out.1.lt; have := lt_of_block HI.out.2.2.2; omega)
        have HP := Lib.hid HI.out.2.1
        have hcall := fun W (h : Rr W b s p e) => read_r s p b e ok olo ohi omost rn ri rt rl rc re W HS.out HP.out HO.out.2.2.2 HOUT h
        unfold ov at hcall
        rw [hz] at hcall
        have HC := Lib.hid hcall
        have HZ := Lib.hid hz
        obtain ⟨z0, z1, z2, z3, zf⟩ := four O1.out
        clear hcall hz
        go_wp2_with fail
        clear hW1 z0 z1 z2 z3 zf
        refine (HC.out _ R1.out).mono ?_
        rintro E w4 ⟨sl, rfl, hsl, hnb, hr4, hg4⟩
        unfold fv
        rw [HZ.out]
        simp only at hsl hr4
        have hsl2 := hsl
        obtain ⟨xA, xc, rfl, hxc, _⟩ := hsl2
        obtain ⟨m, hm⟩ : ∃ m, rl.length = m := ⟨_, rfl⟩
        rw [hm] at hsl hnb ⊢
        have HM := Lib.hid hm
        clear hm hxc
        obtain ⟨W2, hW2⟩ : ∃ W, w4.alloc (.cells #[.int .u8 z, .int .u64 rn, .int .i64 ri, .string rt, .slice xA m xc] 41) = W := ⟨_, rfl⟩
        have q2 : Q w4 W2 := by rw [← hW2]; exact (Q.refl w4).alloc _
        have sz2 : W2.heap.size = w4.heap.size + 1 := by rw [← hW2]; show (w4.heap.push _).size = _; simp
        obtain ⟨W3, hW3⟩ : ∃ W, W2.alloc (.cells #[.int .u8 z, .int .u64 0, .int .i64 0, .string ⟨#[]⟩, .slice none 0 0] 41) = W := ⟨_, rfl⟩
        have q23 : Q W2 W3 := by rw [← hW3]; exact (Q.refl W2).alloc _
        have q3 : Q w4 W3 := q2.trans q23
        obtain ⟨q1, hq1⟩ : ∃ q, p + rc = q := ⟨_, rfl⟩
        have HQ1 := Lib.hid hq1
        have R3 := Lib.hid (show Rr W3 b s q1 re by rw [← hq1]; exact hr4.q q3)
        have B3 := Lib.hid (show Below w.heap.size w W3 from Below.trans (G.below B1.out hg4 HB.out B1.out.size) (Below.mono q3 (G.below B1.out hg4 HB.out B1.out.size).size))
        have S3 := Lib.hid (hsl.q q3)
        have NB3 := Lib.hid hnb
        have S4 := Lib.hid hsl
        have NBb := Lib.hid (show b < w4.heap.size from hr4.lt)
        have W1S := Lib.hid (show wr.heap.size < W1.heap.size from lt_of_block O1.out)
        have HQ2 := Lib.hid (show q1 ≤ s.size by have := HLE.out; have := HQ1.out; omega)
        have GG := Lib.hid (show G w2.heap.size w4 W3 from G.of q3)
        have B4 := Lib.hid (G.below B1.out hg4 HB.out B1.out.size)
        have O2 := Lib.hid ((q2.block _ (lt_of_block (hg4.blk O1.out HNO.out.1))).trans (hg4.blk O1.out HNO.out.1))
        have O3 := Lib.hid ((q3.block _ (lt_of_block (hg4.blk O1.out HNO.out.1))).trans (hg4.blk O1.out HNO.out.1))
        have G3 := Lib.hid ((q3.block _ (lt_of_block (hg4.blk G1.out HGB.out.1))).trans (hg4.blk G1.out HGB.out.1))
        have A3 := Lib.hid (show W3.heap[w4.heap.size]? = some (.cells #[.int .u8 z, .int .u64 rn, .int .i64 ri, .string rt, .slice xA m xc] 41 (0, 0)) from (q23.block _ (by omega)).trans (by rw [← hW2]; exact heap_alloc_new w4 _))
        have D3 := Lib.hid (show W3.heap[W2.heap.size]? = some (.cells #[.int .u8 z, .int .u64 0, .int .i64 0, .string ⟨#[]⟩, .slice none 0 0] 41 (0, 0)) by rw [← hW3]; exact heap_alloc_new W2 _)
        have HSZ := Lib.hid (show wr.heap.size < w4.heap.size ∧ W2.heap.size = w4.heap.size + 1 by
          have := lt_of_block (hg4.blk O1.out HNO.out.1); omega)
        have SR := Lib.hid (show rl.length ≤ 1000000 from Nat.le_trans (outR_len HP.out HOUT.out) HS.out)
        obtain ⟨o0, o1, o2, o3, of⟩ := four O2.out
        obtain ⟨z0, z1, z2, z3, zf⟩ := four O3.out
        obtain ⟨y0, y1, y2, yf⟩ := tri G3.out
        clear hsl hnb hr4 hg4 c0 c1 c2 c3 q3 HI q2 q23 sz2 hq1
        by_cases hk0 : ok = 0
        · obtain rfl : z = 0 := by have := HZ.out; omega
          have HO0 := Lib.hid (show outR s p e 0 olo ohi omost = (rn, ri, rt, rl, rc, re) by have := HOUT.out; rwa [hk0] at this)
          have HF5 := Lib.hid (rUint_r s p e olo ohi omost W3 HS.out HP.out HO0.out)
          unfold rv at HF5
          rw [HQ1.out] at HF5
          clear hk0
          have HW3 := Lib.hid hW3
          have hq50 : (W2.alloc (.cells #[.int .u8 0, .int .u64 0, .int .i64 0, .string ⟨#[]⟩, .slice none 0 0] 41)).cell? ⟨w2.heap.size, 0, none⟩ = some (.string s) := by rw [HW3.out]; exact y0
          have hq51 : (W2.alloc (.cells #[.int .u8 0, .int .u64 0, .int .i64 0, .string ⟨#[]⟩, .slice none 0 0] 41)).cell? ⟨w2.heap.size, 1, none⟩ = some (.int .i64 p) := by rw [HW3.out]; exact y1
          have hq52 : (W2.alloc (.cells #[.int .u8 0, .int .u64 0, .int .i64 0, .string ⟨#[]⟩, .slice none 0 0] 41)).cell? ⟨w2.heap.size, 2, none⟩ = some (.int .i64 e) := by rw [HW3.out]; exact y2
          have hq53 : (W2.alloc (.cells #[.int .u8 0, .int .u64 0, .int .i64 0, .string ⟨#[]⟩, .slice none 0 0] 41)).cell? ⟨wr.heap.size, 0, none⟩ = some (.int .u8 0) := by rw [HW3.out]; exact z0
          have hq54 : (W2.alloc (.cells #[.int .u8 0, .int .u64 0, .int .i64 0, .string ⟨#[]⟩, .slice none 0 0] 41)).cell? ⟨wr.heap.size, 1, none⟩ = some (.int .i64 olo) := by rw [HW3.out]; exact z1
          have hq55 : (W2.alloc (.cells #[.int .u8 0, .int .u64 0, .int .i64 0, .string ⟨#[]⟩, .slice none 0 0] 41)).cell? ⟨wr.heap.size, 2, none⟩ = some (.int .i64 ohi) := by rw [HW3.out]; exact z2
          have hq56 : (W2.alloc (.cells #[.int .u8 0, .int .u64 0, .int .i64 0, .string ⟨#[]⟩, .slice none 0 0] 41)).cell? ⟨wr.heap.size, 3, none⟩ = some (.int .i64 omost) := by rw [HW3.out]; exact z3
          clear hW3
          go_wp2_with fail
          rw [HW3.out]
          clear hW2 o0 o1 o2 o3 of z0 z1 z2 z3 zf y0 y1 y2 yf hq50 hq51 hq52 hq53 hq54 hq55 hq56
          refine HF5.out.mono ?_; rintro E w5 ⟨rfl, e1, e2, e3, hq5⟩
          have Q5 := Lib.hid hq5
          have G5 := Lib.hid ((hq5.block _ (lt_of_block G3.out)).trans G3.out)
          have A5 := Lib.hid ((hq5.block _ (lt_of_block A3.out)).trans A3.out)
          have D5 := Lib.hid ((hq5.block _ (lt_of_block D3.out)).trans D3.out)
          have R5 := Lib.hid (R3.out.q hq5)
          have E5 := Lib.hid (And.intro e1 (And.intro e2 e3))
          clear hq5 e1 e2 e3
          obtain ⟨W5, hW5⟩ : ∃ W, ((w5.setCell ⟨w2.heap.size, 0, none⟩ (.string s)).setCell ⟨w2.heap.size, 1, none⟩ (.int .i64 q1)).setCell ⟨w2.heap.size, 2, none⟩ (.int .i64 re) = W := ⟨_, rfl⟩
          have NE := Lib.hid (show w2.heap.size ≠ w4.heap.size ∧ w2.heap.size ≠ W2.heap.size ∧ W2.heap.size ≠ w4.heap.size ∧ w4.heap.size ≤ W2.heap.size by have := HSZ.out; have := HNO.out; omega)
          have NR := Lib.hid (show W2.heap.size ≠ b by have := HSZ.out; have := R3.out.lt; have := HNO.out; have := lt_of_block D3.out; have := NE.out; have := NBb.out; omega)
          have G6 := Lib.hid (show W5.heap[w2.heap.size]? = some (.cells #[.string s, .int .i64 q1, .int .i64 re] 36 (0, 0)) by rw [← hW5]; exact blk_set (blk_set (blk_set G5.out)))
          have A6 := Lib.hid (show W5.heap[w4.heap.size]? = some (.cells #[.int .u8 0, .int .u64 rn, .int .i64 ri, .string rt, .slice xA m xc] 41 (0, 0)) by rw [← hW5]; exact blk_other (blk_other (blk_other A5.out NE.out.1) NE.out.1) NE.out.1)
          have D6 := Lib.hid (show W5.heap[W2.heap.size]? = some (.cells #[.int .u8 0, .int .u64 0, .int .i64 0, .string ⟨#[]⟩, .slice none 0 0] 41 (0, 0)) by rw [← hW5]; exact blk_other (blk_other (blk_other D5.out NE.out.2.1) NE.out.2.1) NE.out.2.1)
          have R6 := Lib.hid (show Rr W5 b s q1 re by rw [← hW5]; exact ((R5.out.other HGB.out.1 _).other HGB.out.1 _).other HGB.out.1 _)
          have GG6 := Lib.hid (show G w2.heap.size w4 W5 by rw [← hW5]; exact (((GG.out.trans (G.of Q5.out)).set 0 _).set 1 _).set 2 _)
          obtain ⟨W6, hW6⟩ : ∃ W, W5.setCell ⟨W2.heap.size, 1, none⟩ (.int .u64 rn) = W := ⟨_, rfl⟩
          have G7 := Lib.hid (show W6.heap[w2.heap.size]? = some (.cells #[.string s, .int .i64 q1, .int .i64 re] 36 (0, 0)) by rw [← hW6]; exact blk_other G6.out NE.out.2.1.symm)
          have A7 := Lib.hid (show W6.heap[w4.heap.size]? = some (.cells #[.int .u8 0, .int .u64 rn, .int .i64 ri, .string rt, .slice xA m xc] 41 (0, 0)) by rw [← hW6]; exact blk_other A6.out NE.out.2.2.1)
          have D7 := Lib.hid (show W6.heap[W2.heap.size]? = some (.cells #[.int .u8 0, .int .u64 rn, .int .i64 0, .string ⟨#[]⟩, .slice none 0 0] 41 (0, 0)) by rw [← hW6]; exact blk_set D6.out)
          have R7 := Lib.hid (show Rr W6 b s q1 re by rw [← hW6]; exact R6.out.other NR.out _)
          have GG7 := Lib.hid (show G w2.heap.size w4 W6 by rw [← hW6]; exact GG6.out.new NE.out.2.2.2 _)
          have B7 := Lib.hid (G.below B4.out GG7.out HGB.out.2 B4.out.size)
          have S7 := Lib.hid (G.rd S4.out (NB3.out.mono (by have := HNO.out; have := W1S.out; omega)) GG7.out)
          have HSM := Lib.hid (fun w' (hq : Q W6 w') => same_b 0 rn 0 ok rn ri rt ⟨#[]⟩ (.slice xA m xc) (.slice none 0 0) rl w' HZ.out rfl E5.out.1 E5.out.2.1 (S7.out.q hq) (by rw [E5.out.2.2]; exact RdI.nil _) SR.out)
          have HSL := Lib.hid (fun w' (hq : Q W6 w') => (Left_c s q1 re b w' HS.out (R7.out.q hq)).mono fun E w'' (h : _ ∧ w' = w'') => And.intro h.1 (show Q w' w'' from h.2 ▸ Q.refl w'))
          have HSR := Lib.hid (fun w' (hq : Q W6 w') => (Err_c s q1 re b w' (R7.out.q hq)).mono fun E w'' (h : _ ∧ w' = w'') => And.intro h.1 (show Q w' w'' from h.2 ▸ Q.refl w'))
          have HSE := Lib.hid (fun w' (hq : Q W6 w') => (End_c s q1 re b w' HS.out (R7.out.q hq)).mono fun E w'' (h : _ ∧ w' = w'') => And.intro h.1 (show Q w' w'' from h.2 ▸ Q.refl w'))
          have hrl := fun w' => rLeft_c s q1 re w' HS.out HQ2.out
          have hre := fun w' => rEnd_c s q1 re w' HS.out HQ2.out
          unfold rv at hrl hre
          obtain ⟨ml, hml⟩ : ∃ m, s.size - q1 = m := ⟨_, rfl⟩
          obtain ⟨ee, hee⟩ : ∃ m, endE s q1 re = m := ⟨_, rfl⟩
          rw [hml] at HSL hrl
          rw [hee] at HSE hre
          have HRL := Lib.hid hrl
          have HRE := Lib.hid hre
          clear hml hee hrl hre
          obtain ⟨y0, y1, y2, yf⟩ := tri G5.out
          obtain ⟨d0, d1, d2, d3, d4, df⟩ := five D6.out
          go_wp2_with fail
          clear hW5 hW6 y0 y1 y2 yf d0 d1 d2 d3 d4 df
          obtain ⟨y0, y1, y2, yf⟩ := tri G7.out
          obtain ⟨x0, x1, x2, x3, x4, xf⟩ := five A7.out
          obtain ⟨d0, d1, d2, d3, d4, df⟩ := five D7.out
          have yb := lt_of_block G7.out
          have xb := lt_of_block A7.out
          have db := lt_of_block D7.out
          have hd : Q W6 W6.drew := (Q.refl W6).drew
          go_region_held3 (fun W => (W.cell? ⟨w2.heap.size, 0, none⟩ = some (.string s) ∧ W.cell? ⟨w2.heap.size, 1, none⟩ = some (.int .i64 q1) ∧ W.cell? ⟨w2.heap.size, 2, none⟩ = some (.int .i64 re) ∧ w2.heap.size < W.heap.size) ∧ (W.cell? ⟨w4.heap.size, 0, none⟩ = some (.int .u8 0) ∧ W.cell? ⟨w4.heap.size, 1, none⟩ = some (.int .u64 rn) ∧ W.cell? ⟨w4.heap.size, 2, none⟩ = some (.int .i64 ri) ∧ W.cell? ⟨w4.heap.size, 3, none⟩ = some (.string rt) ∧ W.cell? ⟨w4.heap.size, 4, none⟩ = some (.slice xA m xc) ∧ w4.heap.size < W.heap.size) ∧ (W.cell? ⟨W2.heap.size, 0, none⟩ = some (.int .u8 0) ∧ W.cell? ⟨W2.heap.size, 1, none⟩ = some (.int .u64 rn) ∧ W.cell? ⟨W2.heap.size, 2, none⟩ = some (.int .i64 0) ∧ W.cell? ⟨W2.heap.size, 3, none⟩ = some (.string ⟨#[]⟩) ∧ W.cell? ⟨W2.heap.size, 4, none⟩ = some (.slice none 0 0) ∧ W2.heap.size < W.heap.size) ∧ Q W6 W)
            (first | exact rdK ⟨⟨y0, y1, y2, yb⟩, ⟨x0, x1, x2, x3, x4, xb⟩, ⟨d0, d1, d2, d3, d4, db⟩, Q.refl _⟩ hd | exact rdK (by assumption) (by assumption))
            (first | (go_at_call 28; refine (HSM.out _ (rdQq (g := w2.heap.size) (a := w4.heap.size) (b := W2.heap.size) (c0 := .string s) (c1 := .int .i64 q1) (c2 := .int .i64 re) (a0 := .int .u8 0) (a1 := .int .u64 rn) (a2 := .int .i64 ri) (a3 := .string rt) (a4 := .slice xA m xc) (b0 := .int .u8 0) (b1 := .int .u64 rn) (b2 := .int .i64 0) (b3 := .string ⟨#[]⟩) (b4 := .slice none 0 0) (by assumption))).mono ?_; rintro e w7 ⟨rfl, hq7⟩) | (go_at_call 29; refine (HSL.out _ (rdQq (g := w2.heap.size) (a := w4.heap.size) (b := W2.heap.size) (c0 := .string s) (c1 := .int .i64 q1) (c2 := .int .i64 re) (a0 := .int .u8 0) (a1 := .int .u64 rn) (a2 := .int .i64 ri) (a3 := .string rt) (a4 := .slice xA m xc) (b0 := .int .u8 0) (b1 := .int .u64 rn) (b2 := .int .i64 0) (b3 := .string ⟨#[]⟩) (b4 := .slice none 0 0) (by assumption))).mono ?_; rintro e w7 ⟨rfl, hq7⟩) | (go_at_call 31; refine (HSR.out _ (rdQq (g := w2.heap.size) (a := w4.heap.size) (b := W2.heap.size) (c0 := .string s) (c1 := .int .i64 q1) (c2 := .int .i64 re) (a0 := .int .u8 0) (a1 := .int .u64 rn) (a2 := .int .i64 ri) (a3 := .string rt) (a4 := .slice xA m xc) (b0 := .int .u8 0) (b1 := .int .u64 rn) (b2 := .int .i64 0) (b3 := .string ⟨#[]⟩) (b4 := .slice none 0 0) (by assumption))).mono ?_; rintro e w7 ⟨rfl, hq7⟩) | (go_at_call 32; refine (HSE.out _ (rdQq (g := w2.heap.size) (a := w4.heap.size) (b := W2.heap.size) (c0 := .string s) (c1 := .int .i64 q1) (c2 := .int .i64 re) (a0 := .int .u8 0) (a1 := .int .u64 rn) (a2 := .int .i64 ri) (a3 := .string rt) (a4 := .slice xA m xc) (b0 := .int .u8 0) (b1 := .int .u64 rn) (b2 := .int .i64 0) (b3 := .string ⟨#[]⟩) (b4 := .slice none 0 0) (by assumption))).mono ?_; rintro e w7 ⟨rfl, hq7⟩) | (go_at_call 30; refine (HRL.out _).mono ?_; rintro e w7 ⟨rfl, hq7⟩) | (go_at_call 33; refine (HRE.out _).mono ?_; rintro e w7 ⟨rfl, hq7⟩))
          all_goals go_wp2_with fail
          all_goals go_roundw
          case rel => exact ⟨k + 1, q1, re, by omega, by go_num, R7.out.q (rdQq (g := w2.heap.size) (a := w4.heap.size) (b := W2.heap.size) (c0 := .string s) (c1 := .int .i64 q1) (c2 := .int .i64 re) (a0 := .int .u8 0) (a1 := .int .u64 rn) (a2 := .int .i64 ri) (a3 := .string rt) (a4 := .slice xA m xc) (b0 := .int .u8 0) (b1 := .int .u64 rn) (b2 := .int .i64 0) (b3 := .string ⟨#[]⟩) (b4 := .slice none 0 0) (by assumption)), HQ2.out, Below.trans B7.out (Below.mono (rdQq (g := w2.heap.size) (a := w4.heap.size) (b := W2.heap.size) (c0 := .string s) (c1 := .int .i64 q1) (c2 := .int .i64 re) (a0 := .int .u8 0) (a1 := .int .u64 rn) (a2 := .int .i64 ri) (a3 := .string rt) (a4 := .slice xA m xc) (b0 := .int .u8 0) (b1 := .int .u64 rn) (b2 := .int .i64 0) (b3 := .string ⟨#[]⟩) (b4 := .slice none 0 0) (by assumption)) B7.out.size), ((rdQq (g := w2.heap.size) (a := w4.heap.size) (b := W2.heap.size) (c0 := .string s) (c1 := .int .i64 q1) (c2 := .int .i64 re) (a0 := .int .u8 0) (a1 := .int .u64 rn) (a2 := .int .i64 ri) (a3 := .string rt) (a4 := .slice xA m xc) (b0 := .int .u8 0) (b1 := .int .u64 rn) (b2 := .int .i64 0) (b3 := .string ⟨#[]⟩) (b4 := .slice none 0 0) (by assumption)).block _ (lt_of_block G7.out)).trans G7.out⟩
          case measure => simp [intOf] <;> omega
        · skip
          by_cases hk1 : ok = 1
          · obtain rfl : z = 1 := by have := HZ.out; omega
            have HO0 := Lib.hid (show outR s p e 1 olo ohi omost = (rn, ri, rt, rl, rc, re) by have := HOUT.out; rwa [hk1] at this)
            have HF5 := Lib.hid (rInt_r s p e olo ohi omost W3 HS.out HP.out HO0.out)
            unfold rv at HF5
            rw [HQ1.out] at HF5
            clear hk0 hk1
            have HW3 := Lib.hid hW3
            have hq50 : (W2.alloc (.cells #[.int .u8 1, .int .u64 0, .int .i64 0, .string ⟨#[]⟩, .slice none 0 0] 41)).cell? ⟨w2.heap.size, 0, none⟩ = some (.string s) := by rw [HW3.out]; exact y0
            have hq51 : (W2.alloc (.cells #[.int .u8 1, .int .u64 0, .int .i64 0, .string ⟨#[]⟩, .slice none 0 0] 41)).cell? ⟨w2.heap.size, 1, none⟩ = some (.int .i64 p) := by rw [HW3.out]; exact y1
            have hq52 : (W2.alloc (.cells #[.int .u8 1, .int .u64 0, .int .i64 0, .string ⟨#[]⟩, .slice none 0 0] 41)).cell? ⟨w2.heap.size, 2, none⟩ = some (.int .i64 e) := by rw [HW3.out]; exact y2
            have hq53 : (W2.alloc (.cells #[.int .u8 1, .int .u64 0, .int .i64 0, .string ⟨#[]⟩, .slice none 0 0] 41)).cell? ⟨wr.heap.size, 0, none⟩ = some (.int .u8 1) := by rw [HW3.out]; exact z0
            have hq54 : (W2.alloc (.cells #[.int .u8 1, .int .u64 0, .int .i64 0, .string ⟨#[]⟩, .slice none 0 0] 41)).cell? ⟨wr.heap.size, 1, none⟩ = some (.int .i64 olo) := by rw [HW3.out]; exact z1
            have hq55 : (W2.alloc (.cells #[.int .u8 1, .int .u64 0, .int .i64 0, .string ⟨#[]⟩, .slice none 0 0] 41)).cell? ⟨wr.heap.size, 2, none⟩ = some (.int .i64 ohi) := by rw [HW3.out]; exact z2
            have hq56 : (W2.alloc (.cells #[.int .u8 1, .int .u64 0, .int .i64 0, .string ⟨#[]⟩, .slice none 0 0] 41)).cell? ⟨wr.heap.size, 3, none⟩ = some (.int .i64 omost) := by rw [HW3.out]; exact z3
            clear hW3
            go_wp2_with fail
            rw [HW3.out]
            clear hW2 o0 o1 o2 o3 of z0 z1 z2 z3 zf y0 y1 y2 yf hq50 hq51 hq52 hq53 hq54 hq55 hq56
            refine HF5.out.mono ?_; rintro E w5 ⟨rfl, e1, e2, e3, hq5⟩
            have Q5 := Lib.hid hq5
            have G5 := Lib.hid ((hq5.block _ (lt_of_block G3.out)).trans G3.out)
            have A5 := Lib.hid ((hq5.block _ (lt_of_block A3.out)).trans A3.out)
            have D5 := Lib.hid ((hq5.block _ (lt_of_block D3.out)).trans D3.out)
            have R5 := Lib.hid (R3.out.q hq5)
            have E5 := Lib.hid (And.intro e1 (And.intro e2 e3))
            clear hq5 e1 e2 e3
            obtain ⟨W5, hW5⟩ : ∃ W, ((w5.setCell ⟨w2.heap.size, 0, none⟩ (.string s)).setCell ⟨w2.heap.size, 1, none⟩ (.int .i64 q1)).setCell ⟨w2.heap.size, 2, none⟩ (.int .i64 re) = W := ⟨_, rfl⟩
            have NE := Lib.hid (show w2.heap.size ≠ w4.heap.size ∧ w2.heap.size ≠ W2.heap.size ∧ W2.heap.size ≠ w4.heap.size ∧ w4.heap.size ≤ W2.heap.size by have := HSZ.out; have := HNO.out; omega)
            have NR := Lib.hid (show W2.heap.size ≠ b by have := HSZ.out; have := R3.out.lt; have := HNO.out; have := lt_of_block D3.out; have := NE.out; have := NBb.out; omega)
            have G6 := Lib.hid (show W5.heap[w2.heap.size]? = some (.cells #[.string s, .int .i64 q1, .int .i64 re] 36 (0, 0)) by rw [← hW5]; exact blk_set (blk_set (blk_set G5.out)))
            have A6 := Lib.hid (show W5.heap[w4.heap.size]? = some (.cells #[.int .u8 1, .int .u64 rn, .int .i64 ri, .string rt, .slice xA m xc] 41 (0, 0)) by rw [← hW5]; exact blk_other (blk_other (blk_other A5.out NE.out.1) NE.out.1) NE.out.1)
            have D6 := Lib.hid (show W5.heap[W2.heap.size]? = some (.cells #[.int .u8 1, .int .u64 0, .int .i64 0, .string ⟨#[]⟩, .slice none 0 0] 41 (0, 0)) by rw [← hW5]; exact blk_other (blk_other (blk_other D5.out NE.out.2.1) NE.out.2.1) NE.out.2.1)
            have R6 := Lib.hid (show Rr W5 b s q1 re by rw [← hW5]; exact ((R5.out.other HGB.out.1 _).other HGB.out.1 _).other HGB.out.1 _)
            have GG6 := Lib.hid (show G w2.heap.size w4 W5 by rw [← hW5]; exact (((GG.out.trans (G.of Q5.out)).set 0 _).set 1 _).set 2 _)
            obtain ⟨W6, hW6⟩ : ∃ W, W5.setCell ⟨W2.heap.size, 2, none⟩ (.int .i64 ri) = W := ⟨_, rfl⟩
            have G7 := Lib.hid (show W6.heap[w2.heap.size]? = some (.cells #[.string s, .int .i64 q1, .int .i64 re] 36 (0, 0)) by rw [← hW6]; exact blk_other G6.out NE.out.2.1.symm)
            have A7 := Lib.hid (show W6.heap[w4.heap.size]? = some (.cells #[.int .u8 1, .int .u64 rn, .int .i64 ri, .string rt, .slice xA m xc] 41 (0, 0)) by rw [← hW6]; exact blk_other A6.out NE.out.2.2.1)
            have D7 := Lib.hid (show W6.heap[W2.heap.size]? = some (.cells #[.int .u8 1, .int .u64 0, .int .i64 ri, .string ⟨#[]⟩, .slice none 0 0] 41 (0, 0)) by rw [← hW6]; exact blk_set D6.out)
            have R7 := Lib.hid (show Rr W6 b s q1 re by rw [← hW6]; exact R6.out.other NR.out _)
            have GG7 := Lib.hid (show G w2.heap.size w4 W6 by rw [← hW6]; exact GG6.out.new NE.out.2.2.2 _)
            have B7 := Lib.hid (G.below B4.out GG7.out HGB.out.2 B4.out.size)
            have S7 := Lib.hid (G.rd S4.out (NB3.out.mono (by have := HNO.out; have := W1S.out; omega)) GG7.out)
            have HSM := Lib.hid (fun w' (hq : Q W6 w') => same_b 1 0 ri ok rn ri rt ⟨#[]⟩ (.slice xA m xc) (.slice none 0 0) rl w' HZ.out (by rw [E5.out.1]; rfl) rfl E5.out.2.1 (S7.out.q hq) (by rw [E5.out.2.2]; exact RdI.nil _) SR.out)
            have HSL := Lib.hid (fun w' (hq : Q W6 w') => (Left_c s q1 re b w' HS.out (R7.out.q hq)).mono fun E w'' (h : _ ∧ w' = w'') => And.intro h.1 (show Q w' w'' from h.2 ▸ Q.refl w'))
            have HSR := Lib.hid (fun w' (hq : Q W6 w') => (Err_c s q1 re b w' (R7.out.q hq)).mono fun E w'' (h : _ ∧ w' = w'') => And.intro h.1 (show Q w' w'' from h.2 ▸ Q.refl w'))
            have HSE := Lib.hid (fun w' (hq : Q W6 w') => (End_c s q1 re b w' HS.out (R7.out.q hq)).mono fun E w'' (h : _ ∧ w' = w'') => And.intro h.1 (show Q w' w'' from h.2 ▸ Q.refl w'))
            have hrl := fun w' => rLeft_c s q1 re w' HS.out HQ2.out
            have hre := fun w' => rEnd_c s q1 re w' HS.out HQ2.out
            unfold rv at hrl hre
            obtain ⟨ml, hml⟩ : ∃ m, s.size - q1 = m := ⟨_, rfl⟩
            obtain ⟨ee, hee⟩ : ∃ m, endE s q1 re = m := ⟨_, rfl⟩
            rw [hml] at HSL hrl
            rw [hee] at HSE hre
            have HRL := Lib.hid hrl
            have HRE := Lib.hid hre
            clear hml hee hrl hre
            obtain ⟨y0, y1, y2, yf⟩ := tri G5.out
            obtain ⟨d0, d1, d2, d3, d4, df⟩ := five D6.out
            go_wp2_with fail
            clear hW5 hW6 y0 y1 y2 yf d0 d1 d2 d3 d4 df
            obtain ⟨y0, y1, y2, yf⟩ := tri G7.out
            obtain ⟨x0, x1, x2, x3, x4, xf⟩ := five A7.out
            obtain ⟨d0, d1, d2, d3, d4, df⟩ := five D7.out
            have yb := lt_of_block G7.out
            have xb := lt_of_block A7.out
            have db := lt_of_block D7.out
            have hd : Q W6 W6.drew := (Q.refl W6).drew
            go_region_held3 (fun W => (W.cell? ⟨w2.heap.size, 0, none⟩ = some (.string s) ∧ W.cell? ⟨w2.heap.size, 1, none⟩ = some (.int .i64 q1) ∧ W.cell? ⟨w2.heap.size, 2, none⟩ = some (.int .i64 re) ∧ w2.heap.size < W.heap.size) ∧ (W.cell? ⟨w4.heap.size, 0, none⟩ = some (.int .u8 1) ∧ W.cell? ⟨w4.heap.size, 1, none⟩ = some (.int .u64 rn) ∧ W.cell? ⟨w4.heap.size, 2, none⟩ = some (.int .i64 ri) ∧ W.cell? ⟨w4.heap.size, 3, none⟩ = some (.string rt) ∧ W.cell? ⟨w4.heap.size, 4, none⟩ = some (.slice xA m xc) ∧ w4.heap.size < W.heap.size) ∧ (W.cell? ⟨W2.heap.size, 0, none⟩ = some (.int .u8 1) ∧ W.cell? ⟨W2.heap.size, 1, none⟩ = some (.int .u64 0) ∧ W.cell? ⟨W2.heap.size, 2, none⟩ = some (.int .i64 ri) ∧ W.cell? ⟨W2.heap.size, 3, none⟩ = some (.string ⟨#[]⟩) ∧ W.cell? ⟨W2.heap.size, 4, none⟩ = some (.slice none 0 0) ∧ W2.heap.size < W.heap.size) ∧ Q W6 W)
              (first | exact rdK ⟨⟨y0, y1, y2, yb⟩, ⟨x0, x1, x2, x3, x4, xb⟩, ⟨d0, d1, d2, d3, d4, db⟩, Q.refl _⟩ hd | exact rdK (by assumption) (by assumption))
              (first | (go_at_call 28; refine (HSM.out _ (rdQq (g := w2.heap.size) (a := w4.heap.size) (b := W2.heap.size) (c0 := .string s) (c1 := .int .i64 q1) (c2 := .int .i64 re) (a0 := .int .u8 1) (a1 := .int .u64 rn) (a2 := .int .i64 ri) (a3 := .string rt) (a4 := .slice xA m xc) (b0 := .int .u8 1) (b1 := .int .u64 0) (b2 := .int .i64 ri) (b3 := .string ⟨#[]⟩) (b4 := .slice none 0 0) (by assumption))).mono ?_; rintro e w7 ⟨rfl, hq7⟩) | (go_at_call 29; refine (HSL.out _ (rdQq (g := w2.heap.size) (a := w4.heap.size) (b := W2.heap.size) (c0 := .string s) (c1 := .int .i64 q1) (c2 := .int .i64 re) (a0 := .int .u8 1) (a1 := .int .u64 rn) (a2 := .int .i64 ri) (a3 := .string rt) (a4 := .slice xA m xc) (b0 := .int .u8 1) (b1 := .int .u64 0) (b2 := .int .i64 ri) (b3 := .string ⟨#[]⟩) (b4 := .slice none 0 0) (by assumption))).mono ?_; rintro e w7 ⟨rfl, hq7⟩) | (go_at_call 31; refine (HSR.out _ (rdQq (g := w2.heap.size) (a := w4.heap.size) (b := W2.heap.size) (c0 := .string s) (c1 := .int .i64 q1) (c2 := .int .i64 re) (a0 := .int .u8 1) (a1 := .int .u64 rn) (a2 := .int .i64 ri) (a3 := .string rt) (a4 := .slice xA m xc) (b0 := .int .u8 1) (b1 := .int .u64 0) (b2 := .int .i64 ri) (b3 := .string ⟨#[]⟩) (b4 := .slice none 0 0) (by assumption))).mono ?_; rintro e w7 ⟨rfl, hq7⟩) | (go_at_call 32; refine (HSE.out _ (rdQq (g := w2.heap.size) (a := w4.heap.size) (b := W2.heap.size) (c0 := .string s) (c1 := .int .i64 q1) (c2 := .int .i64 re) (a0 := .int .u8 1) (a1 := .int .u64 rn) (a2 := .int .i64 ri) (a3 := .string rt) (a4 := .slice xA m xc) (b0 := .int .u8 1) (b1 := .int .u64 0) (b2 := .int .i64 ri) (b3 := .string ⟨#[]⟩) (b4 := .slice none 0 0) (by assumption))).mono ?_; rintro e w7 ⟨rfl, hq7⟩) | (go_at_call 30; refine (HRL.out _).mono ?_; rintro e w7 ⟨rfl, hq7⟩) | (go_at_call 33; refine (HRE.out _).mono ?_; rintro e w7 ⟨rfl, hq7⟩))
            all_goals go_wp2_with fail
            all_goals go_roundw
            case rel => exact ⟨k + 1, q1, re, by omega, by go_num, R7.out.q (rdQq (g := w2.heap.size) (a := w4.heap.size) (b := W2.heap.size) (c0 := .string s) (c1 := .int .i64 q1) (c2 := .int .i64 re) (a0 := .int .u8 1) (a1 := .int .u64 rn) (a2 := .int .i64 ri) (a3 := .string rt) (a4 := .slice xA m xc) (b0 := .int .u8 1) (b1 := .int .u64 0) (b2 := .int .i64 ri) (b3 := .string ⟨#[]⟩) (b4 := .slice none 0 0) (by assumption)), HQ2.out, Below.trans B7.out (Below.mono (rdQq (g := w2.heap.size) (a := w4.heap.size) (b := W2.heap.size) (c0 := .string s) (c1 := .int .i64 q1) (c2 := .int .i64 re) (a0 := .int .u8 1) (a1 := .int .u64 rn) (a2 := .int .i64 ri) (a3 := .string rt) (a4 := .slice xA m xc) (b0 := .int .u8 1) (b1 := .int .u64 0) (b2 := .int .i64 ri) (b3 := .string ⟨#[]⟩) (b4 := .slice none 0 0) (by assumption)) B7.out.size), ((rdQq (g := w2.heap.size) (a := w4.heap.size) (b := W2.heap.size) (c0 := .string s) (c1 := .int .i64 q1) (c2 := .int .i64 re) (a0 := .int .u8 1) (a1 := .int .u64 rn) (a2 := .int .i64 ri) (a3 := .string rt) (a4 := .slice xA m xc) (b0 := .int .u8 1) (b1 := .int .u64 0) (b2 := .int .i64 ri) (b3 := .string ⟨#[]⟩) (b4 := .slice none 0 0) (by assumption)).block _ (lt_of_block G7.out)).trans G7.out⟩
            case measure => simp [intOf] <;> omega
          · skip
            by_cases hk2 : ok = 2
            · obtain rfl : z = 2 := by have := HZ.out; omega
              have HO0 := Lib.hid (show outR s p e 2 olo ohi omost = (rn, ri, rt, rl, rc, re) by have := HOUT.out; rwa [hk2] at this)
              have HF5 := Lib.hid (rText_r s p e olo ohi omost W3 HS.out HP.out HO.out.2.2.2 HO0.out)
              unfold rv at HF5
              rw [HQ1.out] at HF5
              clear hk0 hk1 hk2
              have HW3 := Lib.hid hW3
              have hq50 : (W2.alloc (.cells #[.int .u8 2, .int .u64 0, .int .i64 0, .string ⟨#[]⟩, .slice none 0 0] 41)).cell? ⟨w2.heap.size, 0, none⟩ = some (.string s) := by rw [HW3.out]; exact y0
              have hq51 : (W2.alloc (.cells #[.int .u8 2, .int .u64 0, .int .i64 0, .string ⟨#[]⟩, .slice none 0 0] 41)).cell? ⟨w2.heap.size, 1, none⟩ = some (.int .i64 p) := by rw [HW3.out]; exact y1
              have hq52 : (W2.alloc (.cells #[.int .u8 2, .int .u64 0, .int .i64 0, .string ⟨#[]⟩, .slice none 0 0] 41)).cell? ⟨w2.heap.size, 2, none⟩ = some (.int .i64 e) := by rw [HW3.out]; exact y2
              have hq53 : (W2.alloc (.cells #[.int .u8 2, .int .u64 0, .int .i64 0, .string ⟨#[]⟩, .slice none 0 0] 41)).cell? ⟨wr.heap.size, 0, none⟩ = some (.int .u8 2) := by rw [HW3.out]; exact z0
              have hq54 : (W2.alloc (.cells #[.int .u8 2, .int .u64 0, .int .i64 0, .string ⟨#[]⟩, .slice none 0 0] 41)).cell? ⟨wr.heap.size, 1, none⟩ = some (.int .i64 olo) := by rw [HW3.out]; exact z1
              have hq55 : (W2.alloc (.cells #[.int .u8 2, .int .u64 0, .int .i64 0, .string ⟨#[]⟩, .slice none 0 0] 41)).cell? ⟨wr.heap.size, 2, none⟩ = some (.int .i64 ohi) := by rw [HW3.out]; exact z2
              have hq56 : (W2.alloc (.cells #[.int .u8 2, .int .u64 0, .int .i64 0, .string ⟨#[]⟩, .slice none 0 0] 41)).cell? ⟨wr.heap.size, 3, none⟩ = some (.int .i64 omost) := by rw [HW3.out]; exact z3
              clear hW3
              go_wp2_with fail
              rw [HW3.out]
              clear hW2 o0 o1 o2 o3 of z0 z1 z2 z3 zf y0 y1 y2 yf hq50 hq51 hq52 hq53 hq54 hq55 hq56
              refine HF5.out.mono ?_; rintro E w5 ⟨rfl, e1, e2, e3, hq5⟩
              have Q5 := Lib.hid hq5
              have G5 := Lib.hid ((hq5.block _ (lt_of_block G3.out)).trans G3.out)
              have A5 := Lib.hid ((hq5.block _ (lt_of_block A3.out)).trans A3.out)
              have D5 := Lib.hid ((hq5.block _ (lt_of_block D3.out)).trans D3.out)
              have R5 := Lib.hid (R3.out.q hq5)
              have E5 := Lib.hid (And.intro e1 (And.intro e2 e3))
              clear hq5 e1 e2 e3
              obtain ⟨W5, hW5⟩ : ∃ W, ((w5.setCell ⟨w2.heap.size, 0, none⟩ (.string s)).setCell ⟨w2.heap.size, 1, none⟩ (.int .i64 q1)).setCell ⟨w2.heap.size, 2, none⟩ (.int .i64 re) = W := ⟨_, rfl⟩
              have NE := Lib.hid (show w2.heap.size ≠ w4.heap.size ∧ w2.heap.size ≠ W2.heap.size ∧ W2.heap.size ≠ w4.heap.size ∧ w4.heap.size ≤ W2.heap.size by have := HSZ.out; have := HNO.out; omega)
              have NR := Lib.hid (show W2.heap.size ≠ b by have := HSZ.out; have := R3.out.lt; have := HNO.out; have := lt_of_block D3.out; have := NE.out; have := NBb.out; omega)
              have G6 := Lib.hid (show W5.heap[w2.heap.size]? = some (.cells #[.string s, .int .i64 q1, .int .i64 re] 36 (0, 0)) by rw [← hW5]; exact blk_set (blk_set (blk_set G5.out)))
              have A6 := Lib.hid (show W5.heap[w4.heap.size]? = some (.cells #[.int .u8 2, .int .u64 rn, .int .i64 ri, .string rt, .slice xA m xc] 41 (0, 0)) by rw [← hW5]; exact blk_other (blk_other (blk_other A5.out NE.out.1) NE.out.1) NE.out.1)
              have D6 := Lib.hid (show W5.heap[W2.heap.size]? = some (.cells #[.int .u8 2, .int .u64 0, .int .i64 0, .string ⟨#[]⟩, .slice none 0 0] 41 (0, 0)) by rw [← hW5]; exact blk_other (blk_other (blk_other D5.out NE.out.2.1) NE.out.2.1) NE.out.2.1)
              have R6 := Lib.hid (show Rr W5 b s q1 re by rw [← hW5]; exact ((R5.out.other HGB.out.1 _).other HGB.out.1 _).other HGB.out.1 _)
              have GG6 := Lib.hid (show G w2.heap.size w4 W5 by rw [← hW5]; exact (((GG.out.trans (G.of Q5.out)).set 0 _).set 1 _).set 2 _)
              obtain ⟨W6, hW6⟩ : ∃ W, W5.setCell ⟨W2.heap.size, 3, none⟩ (.string rt) = W := ⟨_, rfl⟩
              have G7 := Lib.hid (show W6.heap[w2.heap.size]? = some (.cells #[.string s, .int .i64 q1, .int .i64 re] 36 (0, 0)) by rw [← hW6]; exact blk_other G6.out NE.out.2.1.symm)
              have A7 := Lib.hid (show W6.heap[w4.heap.size]? = some (.cells #[.int .u8 2, .int .u64 rn, .int .i64 ri, .string rt, .slice xA m xc] 41 (0, 0)) by rw [← hW6]; exact blk_other A6.out NE.out.2.2.1)
              have D7 := Lib.hid (show W6.heap[W2.heap.size]? = some (.cells #[.int .u8 2, .int .u64 0, .int .i64 0, .string rt, .slice none 0 0] 41 (0, 0)) by rw [← hW6]; exact blk_set D6.out)
              have R7 := Lib.hid (show Rr W6 b s q1 re by rw [← hW6]; exact R6.out.other NR.out _)
              have GG7 := Lib.hid (show G w2.heap.size w4 W6 by rw [← hW6]; exact GG6.out.new NE.out.2.2.2 _)
              have B7 := Lib.hid (G.below B4.out GG7.out HGB.out.2 B4.out.size)
              have S7 := Lib.hid (G.rd S4.out (NB3.out.mono (by have := HNO.out; have := W1S.out; omega)) GG7.out)
              have HSM := Lib.hid (fun w' (hq : Q W6 w') => same_b 2 0 0 ok rn ri rt rt (.slice xA m xc) (.slice none 0 0) rl w' HZ.out (by rw [E5.out.1]; rfl) E5.out.2.1 rfl (S7.out.q hq) (by rw [E5.out.2.2]; exact RdI.nil _) SR.out)
              have HSL := Lib.hid (fun w' (hq : Q W6 w') => (Left_c s q1 re b w' HS.out (R7.out.q hq)).mono fun E w'' (h : _ ∧ w' = w'') => And.intro h.1 (show Q w' w'' from h.2 ▸ Q.refl w'))
              have HSR := Lib.hid (fun w' (hq : Q W6 w') => (Err_c s q1 re b w' (R7.out.q hq)).mono fun E w'' (h : _ ∧ w' = w'') => And.intro h.1 (show Q w' w'' from h.2 ▸ Q.refl w'))
              have HSE := Lib.hid (fun w' (hq : Q W6 w') => (End_c s q1 re b w' HS.out (R7.out.q hq)).mono fun E w'' (h : _ ∧ w' = w'') => And.intro h.1 (show Q w' w'' from h.2 ▸ Q.refl w'))
              have hrl := fun w' => rLeft_c s q1 re w' HS.out HQ2.out
              have hre := fun w' => rEnd_c s q1 re w' HS.out HQ2.out
              unfold rv at hrl hre
              obtain ⟨ml, hml⟩ : ∃ m, s.size - q1 = m := ⟨_, rfl⟩
              obtain ⟨ee, hee⟩ : ∃ m, endE s q1 re = m := ⟨_, rfl⟩
              rw [hml] at HSL hrl
              rw [hee] at HSE hre
              have HRL := Lib.hid hrl
              have HRE := Lib.hid hre
              clear hml hee hrl hre
              obtain ⟨y0, y1, y2, yf⟩ := tri G5.out
              obtain ⟨d0, d1, d2, d3, d4, df⟩ := five D6.out
              go_wp2_with fail
              clear hW5 hW6 y0 y1 y2 yf d0 d1 d2 d3 d4 df
              obtain ⟨y0, y1, y2, yf⟩ := tri G7.out
              obtain ⟨x0, x1, x2, x3, x4, xf⟩ := five A7.out
              obtain ⟨d0, d1, d2, d3, d4, df⟩ := five D7.out
              have yb := lt_of_block G7.out
              have xb := lt_of_block A7.out
              have db := lt_of_block D7.out
              have hd : Q W6 W6.drew := (Q.refl W6).drew
              go_region_held3 (fun W => (W.cell? ⟨w2.heap.size, 0, none⟩ = some (.string s) ∧ W.cell? ⟨w2.heap.size, 1, none⟩ = some (.int .i64 q1) ∧ W.cell? ⟨w2.heap.size, 2, none⟩ = some (.int .i64 re) ∧ w2.heap.size < W.heap.size) ∧ (W.cell? ⟨w4.heap.size, 0, none⟩ = some (.int .u8 2) ∧ W.cell? ⟨w4.heap.size, 1, none⟩ = some (.int .u64 rn) ∧ W.cell? ⟨w4.heap.size, 2, none⟩ = some (.int .i64 ri) ∧ W.cell? ⟨w4.heap.size, 3, none⟩ = some (.string rt) ∧ W.cell? ⟨w4.heap.size, 4, none⟩ = some (.slice xA m xc) ∧ w4.heap.size < W.heap.size) ∧ (W.cell? ⟨W2.heap.size, 0, none⟩ = some (.int .u8 2) ∧ W.cell? ⟨W2.heap.size, 1, none⟩ = some (.int .u64 0) ∧ W.cell? ⟨W2.heap.size, 2, none⟩ = some (.int .i64 0) ∧ W.cell? ⟨W2.heap.size, 3, none⟩ = some (.string rt) ∧ W.cell? ⟨W2.heap.size, 4, none⟩ = some (.slice none 0 0) ∧ W2.heap.size < W.heap.size) ∧ Q W6 W)
                (first | exact rdK ⟨⟨y0, y1, y2, yb⟩, ⟨x0, x1, x2, x3, x4, xb⟩, ⟨d0, d1, d2, d3, d4, db⟩, Q.refl _⟩ hd | exact rdK (by assumption) (by assumption))
                (first | (go_at_call 28; refine (HSM.out _ (rdQq (g := w2.heap.size) (a := w4.heap.size) (b := W2.heap.size) (c0 := .string s) (c1 := .int .i64 q1) (c2 := .int .i64 re) (a0 := .int .u8 2) (a1 := .int .u64 rn) (a2 := .int .i64 ri) (a3 := .string rt) (a4 := .slice xA m xc) (b0 := .int .u8 2) (b1 := .int .u64 0) (b2 := .int .i64 0) (b3 := .string rt) (b4 := .slice none 0 0) (by assumption))).mono ?_; rintro e w7 ⟨rfl, hq7⟩) | (go_at_call 29; refine (HSL.out _ (rdQq (g := w2.heap.size) (a := w4.heap.size) (b := W2.heap.size) (c0 := .string s) (c1 := .int .i64 q1) (c2 := .int .i64 re) (a0 := .int .u8 2) (a1 := .int .u64 rn) (a2 := .int .i64 ri) (a3 := .string rt) (a4 := .slice xA m xc) (b0 := .int .u8 2) (b1 := .int .u64 0) (b2 := .int .i64 0) (b3 := .string rt) (b4 := .slice none 0 0) (by assumption))).mono ?_; rintro e w7 ⟨rfl, hq7⟩) | (go_at_call 31; refine (HSR.out _ (rdQq (g := w2.heap.size) (a := w4.heap.size) (b := W2.heap.size) (c0 := .string s) (c1 := .int .i64 q1) (c2 := .int .i64 re) (a0 := .int .u8 2) (a1 := .int .u64 rn) (a2 := .int .i64 ri) (a3 := .string rt) (a4 := .slice xA m xc) (b0 := .int .u8 2) (b1 := .int .u64 0) (b2 := .int .i64 0) (b3 := .string rt) (b4 := .slice none 0 0) (by assumption))).mono ?_; rintro e w7 ⟨rfl, hq7⟩) | (go_at_call 32; refine (HSE.out _ (rdQq (g := w2.heap.size) (a := w4.heap.size) (b := W2.heap.size) (c0 := .string s) (c1 := .int .i64 q1) (c2 := .int .i64 re) (a0 := .int .u8 2) (a1 := .int .u64 rn) (a2 := .int .i64 ri) (a3 := .string rt) (a4 := .slice xA m xc) (b0 := .int .u8 2) (b1 := .int .u64 0) (b2 := .int .i64 0) (b3 := .string rt) (b4 := .slice none 0 0) (by assumption))).mono ?_; rintro e w7 ⟨rfl, hq7⟩) | (go_at_call 30; refine (HRL.out _).mono ?_; rintro e w7 ⟨rfl, hq7⟩) | (go_at_call 33; refine (HRE.out _).mono ?_; rintro e w7 ⟨rfl, hq7⟩))
              all_goals go_wp2_with fail
              all_goals go_roundw
              case rel => exact ⟨k + 1, q1, re, by omega, by go_num, R7.out.q (rdQq (g := w2.heap.size) (a := w4.heap.size) (b := W2.heap.size) (c0 := .string s) (c1 := .int .i64 q1) (c2 := .int .i64 re) (a0 := .int .u8 2) (a1 := .int .u64 rn) (a2 := .int .i64 ri) (a3 := .string rt) (a4 := .slice xA m xc) (b0 := .int .u8 2) (b1 := .int .u64 0) (b2 := .int .i64 0) (b3 := .string rt) (b4 := .slice none 0 0) (by assumption)), HQ2.out, Below.trans B7.out (Below.mono (rdQq (g := w2.heap.size) (a := w4.heap.size) (b := W2.heap.size) (c0 := .string s) (c1 := .int .i64 q1) (c2 := .int .i64 re) (a0 := .int .u8 2) (a1 := .int .u64 rn) (a2 := .int .i64 ri) (a3 := .string rt) (a4 := .slice xA m xc) (b0 := .int .u8 2) (b1 := .int .u64 0) (b2 := .int .i64 0) (b3 := .string rt) (b4 := .slice none 0 0) (by assumption)) B7.out.size), ((rdQq (g := w2.heap.size) (a := w4.heap.size) (b := W2.heap.size) (c0 := .string s) (c1 := .int .i64 q1) (c2 := .int .i64 re) (a0 := .int .u8 2) (a1 := .int .u64 rn) (a2 := .int .i64 ri) (a3 := .string rt) (a4 := .slice xA m xc) (b0 := .int .u8 2) (b1 := .int .u64 0) (b2 := .int .i64 0) (b3 := .string rt) (b4 := .slice none 0 0) (by assumption)).block _ (lt_of_block G7.out)).trans G7.out⟩
              case measure => simp [intOf] <;> omega
            · have HK := Lib.hid (show 2 < ok by omega)
              have t0 : (z == 0) = false := by have := HZ.out; simp; omega
              have t1 : (z == 1) = false := by have := HZ.out; simp; omega
              have t2 : (z == 2) = false := by have := HZ.out; simp; omega
              have HO0 := HOUT
              have HF5 := Lib.hid (rInts_r s p e ok olo ohi omost W3 HK.out HS.out HP.out HO.out.2.2.2 HO0.out)
              unfold JPost rv at HF5
              rw [HQ1.out] at HF5
              clear hk0 hk1 hk2
              have HW3 := Lib.hid hW3
              have hq50 : (W2.alloc (.cells #[.int .u8 z, .int .u64 0, .int .i64 0, .string ⟨#[]⟩, .slice none 0 0] 41)).cell? ⟨w2.heap.size, 0, none⟩ = some (.string s) := by rw [HW3.out]; exact y0
              have hq51 : (W2.alloc (.cells #[.int .u8 z, .int .u64 0, .int .i64 0, .string ⟨#[]⟩, .slice none 0 0] 41)).cell? ⟨w2.heap.size, 1, none⟩ = some (.int .i64 p) := by rw [HW3.out]; exact y1
              have hq52 : (W2.alloc (.cells #[.int .u8 z, .int .u64 0, .int .i64 0, .string ⟨#[]⟩, .slice none 0 0] 41)).cell? ⟨w2.heap.size, 2, none⟩ = some (.int .i64 e) := by rw [HW3.out]; exact y2
              have hq53 : (W2.alloc (.cells #[.int .u8 z, .int .u64 0, .int .i64 0, .string ⟨#[]⟩, .slice none 0 0] 41)).cell? ⟨wr.heap.size, 0, none⟩ = some (.int .u8 z) := by rw [HW3.out]; exact z0
              have hq54 : (W2.alloc (.cells #[.int .u8 z, .int .u64 0, .int .i64 0, .string ⟨#[]⟩, .slice none 0 0] 41)).cell? ⟨wr.heap.size, 1, none⟩ = some (.int .i64 olo) := by rw [HW3.out]; exact z1
              have hq55 : (W2.alloc (.cells #[.int .u8 z, .int .u64 0, .int .i64 0, .string ⟨#[]⟩, .slice none 0 0] 41)).cell? ⟨wr.heap.size, 2, none⟩ = some (.int .i64 ohi) := by rw [HW3.out]; exact z2
              have hq56 : (W2.alloc (.cells #[.int .u8 z, .int .u64 0, .int .i64 0, .string ⟨#[]⟩, .slice none 0 0] 41)).cell? ⟨wr.heap.size, 3, none⟩ = some (.int .i64 omost) := by rw [HW3.out]; exact z3
              clear hW3
              go_wp2_with fail
              rw [HW3.out]
              clear hW2 o0 o1 o2 o3 of z0 z1 z2 z3 zf y0 y1 y2 yf hq50 hq51 hq52 hq53 hq54 hq55 hq56
              refine HF5.out.mono ?_; rintro E w5 ⟨vv, rfl, e1, e2, e3, hvv, hnv, hq5⟩
              have hvv2 := hvv
              obtain ⟨uA, uc, rfl, huc, _⟩ := hvv2
              obtain ⟨un, hun⟩ : ∃ m, rl.length = m := ⟨_, rfl⟩
              rw [hun] at hvv hnv ⊢
              have HVV := Lib.hid hvv
              have HNV := Lib.hid hnv
              clear hvv hnv hun huc
              have Q5 := Lib.hid hq5
              have G5 := Lib.hid ((hq5.block _ (lt_of_block G3.out)).trans G3.out)
              have A5 := Lib.hid ((hq5.block _ (lt_of_block A3.out)).trans A3.out)
              have D5 := Lib.hid ((hq5.block _ (lt_of_block D3.out)).trans D3.out)
              have R5 := Lib.hid (R3.out.q hq5)
              have E5 := Lib.hid (And.intro e1 (And.intro e2 e3))
              clear hq5 e1 e2 e3
              obtain ⟨W5, hW5⟩ : ∃ W, ((w5.setCell ⟨w2.heap.size, 0, none⟩ (.string s)).setCell ⟨w2.heap.size, 1, none⟩ (.int .i64 q1)).setCell ⟨w2.heap.size, 2, none⟩ (.int .i64 re) = W := ⟨_, rfl⟩
              have NE := Lib.hid (show w2.heap.size ≠ w4.heap.size ∧ w2.heap.size ≠ W2.heap.size ∧ W2.heap.size ≠ w4.heap.size ∧ w4.heap.size ≤ W2.heap.size by have := HSZ.out; have := HNO.out; omega)
              have NR := Lib.hid (show W2.heap.size ≠ b by have := HSZ.out; have := R3.out.lt; have := HNO.out; have := lt_of_block D3.out; have := NE.out; have := NBb.out; omega)
              have G6 := Lib.hid (show W5.heap[w2.heap.size]? = some (.cells #[.string s, .int .i64 q1, .int .i64 re] 36 (0, 0)) by rw [← hW5]; exact blk_set (blk_set (blk_set G5.out)))
              have A6 := Lib.hid (show W5.heap[w4.heap.size]? = some (.cells #[.int .u8 z, .int .u64 rn, .int .i64 ri, .string rt, .slice xA m xc] 41 (0, 0)) by rw [← hW5]; exact blk_other (blk_other (blk_other A5.out NE.out.1) NE.out.1) NE.out.1)
              have D6 := Lib.hid (show W5.heap[W2.heap.size]? = some (.cells #[.int .u8 z, .int .u64 0, .int .i64 0, .string ⟨#[]⟩, .slice none 0 0] 41 (0, 0)) by rw [← hW5]; exact blk_other (blk_other (blk_other D5.out NE.out.2.1) NE.out.2.1) NE.out.2.1)
              have R6 := Lib.hid (show Rr W5 b s q1 re by rw [← hW5]; exact ((R5.out.other HGB.out.1 _).other HGB.out.1 _).other HGB.out.1 _)
              have GG6 := Lib.hid (show G w2.heap.size w4 W5 by rw [← hW5]; exact (((GG.out.trans (G.of Q5.out)).set 0 _).set 1 _).set 2 _)
              have VV6 := Lib.hid (show RdI W5 (.slice uA un uc) rl by rw [← hW5]; exact ((HVV.out.other (HNV.out.mono (by have := lt_of_block G3.out; omega)) _).other (HNV.out.mono (by have := lt_of_block G3.out; omega)) _).other (HNV.out.mono (by have := lt_of_block G3.out; omega)) _)
              obtain ⟨W6, hW6⟩ : ∃ W, W5.setCell ⟨W2.heap.size, 4, none⟩ (.slice uA un uc) = W := ⟨_, rfl⟩
              have G7 := Lib.hid (show W6.heap[w2.heap.size]? = some (.cells #[.string s, .int .i64 q1, .int .i64 re] 36 (0, 0)) by rw [← hW6]; exact blk_other G6.out NE.out.2.1.symm)
              have A7 := Lib.hid (show W6.heap[w4.heap.size]? = some (.cells #[.int .u8 z, .int .u64 rn, .int .i64 ri, .string rt, .slice xA m xc] 41 (0, 0)) by rw [← hW6]; exact blk_other A6.out NE.out.2.2.1)
              have D7 := Lib.hid (show W6.heap[W2.heap.size]? = some (.cells #[.int .u8 z, .int .u64 0, .int .i64 0, .string ⟨#[]⟩, .slice uA un uc] 41 (0, 0)) by rw [← hW6]; exact blk_set D6.out)
              have R7 := Lib.hid (show Rr W6 b s q1 re by rw [← hW6]; exact R6.out.other NR.out _)
              have GG7 := Lib.hid (show G w2.heap.size w4 W6 by rw [← hW6]; exact GG6.out.new NE.out.2.2.2 _)
              have B7 := Lib.hid (G.below B4.out GG7.out HGB.out.2 B4.out.size)
              have S7 := Lib.hid (G.rd S4.out (NB3.out.mono (by have := HNO.out; have := W1S.out; omega)) GG7.out)
              have VV7 := Lib.hid (show RdI W6 (.slice uA un uc) rl by rw [← hW6]; exact VV6.out.other (HNV.out.mono (by have := lt_of_block D3.out; omega)) _)
              have HSM := Lib.hid (fun w' (hq : Q W6 w') => same_b z 0 0 ok rn ri rt ⟨#[]⟩ (.slice xA m xc) (.slice uA un uc) rl w' HZ.out (by rw [E5.out.1]; rfl) E5.out.2.1 E5.out.2.2 (S7.out.q hq) (VV7.out.q hq) SR.out)
              have HSL := Lib.hid (fun w' (hq : Q W6 w') => (Left_c s q1 re b w' HS.out (R7.out.q hq)).mono fun E w'' (h : _ ∧ w' = w'') => And.intro h.1 (show Q w' w'' from h.2 ▸ Q.refl w'))
              have HSR := Lib.hid (fun w' (hq : Q W6 w') => (Err_c s q1 re b w' (R7.out.q hq)).mono fun E w'' (h : _ ∧ w' = w'') => And.intro h.1 (show Q w' w'' from h.2 ▸ Q.refl w'))
              have HSE := Lib.hid (fun w' (hq : Q W6 w') => (End_c s q1 re b w' HS.out (R7.out.q hq)).mono fun E w'' (h : _ ∧ w' = w'') => And.intro h.1 (show Q w' w'' from h.2 ▸ Q.refl w'))
              have hrl := fun w' => rLeft_c s q1 re w' HS.out HQ2.out
              have hre := fun w' => rEnd_c s q1 re w' HS.out HQ2.out
              unfold rv at hrl hre
              obtain ⟨ml, hml⟩ : ∃ m, s.size - q1 = m := ⟨_, rfl⟩
              obtain ⟨ee, hee⟩ : ∃ m, endE s q1 re = m := ⟨_, rfl⟩
              rw [hml] at HSL hrl
              rw [hee] at HSE hre
              have HRL := Lib.hid hrl
              have HRE := Lib.hid hre
              clear hml hee hrl hre
              obtain ⟨y0, y1, y2, yf⟩ := tri G5.out
              obtain ⟨d0, d1, d2, d3, d4, df⟩ := five D6.out
              go_wp2_with fail
              clear hW5 hW6 y0 y1 y2 yf d0 d1 d2 d3 d4 df
              obtain ⟨y0, y1, y2, yf⟩ := tri G7.out
              obtain ⟨x0, x1, x2, x3, x4, xf⟩ := five A7.out
              obtain ⟨d0, d1, d2, d3, d4, df⟩ := five D7.out
              have yb := lt_of_block G7.out
              have xb := lt_of_block A7.out
              have db := lt_of_block D7.out
              have hd : Q W6 W6.drew := (Q.refl W6).drew
              go_region_held3 (fun W => (W.cell? ⟨w2.heap.size, 0, none⟩ = some (.string s) ∧ W.cell? ⟨w2.heap.size, 1, none⟩ = some (.int .i64 q1) ∧ W.cell? ⟨w2.heap.size, 2, none⟩ = some (.int .i64 re) ∧ w2.heap.size < W.heap.size) ∧ (W.cell? ⟨w4.heap.size, 0, none⟩ = some (.int .u8 z) ∧ W.cell? ⟨w4.heap.size, 1, none⟩ = some (.int .u64 rn) ∧ W.cell? ⟨w4.heap.size, 2, none⟩ = some (.int .i64 ri) ∧ W.cell? ⟨w4.heap.size, 3, none⟩ = some (.string rt) ∧ W.cell? ⟨w4.heap.size, 4, none⟩ = some (.slice xA m xc) ∧ w4.heap.size < W.heap.size) ∧ (W.cell? ⟨W2.heap.size, 0, none⟩ = some (.int .u8 z) ∧ W.cell? ⟨W2.heap.size, 1, none⟩ = some (.int .u64 0) ∧ W.cell? ⟨W2.heap.size, 2, none⟩ = some (.int .i64 0) ∧ W.cell? ⟨W2.heap.size, 3, none⟩ = some (.string ⟨#[]⟩) ∧ W.cell? ⟨W2.heap.size, 4, none⟩ = some (.slice uA un uc) ∧ W2.heap.size < W.heap.size) ∧ Q W6 W)
                (first | exact rdK ⟨⟨y0, y1, y2, yb⟩, ⟨x0, x1, x2, x3, x4, xb⟩, ⟨d0, d1, d2, d3, d4, db⟩, Q.refl _⟩ hd | exact rdK (by assumption) (by assumption))
                (first | (go_at_call 28; refine (HSM.out _ (rdQq (g := w2.heap.size) (a := w4.heap.size) (b := W2.heap.size) (c0 := .string s) (c1 := .int .i64 q1) (c2 := .int .i64 re) (a0 := .int .u8 z) (a1 := .int .u64 rn) (a2 := .int .i64 ri) (a3 := .string rt) (a4 := .slice xA m xc) (b0 := .int .u8 z) (b1 := .int .u64 0) (b2 := .int .i64 0) (b3 := .string ⟨#[]⟩) (b4 := .slice uA un uc) (by assumption))).mono ?_; rintro e w7 ⟨rfl, hq7⟩) | (go_at_call 29; refine (HSL.out _ (rdQq (g := w2.heap.size) (a := w4.heap.size) (b := W2.heap.size) (c0 := .string s) (c1 := .int .i64 q1) (c2 := .int .i64 re) (a0 := .int .u8 z) (a1 := .int .u64 rn) (a2 := .int .i64 ri) (a3 := .string rt) (a4 := .slice xA m xc) (b0 := .int .u8 z) (b1 := .int .u64 0) (b2 := .int .i64 0) (b3 := .string ⟨#[]⟩) (b4 := .slice uA un uc) (by assumption))).mono ?_; rintro e w7 ⟨rfl, hq7⟩) | (go_at_call 31; refine (HSR.out _ (rdQq (g := w2.heap.size) (a := w4.heap.size) (b := W2.heap.size) (c0 := .string s) (c1 := .int .i64 q1) (c2 := .int .i64 re) (a0 := .int .u8 z) (a1 := .int .u64 rn) (a2 := .int .i64 ri) (a3 := .string rt) (a4 := .slice xA m xc) (b0 := .int .u8 z) (b1 := .int .u64 0) (b2 := .int .i64 0) (b3 := .string ⟨#[]⟩) (b4 := .slice uA un uc) (by assumption))).mono ?_; rintro e w7 ⟨rfl, hq7⟩) | (go_at_call 32; refine (HSE.out _ (rdQq (g := w2.heap.size) (a := w4.heap.size) (b := W2.heap.size) (c0 := .string s) (c1 := .int .i64 q1) (c2 := .int .i64 re) (a0 := .int .u8 z) (a1 := .int .u64 rn) (a2 := .int .i64 ri) (a3 := .string rt) (a4 := .slice xA m xc) (b0 := .int .u8 z) (b1 := .int .u64 0) (b2 := .int .i64 0) (b3 := .string ⟨#[]⟩) (b4 := .slice uA un uc) (by assumption))).mono ?_; rintro e w7 ⟨rfl, hq7⟩) | (go_at_call 30; refine (HRL.out _).mono ?_; rintro e w7 ⟨rfl, hq7⟩) | (go_at_call 33; refine (HRE.out _).mono ?_; rintro e w7 ⟨rfl, hq7⟩))
              all_goals go_wp2_with fail
              all_goals go_roundw
              case rel => exact ⟨k + 1, q1, re, by omega, by go_num, R7.out.q (rdQq (g := w2.heap.size) (a := w4.heap.size) (b := W2.heap.size) (c0 := .string s) (c1 := .int .i64 q1) (c2 := .int .i64 re) (a0 := .int .u8 z) (a1 := .int .u64 rn) (a2 := .int .i64 ri) (a3 := .string rt) (a4 := .slice xA m xc) (b0 := .int .u8 z) (b1 := .int .u64 0) (b2 := .int .i64 0) (b3 := .string ⟨#[]⟩) (b4 := .slice uA un uc) (by assumption)), HQ2.out, Below.trans B7.out (Below.mono (rdQq (g := w2.heap.size) (a := w4.heap.size) (b := W2.heap.size) (c0 := .string s) (c1 := .int .i64 q1) (c2 := .int .i64 re) (a0 := .int .u8 z) (a1 := .int .u64 rn) (a2 := .int .i64 ri) (a3 := .string rt) (a4 := .slice xA m xc) (b0 := .int .u8 z) (b1 := .int .u64 0) (b2 := .int .i64 0) (b3 := .string ⟨#[]⟩) (b4 := .slice uA un uc) (by assumption)) B7.out.size), ((rdQq (g := w2.heap.size) (a := w4.heap.size) (b := W2.heap.size) (c0 := .string s) (c1 := .int .i64 q1) (c2 := .int .i64 re) (a0 := .int .u8 z) (a1 := .int .u64 rn) (a2 := .int .i64 ri) (a3 := .string rt) (a4 := .slice xA m xc) (b0 := .int .u8 z) (b1 := .int .u64 0) (b2 := .int .i64 0) (b3 := .string ⟨#[]⟩) (b4 := .slice uA un uc) (by assumption)).block _ (lt_of_block G7.out)).trans G7.out⟩
              case measure => simp [intOf] <;> omega
      · obtain rfl : k = n := by omega
        have HSL := Lib.hid (fun w' (hq : Q wr w') => (Left_c s p e b w' HS.out (HI.out.1.q hq)).mono fun E w'' (h : _ ∧ w' = w'') => And.intro h.1 (show Q w' w'' from h.2 ▸ Q.refl w'))
        have HSE := Lib.hid (fun w' (hq : Q wr w') => (End_c s p e b w' HS.out (HI.out.1.q hq)).mono fun E w'' (h : _ ∧ w' = w'') => And.intro h.1 (show Q w' w'' from h.2 ▸ Q.refl w'))
        have hrl := fun w' => rLeft_c s p e w' HS.out HI.out.2.1
        have hre := fun w' => rEnd_c s p e w' HS.out HI.out.2.1
        unfold rv at hrl hre
        obtain ⟨ml, hml⟩ : ∃ m, s.size - p = m := ⟨_, rfl⟩
        obtain ⟨ee, hee⟩ : ∃ m, endE s p e = m := ⟨_, rfl⟩
        rw [hml] at HSL hrl
        rw [hee] at HSE hre
        have HRL := Lib.hid hrl
        have HRE := Lib.hid hre
        clear hml hee hrl hre
        obtain ⟨y0, y1, y2, yf⟩ := tri HI.out.2.2.2
        have yb := lt_of_block HI.out.2.2.2
        go_wp2_with fail
        have hd : Q wr wr.drew := (Q.refl wr).drew
        go_region_held3 (fun W => (W.cell? ⟨w2.heap.size, 0, none⟩ = some (.string s) ∧ W.cell? ⟨w2.heap.size, 1, none⟩ = some (.int .i64 p) ∧ W.cell? ⟨w2.heap.size, 2, none⟩ = some (.int .i64 e) ∧ w2.heap.size < W.heap.size) ∧ Q wr W)
          (first | exact rdEK ⟨⟨y0, y1, y2, yb⟩, Q.refl _⟩ hd | exact rdEK (by assumption) (by assumption))
          (first | (go_at_call 29; refine (HSL.out _ (rdE (g := w2.heap.size) (c0 := .string s) (c1 := .int .i64 p) (c2 := .int .i64 e) (by assumption))).mono ?_; rintro e w7 ⟨rfl, hq7⟩) | (go_at_call 32; refine (HSE.out _ (rdE (g := w2.heap.size) (c0 := .string s) (c1 := .int .i64 p) (c2 := .int .i64 e) (by assumption))).mono ?_; rintro e w7 ⟨rfl, hq7⟩) | (go_at_call 30; refine (HRL.out _).mono ?_; rintro e w7 ⟨rfl, hq7⟩) | (go_at_call 33; refine (HRE.out _).mono ?_; rintro e w7 ⟨rfl, hq7⟩) | (go_at_call 16; refine (awake_c _).mono ?_; rintro e w7 ⟨rfl, hq7⟩))
        all_goals go_wp2_with fail
        all_goals go_ret
        all_goals exact ⟨rfl, Below.trans HI.out.2.2.1 (Below.mono (rdE (g := w2.heap.size) (c0 := .string s) (c1 := .int .i64 p) (c2 := .int .i64 e) (by assumption)) HI.out.2.2.1.size)⟩
  · have i1 : 3000 < (s.size : Int) ∨ (¬ 3000 < (s.size : Int) ∧ 60 < (n : Int)) := by omega
    clear h
    rcases i1 with i1 | ⟨i1, i2⟩
    all_goals
      go_enter Try.func5, Try.ntmps5
      go_wp2_with fail
      refine (awake_c _).mono ?_; rintro E w5 ⟨rfl, hq5⟩
      go_wp2_with fail
      go_ret
      exact ⟨rfl, hq5⟩

namespace wireReads
theorem own : ownKnob Try.prog.godebug = none := by kernel_rfl
set_option maxRecDepth 100000 in
set_option maxHeartbeats 800000 in
theorem lifted (os : Os) (started : os.Started) (H : Type) (enc : TypeId × Value → H) :
    ReturnsInHanded {} Try.checked os 5 .any (Rows.wireReadsSpec.pre6 enc Try.prog Try.f5 Rows.wireReadsRow.domain false) (Rows.wireReadsSpec.post enc Try.prog Try.f5 false true false false) := by
  refine returnsInHanded_of_change (C := Try.checked) own started (by kernel_rfl) Try.func5
    (ChangeSpec.witness6 (enc := enc) (C := Try.checked) false ⟨#[], #[.string ByteArray.empty, .slice none 0 0], []⟩ 8 (by kernel_rfl) (by kernel_rfl) (by kernel_rfl) (by kernel_rfl)) ?_
  intro W base args ds gs before hval0 hW hcnd _
  have hval : ∀ (j : Nat) t v, Try.f5.params[j]? = some t → args[j]? = some v → Value.okWide Try.prog W .any base t v := hval0
  have hW' := hW
  obtain ⟨p, q, hA0, hV, rfl, hfz, hnd⟩ := hW
  have hA : DataW.TrodAll enc Try.prog W 0 (fun _ => true) true Try.f5.params.toList args.toList ds p := hA0
  rw [Try.params5] at hA hval
  obtain ⟨v0, vs0, d0, ds0, p0, q0, hargs, rfl, rfl, h0, r0⟩ := trodAll_cons hA
  obtain ⟨v1, vs1, d1, ds1, p1, q1, rfl, rfl, rfl, h1, r1⟩ := trodAll_cons r0
  obtain ⟨rfl, rfl, rfl⟩ := trodAll_nil r1
  obtain rfl : args = #[v0, v1] := by cases args; simp_all
  obtain ⟨rfl, rfl⟩ := trodVars_none hV
  have a0 := open_str (hval 0 9 v0 rfl rfl) h0
  have a1 := open_ops (hval 1 31 v1 rfl rfl) h1
  clear hA0 hval0
  refine (reads_walk W v0 v1 a0 a1).mono fun e W' ⟨he, bel⟩ => ?_
  subst he
  exact ⟨_, rfl, _, _, _, [], _, [], hW', trodAll_mk1 (shut_bool Try.underlying4 _), (trodAll_cons_mk (stays (by kernel_rfl) (of_decide_eq_true (by kernel_rfl)) h0 bel) (trodAll_cons_mk (stays (by kernel_rfl) (of_decide_eq_true (by kernel_rfl)) h1 bel) trodAll_mk0)), rfl, bel.frame _, fun h => by cases h⟩
theorem over : Rows.wireReadsRow.holds Try.pinned (OpenSpec.ofChange Rows.wireReadsSpec) :=
  OpenClaim.holds_of_wide 5 Try.f5 rfl rfl rfl rfl rfl rfl rfl ⟨rfl, rfl, rfl, rfl, rfl⟩ rfl rfl rfl rfl rfl (by kernel_rfl) Try.func5 (by kernel_rfl)
    (of_decide_eq_true (by kernel_rfl)) (by unfold Func.isWrapper; first | (rw [if_pos (by decide +kernel)]; kernel_rfl) | (rw [if_neg (by decide +kernel)]; exact ⟨rfl, rfl⟩))
    (fun os started H enc _ => lifted os started H enc)
theorem proved : Rows.WireReadsSaid := over
end wireReads

end Go.Proofs.Ytnejobcbhddpoaa
