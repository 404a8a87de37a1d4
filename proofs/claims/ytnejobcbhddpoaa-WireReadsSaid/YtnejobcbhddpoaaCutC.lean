/- The contracts of cutText and cutInts. -/
import Derived.Test.YtnejobcbhddpoaaCutB
set_option linter.unusedVariables false
set_option linter.unusedSimpArgs false
namespace Go.Proofs.Ytnejobcbhddpoaa
open Go.ChangeShapes Go.WideShapes Go.ChangeAt Go.RowKit Wm

def eT (s : ByteArray) (p : Nat) (most : Int) : Nat := if eC s p most = 0 then (if s.size - (p + lU s p) < vU s p then 3 else 0) else eC s p most
def tT (s : ByteArray) (p : Nat) (most : Int) : ByteArray := if eT s p most = 0 then s.extract (p + lU s p) (p + lU s p + vU s p) else ByteArray.empty
def lT (s : ByteArray) (p : Nat) (most : Int) : Nat := if eT s p most = 0 then lU s p + vU s p else 0
def NT (s : ByteArray) (p : Nat) (most : Int) (t : ByteArray) (l e : Nat) : Prop := tT s p most = t ∧ lT s p most = l ∧ eT s p most = e
theorem NT_bad {s : ByteArray} {p : Nat} {most : Int} {t : ByteArray} {l e : Nat} (h : NT s p most t l e) (h0 : eC s p most ≠ 0) : t = ByteArray.empty ∧ l = 0 ∧ e = eC s p most := by
  obtain ⟨rfl, rfl, rfl⟩ := h
  have e1 : eT s p most = eC s p most := by unfold eT; rw [if_neg h0]
  refine ⟨?_, ?_, e1⟩
  · unfold tT; rw [e1, if_neg h0]
  · unfold lT; rw [e1, if_neg h0]
theorem eC_ok {s : ByteArray} {p : Nat} {most : Int} (h : eC s p most = 0) : eU s p = 0 ∧ vC s p most = vU s p ∧ lC s p most = lU s p ∧ ¬ (most < 0 ∨ most < (vU s p : Int)) := by
  have h1 : eU s p = 0 := by
    unfold eC at h
    by_cases g : eU s p = 0
    · exact g
    · rw [if_neg g] at h; exact absurd h g
  refine ⟨h1, by unfold vC; rw [if_pos h], by unfold lC; rw [if_pos h], fun g => ?_⟩
  unfold eC at h
  rw [if_pos h1, if_pos g] at h; cases h
theorem NT_short {s : ByteArray} {p : Nat} {most : Int} {t : ByteArray} {l e : Nat} (h : NT s p most t l e) (h0 : eC s p most = 0) (h1 : s.size - (p + lU s p) < vU s p) : t = ByteArray.empty ∧ l = 0 ∧ e = 3 := by
  obtain ⟨rfl, rfl, rfl⟩ := h
  have e1 : eT s p most = 3 := by unfold eT; rw [if_pos h0, if_pos h1]
  refine ⟨?_, ?_, e1⟩
  · unfold tT; rw [e1]; rfl
  · unfold lT; rw [e1]; rfl
theorem NT_ok {s : ByteArray} {p : Nat} {most : Int} {t : ByteArray} {l e : Nat} (h : NT s p most t l e) (h0 : eC s p most = 0) (h1 : ¬ s.size - (p + lU s p) < vU s p) : t = s.extract (p + lU s p) (p + lU s p + vU s p) ∧ l = lU s p + vU s p ∧ e = 0 := by
  obtain ⟨rfl, rfl, rfl⟩ := h
  have e1 : eT s p most = 0 := by unfold eT; rw [if_pos h0, if_neg h1]
  refine ⟨?_, ?_, e1⟩
  · unfold tT; rw [e1]; rfl
  · unfold lT; rw [e1]; rfl
theorem ret_t {c d : Int} {s t s' t' : ByteArray} (h1 : s = s') (h2 : t = t') (h3 : c = d) : Ending.returned (.tuple #[.string s, .string t, .int .i64 c]) = .returned (.tuple #[.string s', .string t', .int .i64 d]) := by rw [h1, h2, h3]
theorem rs_take (s : ByteArray) (p u : Nat) : (rs s p).extract 0 u = s.extract p (min (p + u) s.size) := by unfold rs; rw [ByteArray.extract_extract]; congr 1
set_option maxRecDepth 100000 in
set_option maxHeartbeats 1600000 in
theorem cutText_at (s : ByteArray) (p : Nat) (most : Int) (t : ByteArray) (l e : Nat) (hs : s.size ≤ 1000000) (hp : p ≤ s.size) (hm : Fit most) (h : Hid (NT s p most t l e)) (w : World) : Calls Try.prog 50 #[.string (rs s p), .int .i64 most] w fun E w' => E = .returned (.tuple #[.string t, .string (rs s (p + l)), .int .i64 e]) ∧ Q w w' := by
  have HS := Lib.hid hs; clear hs
  have HM := Lib.hid hm; clear hm
  obtain ⟨u, hu⟩ : ∃ u, vC s p most = u := ⟨_, rfl⟩
  obtain ⟨k, hk⟩ : ∃ k, lC s p most = k := ⟨_, rfl⟩
  obtain ⟨x, hx⟩ : ∃ x, eC s p most = x := ⟨_, rfl⟩
  have HN := Lib.hid (show NC s p most u k x from ⟨hu, hk, hx⟩)
  by_cases h0 : x = 0
  · subst h0
    obtain ⟨g1, g2, g3, g4⟩ := eC_ok hx
    rw [g2] at hu; rw [g3] at hk
    obtain ⟨R, hR⟩ : ∃ R, rs s (p + k) = R := ⟨_, rfl⟩
    have hRs : R.size = s.size - (p + k) := by rw [← hR, rs_size]
    have hRb : R.size ≤ 1000000 := by have := HS.out; omega
    by_cases h1 : R.size < u
    · obtain ⟨r1, r2, r3⟩ := NT_short h.out hx (by rw [hu, hk, ← hRs]; exact h1)
      subst r1 r2 r3
      have t1 : (R.size : Int) < (u : Int) := by omega
      have HC := Lib.hid (fun w => cutCount_at s p most u k 0 HS.out HM.out HN w)
      rw [hR] at HC
      clear hu hk hx h g1 g2 g3 g4 HN hR hRs
      go_enter Try.func50, Try.ntmps50
      go_wp2_with fail
      refine (HC.out _).mono ?_; rintro E w1 ⟨rfl, hq1⟩
      go_wp2_with fail
      go_ret3
      exact ⟨ret_t rfl rfl rfl, hq1⟩
    · obtain ⟨r1, r2, r3⟩ := NT_ok h.out hx (by rw [hu, hk, ← hRs]; exact h1)
      have t1 : ¬ (R.size : Int) < (u : Int) := by omega
      have t2 : (u : Int) ≤ (R.size : Int) := by omega
      have t3 : u ≤ R.size := by omega
      have HC := Lib.hid (fun w => cutCount_at s p most u k 0 HS.out HM.out HN w)
      rw [hR] at HC
      have HV : Hid (R.extract 0 u = t ∧ R.extract u R.size = rs s (p + l) ∧ ((0 : Nat) : Int) = (e : Int)) := by
        refine ⟨?_, ?_, by rw [r3]⟩
        · have hl := lU_le s p
          rw [r1, ← hR, rs_take, hu, hk]; congr 1; omega
        · rw [r2, ← hR, rs_rs, hu, hk]; congr 1; omega
      clear hu hk hx h g1 g2 g3 g4 HN hR hRs r1 r2 r3 h1
      go_enter Try.func50, Try.ntmps50
      go_wp2_with fail
      refine (HC.out _).mono ?_; rintro E w1 ⟨rfl, hq1⟩
      go_wp2_with fail
      go_quiet (fail)
      go_wp2_with fail
      go_ret3
      exact ⟨ret_t HV.out.1 HV.out.2.1 HV.out.2.2, hq1.drewN _⟩
  · have t0 : ((x : Int) != 0) = true := by simp; omega
    have t0' : ((x : Int) == 0) = false := by simp; omega
    obtain ⟨r1, r2, r3⟩ := NT_bad h.out (by rw [hx]; exact h0)
    rw [hx] at r3
    subst r1 r2 r3
    clear hu hk hx h h0
    go_enter Try.func50, Try.ntmps50
    go_wp2_with fail
    refine (cutCount_at s p most u k _ HS.out HM.out HN _).mono ?_; rintro E w1 ⟨rfl, hq1⟩
    go_wp2_with fail
    go_ret3
    exact ⟨rfl, hq1⟩

/-! lists of ints -/
def iv (z : Int) : Value := .int .i64 z
/-- a slice that reads as a list of ints -/
def RdI (w : World) (v : Value) (l : List Int) : Prop := ∃ A c, v = .slice A l.length c ∧ l.length ≤ c ∧ (0 < l.length → ∃ b off, A = some ⟨b, off, none⟩ ∧ b < w.heap.size ∧ ∀ i z, l[i]? = some z → w.cell? ⟨b, off + i, none⟩ = some (.int .i64 z))
theorem RdI.nil (w : World) : RdI w (.slice none 0 0) [] := ⟨none, 0, rfl, Nat.le_refl _, fun h => absurd h (by decide)⟩
theorem RdI.q {w w' : World} {v : Value} {l : List Int} (h : RdI w v l) (hq : Q w w') : RdI w' v l := by
  obtain ⟨A, c, h1, h2, h3⟩ := h
  refine ⟨A, c, h1, h2, fun h0 => ?_⟩
  obtain ⟨b, off, e, hb, hc⟩ := h3 h0
  exact ⟨b, off, e, Nat.lt_of_lt_of_le hb hq.size, fun i z hz => (hq.cell (p := ⟨b, off + i, none⟩) hb).trans (hc i z hz)⟩
def OwnI (B : Nat) (v : Value) (l : List Int) (w : World) : Prop := w.ownsRow B 3 1 v l.length (l.map iv)
theorem infoI : (Try.prog.info? 3).map (fun i => (i.zero, i.size, i.bytes)) = some (some (.int .i64 0), 1, 8) := by kernel_rfl
theorem ownI_nil (B : Nat) (w : World) : OwnI B (.slice none 0 0) [] w := World.ownsRow_nil _ _ _ _
theorem ownI_next {B : Nat} {w0 w w1 : World} {v v' : Value} {l : List Int} {z : Int} {o : Obj} (h : OwnI B v l w) (hb : Below B w0 w) (hB : B ≤ w.heap.size)
    (h' : w1.ownsRow B 3 1 v' (l.length + 1) (l.map iv ++ [iv z])) (hg : (w.alloc o).grownBy w1 v.ownBlock) : OwnI B v' (l ++ [z]) w1 ∧ Below B w0 w1 :=
  ⟨by unfold OwnI; rw [List.length_append, List.map_append]; exact h', (hb.alloc hB o).grown hg (by simp; omega) (fun j hj => (h.lt j hj).1)⟩
theorem OwnI.rd {B : Nat} {v : Value} {l : List Int} {w : World} (h : OwnI B v l w) : RdI w v l := by
  have h2 := h
  obtain ⟨hl, ⟨rfl, h3⟩ | ⟨g, cap, cur, rfl, hb, hg, hn, _⟩⟩ := h
  · have : l = [] := List.eq_nil_of_length_eq_zero (by omega)
    subst this; exact RdI.nil w
  · refine ⟨_, cap, rfl, hn, fun h0 => ⟨g, 0, rfl, ?_, fun i z hz => ?_⟩⟩
    · rcases Nat.lt_or_ge g w.heap.size with k | k
      · exact k
      · rw [Array.getElem?_eq_none k] at hg; cases hg
    · have hi : i < l.length := by
        rcases Nat.lt_or_ge i l.length with k | k
        · exact k
        · rw [List.getElem?_eq_none k] at hz; cases hz
      rw [Nat.zero_add, World.ownsRow.cellAt h2 i (by omega), List.getElem?_map, hz]; rfl
/-- a slice that lies in no block below B -/
def NB (B : Nat) (v : Value) : Prop := ∀ A n c, v = .slice (some A) n c → B ≤ A.block
theorem NB.nil (B : Nat) : NB B (.slice none 0 0) := fun A n c h => by injection h with h; cases h
theorem OwnI.nb {B : Nat} {v : Value} {l : List Int} {w : World} (h : OwnI B v l w) : NB B v := by
  obtain ⟨hl, ⟨rfl, h3⟩ | ⟨g, cap, cur, rfl, hb, hg, hn, _⟩⟩ := h
  · exact NB.nil B
  · intro A n c e
    injection e with e1 e2 e3
    injection e1 with e1
    subst e1
    exact hb
/-- an own row stays own where nothing old has turned -/
theorem OwnI.q {B : Nat} {v : Value} {l : List Int} {w w' : World} (h : OwnI B v l w) (hq : Q w w') : OwnI B v l w' :=
  h.kept (row := none) ⟨hq.os, hq.tape, hq.output, hq.size, fun k hk _ => hq.block k hk⟩ (by cases hv : v.ownBlock <;> simp)
def RoomI (n : Nat) : Prop := n + 1 ≤ maxLen ∧ (n + 1) * 8 ≤ 140737488355328
theorem roomI_of {n : Nat} (h : n ≤ 1000000000) : RoomI n := by unfold RoomI maxLen; omega
/-- a list of numbers at a place -/
def intsF (s : ByteArray) (lo hi : Int) : Nat → Nat → List Int × Nat × Nat
  | 0, _ => ([], 0, 0)
  | m + 1, p => if eI s p lo hi = 0 then (if (intsF s lo hi m (p + lI s p lo hi)).2.2 = 0 then (vI s p lo hi :: (intsF s lo hi m (p + lI s p lo hi)).1, lI s p lo hi + (intsF s lo hi m (p + lI s p lo hi)).2.1, 0) else ([], 0, (intsF s lo hi m (p + lI s p lo hi)).2.2)) else ([], 0, eI s p lo hi)
def finI (s : ByteArray) (lo hi : Int) (p0 : Nat) (acc : List Int) (q m : Nat) : List Int × Nat × Nat :=
  if (intsF s lo hi m q).2.2 = 0 then (acc ++ (intsF s lo hi m q).1, (q - p0) + (intsF s lo hi m q).2.1, 0) else ([], 0, (intsF s lo hi m q).2.2)
theorem finI_zero (s : ByteArray) (lo hi : Int) (p0 : Nat) (acc : List Int) (q : Nat) : finI s lo hi p0 acc q 0 = (acc, q - p0, 0) := by
  unfold finI intsF; simp
theorem finI_bad {s : ByteArray} {lo hi : Int} {p0 : Nat} {acc : List Int} {q m : Nat} (h : eI s q lo hi ≠ 0) : finI s lo hi p0 acc q (m + 1) = ([], 0, eI s q lo hi) := by
  have e : intsF s lo hi (m + 1) q = ([], 0, eI s q lo hi) := by show (if eI s q lo hi = 0 then _ else _) = _; rw [if_neg h]
  unfold finI; rw [e]; simp only; rw [if_neg h]
theorem finI_step {s : ByteArray} {lo hi : Int} {p0 : Nat} {acc : List Int} {q m : Nat} (hq : p0 ≤ q) (h : eI s q lo hi = 0) : finI s lo hi p0 acc q (m + 1) = finI s lo hi p0 (acc ++ [vI s q lo hi]) (q + lI s q lo hi) m := by
  have e : intsF s lo hi (m + 1) q = (if (intsF s lo hi m (q + lI s q lo hi)).2.2 = 0 then (vI s q lo hi :: (intsF s lo hi m (q + lI s q lo hi)).1, lI s q lo hi + (intsF s lo hi m (q + lI s q lo hi)).2.1, 0) else ([], 0, (intsF s lo hi m (q + lI s q lo hi)).2.2)) := by show (if eI s q lo hi = 0 then _ else _) = _; rw [if_pos h]
  unfold finI; rw [e]
  by_cases g : (intsF s lo hi m (q + lI s q lo hi)).2.2 = 0
  · rw [if_pos g]; simp only; rw [if_pos trivial, if_pos g, List.append_assoc, show q + lI s q lo hi - p0 + (intsF s lo hi m (q + lI s q lo hi)).2.1 = q - p0 + (lI s q lo hi + (intsF s lo hi m (q + lI s q lo hi)).2.1) by omega]; rfl
  · rw [if_neg g]; simp only; rw [if_neg g, if_neg g]
def outL (s : ByteArray) (p : Nat) (most lo hi : Int) : List Int × Nat × Nat := if eC s p most = 0 then finI s lo hi p [] (p + lU s p) (vU s p) else ([], 0, eC s p most)
theorem lI_le (s : ByteArray) (p : Nat) (lo hi : Int) : lI s p lo hi ≤ s.size - p := by
  unfold lI; have := lU_le s p; split <;> omega
theorem lI_pos {s : ByteArray} {p : Nat} {lo hi : Int} (h : eI s p lo hi = 0) : 0 < lI s p lo hi := by
  unfold lI; rw [if_pos h]
  unfold eI at h
  by_cases g : eU s p = 0
  · exact nL_pos g
  · rw [if_neg g] at h; exact absurd h g
/-- what cutInts leaves -/
def LPost (s : ByteArray) (p : Nat) (w : World) (l : List Int) (n e : Nat) (E : Ending) (w' : World) : Prop := ∃ v, E = .returned (.tuple #[v, .string (rs s (p + n)), .int .i64 e]) ∧ RdI w' v l ∧ NB w.heap.size v ∧ Q w w'
set_option maxRecDepth 100000 in
set_option maxHeartbeats 1600000 in
theorem cutInts_at (s : ByteArray) (p : Nat) (most lo hi : Int) (l : List Int) (n e : Nat) (hs : s.size ≤ 1000000) (hp : p ≤ s.size) (hm : Fit most) (h : Hid (outL s p most lo hi = (l, n, e))) (w : World) : Calls Try.prog 53 #[.string (rs s p), .int .i64 most, .int .i64 lo, .int .i64 hi] w (LPost s p w l n e) := by
  obtain ⟨i0, hi0, hz0, hz1, hz2⟩ := info_parts infoI
  have HS := Lib.hid hs; clear hs
  have HP := Lib.hid hp; clear hp
  have HM := Lib.hid hm; clear hm
  obtain ⟨u, hu⟩ : ∃ u, vC s p most = u := ⟨_, rfl⟩
  obtain ⟨k, hk⟩ : ∃ k, lC s p most = k := ⟨_, rfl⟩
  obtain ⟨x, hx⟩ : ∃ x, eC s p most = x := ⟨_, rfl⟩
  have HN := Lib.hid (show NC s p most u k x from ⟨hu, hk, hx⟩)
  by_cases h0 : x = 0
  · subst h0
    obtain ⟨g1, g2, g3, g4⟩ := eC_ok hx
    rw [g2] at hu; rw [g3] at hk
    have HF : Hid (finI s lo hi p [] (p + k) u = (l, n, e)) := by
      have := h.out
      unfold outL at this
      rw [if_pos hx, hu, hk] at this
      exact this
    have hub : (u : Int) ≤ 18446744073709551615 := by have := vU_lt s p; omega
    have HK := Lib.hid (show p + k ≤ s.size by have := lU_le s p; have := HP.out; omega)
    clear hu hk hx h g1 g2 g3 g4
    go_enter Try.func53, Try.ntmps53
    go_wp2_with fail
    refine (cutCount_at s p most u k 0 HS.out HM.out HN _).mono ?_; rintro E w1 ⟨rfl, hq1⟩
    have HQ1 := Lib.hid hq1; clear hq1
    go_wp2_with fail
    go_loopw [12, 14, 28] (fun r v i wr => ∃ (j q : Nat) (acc : List Int), j ≤ u ∧ i = .int .u64 j ∧ r = .string (rs s q) ∧ Hid (finI s lo hi p acc q (u - j) = (l, n, e) ∧ OwnI w.heap.size v acc wr ∧ Below w.heap.size w wr ∧ acc.length + p ≤ q ∧ q ≤ s.size)) (fun _ _ i _ => u - (intOf i).toNat)
    case atStart => exact ⟨0, p + k, [], by omega, rfl, rfl, by rw [Nat.sub_zero]; exact HF.out, ownI_nil _ _, HQ1.out, by simp, HK.out⟩
    case round =>
      obtain ⟨j, q, acc, hj, rfl, rfl, HI⟩ := hrel
      obtain ⟨hf, ow, bl, hac, hqs⟩ := HI.out
      by_cases hlt : j < u
      · obtain ⟨m, hm⟩ : ∃ m, u - j = m + 1 := ⟨u - j - 1, by omega⟩
        rw [hm] at hf
        obtain ⟨z, hz⟩ : ∃ z, vI s q lo hi = z := ⟨_, rfl⟩
        obtain ⟨k2, hk2⟩ : ∃ z, lI s q lo hi = z := ⟨_, rfl⟩
        obtain ⟨x, hx⟩ : ∃ z, eI s q lo hi = z := ⟨_, rfl⟩
        have HN2 := Lib.hid (show NI s q lo hi z k2 x from ⟨hz, hk2, hx⟩)
        have HSQ := Lib.hid (show p ≤ q by omega)
        by_cases h0 : x = 0
        · subst h0
          rw [finI_step (by omega) hx, hz, hk2] at hf
          have HF2 := Lib.hid hf
          have OW := Lib.hid ow
          have BL := Lib.hid bl
          have BS := Lib.hid bl.size
          have HL := Lib.hid (show acc.length + 1 + p ≤ q + k2 ∧ q + k2 ≤ s.size ∧ u - (j + 1) = m by
            have a := lI_pos (s := s) (p := q) (lo := lo) (hi := hi) hx
            have b := lI_le s q lo hi
            rw [hk2] at a b
            omega)
          have RM := Lib.hid (roomI_of (n := acc.length) (by have := HS.out; omega))
          clear hf ow bl hac hqs hz hk2 hx hm
          go_wp2_with fail
          refine (cutInt_at s q lo hi z k2 0 HS.out HN2 _).mono ?_; rintro E w2 ⟨rfl, hq2⟩
          have OW2 := Lib.hid (OW.out.q hq2)
          have BL2 := Lib.hid (BL.out.trans (Below.mono hq2 BS.out))
          have BS2 := Lib.hid BL2.out.size
          have hown := OW2.out
          unfold OwnI at hown
          clear hq2
          go_wp2_with (first
            | (at_builtin; refine wpList_append_own _ rfl _ _ 27 rfl w.heap.size 3 i0 (.int .i64 0) 1 8 Try.underlying27 hi0 hz0 hz1 hz2 rfl (by decide) _ _ _ rfl (hown.alloc _) ⟨w2.heap.size, 0, none⟩ 1 1 [.int .i64 z] rfl rfl (one_at _ _ _) (one_cell _ _) RM.out.1 RM.out.2 (alloc_le BS2.out _) ?_)
            | go_in)
          intro v' w3 hown' hgrow _
          have N := Lib.hid (ownI_next (z := z) OW2.out BL2.out BS2.out hown' hgrow)
          clear hown' hgrow hown
          go_wp2_with fail
          go_roundw
          case rel => exact ⟨j + 1, q + k2, acc ++ [z], by omega, by go_num, rfl, by rw [HL.out.2.2]; exact HF2.out, N.out.1, N.out.2, by rw [List.length_append]; exact HL.out.1, HL.out.2.1⟩
          case measure => simp [intOf] <;> omega
        · have t0 : ((x : Int) != 0) = true := by simp; omega
          have t0' : ((x : Int) == 0) = false := by simp; omega
          rw [finI_bad (by rw [hx]; exact h0), hx] at hf
          simp only [Prod.mk.injEq] at hf
          obtain ⟨rfl, rfl, rfl⟩ := hf
          have BL := Lib.hid bl
          have BS := Lib.hid bl.size
          clear ow bl hac hqs hz hk2 hx hm h0
          go_wp2_with fail
          refine (cutInt_at s q lo hi z k2 x HS.out HN2 _).mono ?_; rintro E w2 ⟨rfl, hq2⟩
          have BL2 := Lib.hid (BL.out.trans (Below.mono hq2 BS.out))
          clear hq2
          go_wp2_with fail
          go_ret3
          exact ⟨_, rfl, RdI.nil _, NB.nil _, BL2.out⟩
      · obtain rfl : j = u := by omega
        rw [Nat.sub_self, finI_zero] at hf
        simp only [Prod.mk.injEq] at hf
        obtain ⟨rfl, rfl, rfl⟩ := hf
        have HQ := Lib.hid (show q = p + (q - p) by omega)
        have HR := Lib.hid ow.rd
        have HB := Lib.hid ow.nb
        have BL := Lib.hid bl
        clear ow bl hac hqs
        go_wp2_with fail
        go_ret3
        exact ⟨_, by rw [← HQ.out]; rfl, HR.out, HB.out, BL.out⟩
  · have t0 : ((x : Int) != 0) = true := by simp; omega
    have t0' : ((x : Int) == 0) = false := by simp; omega
    have hr := h.out
    unfold outL at hr
    rw [hx, if_neg h0] at hr
    simp only [Prod.mk.injEq] at hr
    obtain ⟨rfl, rfl, rfl⟩ := hr
    have hk0 : k = 0 := by rw [← hk]; unfold lC; rw [hx, if_neg h0]
    subst hk0
    clear hu hk hx h h0
    go_enter Try.func53, Try.ntmps53
    go_wp2_with fail
    refine (cutCount_at s p most u 0 x HS.out HM.out HN _).mono ?_; rintro E w1 ⟨rfl, hq1⟩
    go_wp2_with fail
    go_ret3
    exact ⟨_, rfl, RdI.nil _, NB.nil _, hq1⟩
end Go.Proofs.Ytnejobcbhddpoaa
