/- For every list of fields the law WireBack returns true: fields that were encoded one after the other are read back with the narrowest limits, and nothing is left (asked for at most 40 fields of at most 3000 bytes and 300 numbers), and the examples hold. No condition. -/
import Derived.Test.YtnejobcbhddpoaaCutMath
set_option linter.unusedVariables false
set_option linter.unusedSimpArgs false
namespace Go.Proofs.Ytnejobcbhddpoaa
open Go.ChangeShapes Go.WideShapes Go.ChangeAt Go.RowKit Wm

def enc1 (f : FdT) : List UInt8 := encL f.k f.n f.i f.t f.l
def encAll (l : List FdT) : List UInt8 := l.flatMap enc1
def FdT.small (f : FdT) : Prop := f.t.size ≤ 3000 ∧ f.l.length ≤ 300
theorem encAll_snoc (l : List FdT) (k : Nat) (h : k < l.length) : encAll (l.take (k + 1)) = encAll (l.take k) ++ enc1 l[k] := by
  rw [List.take_succ_eq_append_getElem h]; unfold encAll; rw [List.flatMap_append]; simp
theorem encAll_split (l : List FdT) (k : Nat) (h : k < l.length) : encAll l = encAll (l.take k) ++ (enc1 l[k] ++ encAll (l.drop (k + 1))) := by
  have e : l = l.take k ++ (l[k] :: l.drop (k + 1)) := by rw [← List.drop_eq_getElem_cons h, List.take_append_drop]
  conv => lhs; rw [e]
  unfold encAll; rw [List.flatMap_append, List.flatMap_cons]
theorem encAll_len {W : World} (l : List FdT) (h : ∀ f ∈ l, f.ok W ∧ f.small) : (encAll l).length ≤ 3010 * l.length := by
  induction l with
  | nil => simp [encAll]
  | cons a l ih =>
    obtain ⟨⟨_, h1, h2, _, _, h3, _⟩, h4, h5⟩ := h a (by simp)
    have h6 := ih (fun f hf => h f (List.mem_cons_of_mem _ hf))
    have h7 := encL_len (k := a.k) h1 h2 h4 h3 h5
    show (enc1 a ++ encAll l).length ≤ _
    rw [List.length_append, List.length_cons]
    unfold enc1; omega
/-- what is read back -/
theorem outR_back (pre tl : List UInt8) {k n : Nat} {i : Int} {t : ByteArray} {l : List Int} (hn : n < 18446744073709551616) (hi : Fit i) (ht : t.size ≤ 1000000) (hf : FitI l) (hl : l.length ≤ 100000) :
    ∃ (rn : Nat) (ri : Int) (rt : ByteArray) (rl : List Int), outR (bs (pre ++ (encL k n i t l ++ tl))) pre.length 0 (exO k i t l).k (exO k i t l).lo (exO k i t l).hi (exO k i t l).most = (rn, ri, rt, rl, (encL k n i t l).length, 0) ∧ ((k = 0 ∧ rn = n) ∨ (k = 1 ∧ ri = i) ∨ (k = 2 ∧ rt = t) ∨ (2 < k ∧ rl = l)) := by
  have hk : (exO k i t l).k = k := by unfold exO; split <;> rfl
  rw [hk]
  unfold outR
  rw [if_pos rfl]
  by_cases k0 : k = 0
  · subst k0
    have e2 : encL 0 n i t l = uv n := by unfold encL; rw [if_pos rfl]
    rw [e2, if_pos rfl]
    obtain ⟨a, b, c⟩ := num_at pre tl hn
    rw [a, b, c]
    exact ⟨_, _, _, _, rfl, .inl ⟨rfl, rfl⟩⟩
  · rw [if_neg k0]
    by_cases k1 : k = 1
    · subst k1
      have e2 : encL 1 n i t l = uv (zz i) := by unfold encL; rw [if_neg k0, if_pos rfl]
      have ho : exO 1 i t l = ⟨1, i, i, t.size⟩ := by unfold exO; rw [if_neg (by decide)]
      rw [e2, ho, if_pos rfl]
      obtain ⟨a, b, c⟩ := int_at pre tl hi (Int.le_refl i) (Int.le_refl i)
      simp only
      rw [a, b, c]
      exact ⟨_, _, _, _, rfl, .inr (.inl ⟨by trivial, rfl⟩)⟩
    · rw [if_neg k1]
      by_cases k2 : k = 2
      · subst k2
        have h6 : t.data.toList.length = t.size := Array.length_toList
        have e2 : encL 2 n i t l = uv t.size ++ t.data.toList := by unfold encL; rw [if_neg k0, if_neg k1, if_pos rfl]
        have ho : exO 2 i t l = ⟨2, i, i, t.size⟩ := by unfold exO; rw [if_neg (by decide)]
        obtain ⟨a, b, c⟩ := text_at pre t.data.toList tl (most := (t.size : Int)) (by omega) (by omega)
        rw [h6, bs_self] at a
        rw [h6] at b c
        rw [e2, ho, if_pos rfl, List.append_assoc]
        simp only
        rw [a, b, c]
        exact ⟨_, _, _, _, by rw [List.length_append, h6], .inr (.inr (.inl ⟨by trivial, rfl⟩))⟩
      · rw [if_neg k2]
        have k3 : 2 < k := by omega
        have e2 : encL k n i t l = insL l := by unfold encL; rw [if_neg k0, if_neg k1, if_neg k2]
        have ho : exO k i t l = ⟨k, loL l, hiL l, l.length⟩ := by unfold exO; rw [if_pos k3]
        rw [e2, ho]
        simp only
        rw [list_at pre tl (l := l) (most := (l.length : Int)) (by omega) (Int.le_refl _) hf (lim_all l)]
        exact ⟨_, _, _, _, rfl, .inr (.inr (.inr ⟨k3, rfl⟩))⟩
theorem RdF.at {w w' : World} {A : Option Addr} {n c : Nat} {l : List FdT} (h : RdF w (.slice A n c) l) (hq : Below w.heap.size w w') {i : Nat} (hi : i < l.length) : ∃ b off, A = some ⟨b, off, none⟩ ∧ b < w.heap.size ∧
    w'.cell? ⟨b, off + i * 5, none⟩ = some (.int .u8 l[i].k) ∧ w'.cell? ⟨b, off + i * 5 + 1, none⟩ = some (.int .u64 l[i].n) ∧ w'.cell? ⟨b, off + i * 5 + 2, none⟩ = some (.int .i64 l[i].i) ∧ w'.cell? ⟨b, off + i * 5 + 3, none⟩ = some (.string l[i].t) ∧ w'.cell? ⟨b, off + i * 5 + 4, none⟩ = some l[i].u := by
  obtain ⟨A', c', h1, h2, h3⟩ := h
  injection h1 with e1 e2 e3
  subst e1 e2 e3
  obtain ⟨b, off, e, hb, hc⟩ := h3 (by omega)
  have g := fun j u (hu : (fc l[i])[j]? = some u) => (hq.cell (p := ⟨b, off + i * 5 + j, none⟩) hb).trans (hc i l[i] (List.getElem?_eq_getElem hi) j u hu)
  exact ⟨b, off, e, hb, g 0 _ rfl, g 1 _ rfl, g 2 _ rfl, g 3 _ rfl, g 4 _ rfl⟩
theorem exO_fit {k : Nat} {i : Int} {t : ByteArray} {l : List Int} (ht : t.size ≤ maxLen) (hl : l.length ≤ maxLen) : Fit (exO k i t l).most := by
  unfold maxLen at ht hl
  unfold exO Fit; split <;> (simp only; omega)
theorem exO_k {k : Nat} {i : Int} {t : ByteArray} {l : List Int} : (exO k i t l).k = k := by unfold exO; split <;> rfl
set_option maxRecDepth 100000 in
set_option maxHeartbeats 6400000 in
theorem back_walk (w : World) (v : Value) (hv : ArgFs w v) : Calls Try.prog 6 #[v] w fun e w' => e = .returned (.bool true) ∧ Below w.heap.size w w' := by
  obtain ⟨l, hr, hf, hl⟩ := hv
  have HR := Lib.hid hr
  have HF := Lib.hid hf; clear hf
  obtain ⟨sA, sc, rfl, hle, _⟩ := hr
  unfold maxLen at hl
  obtain ⟨n, hn⟩ : ∃ n, l.length = n := ⟨_, rfl⟩
  have HN := Lib.hid hn
  rw [hn] at hl HR hle
  rw [hn]
  clear hn
  by_cases h : 40 < n
  · have i1 : 40 < (n : Int) := by omega
    go_enter Try.func6, Try.ntmps6
    go_wp2_with fail
    refine (awake_c _).mono ?_; rintro E w5 ⟨rfl, hq5⟩
    go_wp2_with fail
    go_ret
    exact ⟨rfl, hq5⟩
  · have i1 : ¬ 40 < (n : Int) := by omega
    go_enter Try.func6, Try.ntmps6
    go_wp2_with fail
    go_loopw [3, 4] (fun x i wr => ∃ (k : Nat) (S : ByteArray), k ≤ n ∧ i = .int .i64 k ∧ x = .string S ∧ Hid (S = bs (encAll (l.take k)) ∧ (∀ f ∈ l.take k, f.ok w ∧ f.small) ∧ Below w.heap.size w wr)) (fun _ i _ => n - (intOf i).toNat)
    case atStart => exact ⟨0, _, by omega, rfl, rfl, rfl, fun f hf => by simp at hf, Below.refl _ _⟩
    case round =>
      obtain ⟨k, S, hk, rfl, rfl, HI⟩ := hrel
      by_cases hlt : k < n
      · have hkl : k < l.length := by rw [HN.out]; exact hlt
        obtain ⟨rb, ro, rfl, hrb, c0, c1, c2, c3, c4⟩ := HR.out.at HI.out.2.2 hkl
        obtain ⟨f, hfk⟩ : ∃ f, l[k] = f := ⟨_, rfl⟩
        rw [hfk] at c0 c1 c2 c3 c4
        have HKL := Lib.hid hkl
        have HOK := Lib.hid (show f.ok w from hfk ▸ HF.out _ (List.getElem_mem hkl))
        have HFK := Lib.hid hfk
        have hSs : S.size ≤ 3010 * 40 := by
          rw [HI.out.1, size_bs]
          have := encAll_len (l.take k) HI.out.2.1
          rw [List.length_take] at this
          omega
        obtain ⟨fk, fn, fi, ft, fu, fl⟩ := f
        simp only at c0 c1 c2 c3 c4
        obtain ⟨fA, fcap, hfu, _, _⟩ := HOK.out.2.2.2.2.1
        simp only at hfu
        subst hfu
        cases hsm : decide (ft.size ≤ 3000 ∧ fl.length ≤ 300) with
        | false =>
          have HSM := Lib.hid hsm
          have HQ := Lib.hid HI.out.2.2
          clear hsm hfk
          go_wp2_with fail
          refine (small_c fk fn fi ft _ fl false _ HOK.out.2.2.2.1 (HOK.out.2.2.2.2.1.q HQ.out) HOK.out.2.2.2.2.2.2 HSM).mono ?_; rintro E w1 ⟨rfl, hq1⟩
          go_wp2_with fail
          refine (awake_c _).mono ?_; rintro E w2 ⟨rfl, hq2⟩
          go_wp2_with fail
          go_ret
          exact ⟨rfl, Below.trans HQ.out (Below.mono (hq1.trans hq2) HQ.out.size)⟩
        | true =>
          have HSM := Lib.hid hsm
          obtain ⟨b1, b2⟩ := of_decide_eq_true hsm
          have HB1 := Lib.hid b1
          have HB2 := Lib.hid b2
          obtain ⟨T, hT⟩ : ∃ T, encF fk fn fi ft fl = T := ⟨_, rfl⟩
          have hTs : T.size ≤ 3010 := by rw [← hT, encF_bs, size_bs]; exact encL_len HOK.out.2.1 HOK.out.2.2.1 b1 HOK.out.2.2.2.2.2.1 b2
          have HW := Lib.hid (fun w' (hq : Q w w') => write_c fk fn fi ft (.slice fA fl.length fcap) fl w' HOK.out.2.1 HOK.out.2.2.1 (show ft.size ≤ 1000000 by omega) (HOK.out.2.2.2.2.1.q hq) (show fl.length ≤ 100000 by omega) HOK.out.2.2.2.2.2.1)
          rw [hT] at HW
          have HNX := Lib.hid (show S ++ T = bs (encAll (l.take (k + 1))) by rw [HI.out.1, ← hT, encF_bs, bs_app, encAll_snoc l k hkl, hfk]; rfl)
          have HALL := Lib.hid (show ∀ f ∈ l.take (k + 1), f.ok w ∧ f.small by
            intro g hg
            rw [List.take_succ_eq_append_getElem hkl] at hg
            rcases List.mem_append.1 hg with hg | hg
            · exact HI.out.2.1 g hg
            · have : g = l[k]'hkl := by simpa using hg
              rw [this, hfk]; exact ⟨HOK.out, b1, b2⟩)
          have HQ := Lib.hid HI.out.2.2
          clear hsm hfk hT b1 b2
          go_wp2_with fail
          refine (small_c fk fn fi ft _ fl true _ HOK.out.2.2.2.1 (HOK.out.2.2.2.2.1.q HQ.out) HOK.out.2.2.2.2.2.2 HSM).mono ?_; rintro E w1 ⟨rfl, hq1⟩
          have Q1 := Lib.hid (HQ.out.trans (Below.mono hq1 HQ.out.size))
          clear hq1 c0 c1 c2 c3 c4
          obtain ⟨rb2, ro2, e1, hrb2, c0, c1, c2, c3, c4⟩ := HR.out.at Q1.out HKL.out
          injection e1 with e1
          injection e1 with e1 e2 e3
          subst e1 e2
          rw [HFK.out] at c0 c1 c2 c3 c4
          simp only at c0 c1 c2 c3 c4
          go_wp2_with fail
          refine (HW.out _ Q1.out).mono ?_; rintro E w2 ⟨rfl, hq2⟩
          have Q2 := Lib.hid (Q1.out.trans (Below.mono hq2 Q1.out.size))
          clear hq2
          go_wp2_with fail
          go_roundw
          case rel => exact ⟨k + 1, _, by omega, by go_num, rfl, HNX.out, HALL.out, Q2.out⟩
          case measure => simp [intOf] <;> omega
      · obtain rfl : k = n := by omega
        have HSE := Lib.hid (show S = bs (encAll l) by rw [HI.out.1, ← HN.out, List.take_length])
        have HALL := Lib.hid (show ∀ f ∈ l, f.ok w ∧ f.small by have := HI.out.2.1; rw [← HN.out, List.take_length] at this; exact this)
        have HQ := Lib.hid HI.out.2.2
        have HSS := Lib.hid (show S.size ≤ 1000000 by rw [HSE.out, size_bs]; have := encAll_len l HALL.out; have := HN.out; omega)
        clear HI
        go_wp2_with fail
        refine (New_c S _).mono ?_; rintro E w1 ⟨b, rfl, hb, hr1, hq1⟩
        have R1 := Lib.hid hr1
        have Q1 := Lib.hid (HQ.out.trans (Below.mono hq1 HQ.out.size))
        have HBB := Lib.hid (Nat.le_trans HQ.out.size hb)
        clear hr1 hq1 hb
        have HL0 := Lib.hid (show (encAll (l.take 0)).length = 0 by simp [encAll])
        go_wp2_with fail
        go_loopw [6] (fun x wr => ∃ (j p : Nat), j ≤ k ∧ x = .int .i64 j ∧ Hid (p = (encAll (l.take j)).length ∧ Rr wr b S p 0 ∧ Below w.heap.size w wr)) (fun x _ => k - (intOf x).toNat)
        case atStart => exact ⟨0, 0, by omega, rfl, HL0.out.symm, R1.out, Q1.out⟩
        case round =>
          obtain ⟨j, p, hj, rfl, HI⟩ := hrel
          by_cases hlt2 : j < k
          · have hjl : j < l.length := by rw [HN.out]; exact hlt2
            obtain ⟨rb, ro, rfl, hrb, c0, c1, c2, c3, c4⟩ := HR.out.at HI.out.2.2 hjl
            obtain ⟨f, hfk⟩ : ∃ f, l[j] = f := ⟨_, rfl⟩
            rw [hfk] at c0 c1 c2 c3 c4
            obtain ⟨hok, hsm⟩ := HALL.out f (hfk ▸ List.getElem_mem hjl)
            have HOK := Lib.hid hok
            have HSM := Lib.hid hsm
            have hsplit := encAll_split l j hjl
            have hsnoc := encAll_snoc l j hjl
            rw [hfk] at hsplit hsnoc
            have HSN := Lib.hid (show (encAll (l.take (j + 1))).length = p + (enc1 f).length by rw [hsnoc, List.length_append, HI.out.1])
            have HPS := Lib.hid (show p ≤ S.size by rw [HSE.out, size_bs, hsplit, List.length_append, HI.out.1]; omega)
            obtain ⟨fk, fn, fi, ft, fu, fl⟩ := f
            simp only at c0 c1 c2 c3 c4
            obtain ⟨fA, fcap, hfu, _, _⟩ := hok.2.2.2.2.1
            simp only at hfu
            subst hfu
            obtain ⟨rn, ri, rt, rl, hout, hkind⟩ := outR_back (encAll (l.take j)) (encAll (l.drop (j + 1))) (k := fk) (n := fn) (i := fi) (t := ft) (l := fl) HOK.out.2.1 HOK.out.2.2.1 (by have := HSM.out.1; simp only at this; omega) HOK.out.2.2.2.2.2.1 (by have := HSM.out.2; simp only at this; omega)
            rw [show encAll (l.take j) ++ (encL fk fn fi ft fl ++ encAll (l.drop (j + 1))) = encAll l from hsplit.symm, ← HSE.out, ← HI.out.1] at hout
            obtain ⟨rc, hrc⟩ : ∃ rc, (encL fk fn fi ft fl).length = rc := ⟨_, rfl⟩
            have HSP := Lib.hid (show (encAll (l.take (j + 1))).length = p + rc by rw [HSN.out, ← hrc]; rfl)
            clear HSN
            rw [hrc] at hout
            have HX := Lib.hid (fun w' (hq : Below w.heap.size w w') => exact_c fk fn fi ft (.slice fA fl.length fcap) fl w' HOK.out.2.2.2.1 (HOK.out.2.2.2.2.1.q hq) HOK.out.2.2.2.2.2.2)
            have HFM := Lib.hid (exO_fit (k := fk) (i := fi) (t := ft) (l := fl) HOK.out.2.2.2.1 HOK.out.2.2.2.2.2.2)
            rw [exO_k] at hout
            obtain ⟨o, ho⟩ : ∃ o, exO fk fi ft fl = o := ⟨_, rfl⟩
            have hok2 : o.k = fk := by rw [← ho]; exact exO_k
            rw [ho] at hout HFM
            simp only [ho] at HX
            obtain ⟨ok, olo, ohi, omost⟩ := o
            simp only at hout HFM hok2
            subst hok2
            have HOUT := Lib.hid hout
            have HQ2 := Lib.hid HI.out.2.2
            have HR2 := Lib.hid HI.out.2.1
            clear ho hout hrc hsplit hsnoc hfk hok hsm HI
            obtain ⟨W1, hW1⟩ : ∃ W, wr.alloc (.cells #[.int .u8 ok, .int .u64 fn, .int .i64 fi, .string ft, .slice fA fl.length fcap] 41) = W := ⟨_, rfl⟩
            have R1 := Lib.hid (show Rr W1 b S p 0 by rw [← hW1]; exact HR2.out.q ((Q.refl wr).alloc _))
            have B1 := Lib.hid (show Below w.heap.size w W1 by rw [← hW1]; exact HQ2.out.alloc HQ2.out.size _)
            have F1 := Lib.hid (show W1.heap[wr.heap.size]? = some (.cells #[.int .u8 ok, .int .u64 fn, .int .i64 fi, .string ft, .slice fA fl.length fcap] 41 (0, 0)) by rw [← hW1]; exact heap_alloc_new wr _)
            have HNE := Lib.hid (show wr.heap.size ≠ b by have := HR2.out.lt; omega)
            obtain ⟨v0, v1, v2, v3, v4, vf⟩ := five F1.out
            go_wp2_with fail
            clear hW1 v0 v1 v2 v3 v4 vf
            refine (HX.out _ B1.out).mono ?_; rintro E w2 ⟨rfl, hq2⟩
            have R2 := Lib.hid (R1.out.q hq2)
            have B2 := Lib.hid (B1.out.trans (Below.mono hq2 B1.out.size))
            have F2 := Lib.hid ((hq2.block _ (lt_of_block F1.out)).trans F1.out)
            clear hq2
            unfold OpT.vl ov
            go_wp2_with fail
            refine (read_r S p b 0 ok olo ohi omost rn ri rt rl rc 0 _ HSS.out HPS.out HFM.out HOUT R2.out).mono ?_
            rintro E w3 ⟨sl, rfl, hsl, hnb, hr3, hg3⟩
            unfold fv
            simp only at hsl hr3
            have hsl2 := hsl
            obtain ⟨xA, xc, rfl, _, _⟩ := hsl2
            obtain ⟨W3, hW3⟩ : ∃ W, w3.alloc (.cells #[.int .u8 ok, .int .u64 rn, .int .i64 ri, .string rt, .slice xA rl.length xc] 41) = W := ⟨_, rfl⟩
            have R3 := Lib.hid (show Rr W3 b S (p + rc) 0 by rw [← hW3]; exact hr3.q ((Q.refl w3).alloc _))
            have B3 := Lib.hid (show Below w.heap.size w W3 by rw [← hW3]; exact (G.below B2.out hg3 HBB.out B2.out.size).alloc (G.below B2.out hg3 HBB.out B2.out.size).size _)
            have SL3 := Lib.hid (show RdI W3 (.slice xA rl.length xc) rl by rw [← hW3]; exact hsl.q ((Q.refl w3).alloc _))
            have F3 := hg3.blk F2.out HNE.out
            obtain ⟨x0, x1, x2, x3, x4, xf⟩ := five (show W3.heap[wr.heap.size]? = some (.cells #[.int .u8 ok, .int .u64 fn, .int .i64 fi, .string ft, .slice fA fl.length fcap] 41 (0, 0)) by rw [← hW3]; exact (Lib.alloc_old w3 _ _ (lt_of_block F3)).trans F3)
            obtain ⟨y0, y1, y2, y3, y4, yf⟩ := five (show W3.heap[w3.heap.size]? = some (.cells #[.int .u8 ok, .int .u64 rn, .int .i64 ri, .string rt, .slice xA rl.length xc] 41 (0, 0)) by rw [← hW3]; exact heap_alloc_new w3 _)
            clear hsl hnb hr3 hg3 F3
            have HFL := Lib.hid (HOK.out.2.2.2.2.1.q B3.out)
            have HFB := Lib.hid (show fl.length ≤ 1000000 by have := HSM.out.2; simp only at this; omega)
            rcases hkind with ⟨hk3, rfl⟩ | ⟨hk3, rfl⟩ | ⟨hk3, rfl⟩ | ⟨hk3, rfl⟩
            · have e1 : ((rn : Int) == (rn : Int)) = true := by simp
              have t0 : ((ok : Int) == 0) = true := by simp; omega
              clear hk3
              go_wp2_with fail
              clear hW3
              refine (Err_c S (p + rc) 0 b _ R3.out).mono ?_; rintro E w5 ⟨rfl, rfl⟩
              go_wp2_with fail
              go_roundw
              case rel => exact ⟨j + 1, p + rc, by omega, by go_num, HSP.out.symm, R3.out, B3.out⟩
              case measure => simp [intOf] <;> omega
            · have e1 : (ri == ri) = true := by simp
              have t0 : ((ok : Int) == 0) = false := by simp; omega
              have t1 : ((ok : Int) == 1) = true := by simp; omega
              clear hk3
              go_wp2_with fail
              clear hW3
              refine (Err_c S (p + rc) 0 b _ R3.out).mono ?_; rintro E w5 ⟨rfl, rfl⟩
              go_wp2_with fail
              go_roundw
              case rel => exact ⟨j + 1, p + rc, by omega, by go_num, HSP.out.symm, R3.out, B3.out⟩
              case measure => simp [intOf] <;> omega
            · have e1 : (rt.toList == rt.toList) = true := by simp
              have t0 : ((ok : Int) == 0) = false := by simp; omega
              have t1 : ((ok : Int) == 1) = false := by simp; omega
              have t2 : ((ok : Int) == 2) = true := by simp; omega
              clear hk3
              go_wp2_with fail
              clear hW3
              refine (Err_c S (p + rc) 0 b _ R3.out).mono ?_; rintro E w5 ⟨rfl, rfl⟩
              go_wp2_with fail
              go_roundw
              case rel => exact ⟨j + 1, p + rc, by omega, by go_num, HSP.out.symm, R3.out, B3.out⟩
              case measure => simp [intOf] <;> omega
            · have t0 : ((ok : Int) == 0) = false := by simp; omega
              have t1 : ((ok : Int) == 1) = false := by simp; omega
              have t2 : ((ok : Int) == 2) = false := by simp; omega
              clear hk3
              go_wp2_with fail
              clear hW3
              refine (Same_c _ _ rl _ SL3.out HFL.out HFB.out).mono ?_; rintro E w4 ⟨rfl, hq4⟩
              have R4 := Lib.hid (R3.out.q hq4)
              have B4 := Lib.hid (B3.out.trans (Below.mono hq4 B3.out.size))
              clear hq4 x0 x1 x2 x3 x4 xf y0 y1 y2 y3 y4 yf
              go_wp2_with fail
              refine (Err_c S (p + rc) 0 b _ R4.out).mono ?_; rintro E w5 ⟨rfl, rfl⟩
              go_wp2_with fail
              go_roundw
              case rel => exact ⟨j + 1, p + rc, by omega, by go_num, HSP.out.symm, R4.out, B4.out⟩
              case measure => simp [intOf] <;> omega
          · obtain rfl : j = k := by omega
            have HPE := Lib.hid (show p = S.size by rw [HI.out.1, ← HN.out, List.take_length, HSE.out, size_bs])
            have HEE := Lib.hid (show endE S p 0 = 0 by unfold endE; rw [if_pos rfl, HPE.out, if_neg (by omega)])
            have HLL := Lib.hid (show S.size - p = 0 by rw [HPE.out]; omega)
            go_wp2_with fail
            refine (End_c S p 0 b _ HSS.out HI.out.2.1).mono ?_; rintro E w5 ⟨rfl, rfl⟩
            rw [HEE.out]
            go_wp2_with fail
            refine (Left_c S p 0 b _ HSS.out HI.out.2.1).mono ?_; rintro E w5 ⟨rfl, rfl⟩
            rw [HLL.out]
            go_wp2_with fail
            refine (awake_c _).mono ?_; rintro E w6 ⟨rfl, hq6⟩
            go_wp2_with fail
            go_ret
            exact ⟨rfl, Below.trans HI.out.2.2 (Below.mono hq6 HI.out.2.2.size)⟩

namespace wireBack
theorem own : ownKnob Try.prog.godebug = none := by kernel_rfl
set_option maxRecDepth 100000 in
set_option maxHeartbeats 800000 in
theorem lifted (os : Os) (started : os.Started) (H : Type) (enc : TypeId × Value → H) :
    ReturnsInHanded {} Try.checked os 6 .any (Rows.wireBackSpec.pre6 enc Try.prog Try.f6 Rows.wireBackRow.domain false) (Rows.wireBackSpec.post enc Try.prog Try.f6 false true false false) := by
  refine returnsInHanded_of_change (C := Try.checked) own started (by kernel_rfl) Try.func6
    (ChangeSpec.witness6 (enc := enc) (C := Try.checked) false ⟨#[], #[.slice none 0 0], []⟩ 8 (by kernel_rfl) (by kernel_rfl) (by kernel_rfl) (by kernel_rfl)) ?_
  intro W base args ds gs before hval0 hW hcnd _
  have hval : ∀ (j : Nat) t v, Try.f6.params[j]? = some t → args[j]? = some v → Value.okWide Try.prog W .any base t v := hval0
  have hW' := hW
  obtain ⟨p, q, hA0, hV, rfl, hfz, hnd⟩ := hW
  have hA : DataW.TrodAll enc Try.prog W 0 (fun _ => true) true Try.f6.params.toList args.toList ds p := hA0
  rw [Try.params6] at hA hval
  obtain ⟨v0, vs0, d0, ds0, p0, q0, hargs, rfl, rfl, h0, r0⟩ := trodAll_cons hA
  obtain ⟨rfl, rfl, rfl⟩ := trodAll_nil r0
  obtain rfl : args = #[v0] := by cases args; simp_all
  obtain ⟨rfl, rfl⟩ := trodVars_none hV
  have a0 := open_fields (hval 0 57 v0 rfl rfl) h0
  clear hA0 hval0
  refine (back_walk W v0 a0).mono fun e W' ⟨he, bel⟩ => ?_
  subst he
  exact ⟨_, rfl, _, _, _, [], _, [], hW', trodAll_mk1 (shut_bool Try.underlying4 _), (trodAll_cons_mk (stays (by kernel_rfl) (of_decide_eq_true (by kernel_rfl)) h0 bel) trodAll_mk0), rfl, bel.frame _, fun h => by cases h⟩
theorem over : Rows.wireBackRow.holds Try.pinned (OpenSpec.ofChange Rows.wireBackSpec) :=
  OpenClaim.holds_of_wide 6 Try.f6 rfl rfl rfl rfl rfl rfl rfl ⟨rfl, rfl, rfl, rfl, rfl⟩ rfl rfl rfl rfl rfl (by kernel_rfl) Try.func6 (by kernel_rfl)
    (of_decide_eq_true (by kernel_rfl)) (by unfold Func.isWrapper; first | (rw [if_pos (by decide +kernel)]; kernel_rfl) | (rw [if_neg (by decide +kernel)]; exact ⟨rfl, rfl⟩))
    (fun os started H enc _ => lifted os started H enc)
theorem proved : Rows.WireBackSaid := over
end wireBack

end Go.Proofs.Ytnejobcbhddpoaa
