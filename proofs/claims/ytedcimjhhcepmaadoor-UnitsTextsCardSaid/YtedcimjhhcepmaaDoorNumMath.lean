/- Plain facts about numerals (no program): what Decimal writes, Parse reads, and the other way round. -/
import Derived.Test.YtedcimjhhcepmaaDoorParse
set_option linter.unusedVariables false
set_option linter.unusedSimpArgs false
namespace Go.Proofs.YtedcimjhhcepmaaDoor
open Go.RowKit Um

/-- what digits spell, behind what stood ahead -/
def vl (acc : Nat) (l : List UInt8) : Nat := l.foldl (fun a c => a * 10 + (c.toNat - 48)) acc
theorem vl_app (acc : Nat) (x y : List UInt8) : vl acc (x ++ y) = vl (vl acc x) y := by unfold vl; rw [List.foldl_append]
theorem vl_one (acc : Nat) (c : UInt8) : vl acc [c] = acc * 10 + (c.toNat - 48) := rfl
theorem vl_ge : ∀ (l : List UInt8) (acc : Nat), acc ≤ vl acc l := by
  intro l
  induction l with
  | nil => intro acc; exact Nat.le_refl _
  | cons c r ih => intro acc; have := ih (acc * 10 + (c.toNat - 48)); unfold vl at *; rw [List.foldl_cons]; omega
theorem pum_vl : ∀ (l : List UInt8) (acc : Nat), acc ≤ 18446744073709551615 → digs l = true → Lib.parseUintM 18446744073709551615 acc l = if vl acc l ≤ 18446744073709551615 then .ok (vl acc l) else .range := by
  intro l
  induction l with
  | nil => intro acc h _; unfold Lib.parseUintM vl; rw [List.foldl_nil, if_pos h]
  | cons c r ih =>
    intro acc h hd
    unfold digs at hd ih
    rw [List.all_cons, Bool.and_eq_true] at hd
    have hc : 48 ≤ c.toNat ∧ c.toNat ≤ 57 := by have := hd.1; unfold isD at this; simpa using this
    have e : vl acc (c :: r) = vl (acc * 10 + (c.toNat - 48)) r := rfl
    have g := vl_ge r (acc * 10 + (c.toNat - 48))
    unfold Lib.parseUintM
    rw [if_pos hc, e]
    by_cases h1 : 1844674407370955162 ≤ acc
    · rw [if_pos h1, if_neg (by omega)]
    · rw [if_neg h1]
      by_cases h2 : 18446744073709551615 < acc * 10 + (c.toNat - 48)
      · rw [if_pos h2, if_neg (by omega)]
      · rw [if_neg h2]; exact ih _ (by omega) hd.2
theorem puok_vl {l : List UInt8} (hd : digs l = true) (h0 : l ≠ []) : PuOk l = if vl 0 l ≤ 18446744073709551615 then some (vl 0 l) else none := by
  unfold PuOk Lib.parseUintB
  rw [if_neg h0, show 2 ^ 64 - 1 = 18446744073709551615 from rfl, pum_vl l 0 (by omega) hd]
  by_cases h : vl 0 l ≤ 18446744073709551615
  · rw [if_pos h, if_pos h]
  · rw [if_neg h, if_neg h]
theorem dig_chr {d : Nat} (h : d < 10) : (UInt8.ofNat (48 + d)).toNat = 48 + d := by
  rw [UInt8.toNat_ofNat']; omega
theorem chr_dig {c : UInt8} (h : isD c = true) : ∃ d, d < 10 ∧ c.toNat = 48 + d ∧ c = UInt8.ofNat (48 + d) := by
  unfold isD at h
  have hc : 48 ≤ c.toNat ∧ c.toNat ≤ 57 := by simpa using h
  refine ⟨c.toNat - 48, by omega, by omega, ?_⟩
  rw [show 48 + (c.toNat - 48) = c.toNat by omega]
  exact (UInt8.ofNat_toNat).symm
theorem isD_ofNat {d : Nat} (h : d < 10) : isD (UInt8.ofNat (48 + d)) = true := by
  unfold isD; rw [dig_chr h]; simp; omega
theorem digs_app (x y : List UInt8) : digs (x ++ y) = (digs x && digs y) := by unfold digs; rw [List.all_append]
theorem digs_one {c : UInt8} (h : isD c = true) : digs [c] = true := by unfold digs; rw [List.all_cons, h]; rfl
theorem dec_step {u : Nat} (h : 10 ≤ u) : Lib.decDigits u = Lib.decDigits (u / 10) ++ [UInt8.ofNat (48 + u % 10)] := by
  rw [Lib.decDigits, dif_neg (by omega)]
theorem dec_facts (u : Nat) : digs (Lib.decDigits u) = true ∧ vl 0 (Lib.decDigits u) = u ∧ (1 ≤ u → (Lib.decDigits u)[0]? ≠ some 48) := by
  induction u using Nat.strongRecOn with
  | _ u ih =>
    by_cases h : u < 10
    · rw [Lib.decDigits_one h]
      refine ⟨digs_one (isD_ofNat h), by rw [vl_one, dig_chr h]; omega, fun g e => ?_⟩
      have e2 : UInt8.ofNat (48 + u) = 48 := by simpa using e
      have := dig_chr h
      rw [e2] at this
      have : (48 : UInt8).toNat = 48 := rfl
      omega
    · obtain ⟨i1, i2, i3⟩ := ih (u / 10) (by omega)
      rw [dec_step (by omega)]
      have hm : u % 10 < 10 := by omega
      refine ⟨by rw [digs_app, i1, digs_one (isD_ofNat hm)]; rfl, by rw [vl_app, i2, vl_one, dig_chr hm]; omega, fun _ => ?_⟩
      have hl : 0 < (Lib.decDigits (u / 10)).length := by rw [Lib.decDigits_length]; exact Lib.nDigits_pos _
      rw [List.getElem?_append_left hl]
      exact i3 (by omega)
theorem vl_zeros (z acc : Nat) (h : acc = 0) : vl acc (List.replicate z 48) = 0 := by
  subst h
  induction z with
  | zero => rfl
  | succ z ih => rw [List.replicate_succ']; rw [vl_app, ih, vl_one]; rfl
theorem digs_zeros (z : Nat) : digs (List.replicate z 48) = true := by
  unfold digs; rw [List.all_eq_true]; intro x hx; rw [List.eq_of_mem_replicate hx]; rfl
theorem pad_facts (u K : Nat) : digs (pad u K) = true ∧ vl 0 (pad u K) = u ∧ K + 1 ≤ (pad u K).length ∧ (K + 1 < (pad u K).length → (pad u K)[0]? ≠ some 48) := by
  obtain ⟨d1, d2, d3⟩ := dec_facts u
  refine ⟨by unfold pad; rw [digs_app, digs_zeros, d1]; rfl, by unfold pad; rw [vl_app, vl_zeros _ _ rfl, d2], by rw [pad_len]; omega, fun h => ?_⟩
  rw [pad_len] at h
  unfold pad
  rw [show K + 1 - Lib.nDigits u = 0 by omega, List.replicate_zero, List.nil_append]
  refine d3 ?_
  rcases Nat.eq_zero_or_pos u with g | g
  · rw [g, Lib.nDigits_small (by omega)] at h; omega
  · exact g
/-- digits are the numeral of what they spell, with zeros ahead -/
theorem canon (m : Nat) : ∀ (l : List UInt8), l.length = m + 1 → digs l = true → Lib.nDigits (vl 0 l) ≤ l.length ∧ l = List.replicate (l.length - Lib.nDigits (vl 0 l)) 48 ++ Lib.decDigits (vl 0 l) := by
  induction m with
  | zero =>
    intro l hl hd
    obtain ⟨c, rfl⟩ := List.length_eq_one_iff.1 hl
    obtain ⟨d, h1, h2, h3⟩ := chr_dig (c := c) (by unfold digs at hd; simpa using hd)
    have e : vl 0 [c] = d := by rw [vl_one]; omega
    rw [e, Lib.nDigits_small h1, Lib.decDigits_one h1, h3]
    exact ⟨Nat.le_refl _, by simp⟩
  | succ m ih =>
    intro l hl hd
    have hne : l ≠ [] := fun g => by rw [g] at hl; cases hl
    obtain ⟨x, c, rfl⟩ : ∃ x c, l = x ++ [c] := ⟨l.dropLast, l.getLast hne, (List.dropLast_concat_getLast hne).symm⟩
    rw [digs_app, Bool.and_eq_true] at hd
    have hx : x.length = m + 1 := by rw [List.length_append] at hl; simpa using hl
    obtain ⟨i1, i2⟩ := ih x hx hd.1
    obtain ⟨d, h1, h2, h3⟩ := chr_dig (c := c) (by have := hd.2; unfold digs at this; simpa using this)
    have e : vl 0 (x ++ [c]) = vl 0 x * 10 + d := by rw [vl_app, vl_one]; omega
    rw [e, List.length_append, hx, List.length_singleton]
    rw [hx] at i1 i2
    generalize hv : vl 0 x = v at *
    by_cases hv0 : v = 0
    · subst hv0
      rw [Lib.nDigits_small (by omega : 0 * 10 + d < 10), Lib.decDigits_one (by omega : 0 * 10 + d < 10)]
      refine ⟨by omega, ?_⟩
      rw [Lib.nDigits_small (by omega : 0 < 10), Lib.decDigits_one (by omega : 0 < 10)] at i2
      rw [i2, h3]
      rw [show m + 1 + 1 - 1 = m + 1 by omega, show m + 1 - 1 = m by omega, List.replicate_succ', Nat.zero_mul, Nat.zero_add]
      rfl
    · rw [Lib.nDigits_big (by omega : ¬ v * 10 + d < 10), dec_step (by omega : 10 ≤ v * 10 + d), show (v * 10 + d) / 10 = v by omega, show (v * 10 + d) % 10 = d by omega]
      refine ⟨by omega, ?_⟩
      rw [show m + 1 + 1 - (Lib.nDigits v + 1) = m + 1 - Lib.nDigits v by omega, ← List.append_assoc, ← i2, ← h3]
theorem pad_of {l : List UInt8} {K : Nat} (hd : digs l = true) (hl : K + 1 ≤ l.length) (h : l.length = K + 1 ∨ l[0]? ≠ some 48) : l = pad (vl 0 l) K := by
  obtain ⟨c1, c2⟩ := canon (l.length - 1) l (by omega) hd
  unfold pad
  rcases h with h | h
  · rw [← h]; exact c2
  · have hz : l.length - Lib.nDigits (vl 0 l) = 0 := by
      rcases Nat.eq_zero_or_pos (l.length - Lib.nDigits (vl 0 l)) with g | g
      · exact g
      · exfalso; apply h
        rw [c2, List.getElem?_append_left (by rw [List.length_replicate]; exact g), List.getElem?_replicate, if_pos g]
    rw [hz, List.replicate_zero, List.nil_append] at c2
    rw [show K + 1 - Lib.nDigits (vl 0 l) = 0 by omega, List.replicate_zero, List.nil_append]
    exact c2
theorem no_pt {x : List UInt8} (h : digs x = true) : ∀ c ∈ x, (c == 46) = false := by
  intro c hc
  unfold digs at h
  have := List.all_eq_true.1 h c hc
  rw [beq_eq_false_iff_ne]; intro g; rw [g] at this; cases this
theorem idx_app : ∀ (x y : List UInt8), (∀ c ∈ x, (c == 46) = false) → Lib.indexByte (x ++ 46 :: y) 46 = (x.length : Int) := by
  intro x
  induction x with
  | nil => intro y _; rw [List.nil_append]; unfold Lib.indexByte; rfl
  | cons c r ih =>
    intro y h
    have i := ih y fun c hc => h c (List.mem_cons_of_mem _ hc)
    rw [List.cons_append]
    unfold Lib.indexByte
    rw [h c (List.mem_cons_self ..), i]
    simp only [Bool.false_eq_true, if_false]
    rw [if_neg (by simp; (try omega))]
    (try simp)
theorem ct_app {x y : List UInt8} (h : digs x = true) : ctI (x ++ 46 :: y) = (x, y) := by
  unfold ctI
  rw [idx_app x y (no_pt h), if_pos (by omega), Int.toNat_natCast]
  rw [List.take_left, show x ++ 46 :: y = (x ++ [46]) ++ y by simp, show x.length + 1 = (x ++ [46]).length by simp, List.drop_left]
theorem digs_take {l : List UInt8} (h : digs l = true) (n : Nat) : digs (l.take n) = true := by
  unfold digs at *; rw [List.all_eq_true] at *; exact fun x hx => h x (List.mem_of_mem_take hx)
theorem digs_drop {l : List UInt8} (h : digs l = true) (n : Nat) : digs (l.drop n) = true := by
  unfold digs at *; rw [List.all_eq_true] at *; exact fun x hx => h x (List.mem_of_mem_drop hx)
theorem parts_pnt (u K : Nat) : parts (pnt u K) K = ((pad u K).take ((pad u K).length - K), (pad u K).drop ((pad u K).length - K)) := by
  obtain ⟨p1, p2, p3, p4⟩ := pad_facts u K
  unfold parts pnt
  by_cases h : K = 0
  · rw [if_pos h, if_pos h, h, Nat.sub_zero, List.take_length, List.drop_length]
  · rw [if_neg h, if_neg h, ct_app (digs_take p1 _)]
theorem wp_pnt (u K : Nat) : wpOk (pnt u K) K = true := by
  obtain ⟨p1, p2, p3, p4⟩ := pad_facts u K
  unfold wpOk
  rw [parts_pnt]
  simp only
  rw [digs_take p1, digs_drop p1, Bool.and_true, Bool.and_true, Bool.and_eq_true]
  refine ⟨by rw [decide_eq_true_eq, List.length_drop]; omega, ?_⟩
  rw [Bool.not_eq_true', decide_eq_false_iff_not]
  rintro (g | ⟨g1, g2⟩)
  · have := congrArg List.length g; rw [List.length_take, List.length_nil] at this; omega
  · rw [List.length_take] at g2
    rw [List.getElem?_take, if_pos (by omega)] at g1
    exact p4 (by omega) g1
/-- the sign ahead -/
theorem first_dig {x : List UInt8} (h : digs x = true) (t : List UInt8) (h0 : 1 ≤ x.length) : Lib.hasPrefix (x ++ t) [45] = false := by
  cases x with
  | nil => cases h0
  | cons c r =>
    unfold Lib.hasPrefix
    unfold digs at h
    rw [List.all_cons, Bool.and_eq_true] at h
    rw [List.cons_append]
    simp only [List.isPrefixOf, Bool.and_true]
    rw [beq_eq_false_iff_ne]; intro g; rw [← g] at h; cases h.1
theorem pnt_nosign (u K : Nat) : Lib.hasPrefix (pnt u K) [45] = false := by
  obtain ⟨p1, p2, p3, p4⟩ := pad_facts u K
  unfold pnt
  by_cases h : K = 0
  · rw [if_pos h]; have := first_dig p1 [] (by omega); rwa [List.append_nil] at this
  · rw [if_neg h]; exact first_dig (digs_take p1 _) _ (by rw [List.length_take]; omega)
theorem sign_yes (x : List UInt8) : Lib.hasPrefix (45 :: x) [45] = true ∧ Lib.trimPrefix (45 :: x) [45] = x := by
  have h : Lib.hasPrefix (45 :: x) [45] = true := by unfold Lib.hasPrefix; simp [List.isPrefixOf]
  exact ⟨h, by unfold Lib.trimPrefix; rw [h]; rfl⟩
theorem sign_no {x : List UInt8} (h : Lib.hasPrefix x [45] = false) : Lib.trimPrefix x [45] = x := by unfold Lib.trimPrefix; rw [h]; rfl
theorem sign_back {x : List UInt8} (h : Lib.hasPrefix x [45] = true) : x = 45 :: Lib.trimPrefix x [45] := by
  unfold Lib.trimPrefix; rw [h]
  unfold Lib.hasPrefix at h
  cases x with
  | nil => cases h
  | cons c r =>
    simp only [List.isPrefixOf, Bool.and_true, beq_iff_eq] at h
    rw [← h]; rfl
theorem sg_of {n : Int} (fn : Fit n) : sgV (decide (n < 0)) n.natAbs = n ∧ sgE (decide (n < 0)) n.natAbs = 0 := by
  obtain ⟨f1, f2⟩ := fn
  by_cases h : n < 0
  · have : sgOk true n.natAbs = true := by unfold sgOk; simp; omega
    rw [decide_eq_true h]; unfold sgV sgE; rw [this]; exact ⟨by simp; omega, rfl⟩
  · have : sgOk false n.natAbs = true := by unfold sgOk; simp; omega
    rw [decide_eq_false h]; unfold sgV sgE; rw [this]; exact ⟨by simp; omega, rfl⟩
/-- what Decimal writes, Parse reads -/
theorem parse_dec {n : Int} (fn : Fit n) (K : Nat) : pRes (decL (decide (n < 0)) n.natAbs K) K = (n, 0) := by
  obtain ⟨p1, p2, p3, p4⟩ := pad_facts n.natAbs K
  have hs := sg_of fn
  have hpt : (pad n.natAbs K).take ((pad n.natAbs K).length - K) ++ (pad n.natAbs K).drop ((pad n.natAbs K).length - K) = pad n.natAbs K := List.take_append_drop _ _
  have hpu : PuOk (pad n.natAbs K) = some n.natAbs := by
    rw [puok_vl p1 (fun g => by rw [g] at p3; cases p3), p2, if_pos (by have := fn.1; have := fn.2; omega)]
  have key : ∀ l, Lib.trimPrefix l [45] = pnt n.natAbs K → Lib.hasPrefix l [45] = decide (n < 0) → l ≠ [] → pRes l K = (n, 0) := by
    intro l h1 h2 h3
    unfold pRes
    rw [if_neg h3, h1, if_neg (by rw [wp_pnt]; simp), parts_pnt]
    simp only
    rw [hpt, hpu, h2]
    simp only
    rw [if_neg (by simp; omega), hs.1, hs.2]
  unfold decL
  by_cases h : n < 0
  · rw [decide_eq_true h, if_pos rfl]
    rw [decide_eq_true h] at key
    exact key _ (sign_yes _).2 (sign_yes _).1 (by simp)
  · rw [decide_eq_false h, if_neg (by simp)]
    rw [decide_eq_false h] at key
    refine key _ (sign_no (pnt_nosign _ _)) (pnt_nosign _ _) fun g => ?_
    have := wp_pnt n.natAbs K
    rw [g] at this
    unfold wpOk parts at this
    by_cases hK : K = 0
    · rw [if_pos hK] at this; simp at this
    · rw [if_neg hK] at this; unfold ctI Lib.indexByte at this; simp at this
/-- where Parse refuses, the number is 0 -/
theorem parse_err {l : List UInt8} {K : Nat} (h : (pRes l K).2 ≠ 0) : (pRes l K).1 = 0 := by
  generalize hr : pRes l K = r at h ⊢
  unfold pRes at hr
  split at hr
  · rw [← hr]
  · split at hr
    · rw [← hr]
    · split at hr
      · rw [← hr]
      · split at hr
        · rw [← hr]
        · rw [← hr] at h ⊢
          unfold sgV sgE at *
          simp only at h ⊢
          split at h
          · exact absurd rfl h
          · rename_i g; rw [if_neg g]
/-- what Parse reads, Decimal writes -/
theorem dec_parse {l : List UInt8} {K : Nat} (h : (pRes l K).2 = 0) : Fit (pRes l K).1 ∧ decL (decide ((pRes l K).1 < 0)) (pRes l K).1.natAbs K = l := by
  generalize hr : pRes l K = r at h ⊢
  unfold pRes at hr
  split at hr
  · rw [← hr] at h; cases h
  · rename_i hne
    split at hr
    · rw [← hr] at h; cases h
    · rename_i hwp
      have hw : wpOk (Lib.trimPrefix l [45]) K = true := by simpa using hwp
      split at hr
      · rw [← hr] at h; cases h
      · rename_i u hu
        split at hr
        · rw [← hr] at h; cases h
        · rename_i hz
          generalize hneg : Lib.hasPrefix l [45] = neg at hr hz
          generalize ht : Lib.trimPrefix l [45] = t at hw hu
          have hok : sgOk neg u = true := by
            rw [← hr] at h; unfold sgE at h
            cases g : sgOk neg u with
            | true => rfl
            | false => rw [g] at h; cases h
          obtain ⟨w1, w2⟩ := wp_ok hw
          have hw' := hw
          unfold wpOk at hw'
          simp only [Bool.and_eq_true, Bool.not_eq_true', decide_eq_false_iff_not, decide_eq_true_eq, not_or, not_and] at hw'
          obtain ⟨⟨⟨k1, k2, k3⟩, k4⟩, k5⟩ := hw'
          have hu2 : vl 0 ((parts t K).1 ++ (parts t K).2) = u := by
            rw [puok_vl w1 w2] at hu
            split at hu
            · exact Option.some.inj hu
            · cases hu
          have l1 : 1 ≤ (parts t K).1.length := List.length_pos_iff.2 k2
          have hp : (parts t K).1 ++ (parts t K).2 = pad u K := by
            have := pad_of (K := K) w1 (by rw [List.length_append]; omega) (by
              rw [List.length_append, List.getElem?_append_left l1]
              by_cases g : (parts t K).1[0]? = some 48
              · have := k3 g; left; omega
              · exact .inr g)
            rw [hu2] at this; exact this
          have htp : pnt u K = t := by
            unfold pnt
            rw [← hp, List.length_append, k1, Nat.add_sub_cancel, List.take_left, List.drop_left]
            by_cases hK : K = 0
            · rw [if_pos hK]; unfold parts; rw [if_pos hK]; simp
            · rw [if_neg hK]
              have k1' := k1
              unfold parts at k1' ⊢
              rw [if_neg hK] at k1' ⊢
              unfold ctI at k1' ⊢
              split
              · rename_i hi
                obtain ⟨i, hi2⟩ := Int.eq_ofNat_of_zero_le hi
                rw [hi2, Int.toNat_natCast]
                have ha := (Lib.indexByte_some hi2).1
                simp only
                have hil : i < t.length := idx_lt hi2
                rw [List.getElem?_eq_getElem hil] at ha
                have ha2 : t[i] = 46 := Option.some.inj ha
                have : t.drop i = t[i] :: t.drop (i + 1) := List.drop_eq_getElem_cons hil
                rw [ha2] at this
                rw [← this, List.take_append_drop]
              · rename_i hi; rw [if_neg hi] at k1'; exact absurd k1'.symm hK
          have hzz : ¬ (neg = true ∧ u = 0) := by
            intro g; apply hz; rw [g.1, g.2]; rfl
          have hv : r.1 = if neg then -(u : Int) else u := by rw [← hr]; unfold sgV; rw [hok]; simp
          have hsg : decide (r.1 < 0) = neg ∧ r.1.natAbs = u ∧ Fit r.1 := by
            rw [hv]
            unfold sgOk at hok
            cases neg with
            | true => simp at hzz hok ⊢; unfold Fit; omega
            | false => simp at hzz hok ⊢; unfold Fit; omega
          refine ⟨hsg.2.2, ?_⟩
          rw [hsg.1, hsg.2.1]
          unfold decL
          rw [htp]
          cases neg with
          | true => rw [if_pos rfl, ← ht]; exact (sign_back hneg).symm
          | false => rw [if_neg (by simp), ← ht]; exact sign_no hneg
theorem dec_size {u K : Nat} {neg : Bool} (hu : u < 18446744073709551616) (hK : K ≤ 9) : (decL neg u K).length ≤ 1000 := by
  have nb := nd_bd u hu
  have pl := pad_len u K
  unfold decL pnt
  split <;> split <;> (try simp only [List.length_cons, List.length_append, List.length_take, List.length_drop]) <;> omega
end Go.Proofs.YtedcimjhhcepmaaDoor
