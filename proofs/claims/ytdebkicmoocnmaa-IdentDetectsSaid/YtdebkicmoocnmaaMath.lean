/- Plain facts about names, check letters and codes (no program). -/
import Derived.WalkKit
import Derived.ProofKit
import Derived.Laws.BytesArg
set_option linter.unusedVariables false
set_option linter.unusedSimpArgs false
namespace Go.Proofs.Ytdebkicmoocnmaa
open Go.RowKit
namespace Idm

/-- byte i of a string, 0 behind its end -/
def bt (s : ByteArray) (i : Nat) : Int := ((s.data.toList.getD i 0).toNat : Int)
theorem bt_eq (s : ByteArray) (k : Nat) (h : k < s.size) : (s[k].toNat : Int) = bt s k := by
  unfold bt
  have h2 : k < s.data.toList.length := by simpa using h
  rw [List.getD_eq_getElem?_getD, List.getElem?_eq_getElem h2]
  rfl
theorem bt_bd (s : ByteArray) (k : Nat) : 0 ≤ bt s k ∧ bt s k ≤ 255 := by
  unfold bt; have := (s.data.toList.getD k 0).toNat_lt; omega
def smB (c : Int) : Bool := decide (97 ≤ c ∧ c ≤ 122)
def dgB (c : Int) : Bool := decide (48 ≤ c ∧ c ≤ 57)
def cpB (c : Int) : Bool := decide (65 ≤ c ∧ c ≤ 90)
def nmB (i : Nat) (c : Int) : Bool := smB c || (decide (i ≠ 0) && (decide (c = 95) || dgB c))
def okB (s : ByteArray) : Nat → Bool
  | 0 => true
  | k + 1 => okB s k && nmB k (bt s k)
def isN (s : ByteArray) : Bool := decide (1 ≤ s.size ∧ s.size ≤ 16) && okB s s.size
theorem ok_at {s : ByteArray} {n : Nat} (h : okB s n = true) : ∀ k, k < n → nmB k (bt s k) = true := by
  induction n with
  | zero => intro k hk; omega
  | succ n ih =>
    intro k hk
    unfold okB at h; rw [Bool.and_eq_true] at h
    rcases Nat.lt_succ_iff_lt_or_eq.1 hk with h1 | rfl
    · exact ih h.1 k h1
    · exact h.2
theorem isN_len {s : ByteArray} (h : s.size < 1 ∨ 16 < s.size) : isN s = false := by
  unfold isN; rw [decide_eq_false (by omega)]; rfl
theorem isN_at {s : ByteArray} {k : Nat} (hk : k < s.size) (h : nmB k (bt s k) = false) : isN s = false := by
  cases hb : isN s with
  | false => rfl
  | true =>
    unfold isN at hb; rw [Bool.and_eq_true] at hb
    have := ok_at hb.2 k hk
    rw [h] at this; cases this
theorem isN_all {s : ByteArray} (h1 : 1 ≤ s.size) (h2 : s.size ≤ 16) (h : okB s s.size = true) : isN s = true := by
  unfold isN; rw [decide_eq_true ⟨h1, h2⟩, h]; rfl
theorem ok_step {s : ByteArray} {k : Nat} (h : okB s k = true) (g : nmB k (bt s k) = true) : okB s (k + 1) = true := by
  unfold okB; rw [h, g]; rfl

theorem nm_sm {k : Nat} {c : Int} (h : smB c = true) : nmB k c = true := by unfold nmB; rw [h]; rfl
theorem nm_dg {k : Nat} {c : Int} (hk : k ≠ 0) (h : dgB c = true) : nmB k c = true := by unfold nmB; rw [h, decide_eq_true hk]; simp
theorem nm_us {k : Nat} {c : Int} (hk : k ≠ 0) (h : c = 95) : nmB k c = true := by unfold nmB; rw [decide_eq_true hk, decide_eq_true h]; simp
theorem nm_no {k : Nat} {c : Int} (h1 : smB c = false) (h2 : dgB c = false) (h3 : ¬ c = 95) : nmB k c = false := by unfold nmB; rw [h1, h2, decide_eq_false h3]; simp
theorem nm_zero {c : Int} (h1 : smB c = false) : nmB 0 c = false := by unfold nmB; rw [h1]; simp
theorem nz_of {s : ByteArray} {k : Nat} (h : smB (bt s 0) = true) (g : smB (bt s k) = false) : k ≠ 0 := by rintro rfl; rw [h] at g; cases g

/-- the check sum, as the program folds it -/
def lm (f : Nat → Int) : Nat → Int
  | 0 => 0
  | k + 1 => (lm f k + ((k : Int) + 1) * f k) % 23
theorem lm_bd (f : Nat → Int) (k : Nat) : 0 ≤ lm f k ∧ lm f k ≤ 22 := by
  cases k with
  | zero => simp [lm]
  | succ k => unfold lm; omega
theorem lm_succ (f : Nat → Int) (k : Nat) : lm f (k + 1) = (lm f k + ((k : Int) + 1) * f k) % 23 := rfl
theorem lm_alt (m k b : Int) : (m + (k + 1) % 23 * b) % 23 = (m + (k + 1) * b) % 23 := by
  rw [Int.add_emod, Int.mul_emod, Int.emod_emod_of_dvd _ (Int.dvd_refl 23), ← Int.mul_emod, ← Int.add_emod]
theorem lm_congr {f g : Nat → Int} {n : Nat} (h : ∀ i, i < n → f i = g i) : lm f n = lm g n := by
  induction n with
  | zero => rfl
  | succ n ih => unfold lm; rw [ih (fun i hi => h i (by omega)), h n (by omega)]
theorem prod_bd (k : Nat) (b : Int) (hk : k < 4000) (h0 : 0 ≤ b) (h1 : b ≤ 255) : 0 ≤ ((k : Int) + 1) * b ∧ ((k : Int) + 1) * b ≤ 1020000 := by
  refine ⟨Int.mul_nonneg (by omega) h0, ?_⟩
  have : ((k : Int) + 1) * b ≤ 4000 * 255 := Int.mul_le_mul (by omega) h1 h0 (by omega)
  omega
theorem l_step (m : Int) (k : Nat) (b : Int) (hk : k < 4000) (hm : 0 ≤ m ∧ m ≤ 22) (hb : 0 ≤ b ∧ b ≤ 255) :
    (wrap64 (m + wrap64 (((k : Int) + 1) * wrap64 b))).tmod 23 = (m + ((k : Int) + 1) * b) % 23 := by
  have hp := prod_bd k b hk hb.1 hb.2
  rw [IntWalk.wrap64_in b (by omega), IntWalk.wrap64_in (((k : Int) + 1) * b) (by omega), IntWalk.wrap64_in _ (by omega), IntWalk.rem_in _ _ (by omega)]
theorem l_alt (m : Int) (k : Nat) (b : Int) (hk : k < 4000) (hm : 0 ≤ m ∧ m ≤ 22) (hb : 0 ≤ b ∧ b ≤ 255) :
    (wrap64 (m + wrap64 (((k : Int) + 1) % 23 * wrap64 b))).tmod 23 = (m + ((k : Int) + 1) * b) % 23 := by
  have hp : 0 ≤ ((k : Int) + 1) % 23 * b ∧ ((k : Int) + 1) % 23 * b ≤ 22 * 255 :=
    ⟨Int.mul_nonneg (by omega) hb.1, Int.mul_le_mul (by omega) hb.2 hb.1 (by omega)⟩
  rw [IntWalk.wrap64_in b (by omega), IntWalk.wrap64_in (((k : Int) + 1) % 23 * b) (by omega), IntWalk.wrap64_in _ (by omega), IntWalk.rem_in _ _ (by omega), lm_alt]
/-- the number of the first k digits -/
def nu (f : Nat → Int) : Nat → Int
  | 0 => 0
  | k + 1 => 10 * nu f k + (f k - 48)
theorem nu_succ (f : Nat → Int) (k : Nat) : nu f (k + 1) = 10 * nu f k + (f k - 48) := rfl
theorem nu_congr {f g : Nat → Int} {n : Nat} (h : ∀ i, i < n → f i = g i) : nu f n = nu g n := by
  induction n with
  | zero => rfl
  | succ n ih => unfold nu; rw [ih (fun i hi => h i (by omega)), h n (by omega)]
theorem dg_bd {c : Int} (h : dgB c = true) : 48 ≤ c ∧ c ≤ 57 := by unfold dgB at h; simpa using h
theorem nu_bd {f : Nat → Int} {k : Nat} (h : ∀ i, i < k → dgB (f i) = true) : 0 ≤ nu f k ∧ nu f k + 1 ≤ 10 ^ k := by
  induction k with
  | zero => simp [nu]
  | succ k ih =>
    have h1 := ih (fun i hi => h i (by omega))
    have h2 := dg_bd (h k (by omega))
    rw [nu_succ, Int.pow_succ]; omega
theorem nu_lt {f : Nat → Int} {k : Nat} (hk : k ≤ 6) (h : ∀ i, i < k → dgB (f i) = true) : 0 ≤ nu f k ∧ nu f k ≤ 999999 := by
  have h1 := nu_bd h
  have h2 : (10 : Int) ^ k ≤ 10 ^ 6 := by
    have : (10 : Nat) ^ k ≤ 10 ^ 6 := Nat.pow_le_pow_right (by omega) hk
    exact_mod_cast this
  omega
theorem size_ex (s : ByteArray) (a b : Nat) (h : b ≤ s.size) : (s.extract a b).size = b - a := by
  rw [ByteArray.size_extract]; omega
theorem bt_ex (s : ByteArray) (a b i : Nat) (hb : b ≤ s.size) (hi : a + i < b) : bt (s.extract a b) i = bt s (a + i) := by
  unfold bt
  congr 2
  rw [ByteArray.data_extract, Array.toList_extract, List.getD_eq_getElem?_getD, List.getD_eq_getElem?_getD]
  simp [List.extract, List.getElem?_take, List.getElem?_drop]
  rw [if_pos (by omega)]
/-- digits behind the first byte -/
def dgN (s : ByteArray) : Nat → Bool
  | 0 => true
  | k + 1 => dgN s k && dgB (bt s (k + 1))
theorem dgN_at {s : ByteArray} {n : Nat} (h : dgN s n = true) : ∀ k, k < n → dgB (bt s (k + 1)) = true := by
  induction n with
  | zero => intro k hk; omega
  | succ n ih =>
    intro k hk
    unfold dgN at h; rw [Bool.and_eq_true] at h
    rcases Nat.lt_succ_iff_lt_or_eq.1 hk with h1 | rfl
    · exact ih h.1 k h1
    · exact h.2
theorem dgN_step {s : ByteArray} {k : Nat} (h : dgN s k = true) (g : dgB (bt s (k + 1)) = true) : dgN s (k + 1) = true := by
  unfold dgN; rw [h, g]; rfl
theorem dgN_no {s : ByteArray} {n k : Nat} (hk : k < n) (g : dgB (bt s (k + 1)) = false) : dgN s n = false := by
  cases h : dgN s n with
  | false => rfl
  | true => have := dgN_at h k hk; rw [g] at this; cases this
def chk (s : ByteArray) : Int := 65 + lm (bt s) 7
def nums (s : ByteArray) : Int := nu (fun i => bt s (i + 1)) 6
/-- the error of Split -/
def spE (s : ByteArray) : Int :=
  if s.size ≠ 8 then 3 else if cpB (bt s 0) = false then 10 else if dgN s 6 = false then 5 else if bt s 7 = chk s then 0 else 16
def spK (s : ByteArray) : Int := if spE s = 0 then bt s 0 else 0
def spN (s : ByteArray) : Int := if spE s = 0 then nums s else 0
theorem spE_len {s : ByteArray} (h : s.size ≠ 8) : spE s = 3 := by unfold spE; rw [if_pos h]
theorem spE_kind {s : ByteArray} (h : s.size = 8) (h1 : cpB (bt s 0) = false) : spE s = 10 := by unfold spE; rw [if_neg (by omega), if_pos h1]
theorem spE_dig {s : ByteArray} (h : s.size = 8) (h1 : cpB (bt s 0) = true) (h2 : dgN s 6 = false) : spE s = 5 := by
  unfold spE; rw [if_neg (by omega), if_neg (by rw [h1]; simp), if_pos h2]
theorem spE_sum {s : ByteArray} (h : s.size = 8) (h1 : cpB (bt s 0) = true) (h2 : dgN s 6 = true) (h3 : ¬ bt s 7 = chk s) : spE s = 16 := by
  unfold spE; rw [if_neg (by omega), if_neg (by rw [h1]; simp), if_neg (by rw [h2]; simp), if_neg h3]
theorem spE_ok {s : ByteArray} (h : s.size = 8) (h1 : cpB (bt s 0) = true) (h2 : dgN s 6 = true) (h3 : bt s 7 = chk s) : spE s = 0 := by
  unfold spE; rw [if_neg (by omega), if_neg (by rw [h1]; simp), if_neg (by rw [h2]; simp), if_pos h3]
theorem sp_no {s : ByteArray} {e : Int} (h : spE s = e) (he : e ≠ 0) : (spK s, spN s, spE s) = (0, 0, e) := by
  unfold spK spN; rw [h, if_neg he, if_neg he]
theorem sp_yes {s : ByteArray} (h : spE s = 0) : (spK s, spN s, spE s) = (bt s 0, nums s, 0) := by
  unfold spK spN; rw [h, if_pos rfl, if_pos rfl]
theorem spE_inv {s : ByteArray} (h : spE s = 0) : s.size = 8 ∧ cpB (bt s 0) = true ∧ dgN s 6 = true ∧ bt s 7 = chk s := by
  unfold spE at h
  by_cases h1 : s.size ≠ 8
  · rw [if_pos h1] at h; omega
  · rw [if_neg h1] at h
    cases h2 : cpB (bt s 0) with
    | false => rw [h2, if_pos rfl] at h; omega
    | true =>
      rw [h2, if_neg (by simp)] at h
      cases h3 : dgN s 6 with
      | false => rw [h3, if_pos rfl] at h; omega
      | true =>
        rw [h3, if_neg (by simp)] at h
        by_cases h4 : bt s 7 = chk s
        · exact ⟨by omega, rfl, rfl, h4⟩
        · rw [if_neg h4] at h; omega
theorem chk_ex {s : ByteArray} (h : s.size = 8) : 65 + lm (bt (s.extract 0 7)) (s.extract 0 7).size = chk s := by
  rw [size_ex s 0 7 (by omega)]
  unfold chk
  rw [lm_congr (f := bt (s.extract 0 7)) (g := bt s) (fun i hi => by rw [bt_ex s 0 7 i (by omega) (by omega), Nat.zero_add])]
theorem nums_ex {s : ByteArray} (h : s.size = 8) : nu (bt (s.extract 1 7)) 6 = nums s := by
  unfold nums
  exact nu_congr (fun i hi => by rw [bt_ex s 1 7 i (by omega) (by omega), Nat.add_comm])
/-- kind and digits of the code -/
def cw (kind n : Int) : List Int := [kind, 48 + n / 100000 % 10, 48 + n / 10000 % 10, 48 + n / 1000 % 10, 48 + n / 100 % 10, 48 + n / 10 % 10, 48 + n % 10]
/-- its check letter -/
def cl (kind n : Int) : Int := 65 + lm (fun i => (cw kind n).getD i 0) 7
def codeL (kind n : Int) : List Int := cw kind n ++ [cl kind n]
def codeS (kind n : Int) : ByteArray := strOfNums (codeL kind n)
theorem str_app (xs ys : List Int) : strOfNums xs ++ strOfNums ys = strOfNums (xs ++ ys) := by
  apply ByteArray.ext; simp [strOfNums, ByteArray.data_append]
theorem bt_str (xs : List Int) (i : Nat) (hi : i < xs.length) (h : 0 ≤ xs.getD i 0 ∧ xs.getD i 0 ≤ 255) : bt (strOfNums xs) i = xs.getD i 0 := by
  unfold bt
  rw [strOfNums_data, List.getD_eq_getElem?_getD, List.getElem?_map, List.getElem?_eq_getElem hi]
  rw [List.getD_eq_getElem?_getD, List.getElem?_eq_getElem hi] at h
  rw [List.getD_eq_getElem?_getD, List.getElem?_eq_getElem hi]
  simp at h ⊢
  omega
theorem cw_bd {kind n : Int} (hk : cpB kind = true) (h0 : 0 ≤ n) (h1 : n ≤ 999999) : ∀ i, i < 7 → 0 ≤ (cw kind n).getD i 0 ∧ (cw kind n).getD i 0 ≤ 255 := by
  intro i hi
  unfold cpB at hk; simp at hk
  rcases i with _ | _ | _ | _ | _ | _ | _ | i <;> (try omega) <;> (simp [cw]; omega)
theorem cl_str {kind n : Int} (hk : cpB kind = true) (h0 : 0 ≤ n) (h1 : n ≤ 999999) : 65 + lm (bt (strOfNums (cw kind n))) 7 = cl kind n := by
  unfold cl
  rw [lm_congr (fun i hi => bt_str (cw kind n) i (by simp [cw]; omega) (cw_bd hk h0 h1 i hi))]
theorem cl_bd (kind n : Int) : 65 ≤ cl kind n ∧ cl kind n ≤ 87 := by
  unfold cl; have := lm_bd (fun i => (cw kind n).getD i 0) 7; omega
/-- the error of Code, and its string -/
def cE (kind n : Int) : Int := if cpB kind = false then 10 else if 0 ≤ n ∧ n ≤ 999999 then 0 else 9
def cS (kind n : Int) : ByteArray := if cE kind n = 0 then codeS kind n else ⟨#[]⟩
theorem c_kind {kind n : Int} (h : cpB kind = false) : cE kind n = 10 ∧ cS kind n = ⟨#[]⟩ := by
  have : cE kind n = 10 := by unfold cE; rw [if_pos h]
  exact ⟨this, by unfold cS; rw [this, if_neg (by omega)]⟩
theorem c_rng {kind n : Int} (h : cpB kind = true) (g : n < 0 ∨ 999999 < n) : cE kind n = 9 ∧ cS kind n = ⟨#[]⟩ := by
  have : cE kind n = 9 := by unfold cE; rw [if_neg (by rw [h]; simp), if_neg (by omega)]
  exact ⟨this, by unfold cS; rw [this, if_neg (by omega)]⟩
theorem c_yes {kind n : Int} (h : cpB kind = true) (h0 : 0 ≤ n) (h1 : n ≤ 999999) : cE kind n = 0 ∧ cS kind n = codeS kind n := by
  have : cE kind n = 0 := by unfold cE; rw [if_neg (by rw [h]; simp), if_pos ⟨h0, h1⟩]
  exact ⟨this, by unfold cS; rw [this, if_pos rfl]⟩
theorem c_inv {kind n : Int} (h : cE kind n = 0) : cpB kind = true ∧ 0 ≤ n ∧ n ≤ 999999 := by
  unfold cE at h
  cases hk : cpB kind with
  | false => rw [hk, if_pos rfl] at h; omega
  | true =>
    rw [hk, if_neg (by simp)] at h
    by_cases g : 0 ≤ n ∧ n ≤ 999999
    · exact ⟨rfl, g⟩
    · rw [if_neg g] at h; omega
theorem div10 (n : Int) : n / 10 / 10 = n / 100 ∧ n / 10 / 10 / 10 = n / 1000 ∧ n / 10 / 10 / 10 / 10 = n / 10000 ∧ n / 10 / 10 / 10 / 10 / 10 = n / 100000 := by omega
end Idm
end Go.Proofs.Ytdebkicmoocnmaa
