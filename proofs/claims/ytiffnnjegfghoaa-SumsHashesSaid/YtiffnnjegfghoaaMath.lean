/- Plain facts about checksums: the register of CRC-32, the hash FNV-1a, exclusive ors (no program). -/
import Derived.WalkKit
import Derived.ProofKit
import Derived.Laws.BytesArg
import Derived.Laws.Bits64
set_option linter.unusedVariables false
set_option linter.unusedSimpArgs false
namespace Go.Proofs.Ytiffnnjegfghoaa
open Go.RowKit
namespace Cm

/-- byte i of a string, 0 behind its end -/
def bt (s : ByteArray) (i : Nat) : Nat := (s.data.toList.getD i 0).toNat
theorem bt_eq (s : ByteArray) (k : Nat) (h : k < s.size) : (s[k].toNat : Int) = (bt s k : Int) := by
  unfold bt
  have h2 : k < s.data.toList.length := by simpa using h
  rw [List.getD_eq_getElem?_getD, List.getElem?_eq_getElem h2]
  rfl
theorem bt_bd (s : ByteArray) (k : Nat) : bt s k < 256 := by
  unfold bt; have := (s.data.toList.getD k 0).toNat_lt; omega
/-- one clock of the register -/
def clk (r : Nat) : Nat := if r % 2 = 1 then (r / 2) ^^^ 3988292384 else r / 2
def clks : Nat → Nat → Nat
  | 0, r => r
  | k + 1, r => clk (clks k r)
/-- the register behind k bytes -/
def reg (f : Nat → Nat) : Nat → Nat
  | 0 => 4294967295
  | k + 1 => clks 8 (reg f k ^^^ f k)
def crcS (f : Nat → Nat) (n : Nat) : Nat := 4294967295 ^^^ reg f n
theorem reg_succ (f : Nat → Nat) (k : Nat) : reg f (k + 1) = clks 8 (reg f k ^^^ f k) := rfl
theorem clks_succ (k r : Nat) : clks (k + 1) r = clk (clks k r) := rfl
theorem clk_lt {r : Nat} (h : r < 4294967296) : clk r < 4294967296 := by
  unfold clk
  split
  · have : r / 2 ^^^ 3988292384 < 2 ^ 32 := Nat.xor_lt_two_pow (by omega) (by omega)
    omega
  · omega
theorem clks_lt {r : Nat} (h : r < 4294967296) (k : Nat) : clks k r < 4294967296 := by
  induction k with
  | zero => exact h
  | succ k ih => exact clk_lt ih
theorem xor_lt32 {a b : Nat} (ha : a < 4294967296) (hb : b < 4294967296) : a ^^^ b < 4294967296 := by
  have : a ^^^ b < 2 ^ 32 := Nat.xor_lt_two_pow (by omega) (by omega)
  omega
theorem xor_lt64 {a b : Nat} (ha : a < 18446744073709551616) (hb : b < 18446744073709551616) : a ^^^ b < 18446744073709551616 := by
  have : a ^^^ b < 2 ^ 64 := Nat.xor_lt_two_pow (by omega) (by omega)
  omega
theorem xor_lt8 {a b : Nat} (ha : a < 256) (hb : b < 256) : a ^^^ b < 256 := by
  have : a ^^^ b < 2 ^ 8 := Nat.xor_lt_two_pow (by omega) (by omega)
  omega
theorem reg_lt {f : Nat → Nat} (hf : ∀ i, f i < 256) (k : Nat) : reg f k < 4294967296 := by
  induction k with
  | zero => show (4294967295 : Nat) < 4294967296; omega
  | succ k ih => exact clks_lt (xor_lt32 ih (by have := hf k; omega)) 8
theorem crcS_lt {f : Nat → Nat} (hf : ∀ i, f i < 256) (k : Nat) : crcS f k < 4294967296 := xor_lt32 (by omega) (reg_lt hf k)
/-- the clock is linear -/
theorem clk_xor (a b : Nat) : clk (a ^^^ b) = clk a ^^^ clk b := by
  have h2 : (a ^^^ b) / 2 = a / 2 ^^^ b / 2 := Nat.xor_div_two
  have h3 : (a ^^^ b) % 2 = (a + b) % 2 := by
    have h4 := Nat.xor_mod_two_pow (a := a) (b := b) (n := 1)
    rw [Nat.pow_one] at h4
    rw [h4, Nat.add_mod]
    rcases Nat.mod_two_eq_zero_or_one a with g | g <;> rcases Nat.mod_two_eq_zero_or_one b with g2 | g2 <;> rw [g, g2] <;> rfl
  unfold clk
  by_cases ha : a % 2 = 1 <;> by_cases hb : b % 2 = 1
  · rw [if_pos ha, if_pos hb, if_neg (by omega), h2, Nat.xor_assoc, Nat.xor_comm 3988292384, Nat.xor_assoc, Nat.xor_self, Nat.xor_zero]
  · rw [if_pos ha, if_neg hb, if_pos (by omega), h2, Nat.xor_assoc, Nat.xor_comm (b / 2), Nat.xor_assoc]
  · rw [if_neg ha, if_pos hb, if_pos (by omega), h2, Nat.xor_assoc]
  · rw [if_neg ha, if_neg hb, if_neg (by omega), h2]
theorem clks_xor (k a b : Nat) : clks k (a ^^^ b) = clks k a ^^^ clks k b := by
  induction k with
  | zero => rfl
  | succ k ih => rw [clks_succ, ih, clk_xor]; rfl
theorem clk_ne {r : Nat} (h : r < 4294967296) (h0 : r ≠ 0) : clk r ≠ 0 := by
  unfold clk
  split
  · intro g
    have : r / 2 = 3988292384 := by
      have := congrArg (· ^^^ 3988292384) g
      simpa [Nat.xor_assoc] using this
    omega
  · omega
theorem clks_ne {r : Nat} (h : r < 4294967296) (h0 : r ≠ 0) (k : Nat) : clks k r ≠ 0 := by
  induction k with
  | zero => exact h0
  | succ k ih => exact clk_ne (clks_lt h k) ih
theorem clks_add (a b r : Nat) : clks (a + b) r = clks a (clks b r) := by
  induction a with
  | zero => rw [Nat.zero_add]; rfl
  | succ a ih => rw [Nat.succ_add, clks_succ, ih]; rfl
theorem clks_pow (k y : Nat) : clks k (y * 2 ^ k) = y := by
  induction k generalizing y with
  | zero => show y * 1 = y; omega
  | succ k ih =>
    rw [clks_succ, Nat.pow_succ, Nat.mul_comm (2 ^ k), ← Nat.mul_assoc, ih]
    unfold clk; rw [if_neg (by omega)]; omega
theorem xor_swap (a b c d : Nat) : (a ^^^ b) ^^^ (c ^^^ d) = (a ^^^ c) ^^^ (b ^^^ d) := by
  rw [Nat.xor_assoc, ← Nat.xor_assoc b, Nat.xor_comm b c, Nat.xor_assoc c, ← Nat.xor_assoc]
/-- the difference of two registers -/
theorem reg_diff (f g : Nat → Nat) (k : Nat) : reg f (k + 1) ^^^ reg g (k + 1) = clks 8 ((reg f k ^^^ reg g k) ^^^ (f k ^^^ g k)) := by
  rw [reg_succ, reg_succ, ← clks_xor, xor_swap]
theorem reg_same {f g : Nat → Nat} {n : Nat} (h : ∀ i, i < n → f i = g i) : reg f n = reg g n := by
  induction n with
  | zero => rfl
  | succ n ih => rw [reg_succ, reg_succ, ih (fun i hi => h i (by omega)), h n (by omega)]
theorem xor_eq_zero {a b : Nat} : a ^^^ b = 0 ↔ a = b := by
  constructor
  · intro g
    have := congrArg (· ^^^ b) g
    simpa [Nat.xor_assoc] using this
  · rintro rfl; exact Nat.xor_self a
/-- behind equal bytes the difference stays -/
theorem reg_keep {f g : Nat → Nat} (hf : ∀ i, f i < 256) (hg : ∀ i, g i < 256) {m n : Nat} (hmn : m ≤ n) (h : ∀ i, m ≤ i → i < n → f i = g i) (hne : reg f m ≠ reg g m) : reg f n ≠ reg g n := by
  induction n with
  | zero => obtain rfl : m = 0 := by omega
            exact hne
  | succ n ih =>
    by_cases e : m = n + 1
    · subst e; exact hne
    · have h1 := ih (by omega) (fun i a b => h i a (by omega))
      intro g2
      have g3 := xor_eq_zero.2 g2
      rw [reg_diff, h n (by omega) (by omega), Nat.xor_self, Nat.xor_zero] at g3
      exact clks_ne (xor_lt32 (reg_lt hf n) (reg_lt hg n)) (fun z => h1 (xor_eq_zero.1 z)) 8 g3
/-- the word of the first j differences from place a on -/
def word (x : Nat → Nat) (a : Nat) : Nat → Nat
  | 0 => 0
  | j + 1 => word x a j ^^^ x (a + j) * 2 ^ (8 * j)
theorem word_lt {x : Nat → Nat} (hx : ∀ i, x i < 256) (a : Nat) {j : Nat} (hj : j ≤ 4) : word x a j < 2 ^ (8 * j) := by
  induction j with
  | zero => show (0 : Nat) < 1; omega
  | succ j ih =>
    have h1 := ih (by omega)
    have h2 := hx (a + j)
    have e : 2 ^ (8 * (j + 1)) = 256 * 2 ^ (8 * j) := by rw [Nat.mul_add, Nat.pow_add]; omega
    have h3 : 2 ^ (8 * j) ≤ 2 ^ (8 * (j + 1)) := Nat.pow_le_pow_right (by omega) (by omega)
    exact Nat.xor_lt_two_pow (by omega) (by rw [e]; exact Nat.mul_lt_mul_of_pos_right h2 (Nat.two_pow_pos _))
theorem reg_word {f g : Nat → Nat} {a : Nat} (h0 : reg f a = reg g a) (j : Nat) : reg f (a + j) ^^^ reg g (a + j) = clks (8 * j) (word (fun i => f i ^^^ g i) a j) := by
  induction j with
  | zero => show reg f a ^^^ reg g a = 0; rw [h0, Nat.xor_self]
  | succ j ih =>
    rw [← Nat.add_assoc, reg_diff, ih, show word (fun i => f i ^^^ g i) a (j + 1) = word (fun i => f i ^^^ g i) a j ^^^ (f (a + j) ^^^ g (a + j)) * 2 ^ (8 * j) from rfl,
      show 8 * (j + 1) = 8 + 8 * j by omega, clks_add, clks_xor (8 * j), clks_pow]
theorem word_zero {x : Nat → Nat} (hx : ∀ i, x i < 256) {a j : Nat} (hj : j ≤ 4) (h : word x a j = 0) : ∀ i, i < j → x (a + i) = 0 := by
  induction j with
  | zero => intro i hi; omega
  | succ j ih =>
    have h1 := word_lt hx a (show j ≤ 4 by omega)
    have h2 : word x a j = x (a + j) * 2 ^ (8 * j) := xor_eq_zero.1 h
    have h3 : x (a + j) = 0 := by
      rcases Nat.eq_zero_or_pos (x (a + j)) with g | g
      · exact g
      · have := Nat.mul_le_mul_right (2 ^ (8 * j)) g; omega
    have h4 : word x a j = 0 := by rw [h2, h3]; omega
    intro i hi
    by_cases e : i = j
    · subst e; exact h3
    · exact ih (by omega) h4 i (by omega)
/-- up to four changed bytes are seen -/
theorem crc_burst {f g : Nat → Nat} (hf : ∀ i, f i < 256) (hg : ∀ i, g i < 256) {a j n i : Nat} (hj : j ≤ 4) (ha : a + j ≤ n) (h1 : ∀ i, i < a → f i = g i) (h2 : ∀ i, a + j ≤ i → i < n → f i = g i) (hi : i < j) (hne : f (a + i) ≠ g (a + i)) : crcS f n ≠ crcS g n := by
  have hx : ∀ i, f i ^^^ g i < 256 := fun i => xor_lt8 (hf i) (hg i)
  have e := reg_word (reg_same h1) j
  have hw : word (fun i => f i ^^^ g i) a j ≠ 0 := fun z => hne (xor_eq_zero.1 (word_zero hx hj z i hi))
  have hb : word (fun i => f i ^^^ g i) a j < 4294967296 := by
    have := word_lt hx a hj
    have h4 : 2 ^ (8 * j) ≤ 2 ^ 32 := Nat.pow_le_pow_right (by omega) (by omega)
    omega
  have hne2 : reg f (a + j) ≠ reg g (a + j) := fun z => by
    rw [xor_eq_zero.2 z] at e
    exact clks_ne hb hw _ e.symm
  intro z
  unfold crcS at z
  have z2 := congrArg (4294967295 ^^^ ·) z
  simp only [← Nat.xor_assoc, Nat.xor_self, Nat.zero_xor] at z2
  exact reg_keep hf hg ha h2 hne2 z2
theorem crc_same {f g : Nat → Nat} {n : Nat} (h : ∀ i, i < n → f i = g i) : crcS f n = crcS g n := by unfold crcS; rw [reg_same h]
theorem xor3 (a b c d e f : Nat) : (a ^^^ b ^^^ c) ^^^ (d ^^^ e ^^^ f) = (a ^^^ d) ^^^ (b ^^^ e) ^^^ (c ^^^ f) := by
  rw [xor_swap (a ^^^ b) c (d ^^^ e) f, xor_swap a b d e]
theorem reg_three (f g h : Nat → Nat) (n : Nat) : reg (fun i => f i ^^^ g i ^^^ h i) n = reg f n ^^^ reg g n ^^^ reg h n := by
  induction n with
  | zero => show (4294967295 : Nat) = 4294967295 ^^^ 4294967295 ^^^ 4294967295; decide
  | succ n ih => rw [reg_succ, ih, xor3, clks_xor, clks_xor]; rfl
theorem crc_three (f g h : Nat → Nat) (n : Nat) : crcS (fun i => f i ^^^ g i ^^^ h i) n = crcS f n ^^^ crcS g n ^^^ crcS h n := by
  unfold crcS
  rw [reg_three, ← xor3, show (4294967295 : Nat) ^^^ 4294967295 ^^^ 4294967295 = 4294967295 by decide]

/-- the hash behind k bytes -/
def fnv (f : Nat → Nat) : Nat → Nat
  | 0 => 14695981039346656037
  | k + 1 => (fnv f k ^^^ f k) * 1099511628211 % 18446744073709551616
theorem fnv_succ (f : Nat → Nat) (k : Nat) : fnv f (k + 1) = (fnv f k ^^^ f k) * 1099511628211 % 18446744073709551616 := rfl
theorem fnv_lt (f : Nat → Nat) (k : Nat) : fnv f k < 18446744073709551616 := by
  cases k with
  | zero => show (14695981039346656037 : Nat) < 18446744073709551616; omega
  | succ k => rw [fnv_succ]; omega
theorem fnv_same {f g : Nat → Nat} {n : Nat} (h : ∀ i, i < n → f i = g i) : fnv f n = fnv g n := by
  induction n with
  | zero => rfl
  | succ n ih => rw [fnv_succ, fnv_succ, ih (fun i hi => h i (by omega)), h n (by omega)]
theorem mul_inj {a b : Nat} (ha : a < 18446744073709551616) (hb : b < 18446744073709551616) (h : a * 1099511628211 % 18446744073709551616 = b * 1099511628211 % 18446744073709551616) : a = b := by
  have inv : ∀ c : Nat, c < 18446744073709551616 → c * 1099511628211 % 18446744073709551616 * 14886173955864302971 % 18446744073709551616 = c := fun c hc => by
    rw [Nat.mul_mod (c * 1099511628211 % 18446744073709551616), Nat.mod_mod, ← Nat.mul_mod, Nat.mul_assoc, Nat.mul_mod c, show 1099511628211 * 14886173955864302971 % 18446744073709551616 = 1 by decide, Nat.mul_one, Nat.mod_mod, Nat.mod_eq_of_lt hc]
  rw [← inv a ha, h, inv b hb]
/-- another last byte gives another hash -/
theorem fnv_last {f g : Nat → Nat} (hf : ∀ i, f i < 256) (hg : ∀ i, g i < 256) {n : Nat} (h : ∀ i, i < n → f i = g i) (hne : f n ≠ g n) : fnv f (n + 1) ≠ fnv g (n + 1) := by
  intro z
  rw [fnv_succ, fnv_succ, fnv_same h] at z
  have z2 := mul_inj (xor_lt64 (fnv_lt g n) (by have := hf n; omega)) (xor_lt64 (fnv_lt g n) (by have := hg n; omega)) z
  have z3 := congrArg (fnv g n ^^^ ·) z2
  simp only [← Nat.xor_assoc, Nat.xor_self, Nat.zero_xor] at z3
  exact hne z3
end Cm
end Go.Proofs.Ytiffnnjegfghoaa
