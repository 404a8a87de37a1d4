/- Hexadecimal digits, and rows of bytes of the call's own: plain facts and small contracts. -/
import Derived.Test.YtiffnnjegfghoaaWalkA
import Derived.OwnWalk
import Derived.LoopTactic
import Derived.Laws.AppendOwn
import Derived.Laws.OwnMore
import Derived.Laws.IdiomStrings
import Derived.Deep.QuietTactic
import Derived.BigQuiet
import Derived.Handy
set_option linter.unusedVariables false
set_option linter.unusedSimpArgs false
namespace Go.Proofs.Ytiffnnjegfghoaa
open Go.ChangeShapes Go.WideShapes Go.ChangeAt Go.RowKit Cm

/-- what stood in memory stands as it was -/
def Q (w w' : World) : Prop := Below w.heap.size w w'
theorem Q.refl (w : World) : Q w w := Below.refl _ _
theorem Q.trans {a b c : World} (h : Q a b) (k : Q b c) : Q a c := Below.trans h (Below.mono k h.size)
theorem Q.drew {a b : World} (h : Q a b) : Q a b.drew := Below.drew h
theorem Q.drewN {a b : World} (h : Q a b) (n : Nat) : Q a (b.drewN n) := ⟨h.os, h.tape, h.output, h.size, h.block⟩
theorem Q.alloc {a b : World} (h : Q a b) (o : Obj) : Q a (b.alloc o) := Below.alloc h h.size o
theorem Q.of {a b : World} (h : Below a.heap.size a b) : Q a b := h

def bs (l : List UInt8) : ByteArray := ⟨l.toArray⟩
theorem size_bs (l : List UInt8) : (bs l).size = l.length := by simp [bs, ByteArray.size]
theorem bt_bs (l : List UInt8) (i : Nat) : bt (bs l) i = (l.getD i 0).toNat := by simp [bt, bs]
/-- a digit -/
def hx (d : Nat) : UInt8 := if d < 10 then UInt8.ofNat (48 + d) else UInt8.ofNat (87 + d)
def hexAt (n c j : Nat) : UInt8 := hx (n / 16 ^ (c - 1 - j) % 16)
def hexL (n c : Nat) : List UInt8 := (List.range c).map (hexAt n c)
theorem hexL_len (n c : Nat) : (hexL n c).length = c := by simp [hexL]
theorem hexL_at (n c j : Nat) (h : j < c) : (hexL n c)[j]? = some (hexAt n c j) := by simp [hexL, h]
def allB : ByteArray := ⟨#[48, 49, 50, 51, 52, 53, 54, 55, 56, 57, 97, 98, 99, 100, 101, 102]⟩
theorem all_at (d : Nat) (h : d < allB.size) : allB[d] = hx d := by
  have h2 : d < 16 := h
  rcases (show d = 0 ∨ d = 1 ∨ d = 2 ∨ d = 3 ∨ d = 4 ∨ d = 5 ∨ d = 6 ∨ d = 7 ∨ d = 8 ∨ d = 9 ∨ d = 10 ∨ d = 11 ∨ d = 12 ∨ d = 13 ∨ d = 14 ∨ d = 15 by omega) with rfl | rfl | rfl | rfl | rfl | rfl | rfl | rfl | rfl | rfl | rfl | rfl | rfl | rfl | rfl | rfl <;> rfl

def bv (c : UInt8) : Value := .int .u8 (c.toNat : Int)
theorem infoB : (Try.prog.info? 5).map (fun i => (i.zero, i.size, i.bytes)) = some (some (.int .u8 0), 1, 1) := by kernel_rfl
/-- bytes at the head of block b -/
def Byt (W : World) (b n : Nat) (f : Nat → UInt8) : Prop := ∀ j, j < n → W.cell? ⟨b, j, none⟩ = some (bv (f j)) ∧ W.frozen? ⟨b, j, none⟩ = false
theorem byt_set {W : World} {b n : Nat} {f : Nat → UInt8} {i : Nat} (hB : Byt W b n f) (hi : i < n) (y : UInt8) : Byt (W.setCell ⟨b, i, none⟩ (bv y)) b n (fun j => if j = i then y else f j) := by
  intro j hj
  refine ⟨?_, by rw [World.frozen?_setCell]; exact (hB j hj).2⟩
  by_cases h : j = i
  · subst h
    simp only [if_true]
    exact World.cell?_setCell_same _ _ _ (hB j hj).1
  · simp only [h, if_false]
    exact (World.cell?_setCell_other W ⟨b, i, none⟩ ⟨b, j, none⟩ (bv y) (by intro g; injection g with g1 g2; omega)).trans (hB j hj).1
theorem byt_str {W : World} {b : Nat} {f : Nat → UInt8} {l : List UInt8} (hB : Byt W b l.length f) (hf : ∀ j, j < l.length → l[j]? = some (f j)) (cap : Nat) :
    (convert 37 9 (.slice (some ⟨b, 0, none⟩) l.length cap)).run Try.prog W = .ok (.string (bs l)) W :=
  run_convert_bytes_back W 37 9 5 ⟨b, 0, none⟩ cap l Try.underlying37 Try.underlying5 Try.underlying9 (fun j hj => by
    rw [show (⟨b, 0, none⟩ : Addr).add j = ⟨b, j, none⟩ by unfold Addr.add; split <;> simp_all, (hB j hj).1]
    have := hf j hj
    rw [List.getElem?_eq_getElem hj] at this
    rw [Option.some.inj this]; rfl)
/-- a made row of bytes -/
theorem make_is (W : World) (n : Nat) (h : n ≤ 100) : ∃ W2, (Instr.makeSlice 37 (.int .i64 (n : Int)) (.int .i64 (n : Int))).run Try.prog W = .ok (.slice (some ⟨W.heap.size, 0, none⟩) n n) W2 ∧ Byt W2 W.heap.size n (fun _ => 0) ∧ Q W W2 ∧ W.heap.size < W2.heap.size := by
  obtain ⟨i0, hi, hz0, hz1, hz2⟩ := info_parts infoB
  obtain ⟨W2, h1, h2, h3⟩ := run_make_full W W.heap.size 37 5 i0 (.int .u8 0) 1 Try.underlying37 hi hz0 hz1 .i64 .i64 n (by rw [hz2]; omega) (by unfold maxLen; omega) (Nat.le_refl _)
  refine ⟨W2, h1, fun j hj => ⟨?_, h2.frozenAt j⟩, (Below.refl _ _).grown h3 (Nat.le_refl _) (fun k hk => by cases hk), ?_⟩
  · rw [h2.cellAt j (by omega), Nat.mul_one, show (Value.int .u8 0).cells = #[.int .u8 0] from rfl, toList_madeCells_one, List.getElem?_replicate, if_pos hj]; rfl
  · exact (h2.lt _ rfl).2
/-- the digits behind m rounds of lastDigits -/
def fromEnd (n c m : Nat) (j : Nat) : UInt8 := if j + m < c then 0 else hexAt n c j

set_option maxHeartbeats 400000 in
theorem last_c (n c : Nat) (w : World) (hn : n < 18446744073709551616) (hc : c ≤ 16) :
    Calls Try.prog 30 #[.int .u64 n, .int .i64 c] w fun e w' => e = .returned (.string (bs (hexL n c))) ∧ Q w w' := by
  obtain ⟨W2, hmk, hB, hq, hsz⟩ := make_is w c (by omega)
  have HN := Lib.hid hn
  have HB := Lib.hid hB
  have HQ := Lib.hid hq
  clear hn hB hq
  have hc' : (c : Int) ≤ 16 := by omega
  go_enter Try.func30, Try.ntmps30
  go_wp2_with fail
  go_loopw [0, 6] (fun v i wr => ∃ m : Nat, m ≤ c ∧ v = .int .u64 ((n / 16 ^ m : Nat) : Int) ∧ i = .int .i64 ((c : Int) - 1 - m) ∧ Hid (Byt wr w.heap.size c (fromEnd n c m) ∧ Q w wr)) (fun _ i _ => (intOf i + 1).toNat)
  case atStart => exact ⟨0, by omega, by simp, by simp, ⟨fun j hj => by
    have := HB.out j hj
    unfold fromEnd; rw [if_pos (by omega)]; exact this, HQ.out⟩⟩
  case round =>
    obtain ⟨m, hm, rfl, rfl, HI⟩ := hrel
    obtain ⟨x, hx0⟩ : ∃ x, n / 16 ^ m = x := ⟨_, rfl⟩
    have HX := Lib.hid hx0
    have hxb : x < 18446744073709551616 := by rw [← hx0]; exact Nat.lt_of_le_of_lt (Nat.div_le_self _ _) HN.out
    rw [hx0]
    have HXB := Lib.hid hxb
    clear hx0 hxb
    by_cases hlt : m < c
    · obtain ⟨i, hi⟩ : ∃ i : Nat, (c : Int) - 1 - m = i := ⟨c - 1 - m, by omega⟩
      rw [hi]
      have hic : i < c := by omega
      obtain ⟨hcell, hfr⟩ := HI.out.1 i hic
      have HS := Lib.hid (show Byt (wr.setCell ⟨w.heap.size, i, none⟩ (bv (hx (x % 16)))) w.heap.size c (fromEnd n c (m + 1)) ∧ Q w (wr.setCell ⟨w.heap.size, i, none⟩ (bv (hx (x % 16)))) from
        ⟨fun j hj => by
          have h1 := byt_set HI.out.1 hic (hx (x % 16)) j hj
          refine ⟨h1.1.trans (congrArg (fun z => some (bv z)) ?_), h1.2⟩
          show (if j = i then hx (x % 16) else fromEnd n c m j) = fromEnd n c (m + 1) j
          unfold fromEnd
          by_cases g : j = i
          · subst g
            rw [if_pos rfl, if_neg (by omega)]
            unfold hexAt
            rw [show c - 1 - j = m by omega, HX.out]
          · rw [if_neg g]
            by_cases g2 : j + m < c
            · rw [if_pos g2, if_pos (by omega)]
            · rw [if_neg g2, if_neg (by omega)], Below.setCell HI.out.2 (Nat.le_refl _) _⟩)
      have HD := Lib.hid (show x / 16 = n / 16 ^ (m + 1) by rw [← HX.out, Nat.pow_succ, Nat.div_div_eq_div_mul])
      have hx16 : x % 16 < allB.size := Nat.mod_lt _ (by omega)
      have HA := Lib.hid (all_at (x % 16) hx16)
      go_wp2_with fail
      go_roundw
      case rel => exact ⟨m + 1, by omega, by rw [← HD.out, wrap_u64]; have := HXB.out; congr 1; omega, by congr 1; omega, by have h := HS.out; rw [← HA.out] at h; exact h⟩
      case measure => simp [intOf] <;> omega
    · obtain rfl : m = c := by omega
      rw [show (m : Int) - 1 - m = -1 by omega]
      have hconv := byt_str (l := hexL n m) (W := wr) (b := w.heap.size) (f := fromEnd n m m) (by rw [hexL_len]; exact HI.out.1) (fun j hj => by rw [hexL_len] at hj; rw [hexL_at n m j hj]; unfold fromEnd; rw [if_neg (by omega)]) m
      rw [hexL_len] at hconv
      go_wp2_with fail
      go_ret
      exact ⟨rfl, HI.out.2⟩
end Go.Proofs.Ytiffnnjegfghoaa
