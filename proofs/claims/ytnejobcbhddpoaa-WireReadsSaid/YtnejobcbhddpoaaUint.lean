/- The contracts of Uint and Int and of their references. -/
import Derived.Test.YtnejobcbhddpoaaMem
set_option linter.unusedVariables false
set_option linter.unusedSimpArgs false
namespace Go.Proofs.Ytnejobcbhddpoaa
open Go.ChangeShapes Go.WideShapes Go.ChangeAt Go.RowKit Wm

theorem or128 : ∀ c : Nat, c < 256 → bits .or .u8 (c : Int) 128 = ((128 + c % 128 : Nat) : Int) := by decide +kernel
theorem byte_more (n : Nat) : bits .or .u8 ((n : Int) % 256) 128 = ((UInt8.ofNat (128 + n % 128)).toNat : Int) := by
  have h := or128 (n % 256) (by omega)
  rw [show ((n : Int) % 256) = ((n % 256 : Nat) : Int) by omega, h, UInt8.toNat_ofNat']; omega
theorem byte_last {n : Nat} (h : n < 128) : (n : Int) % 256 = ((UInt8.ofNat n).toNat : Int) := by rw [UInt8.toNat_ofNat']; omega
set_option maxRecDepth 100000 in
set_option maxHeartbeats 800000 in
theorem Uint_c (n : Nat) (w : World) (hn : n < 18446744073709551616) : Calls Try.prog 12 #[.int .u64 n] w fun e w' => e = .returned (.string (bs (uv n))) ∧ Q w w' := by
  obtain ⟨i0, hi, hz0, hz1, hz2⟩ := info_parts infoB
  have HL := Lib.hid (uv_len hn)
  clear hn
  go_enter Try.func12, Try.ntmps12
  go_wp2_with fail
  go_loopw [0, 3] (fun x v wr => ∃ (m : Nat) (l : List UInt8), x = .int .u64 m ∧ Hid (l ++ uv m = uv n ∧ Own w.heap.size v l wr ∧ Below w.heap.size w wr)) (fun x _ _ => (intOf x).toNat)
  case atStart => exact ⟨n, [], rfl, rfl, own_nil _ _, Below.refl _ _⟩
  case round =>
    obtain ⟨m, l, rfl, HI⟩ := hrel
    obtain ⟨he, ow, bl⟩ := HI.out
    have HE := Lib.hid he
    have OW := Lib.hid ow
    have hown := ow
    unfold Own at hown
    have BL := Lib.hid bl
    have BS := Lib.hid bl.size
    have RM := Lib.hid (room_of (n := l.length) (by have := congrArg List.length he; rw [List.length_append] at this; have := HL.out; omega))
    clear he ow bl
    by_cases hlt : m < 128
    · have hlt2 : ¬ 128 ≤ (m : Int) := by omega
      have HB := Lib.hid (show (m : Int) = ((UInt8.ofNat m).toNat : Int) by rw [UInt8.toNat_ofNat']; omega)
      have HF := Lib.hid (show l ++ [UInt8.ofNat m] = uv n by rw [← HE.out, uv_lt hlt])
      go_wp2_with (first
        | (at_builtin; refine wpList_append_own _ rfl _ _ 68 rfl w.heap.size 5 i0 (.int .u8 0) 1 1 Try.underlying68 hi hz0 hz1 hz2 rfl (by decide) _ _ _ rfl (hown.alloc _) ⟨wr.heap.size, 0, none⟩ 1 1 [.int .u8 (m : Int)] rfl rfl (one_at _ _ _) (one_cell _ _) RM.out.1 RM.out.2 (alloc_le BS.out _) ?_)
        | go_in)
      intro v' w1 hown' hgrow _
      have N := Lib.hid (own_next (c := UInt8.ofNat m) OW.out BL.out BS.out (by unfold bv; rw [← HB.out]; exact hown') hgrow)
      have hconv := own_str N.out.1 (by simp)
      rw [HF.out] at hconv
      clear hown' hgrow hown
      go_wp2_with fail
      go_ret
      exact ⟨rfl, N.out.2⟩
    · have hlt2 : 128 ≤ (m : Int) := by omega
      have HB := Lib.hid (byte_more m)
      have HF := Lib.hid (show (l ++ [UInt8.ofNat (128 + m % 128)]) ++ uv (m / 128) = uv n by rw [← HE.out, uv_ge (n := m) (by omega), List.append_assoc]; rfl)
      go_wp2_with (first
        | (at_builtin; refine wpList_append_own _ rfl _ _ 68 rfl w.heap.size 5 i0 (.int .u8 0) 1 1 Try.underlying68 hi hz0 hz1 hz2 rfl (by decide) _ _ _ rfl (hown.alloc _) ⟨wr.heap.size, 0, none⟩ 1 1 [.int .u8 (bits .or .u8 ((m : Int) % 256) 128)] rfl rfl (one_at _ _ _) (one_cell _ _) RM.out.1 RM.out.2 (alloc_le BS.out _) ?_)
        | go_in)
      intro v' w1 hown' hgrow _
      have N := Lib.hid (own_next (c := UInt8.ofNat (128 + m % 128)) OW.out BL.out BS.out (by unfold bv; rw [← HB.out]; exact hown') hgrow)
      clear hown' hgrow hown
      go_wp2_with fail
      go_roundw
      case rel => exact ⟨m / 128, l ++ [UInt8.ofNat (128 + m % 128)], by go_num, HF.out, N.out⟩
      case measure => simp [intOf] <;> omega
/-- a byte as a string -/
theorem one_str (W : World) (z : Int) (c : UInt8) (h : z = (c.toNat : Int)) : (convert 68 9 (.slice (some ⟨W.heap.size, 0, none⟩) 1 1)).run Try.prog (W.alloc (.cells #[.int .u8 z] 5)) = .ok (.string (bs [c])) (W.alloc (.cells #[.int .u8 z] 5)) := by
  subst h
  exact run_convert_bytes_back _ 68 9 5 ⟨W.heap.size, 0, none⟩ 1 [c] Try.underlying68 Try.underlying5 Try.underlying9 (fun j hj => by
    have : j = 0 := by simpa using hj
    subst this
    exact World.cell?_alloc_at _ _ _ _ rfl)
theorem at_str (b : Nat) (W : World) (z : Int) (c : UInt8) (h : z = (c.toNat : Int)) (hc : W.cell? ⟨b, 0, none⟩ = some (.int .u8 z)) : (convert 68 9 (.slice (some ⟨b, 0, none⟩) 1 1)).run Try.prog W = .ok (.string (bs [c])) W := by
  subst h
  exact run_convert_bytes_back _ 68 9 5 ⟨b, 0, none⟩ 1 [c] Try.underlying68 Try.underlying5 Try.underlying9 (fun j hj => by
    have : j = 0 := by simpa using hj
    subst this
    exact hc)
theorem at_new {w w1 : World} {z : Int} {t : TypeId} (h : Q (w.alloc (.cells #[.int .u8 z] t)) w1) : w1.cell? ⟨w.heap.size, 0, none⟩ = some (.int .u8 z) :=
  (h.cell (p := ⟨w.heap.size, 0, none⟩) (by show w.heap.size < (w.heap.push _).size; simp)).trans (World.cell?_alloc_at _ _ _ _ rfl)
theorem at_new2 {w w1 : World} {z : Int} {t : TypeId} (h : Q (w.alloc (.cells #[.int .u8 z] t)).drew w1) : w1.cell? ⟨w.heap.size, 0, none⟩ = some (.int .u8 z) :=
  (h.cell (p := ⟨w.heap.size, 0, none⟩) (by show w.heap.size < (w.heap.push _).size; simp)).trans ((World.cell?_drew _ _).trans (World.cell?_alloc_at _ _ _ _ rfl))
theorem bs_app (a b : List UInt8) : bs a ++ bs b = bs (a ++ b) := by
  apply ByteArray.ext; simp [bs]
set_option maxRecDepth 100000 in
set_option maxHeartbeats 800000 in
theorem rUint_c (k : Nat) : ∀ (n : Nat) (w : World), n < 128 ^ (k + 1) → n < 18446744073709551616 → Calls Try.prog 13 #[.int .u64 n] w fun e w' => e = .returned (.string (bs (uv n))) ∧ Q w w' := by
  induction k with
  | zero =>
    intro n w h hn
    have h1 : n < 128 := by simpa using h
    have h2 : (n : Int) < 128 := by omega
    have hc := fun W => one_str W (n : Int) (UInt8.ofNat n) (by rw [UInt8.toNat_ofNat']; omega)
    have HU := Lib.hid (uv_lt h1)
    clear h hn
    go_enter Try.func13, Try.ntmps13
    go_wp2_with fail
    go_ret
    exact ⟨ret_str (by rw [HU.out]), (Q.refl w).alloc _⟩
  | succ k ih =>
    intro n w h hn
    by_cases h1 : n < 128
    · have h2 : (n : Int) < 128 := by omega
      have hc := fun W => one_str W (n : Int) (UInt8.ofNat n) (by rw [UInt8.toNat_ofNat']; omega)
      have HU := Lib.hid (uv_lt h1)
      clear h hn
      go_enter Try.func13, Try.ntmps13
      go_wp2_with fail
      go_ret
      exact ⟨ret_str (by rw [HU.out]), (Q.refl w).alloc _⟩
    · have h2 : ¬ (n : Int) < 128 := by omega
      obtain ⟨y, hy⟩ : ∃ y, n / 128 = y := ⟨_, rfl⟩
      obtain ⟨x, hx⟩ : ∃ x, n % 128 = x := ⟨_, rfl⟩
      have t1 : (n : Int).tmod 128 = (x : Int) := by rw [Int.tmod_eq_emod_of_nonneg (by omega)]; omega
      have t2 : IntKind.u64.wrap (128 + (x : Int)) = 128 + (x : Int) := by rw [wrap_u64]; omega
      have t3 : IntKind.u8.wrap (128 + (x : Int)) = 128 + (x : Int) := by rw [wrap_u8]; omega
      have t4 : IntKind.u64.wrap ((n : Int) / 128) = (y : Int) := by rw [wrap_u64]; omega
      have hc := fun b W h => at_str b W (128 + (x : Int)) (UInt8.ofNat (128 + x)) (by rw [UInt8.toNat_ofNat']; omega) h
      have HU := Lib.hid (show bs [UInt8.ofNat (128 + x)] ++ bs (uv y) = bs (uv n) by rw [bs_app, uv_ge (n := n) (by omega), hx, hy]; rfl)
      have HI := Lib.hid (fun w => ih y w (by rw [Nat.pow_succ] at h; rw [← hy]; exact Nat.div_lt_of_lt_mul (by rw [Nat.mul_comm]; exact h)) (by omega))
      have hl : (bs (uv y)).size ≤ 10 := by rw [size_bs]; exact uv_len (by omega)
      have hl2 : (bs [UInt8.ofNat (128 + x)]).size ≤ 1 := by simp [size_bs]
      obtain ⟨S2, hS2⟩ : ∃ S, bs (uv y) = S := ⟨_, rfl⟩
      obtain ⟨S1, hS1⟩ : ∃ S, bs [UInt8.ofNat (128 + x)] = S := ⟨_, rfl⟩
      rw [hS1, hS2] at HU
      rw [hS2] at HI hl
      simp only [hS1] at hc
      rw [hS1] at hl2
      have hm : ¬ (9223372036854775807 : Int) < (S1.size : Int) + (S2.size : Int) := by omega
      clear h hn ih hy hx hS1 hS2
      go_enter Try.func13, Try.ntmps13
      go_wp2_with fail
      go_region_with (go_at_call 13; refine (HI.out _).mono ?_; rintro e w1 ⟨rfl, hq1⟩; first | (have hz : w1.cell? ⟨w.heap.size, 0, none⟩ = some (.int .u8 (128 + (x : Int))) := at_new hq1) | (have hz : w1.cell? ⟨w.heap.size, 0, none⟩ = some (.int .u8 (128 + (x : Int))) := at_new2 hq1) | skip)
      all_goals go_wp2_with fail
      all_goals go_ret
      all_goals first
        | exact ⟨ret_str HU.out, (((Q.refl w).alloc _).drew).trans hq1⟩
        | exact ⟨ret_str HU.out, ((Q.refl w).drew.trans hq1).alloc _⟩
theorem rUint_is (n : Nat) (w : World) (hn : n < 18446744073709551616) : Calls Try.prog 13 #[.int .u64 n] w fun e w' => e = .returned (.string (bs (uv n))) ∧ Q w w' :=
  rUint_c 9 n w (by have e : (128 : Nat) ^ (9 + 1) = 1180591620717411303424 := by decide
                    rw [e]; omega) hn
theorem zz_neg {n : Int} (h : n < 0) : ((zz n : Nat) : Int) = 2 * (-n - 1) + 1 := by unfold zz; rw [if_neg (by omega)]; omega
theorem zz_nonneg {n : Int} (h : 0 ≤ n) : ((zz n : Nat) : Int) = 2 * n := by unfold zz; rw [if_pos h]; omega
set_option maxHeartbeats 800000 in
theorem xor_all (n : Int) (h : Fit n) : bits .xor .i64 (-1) n = -n - 1 := by
  obtain ⟨h1, h2⟩ := h
  show IntKind.i64.wrap ((BitVec.ofInt 64 (-1) ^^^ BitVec.ofInt 64 n).toNat : Int) = _
  rw [show (BitVec.ofInt 64 (-1) : BitVec 64) = BitVec.allOnes 64 by decide, BitVec.allOnes_xor, BitVec.toNat_not, BitVec.toNat_ofInt]
  simp [IntKind.wrap, IntKind.bits, IntKind.signed]
  omega
theorem Int_c (n : Int) (w : World) (hn : Fit n) : Calls Try.prog 14 #[.int .i64 n] w fun e w' => e = .returned (.string (bs (uv (zz n)))) ∧ Q w w' := by
  have hx := xor_all n hn
  obtain ⟨h1, h2⟩ := hn
  have HZ := Lib.hid (zz_lt h1 h2)
  obtain ⟨z, hz⟩ : ∃ z, zz n = z := ⟨_, rfl⟩
  rw [hz] at HZ
  by_cases h0 : n < 0
  · have hz2 := zz_neg h0
    rw [hz] at hz2
    rw [hz]
    have e1 : IntKind.u64.wrap (IntKind.u64.wrap (2 * IntKind.u64.wrap (-n - 1)) + 1) = (z : Int) := by rw [wrap_u64, wrap_u64, wrap_u64]; omega
    clear hz hz2
    go_enter Try.func14, Try.ntmps14
    go_wp2_with fail
    refine (Uint_c z _ HZ.out).mono ?_; rintro e w1 ⟨rfl, hq1⟩
    go_wp2_with fail
    go_ret
    exact ⟨rfl, hq1⟩
  · have hz2 := zz_nonneg (n := n) (by omega)
    rw [hz] at hz2
    rw [hz]
    have e1 : 2 * n = (z : Int) := hz2.symm
    clear hz hz2
    go_enter Try.func14, Try.ntmps14
    go_wp2_with fail
    refine (Uint_c z _ HZ.out).mono ?_; rintro e w1 ⟨rfl, hq1⟩
    go_wp2_with fail
    go_ret
    exact ⟨rfl, hq1⟩
set_option maxHeartbeats 800000 in
theorem Zig_c (n : Int) (w : World) (hn : Fit n) : Calls Try.prog 41 #[.int .i64 n] w fun e w' => e = .returned (.int .u64 (zz n : Nat)) ∧ w = w' := by
  obtain ⟨h1, h2⟩ := hn
  by_cases h0 : 0 ≤ n
  · have HE := Lib.hid (zz_nonneg h0)
    go_enter Try.func41, Try.ntmps41
    go_wp2_with fail
    go_ret
    exact ⟨ret_int (by rw [HE.out]), rfl⟩
  · have HE := Lib.hid (zz_neg (n := n) (by omega))
    go_enter Try.func41, Try.ntmps41
    go_wp2_with fail
    go_ret
    exact ⟨ret_int (by rw [HE.out]; omega), rfl⟩
theorem rInt_c (n : Int) (w : World) (hn : Fit n) : Calls Try.prog 15 #[.int .i64 n] w fun e w' => e = .returned (.string (bs (uv (zz n)))) ∧ Q w w' := by
  have HZ := Lib.hid (zz_lt hn.1 hn.2)
  have HN := Lib.hid hn
  clear hn
  go_enter Try.func15, Try.ntmps15
  go_wp2_with fail
  refine (Zig_c n _ HN.out).mono ?_; rintro e w1 ⟨rfl, rfl⟩
  go_wp2_with fail
  refine (rUint_is _ _ HZ.out).mono ?_; rintro e w1 ⟨rfl, hq1⟩
  go_wp2_with fail
  go_ret
  exact ⟨rfl, hq1⟩
/-- the encoding of a string -/
def txS (s : ByteArray) : ByteArray := bs (uv s.size) ++ s
theorem Text_c (s : ByteArray) (w : World) (hs : s.size ≤ 1000000) : Calls Try.prog 17 #[.string s] w fun e w' => e = .returned (.string (txS s)) ∧ Q w w' := by
  have hl : (bs (uv s.size)).size ≤ 10 := by rw [size_bs]; exact uv_len (by omega)
  have HX := Lib.hid (show bs (uv s.size) ++ s = txS s from rfl)
  obtain ⟨S1, hS1⟩ : ∃ S, bs (uv s.size) = S := ⟨_, rfl⟩
  have HC := Lib.hid (fun w => Uint_c s.size w (by omega))
  rw [hS1] at HX hl HC
  clear hS1
  go_enter Try.func17, Try.ntmps17
  go_wp2_with fail
  refine (HC.out _).mono ?_; rintro e w1 ⟨rfl, hq1⟩
  go_wp2_with fail
  go_ret
  exact ⟨ret_str HX.out, hq1⟩
theorem rText_c (s : ByteArray) (w : World) (hs : s.size ≤ 1000000) : Calls Try.prog 18 #[.string s] w fun e w' => e = .returned (.string (txS s)) ∧ Q w w' := by
  have hl : (bs (uv s.size)).size ≤ 10 := by rw [size_bs]; exact uv_len (by omega)
  have HX := Lib.hid (show bs (uv s.size) ++ s = txS s from rfl)
  obtain ⟨S1, hS1⟩ : ∃ S, bs (uv s.size) = S := ⟨_, rfl⟩
  have HC := Lib.hid (fun w => rUint_is s.size w (by omega))
  rw [hS1] at HX hl HC
  clear hS1
  go_enter Try.func18, Try.ntmps18
  go_wp2_with fail
  refine (HC.out _).mono ?_; rintro e w1 ⟨rfl, hq1⟩
  go_wp2_with fail
  go_ret
  exact ⟨ret_str HX.out, hq1⟩
end Go.Proofs.Ytnejobcbhddpoaa
