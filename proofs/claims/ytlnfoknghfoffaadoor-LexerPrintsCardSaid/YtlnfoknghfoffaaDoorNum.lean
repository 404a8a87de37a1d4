/- The contracts of number and of the reference's number; what a row's list gives (Laid). -/
import Derived.Test.YtlnfoknghfoffaaDoorMark
import Derived.Test.YtlnfoknghfoffaaDoorNumM
import Derived.Test.YtlnfoknghfoffaaDoorShelf
import Derived.Lib.LaidTab
import Derived.LaidMore
import Derived.Lib.SmallJoins
set_option linter.unusedVariables false
set_option linter.unusedSimpArgs false
namespace Go.Proofs.YtlnfoknghfoffaaDoor
open Go.ChangeShapes Go.WideShapes Go.ChangeAt Go.RowKit Lm

/-- what a row's list of variables gives: the error's variable holds an error -/
def Laid (w : World) : Prop := ∃ tp p, w.var? Tryd.prog "strconv.ErrRange" = some #[.iface tp p]
theorem gRng : Tryd.prog.globalNamed "strconv.ErrRange" = some 2 := by kernel_rfl
theorem Laid.stays {w w' : World} (h : Laid w) (hq : Q w w') : Laid w' := by
  obtain ⟨a, b, r⟩ := h
  exact ⟨a, b, Joins.var_stays gRng r hq (Nat.le_refl _)⟩
theorem Laid.cell {w : World} (h : Laid w) : ∃ tp p, w.cell? ⟨2, 0, none⟩ = some (.iface tp p) := by
  obtain ⟨a, b, r⟩ := h
  exact ⟨a, b, World.var?_cell gRng r 0⟩
theorem atoi_ok (t : ByteArray) (hs : t.size ≤ 1000000) {v : Int} (h : Lib.atoiAll t.data.toList = .ok v) (w : World) : Calls Tryd.prog 41 #[.string t] w fun E w' => E = .returned (.tuple #[.int .i64 v, .nilIface]) ∧ Q w w' :=
  (Tryd.strconv_Atoi_ok t (by omega) v h w).mono fun E w' ⟨a, b⟩ => ⟨a, by
    rcases b with rfl | ⟨t', rfl⟩
    · exact Q.refl _
    · exact Joins.below_bytesWorld _ _ _ _ (Nat.le_refl _)⟩
def ARange (w : World) (E : Ending) (w' : World) : Prop := ∃ (x : Int) (ty : TypeId) (p : Value), E = .returned (.tuple #[.int .i64 x, .iface ty p]) ∧ Q w w'
theorem atoi_rng (t : ByteArray) (hs : t.size ≤ 1000000) (h : Lib.atoiAll t.data.toList = .range) (w : World) (hL : Laid w) : Calls Tryd.prog 41 #[.string t] w (ARange w) := by
  obtain ⟨tp, p, hc⟩ := hL.cell
  exact (Tryd.strconv_Atoi_range t (by omega) h _ w hc (.inr ⟨_, _, rfl⟩)).mono fun E w' ⟨N, a, _, _, b⟩ => ⟨_, _, _, a, b⟩
theorem blk4 {w : World} {b : Nat} {c0 c1 c2 c3 : Value} {T : TypeId} (h : w.heap[b]? = some (.cells #[c0, c1, c2, c3] T (0, 0))) : w.cell? ⟨b, 0, none⟩ = some c0 ∧ w.cell? ⟨b, 1, none⟩ = some c1 ∧ w.cell? ⟨b, 2, none⟩ = some c2 ∧ w.cell? ⟨b, 3, none⟩ = some c3 ∧ ∀ i, w.frozen? ⟨b, i, none⟩ = false := by
  refine ⟨?_, ?_, ?_, ?_, fun i => ?_⟩ <;> simp [World.cell?, World.frozen?, h]
theorem lt_blk {w : World} {b : Nat} {o : Obj} (h : w.heap[b]? = some o) : b < w.heap.size := (Array.getElem?_eq_some_iff.1 h).1
theorem new_blk (w : World) (c : Array Value) (T : TypeId) : (w.alloc (.cells c T)).heap[w.heap.size]? = some (.cells c T (0, 0)) := by
  show (w.heap.push _)[_]? = _
  simp
def nuR (t : ByteArray) : Value := if numE t = 0 then .tuple #[lxv 2 t (numV t) 0, .int .i64 0] else .tuple #[lxv 0 ⟨#[]⟩ 0 0, .int .i64 (numE t)]
set_option maxRecDepth 100000 in
set_option maxHeartbeats 1600000 in
theorem number_c (t : ByteArray) (w : World) (hL : Laid w) (hs : t.size ≤ 1000000) (h0 : 0 < t.size) (hd : digs t.data.toList) : Calls Tryd.prog 32 #[.string t] w fun E w' => E = .returned (nuR t) ∧ Q w w' := by
  have hne : t.data.toList ≠ [] := fun h => by
    have e1 : t.data.toList.length = 0 := by rw [h]; rfl
    have e2 : t.data.toList.length = t.size := by simp
    omega
  have HA := Lib.hid (atoi_dv _ hd hne)
  have hb := bt_eq t 0 h0
  have HB := Lib.hid (new_blk w #[.int .i64 0, .string ⟨#[]⟩, .int .i64 0, .int .i64 0] 32)
  have HQ := Lib.hid ((Q.refl w).alloc (.cells #[.int .i64 0, .string ⟨#[]⟩, .int .i64 0, .int .i64 0] 32))
  have LA := Lib.hid (hL.stays HQ.out)
  clear hd hne
  obtain ⟨z, hz⟩ : ∃ z : Int, (bt t 0 : Int) = z := ⟨_, rfl⟩
  rw [hz] at hb
  by_cases h1 : 1 < t.size ∧ bt t 0 = 48
  · have HE := Lib.hid (show Value.tuple #[lxv 0 ⟨#[]⟩ 0 0, .int .i64 5] = nuR t by unfold nuR numE; rw [if_pos h1, if_neg (by decide)]; rfl)
    have i1 : 1 < (t.size : Int) := by omega
    obtain rfl : z = 48 := by omega
    go_enter Tryd.func32, Tryd.ntmps32
    go_wp2_with fail
    refine bodyPost_ret (v := .tuple #[.agg #[.int .i64 0, .string ⟨#[]⟩, .int .i64 0, .int .i64 0], .int .i64 5]) (by simp [results, Tryd.results32, go_sem]) rfl ⟨by rw [← HE.out]; rfl, ?_⟩
    repeat (first | exact Q.refl _ | refine Q.alloc ?_ _ | refine Q.setA ?_ (by simp; try omega) _)
  · have i1 : ¬ 1 < (t.size : Int) ∨ (1 < (t.size : Int) ∧ (z == 48) = false) := by
      by_cases g : 1 < t.size
      · right; refine ⟨by omega, ?_⟩; simp; omega
      · left; omega
    by_cases h2 : dv 0 t.data.toList ≤ 1099511627776
    · have HO := Lib.hid (show Lib.atoiAll t.data.toList = .ok (dv 0 t.data.toList : Nat) by
        rcases HA.out with h | ⟨_, h⟩
        · exact h
        · omega)
      have HE := Lib.hid (show Value.tuple #[lxv 2 t (dv 0 t.data.toList : Nat) 0, .int .i64 0] = nuR t by
        have e : numE t = 0 := by unfold numE; rw [if_neg h1, if_neg (by omega)]
        unfold nuR numV; rw [if_pos e, if_pos e])
      have HC := Lib.hid (atoi_ok t hs HO.out)
      obtain ⟨V, hV⟩ : ∃ V, dv 0 t.data.toList = V := ⟨_, rfl⟩
      rw [hV] at HC HE h2
      have i3 : ¬ 1099511627776 < (V : Int) := by omega
      clear hV HO HA h2 hL hs
      rcases i1 with i1 | ⟨i1, i2⟩
      all_goals
        go_enter Tryd.func32, Tryd.ntmps32
        go_wp2_with fail
        refine (HC.out _).mono ?_; rintro E w1 ⟨rfl, hq1⟩
        have hb1 := (hq1.block _ (lt_blk HB.out)).trans HB.out
        have Q1 := Lib.hid (HQ.out.trans hq1)
        clear hq1
        obtain ⟨x0, x1, x2, x3, xf⟩ := blk4 hb1
        clear hb1
        go_wp2_with fail
        refine bodyPost_ret (v := .tuple #[.agg #[.int .i64 2, .string t, .int .i64 V, .int .i64 0], .int .i64 0]) (by simp [results, Tryd.results32, go_sem, x0, x1, x2, x3]) rfl ⟨by rw [← HE.out]; rfl, ?_⟩
        repeat (first | with_reducible exact Q1.out | refine Q.setA ?_ (by omega) _)
    · have HE := Lib.hid (show Value.tuple #[lxv 0 ⟨#[]⟩ 0 0, .int .i64 9] = nuR t by
        have e : numE t = 9 := by unfold numE; rw [if_neg h1, if_pos (by omega)]
        unfold nuR; rw [if_neg (by omega), e]; rfl)
      rcases HA.out with HO | ⟨HO, _⟩
      · have HC := Lib.hid (atoi_ok t hs HO)
        obtain ⟨V, hV⟩ : ∃ V, dv 0 t.data.toList = V := ⟨_, rfl⟩
        rw [hV] at HC h2
        have i3 : 1099511627776 < (V : Int) := by omega
        clear hV HO HA h2 hL hs
        rcases i1 with i1 | ⟨i1, i2⟩
        all_goals
          go_enter Tryd.func32, Tryd.ntmps32
          go_wp2_with fail
          refine (HC.out _).mono ?_; rintro E w1 ⟨rfl, hq1⟩
          have hb1 := (hq1.block _ (lt_blk HB.out)).trans HB.out
          have Q1 := Lib.hid (HQ.out.trans hq1)
          clear hq1
          obtain ⟨x0, x1, x2, x3, xf⟩ := blk4 hb1
          clear hb1
          go_wp2_with fail
          refine bodyPost_ret (v := .tuple #[.agg #[.int .i64 0, .string ⟨#[]⟩, .int .i64 0, .int .i64 0], .int .i64 9]) (by simp [results, Tryd.results32, go_sem, x0, x1, x2, x3]) rfl ⟨by rw [← HE.out]; rfl, ?_⟩
          repeat (first | with_reducible exact Q1.out | refine Q.setA ?_ (by omega) _)
      · have HC := Lib.hid (atoi_rng t hs HO)
        clear HO HA h2 hL hs
        rcases i1 with i1 | ⟨i1, i2⟩
        all_goals
          go_enter Tryd.func32, Tryd.ntmps32
          go_wp2_with fail
          refine (HC.out _ LA.out).mono ?_; rintro E w1 ⟨x, ty, pp, rfl, hq1⟩
          have hb1 := (hq1.block _ (lt_blk HB.out)).trans HB.out
          have Q1 := Lib.hid (HQ.out.trans hq1)
          clear hq1
          obtain ⟨x0, x1, x2, x3, xf⟩ := blk4 hb1
          clear hb1
          go_wp2_with fail
          refine bodyPost_ret (v := .tuple #[.agg #[.int .i64 0, .string ⟨#[]⟩, .int .i64 0, .int .i64 0], .int .i64 9]) (by simp [results, Tryd.results32, go_sem, x0, x1, x2, x3]) rfl ⟨by rw [← HE.out]; rfl, ?_⟩
          repeat (first | with_reducible exact Q1.out | refine Q.setA ?_ (by omega) _)
end Go.Proofs.YtlnfoknghfoffaaDoor
