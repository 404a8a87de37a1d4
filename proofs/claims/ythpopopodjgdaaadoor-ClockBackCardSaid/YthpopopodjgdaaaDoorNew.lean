/- The contract of New. -/
import Derived.Test.YthpopopodjgdaaaDoorCheck
import Derived.Test.YthpopopodjgdaaaDoorCalls
set_option linter.unusedVariables false
set_option linter.unusedSimpArgs false
namespace Go.Proofs.YthpopopodjgdaaaDoor
open Go.ChangeShapes Go.WideShapes Go.ChangeAt Go.RowKit Km

theorem run_copy_two {P' : Program} (w : World) (dT sT ty elem : TypeId) (g o dLen dCap : Nat) (a : Addr) (sLen sCap : Nat) (cur : Array Value) (t : TypeId) (cs : List Value)
    (hu : P'.underlying dT = some (.slice elem)) (hs : (P'.info? elem).map (·.size) = some 2)
    (hg : w.heap[g]? = some (.cells cur t (0, 0))) (hn : cs.length = Nat.min sLen dLen * 2)
    (hsrc : ∀ j v, cs[j]? = some v → w.cell? (a.add j) = some v) (hfit : o + cs.length ≤ cur.size) (h1 : ∀ v ∈ cs, v.oneCell' = true) :
    (Builtin.copy_ #[dT, sT] ty #[.slice (some ⟨g, o, none⟩) dLen dCap, .slice (some a) sLen sCap]).run P' w =
      .ok (.int .i64 (Nat.min sLen dLen : Nat)) (w.setRow g (cur.toList.take o ++ cs ++ cur.toList.drop (o + cs.length)).toArray) := by
  have hl := run_loadCells_list (P := P') w a cs hsrc
  have hst := run_storeCells_at P' g o t cs 0 cur w hg (by simpa using hfit) h1
  cases hq : P'.info? elem with
  | none => simp [hq] at hs
  | some i =>
    have hi : i.size = 2 := by simpa [hq] using hs
    simp [Builtin.copy_, run_underlying hu, Builtin.lenOf, Builtin.firstCells, sizeOf, typeInfo, hq, hi, ← hn, hl, hst]
    rfl
theorem Q.setRow {a b : World} (h : Q a b) {g : Nat} (hg : a.heap.size ≤ g) (cs : Array Value) : Q a (b.setRow g cs) := by
  refine ⟨h.os, h.tape, h.output, by simp [World.setRow]; exact h.size, fun k hk => ?_⟩
  refine Eq.trans ?_ (h.block k hk)
  show (b.heap.modify g _)[k]? = b.heap[k]?
  rw [Array.getElem?_modify, if_neg (by omega)]
def z43 (n : Nat) : Array Value := (List.replicate 42 (Value.int .i64 0) ++ [Value.int .i64 n]).toArray
def cellsL (l : List P) : List Value := l.flatMap pc
theorem cellsL_at : ∀ (l : List P) (i : Nat) (s : P), l[i]? = some s → (cellsL l)[i * 2]? = some (.int .i64 s.1) ∧ (cellsL l)[i * 2 + 1]? = some (.int .i64 s.2)
  | [], i, s, h => by simp at h
  | t :: l, 0, s, h => by simp at h; subst h; exact ⟨rfl, rfl⟩
  | t :: l, i + 1, s, h => by
    have := cellsL_at l i s (by simpa using h)
    show (pc t ++ cellsL l)[(i + 1) * 2]? = _ ∧ (pc t ++ cellsL l)[(i + 1) * 2 + 1]? = _
    rw [List.getElem?_append_right (by show 2 ≤ _; omega), List.getElem?_append_right (by show 2 ≤ _; omega), show (i + 1) * 2 - (pc t).length = i * 2 by show (i + 1) * 2 - 2 = _; omega, show (i + 1) * 2 + 1 - (pc t).length = i * 2 + 1 by show (i + 1) * 2 + 1 - 2 = _; omega]
    exact this
theorem cellsL_len : ∀ l : List P, (cellsL l).length = l.length * 2
  | [] => rfl
  | t :: l => by show (pc t ++ cellsL l).length = _; rw [List.length_append, cellsL_len l, List.length_cons]; show 2 + _ = _; omega
theorem cellsL_one (l : List P) : ∀ u ∈ cellsL l, u.oneCell' = true := by
  intro u hu
  unfold cellsL at hu
  obtain ⟨s, _, hs⟩ := List.mem_flatMap.1 hu
  simp [pc] at hs
  rcases hs with rfl | rfl <;> rfl
theorem cells_src {w : World} {b off : Nat} {l : List P} (hc : ∀ i x, l[i]? = some x → ∀ j u, (pc x)[j]? = some u → w.cell? ⟨b, off + i * 2 + j, none⟩ = some u) : ∀ j v, (cellsL l)[j]? = some v → w.cell? ((⟨b, off, none⟩ : Addr).add j) = some v := by
  intro j v hj
  have hjl : j < l.length * 2 := by
    rw [← cellsL_len]
    rcases Nat.lt_or_ge j (cellsL l).length with k | k
    · exact k
    · rw [List.getElem?_eq_none k] at hj; cases hj
  have hi : j / 2 < l.length := by omega
  have hx : l[j / 2]? = some (l[j / 2]'hi) := List.getElem?_eq_getElem hi
  obtain ⟨c1, c2⟩ := cellsL_at l (j / 2) _ hx
  rw [show (⟨b, off, none⟩ : Addr).add j = ⟨b, off + j, none⟩ by simp [Addr.add]]
  rcases Nat.mod_two_eq_zero_or_one j with e | e
  · have e2 : j / 2 * 2 = j := by omega
    rw [e2, hj] at c1
    have := hc (j / 2) _ hx 0 v (by rw [c1]; rfl)
    rw [Nat.add_zero, show off + j / 2 * 2 = off + j by omega] at this
    exact this
  · have e2 : j / 2 * 2 + 1 = j := by omega
    rw [e2, hj] at c2
    have := hc (j / 2) _ hx 1 v (by rw [c2]; rfl)
    rw [show off + j / 2 * 2 + 1 = off + j by omega] at this
    exact this
theorem cal_new {w : World} {g : Nat} {l : List P} {T : TypeId} (hl : l.length ≤ 21) (hg : w.heap[g]? = some (.cells (z43 l.length) T (0, 0))) : Cal (w.setRow g ((z43 l.length).toList.take 0 ++ cellsL l ++ (z43 l.length).toList.drop (0 + (cellsL l).length)).toArray) g l := by
  have hlt : g < w.heap.size := (Array.getElem?_eq_some_iff.1 hg).1
  have hh := setRow_heap w g (z43 l.length) ((z43 l.length).toList.take 0 ++ cellsL l ++ (z43 l.length).toList.drop (0 + (cellsL l).length)).toArray T (0, 0) hg
  have hcell : ∀ j, (w.setRow g ((z43 l.length).toList.take 0 ++ cellsL l ++ (z43 l.length).toList.drop (0 + (cellsL l).length)).toArray).cell? ⟨g, j, none⟩ = (cellsL l ++ (z43 l.length).toList.drop (cellsL l).length)[j]? := fun j => by
    unfold World.cell?
    simp only [hh]
    simp
  have hF : ∀ i (hi : i < l.length), F l i = l[i].1 := fun i hi => by unfold F; rw [List.getD_eq_getElem?_getD, List.getElem?_eq_getElem hi]; rfl
  have hU : ∀ i (hi : i < l.length), U l i = l[i].2 := fun i hi => by unfold U; rw [List.getD_eq_getElem?_getD, List.getElem?_eq_getElem hi]; rfl
  refine ⟨by simp [World.setRow]; exact hlt, fun i hi => ?_, fun i hi => ?_, ?_⟩
  · rw [hcell, List.getElem?_append_left (by rw [cellsL_len]; omega), (cellsL_at l i _ (List.getElem?_eq_getElem hi)).1, hF i hi]
  · rw [hcell, List.getElem?_append_left (by rw [cellsL_len]; omega), (cellsL_at l i _ (List.getElem?_eq_getElem hi)).2, hU i hi]
  · rw [hcell, List.getElem?_append_right (by rw [cellsL_len]; omega), List.getElem?_drop, show (cellsL l).length + (42 - (cellsL l).length) = 42 by rw [cellsL_len]; omega]
    unfold z43
    simp
def NewPost (l : List P) (w : World) (e : Ending) (w' : World) : Prop := ∃ g, e = .returned (.tuple #[.pointer (some ⟨g, 0, none⟩), .int .i64 0]) ∧ Cal w' g l ∧ Q w w'
set_option maxRecDepth 100000 in
set_option maxHeartbeats 800000 in
theorem New_no (v : Value) (l : List P) (e : Nat) (he : Hid (chk l = e)) (h0 : e ≠ 0) (w : World) (hr : RdP w v l) (hl : l.length ≤ maxLen) : Calls Tryd.prog 15 #[v] w fun r w' => r = .returned (.tuple #[.pointer none, .int .i64 e]) ∧ Q w w' := by
  have t0 : ((e : Int) != 0) = true := by simp; omega
  have HR := Lib.hid hr
  obtain ⟨A, c, rfl, _, _⟩ := hr
  go_enter Tryd.func15, Tryd.ntmps15
  go_wp2_with fail
  refine (check_c _ l e he _ HR.out hl).mono ?_; rintro E w1 ⟨rfl, hq1⟩
  go_wp2_with fail
  go_ret2
  exact ⟨rfl, hq1⟩
set_option maxRecDepth 100000 in
set_option maxHeartbeats 1600000 in
theorem New_c (v : Value) (l : List P) (he : Hid (chk l = 0)) (w : World) (hr : RdP w v l) : Calls Tryd.prog 15 #[v] w (NewPost l w) := by
  have HO := Lib.hid (chk_zero he.out)
  have HL := Lib.hid (show l.length ≤ maxLen by unfold maxLen; have := HO.out.few; omega)
  have HR := Lib.hid hr
  obtain ⟨A, c, rfl, hc, _⟩ := hr
  obtain ⟨n, hn⟩ : ∃ n, l.length = n := ⟨_, rfl⟩
  have HN := Lib.hid hn
  rw [hn] at HR hc
  rw [hn]
  have hn21 : n ≤ 21 := by rw [← hn]; exact HO.out.few
  have hn1 : 0 < n := by rw [← hn]; exact HO.out.one
  have HR2 := Lib.hid (show ∃ b off, A = some ⟨b, off, none⟩ ∧ b < w.heap.size ∧ ∀ i x, l[i]? = some x → ∀ j u, (pc x)[j]? = some u → w.cell? ⟨b, off + i * 2 + j, none⟩ = some u by
    obtain ⟨A', c', h1, _, h3⟩ := HR.out
    injection h1 with e1 _ _
    subst e1
    exact h3 (by omega))
  obtain ⟨b, off, rfl, hb, hcs⟩ := HR2.out
  have HB := Lib.hid hb
  have HCS := Lib.hid hcs
  clear hn hb hcs
  go_enter Tryd.func15, Tryd.ntmps15
  go_wp2_with fail
  refine (check_c _ l 0 he _ HR.out HL.out).mono ?_; rintro E w1 ⟨rfl, hq1⟩
  obtain ⟨W1, hW1⟩ : ∃ W, w1.alloc (.cells #[.int .i64 0, .int .i64 0, .int .i64 0, .int .i64 0, .int .i64 0, .int .i64 0, .int .i64 0, .int .i64 0, .int .i64 0, .int .i64 0, .int .i64 0, .int .i64 0, .int .i64 0, .int .i64 0, .int .i64 0, .int .i64 0, .int .i64 0, .int .i64 0, .int .i64 0, .int .i64 0, .int .i64 0, .int .i64 0, .int .i64 0, .int .i64 0, .int .i64 0, .int .i64 0, .int .i64 0, .int .i64 0, .int .i64 0, .int .i64 0, .int .i64 0, .int .i64 0, .int .i64 0, .int .i64 0, .int .i64 0, .int .i64 0, .int .i64 0, .int .i64 0, .int .i64 0, .int .i64 0, .int .i64 0, .int .i64 0, .int .i64 n] 52) = W := ⟨_, rfl⟩
  have G1 := Lib.hid (show W1.heap[w1.heap.size]? = some (.cells (z43 l.length) 52 (0, 0)) by rw [← hW1, HN.out]; exact heap_alloc_new w1 _)
  have Q1 := Lib.hid (show Q w W1 by rw [← hW1]; exact hq1.alloc _)
  have HSZ := Lib.hid hq1.size
  obtain ⟨W2, hW2⟩ : ∃ W, W1.setRow w1.heap.size ((z43 l.length).toList.take 0 ++ cellsL l ++ (z43 l.length).toList.drop (0 + (cellsL l).length)).toArray = W := ⟨_, rfl⟩
  have C2 := Lib.hid (show Cal W2 w1.heap.size l by rw [← hW2]; exact cal_new HO.out.few G1.out)
  have Q2 := Lib.hid (show Q w W2 by rw [← hW2]; exact Q.setRow Q1.out HSZ.out _)
  have hcopy : (Builtin.copy_ #[22, 22] 3 #[.slice (some ⟨w1.heap.size, 0, none⟩) 21 21, .slice (some ⟨b, off, none⟩) n c]).run Tryd.prog W1 = .ok (.int .i64 n) W2 := by
    have := run_copy_two (P' := Tryd.prog) W1 22 22 3 47 w1.heap.size 0 21 21 ⟨b, off, none⟩ n c (z43 l.length) 52 (cellsL l) Tryd.underlying22 (by kernel_rfl) G1.out (by rw [cellsL_len, HN.out]; show _ = min n 21 * 2; omega)
      (cells_src fun i x hx j u hu => (Q1.out.cell (p := ⟨b, off + i * 2 + j, none⟩) HB.out).trans (HCS.out i x hx j u hu)) (by rw [cellsL_len]; unfold z43; simp; have := HO.out.few; omega) (cellsL_one l)
    rw [this, hW2, show Nat.min n 21 = n by show min n 21 = n; omega]
  clear hq1 hW2
  go_wp2_with fail
  go_ret2
  exact ⟨w1.heap.size, rfl, C2.out, Q2.out⟩
end Go.Proofs.YthpopopodjgdaaaDoor
