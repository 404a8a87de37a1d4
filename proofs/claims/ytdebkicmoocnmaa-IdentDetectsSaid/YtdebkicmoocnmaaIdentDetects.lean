/- For every kind, number and change, the law IdentDetects returns true. No condition. -/
import Derived.Test.YtdebkicmoocnmaaMathD
import Derived.Laws.IdiomStrings
import Derived.RegionTactic
import Derived.BigRegion
import Derived.Deep.QuietTactic
import Derived.BigQuiet
import Derived.OpenShut
set_option linter.unusedVariables false
set_option linter.unusedSimpArgs false
namespace Go.Proofs.Ytdebkicmoocnmaa
open Go.ChangeShapes Go.WideShapes Go.ChangeAt Go.RowKit Idm

/-- eight bytes at block b -/
def Byt (W : World) (b : Nat) (f : Nat → Int) : Prop := ∀ j, j < 8 → W.cell? ⟨b, j, none⟩ = some (.int .u8 (f j)) ∧ W.frozen? ⟨b, j, none⟩ = false
theorem to_bytes (s : ByteArray) (hs : s.size = 8) (W : World) : ∃ (cap : Nat) (W2 : World), (convert 9 35 (.string s)).run Try.prog W = .ok (.slice (some ⟨W.heap.size, 0, none⟩) 8 cap) W2 ∧
    Byt W2 W.heap.size (bt s) ∧ Q W W2 ∧ W.heap.size < W2.heap.size := by
  have h := run_bytes_of_string (P := Try.prog) W 9 35 5 s Try.underlying9 Try.underlying35 Try.underlying5
  rw [hs] at h
  refine ⟨_, _, h, fun j hj => ⟨?_, ?_⟩, ?_, ?_⟩
  · have := World.cell?_alloc_mark W.drew (bytesRow s (grownCap W 8 0 5)) 5 ((bytesRow s (grownCap W 8 0 5)).size, (bytesRow s (grownCap W 8 0 5)).size + 1) j
    refine this.trans ?_
    rw [bytesRow_at s _ j (by show j < s.size; omega)]
    rw [← bt_eq s j (by omega)]; rfl
  · have := World.frozen?_alloc_mark W.drew (bytesRow s (grownCap W 8 0 5)) 5 (bytesRow s (grownCap W 8 0 5)).size ((bytesRow s (grownCap W 8 0 5)).size + 1) j
    refine this.trans ?_
    have hsz : 8 ≤ (bytesRow s (grownCap W 8 0 5)).size := by
      unfold bytesRow; rw [Array.size_append, Array.size_map]; have : s.data.size = 8 := hs; omega
    rw [decide_eq_false (by omega)]; rfl
  · exact (Q.refl W).drew.alloc _
  · show W.heap.size < (W.heap.push _).size
    simp
theorem byt_set {W : World} {b : Nat} {f : Nat → Int} {i : Nat} (hB : Byt W b f) (hi : i < 8) (y : Int) : Byt (W.setCell ⟨b, i, none⟩ (.int .u8 y)) b (fun j => if j = i then y else f j) := by
  intro j hj
  refine ⟨?_, by rw [World.frozen?_setCell]; exact (hB j hj).2⟩
  by_cases h : j = i
  · subst h
    simp only [if_true]
    exact World.cell?_setCell_same _ _ _ (hB j hj).1
  · simp only [h, if_false]
    exact (World.cell?_setCell_other W ⟨b, i, none⟩ ⟨b, j, none⟩ (.int .u8 y) (by intro g; injection g with g1 g2; omega)).trans (hB j hj).1
theorem from_bytes {W : World} {b : Nat} {f : Nat → Int} (hB : Byt W b f) (hf : ∀ j, j < 8 → 0 ≤ f j ∧ f j ≤ 255) (cap : Nat) :
    ∃ T : ByteArray, (convert 35 9 (.slice (some ⟨b, 0, none⟩) 8 cap)).run Try.prog W = .ok (.string T) W ∧ T.size = 8 ∧ ∀ j, j < 8 → bt T j = f j := by
  have hg : ∀ j, j < 8 → ((List.range 8).map f).getD j 0 = f j := fun j hj => by simp [List.getD_eq_getElem?_getD, hj]
  refine ⟨strOfNums ((List.range 8).map f), ?_, by rw [strOfNums_size]; simp, fun j hj => ?_⟩
  · refine run_convert_bytes_arg _ 35 5 Try.underlying35 Try.underlying5 b 0 8 cap ((List.range 8).map f) (by simp) (fun j hj => ?_) 9 Try.underlying9
    rw [hg j hj, Nat.zero_add]
    exact (hB j hj).1
  · rw [bt_str _ j (by simpa using hj) (by rw [hg j hj]; exact hf j hj), hg j hj]
theorem Is_is (s : ByteArray) (k : Int) (x : Bool) (h : Hid (isB s k = x)) (hs : s.size = 8) (w : World) : Calls Try.prog 20 #[.string s, .int .u8 k] w fun e w' => e = .returned (.bool x) ∧ Q w w' :=
  (Is_c s k w (by rw [hs]; decide)).mono fun _ _ ⟨a, b⟩ => ⟨by rw [a, h.out], b⟩

set_option maxRecDepth 100000 in
set_option maxHeartbeats 1600000 in
theorem detects_walk (k n c d : Int) (w : World) (hc : 0 ≤ c ∧ c ≤ 255) (hd : 0 ≤ d ∧ d ≤ 255) :
    Calls Try.prog 9 #[.int .u8 k, .int .i64 n, .agg #[.int .u8 c, .int .u8 d]] w fun e w' => e = .returned (.bool true) ∧ Below w.heap.size w w' := by
  obtain ⟨hc1, hc2⟩ := hc
  by_cases h : cE k n = 0
  · have hs8 : (cS k n).size = 8 := (cS_split h).2.2.2.1
    have hIs : isB (cS k n) k = true := (cS_split h).2.2.2.2
    obtain ⟨S, hS⟩ : ∃ S, cS k n = S := ⟨_, rfl⟩
    rw [hS] at hs8 hIs
    have HD := Lib.hid hd
    have HI := Lib.hid hIs
    have H8 := Lib.hid hs8
    have bS := Lib.hid (fun j => bt_bd S j)
    obtain ⟨i, hi⟩ : ∃ i : Nat, c % 8 = (i : Int) := ⟨(c % 8).toNat, by omega⟩
    have hi8 : i < 8 := by omega
    clear hd hIs
    go_enter Try.func9, Try.ntmps9
    go_wp2_with fail
    refine (Code_c k n _).mono ?_; rintro e w1 ⟨rfl, hq1⟩
    rw [h, hS]
    have qs : w.heap.size < w1.heap.size := by
      have : (w.heap.push (Obj.cells #[.int .u8 c, .int .u8 d] 34)).size ≤ w1.heap.size := hq1.size
      rw [Array.size_push] at this; omega
    have Q1 := Lib.hid (show Q w w1 from ((Q.refl w).alloc _).trans hq1)
    have hb0 : w1.cell? ⟨w.heap.size, 0, none⟩ = some (.int .u8 c) := (hq1.cell (by show w.heap.size < (w.heap.push _).size; simp)).trans (World.cell?_alloc_at _ _ _ _ rfl)
    have hb1 : w1.cell? ⟨w.heap.size, 1, none⟩ = some (.int .u8 d) := (hq1.cell (by show w.heap.size < (w.heap.push _).size; simp)).trans (World.cell?_alloc_at _ _ _ _ rfl)
    obtain ⟨cap, W2, hconv, hB, hq2, hsz⟩ := to_bytes S hs8 w1
    have hb2 : W2.cell? ⟨w.heap.size, 1, none⟩ = some (.int .u8 d) := (hq2.cell qs).trans hb1
    have hx := (hB i hi8).1
    have hz := (hB i hi8).2
    obtain ⟨y, hy⟩ : ∃ y, bits .xor .u8 (bt S i) d = y := ⟨_, rfl⟩
    have HY := Lib.hid hy
    have HB := Lib.hid hB
    have Q2 := Lib.hid hq2
    have QS := Lib.hid qs
    have hsS : (S.size : Int) = 8 := by omega
    clear hq1 hq2 hB qs hsz
    go_wp2_with fail
    clear hb0 hb1 hconv
    obtain ⟨W3, hW3⟩ : ∃ W3, (W2.setCell ⟨w1.heap.size, i, none⟩ (.int .u8 y)).drew = W3 := ⟨_, rfl⟩
    go_region
    have hB3 : Byt W3 w1.heap.size (fun j => if j = i then y else bt S j) := by rw [← hW3]; exact byt_set HB.out hi8 y
    have q3 : Q w W3 := by rw [← hW3]; exact Below.drew ((Q1.out.trans Q2.out).setCell (Nat.le_of_lt QS.out) _)
    have hb3 : W3.cell? ⟨w.heap.size, 1, none⟩ = some (.int .u8 d) := by
      rw [← hW3]
      exact (World.cell?_setCell_other W2 ⟨w1.heap.size, i, none⟩ ⟨w.heap.size, 1, none⟩ (.int .u8 y) (by intro g; injection g with g1; have := QS.out; omega)).trans hb2
    have Q3 := Lib.hid q3
    have HB3 := Lib.hid hB3
    clear hW3 hx hz hb2 hy q3 hB3 HB Q2 Q1
    by_cases hd0 : d = 0
    · subst hd0
      obtain ⟨W4, e4⟩ : ∃ W4, W3 = W4 := ⟨_, rfl⟩
      subst e4
      obtain ⟨cap2, W5, hconv2, hB5, hq5, hsz5⟩ := to_bytes S H8.out W3
      go_wp2_with fail
      have Q4 := Q3
      have Q5 := Lib.hid (show Q w W5 from Q4.out.trans hq5)
      have S4 := Lib.hid (show w.heap.size ≤ W3.heap.size from Q4.out.size)
      have HB5 := Lib.hid hB5
      clear hq5 hsz5 hconv2 hB5
      by_cases hi7 : (i : Int) < 7
      · obtain ⟨j, hj⟩ : ∃ j, i + 1 = j := ⟨_, rfl⟩
        have hj8 : j < 8 := by omega
        have hx5 := (HB5.out i hi8).1
        have hx6 := (HB5.out j hj8).1
        have ej : (i : Int) + 1 = (j : Int) := by omega
        have ew : IntKind.i64.wrap ((i : Int) + 1) = (j : Int) := by rw [ej]; exact IntWalk.i64_in _ (by omega)
        by_cases hne : bt S i = bt S j
        · have hb : (bt S i != bt S j) = false := by rw [hne]; simp
          go_quiet (fail)
          go_wp2_with fail
          refine (Is_is S k true HI H8.out _).mono ?_; rintro e w8 ⟨rfl, hq8⟩
          go_wp2_with fail
          refine (awake_c _).mono ?_; rintro e w9 ⟨rfl, hq9⟩
          go_wp2_with fail
          go_ret
          exact ⟨rfl, ((Q5.out.drewN _).trans hq8).trans hq9⟩
        · have hb : (bt S i != bt S j) = true := by simpa using hne
          go_quiet (fail)
          go_wp2_with fail
          obtain ⟨W6, hW6⟩ : ∃ W6, W5.drewN nq = W6 := ⟨_, rfl⟩
          have HB6 : Byt W6 W3.heap.size (bt S) := by rw [← hW6]; exact HB5.out
          have Q6 := Lib.hid (show Q w W6 by rw [← hW6]; exact Q5.out.drewN _)
          rw [hW6]
          have H7 := byt_set HB6 hi8 (bt S j)
          have H8b := byt_set H7 hj8 (bt S i)
          have hx7 := (HB6 i hi8).1
          have hx8 := (HB6 j hj8).1
          have hz7 := (HB6 i hi8).2
          have hz8 := (HB6 j hj8).2
          have hx9 : (W6.setCell ⟨W3.heap.size, i, none⟩ (.int .u8 (bt S j))).cell? ⟨W3.heap.size, j, none⟩ = some (.int .u8 (bt S j)) :=
            (World.cell?_setCell_other W6 ⟨W3.heap.size, i, none⟩ ⟨W3.heap.size, j, none⟩ (.int .u8 (bt S j)) (by intro g; injection g with g1 g2; omega)).trans hx8
          obtain ⟨W7, hW7⟩ : ∃ W7, ((W6.setCell ⟨W3.heap.size, i, none⟩ (.int .u8 (bt S j))).setCell ⟨W3.heap.size, j, none⟩ (.int .u8 (bt S i))).drew = W7 := ⟨_, rfl⟩
          have HB7 := Lib.hid (show Byt W7 W3.heap.size (fun m => if m = j then bt S i else if m = i then bt S j else bt S m) by rw [← hW7]; exact H8b)
          have Q7 := Lib.hid (show Q w W7 by rw [← hW7]; exact Below.drew ((Q6.out.setCell S4.out _).setCell S4.out _))
          obtain ⟨T2, hback2, hT28, hT2b⟩ := from_bytes HB7.out (fun m _ => by
            by_cases g : m = j
            · simp only [g, if_true]; exact bS.out i
            · simp only [g, if_false]
              by_cases g2 : m = i
              · simp only [g2, if_true]; exact bS.out j
              · simp only [g2, if_false]; exact bS.out m) cap2
          have HT2 := Lib.hid (show isB T2 k = false from exchanged (i := i) (by omega) HI.out (fun m hm => by
            rw [hT2b m hm, ← hj]
            by_cases g : m = i
            · subst g; simp
            · simp [g, ← hj]) (by rw [hj]; exact hne))
          have T28 := Lib.hid hT28
          clear hx5 hx6 hW6 H7 H8b HB6 hT28 hT2b hne
          go_region
          clear hx7 hx8 hx9 hz7 hz8 hW7
          go_wp2_with fail
          refine (Is_is T2 k false HT2 T28.out _).mono ?_; rintro e w7 ⟨rfl, hq7⟩
          go_wp2_with fail
          refine (Is_is S k true HI H8.out _).mono ?_; rintro e w8 ⟨rfl, hq8⟩
          go_wp2_with fail
          refine (awake_c _).mono ?_; rintro e w9 ⟨rfl, hq9⟩
          go_wp2_with fail
          go_ret
          exact ⟨rfl, ((Q7.out.trans hq7).trans hq8).trans hq9⟩
      · have hi7' : decide ((i : Int) < 7) = false := by simpa using hi7
        go_quiet (fail)
        go_wp2_with fail
        refine (Is_is S k true HI H8.out _).mono ?_; rintro e w8 ⟨rfl, hq8⟩
        go_wp2_with fail
        refine (awake_c _).mono ?_; rintro e w9 ⟨rfl, hq9⟩
        go_wp2_with fail
        go_ret
        exact ⟨rfl, ((Q5.out.drewN _).trans hq8).trans hq9⟩
    · have hd1 : (d != 0) = true := by simpa using hd0
      have X := xor_u8 (bS.out i) HD.out hd0
      rw [HY.out] at X
      obtain ⟨T, hback, hT8, hTb⟩ := from_bytes HB3.out (fun j _ => by
        by_cases g : j = i
        · simp only [g, if_true]; exact X.1
        · simp only [g, if_false]; exact bS.out j) cap
      have HT := Lib.hid (replaced hi8 HI.out hTb X.2)
      have T8 := Lib.hid hT8
      clear hT8 hTb X hd0
      go_wp2_with fail
      refine (Is_is T k false HT T8.out _).mono ?_; rintro e W4 ⟨rfl, hq4⟩
      have Q4 := Lib.hid (Q3.out.trans hq4)
      clear hq4 hback
      obtain ⟨cap2, W5, hconv2, hB5, hq5, hsz5⟩ := to_bytes S H8.out W4
      go_wp2_with fail
      have Q5 := Lib.hid (show Q w W5 from Q4.out.trans hq5)
      have S4 := Lib.hid (show w.heap.size ≤ W4.heap.size from Q4.out.size)
      have HB5 := Lib.hid hB5
      clear hq5 hsz5 hconv2 hB5
      by_cases hi7 : (i : Int) < 7
      · obtain ⟨j, hj⟩ : ∃ j, i + 1 = j := ⟨_, rfl⟩
        have hj8 : j < 8 := by omega
        have hx5 := (HB5.out i hi8).1
        have hx6 := (HB5.out j hj8).1
        have ej : (i : Int) + 1 = (j : Int) := by omega
        have ew : IntKind.i64.wrap ((i : Int) + 1) = (j : Int) := by rw [ej]; exact IntWalk.i64_in _ (by omega)
        by_cases hne : bt S i = bt S j
        · have hb : (bt S i != bt S j) = false := by rw [hne]; simp
          go_quiet (fail)
          go_wp2_with fail
          refine (Is_is S k true HI H8.out _).mono ?_; rintro e w8 ⟨rfl, hq8⟩
          go_wp2_with fail
          refine (awake_c _).mono ?_; rintro e w9 ⟨rfl, hq9⟩
          go_wp2_with fail
          go_ret
          exact ⟨rfl, ((Q5.out.drewN _).trans hq8).trans hq9⟩
        · have hb : (bt S i != bt S j) = true := by simpa using hne
          go_quiet (fail)
          go_wp2_with fail
          obtain ⟨W6, hW6⟩ : ∃ W6, W5.drewN nq = W6 := ⟨_, rfl⟩
          have HB6 : Byt W6 W4.heap.size (bt S) := by rw [← hW6]; exact HB5.out
          have Q6 := Lib.hid (show Q w W6 by rw [← hW6]; exact Q5.out.drewN _)
          rw [hW6]
          have H7 := byt_set HB6 hi8 (bt S j)
          have H8b := byt_set H7 hj8 (bt S i)
          have hx7 := (HB6 i hi8).1
          have hx8 := (HB6 j hj8).1
          have hz7 := (HB6 i hi8).2
          have hz8 := (HB6 j hj8).2
          have hx9 : (W6.setCell ⟨W4.heap.size, i, none⟩ (.int .u8 (bt S j))).cell? ⟨W4.heap.size, j, none⟩ = some (.int .u8 (bt S j)) :=
            (World.cell?_setCell_other W6 ⟨W4.heap.size, i, none⟩ ⟨W4.heap.size, j, none⟩ (.int .u8 (bt S j)) (by intro g; injection g with g1 g2; omega)).trans hx8
          obtain ⟨W7, hW7⟩ : ∃ W7, ((W6.setCell ⟨W4.heap.size, i, none⟩ (.int .u8 (bt S j))).setCell ⟨W4.heap.size, j, none⟩ (.int .u8 (bt S i))).drew = W7 := ⟨_, rfl⟩
          have HB7 := Lib.hid (show Byt W7 W4.heap.size (fun m => if m = j then bt S i else if m = i then bt S j else bt S m) by rw [← hW7]; exact H8b)
          have Q7 := Lib.hid (show Q w W7 by rw [← hW7]; exact Below.drew ((Q6.out.setCell S4.out _).setCell S4.out _))
          obtain ⟨T2, hback2, hT28, hT2b⟩ := from_bytes HB7.out (fun m _ => by
            by_cases g : m = j
            · simp only [g, if_true]; exact bS.out i
            · simp only [g, if_false]
              by_cases g2 : m = i
              · simp only [g2, if_true]; exact bS.out j
              · simp only [g2, if_false]; exact bS.out m) cap2
          have HT2 := Lib.hid (show isB T2 k = false from exchanged (i := i) (by omega) HI.out (fun m hm => by
            rw [hT2b m hm, ← hj]
            by_cases g : m = i
            · subst g; simp
            · simp [g, ← hj]) (by rw [hj]; exact hne))
          have T28 := Lib.hid hT28
          clear hx5 hx6 hW6 H7 H8b HB6 hT28 hT2b hne
          go_region
          clear hx7 hx8 hx9 hz7 hz8 hW7
          go_wp2_with fail
          refine (Is_is T2 k false HT2 T28.out _).mono ?_; rintro e w7 ⟨rfl, hq7⟩
          go_wp2_with fail
          refine (Is_is S k true HI H8.out _).mono ?_; rintro e w8 ⟨rfl, hq8⟩
          go_wp2_with fail
          refine (awake_c _).mono ?_; rintro e w9 ⟨rfl, hq9⟩
          go_wp2_with fail
          go_ret
          exact ⟨rfl, ((Q7.out.trans hq7).trans hq8).trans hq9⟩
      · have hi7' : decide ((i : Int) < 7) = false := by simpa using hi7
        go_quiet (fail)
        go_wp2_with fail
        refine (Is_is S k true HI H8.out _).mono ?_; rintro e w8 ⟨rfl, hq8⟩
        go_wp2_with fail
        refine (awake_c _).mono ?_; rintro e w9 ⟨rfl, hq9⟩
        go_wp2_with fail
        go_ret
        exact ⟨rfl, ((Q5.out.drewN _).trans hq8).trans hq9⟩
  · obtain ⟨e0, he0⟩ : ∃ e0, cE k n = e0 := ⟨_, rfl⟩
    rw [he0] at h
    have e1 : (e0 != 0) = true := by simpa using h
    have e2 : (e0 == 0) = false := by simpa using h
    clear h hd
    go_enter Try.func9, Try.ntmps9
    go_wp2_with fail
    refine (Code_c k n _).mono ?_; rintro e w1 ⟨rfl, hq1⟩
    rw [he0]
    have Q1 := Lib.hid (show Q w w1 from ((Q.refl w).alloc _).trans hq1)
    clear hq1
    go_wp2_with fail
    refine (awake_c _).mono ?_; rintro e w9 ⟨rfl, hq9⟩
    go_wp2_with fail
    go_ret
    exact ⟨rfl, Q1.out.trans hq9⟩

theorem list2 {α : Type} (l : List α) (h : (⟨l⟩ : Array α).size = 2) : ∃ a b, l = [a, b] := by
  match l, h with
  | [a, b], _ => exact ⟨a, b, rfl⟩
theorem trod_array2 {H : Type} {enc : TypeId × Value → H} {P : Program} {w : World} {base : Nat} {spare : Nat → Bool} {held : Bool} {t e : TypeId} {fuel : Nat} {c0 c1 : Value} {x : DataW H × List MemPlace} (ht : P.underlying t = some (.array 2 e)) (hce : P.cellsOf e = 1)
    (h : DataW.trod enc P w base spare held fuel t [c0, c1] = some x) :
    ∃ y0 y1 n, x = (.agg [y0.1, y1.1], y0.2 ++ y1.2) ∧ DataW.trod enc P w base spare held n e [c0] = some y0 ∧ DataW.trod enc P w base spare held n e [c1] = some y1 := by
  cases fuel with
  | zero => simp [DataW.trod] at h
  | succ n =>
    unfold DataW.trod at h
    rw [ht] at h
    have r2 : List.range 2 = [0, 1] := rfl
    simp [r2, hce] at h
    obtain ⟨_, h⟩ := h
    cases h0 : DataW.trod enc P w base spare held n e [c0] with
    | none => simp [h0] at h
    | some y0 =>
      cases h1 : DataW.trod enc P w base spare held n e [c1] with
      | none => simp [h0, h1] at h
      | some y1 =>
        simp [h0, h1] at h
        exact ⟨y0, y1, n, h.symm, h0, h1⟩
theorem byte_of {n : Int} (h : (Lit.int .u8 n).wf = true) : 0 ≤ n ∧ n ≤ 255 := by
  have h2 : (decide (IntKind.min .u8 ≤ n) && decide (n ≤ IntKind.max .u8)) = true := h
  rw [Bool.and_eq_true, decide_eq_true_eq, decide_eq_true_eq, show IntKind.min .u8 = 0 by decide, show IntKind.max .u8 = 255 by decide] at h2
  exact h2
theorem cellsB : Try.prog.cellsOf 5 = 1 := by kernel_rfl
theorem cellsA : Try.prog.cellsOf 34 = 2 := by kernel_rfl
namespace identDetects
theorem own : ownKnob Try.prog.godebug = none := by kernel_rfl
set_option maxRecDepth 100000 in
set_option maxHeartbeats 800000 in
theorem lifted (os : Os) (started : os.Started) (H : Type) (enc : TypeId × Value → H) :
    ReturnsInHanded {} Try.checked os 9 .any (Rows.identDetectsSpec.pre6 enc Try.prog Try.f9 Rows.identDetectsRow.domain false) (Rows.identDetectsSpec.post enc Try.prog Try.f9 false true false false) := by
  refine returnsInHanded_of_change (C := Try.checked) own started (by kernel_rfl) Try.func9
    (ChangeSpec.witness6 (enc := enc) (C := Try.checked) false ⟨#[], #[.int .u8 0, .int .i64 0, .agg #[.int .u8 0, .int .u8 0]], []⟩ 8 (by kernel_rfl) (by kernel_rfl) (by kernel_rfl) (by kernel_rfl)) ?_
  intro W base args ds gs before hval0 hW hcnd _
  have hval : ∀ (j : Nat) t v, Try.f9.params[j]? = some t → args[j]? = some v → Value.okWide Try.prog W .any base t v := hval0
  have hW' := hW
  obtain ⟨p, q, hA0, hV, rfl, hfz, hnd⟩ := hW
  have hA : DataW.TrodAll enc Try.prog W 0 (fun _ => true) true Try.f9.params.toList args.toList ds p := hA0
  rw [Try.params9] at hA hval
  obtain ⟨v0, vs0, d0, ds0, p0, q0, hargs, rfl, rfl, h0, r0⟩ := trodAll_cons hA
  obtain ⟨v1, vs1, d1, ds1, p1, q1, rfl, rfl, rfl, h1, r1⟩ := trodAll_cons r0
  obtain ⟨v2, vs2, d2, ds2, p2, q2, rfl, rfl, rfl, h2, r2⟩ := trodAll_cons r1
  obtain ⟨rfl, rfl, rfl⟩ := trodAll_nil r2
  obtain rfl : args = #[v0, v1, v2] := by cases args; simp_all
  obtain ⟨rfl, rfl⟩ := trodVars_none hV
  obtain ⟨a0, rfl, rfl, rfl, w0⟩ := open_int Try.underlying5 (hval 0 5 v0 rfl rfl) h0
  obtain ⟨a1, rfl, rfl, rfl, w1⟩ := open_int Try.underlying3 (hval 1 3 v1 rfl rfl) h1
  obtain ⟨cs, rfl, hsz, _⟩ : ∃ cs, v2 = .agg cs ∧ cs.size = Try.prog.cellsOf 34 ∧ Row.okWide Try.prog W .any base 34 cs := by
    have := hval 2 34 v2 rfl rfl
    simpa [Value.okWide, Try.underlying34] using this
  rw [cellsA] at hsz
  obtain ⟨l⟩ := cs
  obtain ⟨c0, c1, rfl⟩ := list2 l hsz
  obtain ⟨fuel, hf⟩ := h2
  obtain ⟨y0, y1, m, hx, hy0, hy1⟩ := trod_array2 Try.underlying34 cellsB hf
  obtain ⟨x0, e0, rfl, z0⟩ := DataW.trod_int Try.underlying5 hy0
  obtain ⟨x1, e1, rfl, z1⟩ := DataW.trod_int Try.underlying5 hy1
  simp at e0 e1
  subst e0 e1
  simp only [Prod.mk.injEq] at hx
  obtain ⟨rfl, rfl⟩ := hx
  clear hA0 hval0
  have rdA : ∀ (X : World) (sp : Nat → Bool), DataW.Trod enc Try.prog X 0 sp true 34 (.agg #[.int .u8 x0, .int .u8 x1]) (DataW.agg [.lit (.int .u8 x0), .lit (.int .u8 x1)]) [] :=
    fun X sp => ⟨2, by simp [DataW.trod, Value.cells, Try.underlying34, Try.underlying5, cellsA, cellsB, z0, z1, show List.range 2 = [0, 1] from rfl]⟩
  refine (detects_walk a0 a1 x0 x1 W (byte_of z0) (byte_of z1)).mono fun e W' ⟨he, bel⟩ => ?_
  subst he
  exact ⟨_, rfl, _, _, _, [], _, [], hW', trodAll_mk1 (shut_bool Try.underlying4 _), (trodAll_cons_mk (shut_int Try.underlying5 w0) (trodAll_cons_mk (shut_int Try.underlying3 w1) (trodAll_cons_mk (rdA _ _) trodAll_mk0))), rfl, bel.frame _, fun h => by cases h⟩
theorem over : Rows.identDetectsRow.holds Try.pinned (OpenSpec.ofChange Rows.identDetectsSpec) :=
  OpenClaim.holds_of_wide 9 Try.f9 rfl rfl rfl rfl rfl rfl rfl ⟨rfl, rfl, rfl, rfl, rfl⟩ rfl rfl rfl rfl rfl (by kernel_rfl) Try.func9 (by kernel_rfl)
    (of_decide_eq_true (by kernel_rfl)) (by unfold Func.isWrapper; first | (rw [if_pos (by decide +kernel)]; kernel_rfl) | (rw [if_neg (by decide +kernel)]; exact ⟨rfl, rfl⟩))
    (fun os started H enc _ => lifted os started H enc)
theorem proved : Rows.IdentDetectsSaid := over
end identDetects
end Go.Proofs.Ytdebkicmoocnmaa
