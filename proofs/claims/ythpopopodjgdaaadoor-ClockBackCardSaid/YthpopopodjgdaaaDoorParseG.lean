/- The contract of Parse at any string. -/
import Derived.Test.YthpopopodjgdaaaDoorForm
import Derived.Lib.IndexLaws
set_option linter.unusedVariables false
set_option linter.unusedSimpArgs false
namespace Go.Proofs.YthpopopodjgdaaaDoor
open Go.ChangeShapes Go.WideShapes Go.ChangeAt Go.RowKit Km

def preS (s : ByteArray) : ByteArray × Bool := if 1 ≤ s.size ∧ ((s.extract 0 1).toList == [100]) = true then (s.extract 1 s.size, true) else (s, false)
def cutS (s : ByteArray) (c : UInt8) : ByteArray × ByteArray × Bool :=
  if Lib.indexByte s.data.toList c < 0 then (s, ⟨#[]⟩, false) else (s.extract 0 (Lib.indexByte s.data.toList c).toNat, s.extract ((Lib.indexByte s.data.toList c).toNat + 1) s.size, true)
theorem pre_no (s : ByteArray) (hm : s.size ≤ 1000000) (h : ¬ (1 ≤ s.size ∧ ((s.extract 0 1).toList == [100]) = true)) (w : World) : Calls Tryd.prog 38 #[.string s, .string ⟨#[100]⟩] w fun e w' => e = .returned (.tuple #[.string s, .bool false]) ∧ Q w w' := by
  by_cases h1 : 1 ≤ s.size
  · have h2 : ((s.extract 0 1).toList == [100]) = false := by
      cases g : ((s.extract 0 1).toList == [100]) with
      | false => rfl
      | true => exact absurd ⟨h1, g⟩ h
    have i1 : (1 : Int) ≤ (s.size : Int) := by omega
    clear h
    go_enter Tryd.func38, Tryd.ntmps38
    go_wp2_with (first | go_in)
    go_ret2
    exact ⟨rfl, Q.refl _⟩
  · have i1 : ¬ (1 : Int) ≤ (s.size : Int) := by omega
    have i2 : decide ((1 : Int) ≤ (s.size : Int)) = false := decide_eq_false i1
    clear h
    go_enter Tryd.func38, Tryd.ntmps38
    go_wp2_with (first | go_in)
    go_ret2
    exact ⟨rfl, Q.refl _⟩
theorem pre_c (s a : ByteArray) (o : Bool) (hm : s.size ≤ 1000000) (h : Hid (preS s = (a, o))) (w : World) : Calls Tryd.prog 38 #[.string s, .string ⟨#[100]⟩] w fun e w' => e = .returned (.tuple #[.string a, .bool o]) ∧ Q w w' := by
  have hp := h.out
  unfold preS at hp
  by_cases g : 1 ≤ s.size ∧ ((s.extract 0 1).toList == [100]) = true
  · rw [if_pos g] at hp
    injection hp with e1 e2
    subst e1 e2
    exact pre_yes s g.1 hm g.2 w
  · rw [if_neg g] at hp
    injection hp with e1 e2
    subst e1 e2
    exact pre_no s hm g w
theorem ib_lt {s : ByteArray} {c : UInt8} (h : ¬ Lib.indexByte s.data.toList c < 0) : (Lib.indexByte s.data.toList c).toNat < s.size := by
  obtain ⟨p, hp⟩ : ∃ p : Nat, Lib.indexByte s.data.toList c = (p : Int) := ⟨(Lib.indexByte s.data.toList c).toNat, by omega⟩
  have h1 := (Lib.indexByte_some hp).1
  have h2 : p < s.data.toList.length := by
    rcases Nat.lt_or_ge p s.data.toList.length with h | h
    · exact h
    · rw [List.getElem?_eq_none h] at h1; cases h1
  rw [hp]
  have h3 : s.data.toList.length = s.size := by simp
  omega
theorem cut_c (s a b : ByteArray) (c : UInt8) (o : Bool) (hs : s.size ≤ 1000000) (h : Hid (cutS s c = (a, b, o))) (w : World) : Calls Tryd.prog 39 #[.string s, .string ⟨#[c]⟩] w fun e w' => e = .returned (.tuple #[.string a, .string b, .bool o]) ∧ Q w w' := by
  have hp := h.out
  unfold cutS at hp
  by_cases g : Lib.indexByte s.data.toList c < 0
  · rw [if_pos g] at hp
    injection hp with e1 e2
    injection e2 with e2 e3
    subst e1 e2 e3
    have := Lib.indexByte_ge s.data.toList c
    exact cut_no s c hs (Lib.hid (by omega)) w
  · rw [if_neg g] at hp
    injection hp with e1 e2
    injection e2 with e2 e3
    subst e1 e2 e3
    exact cut_yes s c _ hs (ib_lt g) (Lib.hid (by omega)) w
theorem preS_le {s a : ByteArray} {o : Bool} (h : preS s = (a, o)) : a.size ≤ s.size := by
  unfold preS at h
  by_cases g : 1 ≤ s.size ∧ ((s.extract 0 1).toList == [100]) = true
  · rw [if_pos g] at h; injection h with e1 _; subst e1; simp <;> omega
  · rw [if_neg g] at h; injection h with e1 _; subst e1; omega
theorem cutS_le {s a b : ByteArray} {c : UInt8} {o : Bool} (h : cutS s c = (a, b, o)) : a.size ≤ s.size ∧ b.size ≤ s.size := by
  unfold cutS at h
  by_cases g : Lib.indexByte s.data.toList c < 0
  · rw [if_pos g] at h; injection h with e1 e2; injection e2 with e2 _; subst e1 e2; exact ⟨Nat.le_refl _, Nat.zero_le _⟩
  · rw [if_neg g] at h; injection h with e1 e2; injection e2 with e2 _; subst e1 e2
    constructor <;> simp <;> omega
/-- what Parse answers -/
def paT (d h m : Int × Bool) : Int × Nat := if d.2 = true ∧ h.2 = true ∧ m.2 = true then asT (d.1 * 1440 + h.1 * 60 + m.1) else (0, 5)
def paC (c : ByteArray × ByteArray × Bool) (mt : ByteArray) (f g : Bool) : Int × Nat := if f = true ∧ g = true ∧ c.2.2 = true then paT (plS c.1) (twS c.2.1 24) (twS mt 60) else (0, 5)
def paB (b : ByteArray × ByteArray × Bool) (f : Bool) : Int × Nat := paC (cutS b.1 32) b.2.1 f b.2.2
def paS (s : ByteArray) : Int × Nat := paB (cutS (preS s).1 58) (preS s).2
end Go.Proofs.YthpopopodjgdaaaDoor
