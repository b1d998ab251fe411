/- The order of integers as signs and magnitudes. -/
import Derived.Test.YtebbpodcldndjaaLa
set_option linter.unusedVariables false
namespace Go.Proofs.Ytebbpodcldndjaa
open Go.RowKit

/-- the integer with a sign and a magnitude -/
def zi (neg : Bool) (v : Nat) : Int := if neg = true then -(v : Int) else (v : Int)
/-- the sign of a difference -/
def cmpZ (p q : Int) : Int := if p < q then -1 else if q < p then 1 else 0
theorem cmp_zi (neg : Bool) (a : Nat) (neg' : Bool) (b : Nat) (h : neg = true → a ≠ 0) (h' : neg' = true → b ≠ 0) : cmpS neg a neg' b = cmpZ (zi neg a) (zi neg' b) := by
  unfold cmpS cmpZ zi sgn
  cases neg <;> cases neg' <;> simp at h h' ⊢ <;> (repeat' split) <;> omega
theorem zi_sum (neg : Bool) (a : Nat) (neg' : Bool) (b : Nat) : zi (sumS neg a neg' b).1 (sumS neg a neg' b).2 = zi neg a + zi neg' b := by
  unfold sumS zi
  cases neg <;> cases neg' <;> simp <;> (repeat' split) <;> (try simp_all) <;> omega
theorem sum_valid (neg : Bool) (a : Nat) (neg' : Bool) (b : Nat) : (sumS neg a neg' b).1 = true → (sumS neg a neg' b).2 ≠ 0 := by
  unfold sumS
  cases neg <;> cases neg' <;> simp <;> (repeat' split) <;> (try simp_all) <;> (try (intros; omega))
theorem zi_inj {neg neg' : Bool} {a b : Nat} (h : neg = true → a ≠ 0) (h' : neg' = true → b ≠ 0) (e : zi neg a = zi neg' b) : neg = neg' ∧ a = b := by
  unfold zi at e
  cases neg <;> cases neg' <;> simp at h h' e ⊢ <;> omega
theorem zi_neg (neg : Bool) (a : Nat) : zi (!neg && decide (a ≠ 0)) a = -(zi neg a) := by
  unfold zi
  cases neg
  · by_cases h : a = 0
    · subst h; rfl
    · simp [h]
  · simp
theorem neg_valid (neg : Bool) (a : Nat) : (!neg && decide (a ≠ 0)) = true → a ≠ 0 := by
  intro h h0
  subst h0
  simp at h
theorem same_cmp (neg : Bool) (a : Nat) (neg' : Bool) (b : Nat) (h : neg = true → a ≠ 0) (h' : neg' = true → b ≠ 0) : decide (neg = neg' ∧ a = b) = (cmpS neg a neg' b == 0) := by
  rw [cmp_zi neg a neg' b h h']
  by_cases e : neg = neg' ∧ a = b
  · rw [decide_eq_true e, e.1, e.2]
    unfold cmpZ
    simp
  · rw [decide_eq_false e]
    have hne : zi neg a ≠ zi neg' b := fun e2 => e (zi_inj h h' e2)
    symm
    rw [beq_eq_false_iff_ne]
    unfold cmpZ
    split
    · decide
    · split
      · decide
      · omega
theorem cmpZ_cases (p q : Int) : (p < q ∧ cmpZ p q = -1) ∨ (p = q ∧ cmpZ p q = 0) ∨ (q < p ∧ cmpZ p q = 1) := by
  unfold cmpZ
  split
  · exact .inl ⟨by omega, rfl⟩
  · split
    · exact .inr (.inr ⟨by omega, rfl⟩)
    · exact .inr (.inl ⟨by omega, rfl⟩)
theorem cmpZ_neg (p q : Int) : cmpZ (-q) (-p) = cmpZ p q := by
  rcases cmpZ_cases p q with ⟨h, e⟩ | ⟨h, e⟩ | ⟨h, e⟩ <;> rcases cmpZ_cases (-q) (-p) with ⟨h', e'⟩ | ⟨h', e'⟩ | ⟨h', e'⟩ <;> omega
theorem cmpZ_swap (p q : Int) : cmpZ q p = -(cmpZ p q) := by
  rcases cmpZ_cases p q with ⟨h, e⟩ | ⟨h, e⟩ | ⟨h, e⟩ <;> rcases cmpZ_cases q p with ⟨h', e'⟩ | ⟨h', e'⟩ | ⟨h', e'⟩ <;> omega
theorem cmpZ_add (p q r : Int) : cmpZ (p + r) (q + r) = cmpZ p q := by
  rcases cmpZ_cases p q with ⟨h, e⟩ | ⟨h, e⟩ | ⟨h, e⟩ <;> rcases cmpZ_cases (p + r) (q + r) with ⟨h', e'⟩ | ⟨h', e'⟩ | ⟨h', e'⟩ <;> omega
theorem lim_cases (neg : Bool) (v : Nat) : ((enc v).length ≤ 512 ∧ limS neg v = (neg, v, 0)) ∨ limS neg v = (false, 0, 4) := by
  unfold limS
  by_cases h : (enc v).length ≤ 512
  · exact .inl ⟨h, by rw [if_pos h]⟩
  · exact .inr (by rw [if_neg h])
end Go.Proofs.Ytebbpodcldndjaa
