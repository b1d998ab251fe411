/- Distance is a metric. -/
import Derived.Test.YtjpfalpengocjaaW4
set_option linter.unusedVariables false
namespace Go.Proofs.Ytjpfalpengocjaa
theorem ds_comm (a b : List Bool) : ds a b = ds b a := by
  induction a generalizing b with
  | nil => cases b <;> simp [ds]
  | cons x a ih =>
    cases b with
    | nil => simp [ds]
    | cons y b =>
      simp only [ds, ih b]
      congr 2
      cases x <;> cases y <;> rfl
theorem ds_tri (a b c : List Bool) (h1 : a.length = b.length) (h2 : b.length = c.length) : ds a c ≤ ds a b + ds b c := by
  induction a generalizing b c with
  | nil => simp [ds]
  | cons x a ih =>
    match b, c, h1, h2 with
    | y :: b, z :: c, h1, h2 =>
      have := ih b c (by simpa using h1) (by simpa using h2)
      simp only [ds]
      cases x <;> cases y <;> cases z <;> simp <;> omega
theorem ds_self (a : List Bool) : ds a a = 0 := by
  induction a with
  | nil => rfl
  | cons x a ih => simp [ds, ih]
theorem ds_zero (a b : List Bool) (h : a.length = b.length) (h0 : ds a b = 0) : a = b := by
  induction a generalizing b with
  | nil => exact (List.eq_nil_of_length_eq_zero (by simpa using h.symm)).symm
  | cons x a ih =>
    match b, h with
    | y :: b, h =>
      simp only [ds] at h0
      have h1 : ds a b = 0 := by omega
      have h2 : (x != y).toNat = 0 := by omega
      rw [ih b (by simpa using h) h1]
      cases x <;> cases y <;> simp_all
theorem ds_eq_same (a b : List Bool) (h : a.length = b.length) : (((ds a b : Nat) : Int) == 0) = (a == b) := by
  by_cases h0 : ds a b = 0
  · obtain rfl := ds_zero a b h h0
    simp [ds_self]
  · have h1 : a ≠ b := by rintro rfl; exact h0 (ds_self a)
    rw [show (a == b) = false by simpa using h1, beq_eq_false_iff_ne]
    omega
theorem ds_zeros (a : List Bool) : ds a (List.replicate a.length false) = wt a := by
  induction a with
  | nil => rfl
  | cons x a ih =>
    rw [List.length_cons, List.replicate_succ, ds, ih, wt_cons]
    cases x <;> rfl
theorem ds_set (a b : List Bool) (i : Nat) (x : Bool) : ds a (b.set i x) ≤ ds a b + 1 := by
  induction a generalizing b i with
  | nil => simp [ds]
  | cons y a ih =>
    cases b with
    | nil => simp [ds]
    | cons z b =>
      cases i with
      | zero =>
        simp only [List.set_cons_zero, ds]
        cases y <;> cases x <;> cases z <;> simp <;> omega
      | succ i =>
        have := ih b i
        simp only [List.set_cons_succ, ds]
        omega
end Go.Proofs.Ytjpfalpengocjaa
