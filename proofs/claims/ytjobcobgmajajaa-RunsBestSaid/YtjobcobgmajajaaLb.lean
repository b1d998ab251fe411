/- The law RunsBest. -/
import Derived.Test.YtjobcobgmajajaaLa
set_option linter.unusedVariables false
namespace Go.Proofs.Ytjobcobgmajajaa
open Go.RowKit

/-- multiples -/
def mul_ (k : Int) (r : List Int) : List Int := r.map fun x => k * x
theorem sm_mul (k : Int) (r : List Int) : sm (mul_ k r) = k * sm r := by
  induction r with
  | nil => simp [mul_, sm]
  | cons x r ih =>
    have : mul_ k (x :: r) = k * x :: mul_ k r := rfl
    rw [this, sm, sm, ih, Int.mul_add]
theorem getD_mul (k : Int) (r : List Int) (i : Nat) (hi : i < r.length) : (mul_ k r).getD i 0 = k * r.getD i 0 := by simp [mul_, List.getD, hi]
theorem quant_mul {k T : Int} {r : List Int} (hk : 1 ≤ k ∧ k ≤ 100) (hT : T ≤ 500) (hl : 0 < r.length) (hr : ∀ i, i < r.length → 1 ≤ r.getD i 0) (hs : sm r = T) : quantS (mul_ k r) T = (r, 0) := by
  have h1 := one_le_sm hr
  have hlen : (mul_ k r).length = r.length := by simp [mul_]
  have hn : (r.length : Int) ≤ T := by
    have := sm_le (a := List.replicate r.length 1) (b := r) (by simp) (fun i hi => by have := hr i (by simpa using hi); simp at hi; simp [List.getD, hi] at *; omega)
    rw [sm_ones] at this
    omega
  have hok : okW (mul_ k r) = true := by
    simp only [okW, List.all_eq_true]
    intro x hx
    obtain ⟨y, hy, rfl⟩ := List.mem_map.1 hx
    obtain ⟨i, hi, rfl⟩ := List.mem_iff_getElem.1 hy
    have h2 := hr i hi
    have h3 := h1.2 i hi
    have e : r.getD i 0 = r[i] := by simp [List.getD, hi]
    rw [e] at h2 h3
    have h4 := Int.mul_le_mul hk.2 (show r[i] ≤ 500 by omega) (by omega) (by omega)
    have h5 := Int.mul_le_mul hk.1 h2 (by omega) (by omega)
    simp
    omega
  have hsp : 0 < k * T := Int.mul_pos (by omega) (by omega)
  unfold quantS
  rw [if_neg (by omega), if_neg (by omega), if_neg (by rw [hok]; simp; omega)]
  have hopt : Opt (sm (mul_ k r)) T (mul_ k r) r := by
    have hkey : ∀ i x, i < r.length → key (sm (mul_ k r)) T (mul_ k r) i x = k * T * (x - r.getD i 0) := fun i x hi => by
      rw [key, sm_mul, hs, getD_mul k r i hi, Int.mul_sub]
      rw [show T * (k * r.getD i 0) = k * T * r.getD i 0 by rw [← Int.mul_assoc, Int.mul_comm T k]]
    refine ⟨hlen.symm, fun i hi => hr i (by omega), fun i j hi hj hij h2 => .inl ?_⟩
    rw [hkey i _ (by omega), hkey j _ (by omega)]
    rw [show r.getD i 0 - 1 - r.getD i 0 = -1 by omega, show r.getD j 0 - r.getD j 0 = 0 by omega]
    omega
  have hg := gr_opt (s := sm (mul_ k r)) (T := T) (l := mul_ k r) (by rw [sm_mul, hs]; exact hsp) (by omega) (T - (mul_ k r).length).toNat
  rw [opt_unique (by rw [sm_mul, hs]; exact hsp) hg.1 hopt (by rw [hg.2, hs]; omega)]
theorem quant_cases (l : List Int) (T : Int) : ((quantS l T).1 = [] ∧ (quantS l T).2 ≠ 0) ∨ (quantS l T = (gr (sm l) T l (T - l.length).toNat, 0) ∧ 0 < l.length ∧ okW l = true ∧ (l.length : Int) ≤ T ∧ T ≤ 65536) := by
  unfold quantS
  by_cases h1 : l.length = 0
  · rw [if_pos h1]; exact .inl ⟨rfl, by decide⟩
  rw [if_neg h1]
  by_cases h2 : 65536 < l.length
  · rw [if_pos h2]; exact .inl ⟨rfl, by decide⟩
  rw [if_neg h2]
  by_cases h3 : okW l = false ∨ T < l.length ∨ 65536 < T
  · rw [if_pos h3]; exact .inl ⟨rfl, by decide⟩
  · rw [if_neg h3]
    simp only [not_or] at h3
    exact .inr ⟨rfl, by omega, by simpa using h3.1, by omega, by omega⟩

/-- what the law's loops find of the numbers -/
structure Fine (s T : Int) (l r : List Int) : Prop where
  len : r.length = l.length
  one : ∀ i, i < l.length → 1 ≤ r.getD i 0 ∧ r.getD i 0 ≤ 500
  sum : sm r = T
  ok : okW r = true
  best : ∀ i j, i < l.length → j < l.length → ¬ (s * r.getD j 0 - T * l.getD j 0 < s * (r.getD i 0 - 1) - T * l.getD i 0) ∨ ¬ 1 < r.getD i 0
theorem okW_of_getD {r : List Int} (h : ∀ i, i < r.length → 1 ≤ r.getD i 0 ∧ r.getD i 0 ≤ 65536) : okW r = true := by
  simp only [okW, List.all_eq_true]
  intro x hx
  obtain ⟨i, hi, rfl⟩ := List.mem_iff_getElem.1 hx
  have := h i hi
  simp [List.getD, hi] at this
  simpa using this
theorem fine_of {T : Int} {l : List Int} (h0 : 0 < l.length) (hok : okW l = true) (hT : (l.length : Int) ≤ T) (hT2 : T ≤ 500) : Fine (sm l) T l (gr (sm l) T l (T - l.length).toNat) := by
  have hsb := sm_bound hok
  have hg := gr_opt (s := sm l) (T := T) (l := l) (by omega) h0 (T - l.length).toNat
  have hb := fun i hi => gr_bound (s := sm l) (T := T) (l := l) (by omega) h0 (T - l.length).toNat i hi
  generalize gr (sm l) T l (T - l.length).toNat = r at *
  refine ⟨hg.1.len, fun i hi => ⟨(hb i hi).1, by have := (hb i hi).2; omega⟩, by rw [hg.2]; omega, okW_of_getD (fun i hi => by have h7 := hb i (by have := hg.1.len; omega); omega), fun i j hi hj => ?_⟩
  by_cases h1 : 1 < r.getD i 0
  · left
    by_cases hij : i = j
    · subst hij
      rw [Int.mul_sub]
      omega
    · have := hg.1.best i j hi hj hij h1
      unfold key at this
      omega
  · exact .inr h1
end Go.Proofs.Ytjobcobgmajajaa
