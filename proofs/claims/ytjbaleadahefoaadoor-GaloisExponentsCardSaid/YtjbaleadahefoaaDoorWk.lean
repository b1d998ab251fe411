/- Contracts of galois: the field with 7 elements. -/
import Derived.Test.YtjbaleadahefoaaDoorWj
set_option linter.unusedVariables false
namespace Go.Proofs.YtjbaleadahefoaaDoor
open Go.RowKit

/-- products in the field with 7 elements -/
def T7 (a b : Nat) : Nat := a * b % 7
theorem times7 (a b : Nat) (ha : a < 7) (hb : b < 7) : T7 a b < 7 ∧ ∀ w, Calls Tryd.prog 52 #[elV 7 (7 : Nat) 0 a, elV 7 (7 : Nat) 0 b] w fun e w' => e = .returned (elV 7 (7 : Nat) 0 (T7 a b : Nat)) ∧ Below w.heap.size w w' := by
  have h : a * b ≤ 36 := Nat.mul_le_mul (show a ≤ 6 by omega) (show b ≤ 6 by omega)
  refine ⟨Nat.mod_lt _ (by omega), fun w => timesP_any 7 (7 : Nat) 0 a b (T7 a b : Nat) (by omega) ?_ ?_ ?_ (by omega) (by omega) 7 (7 : Nat) 0 w⟩
  · unfold T7; rw [← Int.natCast_mul, Int.natCast_emod]
  · rw [← Int.natCast_mul]; omega
  · rw [← Int.natCast_mul]; omega
theorem power7 (x : Nat) (hx : x < 7) (e : Nat) (he : e ≤ 4096) (w : World) : Calls Tryd.prog 54 #[elV 7 (7 : Nat) 0 x, .int .i64 (e : Int)] w fun r w' => r = .returned (elV 7 (7 : Nat) 0 (pwr T7 12 (e % 6) 1 x : Nat)) ∧ Below w.heap.size w w' := by
  refine power_any T7 7 0 7 (by omega) (by omega) times7 x hx e ((e % 6 : Nat) : Int) (e % 6) ?_ ?_ (by omega) (by omega) (by omega) w
  · rw [Int.tmod_eq_emod_of_nonneg (by omega)]; omega
  · rw [Int.tmod_eq_emod_of_nonneg (by omega)]; omega
theorem power7m (x : Nat) (hx : x < 7) (w : World) : Calls Tryd.prog 54 #[elV 7 (7 : Nat) 0 x, .int .i64 (-1)] w fun r w' => r = .returned (elV 7 (7 : Nat) 0 (pwr T7 12 5 1 x : Nat)) ∧ Below w.heap.size w w' :=
  power_any T7 7 0 7 (by omega) (by omega) times7 x hx (-1) (-1) 5 (by decide) (by decide) (by omega) (by omega) (by omega) w
/-- orders in the field with 7 elements -/
def Ord7 (v : Nat) : Nat := if v = 1 then 1 else if v = 2 then 3 else 6
theorem order7 (v : Nat) (h1 : 1 ≤ v) (h3 : v ≤ 3) (w : World) : Calls Tryd.prog 59 #[elV 7 (7 : Nat) 0 v] w fun r w' => r = .returned (.int .i64 (Ord7 v : Nat)) ∧ Below w.heap.size w w' := by
  have h := order_any (fun e => pwr T7 12 (e % 6) 1 v) 7 0 7 (by omega) (by omega) v (fun e he w => power7 v (by omega) e he w) w
  have ho : outr (fun e => pwr T7 12 (e % 6) 1 v) 4098 (7 - 1) (7 - 1) 2 = Ord7 v := by
    rcases (show v = 1 ∨ v = 2 ∨ v = 3 by omega) with rfl | rfl | rfl <;> decide +kernel
  rw [ho] at h
  exact h
theorem generator7 (w : World) : Calls Tryd.prog 57 #[.agg #[.int .i64 7, .int .i64 7, .int .i64 0]] w fun r w' => r = .returned (elV 7 7 0 3) ∧ Below w.heap.size w w' := by
  refine generator_any Ord7 7 0 7 (by omega) (by omega) 3 (by omega) (by omega) (by decide) ?_ ?_ (fun v h1 h3 w => order7 v h1 h3 w) w
  · intro v h1 h3
    rcases (show v = 1 ∨ v = 2 by omega) with rfl | rfl <;> decide
  · intro v
    unfold Ord7
    split
    · omega
    · split <;> omega
theorem logarithm7 (w : World) : Calls Tryd.prog 61 #[elV 7 7 0 6, elV 7 7 0 3] w fun e w' => e = .returned (.int .i64 3) ∧ Below w.heap.size w w' := by
  let Tp : Nat → Nat := fun k => Nat.rec 1 (fun _ r => T7 r 3) k
  let Ap : Nat → Nat := fun k => Nat.rec 6 (fun _ r => T7 r 6) k
  have hT : ∀ k, Tp k < 7 := fun k => by cases k with
    | zero => show 1 < 7; omega
    | succ k => exact Nat.mod_lt _ (by omega)
  have hA : ∀ k, Ap k < 7 := fun k => by cases k with
    | zero => show 6 < 7; omega
    | succ k => exact Nat.mod_lt _ (by omega)
  refine logarithm_any 7 0 7 (by unfold I64; omega) (by unfold I64; omega) (by omega) (by omega) T7 times7 3 (by omega) (by omega) (by omega) ?_ 3 (by omega) Tp rfl (fun k => rfl) hT ?_ 6 (by omega) ?_ 6 Ap rfl (fun k => rfl) hA 1 0 (by omega) (by omega) (by decide) ?_ w
  · intro k hk
    rcases (show k = 0 ∨ k = 1 ∨ k = 2 by omega) with rfl | rfl | rfl <;> decide
  · intro i j hi hj h
    rcases (show i = 0 ∨ i = 1 ∨ i = 2 by omega) with rfl | rfl | rfl <;> rcases (show j = 0 ∨ j = 1 ∨ j = 2 by omega) with rfl | rfl | rfl <;> first | rfl | (revert h; decide)
  · intro w
    exact power7m 6 (by omega) w
  · intro s hs i hi
    obtain rfl : s = 0 := by omega
    rcases (show i = 0 ∨ i = 1 ∨ i = 2 by omega) with rfl | rfl | rfl <;> decide
end Go.Proofs.YtjbaleadahefoaaDoor
