/- galois: both sides return the same fields. -/
import Derived.Test.YtjbaleadahefoaaDoorWl
set_option linter.unusedVariables false
namespace Go.Proofs.YtjbaleadahefoaaDoor
open Go.RowKit

theorem binary_pair (D q : Int) (hq : I64 q) : ∃ c n p e : Int, (∀ w, Tb w → Calls Tryd.prog 10 #[.int .i64 D, .int .i64 q] w fun r w' => r = .returned (fieldE c n p e) ∧ Below w.heap.size w w') ∧
    (∀ w, Calls Tryd.prog 11 #[.int .i64 D, .int .i64 q] w fun r w' => r = .returned (fieldE c n p e) ∧ Below w.heap.size w w') := by
  by_cases hr : D < 1 ∨ 12 < D
  · exact ⟨0, 0, 0, 3, fun w _ => binary_range D q hr w, fun w => rBinary_range D q hr w⟩
  · obtain ⟨d, rfl⟩ : ∃ d : Nat, D = d := ⟨D.toNat, by omega⟩
    have h1 : 1 ≤ d := by omega
    have h2 : d ≤ 12 := by omega
    by_cases hp : 0 ≤ q ∧ Deg q.toNat d ∧ ¬ HasD q.toNat d
    · obtain ⟨p, rfl⟩ : ∃ p : Nat, q = p := ⟨q.toNat, by omega⟩
      exact ⟨2, ((2 ^ d : Nat) : Int), p, 0, fun w hT => binary_ok d p h1 h2 hp.2.1 hp.2.2 w hT, fun w => rBinary_ok d p h1 h2 hp.2.1 hp.2.2 w⟩
    · exact ⟨0, 0, 0, 38, fun w hT => binary_poly d q h1 h2 hq.1 hq.2 hp w hT, fun w => rBinary_poly d q h1 h2 hq.1 hq.2 hp w⟩
theorem prime_pair (D : Int) : ∃ c n p e : Int, (∀ w, Tb w → Calls Tryd.prog 12 #[.int .i64 D] w fun r w' => r = .returned (fieldE c n p e) ∧ Below w.heap.size w w') ∧
    (∀ w, Calls Tryd.prog 13 #[.int .i64 D] w fun r w' => r = .returned (fieldE c n p e) ∧ Below w.heap.size w w') := by
  by_cases hr : D < 2 ∨ 4096 < D
  · exact ⟨0, 0, 0, 3, fun w _ => primeF_range D hr w, fun w => rPrime_range D hr w⟩
  · by_cases h2 : D = 2
    · subst h2
      exact ⟨2, 2, 2, 0, primeF_two, rPrime_two⟩
    · obtain ⟨n, rfl⟩ : ∃ n : Nat, D = n := ⟨D.toNat, by omega⟩
      have h3 : 2 < n := by omega
      have h4 : n ≤ 4096 := by omega
      by_cases hF : HasF n
      · exact ⟨0, 0, 0, 1, fun w hT => primeF_no n h3 h4 hF w hT, fun w => rPrime_no n h3 h4 hF w⟩
      · exact ⟨n, n, 0, 0, fun w hT => primeF_ok n h3 h4 hF w hT, fun w => rPrime_ok n h3 h4 hF w⟩
end Go.Proofs.YtjbaleadahefoaaDoor
