/- Contracts: ToInt and its specification. -/
import Derived.Test.YtkcekimgfcdgbaaLa
set_option linter.unusedVariables false
namespace Go.Proofs.Ytkcekimgfcdgbaa
open Go.RowKit

/-- what ToInt returns of a valid integer -/
def toIntS (neg : Bool) (v : Nat) : Int × Int :=
  if neg = true ∧ v ≤ 9223372036854775808 then (-(v : Int), 0) else if neg = false ∧ v < 9223372036854775808 then ((v : Int), 0) else (0, 13)
theorem toInt_big {neg : Bool} {v : Nat} (h : 2 < (enc v).length) : toIntS neg v = (0, 13) := by
  have h1 : ¬ v < 4294967296 ^ 2 := fun h2 => by have := (length_enc_le v 2).2 h2; omega
  have h2 : ¬ v < 18446744073709551616 := by simpa using h1
  unfold toIntS
  rw [if_neg (by omega), if_neg (by omega)]

set_option maxRecDepth 100000 in
set_option maxHeartbeats 2000000 in
theorem toInt_long (neg : Bool) (A : Option Addr) (n c v : Nat) (w : World) (hs : Sl w w.heap.size A n c (ml (enc v))) (hva : Vd neg v) (h2 : 2 < n) :
    Calls Try.prog 33 #[.agg #[.bool neg, .slice A n c]] w fun e w' => e = .returned (.tuple #[.int .i64 0, .int .i64 13]) ∧ Below w.heap.size w w' := by
  have HA := At.new w (.bool neg) (.slice A n c)
  have hb0 := below_new w (.cells #[.bool neg, .slice A n c] 24)
  have h1 := hs.next hb0
  clear hs
  have h2I : (2 : Int) < (n : Int) := by omega
  go_enter Try.func33, Try.ntmps33
  go_wp2_with fail
  refine (valid_true hva h1).mono ?_
  rintro e w1 ⟨rfl, hb1⟩
  obtain ⟨a1, a2, _, _⟩ := (HA.next hb1).facts
  have HB := below_step hb0 hb1
  clear h1
  go_wp2
  go_ret2
  exact ⟨rfl, HB⟩
end Go.Proofs.Ytkcekimgfcdgbaa
