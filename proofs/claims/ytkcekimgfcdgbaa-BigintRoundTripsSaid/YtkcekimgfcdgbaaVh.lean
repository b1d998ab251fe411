/- Contracts: the specification of ToInt, and what both refuse. -/
import Derived.Test.YtkcekimgfcdgbaaVg
set_option linter.unusedVariables false
namespace Go.Proofs.Ytkcekimgfcdgbaa
open Go.RowKit

set_option maxRecDepth 100000 in
theorem toInt_bad (neg : Bool) (A : Option Addr) (n c : Nat) (l : List Nat) (w : World) (hs : Sl w w.heap.size A n c (ml l)) (hok : Ok l) (hv : validB neg l = false) :
    Calls Try.prog 33 #[.agg #[.bool neg, .slice A n c]] w fun e w' => e = .returned (.tuple #[.int .i64 0, .int .i64 1]) ∧ Below w.heap.size w w' := by
  have hb0 := below_new w (.cells #[.bool neg, .slice A n c] 24)
  have h1 := hs.next hb0
  clear hs
  go_enter Try.func33, Try.ntmps33
  go_wp2_with fail
  refine (valid_false hv hok h1).mono ?_
  rintro e w1 ⟨rfl, hb1⟩
  go_wp2
  go_ret2
  exact ⟨rfl, below_step hb0 hb1⟩
set_option maxRecDepth 100000 in
theorem rToInt_bad (neg : Bool) (A : Option Addr) (n c : Nat) (l : List Nat) (w : World) (hs : Sl w w.heap.size A n c (ml l)) (hok : Ok l) (hv : validB neg l = false) :
    Calls Try.prog 34 #[.agg #[.bool neg, .slice A n c]] w fun e w' => e = .returned (.tuple #[.int .i64 0, .int .i64 1]) ∧ Below w.heap.size w w' := by
  have hb0 := below_new w (.cells #[.bool neg, .slice A n c] 24)
  have h1 := hs.next hb0
  clear hs
  go_enter Try.func34, Try.ntmps34
  go_wp2_with fail
  refine (rValid_false hv hok h1).mono ?_
  rintro e w1 ⟨rfl, hb1⟩
  go_wp2
  go_ret2
  exact ⟨rfl, below_step hb0 hb1⟩
end Go.Proofs.Ytkcekimgfcdgbaa
