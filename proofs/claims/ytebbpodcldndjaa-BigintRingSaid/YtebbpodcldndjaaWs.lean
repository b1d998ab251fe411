/- Contracts: smallDivisor. -/
import Derived.Test.YtebbpodcldndjaaWp
set_option linter.unusedVariables false
namespace Go.Proofs.Ytebbpodcldndjaa
open Go.RowKit

set_option maxRecDepth 100000 in
theorem smallDivisor_any (a b : Nat) (w : World) (ha : a < 18446744073709551616) (hb : b < 18446744073709551616) :
    Calls Try.prog 95 #[.int .u64 (a : Int), .int .u64 (b : Int)] w fun e w' => e = .returned (.int .u64 ((Nat.gcd a b : Nat) : Int)) ∧ Below w.heap.size w w' := by
  obtain ⟨g, hg⟩ : ∃ g, Nat.gcd a b = g := ⟨_, rfl⟩
  rw [hg]
  have HG := Lib.hid hg
  clear hg
  go_enter Try.func95, Try.ntmps95
  go_wp2
  go_loopw [0, 1] (fun x y wr => ∃ p q : Nat, x = .int .u64 (p : Int) ∧ y = .int .u64 (q : Int) ∧ p < 18446744073709551616 ∧ q < 18446744073709551616 ∧ Hid (Nat.gcd p q = g) ∧ Below w.heap.size w wr) (fun _ y _ => (intOf y).toNat)
  case atStart => exact ⟨a, b, rfl, rfl, ha, hb, HG, Below.refl _ _⟩
  case round =>
    obtain ⟨p, q, rfl, rfl, hp, hq, hh, hbel⟩ := hrel
    by_cases h0 : q = 0
    · subst h0
      have e := Lib.hid (show p = g by have := hh.out; rwa [Nat.gcd_zero_right] at this)
      go_wp2
      go_ret
      exact ⟨retI (by rw [e.out]), hbel⟩
    · have hn := natB (b := 0) h0
      have hm : p % q < q := Nat.mod_lt _ (by omega)
      have HH := Lib.hid (show Nat.gcd q (p % q) = g by rw [← hh.out, Nat.gcd_comm p q, Nat.gcd_rec q p, Nat.gcd_comm])
      have hqp : (0 : Int) < (q : Int) := by omega
      go_wp2
      go_quiet (fail)
      go_wp2
      go_roundw
      case rel =>
        rw [← Int.natCast_emod]
        exact ⟨q, p % q, rfl, rfl, hq, by omega, HH, below_drawn hbel _⟩
      case measure => simp [intOf]; omega
end Go.Proofs.Ytebbpodcldndjaa
