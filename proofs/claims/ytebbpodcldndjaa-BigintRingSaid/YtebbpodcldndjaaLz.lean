/- BigintRing returns true for any three integers: every case together. -/
import Derived.Test.YtebbpodcldndjaaLxB
import Derived.Test.YtebbpodcldndjaaLy
set_option linter.unusedVariables false
namespace Go.Proofs.Ytebbpodcldndjaa
open Go.RowKit

theorem law_ring (B0 : Bool) (A0 : Option Addr) (n0 c0 : Nat) (l0 : List Nat) (B1 : Bool) (A1 : Option Addr) (n1 c1 : Nat) (l1 : List Nat) (B2 : Bool) (A2 : Option Addr) (n2 c2 : Nat) (l2 : List Nat) (w : World) (s0 : Sl w w.heap.size A0 n0 c0 (ml l0)) (o0 : Ok l0) (s1 : Sl w w.heap.size A1 n1 c1 (ml l1)) (o1 : Ok l1) (s2 : Sl w w.heap.size A2 n2 c2 (ml l2)) (o2 : Ok l2) :
    Calls Try.prog 10 #[.agg #[.bool B0, .slice A0 n0 c0], .agg #[.bool B1, .slice A1 n1 c1], .agg #[.bool B2, .slice A2 n2 c2]] w fun e w' => e = .returned (.bool true) ∧ Below w.heap.size w w' := by
  cases h0 : validB B0 l0 with
  | false => exact ring_bad B0 A0 n0 c0 l0 B1 A1 n1 c1 l1 B2 A2 n2 c2 l2 w s0 o0 s1 o1 s2 o2 (.inl h0)
  | true =>
    cases h1 : validB B1 l1 with
    | false => exact ring_bad B0 A0 n0 c0 l0 B1 A1 n1 c1 l1 B2 A2 n2 c2 l2 w s0 o0 s1 o1 s2 o2 (.inr (.inl ⟨h0, h1⟩))
    | true =>
      cases h2 : validB B2 l2 with
      | false => exact ring_bad B0 A0 n0 c0 l0 B1 A1 n1 c1 l1 B2 A2 n2 c2 l2 w s0 o0 s1 o1 s2 o2 (.inr (.inr ⟨h0, h1, h2⟩))
      | true =>
        obtain ⟨e0, v0⟩ := of_validB o0 h0
        obtain ⟨e1, v1⟩ := of_validB o1 h1
        obtain ⟨e2, v2⟩ := of_validB o2 h2
        rw [e0] at s0
        rw [e1] at s1
        rw [e2] at s2
        exact ring_good2 B0 A0 n0 c0 _ B1 A1 n1 c1 _ B2 A2 n2 c2 _ w s0 s1 s2 v0 v1 v2
end Go.Proofs.Ytebbpodcldndjaa
