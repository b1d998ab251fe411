/- BigintMultiplies returns true for any two integers. -/
import Derived.Test.YtdbkjcaodllpjaaLa
set_option linter.unusedVariables false
namespace Go.Proofs.Ytdbkjcaodllpjaa
open Go.RowKit

set_option maxRecDepth 100000 in
set_option maxHeartbeats 4000000 in
theorem law_multiplies (B0 : Bool) (A0 : Option Addr) (n0 c0 : Nat) (l0 : List Nat) (B1 : Bool) (A1 : Option Addr) (n1 c1 : Nat) (l1 : List Nat) (w : World) (s0 : Sl w w.heap.size A0 n0 c0 (ml l0)) (o0 : Ok l0) (s1 : Sl w w.heap.size A1 n1 c1 (ml l1)) (o1 : Ok l1) :
    Calls Try.prog 4 #[.agg #[.bool B0, .slice A0 n0 c0], .agg #[.bool B1, .slice A1 n1 c1]] w fun e w' => e = .returned (.bool true) ∧ Below w.heap.size w w' := by
  obtain ⟨r1, r2, r3, HM, HRM⟩ := mul_pair B0 A0 n0 c0 l0 B1 A1 n1 c1 l1 o0 o1
  obtain ⟨I0, I1, HB⟩ := two_in w B0 A0 n0 c0 l0 B1 A1 n1 c1 l1 s0 s1
  clear s0 s1
  go_enter Try.func4, Try.ntmps4
  go_wp2_with fail
  refine (HM.out _ I0.sl I1.sl).mono ?_
  intro e w2 h
  obtain ⟨A2, n2, c2, rfl, hs2, hb2⟩ := giveE_out h
  have X2 := Bx.new (neg := r1) hs2
  have hn2 := below_step hb2 (below_new w2 (.cells #[.bool r1, .slice A2 n2 c2] 24))
  replace I0 := I0.next hn2
  replace I1 := I1.next hn2
  replace HB := below_step HB hn2
  obtain ⟨k1, k2⟩ := I0.cells
  obtain ⟨k3, k4⟩ := I1.cells
  clear h hs2 hb2 hn2
  go_wp2_with fail
  refine (HRM.out _ I0.sl I1.sl).mono ?_
  intro e w3 h
  obtain ⟨A3, n3, c3, rfl, hs3, hb3⟩ := giveE_out h
  have X3 := Bx.new (neg := r1) hs3
  have hn3 := below_step hb3 (below_new w3 (.cells #[.bool r1, .slice A3 n3 c3] 24))
  replace X2 := X2.next hn3
  replace HB := below_step HB hn3
  clear h hs3 hb3 hn3 I0 I1 k1 k2 k3 k4
  obtain ⟨k1, k2⟩ := X2.cells
  go_wp2_with fail
  refine (same_eq _ _ _ _ _ X2.zi X3.zi).mono ?_
  rintro e w4 ⟨rfl, hb4⟩
  replace HB := below_step HB hb4
  clear hb4 X2 X3 k1 k2
  go_wp2_with fail
  refine (examples_any _).mono ?_
  rintro e w5 ⟨rfl, hb5⟩
  go_wp2
  go_ret
  exact ⟨rfl, below_step HB hb5⟩
end Go.Proofs.Ytdbkjcaodllpjaa
