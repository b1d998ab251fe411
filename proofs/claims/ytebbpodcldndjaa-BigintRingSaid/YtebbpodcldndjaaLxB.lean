/- BigintRing where one of the integers is none. -/
import Derived.Test.YtebbpodcldndjaaLo
set_option linter.unusedVariables false
namespace Go.Proofs.Ytebbpodcldndjaa
open Go.RowKit

set_option maxRecDepth 100000 in
set_option maxHeartbeats 4000000 in
theorem ring_bad (B0 : Bool) (A0 : Option Addr) (n0 c0 : Nat) (l0 : List Nat) (B1 : Bool) (A1 : Option Addr) (n1 c1 : Nat) (l1 : List Nat) (B2 : Bool) (A2 : Option Addr) (n2 c2 : Nat) (l2 : List Nat) (w : World) (s0 : Sl w w.heap.size A0 n0 c0 (ml l0)) (o0 : Ok l0) (s1 : Sl w w.heap.size A1 n1 c1 (ml l1)) (o1 : Ok l1) (s2 : Sl w w.heap.size A2 n2 c2 (ml l2)) (o2 : Ok l2)
    (hbad : (validB B0 l0 = false) ∨ (validB B0 l0 = true ∧ validB B1 l1 = false) ∨ (validB B0 l0 = true ∧ validB B1 l1 = true ∧ validB B2 l2 = false)) :
    Calls Try.prog 10 #[.agg #[.bool B0, .slice A0 n0 c0], .agg #[.bool B1, .slice A1 n1 c1], .agg #[.bool B2, .slice A2 n2 c2]] w fun e w' => e = .returned (.bool true) ∧ Below w.heap.size w w' := by
  have I := three_in w B0 A0 n0 c0 l0 B1 A1 n1 c1 l1 B2 A2 n2 c2 l2 s0 s1 s2
  clear s0 s1 s2
  rcases hbad with hv | ⟨hv, hv1⟩ | ⟨hv, hv1, hv2⟩
  · go_enter Try.func10, Try.ntmps10
    go_wp2_with fail
    refine (valid_false hv o0 I.a.sl).mono ?_
    rintro e w3 ⟨rfl, hb3⟩
    replace I := I.next hb3
    clear hb3
    go_wp2_with fail
    refine (examples_any _).mono ?_
    rintro e w5 ⟨rfl, hb5⟩
    go_wp2
    go_ret
    exact ⟨rfl, below_step I.bel hb5⟩
  · obtain ⟨ev, hva⟩ := of_validB o0 hv
    generalize val l0 = v at ev hva
    subst ev
    go_enter Try.func10, Try.ntmps10
    go_wp2_with fail
    refine (valid_true hva I.a.sl).mono ?_
    rintro e w2 ⟨rfl, hb2⟩
    replace I := I.next hb2
    obtain ⟨a1, a2, a3, a4, a5, a6⟩ := I.cells
    go_wp2_with fail
    refine (valid_false hv1 o1 I.b.sl).mono ?_
    rintro e w3 ⟨rfl, hb3⟩
    replace I := I.next hb3
    clear a1 a2 a3 a4 a5 a6 hb2 hb3
    go_wp2_with fail
    refine (examples_any _).mono ?_
    rintro e w5 ⟨rfl, hb5⟩
    go_wp2
    go_ret
    exact ⟨rfl, below_step I.bel hb5⟩
  · obtain ⟨ev, hva⟩ := of_validB o0 hv
    generalize val l0 = v at ev hva
    subst ev
    obtain ⟨ev1, hvb⟩ := of_validB o1 hv1
    generalize val l1 = v1 at ev1 hvb
    subst ev1
    go_enter Try.func10, Try.ntmps10
    go_wp2_with fail
    refine (valid_true hva I.a.sl).mono ?_
    rintro e w2 ⟨rfl, hb2⟩
    replace I := I.next hb2
    obtain ⟨a1, a2, a3, a4, a5, a6⟩ := I.cells
    go_wp2_with fail
    refine (valid_true hvb I.b.sl).mono ?_
    rintro e w3 ⟨rfl, hb3⟩
    replace I := I.next hb3
    clear a1 a2 a3 a4 a5 a6 hb2 hb3
    obtain ⟨a1, a2, a3, a4, a5, a6⟩ := I.cells
    go_wp2_with fail
    refine (valid_false hv2 o2 I.c.sl).mono ?_
    rintro e w4 ⟨rfl, hb4⟩
    replace I := I.next hb4
    clear a1 a2 a3 a4 a5 a6 hb4
    go_wp2_with fail
    refine (examples_any _).mono ?_
    rintro e w5 ⟨rfl, hb5⟩
    go_wp2
    go_ret
    exact ⟨rfl, below_step I.bel hb5⟩
end Go.Proofs.Ytebbpodcldndjaa
