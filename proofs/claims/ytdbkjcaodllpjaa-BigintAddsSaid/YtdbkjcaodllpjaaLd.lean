/- BigintAdds returns true for any two integers. -/
import Derived.Test.YtdbkjcaodllpjaaLa
import Derived.Deep.RegionHeld3
import Derived.Deep.DrawnRows
set_option linter.unusedVariables false
namespace Go.Proofs.Ytdbkjcaodllpjaa
open Go.RowKit
attribute [local go_sem ↓] Go.wp_at_zero Go.wp_at_succ

/-- what stands while BigintAdds ends -/
structure Ad (W w : World) (B0 : Bool) (A0 : Option Addr) (n0 c0 : Nat) (l0 : List Nat) (B1 : Bool) (A1 : Option Addr) (n1 c1 : Nat) (l1 : List Nat) (g2 g3 g4 g5 : Nat) (r1 s1 : Bool) (r2 s2 : Nat) (A2 A3 A4 A5 : Option Addr) (n2 c2 n3 c3 n4 c4 n5 c5 : Nat) : Prop where
  a : Bl W w.heap.size B0 A0 n0 c0 l0
  b : Bl W (w.heap.size + 1) B1 A1 n1 c1 l1
  x : Bx W g2 r1 r2 A2 n2 c2
  y : Bx W g3 r1 r2 A3 n3 c3
  z : Bx W g4 s1 s2 A4 n4 c4
  u : Bx W g5 s1 s2 A5 n5 c5
  bel : Below w.heap.size w W
section
variable {W w : World} {B0 : Bool} {A0 : Option Addr} {n0 c0 : Nat} {l0 : List Nat} {B1 : Bool} {A1 : Option Addr} {n1 c1 : Nat} {l1 : List Nat} {g2 g3 g4 g5 : Nat} {r1 s1 : Bool} {r2 s2 : Nat} {A2 A3 A4 A5 : Option Addr} {n2 c2 n3 c3 n4 c4 n5 c5 : Nat}
theorem Ad.next {W' : World} (h : Ad W w B0 A0 n0 c0 l0 B1 A1 n1 c1 l1 g2 g3 g4 g5 r1 s1 r2 s2 A2 A3 A4 A5 n2 c2 n3 c3 n4 c4 n5 c5) (hb : Below W.heap.size W W') : Ad W' w B0 A0 n0 c0 l0 B1 A1 n1 c1 l1 g2 g3 g4 g5 r1 s1 r2 s2 A2 A3 A4 A5 n2 c2 n3 c3 n4 c4 n5 c5 :=
  ⟨h.a.next hb, h.b.next hb, h.x.next hb, h.y.next hb, h.z.next hb, h.u.next hb, below_step h.bel hb⟩
theorem Ad.drew (h : Ad W w B0 A0 n0 c0 l0 B1 A1 n1 c1 l1 g2 g3 g4 g5 r1 s1 r2 s2 A2 A3 A4 A5 n2 c2 n3 c3 n4 c4 n5 c5) : Ad W.drew w B0 A0 n0 c0 l0 B1 A1 n1 c1 l1 g2 g3 g4 g5 r1 s1 r2 s2 A2 A3 A4 A5 n2 c2 n3 c3 n4 c4 n5 c5 :=
  ⟨h.a.drew, h.b.drew, h.x.drew, h.y.drew, h.z.drew, h.u.drew, h.bel.drew⟩
theorem Ad.cells (h : Ad W w B0 A0 n0 c0 l0 B1 A1 n1 c1 l1 g2 g3 g4 g5 r1 s1 r2 s2 A2 A3 A4 A5 n2 c2 n3 c3 n4 c4 n5 c5) :
    W.cell? ⟨w.heap.size, 0, none⟩ = some (.bool B0) ∧ W.cell? ⟨w.heap.size, 1, none⟩ = some (.slice A0 n0 c0) ∧ W.cell? ⟨w.heap.size + 1, 0, none⟩ = some (.bool B1) ∧ W.cell? ⟨w.heap.size + 1, 1, none⟩ = some (.slice A1 n1 c1) ∧
    W.cell? ⟨g2, 0, none⟩ = some (.bool r1) ∧ W.cell? ⟨g2, 1, none⟩ = some (.slice A2 n2 c2) ∧ W.cell? ⟨g3, 0, none⟩ = some (.bool r1) ∧ W.cell? ⟨g3, 1, none⟩ = some (.slice A3 n3 c3) ∧
    W.cell? ⟨g4, 0, none⟩ = some (.bool s1) ∧ W.cell? ⟨g4, 1, none⟩ = some (.slice A4 n4 c4) ∧ W.cell? ⟨g5, 0, none⟩ = some (.bool s1) ∧ W.cell? ⟨g5, 1, none⟩ = some (.slice A5 n5 c5) :=
  ⟨h.a.cells.1, h.a.cells.2, h.b.cells.1, h.b.cells.2, h.x.cells.1, h.x.cells.2, h.y.cells.1, h.y.cells.2, h.z.cells.1, h.z.cells.2, h.u.cells.1, h.u.cells.2⟩
end

set_option maxRecDepth 100000 in
set_option maxHeartbeats 4000000 in
theorem law_adds (B0 : Bool) (A0 : Option Addr) (n0 c0 : Nat) (l0 : List Nat) (B1 : Bool) (A1 : Option Addr) (n1 c1 : Nat) (l1 : List Nat) (w : World) (s0 : Sl w w.heap.size A0 n0 c0 (ml l0)) (o0 : Ok l0) (s1 : Sl w w.heap.size A1 n1 c1 (ml l1)) (o1 : Ok l1) :
    Calls Try.prog 3 #[.agg #[.bool B0, .slice A0 n0 c0], .agg #[.bool B1, .slice A1 n1 c1]] w fun e w' => e = .returned (.bool true) ∧ Below w.heap.size w w' := by
  obtain ⟨r1, r2, r3, HM, HRM⟩ := add_pair B0 A0 n0 c0 l0 B1 A1 n1 c1 l1 o0 o1
  obtain ⟨q1, q2, q3, HS, HRS⟩ := sub_pair B0 A0 n0 c0 l0 B1 A1 n1 c1 l1 o0 o1
  obtain ⟨p1, p2, HN, HRN⟩ := neg_pair B0 A0 n0 c0 l0 o0
  obtain ⟨r, HC, HRC⟩ := cmp_pair B0 A0 n0 c0 l0 B1 A1 n1 c1 l1 o0 o1
  obtain ⟨I0, I1, HB⟩ := two_in w B0 A0 n0 c0 l0 B1 A1 n1 c1 l1 s0 s1
  clear s0 s1 o0 o1
  go_enter Try.func3, Try.ntmps3
  go_wp2_with fail
  refine (HM.out _ I0.sl I1.sl).mono ?_
  intro e w2 h
  obtain ⟨A2, n2, c2, rfl, hs2, hb2⟩ := giveE_out h
  have X2 := Bx.new (neg := r1) hs2
  have hn2 := below_step hb2 (below_new w2 (.cells #[.bool r1, .slice A2 n2 c2] 24))
  replace I0 := I0.next hn2
  replace I1 := I1.next hn2
  replace HB := below_step HB hn2
  obtain ⟨k1, k2⟩ := I0.cells
  obtain ⟨k3, k4⟩ := I1.cells
  clear h hs2 hb2 hn2
  go_wp2_with fail
  refine (HRM.out _ I0.sl I1.sl).mono ?_
  intro e w3 h
  obtain ⟨A3, n3, c3, rfl, hs3, hb3⟩ := giveE_out h
  have X3 := Bx.new (neg := r1) hs3
  have hn3 := below_step hb3 (below_new w3 (.cells #[.bool r1, .slice A3 n3 c3] 24))
  replace X2 := X2.next hn3
  replace I0 := I0.next hn3
  replace I1 := I1.next hn3
  replace HB := below_step HB hn3
  clear h hs3 hb3 hn3 k1 k2 k3 k4
  obtain ⟨k1, k2⟩ := I0.cells
  obtain ⟨k3, k4⟩ := I1.cells
  go_wp2_with fail
  refine (HS.out _ I0.sl I1.sl).mono ?_
  intro e w4 h
  obtain ⟨A4, n4, c4, rfl, hs4, hb4⟩ := giveE_out h
  have X4 := Bx.new (neg := q1) hs4
  have hn4 := below_step hb4 (below_new w4 (.cells #[.bool q1, .slice A4 n4 c4] 24))
  replace X2 := X2.next hn4
  replace X3 := X3.next hn4
  replace I0 := I0.next hn4
  replace I1 := I1.next hn4
  replace HB := below_step HB hn4
  clear h hs4 hb4 hn4 k1 k2 k3 k4
  obtain ⟨k1, k2⟩ := I0.cells
  obtain ⟨k3, k4⟩ := I1.cells
  go_wp2_with fail
  refine (HRS.out _ I0.sl I1.sl).mono ?_
  intro e w5 h
  obtain ⟨A5, n5, c5, rfl, hs5, hb5⟩ := giveE_out h
  have X5 := Bx.new (neg := q1) hs5
  have hn5 := below_step hb5 (below_new w5 (.cells #[.bool q1, .slice A5 n5 c5] 24))
  have HD0 : Ad _ w B0 A0 n0 c0 l0 B1 A1 n1 c1 l1 w2.heap.size w3.heap.size w4.heap.size w5.heap.size r1 q1 r2 q2 A2 A3 A4 A5 n2 c2 n3 c3 n4 c4 n5 c5 := ⟨I0.next hn5, I1.next hn5, X2.next hn5, X3.next hn5, X4.next hn5, X5, below_step HB hn5⟩
  have HD := HD0.drew
  clear h hs5 hb5 hn5 k1 k2 k3 k4 X2 X3 X4 X5 I0 I1 HB HD0 HM HRM HS HRS
  obtain ⟨k1, k2, k3, k4, k5, k6, k7, k8, k9, k10, k11, k12⟩ := HD.cells
  go_wp2
  go_region_held3 (fun W => W.cell? ⟨w.heap.size, 0, none⟩ = some (.bool B0) ∧ W.cell? ⟨w.heap.size, 1, none⟩ = some (.slice A0 n0 c0) ∧ W.cell? ⟨w.heap.size + 1, 0, none⟩ = some (.bool B1) ∧ W.cell? ⟨w.heap.size + 1, 1, none⟩ = some (.slice A1 n1 c1) ∧
    W.cell? ⟨w2.heap.size, 0, none⟩ = some (.bool r1) ∧ W.cell? ⟨w2.heap.size, 1, none⟩ = some (.slice A2 n2 c2) ∧ W.cell? ⟨w3.heap.size, 0, none⟩ = some (.bool r1) ∧ W.cell? ⟨w3.heap.size, 1, none⟩ = some (.slice A3 n3 c3) ∧
    W.cell? ⟨w4.heap.size, 0, none⟩ = some (.bool q1) ∧ W.cell? ⟨w4.heap.size, 1, none⟩ = some (.slice A4 n4 c4) ∧ W.cell? ⟨w5.heap.size, 0, none⟩ = some (.bool q1) ∧ W.cell? ⟨w5.heap.size, 1, none⟩ = some (.slice A5 n5 c5))
    (first | (with_reducible exact HD.cells) | (with_reducible exact HD1.cells) | (with_reducible exact HD2.cells) | (with_reducible exact HD3.cells) | (with_reducible exact HD4.cells) | (with_reducible exact HD5.cells) | (with_reducible exact HD6.cells) | (with_reducible exact HD7.cells) | (with_reducible exact HD8.cells))
    (first
    | (go_at_call 19; (with_reducible refine (same_eq _ _ _ _ _ HD.x.zi HD.y.zi).mono ?_); rintro e wd ⟨rfl, hbd⟩; have HD1 := HD.next hbd; clear HD hbd k1 k2 k3 k4 k5 k6 k7 k8 k9 k10 k11 k12; obtain ⟨k1, k2, k3, k4, k5, k6, k7, k8, k9, k10, k11, k12⟩ := HD1.cells)
    | (go_at_call 19; (with_reducible refine (same_eq _ _ _ _ _ HD1.z.zi HD1.u.zi).mono ?_); rintro e wd ⟨rfl, hbd⟩; have HD2 := HD1.next hbd; clear HD1 hbd k1 k2 k3 k4 k5 k6 k7 k8 k9 k10 k11 k12; obtain ⟨k1, k2, k3, k4, k5, k6, k7, k8, k9, k10, k11, k12⟩ := HD2.cells)
    | (go_at_call 20; (with_reducible refine (HN.out _ HD2.a.sl).mono ?_); intro e wd hm; obtain ⟨A6, n6, c6, rfl, hs6, hbd⟩ := giveI_out hm; have HD3 := HD2.next hbd; clear hm HD2 hbd k1 k2 k3 k4 k5 k6 k7 k8 k9 k10 k11 k12; obtain ⟨k1, k2, k3, k4, k5, k6, k7, k8, k9, k10, k11, k12⟩ := HD3.cells)
    | (go_at_call 21; (with_reducible refine (HRN.out _ HD3.a.sl).mono ?_); intro e wd hm; obtain ⟨A7, n7, c7, rfl, hs7, hbd⟩ := giveI_out hm; have HD4 := HD3.next hbd; have hs6n := hs6.next hbd; clear hm HD3 hbd hs6 k1 k2 k3 k4 k5 k6 k7 k8 k9 k10 k11 k12; obtain ⟨k1, k2, k3, k4, k5, k6, k7, k8, k9, k10, k11, k12⟩ := HD4.cells)
    | (go_at_call 19; (with_reducible refine (same_eq _ _ _ _ _ (sl_zi hs6n) (sl_zi hs7)).mono ?_); rintro e wd ⟨rfl, hbd⟩; have HD5 := HD4.next hbd; clear HD4 hbd hs6n hs7 k1 k2 k3 k4 k5 k6 k7 k8 k9 k10 k11 k12; obtain ⟨k1, k2, k3, k4, k5, k6, k7, k8, k9, k10, k11, k12⟩ := HD5.cells)
    | (go_at_call 22; (with_reducible refine (HC.out _ HD5.a.sl HD5.b.sl).mono ?_); rintro e wd ⟨rfl, hbd⟩; have HD6 := HD5.next hbd; clear HD5 hbd k1 k2 k3 k4 k5 k6 k7 k8 k9 k10 k11 k12; obtain ⟨k1, k2, k3, k4, k5, k6, k7, k8, k9, k10, k11, k12⟩ := HD6.cells)
    | (go_at_call 23; (with_reducible refine (HRC.out _ HD6.a.sl HD6.b.sl).mono ?_); rintro e wd ⟨rfl, hbd⟩; have HD7 := HD6.next hbd; clear HD6 hbd k1 k2 k3 k4 k5 k6 k7 k8 k9 k10 k11 k12; obtain ⟨k1, k2, k3, k4, k5, k6, k7, k8, k9, k10, k11, k12⟩ := HD7.cells)
    | (go_at_call 24; (with_reducible refine (examples_any _).mono ?_); rintro e wd ⟨rfl, hbd⟩; have HD8 := HD7.next hbd; clear HD7 hbd k1 k2 k3 k4 k5 k6 k7 k8 k9 k10 k11 k12; obtain ⟨k1, k2, k3, k4, k5, k6, k7, k8, k9, k10, k11, k12⟩ := HD8.cells))
  all_goals
    go_wp2
    go_ret
    exact ⟨rfl, HD8.bel⟩
end Go.Proofs.Ytdbkjcaodllpjaa
