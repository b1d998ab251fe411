/- BigintTexts returns true for any integer and any string. -/
import Derived.Test.YtkcekimgfcdgbaaLa
import Derived.Test.YtkcekimgfcdgbaaVr
set_option linter.unusedVariables false
namespace Go.Proofs.Ytkcekimgfcdgbaa
open Go.RowKit

set_option maxRecDepth 100000 in
set_option maxHeartbeats 4000000 in
theorem law_texts (B0 : Bool) (A0 : Option Addr) (n0 c0 : Nat) (l0 : List Nat) (s : ByteArray) (w : World) (s0 : Sl w w.heap.size A0 n0 c0 (ml l0)) (o0 : Ok l0) (hs63 : s.size ≤ 9223372036854775807) :
    Calls Try.prog 8 #[.agg #[.bool B0, .slice A0 n0 c0], .string s] w fun e w' => e = .returned (.bool true) ∧ Below w.heap.size w w' := by
  obtain ⟨q1, q2, q3, HP, HRP⟩ := parse_pair s hs63
  obtain ⟨S, HF, HRF⟩ := format_pair B0 A0 n0 c0 l0 o0
  have I0 : Bl (w.alloc (bx (.bool B0) (.slice A0 n0 c0))) w.heap.size B0 A0 n0 c0 l0 := ⟨At.new _ _ _, s0.next (below_new _ _)⟩
  have HB := below_new w (bx (.bool B0) (.slice A0 n0 c0))
  clear s0
  go_enter Try.func8, Try.ntmps8
  go_wp2_with fail
  refine (HP.out _).mono ?_
  intro e w4 h
  obtain ⟨A4, n4, c4, rfl, hs4, hb4⟩ := giveE_out h
  have X4 := Bx.new (neg := q1) hs4
  have hn4 := below_step hb4 (below_new w4 (.cells #[.bool q1, .slice A4 n4 c4] 24))
  replace I0 := I0.next hn4
  replace HB := below_step HB hn4
  clear h hs4 hb4 hn4
  go_wp2_with fail
  refine (HRP.out _).mono ?_
  intro e w5 h
  obtain ⟨A5, n5, c5, rfl, hs5, hb5⟩ := giveE_out h
  have X5 := Bx.new (neg := q1) hs5
  have hn5 := below_step hb5 (below_new w5 (.cells #[.bool q1, .slice A5 n5 c5] 24))
  replace X4 := (X4.next hn5).drew
  replace X5 := X5.drew
  replace I0 := (I0.next hn5).drew
  replace HB := (below_step HB hn5).drew
  clear h hs5 hb5 hn5 HP HRP
  obtain ⟨k1, k2⟩ := X4.cells
  obtain ⟨k3, k4⟩ := X5.cells
  obtain ⟨k5, k6⟩ := I0.cells
  go_wp2
  go_region_held3 (fun W => W.cell? ⟨w.heap.size, 0, none⟩ = some (.bool B0) ∧ W.cell? ⟨w.heap.size, 1, none⟩ = some (.slice A0 n0 c0) ∧ W.cell? ⟨w4.heap.size, 0, none⟩ = some (.bool q1) ∧ W.cell? ⟨w4.heap.size, 1, none⟩ = some (.slice A4 n4 c4) ∧ W.cell? ⟨w5.heap.size, 0, none⟩ = some (.bool q1) ∧ W.cell? ⟨w5.heap.size, 1, none⟩ = some (.slice A5 n5 c5))
    (first | (with_reducible exact ⟨k5, k6, k1, k2, k3, k4⟩))
    (first
    | (go_at_call 19; (with_reducible refine (same_eq _ _ _ _ _ X4.zi X5.zi).mono ?_); rintro e wd ⟨rfl, hbd⟩; have Y1 := I0.next hbd; have Y4 := X4.next hbd; have Y5 := X5.next hbd; have HB1 := below_step HB hbd; clear HB hbd I0 X4 X5 k1 k2 k3 k4 k5 k6; obtain ⟨k1, k2⟩ := Y4.cells; obtain ⟨k3, k4⟩ := Y5.cells; obtain ⟨k5, k6⟩ := Y1.cells)
    | (go_at_call 41; (with_reducible refine (HF.out _ Y1.sl).mono ?_); rintro e wd ⟨rfl, hbd⟩; have Z1 := Y1.next hbd; have Z4 := Y4.next hbd; have Z5 := Y5.next hbd; have HB2 := below_step HB1 hbd; clear HB1 hbd Y1 Y4 Y5 k1 k2 k3 k4 k5 k6; obtain ⟨k1, k2⟩ := Z4.cells; obtain ⟨k3, k4⟩ := Z5.cells; obtain ⟨k5, k6⟩ := Z1.cells)
    | (go_at_call 42; (with_reducible refine (HRF.out _ Z1.sl).mono ?_); rintro e wd ⟨rfl, hbd⟩; have U1 := Z1.next hbd; have U4 := Z4.next hbd; have U5 := Z5.next hbd; have HB3 := below_step HB2 hbd; clear HB2 hbd Z1 Z4 Z5 k1 k2 k3 k4 k5 k6; obtain ⟨k1, k2⟩ := U4.cells; obtain ⟨k3, k4⟩ := U5.cells; obtain ⟨k5, k6⟩ := U1.cells)
    | (go_at_call 24; (with_reducible refine (examples_any _).mono ?_); rintro e wd ⟨rfl, hbd⟩; have V1 := U1.next hbd; have V4 := U4.next hbd; have V5 := U5.next hbd; have HB4 := below_step HB3 hbd; clear HB3 hbd U1 U4 U5 k1 k2 k3 k4 k5 k6; obtain ⟨k1, k2⟩ := V4.cells; obtain ⟨k3, k4⟩ := V5.cells; obtain ⟨k5, k6⟩ := V1.cells))
  all_goals
    go_wp2
    go_ret
    exact ⟨rfl, HB4⟩
end Go.Proofs.Ytkcekimgfcdgbaa
