/- Contracts of galois: the chapter's examples. -/
import Derived.Test.YtjbaleadahefoaaDoorWk
set_option linter.unusedVariables false
namespace Go.Proofs.YtjbaleadahefoaaDoor
open Go.RowKit

theorem noF7 : ¬ HasF 7 := by rw [hasF_table (by omega)]; decide
theorem noD285 : ¬ HasD 285 8 := by rw [hasD_table (by omega) (by decide)]; decide +kernel
theorem deg285 : Deg 285 8 := ⟨by decide, by decide⟩
theorem VF7 : VF 7 7 0 := Or.inr ⟨by decide, rfl, rfl, by decide, by decide, noF7⟩
theorem VF256 : VF 2 256 285 := Or.inl ⟨rfl, 8, by decide, by decide, by decide, by decide, deg285, noD285⟩
theorem Binary256 (w : World) (hT : Tb w) : Calls Tryd.prog 10 #[.int .i64 8, .int .i64 285] w fun e w' => e = .returned (.tuple #[.agg #[.int .i64 2, .int .i64 256, .int .i64 285], .int .i64 0]) ∧ Below w.heap.size w w' :=
  binary_ok 8 285 (by omega) (by omega) deg285 noD285 w hT
theorem Prime7 (w : World) (hT : Tb w) : Calls Tryd.prog 12 #[.int .i64 7] w fun e w' => e = .returned (.tuple #[.agg #[.int .i64 7, .int .i64 7, .int .i64 0], .int .i64 0]) ∧ Below w.heap.size w w' :=
  primeF_ok 7 (by omega) (by omega) noF7 w hT
theorem Mul256 (w : World) (hT : Tb w) : Calls Tryd.prog 21 #[.agg #[.int .i64 2, .int .i64 256, .int .i64 285], .int .i64 128, .int .i64 2] w fun e w' => e = .returned (.tuple #[.int .i64 29, .int .i64 0]) ∧ Below w.heap.size w w' := by
  refine Mul_ok 2 256 285 128 2 29 (by unfold I64; omega) (by unfold I64; omega) (by unfold I64; omega) VF256 (by omega) (by omega) (fun w => ?_) w hT
  have h := timesB_any 256 285 8 128 2 deg285 (by omega) (by omega) (by omega) 2 256 285 w
  have hr : rm (clm 128 2 12) 285 = 29 := by decide +kernel
  rw [hr] at h
  exact h
theorem Add7 (w : World) (hT : Tb w) : Calls Tryd.prog 17 #[.agg #[.int .i64 7, .int .i64 7, .int .i64 0], .int .i64 5, .int .i64 6] w fun e w' => e = .returned (.tuple #[.int .i64 4, .int .i64 0]) ∧ Below w.heap.size w w' :=
  Add_ok 7 7 0 5 6 4 (by unfold I64; omega) (by unfold I64; omega) (by unfold I64; omega) VF7 (by omega) (by omega) (fun w => plusP_any 7 7 0 5 6 4 (by omega) (by decide) (by omega) (by omega) (by omega) (by omega) 7 7 0 w) w hT
theorem Div7 (w : World) (hT : Tb w) : Calls Tryd.prog 23 #[.agg #[.int .i64 7, .int .i64 7, .int .i64 0], .int .i64 1, .int .i64 3] w fun e w' => e = .returned (.tuple #[.int .i64 5, .int .i64 0]) ∧ Below w.heap.size w w' :=
  Div_ok 7 7 0 1 3 5 5 (by unfold I64; omega) (by unfold I64; omega) (by unfold I64; omega) VF7 (by omega) (by omega) (by omega) (fun w => power7m 3 (by omega) w) (fun w => timesP_any 7 7 0 1 5 5 (by omega) (by decide) (by omega) (by omega) (by omega) (by omega) 7 7 0 w) w hT
theorem Generator7 (w : World) (hT : Tb w) : Calls Tryd.prog 33 #[.agg #[.int .i64 7, .int .i64 7, .int .i64 0]] w fun e w' => e = .returned (.tuple #[.int .i64 3, .int .i64 0]) ∧ Below w.heap.size w w' :=
  Generator_ok 7 7 0 3 (by unfold I64; omega) (by unfold I64; omega) (by unfold I64; omega) VF7 generator7 w hT
theorem Log7 (w : World) (hT : Tb w) : Calls Tryd.prog 35 #[.agg #[.int .i64 7, .int .i64 7, .int .i64 0], .int .i64 6] w fun e w' => e = .returned (.tuple #[.int .i64 3, .int .i64 0]) ∧ Below w.heap.size w w' :=
  Log_ok 7 7 0 6 3 3 (by unfold I64; omega) (by unfold I64; omega) (by unfold I64; omega) VF7 (by omega) (by omega) generator7 logarithm7 w hT
theorem Valid7 (w : World) (hT : Tb w) : Calls Tryd.prog 14 #[.agg #[.int .i64 7, .int .i64 7, .int .i64 0]] w fun e w' => e = .returned (.bool true) ∧ Below w.heap.size w w' :=
  valid_any 7 7 0 (by unfold I64; omega) (by unfold I64; omega) (by unfold I64; omega) true ⟨fun _ => VF7, fun _ => rfl⟩ w hT

set_option maxRecDepth 100000 in
theorem alive_any (w : World) (hT : Tb w) : Calls Tryd.prog 16 #[] w fun e w' => e = .returned (.bool true) ∧ Below w.heap.size w w' := by
  go_enter Tryd.func16, Tryd.ntmps16
  go_wp2_with fail
  refine (Binary256 _ hT).mono ?_
  rintro e w1 ⟨rfl, hb⟩
  have hb1 := below_new w1 (.cells #[.int .i64 2, .int .i64 256, .int .i64 285] 23)
  have F1 := (Fd.new w1 2 256 285).fc
  have hB1 := below_step hb hb1
  have hT1 := (hT.next hb).next hb1
  clear hb hb1 hT
  go_wp2_with fail
  generalize w1.heap.size = g1 at *
  generalize (w1.alloc (.cells #[.int .i64 2, .int .i64 256, .int .i64 285] 23)) = v1 at *
  refine (Prime7 _ hT1).mono ?_
  rintro e w2 ⟨rfl, hb⟩
  have hb1 := below_new w2 (.cells #[.int .i64 7, .int .i64 7, .int .i64 0] 23)
  have G1 := (F1.next hb).next hb1
  have F2 := (Fd.new w2 7 7 0).fc
  have hB2 := below_step hB1 (below_step hb hb1)
  have hT2 := (hT1.next hb).next hb1
  clear hb hb1 hT1 F1 hB1
  obtain ⟨c0, c1, c2, c3⟩ := G1
  have G1 : Fc _ g1 2 256 285 := ⟨c0, c1, c2, c3⟩
  go_wp2_with fail
  generalize w2.heap.size = g2 at *
  generalize (w2.alloc (.cells #[.int .i64 7, .int .i64 7, .int .i64 0] 23)) = v2 at *
  refine (Mul256 _ hT2).mono ?_
  rintro e w3 ⟨rfl, hb⟩
  have H1 := G1.next hb
  have H2 := F2.next hb
  have hB3 := below_step hB2 hb
  have hT3 := hT2.next hb
  clear hb hT2 G1 F2 hB2 c0 c1 c2 c3
  obtain ⟨d0, d1, d2, d3⟩ := H2
  have H2 : Fc _ g2 7 7 0 := ⟨d0, d1, d2, d3⟩
  go_wp2_with fail
  refine (Generator7 _ hT3).mono ?_
  rintro e w4 ⟨rfl, hb⟩
  have I1 := H1.next hb
  have I2 := H2.next hb
  have hB4 := below_step hB3 hb
  have hT4 := hT3.next hb
  clear hb hT3 H1 H2 hB3 d0 d1 d2 d3
  obtain ⟨d0, d1, d2, d3⟩ := I2
  have I2 : Fc _ g2 7 7 0 := ⟨d0, d1, d2, d3⟩
  go_wp2_with fail
  refine (Log7 _ hT4).mono ?_
  rintro e w5 ⟨rfl, hb⟩
  have J1 := I1.next hb
  have J2 := I2.next hb
  have hB5 := below_step hB4 hb
  have hT5 := hT4.next hb
  clear hb hT4 I1 I2 hB4 d0 d1 d2 d3
  obtain ⟨d0, d1, d2, d3⟩ := J2
  have J2 : Fc _ g2 7 7 0 := ⟨d0, d1, d2, d3⟩
  go_wp2_with fail
  refine (Add7 _ hT5).mono ?_
  rintro e w6 ⟨rfl, hb⟩
  have K1 := J1.next hb
  have K2 := J2.next hb
  have hB6 := below_step hB5 hb
  have hT6 := hT5.next hb
  clear hb hT5 J1 J2 hB5 d0 d1 d2 d3
  obtain ⟨d0, d1, d2, d3⟩ := K2
  have K2 : Fc _ g2 7 7 0 := ⟨d0, d1, d2, d3⟩
  go_wp2_with fail
  refine (Div7 _ hT6).mono ?_
  rintro e w7 ⟨rfl, hb⟩
  have L1 := K1.next hb
  have L2 := K2.next hb
  have hB7 := below_step hB6 hb
  have hT7 := hT6.next hb
  clear hb hT6 K1 K2 hB6 d0 d1 d2 d3
  obtain ⟨d0, d1, d2, d3⟩ := L2
  obtain ⟨c0, c1, c2, c3⟩ := L1
  go_wp2_with fail
  refine (Valid7 _ hT7).mono ?_
  rintro e w8 ⟨rfl, hb⟩
  go_wp2
  go_ret
  exact ⟨rfl, below_step hB7 hb⟩
end Go.Proofs.YtjbaleadahefoaaDoor
