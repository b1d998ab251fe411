/- Contracts of galois: products in binary fields; products in any field. -/
import Derived.Test.YtjbaleadahefoaaDoorW7
set_option linter.unusedVariables false
namespace Go.Proofs.YtjbaleadahefoaaDoor
open Go.RowKit

set_option maxRecDepth 100000 in
theorem timesB_any (n : Int) (p D x y : Nat) (hdeg : Deg p D) (hD : D ≤ 12) (hx : x < 4096) (hy : y < 4096) (c' n' q' : Int) (w : World) :
    Calls Tryd.prog 52 #[elV 2 n p x, elV c' n' q' y] w fun e w' => e = .returned (elV 2 n p ((rm (clm x y 12) p : Nat) : Int)) ∧ Below w.heap.size w w' := by
  unfold elV
  obtain ⟨W, hW, E1, E2, E3, HB⟩ := three_el w 2 n p x c' n' q' y
  have HM := multiply_any x y hx hy
  have hcl : clm x y 12 < 1073741824 := Nat.lt_of_lt_of_le (clm_lt x y 12 12 hx) (by decide)
  have HR := remainder_any (clm x y 12) p D hdeg hD hcl
  obtain ⟨M, hM⟩ : ∃ M : Nat, clm x y 12 = M := ⟨_, rfl⟩
  rw [hM] at HM HR ⊢
  obtain ⟨z, hz⟩ : ∃ z : Nat, rm M p = z := ⟨_, rfl⟩
  rw [hz] at HR ⊢
  clear hM hz hcl hx hy hdeg hD
  generalize (p : Int) = q at *
  generalize (x : Int) = xi at *
  generalize (y : Int) = yi at *
  go_enter Tryd.func52, Tryd.ntmps52
  go_wp2
  rw [← hW]
  have F1 := E1
  have F2 := E2
  have F3 := E3
  have HBd := HB
  clear hW E1 E2 E3 HB
  obtain ⟨c1, c2, c3, c4⟩ := F1.cells
  obtain ⟨d1, d2, d3, d4⟩ := F2.cells
  obtain ⟨e1, e2, e3, e4⟩ := F3.cells
  obtain ⟨f1, f2, f3, f4⟩ := F3.frozen
  have l1 := F1.lt
  have l2 := F2.lt
  have l3 := F3.lt
  have n13 : ¬ w.heap.size + 1 + 1 = w.heap.size := by omega
  have n23 : ¬ w.heap.size + 1 + 1 = w.heap.size + 1 := by omega
  have hg30 : w.heap.size ≤ w.heap.size + 1 + 1 := by omega
  generalize w.heap.size + 1 + 1 = g3 at *
  generalize w.heap.size + 1 = g2 at *
  obtain ⟨t1, t2, t3, t4⟩ := peel_four e1 e2 e3 e4 (.int .i64 2) (.int .i64 n) (.int .i64 q) (.int .i64 (z : Int))
  have hg3 := hg30
  have S1 := F1.drew.cells
  have S2 := F2.drew.cells
  go_region_held3 (fun V => (V.cell? ⟨w.heap.size, 0, none⟩ = some (.int .i64 2) ∧ V.cell? ⟨w.heap.size, 1, none⟩ = some (.int .i64 n) ∧ V.cell? ⟨w.heap.size, 2, none⟩ = some (.int .i64 q) ∧ V.cell? ⟨w.heap.size, 3, none⟩ = some (.int .i64 xi)) ∧ V.cell? ⟨g2, 3, none⟩ = some (.int .i64 yi))
    (first | (with_reducible exact ⟨S1, S2.2.2.2⟩) | (with_reducible exact ⟨⟨c1, c2, c3, c4⟩, d4⟩) | go_keep | (refine ⟨⟨?_, ?_, ?_, ?_⟩, ?_⟩ <;> simp [n13, n23, c1, c2, c3, c4, d4]))
    (first
    | (go_at_call 65; (with_reducible refine (HM _).mono ?_); rintro e w1 ⟨rfl, rfl⟩)
    | (go_at_call 63; (with_reducible refine (HR _).mono ?_); rintro e w1 ⟨rfl, rfl⟩))
  all_goals
    go_wp2
    exact bodyPost_ret (v := .agg #[.int .i64 2, .int .i64 n, .int .i64 q, .int .i64 (z : Int)]) (by simp [results, Tryd.results52, go_sem, t1, t2, t3, t4]) rfl ⟨rfl, by first | exact below_four HBd.drew hg3 _ _ _ _ | exact (below_four HBd hg3 _ _ _ _).drew⟩
end Go.Proofs.YtjbaleadahefoaaDoor
