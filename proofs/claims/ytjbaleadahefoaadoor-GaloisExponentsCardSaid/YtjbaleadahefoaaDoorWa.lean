/- Contracts of galois: sums, powers. -/
import Derived.Test.YtjbaleadahefoaaDoorW9
import Derived.BigRegion
set_option linter.unusedVariables false
namespace Go.Proofs.YtjbaleadahefoaaDoor
open Go.RowKit

set_option maxRecDepth 100000 in
theorem plusP_any (c n q x y z : Int) (hc : ¬ c = 2) (hz : (x + y) % n = z) (hx : 0 ≤ x ∧ x ≤ 4096) (hy : 0 ≤ y ∧ y ≤ 4096) (hn : 1 ≤ n) (hn2 : n ≤ 4096) (c' n' q' : Int) (w : World) :
    Calls Tryd.prog 48 #[elV c n q x, elV c' n' q' y] w fun e w' => e = .returned (elV c n q z) ∧ Below w.heap.size w w' := by
  unfold elV
  obtain ⟨W, hW, E1, E2, E3, HB⟩ := three_el w c n q x c' n' q' y
  have hw1 : IntKind.i64.wrap (x + y) = x + y := by rw [IntKind.wrap_i64]; omega
  have hn0 : ¬ n = 0 := by omega
  have hz0 : 0 ≤ z := by rw [← hz]; exact Int.emod_nonneg _ hn0
  have hz1 : z < n := by rw [← hz]; exact Int.emod_lt_of_pos _ (by omega)
  have hm : (x + y).tmod n = z := by rw [Int.tmod_eq_emod_of_nonneg (by omega)]; exact hz
  have hwz : IntKind.i64.wrap z = z := by rw [IntKind.wrap_i64]; omega
  clear hz hx hy
  go_enter Tryd.func48, Tryd.ntmps48
  go_wp2
  rw [← hW]
  have F1 := E1
  have F2 := E2
  have F3 := E3
  have HBd := HB
  clear hW E1 E2 E3 HB
  obtain ⟨c1, c2, c3, c4⟩ := F1.cells
  obtain ⟨d1, d2, d3, d4⟩ := F2.cells
  obtain ⟨e1, e2, e3, e4⟩ := F3.cells
  obtain ⟨f1, f2, f3, f4⟩ := F3.frozen
  have l1 := F1.lt
  have l2 := F2.lt
  have l3 := F3.lt
  have n13 : ¬ w.heap.size + 1 + 1 = w.heap.size := by omega
  have n23 : ¬ w.heap.size + 1 + 1 = w.heap.size + 1 := by omega
  have hg30 : w.heap.size ≤ w.heap.size + 1 + 1 := by omega
  generalize w.heap.size + 1 + 1 = g3 at *
  generalize w.heap.size + 1 = g2 at *
  go_region
  obtain ⟨t1, t2, t3, t4⟩ := peel_four e1 e2 e3 e4 (.int .i64 c) (.int .i64 n) (.int .i64 q) (.int .i64 z)
  have hg3 := hg30
  all_goals
    go_wp2
    exact bodyPost_ret (v := .agg #[.int .i64 c, .int .i64 n, .int .i64 q, .int .i64 z]) (by simp [results, Tryd.results48, go_sem, t1, t2, t3, t4]) rfl ⟨rfl, by first | exact below_four HBd.drew hg3 _ _ _ _ | exact (below_four HBd hg3 _ _ _ _).drew⟩

set_option maxRecDepth 100000 in
theorem plusB_any (n q : Int) (x y : Nat) (hx : x < 4096) (hy : y < 4096) (c' n' q' : Int) (w : World) :
    Calls Tryd.prog 48 #[elV 2 n q x, elV c' n' q' y] w fun e w' => e = .returned (elV 2 n q ((x ^^^ y : Nat) : Int)) ∧ Below w.heap.size w w' := by
  unfold elV
  have hxy := i64_xor x y 12 hx hy (by omega)
  obtain ⟨z, hz⟩ : ∃ z : Nat, x ^^^ y = z := ⟨_, rfl⟩
  rw [hz] at hxy ⊢
  clear hz hx hy
  generalize (x : Int) = xi at *
  generalize (y : Int) = yi at *
  go_enter Tryd.func48, Tryd.ntmps48
  go_wp2
  exact bodyPost_ret (v := .agg #[.int .i64 2, .int .i64 n, .int .i64 q, .int .i64 (z : Int)]) (by simp [results, Tryd.results48, go_sem]) rfl ⟨rfl, below_step (below_step (below_new w _) (below_new _ _)) (below_new _ _)⟩
end Go.Proofs.YtjbaleadahefoaaDoor
