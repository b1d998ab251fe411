/- Contracts of galois: elements. -/
import Derived.Test.YtjbaleadahefoaaDoorW6
import Derived.BigRegion
set_option linter.unusedVariables false
namespace Go.Proofs.YtjbaleadahefoaaDoor
open Go.RowKit

/-- an element's struct lies at block g -/
def El (w : World) (g : Nat) (c n q v : Int) : Prop := w.heap[g]? = some (.cells #[.int .i64 c, .int .i64 n, .int .i64 q, .int .i64 v] 52 (0, 0))
theorem El.lt {w : World} {g : Nat} {c n q v : Int} (h : El w g c n q v) : g < w.heap.size := (Array.getElem?_eq_some_iff.1 h).1
theorem El.next {w w' : World} {g : Nat} {c n q v : Int} (h : El w g c n q v) (hb : Below w.heap.size w w') : El w' g c n q v := by
  unfold El; rw [hb.block g h.lt]; exact h
theorem El.drew {w : World} {g : Nat} {c n q v : Int} (h : El w g c n q v) : El w.drew g c n q v := h
theorem El.cells {w : World} {g : Nat} {c n q v : Int} (h : El w g c n q v) : w.cell? ⟨g, 0, none⟩ = some (.int .i64 c) ∧ w.cell? ⟨g, 1, none⟩ = some (.int .i64 n) ∧ w.cell? ⟨g, 2, none⟩ = some (.int .i64 q) ∧ w.cell? ⟨g, 3, none⟩ = some (.int .i64 v) := by
  refine ⟨?_, ?_, ?_, ?_⟩ <;> rw [cell_of_row _ _ _ _ _ _ h] <;> rfl
theorem El.frozen {w : World} {g : Nat} {c n q v : Int} (h : El w g c n q v) : w.frozen? ⟨g, 0, none⟩ = false ∧ w.frozen? ⟨g, 1, none⟩ = false ∧ w.frozen? ⟨g, 2, none⟩ = false ∧ w.frozen? ⟨g, 3, none⟩ = false := ⟨frozen_of_row _ _ _ _ _ h, frozen_of_row _ _ _ _ _ h, frozen_of_row _ _ _ _ _ h, frozen_of_row _ _ _ _ _ h⟩
theorem El.new (w : World) (c n q v : Int) : El (w.alloc (.cells #[.int .i64 c, .int .i64 n, .int .i64 q, .int .i64 v] 52)) w.heap.size c n q v := heap_alloc_new _ _
theorem below_four {W w : World} {g : Nat} (h : Below W.heap.size W w) (hg : W.heap.size ≤ g) (u v x y : Value) : Below W.heap.size W ((((w.setCell ⟨g, 0, none⟩ u).setCell ⟨g, 1, none⟩ v).setCell ⟨g, 2, none⟩ x).setCell ⟨g, 3, none⟩ y) :=
  (((h.setCell (p := ⟨g, 0, none⟩) hg u).setCell (p := ⟨g, 1, none⟩) hg v).setCell (p := ⟨g, 2, none⟩) hg x).setCell (p := ⟨g, 3, none⟩) hg y
theorem set_four {w : World} {g : Nat} {a b c d : Value} (c1 : w.cell? ⟨g, 0, none⟩ = some a) (c2 : w.cell? ⟨g, 1, none⟩ = some b) (c3 : w.cell? ⟨g, 2, none⟩ = some c) (c4 : w.cell? ⟨g, 3, none⟩ = some d) (u v x y : Value) :
    ((((w.setCell ⟨g, 0, none⟩ u).setCell ⟨g, 1, none⟩ v).setCell ⟨g, 2, none⟩ x).setCell ⟨g, 3, none⟩ y).cell? ⟨g, 0, none⟩ = some u ∧ ((((w.setCell ⟨g, 0, none⟩ u).setCell ⟨g, 1, none⟩ v).setCell ⟨g, 2, none⟩ x).setCell ⟨g, 3, none⟩ y).cell? ⟨g, 1, none⟩ = some v ∧ ((((w.setCell ⟨g, 0, none⟩ u).setCell ⟨g, 1, none⟩ v).setCell ⟨g, 2, none⟩ x).setCell ⟨g, 3, none⟩ y).cell? ⟨g, 2, none⟩ = some x ∧ ((((w.setCell ⟨g, 0, none⟩ u).setCell ⟨g, 1, none⟩ v).setCell ⟨g, 2, none⟩ x).setCell ⟨g, 3, none⟩ y).cell? ⟨g, 3, none⟩ = some y := by
  refine ⟨?_, ?_, ?_, ?_⟩
  · rw [World.cell?_setCell_other _ _ _ _ (by simp), World.cell?_setCell_other _ _ _ _ (by simp), World.cell?_setCell_other _ _ _ _ (by simp), World.cell?_setCell_same _ _ _ c1]
  · rw [World.cell?_setCell_other _ _ _ _ (by simp), World.cell?_setCell_other _ _ _ _ (by simp), World.cell?_setCell_same _ _ _ (by rw [World.cell?_setCell_other _ _ _ _ (by simp)]; exact c2)]
  · rw [World.cell?_setCell_other _ _ _ _ (by simp), World.cell?_setCell_same _ _ _ (by rw [World.cell?_setCell_other _ _ _ _ (by simp), World.cell?_setCell_other _ _ _ _ (by simp)]; exact c3)]
  · rw [World.cell?_setCell_same _ _ _ (by rw [World.cell?_setCell_other _ _ _ _ (by simp), World.cell?_setCell_other _ _ _ _ (by simp), World.cell?_setCell_other _ _ _ _ (by simp)]; exact c4)]

theorem peel_four {w : World} {g : Nat} {a b c d : Value} (c1 : w.cell? ⟨g, 0, none⟩ = some a) (c2 : w.cell? ⟨g, 1, none⟩ = some b) (c3 : w.cell? ⟨g, 2, none⟩ = some c) (c4 : w.cell? ⟨g, 3, none⟩ = some d) (u v x y : Value) :
    (w.setCell ⟨g, 0, none⟩ u).cell? ⟨g, 0, none⟩ = some u ∧ ((w.setCell ⟨g, 0, none⟩ u).setCell ⟨g, 1, none⟩ v).cell? ⟨g, 1, none⟩ = some v ∧ (((w.setCell ⟨g, 0, none⟩ u).setCell ⟨g, 1, none⟩ v).setCell ⟨g, 2, none⟩ x).cell? ⟨g, 2, none⟩ = some x ∧ ((((w.setCell ⟨g, 0, none⟩ u).setCell ⟨g, 1, none⟩ v).setCell ⟨g, 2, none⟩ x).setCell ⟨g, 3, none⟩ y).cell? ⟨g, 3, none⟩ = some y := by
  refine ⟨World.cell?_setCell_same _ _ _ c1, World.cell?_setCell_same _ _ _ (by rw [World.cell?_setCell_other _ _ _ _ (by simp)]; exact c2), World.cell?_setCell_same _ _ _ (by rw [World.cell?_setCell_other _ _ _ _ (by simp), World.cell?_setCell_other _ _ _ _ (by simp)]; exact c3), World.cell?_setCell_same _ _ _ (by rw [World.cell?_setCell_other _ _ _ _ (by simp), World.cell?_setCell_other _ _ _ _ (by simp), World.cell?_setCell_other _ _ _ _ (by simp)]; exact c4)⟩
/-- an element as a value -/
def elV (c n q v : Int) : Value := .agg #[.int .i64 c, .int .i64 n, .int .i64 q, .int .i64 v]
set_option maxRecDepth 100000 in
theorem one_any (c n q : Int) (w : World) : Calls Tryd.prog 66 #[.agg #[.int .i64 c, .int .i64 n, .int .i64 q]] w fun e w' => e = .returned (elV c n q 1) ∧ Below w.heap.size w w' := by
  go_enter Tryd.func66, Tryd.ntmps66
  go_wp2
  exact bodyPost_ret (v := .agg #[.int .i64 c, .int .i64 n, .int .i64 q, .int .i64 1]) (by simp [results, Tryd.results66, go_sem]) rfl ⟨rfl, below_step (below_new w _) (below_new _ _)⟩
/-- three structs of elements laid one behind the other -/
theorem three_el (w : World) (c n q x c' n' q' y : Int) : ∃ W, W = (((w.alloc (.cells #[.int .i64 c, .int .i64 n, .int .i64 q, .int .i64 x] 52)).alloc (.cells #[.int .i64 c', .int .i64 n', .int .i64 q', .int .i64 y] 52)).alloc (.cells #[.int .i64 0, .int .i64 0, .int .i64 0, .int .i64 0] 52)) ∧
    El W w.heap.size c n q x ∧ El W (w.heap.size + 1) c' n' q' y ∧ El W (w.heap.size + 1 + 1) 0 0 0 0 ∧ Below w.heap.size w W := by
  refine ⟨_, rfl, ?_, ?_, ?_, ?_⟩
  · exact ((El.new w c n q x).next (below_new _ _)).next (below_new _ _)
  · have := (El.new (w.alloc (.cells #[.int .i64 c, .int .i64 n, .int .i64 q, .int .i64 x] 52)) c' n' q' y).next (below_new _ (.cells #[.int .i64 0, .int .i64 0, .int .i64 0, .int .i64 0] 52))
    simpa using this
  · have := El.new ((w.alloc (.cells #[.int .i64 c, .int .i64 n, .int .i64 q, .int .i64 x] 52)).alloc (.cells #[.int .i64 c', .int .i64 n', .int .i64 q', .int .i64 y] 52)) 0 0 0 0
    simpa using this
  · exact below_step (below_step (below_new w _) (below_new _ _)) (below_new _ _)
set_option maxRecDepth 100000 in
theorem timesP_any (c n q x y z : Int) (hc : ¬ c = 2) (hz : (x * y) % n = z) (hxy0 : 0 ≤ x * y) (hxy1 : x * y ≤ 16777216) (hn : 1 ≤ n) (hn2 : n ≤ 4096) (c' n' q' : Int) (w : World) :
    Calls Tryd.prog 52 #[elV c n q x, elV c' n' q' y] w fun e w' => e = .returned (elV c n q z) ∧ Below w.heap.size w w' := by
  unfold elV
  obtain ⟨W, hW, E1, E2, E3, HB⟩ := three_el w c n q x c' n' q' y
  have hw1 : IntKind.i64.wrap (x * y) = x * y := by rw [IntKind.wrap_i64]; omega
  have hn0 : ¬ n = 0 := by omega
  have hz0 : 0 ≤ z := by rw [← hz]; exact Int.emod_nonneg _ hn0
  have hz1 : z < n := by rw [← hz]; exact Int.emod_lt_of_pos _ (by omega)
  have hm : (x * y).tmod n = z := by rw [Int.tmod_eq_emod_of_nonneg hxy0]; exact hz
  have hwz : IntKind.i64.wrap z = z := by rw [IntKind.wrap_i64]; omega
  clear hz hxy0 hxy1
  go_enter Tryd.func52, Tryd.ntmps52
  go_wp2
  rw [← hW]
  have F1 := E1
  have F2 := E2
  have F3 := E3
  have HBd := HB
  clear hW E1 E2 E3 HB
  obtain ⟨c1, c2, c3, c4⟩ := F1.cells
  obtain ⟨d1, d2, d3, d4⟩ := F2.cells
  obtain ⟨e1, e2, e3, e4⟩ := F3.cells
  obtain ⟨f1, f2, f3, f4⟩ := F3.frozen
  have l1 := F1.lt
  have l2 := F2.lt
  have l3 := F3.lt
  have n13 : ¬ w.heap.size + 1 + 1 = w.heap.size := by omega
  have n23 : ¬ w.heap.size + 1 + 1 = w.heap.size + 1 := by omega
  have hg30 : w.heap.size ≤ w.heap.size + 1 + 1 := by omega
  generalize w.heap.size + 1 + 1 = g3 at *
  generalize w.heap.size + 1 = g2 at *
  go_region
  obtain ⟨t1, t2, t3, t4⟩ := peel_four e1 e2 e3 e4 (.int .i64 c) (.int .i64 n) (.int .i64 q) (.int .i64 z)
  have hg3 := hg30
  all_goals
    go_wp2
    exact bodyPost_ret (v := .agg #[.int .i64 c, .int .i64 n, .int .i64 q, .int .i64 z]) (by simp [results, Tryd.results52, go_sem, t1, t2, t3, t4]) rfl ⟨rfl, by first | exact below_four HBd.drew hg3 _ _ _ _ | exact (below_four HBd hg3 _ _ _ _).drew⟩
end Go.Proofs.YtjbaleadahefoaaDoor
