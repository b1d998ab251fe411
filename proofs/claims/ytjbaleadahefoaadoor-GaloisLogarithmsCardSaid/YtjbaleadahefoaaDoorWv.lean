/- Contracts of the specification of galois: raise, Pow, order. -/
import Derived.Test.YtjbaleadahefoaaDoorWq
import Derived.Test.YtjbaleadahefoaaDoorWr
set_option linter.unusedVariables false
namespace Go.Proofs.YtjbaleadahefoaaDoor
open Go.RowKit

set_option maxRecDepth 100000 in
theorem raise_ok (c q x z : Int) (n : Nat) (hn : 2 ≤ n) (hn2 : n ≤ 4096) (hx0 : ¬ x = 0) (e t E : Int) (ht : e.tmod ((n : Int) - 1) = t) (hE : (t + ((n : Int) - 1)).tmod ((n : Int) - 1) = E) (ht1 : -4096 ≤ t) (ht2 : t ≤ 4096) (hE1 : 0 ≤ E) (hE2 : E < 4096)
    (HP : ∀ w, Calls Tryd.prog 67 #[.agg #[.int .i64 c, .int .i64 n, .int .i64 q], .int .i64 x, .int .i64 E] w fun e w' => e = .returned (.int .i64 z) ∧ Below w.heap.size w w') (w : World) :
    Calls Tryd.prog 56 #[.agg #[.int .i64 c, .int .i64 n, .int .i64 q], .int .i64 x, .int .i64 e] w fun e w' => e = .returned (.int .i64 z) ∧ Below w.heap.size w w' := by
  obtain ⟨c1, c2, c3⟩ := (Fd.new w c n q).cells
  have F0 := (Fd.new w c n q).drew
  have hb0 := (below_new w (.cells #[.int .i64 c, .int .i64 n, .int .i64 q] 23)).drew
  obtain ⟨P, hP⟩ : ∃ P : Int, (n : Int) - 1 = P := ⟨_, rfl⟩
  obtain ⟨k, hk⟩ : ∃ k : Int, (n : Int) = k := ⟨_, rfl⟩
  rw [hP] at ht hE
  rw [hk] at hP HP c1 c2 c3 F0 hb0 ⊢
  have hP1 : 1 ≤ P := by omega
  have hP2 : P ≤ 4095 := by omega
  have hP0 : ¬ P = 0 := by omega
  have hw1 : IntKind.i64.wrap t = t := by rw [IntKind.wrap_i64]; omega
  have hw2 : IntKind.i64.wrap (t + P) = t + P := by rw [IntKind.wrap_i64]; omega
  have hw3 : IntKind.i64.wrap E = E := by rw [IntKind.wrap_i64]; omega
  have hkP : wrap64 (k - 1) = P := by rw [← hP]; unfold wrap64; omega
  have HPP := Lib.hid HP
  clear HP hn hn2 hk
  go_enter Tryd.func56, Tryd.ntmps56
  go_wp2
  go_region_held3 (fun V => V.cell? ⟨w.heap.size, 0, none⟩ = some (.int .i64 c) ∧ V.cell? ⟨w.heap.size, 1, none⟩ = some (.int .i64 k) ∧ V.cell? ⟨w.heap.size, 2, none⟩ = some (.int .i64 q))
    (first | (with_reducible exact F0.cells) | (with_reducible exact F1.cells) | go_keep)
    (first
    | (go_at_call 67; (with_reducible refine (HPP.out _).mono ?_); rintro e w5 ⟨rfl, hb5⟩; have F1 := F0.next hb5; have B5 := below_step hb0 hb5; clear F0 hb5 c1 c2 c3 hb0; obtain ⟨c1, c2, c3⟩ := F1.cells))
  all_goals
    go_wp2
    go_ret
    exact ⟨rfl, by first | exact B5 | exact B5.drew⟩
theorem raise_zero (c n q e : Int) (z : Int) (hz : z = if e = 0 then 1 else 0) (w : World) :
    Calls Tryd.prog 56 #[.agg #[.int .i64 c, .int .i64 n, .int .i64 q], .int .i64 0, .int .i64 e] w fun e w' => e = .returned (.int .i64 z) ∧ Below w.heap.size w w' := by
  obtain ⟨c1, c2, c3⟩ := (Fd.new w c n q).cells
  have hb0 := below_new w (.cells #[.int .i64 c, .int .i64 n, .int .i64 q] 23)
  by_cases h : e = 0
  · rw [if_pos h] at hz
    subst hz
    subst h
    go_enter Tryd.func56, Tryd.ntmps56
    go_wp2
    go_ret
    exact ⟨rfl, hb0⟩
  · rw [if_neg h] at hz
    subst hz
    go_enter Tryd.func56, Tryd.ntmps56
    go_wp2
    go_ret
    exact ⟨rfl, hb0⟩
end Go.Proofs.YtjbaleadahefoaaDoor
