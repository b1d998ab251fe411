/- Contracts of galois: Div. -/
import Derived.Test.YtjbaleadahefoaaDoorWc
set_option linter.unusedVariables false
namespace Go.Proofs.YtjbaleadahefoaaDoor
open Go.RowKit

set_option maxRecDepth 100000 in
theorem Div_ok (c n q x y v z : Int) (hc : I64 c) (hn : I64 n) (hq : I64 q) (hV : VF c n q) (hx : 0 ≤ x ∧ x < n) (hy : 0 ≤ y ∧ y < n) (hy0 : ¬ y = 0)
    (HP : ∀ w, Calls Tryd.prog 54 #[elV c n q y, .int .i64 (-1)] w fun e w' => e = .returned (elV c n q v) ∧ Below w.heap.size w w')
    (HT : ∀ w, Calls Tryd.prog 52 #[elV c n q x, elV c n q v] w fun e w' => e = .returned (elV c n q z) ∧ Below w.heap.size w w') (w : World) (hT : Tb w) :
    Calls Tryd.prog 23 #[.agg #[.int .i64 c, .int .i64 n, .int .i64 q], .int .i64 x, .int .i64 y] w fun e w' => e = .returned (.tuple #[.int .i64 z, .int .i64 0]) ∧ Below w.heap.size w w' := by
  obtain ⟨W, hW, HB, F, S⟩ := two_new w c n q x y
  have HA := areE_ok c n q hc hn hq hV [x, y] (EL.two hx hy) _ _ _ W (hT.next HB) S
  unfold elV at HT HP
  have HF := run_value c n q z
  have HTT := Lib.hid HT
  have HPP := Lib.hid HP
  have HFF := Lib.hid HF
  clear hc hn hq hV hx hy hT S HT HP HF
  go_enter Tryd.func23, Tryd.ntmps23
  go_wp2_with fail
  rw [← hW]
  refine HA.mono ?_
  rintro e w1 ⟨rfl, hb⟩
  have F1 := (F.next hb).drew
  have hB1 := (below_step HB hb).drew
  clear F HB hb HA hW
  obtain ⟨c1, c2, c3⟩ := F1.cells
  go_wp2
  have HF := HFF.out
  go_region_held3 (fun V => V.cell? ⟨w.heap.size, 0, none⟩ = some (.int .i64 c) ∧ V.cell? ⟨w.heap.size, 1, none⟩ = some (.int .i64 n) ∧ V.cell? ⟨w.heap.size, 2, none⟩ = some (.int .i64 q))
    (first | (with_reducible exact F1.cells) | (with_reducible exact F2.cells) | (with_reducible exact F3.cells) | go_keep)
    (first
    | (go_at_call 54; (with_reducible refine (HPP.out _).mono ?_); rintro e w2 ⟨rfl, hb2⟩; have F2 := F1.next hb2; have hB2 := below_step hB1 hb2; clear F1 hb2 c1 c2 c3 hB1; obtain ⟨c1, c2, c3⟩ := F2.cells)
    | (go_at_call 52; (with_reducible refine (HTT.out _).mono ?_); rintro e w3 ⟨rfl, hb3⟩; have F3 := F2.next hb3; have hB3 := below_step hB2 hb3; clear F2 hb3 c1 c2 c3 hB2; obtain ⟨c1, c2, c3⟩ := F3.cells))
  all_goals
    go_wp2
    exact bodyPost_ret (v := .tuple #[.int .i64 z, .int .i64 0]) (by simp [results, Tryd.results23, go_sem]) rfl ⟨rfl, by first | exact hB3 | exact hB3.drew⟩
end Go.Proofs.YtjbaleadahefoaaDoor
