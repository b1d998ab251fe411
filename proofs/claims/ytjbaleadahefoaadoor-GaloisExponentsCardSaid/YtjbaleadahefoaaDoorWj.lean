/- Contracts of galois: Generator, Log. -/
import Derived.Test.YtjbaleadahefoaaDoorWi
set_option linter.unusedVariables false
namespace Go.Proofs.YtjbaleadahefoaaDoor
open Go.RowKit

set_option maxRecDepth 100000 in
theorem Generator_ok (c n q g : Int) (hc : I64 c) (hn : I64 n) (hq : I64 q) (hV : VF c n q)
    (HG : ∀ w, Calls Tryd.prog 57 #[.agg #[.int .i64 c, .int .i64 n, .int .i64 q]] w fun e w' => e = .returned (elV c n q g) ∧ Below w.heap.size w w') (w : World) (hT : Tb w) :
    Calls Tryd.prog 33 #[.agg #[.int .i64 c, .int .i64 n, .int .i64 q]] w fun e w' => e = .returned (.tuple #[.int .i64 g, .int .i64 0]) ∧ Below w.heap.size w w' := by
  have HB := below_new w (.cells #[.int .i64 c, .int .i64 n, .int .i64 q] 23)
  have F := Fd.new w c n q
  have HV := valid_any c n q hc hn hq true ⟨fun _ => hV, fun _ => rfl⟩ _ (hT.next HB)
  unfold elV at HG
  clear hc hn hq hV hT
  obtain ⟨c1, c2, c3⟩ := F.cells
  go_enter Tryd.func33, Tryd.ntmps33
  go_wp2_with fail
  refine HV.mono ?_
  rintro e w1 ⟨rfl, hb⟩
  have F1 := F.next hb
  have hB := below_step HB hb
  clear F HB hb HV c1 c2 c3
  obtain ⟨c1, c2, c3⟩ := F1.cells
  go_wp2_with fail
  refine (HG _).mono ?_
  rintro e w2 ⟨rfl, hb⟩
  have hF := run_value c n q g w2
  go_wp2
  exact bodyPost_ret (v := .tuple #[.int .i64 g, .int .i64 0]) (by simp [results, Tryd.results33, go_sem]) rfl ⟨rfl, below_step hB hb⟩

set_option maxRecDepth 100000 in
theorem Log_ok (c n q x g z : Int) (hc : I64 c) (hn : I64 n) (hq : I64 q) (hV : VF c n q) (hx : 0 ≤ x ∧ x < n) (hx0 : ¬ x = 0)
    (HG : ∀ w, Calls Tryd.prog 57 #[.agg #[.int .i64 c, .int .i64 n, .int .i64 q]] w fun e w' => e = .returned (elV c n q g) ∧ Below w.heap.size w w')
    (HL : ∀ w, Calls Tryd.prog 61 #[elV c n q x, elV c n q g] w fun e w' => e = .returned (.int .i64 z) ∧ Below w.heap.size w w') (w : World) (hT : Tb w) :
    Calls Tryd.prog 35 #[.agg #[.int .i64 c, .int .i64 n, .int .i64 q], .int .i64 x] w fun e w' => e = .returned (.tuple #[.int .i64 z, .int .i64 0]) ∧ Below w.heap.size w w' := by
  obtain ⟨W, hW, HB, F, S⟩ := one_new w c n q x
  have HA := areE_ok c n q hc hn hq hV [x] (EL.one hx) _ _ _ W (hT.next HB) S
  unfold elV at HG HL
  have HGG := Lib.hid HG
  have HLL := Lib.hid HL
  clear hc hn hq hV hx hT S HG HL
  go_enter Tryd.func35, Tryd.ntmps35
  go_wp2_with fail
  rw [← hW]
  refine HA.mono ?_
  rintro e w1 ⟨rfl, hb⟩
  have F1 := (F.next hb).drew
  have hB1 := (below_step HB hb).drew
  clear F HB hb HA hW
  obtain ⟨c1, c2, c3⟩ := F1.cells
  go_wp2
  go_region_held3 (fun V => V.cell? ⟨w.heap.size, 0, none⟩ = some (.int .i64 c) ∧ V.cell? ⟨w.heap.size, 1, none⟩ = some (.int .i64 n) ∧ V.cell? ⟨w.heap.size, 2, none⟩ = some (.int .i64 q))
    (first | (with_reducible exact F1.cells) | (with_reducible exact F2.cells) | (with_reducible exact F3.cells) | go_keep)
    (first
    | (go_at_call 57; (with_reducible refine (HGG.out _).mono ?_); rintro e w2 ⟨rfl, hb2⟩; have F2 := F1.next hb2; have hB2 := below_step hB1 hb2; clear F1 hb2 c1 c2 c3 hB1; obtain ⟨c1, c2, c3⟩ := F2.cells)
    | (go_at_call 61; (with_reducible refine (HLL.out _).mono ?_); rintro e w3 ⟨rfl, hb3⟩; have F3 := F2.next hb3; have hB3 := below_step hB2 hb3; clear F2 hb3 c1 c2 c3 hB2; obtain ⟨c1, c2, c3⟩ := F3.cells))
  all_goals
    go_wp2
    exact bodyPost_ret (v := .tuple #[.int .i64 z, .int .i64 0]) (by simp [results, Tryd.results35, go_sem]) rfl ⟨rfl, by first | exact hB3 | exact hB3.drew⟩
end Go.Proofs.YtjbaleadahefoaaDoor
