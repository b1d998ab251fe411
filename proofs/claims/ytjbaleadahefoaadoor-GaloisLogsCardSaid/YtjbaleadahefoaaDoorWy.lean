/- galois: Pow and Exp on both sides. -/
import Derived.Test.YtjbaleadahefoaaDoorWx
set_option linter.unusedVariables false
namespace Go.Proofs.YtjbaleadahefoaaDoor
open Go.RowKit
set_option maxRecDepth 100000 in
theorem rPow_noV (c n q x k : Int) (hc : I64 c) (hn : I64 n) (hq : I64 q) (hV : ¬ VF c n q) (w : World) :
    Calls Tryd.prog 28 #[.agg #[.int .i64 c, .int .i64 n, .int .i64 q], .int .i64 x, .int .i64 k] w fun e w' => e = .returned (.tuple #[.int .i64 0, .int .i64 1]) ∧ Below w.heap.size w w' := by
  have HVV := Lib.hid (fun w => rValid_any c n q hc hn hq false ⟨fun e => (by cases e), fun e => absurd e hV⟩ w)
  clear hc hn hq hV
  have F0 := Fd.new w c n q
  have B0 := below_new w (.cells #[.int .i64 c, .int .i64 n, .int .i64 q] 23)
  obtain ⟨c1, c2, c3⟩ := F0.cells
  go_enter Tryd.func28, Tryd.ntmps28
  go_wp2_with fail
  refine (HVV.out _).mono ?_
  rintro e w1 ⟨rfl, hb⟩
  have F1 := F0.next hb
  have B1 := below_step B0 hb
  clear F0 B0 hb c1 c2 c3
  obtain ⟨c1, c2, c3⟩ := F1.cells
  go_wp2
  exact bodyPost_ret (v := .tuple #[.int .i64 0, .int .i64 1]) (by simp [results, Tryd.results28, go_sem]) rfl ⟨rfl, B1⟩
set_option maxRecDepth 100000 in
theorem rPow_noX (c n q x k : Int) (hc : I64 c) (hn : I64 n) (hq : I64 q) (hV : VF c n q) (hx : ¬ (0 ≤ x ∧ x < n)) (w : World) :
    Calls Tryd.prog 28 #[.agg #[.int .i64 c, .int .i64 n, .int .i64 q], .int .i64 x, .int .i64 k] w fun e w' => e = .returned (.tuple #[.int .i64 0, .int .i64 1]) ∧ Below w.heap.size w w' := by
  have HVV := Lib.hid (fun w => rValid_any c n q hc hn hq true ⟨fun _ => hV, fun _ => rfl⟩ w)
  have HXX := Lib.hid (fun w => rIs_any c n q x false ⟨fun e => (by cases e), fun e => absurd e hx⟩ w)
  clear hc hn hq hV hx
  have F0 := Fd.new w c n q
  have B0 := below_new w (.cells #[.int .i64 c, .int .i64 n, .int .i64 q] 23)
  obtain ⟨c1, c2, c3⟩ := F0.cells
  go_enter Tryd.func28, Tryd.ntmps28
  go_wp2_with fail
  refine (HVV.out _).mono ?_
  rintro e w1 ⟨rfl, hb⟩
  have F1 := F0.next hb
  have B1 := below_step B0 hb
  clear F0 B0 hb c1 c2 c3
  obtain ⟨c1, c2, c3⟩ := F1.cells
  go_wp2_with fail
  refine (HXX.out _).mono ?_
  rintro e w2 ⟨rfl, hb⟩
  have F2 := F1.next hb
  have B2 := below_step B1 hb
  clear F1 B1 hb c1 c2 c3
  obtain ⟨c1, c2, c3⟩ := F2.cells
  go_wp2
  exact bodyPost_ret (v := .tuple #[.int .i64 0, .int .i64 1]) (by simp [results, Tryd.results28, go_sem]) rfl ⟨rfl, B2⟩
set_option maxRecDepth 100000 in
theorem rPow_neg (c n q k : Int) (hc : I64 c) (hn : I64 n) (hq : I64 q) (hV : VF c n q) (hx : 0 ≤ (0 : Int) ∧ 0 < n) (hk : k < 0) (w : World) :
    Calls Tryd.prog 28 #[.agg #[.int .i64 c, .int .i64 n, .int .i64 q], .int .i64 0, .int .i64 k] w fun e w' => e = .returned (.tuple #[.int .i64 0, .int .i64 12]) ∧ Below w.heap.size w w' := by
  have HVV := Lib.hid (fun w => rValid_any c n q hc hn hq true ⟨fun _ => hV, fun _ => rfl⟩ w)
  have HXX := Lib.hid (fun w => rIs_any c n q 0 true ⟨fun _ => hx, fun _ => rfl⟩ w)
  clear hc hn hq hV hx
  have F0 := Fd.new w c n q
  have B0 := below_new w (.cells #[.int .i64 c, .int .i64 n, .int .i64 q] 23)
  obtain ⟨c1, c2, c3⟩ := F0.cells
  go_enter Tryd.func28, Tryd.ntmps28
  go_wp2_with fail
  refine (HVV.out _).mono ?_
  rintro e w1 ⟨rfl, hb⟩
  have F1 := F0.next hb
  have B1 := below_step B0 hb
  clear F0 B0 hb c1 c2 c3
  obtain ⟨c1, c2, c3⟩ := F1.cells
  go_wp2_with fail
  refine (HXX.out _).mono ?_
  rintro e w2 ⟨rfl, hb⟩
  have F2 := F1.next hb
  have B2 := below_step B1 hb
  clear F1 B1 hb c1 c2 c3
  obtain ⟨c1, c2, c3⟩ := F2.cells
  go_wp2
  exact bodyPost_ret (v := .tuple #[.int .i64 0, .int .i64 12]) (by simp [results, Tryd.results28, go_sem]) rfl ⟨rfl, B2⟩
set_option maxRecDepth 100000 in
theorem rPow_zero (c n q k z : Int) (hc : I64 c) (hn : I64 n) (hq : I64 q) (hV : VF c n q) (hx : 0 ≤ (0 : Int) ∧ 0 < n) (hk : ¬ k < 0)
    (HR : ∀ w, Calls Tryd.prog 56 #[.agg #[.int .i64 c, .int .i64 n, .int .i64 q], .int .i64 0, .int .i64 k] w fun e w' => e = .returned (.int .i64 z) ∧ Below w.heap.size w w') (w : World) :
    Calls Tryd.prog 28 #[.agg #[.int .i64 c, .int .i64 n, .int .i64 q], .int .i64 0, .int .i64 k] w fun e w' => e = .returned (.tuple #[.int .i64 z, .int .i64 0]) ∧ Below w.heap.size w w' := by
  have HVV := Lib.hid (fun w => rValid_any c n q hc hn hq true ⟨fun _ => hV, fun _ => rfl⟩ w)
  have HXX := Lib.hid (fun w => rIs_any c n q 0 true ⟨fun _ => hx, fun _ => rfl⟩ w)
  have HRR := Lib.hid HR
  clear hc hn hq hV hx HR
  have F0 := Fd.new w c n q
  have B0 := below_new w (.cells #[.int .i64 c, .int .i64 n, .int .i64 q] 23)
  obtain ⟨c1, c2, c3⟩ := F0.cells
  go_enter Tryd.func28, Tryd.ntmps28
  go_wp2_with fail
  refine (HVV.out _).mono ?_
  rintro e w1 ⟨rfl, hb⟩
  have F1 := F0.next hb
  have B1 := below_step B0 hb
  clear F0 B0 hb c1 c2 c3
  obtain ⟨c1, c2, c3⟩ := F1.cells
  go_wp2_with fail
  refine (HXX.out _).mono ?_
  rintro e w2 ⟨rfl, hb⟩
  have F2 := F1.next hb
  have B2 := below_step B1 hb
  clear F1 B1 hb c1 c2 c3
  obtain ⟨c1, c2, c3⟩ := F2.cells
  go_wp2_with fail
  refine (HRR.out _).mono ?_
  rintro e w3 ⟨rfl, hb⟩
  have F3 := F2.next hb
  have B3 := below_step B2 hb
  clear F2 B2 hb c1 c2 c3
  obtain ⟨c1, c2, c3⟩ := F3.cells
  go_wp2
  exact bodyPost_ret (v := .tuple #[.int .i64 z, .int .i64 0]) (by simp [results, Tryd.results28, go_sem]) rfl ⟨rfl, B3⟩
set_option maxRecDepth 100000 in
theorem rPow_ok (c n q x k z : Int) (hc : I64 c) (hn : I64 n) (hq : I64 q) (hV : VF c n q) (hx : 0 ≤ x ∧ x < n) (hx0 : ¬ x = 0)
    (HR : ∀ w, Calls Tryd.prog 56 #[.agg #[.int .i64 c, .int .i64 n, .int .i64 q], .int .i64 x, .int .i64 k] w fun e w' => e = .returned (.int .i64 z) ∧ Below w.heap.size w w') (w : World) :
    Calls Tryd.prog 28 #[.agg #[.int .i64 c, .int .i64 n, .int .i64 q], .int .i64 x, .int .i64 k] w fun e w' => e = .returned (.tuple #[.int .i64 z, .int .i64 0]) ∧ Below w.heap.size w w' := by
  have HVV := Lib.hid (fun w => rValid_any c n q hc hn hq true ⟨fun _ => hV, fun _ => rfl⟩ w)
  have HXX := Lib.hid (fun w => rIs_any c n q x true ⟨fun _ => hx, fun _ => rfl⟩ w)
  have HRR := Lib.hid HR
  clear hc hn hq hV hx HR
  have F0 := Fd.new w c n q
  have B0 := below_new w (.cells #[.int .i64 c, .int .i64 n, .int .i64 q] 23)
  obtain ⟨c1, c2, c3⟩ := F0.cells
  go_enter Tryd.func28, Tryd.ntmps28
  go_wp2_with fail
  refine (HVV.out _).mono ?_
  rintro e w1 ⟨rfl, hb⟩
  have F1 := F0.next hb
  have B1 := below_step B0 hb
  clear F0 B0 hb c1 c2 c3
  obtain ⟨c1, c2, c3⟩ := F1.cells
  go_wp2_with fail
  refine (HXX.out _).mono ?_
  rintro e w2 ⟨rfl, hb⟩
  have F2 := F1.next hb
  have B2 := below_step B1 hb
  clear F1 B1 hb c1 c2 c3
  obtain ⟨c1, c2, c3⟩ := F2.cells
  go_wp2_with fail
  refine (HRR.out _).mono ?_
  rintro e w3 ⟨rfl, hb⟩
  have F3 := F2.next hb
  have B3 := below_step B2 hb
  clear F2 B2 hb c1 c2 c3
  obtain ⟨c1, c2, c3⟩ := F3.cells
  go_wp2
  exact bodyPost_ret (v := .tuple #[.int .i64 z, .int .i64 0]) (by simp [results, Tryd.results28, go_sem]) rfl ⟨rfl, B3⟩
set_option maxRecDepth 100000 in
theorem rExp_no (c n q k : Int) (hc : I64 c) (hn : I64 n) (hq : I64 q) (hV : ¬ VF c n q) (w : World) :
    Calls Tryd.prog 30 #[.agg #[.int .i64 c, .int .i64 n, .int .i64 q], .int .i64 k] w fun e w' => e = .returned (.tuple #[.int .i64 0, .int .i64 1]) ∧ Below w.heap.size w w' := by
  have HVV := Lib.hid (fun w => rValid_any c n q hc hn hq false ⟨fun e => (by cases e), fun e => absurd e hV⟩ w)
  clear hc hn hq hV
  have F0 := Fd.new w c n q
  have B0 := below_new w (.cells #[.int .i64 c, .int .i64 n, .int .i64 q] 23)
  obtain ⟨c1, c2, c3⟩ := F0.cells
  go_enter Tryd.func30, Tryd.ntmps30
  go_wp2_with fail
  refine (HVV.out _).mono ?_
  rintro e w1 ⟨rfl, hb⟩
  have F1 := F0.next hb
  have B1 := below_step B0 hb
  clear F0 B0 hb c1 c2 c3
  obtain ⟨c1, c2, c3⟩ := F1.cells
  go_wp2
  exact bodyPost_ret (v := .tuple #[.int .i64 0, .int .i64 1]) (by simp [results, Tryd.results30, go_sem]) rfl ⟨rfl, B1⟩
set_option maxRecDepth 100000 in
theorem rExp_ok (c n q k g z : Int) (hc : I64 c) (hn : I64 n) (hq : I64 q) (hV : VF c n q)
    (HP : ∀ w, Calls Tryd.prog 58 #[.agg #[.int .i64 c, .int .i64 n, .int .i64 q]] w fun e w' => e = .returned (.int .i64 g) ∧ Below w.heap.size w w')
    (HR : ∀ w, Calls Tryd.prog 56 #[.agg #[.int .i64 c, .int .i64 n, .int .i64 q], .int .i64 g, .int .i64 k] w fun e w' => e = .returned (.int .i64 z) ∧ Below w.heap.size w w') (w : World) :
    Calls Tryd.prog 30 #[.agg #[.int .i64 c, .int .i64 n, .int .i64 q], .int .i64 k] w fun e w' => e = .returned (.tuple #[.int .i64 z, .int .i64 0]) ∧ Below w.heap.size w w' := by
  have HVV := Lib.hid (fun w => rValid_any c n q hc hn hq true ⟨fun _ => hV, fun _ => rfl⟩ w)
  have HRR := Lib.hid HR
  have HPP := Lib.hid HP
  clear hc hn hq hV HR HP
  have F0 := Fd.new w c n q
  have B0 := below_new w (.cells #[.int .i64 c, .int .i64 n, .int .i64 q] 23)
  obtain ⟨c1, c2, c3⟩ := F0.cells
  go_enter Tryd.func30, Tryd.ntmps30
  go_wp2_with fail
  refine (HVV.out _).mono ?_
  rintro e w1 ⟨rfl, hb⟩
  have F1 := F0.next hb
  have B1 := below_step B0 hb
  clear F0 B0 hb c1 c2 c3
  obtain ⟨c1, c2, c3⟩ := F1.cells
  have F2 := F1.drew
  have B2 := B1.drew
  clear F1 B1
  go_wp2
  go_region_held3 (fun V => V.cell? ⟨w.heap.size, 0, none⟩ = some (.int .i64 c) ∧ V.cell? ⟨w.heap.size, 1, none⟩ = some (.int .i64 n) ∧ V.cell? ⟨w.heap.size, 2, none⟩ = some (.int .i64 q))
    (first | (with_reducible exact F2.cells) | (with_reducible exact F5.cells) | (with_reducible exact F6.cells) | go_keep)
    (first
    | (go_at_call 58; (with_reducible refine (HPP.out _).mono ?_); rintro e w5 ⟨rfl, hb5⟩; have F5 := F2.next hb5; have B5 := below_step B2 hb5; clear F2 hb5 c1 c2 c3 B2; obtain ⟨c1, c2, c3⟩ := F5.cells)
    | (go_at_call 56; (with_reducible refine (HRR.out _).mono ?_); rintro e w6 ⟨rfl, hb6⟩; have F6 := F5.next hb6; have B6 := below_step B5 hb6; clear F5 hb6 c1 c2 c3 B5; obtain ⟨c1, c2, c3⟩ := F6.cells))
  all_goals
    go_wp2
    exact bodyPost_ret (v := .tuple #[.int .i64 z, .int .i64 0]) (by simp [results, Tryd.results30, go_sem]) rfl ⟨rfl, by first | exact B6 | exact B6.drew⟩
set_option maxRecDepth 100000 in
theorem Exp_no (c n q k : Int) (hc : I64 c) (hn : I64 n) (hq : I64 q) (hV : ¬ VF c n q) (w : World) (hT : Tb w) :
    Calls Tryd.prog 29 #[.agg #[.int .i64 c, .int .i64 n, .int .i64 q], .int .i64 k] w fun e w' => e = .returned (.tuple #[.int .i64 0, .int .i64 1]) ∧ Below w.heap.size w w' := by
  have HVV := Lib.hid (valid_any c n q hc hn hq false ⟨fun e => (by cases e), fun e => absurd e hV⟩ _ (hT.next (below_new w (.cells #[.int .i64 c, .int .i64 n, .int .i64 q] 23))))
  clear hc hn hq hV hT
  have F0 := Fd.new w c n q
  have B0 := below_new w (.cells #[.int .i64 c, .int .i64 n, .int .i64 q] 23)
  obtain ⟨c1, c2, c3⟩ := F0.cells
  go_enter Tryd.func29, Tryd.ntmps29
  go_wp2_with fail
  refine HVV.out.mono ?_
  rintro e w1 ⟨rfl, hb⟩
  have F1 := F0.next hb
  have B1 := below_step B0 hb
  clear F0 B0 hb c1 c2 c3 HVV
  obtain ⟨c1, c2, c3⟩ := F1.cells
  go_wp2
  exact bodyPost_ret (v := .tuple #[.int .i64 0, .int .i64 1]) (by simp [results, Tryd.results29, go_sem]) rfl ⟨rfl, B1⟩
set_option maxRecDepth 100000 in
theorem Exp_ok (c n q k g z : Int) (hc : I64 c) (hn : I64 n) (hq : I64 q) (hV : VF c n q)
    (HG : ∀ w, Calls Tryd.prog 57 #[.agg #[.int .i64 c, .int .i64 n, .int .i64 q]] w fun e w' => e = .returned (elV c n q g) ∧ Below w.heap.size w w')
    (HP : ∀ w, Calls Tryd.prog 54 #[elV c n q g, .int .i64 k] w fun e w' => e = .returned (elV c n q z) ∧ Below w.heap.size w w') (w : World) (hT : Tb w) :
    Calls Tryd.prog 29 #[.agg #[.int .i64 c, .int .i64 n, .int .i64 q], .int .i64 k] w fun e w' => e = .returned (.tuple #[.int .i64 z, .int .i64 0]) ∧ Below w.heap.size w w' := by
  have HVV := Lib.hid (valid_any c n q hc hn hq true ⟨fun _ => hV, fun _ => rfl⟩ _ (hT.next (below_new w (.cells #[.int .i64 c, .int .i64 n, .int .i64 q] 23))))
  unfold elV at HG HP
  have HGG := Lib.hid HG
  have HPP := Lib.hid HP
  clear hc hn hq hV hT HG HP
  have F0 := Fd.new w c n q
  have B0 := below_new w (.cells #[.int .i64 c, .int .i64 n, .int .i64 q] 23)
  obtain ⟨c1, c2, c3⟩ := F0.cells
  go_enter Tryd.func29, Tryd.ntmps29
  go_wp2_with fail
  refine HVV.out.mono ?_
  rintro e w1 ⟨rfl, hb⟩
  have F1 := F0.next hb
  have B1 := below_step B0 hb
  clear F0 B0 hb c1 c2 c3 HVV
  obtain ⟨c1, c2, c3⟩ := F1.cells
  go_wp2_with fail
  refine (HGG.out _).mono ?_
  rintro e w2 ⟨rfl, hb⟩
  have F2 := F1.next hb
  have B2 := below_step B1 hb
  clear F1 B1 hb c1 c2 c3
  obtain ⟨c1, c2, c3⟩ := F2.cells
  go_wp2_with fail
  refine (HPP.out _).mono ?_
  rintro e w3 ⟨rfl, hb⟩
  have F3 := F2.next hb
  have B3 := below_step B2 hb
  clear F2 B2 hb c1 c2 c3
  obtain ⟨c1, c2, c3⟩ := F3.cells
  have hF := run_value c n q z w3
  go_wp2
  exact bodyPost_ret (v := .tuple #[.int .i64 z, .int .i64 0]) (by simp [results, Tryd.results29, go_sem]) rfl ⟨rfl, B3⟩
set_option maxRecDepth 100000 in
theorem Pow_0 (c n q : Int) (hc : I64 c) (hn : I64 n) (hq : I64 q) (hV : VF c n q) (hn0 : 0 < n)  (w : World) (hT : Tb w) :
    Calls Tryd.prog 27 #[.agg #[.int .i64 c, .int .i64 n, .int .i64 q], .int .i64 0, .int .i64 0] w fun e w' => e = .returned (.tuple #[.int .i64 1, .int .i64 0]) ∧ Below w.heap.size w w' := by
  obtain ⟨W, hW, HB, F, S⟩ := one_new w c n q 0
  have HA := areE_ok c n q hc hn hq hV [0] (EL.one ⟨by omega, hn0⟩) _ _ _ W (hT.next HB) S
  clear hc hn hq hV hT S
  go_enter Tryd.func27, Tryd.ntmps27
  go_wp2_with fail
  rw [← hW]
  refine HA.mono ?_
  rintro e w1 ⟨rfl, hb⟩
  go_wp2
  exact bodyPost_ret (v := .tuple #[.int .i64 1, .int .i64 0]) (by simp [results, Tryd.results27, go_sem]) rfl ⟨rfl, below_step HB hb⟩
set_option maxRecDepth 100000 in
theorem Pow_pos (c n q k : Int) (hc : I64 c) (hn : I64 n) (hq : I64 q) (hV : VF c n q) (hn0 : 0 < n) (hk : 0 < k) (w : World) (hT : Tb w) :
    Calls Tryd.prog 27 #[.agg #[.int .i64 c, .int .i64 n, .int .i64 q], .int .i64 0, .int .i64 k] w fun e w' => e = .returned (.tuple #[.int .i64 0, .int .i64 0]) ∧ Below w.heap.size w w' := by
  obtain ⟨W, hW, HB, F, S⟩ := one_new w c n q 0
  have HA := areE_ok c n q hc hn hq hV [0] (EL.one ⟨by omega, hn0⟩) _ _ _ W (hT.next HB) S
  clear hc hn hq hV hT S
  go_enter Tryd.func27, Tryd.ntmps27
  go_wp2_with fail
  rw [← hW]
  refine HA.mono ?_
  rintro e w1 ⟨rfl, hb⟩
  go_wp2
  exact bodyPost_ret (v := .tuple #[.int .i64 0, .int .i64 0]) (by simp [results, Tryd.results27, go_sem]) rfl ⟨rfl, below_step HB hb⟩
theorem exp_any {N : Nat} (h : 2 ≤ N) (h2 : N ≤ 4096) (k : Int) : ∃ (t : Int) (E : Nat), k.tmod ((N : Int) - 1) = t ∧ (t + ((N : Int) - 1)).tmod ((N : Int) - 1) = (E : Int) ∧ -4096 ≤ t ∧ t ≤ 4096 ∧ E < 4096 := by
  obtain ⟨P, hP⟩ : ∃ P : Int, (N : Int) - 1 = P := ⟨_, rfl⟩
  rw [hP]
  have hP1 : 1 ≤ P := by omega
  have hP2 : P ≤ 4095 := by omega
  have ht : -P < k.tmod P ∧ k.tmod P < P := by
    rcases Int.le_total 0 k with h0 | h0
    · rw [Int.tmod_eq_emod_of_nonneg h0]
      have := Int.emod_nonneg k (show P ≠ 0 by omega)
      have := Int.emod_lt_of_pos k (show 0 < P by omega)
      omega
    · obtain ⟨j, rfl⟩ : ∃ j, k = -j := ⟨-k, by omega⟩
      rw [Int.neg_tmod, Int.tmod_eq_emod_of_nonneg (by omega)]
      have := Int.emod_nonneg j (show P ≠ 0 by omega)
      have := Int.emod_lt_of_pos j (show 0 < P by omega)
      omega
  have h3 : (k.tmod P + P).tmod P = (k.tmod P + P) % P := Int.tmod_eq_emod_of_nonneg (by omega)
  have h4 := Int.emod_nonneg (k.tmod P + P) (show P ≠ 0 by omega)
  have h5 := Int.emod_lt_of_pos (k.tmod P + P) (show 0 < P by omega)
  exact ⟨_, ((k.tmod P + P) % P).toNat, rfl, by rw [h3]; omega, by omega, by omega, by omega⟩
end Go.Proofs.YtjbaleadahefoaaDoor
