/- galois: Order, Generator and Log on both sides, but the specification's Log (written by genlg.py). -/
import Derived.Test.YtjbaleadahefoaaDoorYa
set_option linter.unusedVariables false
namespace Go.Proofs.YtjbaleadahefoaaDoor
open Go.RowKit
set_option maxRecDepth 100000 in
theorem Order_no (c n q x : Int) (hc : I64 c) (hn : I64 n) (hq : I64 q) (hx : I64 x) (h : ¬ (EL n [x] ∧ VF c n q)) (w : World) (hT : Tb w) :
    Calls Tryd.prog 31 #[.agg #[.int .i64 c, .int .i64 n, .int .i64 q], .int .i64 x] w fun e w' => e = .returned (.tuple #[.int .i64 0, .int .i64 1]) ∧ Below w.heap.size w w' := by
  obtain ⟨W, hW, HB, F, S⟩ := one_new w c n q x
  have HA := areE_no c n q hc hn hq [x] (I64.one hx) h _ _ _ W (hT.next HB) S
  clear hc hn hq hx hT S h
  go_enter Tryd.func31, Tryd.ntmps31
  go_wp2_with fail
  rw [← hW]
  refine HA.mono ?_
  rintro e w1 ⟨rfl, hb⟩
  go_wp2
  exact bodyPost_ret (v := .tuple #[.int .i64 0, .int .i64 1]) (by simp [results, Tryd.results31, go_sem]) rfl ⟨rfl, below_step HB hb⟩
set_option maxRecDepth 100000 in
theorem Order_zero (c n q : Int) (hc : I64 c) (hn : I64 n) (hq : I64 q) (hV : VF c n q) (hn0 : 0 < n) (w : World) (hT : Tb w) :
    Calls Tryd.prog 31 #[.agg #[.int .i64 c, .int .i64 n, .int .i64 q], .int .i64 0] w fun e w' => e = .returned (.tuple #[.int .i64 0, .int .i64 12]) ∧ Below w.heap.size w w' := by
  obtain ⟨W, hW, HB, F, S⟩ := one_new w c n q 0
  have HA := areE_ok c n q hc hn hq hV [0] (EL.one ⟨by omega, hn0⟩) _ _ _ W (hT.next HB) S
  clear hc hn hq hV hT S
  go_enter Tryd.func31, Tryd.ntmps31
  go_wp2_with fail
  rw [← hW]
  refine HA.mono ?_
  rintro e w1 ⟨rfl, hb⟩
  go_wp2
  exact bodyPost_ret (v := .tuple #[.int .i64 0, .int .i64 12]) (by simp [results, Tryd.results31, go_sem]) rfl ⟨rfl, below_step HB hb⟩
set_option maxRecDepth 100000 in
theorem rOrder_noV (c n q x : Int) (hc : I64 c) (hn : I64 n) (hq : I64 q) (hV : ¬ VF c n q) (w : World) :
    Calls Tryd.prog 32 #[.agg #[.int .i64 c, .int .i64 n, .int .i64 q], .int .i64 x] w fun e w' => e = .returned (.tuple #[.int .i64 0, .int .i64 1]) ∧ Below w.heap.size w w' := by
  have HVV := Lib.hid (fun w => rValid_any c n q hc hn hq false ⟨fun e => (by cases e), fun e => absurd e hV⟩ w)
  clear hc hn hq hV
  have F0 := Fd.new w c n q
  have B0 := below_new w (.cells #[.int .i64 c, .int .i64 n, .int .i64 q] 23)
  obtain ⟨c1, c2, c3⟩ := F0.cells
  go_enter Tryd.func32, Tryd.ntmps32
  go_wp2_with fail
  refine (HVV.out _).mono ?_
  rintro e w1 ⟨rfl, hb⟩
  have F1 := F0.next hb
  have B1 := below_step B0 hb
  clear F0 B0 hb c1 c2 c3
  obtain ⟨c1, c2, c3⟩ := F1.cells
  go_wp2
  exact bodyPost_ret (v := .tuple #[.int .i64 0, .int .i64 1]) (by simp [results, Tryd.results32, go_sem]) rfl ⟨rfl, B1⟩
set_option maxRecDepth 100000 in
theorem rOrder_noX (c n q x : Int) (hc : I64 c) (hn : I64 n) (hq : I64 q) (hV : VF c n q) (hx : ¬ (0 ≤ x ∧ x < n)) (w : World) :
    Calls Tryd.prog 32 #[.agg #[.int .i64 c, .int .i64 n, .int .i64 q], .int .i64 x] w fun e w' => e = .returned (.tuple #[.int .i64 0, .int .i64 1]) ∧ Below w.heap.size w w' := by
  have HVV := Lib.hid (fun w => rValid_any c n q hc hn hq true ⟨fun _ => hV, fun _ => rfl⟩ w)
  have HXX := Lib.hid (fun w => rIs_any c n q x false ⟨fun e => (by cases e), fun e => absurd e hx⟩ w)
  clear hc hn hq hV hx
  have F0 := Fd.new w c n q
  have B0 := below_new w (.cells #[.int .i64 c, .int .i64 n, .int .i64 q] 23)
  obtain ⟨c1, c2, c3⟩ := F0.cells
  go_enter Tryd.func32, Tryd.ntmps32
  go_wp2_with fail
  refine (HVV.out _).mono ?_
  rintro e w1 ⟨rfl, hb⟩
  have F1 := F0.next hb
  have B1 := below_step B0 hb
  clear F0 B0 hb c1 c2 c3
  obtain ⟨c1, c2, c3⟩ := F1.cells
  go_wp2_with fail
  refine (HXX.out _).mono ?_
  rintro e w2 ⟨rfl, hb⟩
  have F2 := F1.next hb
  have B2 := below_step B1 hb
  clear F1 B1 hb c1 c2 c3
  obtain ⟨c1, c2, c3⟩ := F2.cells
  go_wp2
  exact bodyPost_ret (v := .tuple #[.int .i64 0, .int .i64 1]) (by simp [results, Tryd.results32, go_sem]) rfl ⟨rfl, B2⟩
set_option maxRecDepth 100000 in
theorem rOrder_zero (c n q : Int) (hc : I64 c) (hn : I64 n) (hq : I64 q) (hV : VF c n q) (hx : 0 ≤ (0 : Int) ∧ 0 < n) (w : World) :
    Calls Tryd.prog 32 #[.agg #[.int .i64 c, .int .i64 n, .int .i64 q], .int .i64 0] w fun e w' => e = .returned (.tuple #[.int .i64 0, .int .i64 12]) ∧ Below w.heap.size w w' := by
  have HVV := Lib.hid (fun w => rValid_any c n q hc hn hq true ⟨fun _ => hV, fun _ => rfl⟩ w)
  have HXX := Lib.hid (fun w => rIs_any c n q 0 true ⟨fun _ => hx, fun _ => rfl⟩ w)
  clear hc hn hq hV hx
  have F0 := Fd.new w c n q
  have B0 := below_new w (.cells #[.int .i64 c, .int .i64 n, .int .i64 q] 23)
  obtain ⟨c1, c2, c3⟩ := F0.cells
  go_enter Tryd.func32, Tryd.ntmps32
  go_wp2_with fail
  refine (HVV.out _).mono ?_
  rintro e w1 ⟨rfl, hb⟩
  have F1 := F0.next hb
  have B1 := below_step B0 hb
  clear F0 B0 hb c1 c2 c3
  obtain ⟨c1, c2, c3⟩ := F1.cells
  go_wp2_with fail
  refine (HXX.out _).mono ?_
  rintro e w2 ⟨rfl, hb⟩
  have F2 := F1.next hb
  have B2 := below_step B1 hb
  clear F1 B1 hb c1 c2 c3
  obtain ⟨c1, c2, c3⟩ := F2.cells
  go_wp2
  exact bodyPost_ret (v := .tuple #[.int .i64 0, .int .i64 12]) (by simp [results, Tryd.results32, go_sem]) rfl ⟨rfl, B2⟩
set_option maxRecDepth 100000 in
theorem Log_no (c n q x : Int) (hc : I64 c) (hn : I64 n) (hq : I64 q) (hx : I64 x) (h : ¬ (EL n [x] ∧ VF c n q)) (w : World) (hT : Tb w) :
    Calls Tryd.prog 35 #[.agg #[.int .i64 c, .int .i64 n, .int .i64 q], .int .i64 x] w fun e w' => e = .returned (.tuple #[.int .i64 0, .int .i64 1]) ∧ Below w.heap.size w w' := by
  obtain ⟨W, hW, HB, F, S⟩ := one_new w c n q x
  have HA := areE_no c n q hc hn hq [x] (I64.one hx) h _ _ _ W (hT.next HB) S
  clear hc hn hq hx hT S h
  go_enter Tryd.func35, Tryd.ntmps35
  go_wp2_with fail
  rw [← hW]
  refine HA.mono ?_
  rintro e w1 ⟨rfl, hb⟩
  go_wp2
  exact bodyPost_ret (v := .tuple #[.int .i64 0, .int .i64 1]) (by simp [results, Tryd.results35, go_sem]) rfl ⟨rfl, below_step HB hb⟩
set_option maxRecDepth 100000 in
theorem Log_zero (c n q : Int) (hc : I64 c) (hn : I64 n) (hq : I64 q) (hV : VF c n q) (hn0 : 0 < n) (w : World) (hT : Tb w) :
    Calls Tryd.prog 35 #[.agg #[.int .i64 c, .int .i64 n, .int .i64 q], .int .i64 0] w fun e w' => e = .returned (.tuple #[.int .i64 0, .int .i64 12]) ∧ Below w.heap.size w w' := by
  obtain ⟨W, hW, HB, F, S⟩ := one_new w c n q 0
  have HA := areE_ok c n q hc hn hq hV [0] (EL.one ⟨by omega, hn0⟩) _ _ _ W (hT.next HB) S
  clear hc hn hq hV hT S
  go_enter Tryd.func35, Tryd.ntmps35
  go_wp2_with fail
  rw [← hW]
  refine HA.mono ?_
  rintro e w1 ⟨rfl, hb⟩
  go_wp2
  exact bodyPost_ret (v := .tuple #[.int .i64 0, .int .i64 12]) (by simp [results, Tryd.results35, go_sem]) rfl ⟨rfl, below_step HB hb⟩
set_option maxRecDepth 100000 in
theorem rLog_noV (c n q x : Int) (hc : I64 c) (hn : I64 n) (hq : I64 q) (hV : ¬ VF c n q) (w : World) :
    Calls Tryd.prog 36 #[.agg #[.int .i64 c, .int .i64 n, .int .i64 q], .int .i64 x] w fun e w' => e = .returned (.tuple #[.int .i64 0, .int .i64 1]) ∧ Below w.heap.size w w' := by
  have HVV := Lib.hid (fun w => rValid_any c n q hc hn hq false ⟨fun e => (by cases e), fun e => absurd e hV⟩ w)
  clear hc hn hq hV
  have F0 := Fd.new w c n q
  have B0 := below_new w (.cells #[.int .i64 c, .int .i64 n, .int .i64 q] 23)
  obtain ⟨c1, c2, c3⟩ := F0.cells
  go_enter Tryd.func36, Tryd.ntmps36
  go_wp2_with fail
  refine (HVV.out _).mono ?_
  rintro e w1 ⟨rfl, hb⟩
  have F1 := F0.next hb
  have B1 := below_step B0 hb
  clear F0 B0 hb c1 c2 c3
  obtain ⟨c1, c2, c3⟩ := F1.cells
  go_wp2
  exact bodyPost_ret (v := .tuple #[.int .i64 0, .int .i64 1]) (by simp [results, Tryd.results36, go_sem]) rfl ⟨rfl, B1⟩
set_option maxRecDepth 100000 in
theorem rLog_noX (c n q x : Int) (hc : I64 c) (hn : I64 n) (hq : I64 q) (hV : VF c n q) (hx : ¬ (0 ≤ x ∧ x < n)) (w : World) :
    Calls Tryd.prog 36 #[.agg #[.int .i64 c, .int .i64 n, .int .i64 q], .int .i64 x] w fun e w' => e = .returned (.tuple #[.int .i64 0, .int .i64 1]) ∧ Below w.heap.size w w' := by
  have HVV := Lib.hid (fun w => rValid_any c n q hc hn hq true ⟨fun _ => hV, fun _ => rfl⟩ w)
  have HXX := Lib.hid (fun w => rIs_any c n q x false ⟨fun e => (by cases e), fun e => absurd e hx⟩ w)
  clear hc hn hq hV hx
  have F0 := Fd.new w c n q
  have B0 := below_new w (.cells #[.int .i64 c, .int .i64 n, .int .i64 q] 23)
  obtain ⟨c1, c2, c3⟩ := F0.cells
  go_enter Tryd.func36, Tryd.ntmps36
  go_wp2_with fail
  refine (HVV.out _).mono ?_
  rintro e w1 ⟨rfl, hb⟩
  have F1 := F0.next hb
  have B1 := below_step B0 hb
  clear F0 B0 hb c1 c2 c3
  obtain ⟨c1, c2, c3⟩ := F1.cells
  go_wp2_with fail
  refine (HXX.out _).mono ?_
  rintro e w2 ⟨rfl, hb⟩
  have F2 := F1.next hb
  have B2 := below_step B1 hb
  clear F1 B1 hb c1 c2 c3
  obtain ⟨c1, c2, c3⟩ := F2.cells
  go_wp2
  exact bodyPost_ret (v := .tuple #[.int .i64 0, .int .i64 1]) (by simp [results, Tryd.results36, go_sem]) rfl ⟨rfl, B2⟩
set_option maxRecDepth 100000 in
theorem rLog_zero (c n q : Int) (hc : I64 c) (hn : I64 n) (hq : I64 q) (hV : VF c n q) (hx : 0 ≤ (0 : Int) ∧ 0 < n) (w : World) :
    Calls Tryd.prog 36 #[.agg #[.int .i64 c, .int .i64 n, .int .i64 q], .int .i64 0] w fun e w' => e = .returned (.tuple #[.int .i64 0, .int .i64 12]) ∧ Below w.heap.size w w' := by
  have HVV := Lib.hid (fun w => rValid_any c n q hc hn hq true ⟨fun _ => hV, fun _ => rfl⟩ w)
  have HXX := Lib.hid (fun w => rIs_any c n q 0 true ⟨fun _ => hx, fun _ => rfl⟩ w)
  clear hc hn hq hV hx
  have F0 := Fd.new w c n q
  have B0 := below_new w (.cells #[.int .i64 c, .int .i64 n, .int .i64 q] 23)
  obtain ⟨c1, c2, c3⟩ := F0.cells
  go_enter Tryd.func36, Tryd.ntmps36
  go_wp2_with fail
  refine (HVV.out _).mono ?_
  rintro e w1 ⟨rfl, hb⟩
  have F1 := F0.next hb
  have B1 := below_step B0 hb
  clear F0 B0 hb c1 c2 c3
  obtain ⟨c1, c2, c3⟩ := F1.cells
  go_wp2_with fail
  refine (HXX.out _).mono ?_
  rintro e w2 ⟨rfl, hb⟩
  have F2 := F1.next hb
  have B2 := below_step B1 hb
  clear F1 B1 hb c1 c2 c3
  obtain ⟨c1, c2, c3⟩ := F2.cells
  go_wp2
  exact bodyPost_ret (v := .tuple #[.int .i64 0, .int .i64 12]) (by simp [results, Tryd.results36, go_sem]) rfl ⟨rfl, B2⟩
set_option maxRecDepth 100000 in
theorem Order_ok (c n q x z : Int) (hc : I64 c) (hn : I64 n) (hq : I64 q) (hV : VF c n q) (hx : 0 ≤ x ∧ x < n) (hx0 : ¬ x = 0)
    (HP : ∀ w, Calls Tryd.prog 59 #[elV c n q x] w fun e w' => e = .returned (.int .i64 z) ∧ Below w.heap.size w w') (w : World) (hT : Tb w) :
    Calls Tryd.prog 31 #[.agg #[.int .i64 c, .int .i64 n, .int .i64 q], .int .i64 x] w fun e w' => e = .returned (.tuple #[.int .i64 z, .int .i64 0]) ∧ Below w.heap.size w w' := by
  obtain ⟨W, hW, HB, F, S⟩ := one_new w c n q x
  have HA := areE_ok c n q hc hn hq hV [x] (EL.one hx) _ _ _ W (hT.next HB) S
  unfold elV at HP
  clear hc hn hq hV hx hT S
  go_enter Tryd.func31, Tryd.ntmps31
  go_wp2_with fail
  rw [← hW]
  refine HA.mono ?_
  rintro e w1 ⟨rfl, hb⟩
  have F1 := F.next hb
  have hB := below_step HB hb
  clear F HB hb HA hW
  obtain ⟨c1, c2, c3⟩ := F1.cells
  go_wp2_with fail
  refine (HP _).mono ?_
  rintro e w2 ⟨rfl, hb⟩
  go_wp2
  exact bodyPost_ret (v := .tuple #[.int .i64 z, .int .i64 0]) (by simp [results, Tryd.results31, go_sem]) rfl ⟨rfl, below_step hB hb⟩
set_option maxRecDepth 100000 in
theorem Generator_no (c n q : Int) (hc : I64 c) (hn : I64 n) (hq : I64 q) (hV : ¬ VF c n q) (w : World) (hT : Tb w) :
    Calls Tryd.prog 33 #[.agg #[.int .i64 c, .int .i64 n, .int .i64 q]] w fun e w' => e = .returned (.tuple #[.int .i64 0, .int .i64 1]) ∧ Below w.heap.size w w' := by
  have HVV := Lib.hid (valid_any c n q hc hn hq false ⟨fun e => (by cases e), fun e => absurd e hV⟩ _ (hT.next (below_new w (.cells #[.int .i64 c, .int .i64 n, .int .i64 q] 23))))
  clear hc hn hq hV hT
  have F0 := Fd.new w c n q
  have B0 := below_new w (.cells #[.int .i64 c, .int .i64 n, .int .i64 q] 23)
  obtain ⟨c1, c2, c3⟩ := F0.cells
  go_enter Tryd.func33, Tryd.ntmps33
  go_wp2_with fail
  refine HVV.out.mono ?_
  rintro e w1 ⟨rfl, hb⟩
  have F1 := F0.next hb
  have B1 := below_step B0 hb
  clear F0 B0 hb c1 c2 c3 HVV
  obtain ⟨c1, c2, c3⟩ := F1.cells
  go_wp2
  exact bodyPost_ret (v := .tuple #[.int .i64 0, .int .i64 1]) (by simp [results, Tryd.results33, go_sem]) rfl ⟨rfl, B1⟩
set_option maxRecDepth 100000 in
theorem rOrder_ok (c n q x z : Int) (hc : I64 c) (hn : I64 n) (hq : I64 q) (hV : VF c n q) (hx : 0 ≤ x ∧ x < n) (hx0 : ¬ x = 0)
    (HR : ∀ w, Calls Tryd.prog 60 #[.agg #[.int .i64 c, .int .i64 n, .int .i64 q], .int .i64 x] w fun e w' => e = .returned (.int .i64 z) ∧ Below w.heap.size w w') (w : World) :
    Calls Tryd.prog 32 #[.agg #[.int .i64 c, .int .i64 n, .int .i64 q], .int .i64 x] w fun e w' => e = .returned (.tuple #[.int .i64 z, .int .i64 0]) ∧ Below w.heap.size w w' := by
  have HVV := Lib.hid (fun w => rValid_any c n q hc hn hq true ⟨fun _ => hV, fun _ => rfl⟩ w)
  have HXX := Lib.hid (fun w => rIs_any c n q x true ⟨fun _ => hx, fun _ => rfl⟩ w)
  have HRR := Lib.hid HR
  clear hc hn hq hV hx HR
  have F0 := Fd.new w c n q
  have B0 := below_new w (.cells #[.int .i64 c, .int .i64 n, .int .i64 q] 23)
  obtain ⟨c1, c2, c3⟩ := F0.cells
  go_enter Tryd.func32, Tryd.ntmps32
  go_wp2_with fail
  refine (HVV.out _).mono ?_
  rintro e w1 ⟨rfl, hb⟩
  have F1 := F0.next hb
  have B1 := below_step B0 hb
  clear F0 B0 hb c1 c2 c3
  obtain ⟨c1, c2, c3⟩ := F1.cells
  go_wp2_with fail
  refine (HXX.out _).mono ?_
  rintro e w2 ⟨rfl, hb⟩
  have F2 := F1.next hb
  have B2 := below_step B1 hb
  clear F1 B1 hb c1 c2 c3
  obtain ⟨c1, c2, c3⟩ := F2.cells
  go_wp2_with fail
  refine (HRR.out _).mono ?_
  rintro e w3 ⟨rfl, hb⟩
  have F3 := F2.next hb
  have B3 := below_step B2 hb
  clear F2 B2 hb c1 c2 c3
  obtain ⟨c1, c2, c3⟩ := F3.cells
  go_wp2
  exact bodyPost_ret (v := .tuple #[.int .i64 z, .int .i64 0]) (by simp [results, Tryd.results32, go_sem]) rfl ⟨rfl, B3⟩
set_option maxRecDepth 100000 in
theorem rGenerator_no (c n q : Int) (hc : I64 c) (hn : I64 n) (hq : I64 q) (hV : ¬ VF c n q) (w : World) :
    Calls Tryd.prog 34 #[.agg #[.int .i64 c, .int .i64 n, .int .i64 q]] w fun e w' => e = .returned (.tuple #[.int .i64 0, .int .i64 1]) ∧ Below w.heap.size w w' := by
  have HVV := Lib.hid (fun w => rValid_any c n q hc hn hq false ⟨fun e => (by cases e), fun e => absurd e hV⟩ w)
  clear hc hn hq hV
  have F0 := Fd.new w c n q
  have B0 := below_new w (.cells #[.int .i64 c, .int .i64 n, .int .i64 q] 23)
  obtain ⟨c1, c2, c3⟩ := F0.cells
  go_enter Tryd.func34, Tryd.ntmps34
  go_wp2_with fail
  refine (HVV.out _).mono ?_
  rintro e w1 ⟨rfl, hb⟩
  have F1 := F0.next hb
  have B1 := below_step B0 hb
  clear F0 B0 hb c1 c2 c3
  obtain ⟨c1, c2, c3⟩ := F1.cells
  go_wp2
  exact bodyPost_ret (v := .tuple #[.int .i64 0, .int .i64 1]) (by simp [results, Tryd.results34, go_sem]) rfl ⟨rfl, B1⟩
set_option maxRecDepth 100000 in
theorem rGenerator_ok (c n q z : Int) (hc : I64 c) (hn : I64 n) (hq : I64 q) (hV : VF c n q)
    (HR : ∀ w, Calls Tryd.prog 58 #[.agg #[.int .i64 c, .int .i64 n, .int .i64 q]] w fun e w' => e = .returned (.int .i64 z) ∧ Below w.heap.size w w') (w : World) :
    Calls Tryd.prog 34 #[.agg #[.int .i64 c, .int .i64 n, .int .i64 q]] w fun e w' => e = .returned (.tuple #[.int .i64 z, .int .i64 0]) ∧ Below w.heap.size w w' := by
  have HVV := Lib.hid (fun w => rValid_any c n q hc hn hq true ⟨fun _ => hV, fun _ => rfl⟩ w)
  have HRR := Lib.hid HR
  clear hc hn hq hV HR
  have F0 := Fd.new w c n q
  have B0 := below_new w (.cells #[.int .i64 c, .int .i64 n, .int .i64 q] 23)
  obtain ⟨c1, c2, c3⟩ := F0.cells
  go_enter Tryd.func34, Tryd.ntmps34
  go_wp2_with fail
  refine (HVV.out _).mono ?_
  rintro e w1 ⟨rfl, hb⟩
  have F1 := F0.next hb
  have B1 := below_step B0 hb
  clear F0 B0 hb c1 c2 c3
  obtain ⟨c1, c2, c3⟩ := F1.cells
  go_wp2_with fail
  refine (HRR.out _).mono ?_
  rintro e w2 ⟨rfl, hb⟩
  have F2 := F1.next hb
  have B2 := below_step B1 hb
  clear F1 B1 hb c1 c2 c3
  obtain ⟨c1, c2, c3⟩ := F2.cells
  go_wp2
  exact bodyPost_ret (v := .tuple #[.int .i64 z, .int .i64 0]) (by simp [results, Tryd.results34, go_sem]) rfl ⟨rfl, B2⟩
end Go.Proofs.YtjbaleadahefoaaDoor
