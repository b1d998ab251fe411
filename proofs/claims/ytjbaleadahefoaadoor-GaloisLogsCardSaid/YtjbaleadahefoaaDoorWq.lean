/- Contracts of the specification of galois: Add, Sub, Mul, Div, Inv. -/
import Derived.Test.YtjbaleadahefoaaDoorWp
set_option linter.unusedVariables false
namespace Go.Proofs.YtjbaleadahefoaaDoor
open Go.RowKit

set_option maxRecDepth 100000 in
theorem rAdd_no (c n q x y : Int) (hc : I64 c) (hn : I64 n) (hq : I64 q) (h : ¬ (EL n [x, y] ∧ VF c n q)) (w : World) :
    Calls Tryd.prog 18 #[.agg #[.int .i64 c, .int .i64 n, .int .i64 q], .int .i64 x, .int .i64 y] w fun e w' => e = .returned (.tuple #[.int .i64 0, .int .i64 1]) ∧ Below w.heap.size w w' := by
  have F0 := Fd.new w c n q
  have hb0 := below_new w (.cells #[.int .i64 c, .int .i64 n, .int .i64 q] 23)
  by_cases hV : VF c n q
  · have HV := rValid_any c n q hc hn hq true ⟨fun _ => hV, fun _ => rfl⟩
    by_cases hx : 0 ≤ x ∧ x < n
    · have hy : ¬ (0 ≤ y ∧ y < n) := fun hy => h ⟨EL.two hx hy, hV⟩
      have HX := rIs_any c n q x true ⟨fun _ => hx, fun _ => rfl⟩
      have HY := rIs_any c n q y false ⟨fun e => (by cases e), fun e => absurd e hy⟩
      have HVV := Lib.hid HV
      have HXX := Lib.hid HX
      have HYY := Lib.hid HY
      clear hc hn hq h hV hx hy HV HX HY
      obtain ⟨c1, c2, c3⟩ := F0.cells
      go_enter Tryd.func18, Tryd.ntmps18
      go_wp2_with fail
      refine (HVV.out _).mono ?_
      rintro e w1 ⟨rfl, hb⟩
      have F1 := F0.next hb
      have B1 := below_step hb0 hb
      clear F0 hb0 hb c1 c2 c3
      obtain ⟨c1, c2, c3⟩ := F1.cells
      go_wp2_with fail
      refine (HXX.out _).mono ?_
      rintro e w2 ⟨rfl, hb⟩
      have F2 := F1.next hb
      have B2 := below_step B1 hb
      clear F1 B1 hb c1 c2 c3
      obtain ⟨c1, c2, c3⟩ := F2.cells
      go_wp2_with fail
      refine (HYY.out _).mono ?_
      rintro e w3 ⟨rfl, hb⟩
      have B3 := below_step B2 hb
      clear F2 B2 hb c1 c2 c3
      go_wp2
      exact bodyPost_ret (v := .tuple #[.int .i64 0, .int .i64 1]) (by simp [results, Tryd.results18, go_sem]) rfl ⟨rfl, B3⟩
    · have HX := rIs_any c n q x false ⟨fun e => (by cases e), fun e => absurd e hx⟩
      have HVV := Lib.hid HV
      have HXX := Lib.hid HX
      clear hc hn hq h hV hx HV HX
      obtain ⟨c1, c2, c3⟩ := F0.cells
      go_enter Tryd.func18, Tryd.ntmps18
      go_wp2_with fail
      refine (HVV.out _).mono ?_
      rintro e w1 ⟨rfl, hb⟩
      have F1 := F0.next hb
      have B1 := below_step hb0 hb
      clear F0 hb0 hb c1 c2 c3
      obtain ⟨c1, c2, c3⟩ := F1.cells
      go_wp2_with fail
      refine (HXX.out _).mono ?_
      rintro e w2 ⟨rfl, hb⟩
      have B2 := below_step B1 hb
      clear F1 B1 hb c1 c2 c3
      go_wp2
      exact bodyPost_ret (v := .tuple #[.int .i64 0, .int .i64 1]) (by simp [results, Tryd.results18, go_sem]) rfl ⟨rfl, B2⟩
  · have HV := rValid_any c n q hc hn hq false ⟨fun e => (by cases e), fun e => absurd e hV⟩
    have HVV := Lib.hid HV
    clear hc hn hq h hV HV
    obtain ⟨c1, c2, c3⟩ := F0.cells
    go_enter Tryd.func18, Tryd.ntmps18
    go_wp2_with fail
    refine (HVV.out _).mono ?_
    rintro e w1 ⟨rfl, hb⟩
    have B1 := below_step hb0 hb
    clear F0 hb0 hb c1 c2 c3
    go_wp2
    exact bodyPost_ret (v := .tuple #[.int .i64 0, .int .i64 1]) (by simp [results, Tryd.results18, go_sem]) rfl ⟨rfl, B1⟩

set_option maxRecDepth 100000 in
theorem rAdd_ok (c n q x y z : Int) (hc : I64 c) (hn : I64 n) (hq : I64 q) (hV : VF c n q) (hx : 0 ≤ x ∧ x < n) (hy : 0 ≤ y ∧ y < n)
    (HT : ∀ w, Calls Tryd.prog 49 #[.agg #[.int .i64 c, .int .i64 n, .int .i64 q], .int .i64 x, .int .i64 y] w fun e w' => e = .returned (.int .i64 z) ∧ Below w.heap.size w w') (w : World) :
    Calls Tryd.prog 18 #[.agg #[.int .i64 c, .int .i64 n, .int .i64 q], .int .i64 x, .int .i64 y] w fun e w' => e = .returned (.tuple #[.int .i64 z, .int .i64 0]) ∧ Below w.heap.size w w' := by
  have HTT := Lib.hid HT
  clear HT
  have F0 := Fd.new w c n q
  have hb0 := below_new w (.cells #[.int .i64 c, .int .i64 n, .int .i64 q] 23)
  have HV := rValid_any c n q hc hn hq true ⟨fun _ => hV, fun _ => rfl⟩
  have HX := rIs_any c n q x true ⟨fun _ => hx, fun _ => rfl⟩
  have HY := rIs_any c n q y true ⟨fun _ => hy, fun _ => rfl⟩
  have HVV := Lib.hid HV
  have HXX := Lib.hid HX
  have HYY := Lib.hid HY
  clear hc hn hq hV hx hy HV HX HY
  obtain ⟨c1, c2, c3⟩ := F0.cells
  go_enter Tryd.func18, Tryd.ntmps18
  go_wp2_with fail
  refine (HVV.out _).mono ?_
  rintro e w1 ⟨rfl, hb⟩
  have F1 := F0.next hb
  have B1 := below_step hb0 hb
  clear F0 hb0 hb c1 c2 c3
  obtain ⟨c1, c2, c3⟩ := F1.cells
  go_wp2_with fail
  refine (HXX.out _).mono ?_
  rintro e w2 ⟨rfl, hb⟩
  have F2 := F1.next hb
  have B2 := below_step B1 hb
  clear F1 B1 hb c1 c2 c3
  obtain ⟨c1, c2, c3⟩ := F2.cells
  go_wp2_with fail
  refine (HYY.out _).mono ?_
  rintro e w3 ⟨rfl, hb⟩
  have F3 := F2.next hb
  have B3 := below_step B2 hb
  clear F2 B2 hb c1 c2 c3
  obtain ⟨c1, c2, c3⟩ := F3.cells
  go_wp2_with fail
  refine (HTT.out _).mono ?_
  rintro e w4 ⟨rfl, hb⟩
  have B4 := below_step B3 hb
  clear F3 B3 hb c1 c2 c3
  go_wp2
  exact bodyPost_ret (v := .tuple #[.int .i64 z, .int .i64 0]) (by simp [results, Tryd.results18, go_sem]) rfl ⟨rfl, B4⟩

set_option maxRecDepth 100000 in
theorem rSub_no (c n q x y : Int) (hc : I64 c) (hn : I64 n) (hq : I64 q) (h : ¬ (EL n [x, y] ∧ VF c n q)) (w : World) :
    Calls Tryd.prog 20 #[.agg #[.int .i64 c, .int .i64 n, .int .i64 q], .int .i64 x, .int .i64 y] w fun e w' => e = .returned (.tuple #[.int .i64 0, .int .i64 1]) ∧ Below w.heap.size w w' := by
  have F0 := Fd.new w c n q
  have hb0 := below_new w (.cells #[.int .i64 c, .int .i64 n, .int .i64 q] 23)
  by_cases hV : VF c n q
  · have HV := rValid_any c n q hc hn hq true ⟨fun _ => hV, fun _ => rfl⟩
    by_cases hx : 0 ≤ x ∧ x < n
    · have hy : ¬ (0 ≤ y ∧ y < n) := fun hy => h ⟨EL.two hx hy, hV⟩
      have HX := rIs_any c n q x true ⟨fun _ => hx, fun _ => rfl⟩
      have HY := rIs_any c n q y false ⟨fun e => (by cases e), fun e => absurd e hy⟩
      have HVV := Lib.hid HV
      have HXX := Lib.hid HX
      have HYY := Lib.hid HY
      clear hc hn hq h hV hx hy HV HX HY
      obtain ⟨c1, c2, c3⟩ := F0.cells
      go_enter Tryd.func20, Tryd.ntmps20
      go_wp2_with fail
      refine (HVV.out _).mono ?_
      rintro e w1 ⟨rfl, hb⟩
      have F1 := F0.next hb
      have B1 := below_step hb0 hb
      clear F0 hb0 hb c1 c2 c3
      obtain ⟨c1, c2, c3⟩ := F1.cells
      go_wp2_with fail
      refine (HXX.out _).mono ?_
      rintro e w2 ⟨rfl, hb⟩
      have F2 := F1.next hb
      have B2 := below_step B1 hb
      clear F1 B1 hb c1 c2 c3
      obtain ⟨c1, c2, c3⟩ := F2.cells
      go_wp2_with fail
      refine (HYY.out _).mono ?_
      rintro e w3 ⟨rfl, hb⟩
      have B3 := below_step B2 hb
      clear F2 B2 hb c1 c2 c3
      go_wp2
      exact bodyPost_ret (v := .tuple #[.int .i64 0, .int .i64 1]) (by simp [results, Tryd.results20, go_sem]) rfl ⟨rfl, B3⟩
    · have HX := rIs_any c n q x false ⟨fun e => (by cases e), fun e => absurd e hx⟩
      have HVV := Lib.hid HV
      have HXX := Lib.hid HX
      clear hc hn hq h hV hx HV HX
      obtain ⟨c1, c2, c3⟩ := F0.cells
      go_enter Tryd.func20, Tryd.ntmps20
      go_wp2_with fail
      refine (HVV.out _).mono ?_
      rintro e w1 ⟨rfl, hb⟩
      have F1 := F0.next hb
      have B1 := below_step hb0 hb
      clear F0 hb0 hb c1 c2 c3
      obtain ⟨c1, c2, c3⟩ := F1.cells
      go_wp2_with fail
      refine (HXX.out _).mono ?_
      rintro e w2 ⟨rfl, hb⟩
      have B2 := below_step B1 hb
      clear F1 B1 hb c1 c2 c3
      go_wp2
      exact bodyPost_ret (v := .tuple #[.int .i64 0, .int .i64 1]) (by simp [results, Tryd.results20, go_sem]) rfl ⟨rfl, B2⟩
  · have HV := rValid_any c n q hc hn hq false ⟨fun e => (by cases e), fun e => absurd e hV⟩
    have HVV := Lib.hid HV
    clear hc hn hq h hV HV
    obtain ⟨c1, c2, c3⟩ := F0.cells
    go_enter Tryd.func20, Tryd.ntmps20
    go_wp2_with fail
    refine (HVV.out _).mono ?_
    rintro e w1 ⟨rfl, hb⟩
    have B1 := below_step hb0 hb
    clear F0 hb0 hb c1 c2 c3
    go_wp2
    exact bodyPost_ret (v := .tuple #[.int .i64 0, .int .i64 1]) (by simp [results, Tryd.results20, go_sem]) rfl ⟨rfl, B1⟩

set_option maxRecDepth 100000 in
theorem rSub_ok (c n q x y z : Int) (hc : I64 c) (hn : I64 n) (hq : I64 q) (hV : VF c n q) (hx : 0 ≤ x ∧ x < n) (hy : 0 ≤ y ∧ y < n)
    (HT : ∀ w, Calls Tryd.prog 51 #[.agg #[.int .i64 c, .int .i64 n, .int .i64 q], .int .i64 x, .int .i64 y] w fun e w' => e = .returned (.int .i64 z) ∧ Below w.heap.size w w') (w : World) :
    Calls Tryd.prog 20 #[.agg #[.int .i64 c, .int .i64 n, .int .i64 q], .int .i64 x, .int .i64 y] w fun e w' => e = .returned (.tuple #[.int .i64 z, .int .i64 0]) ∧ Below w.heap.size w w' := by
  have HTT := Lib.hid HT
  clear HT
  have F0 := Fd.new w c n q
  have hb0 := below_new w (.cells #[.int .i64 c, .int .i64 n, .int .i64 q] 23)
  have HV := rValid_any c n q hc hn hq true ⟨fun _ => hV, fun _ => rfl⟩
  have HX := rIs_any c n q x true ⟨fun _ => hx, fun _ => rfl⟩
  have HY := rIs_any c n q y true ⟨fun _ => hy, fun _ => rfl⟩
  have HVV := Lib.hid HV
  have HXX := Lib.hid HX
  have HYY := Lib.hid HY
  clear hc hn hq hV hx hy HV HX HY
  obtain ⟨c1, c2, c3⟩ := F0.cells
  go_enter Tryd.func20, Tryd.ntmps20
  go_wp2_with fail
  refine (HVV.out _).mono ?_
  rintro e w1 ⟨rfl, hb⟩
  have F1 := F0.next hb
  have B1 := below_step hb0 hb
  clear F0 hb0 hb c1 c2 c3
  obtain ⟨c1, c2, c3⟩ := F1.cells
  go_wp2_with fail
  refine (HXX.out _).mono ?_
  rintro e w2 ⟨rfl, hb⟩
  have F2 := F1.next hb
  have B2 := below_step B1 hb
  clear F1 B1 hb c1 c2 c3
  obtain ⟨c1, c2, c3⟩ := F2.cells
  go_wp2_with fail
  refine (HYY.out _).mono ?_
  rintro e w3 ⟨rfl, hb⟩
  have F3 := F2.next hb
  have B3 := below_step B2 hb
  clear F2 B2 hb c1 c2 c3
  obtain ⟨c1, c2, c3⟩ := F3.cells
  go_wp2_with fail
  refine (HTT.out _).mono ?_
  rintro e w4 ⟨rfl, hb⟩
  have B4 := below_step B3 hb
  clear F3 B3 hb c1 c2 c3
  go_wp2
  exact bodyPost_ret (v := .tuple #[.int .i64 z, .int .i64 0]) (by simp [results, Tryd.results20, go_sem]) rfl ⟨rfl, B4⟩

set_option maxRecDepth 100000 in
theorem rMul_no (c n q x y : Int) (hc : I64 c) (hn : I64 n) (hq : I64 q) (h : ¬ (EL n [x, y] ∧ VF c n q)) (w : World) :
    Calls Tryd.prog 22 #[.agg #[.int .i64 c, .int .i64 n, .int .i64 q], .int .i64 x, .int .i64 y] w fun e w' => e = .returned (.tuple #[.int .i64 0, .int .i64 1]) ∧ Below w.heap.size w w' := by
  have F0 := Fd.new w c n q
  have hb0 := below_new w (.cells #[.int .i64 c, .int .i64 n, .int .i64 q] 23)
  by_cases hV : VF c n q
  · have HV := rValid_any c n q hc hn hq true ⟨fun _ => hV, fun _ => rfl⟩
    by_cases hx : 0 ≤ x ∧ x < n
    · have hy : ¬ (0 ≤ y ∧ y < n) := fun hy => h ⟨EL.two hx hy, hV⟩
      have HX := rIs_any c n q x true ⟨fun _ => hx, fun _ => rfl⟩
      have HY := rIs_any c n q y false ⟨fun e => (by cases e), fun e => absurd e hy⟩
      have HVV := Lib.hid HV
      have HXX := Lib.hid HX
      have HYY := Lib.hid HY
      clear hc hn hq h hV hx hy HV HX HY
      obtain ⟨c1, c2, c3⟩ := F0.cells
      go_enter Tryd.func22, Tryd.ntmps22
      go_wp2_with fail
      refine (HVV.out _).mono ?_
      rintro e w1 ⟨rfl, hb⟩
      have F1 := F0.next hb
      have B1 := below_step hb0 hb
      clear F0 hb0 hb c1 c2 c3
      obtain ⟨c1, c2, c3⟩ := F1.cells
      go_wp2_with fail
      refine (HXX.out _).mono ?_
      rintro e w2 ⟨rfl, hb⟩
      have F2 := F1.next hb
      have B2 := below_step B1 hb
      clear F1 B1 hb c1 c2 c3
      obtain ⟨c1, c2, c3⟩ := F2.cells
      go_wp2_with fail
      refine (HYY.out _).mono ?_
      rintro e w3 ⟨rfl, hb⟩
      have B3 := below_step B2 hb
      clear F2 B2 hb c1 c2 c3
      go_wp2
      exact bodyPost_ret (v := .tuple #[.int .i64 0, .int .i64 1]) (by simp [results, Tryd.results22, go_sem]) rfl ⟨rfl, B3⟩
    · have HX := rIs_any c n q x false ⟨fun e => (by cases e), fun e => absurd e hx⟩
      have HVV := Lib.hid HV
      have HXX := Lib.hid HX
      clear hc hn hq h hV hx HV HX
      obtain ⟨c1, c2, c3⟩ := F0.cells
      go_enter Tryd.func22, Tryd.ntmps22
      go_wp2_with fail
      refine (HVV.out _).mono ?_
      rintro e w1 ⟨rfl, hb⟩
      have F1 := F0.next hb
      have B1 := below_step hb0 hb
      clear F0 hb0 hb c1 c2 c3
      obtain ⟨c1, c2, c3⟩ := F1.cells
      go_wp2_with fail
      refine (HXX.out _).mono ?_
      rintro e w2 ⟨rfl, hb⟩
      have B2 := below_step B1 hb
      clear F1 B1 hb c1 c2 c3
      go_wp2
      exact bodyPost_ret (v := .tuple #[.int .i64 0, .int .i64 1]) (by simp [results, Tryd.results22, go_sem]) rfl ⟨rfl, B2⟩
  · have HV := rValid_any c n q hc hn hq false ⟨fun e => (by cases e), fun e => absurd e hV⟩
    have HVV := Lib.hid HV
    clear hc hn hq h hV HV
    obtain ⟨c1, c2, c3⟩ := F0.cells
    go_enter Tryd.func22, Tryd.ntmps22
    go_wp2_with fail
    refine (HVV.out _).mono ?_
    rintro e w1 ⟨rfl, hb⟩
    have B1 := below_step hb0 hb
    clear F0 hb0 hb c1 c2 c3
    go_wp2
    exact bodyPost_ret (v := .tuple #[.int .i64 0, .int .i64 1]) (by simp [results, Tryd.results22, go_sem]) rfl ⟨rfl, B1⟩

set_option maxRecDepth 100000 in
theorem rMul_ok (c n q x y z : Int) (hc : I64 c) (hn : I64 n) (hq : I64 q) (hV : VF c n q) (hx : 0 ≤ x ∧ x < n) (hy : 0 ≤ y ∧ y < n)
    (HT : ∀ w, Calls Tryd.prog 53 #[.agg #[.int .i64 c, .int .i64 n, .int .i64 q], .int .i64 x, .int .i64 y] w fun e w' => e = .returned (.int .i64 z) ∧ Below w.heap.size w w') (w : World) :
    Calls Tryd.prog 22 #[.agg #[.int .i64 c, .int .i64 n, .int .i64 q], .int .i64 x, .int .i64 y] w fun e w' => e = .returned (.tuple #[.int .i64 z, .int .i64 0]) ∧ Below w.heap.size w w' := by
  have HTT := Lib.hid HT
  clear HT
  have F0 := Fd.new w c n q
  have hb0 := below_new w (.cells #[.int .i64 c, .int .i64 n, .int .i64 q] 23)
  have HV := rValid_any c n q hc hn hq true ⟨fun _ => hV, fun _ => rfl⟩
  have HX := rIs_any c n q x true ⟨fun _ => hx, fun _ => rfl⟩
  have HY := rIs_any c n q y true ⟨fun _ => hy, fun _ => rfl⟩
  have HVV := Lib.hid HV
  have HXX := Lib.hid HX
  have HYY := Lib.hid HY
  clear hc hn hq hV hx hy HV HX HY
  obtain ⟨c1, c2, c3⟩ := F0.cells
  go_enter Tryd.func22, Tryd.ntmps22
  go_wp2_with fail
  refine (HVV.out _).mono ?_
  rintro e w1 ⟨rfl, hb⟩
  have F1 := F0.next hb
  have B1 := below_step hb0 hb
  clear F0 hb0 hb c1 c2 c3
  obtain ⟨c1, c2, c3⟩ := F1.cells
  go_wp2_with fail
  refine (HXX.out _).mono ?_
  rintro e w2 ⟨rfl, hb⟩
  have F2 := F1.next hb
  have B2 := below_step B1 hb
  clear F1 B1 hb c1 c2 c3
  obtain ⟨c1, c2, c3⟩ := F2.cells
  go_wp2_with fail
  refine (HYY.out _).mono ?_
  rintro e w3 ⟨rfl, hb⟩
  have F3 := F2.next hb
  have B3 := below_step B2 hb
  clear F2 B2 hb c1 c2 c3
  obtain ⟨c1, c2, c3⟩ := F3.cells
  go_wp2_with fail
  refine (HTT.out _).mono ?_
  rintro e w4 ⟨rfl, hb⟩
  have B4 := below_step B3 hb
  clear F3 B3 hb c1 c2 c3
  go_wp2
  exact bodyPost_ret (v := .tuple #[.int .i64 z, .int .i64 0]) (by simp [results, Tryd.results22, go_sem]) rfl ⟨rfl, B4⟩

set_option maxRecDepth 100000 in
theorem rDiv_no (c n q x y : Int) (hc : I64 c) (hn : I64 n) (hq : I64 q) (h : ¬ (EL n [x, y] ∧ VF c n q)) (w : World) :
    Calls Tryd.prog 24 #[.agg #[.int .i64 c, .int .i64 n, .int .i64 q], .int .i64 x, .int .i64 y] w fun e w' => e = .returned (.tuple #[.int .i64 0, .int .i64 1]) ∧ Below w.heap.size w w' := by
  have F0 := Fd.new w c n q
  have hb0 := below_new w (.cells #[.int .i64 c, .int .i64 n, .int .i64 q] 23)
  by_cases hV : VF c n q
  · have HV := rValid_any c n q hc hn hq true ⟨fun _ => hV, fun _ => rfl⟩
    by_cases hx : 0 ≤ x ∧ x < n
    · have hy : ¬ (0 ≤ y ∧ y < n) := fun hy => h ⟨EL.two hx hy, hV⟩
      have HX := rIs_any c n q x true ⟨fun _ => hx, fun _ => rfl⟩
      have HY := rIs_any c n q y false ⟨fun e => (by cases e), fun e => absurd e hy⟩
      have HVV := Lib.hid HV
      have HXX := Lib.hid HX
      have HYY := Lib.hid HY
      clear hc hn hq h hV hx hy HV HX HY
      obtain ⟨c1, c2, c3⟩ := F0.cells
      go_enter Tryd.func24, Tryd.ntmps24
      go_wp2_with fail
      refine (HVV.out _).mono ?_
      rintro e w1 ⟨rfl, hb⟩
      have F1 := F0.next hb
      have B1 := below_step hb0 hb
      clear F0 hb0 hb c1 c2 c3
      obtain ⟨c1, c2, c3⟩ := F1.cells
      go_wp2_with fail
      refine (HXX.out _).mono ?_
      rintro e w2 ⟨rfl, hb⟩
      have F2 := F1.next hb
      have B2 := below_step B1 hb
      clear F1 B1 hb c1 c2 c3
      obtain ⟨c1, c2, c3⟩ := F2.cells
      go_wp2_with fail
      refine (HYY.out _).mono ?_
      rintro e w3 ⟨rfl, hb⟩
      have B3 := below_step B2 hb
      clear F2 B2 hb c1 c2 c3
      go_wp2
      exact bodyPost_ret (v := .tuple #[.int .i64 0, .int .i64 1]) (by simp [results, Tryd.results24, go_sem]) rfl ⟨rfl, B3⟩
    · have HX := rIs_any c n q x false ⟨fun e => (by cases e), fun e => absurd e hx⟩
      have HVV := Lib.hid HV
      have HXX := Lib.hid HX
      clear hc hn hq h hV hx HV HX
      obtain ⟨c1, c2, c3⟩ := F0.cells
      go_enter Tryd.func24, Tryd.ntmps24
      go_wp2_with fail
      refine (HVV.out _).mono ?_
      rintro e w1 ⟨rfl, hb⟩
      have F1 := F0.next hb
      have B1 := below_step hb0 hb
      clear F0 hb0 hb c1 c2 c3
      obtain ⟨c1, c2, c3⟩ := F1.cells
      go_wp2_with fail
      refine (HXX.out _).mono ?_
      rintro e w2 ⟨rfl, hb⟩
      have B2 := below_step B1 hb
      clear F1 B1 hb c1 c2 c3
      go_wp2
      exact bodyPost_ret (v := .tuple #[.int .i64 0, .int .i64 1]) (by simp [results, Tryd.results24, go_sem]) rfl ⟨rfl, B2⟩
  · have HV := rValid_any c n q hc hn hq false ⟨fun e => (by cases e), fun e => absurd e hV⟩
    have HVV := Lib.hid HV
    clear hc hn hq h hV HV
    obtain ⟨c1, c2, c3⟩ := F0.cells
    go_enter Tryd.func24, Tryd.ntmps24
    go_wp2_with fail
    refine (HVV.out _).mono ?_
    rintro e w1 ⟨rfl, hb⟩
    have B1 := below_step hb0 hb
    clear F0 hb0 hb c1 c2 c3
    go_wp2
    exact bodyPost_ret (v := .tuple #[.int .i64 0, .int .i64 1]) (by simp [results, Tryd.results24, go_sem]) rfl ⟨rfl, B1⟩

set_option maxRecDepth 100000 in
theorem rDiv_zero (c n q x : Int) (hc : I64 c) (hn : I64 n) (hq : I64 q) (hV : VF c n q) (hx : 0 ≤ x ∧ x < n) (hy : 0 ≤ (0 : Int) ∧ 0 < n) (w : World) :
    Calls Tryd.prog 24 #[.agg #[.int .i64 c, .int .i64 n, .int .i64 q], .int .i64 x, .int .i64 0] w fun e w' => e = .returned (.tuple #[.int .i64 0, .int .i64 12]) ∧ Below w.heap.size w w' := by
  have F0 := Fd.new w c n q
  have hb0 := below_new w (.cells #[.int .i64 c, .int .i64 n, .int .i64 q] 23)
  have HV := rValid_any c n q hc hn hq true ⟨fun _ => hV, fun _ => rfl⟩
  have HX := rIs_any c n q x true ⟨fun _ => hx, fun _ => rfl⟩
  have HY := rIs_any c n q 0 true ⟨fun _ => hy, fun _ => rfl⟩
  have HVV := Lib.hid HV
  have HXX := Lib.hid HX
  have HYY := Lib.hid HY
  clear hc hn hq hV hx hy HV HX HY
  obtain ⟨c1, c2, c3⟩ := F0.cells
  go_enter Tryd.func24, Tryd.ntmps24
  go_wp2_with fail
  refine (HVV.out _).mono ?_
  rintro e w1 ⟨rfl, hb⟩
  have F1 := F0.next hb
  have B1 := below_step hb0 hb
  clear F0 hb0 hb c1 c2 c3
  obtain ⟨c1, c2, c3⟩ := F1.cells
  go_wp2_with fail
  refine (HXX.out _).mono ?_
  rintro e w2 ⟨rfl, hb⟩
  have F2 := F1.next hb
  have B2 := below_step B1 hb
  clear F1 B1 hb c1 c2 c3
  obtain ⟨c1, c2, c3⟩ := F2.cells
  go_wp2_with fail
  refine (HYY.out _).mono ?_
  rintro e w3 ⟨rfl, hb⟩
  have F3 := F2.next hb
  have B3 := below_step B2 hb
  clear F2 B2 hb c1 c2 c3
  go_wp2
  exact bodyPost_ret (v := .tuple #[.int .i64 0, .int .i64 12]) (by simp [results, Tryd.results24, go_sem]) rfl ⟨rfl, B3⟩

set_option maxRecDepth 100000 in
theorem rDiv_ok (c n q x y v z : Int) (hc : I64 c) (hn : I64 n) (hq : I64 q) (hV : VF c n q) (hx : 0 ≤ x ∧ x < n) (hy : 0 ≤ y ∧ y < n) (hy0 : ¬ y = 0)
    (HP : ∀ w, Calls Tryd.prog 55 #[.agg #[.int .i64 c, .int .i64 n, .int .i64 q], .int .i64 y] w fun e w' => e = .returned (.int .i64 v) ∧ Below w.heap.size w w')
    (HT : ∀ w, Calls Tryd.prog 53 #[.agg #[.int .i64 c, .int .i64 n, .int .i64 q], .int .i64 x, .int .i64 v] w fun e w' => e = .returned (.int .i64 z) ∧ Below w.heap.size w w') (w : World) :
    Calls Tryd.prog 24 #[.agg #[.int .i64 c, .int .i64 n, .int .i64 q], .int .i64 x, .int .i64 y] w fun e w' => e = .returned (.tuple #[.int .i64 z, .int .i64 0]) ∧ Below w.heap.size w w' := by
  have HTT := Lib.hid HT
  have HPP := Lib.hid HP
  clear HT HP
  have F0 := Fd.new w c n q
  have hb0 := below_new w (.cells #[.int .i64 c, .int .i64 n, .int .i64 q] 23)
  have HV := rValid_any c n q hc hn hq true ⟨fun _ => hV, fun _ => rfl⟩
  have HX := rIs_any c n q x true ⟨fun _ => hx, fun _ => rfl⟩
  have HY := rIs_any c n q y true ⟨fun _ => hy, fun _ => rfl⟩
  have HVV := Lib.hid HV
  have HXX := Lib.hid HX
  have HYY := Lib.hid HY
  clear hc hn hq hV hx hy HV HX HY
  obtain ⟨c1, c2, c3⟩ := F0.cells
  go_enter Tryd.func24, Tryd.ntmps24
  go_wp2_with fail
  refine (HVV.out _).mono ?_
  rintro e w1 ⟨rfl, hb⟩
  have F1 := F0.next hb
  have B1 := below_step hb0 hb
  clear F0 hb0 hb c1 c2 c3
  obtain ⟨c1, c2, c3⟩ := F1.cells
  go_wp2_with fail
  refine (HXX.out _).mono ?_
  rintro e w2 ⟨rfl, hb⟩
  have F2 := F1.next hb
  have B2 := below_step B1 hb
  clear F1 B1 hb c1 c2 c3
  obtain ⟨c1, c2, c3⟩ := F2.cells
  go_wp2_with fail
  refine (HYY.out _).mono ?_
  rintro e w3 ⟨rfl, hb⟩
  have F3 := F2.next hb
  have B3 := below_step B2 hb
  clear F2 B2 hb c1 c2 c3
  have F4 := F3.drew
  have B4 := B3.drew
  clear F3 B3
  obtain ⟨c1, c2, c3⟩ := F4.cells
  go_wp2
  go_region_held3 (fun V => V.cell? ⟨w.heap.size, 0, none⟩ = some (.int .i64 c) ∧ V.cell? ⟨w.heap.size, 1, none⟩ = some (.int .i64 n) ∧ V.cell? ⟨w.heap.size, 2, none⟩ = some (.int .i64 q))
    (first | (with_reducible exact F4.cells) | (with_reducible exact F5.cells) | (with_reducible exact F6.cells) | go_keep)
    (first
    | (go_at_call 55; (with_reducible refine (HPP.out _).mono ?_); rintro e w5 ⟨rfl, hb5⟩; have F5 := F4.next hb5; have B5 := below_step B4 hb5; clear F4 hb5 c1 c2 c3 B4; obtain ⟨c1, c2, c3⟩ := F5.cells)
    | (go_at_call 53; (with_reducible refine (HTT.out _).mono ?_); rintro e w6 ⟨rfl, hb6⟩; have F6 := F5.next hb6; have B6 := below_step B5 hb6; clear F5 hb6 c1 c2 c3 B5; obtain ⟨c1, c2, c3⟩ := F6.cells))
  all_goals
    go_wp2
    exact bodyPost_ret (v := .tuple #[.int .i64 z, .int .i64 0]) (by simp [results, Tryd.results24, go_sem]) rfl ⟨rfl, by first | exact B6 | exact B6.drew⟩

theorem rInv_of (c n q x z er : Int) (HP : ∀ w, Calls Tryd.prog 24 #[.agg #[.int .i64 c, .int .i64 n, .int .i64 q], .int .i64 1, .int .i64 x] w fun e w' => e = .returned (.tuple #[.int .i64 z, .int .i64 er]) ∧ Below w.heap.size w w') (w : World) :
    Calls Tryd.prog 26 #[.agg #[.int .i64 c, .int .i64 n, .int .i64 q], .int .i64 x] w fun e w' => e = .returned (.tuple #[.int .i64 z, .int .i64 er]) ∧ Below w.heap.size w w' := by
  have hb0 := below_new w (.cells #[.int .i64 c, .int .i64 n, .int .i64 q] 23)
  obtain ⟨c1, c2, c3⟩ := (Fd.new w c n q).cells
  go_enter Tryd.func26, Tryd.ntmps26
  go_wp2_with fail
  refine (HP _).mono ?_
  rintro e w2 ⟨rfl, hb⟩
  go_wp2
  exact bodyPost_ret (v := .tuple #[.int .i64 z, .int .i64 er]) (by simp [results, Tryd.results26, go_sem]) rfl ⟨rfl, below_step hb0 hb⟩
end Go.Proofs.YtjbaleadahefoaaDoor
