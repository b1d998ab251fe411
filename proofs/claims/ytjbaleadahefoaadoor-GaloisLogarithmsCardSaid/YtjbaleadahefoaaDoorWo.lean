/- Contracts of galois: differences; what is refused; Pow, Inv. -/
import Derived.Test.YtjbaleadahefoaaDoorWd
set_option linter.unusedVariables false
namespace Go.Proofs.YtjbaleadahefoaaDoor
open Go.RowKit

set_option maxRecDepth 100000 in
theorem minusP_any (c n q x y z : Int) (hc : ¬ c = 2) (hz : (x - y + n) % n = z) (hx : 0 ≤ x ∧ x ≤ 4096) (hy : 0 ≤ y ∧ y ≤ n) (hn : 1 ≤ n) (hn2 : n ≤ 4096) (c' n' q' : Int) (w : World) :
    Calls Tryd.prog 50 #[elV c n q x, elV c' n' q' y] w fun e w' => e = .returned (elV c n q z) ∧ Below w.heap.size w w' := by
  unfold elV
  obtain ⟨W, hW, E1, E2, E3, HB⟩ := three_el w c n q x c' n' q' y
  obtain ⟨d, hd⟩ : ∃ d, x - y = d := ⟨_, rfl⟩
  obtain ⟨s, hs⟩ : ∃ s, d + n = s := ⟨_, rfl⟩
  rw [hd, hs] at hz
  have hw1 : IntKind.i64.wrap d = d := by rw [IntKind.wrap_i64]; omega
  have hw2 : IntKind.i64.wrap s = s := by rw [IntKind.wrap_i64]; omega
  have hs0 : 0 ≤ s := by omega
  have hn0 : ¬ n = 0 := by omega
  have hz0 : 0 ≤ z := by rw [← hz]; exact Int.emod_nonneg _ hn0
  have hz1 : z < n := by rw [← hz]; exact Int.emod_lt_of_pos _ (by omega)
  have hm : s.tmod n = z := by rw [Int.tmod_eq_emod_of_nonneg hs0]; exact hz
  have hwz : IntKind.i64.wrap z = z := by rw [IntKind.wrap_i64]; omega
  clear hz hx hy
  go_enter Tryd.func50, Tryd.ntmps50
  go_wp2
  rw [← hW]
  have F1 := E1
  have F2 := E2
  have F3 := E3
  have HBd := HB
  clear hW E1 E2 E3 HB
  obtain ⟨c1, c2, c3, c4⟩ := F1.cells
  obtain ⟨d1, d2, d3, d4⟩ := F2.cells
  obtain ⟨e1, e2, e3, e4⟩ := F3.cells
  obtain ⟨f1, f2, f3, f4⟩ := F3.frozen
  have l1 := F1.lt
  have l2 := F2.lt
  have l3 := F3.lt
  have n13 : ¬ w.heap.size + 1 + 1 = w.heap.size := by omega
  have n23 : ¬ w.heap.size + 1 + 1 = w.heap.size + 1 := by omega
  have hg30 : w.heap.size ≤ w.heap.size + 1 + 1 := by omega
  generalize w.heap.size + 1 + 1 = g3 at *
  generalize w.heap.size + 1 = g2 at *
  go_region
  obtain ⟨t1, t2, t3, t4⟩ := peel_four e1 e2 e3 e4 (.int .i64 c) (.int .i64 n) (.int .i64 q) (.int .i64 z)
  have hg3 := hg30
  all_goals
    go_wp2
    exact bodyPost_ret (v := .agg #[.int .i64 c, .int .i64 n, .int .i64 q, .int .i64 z]) (by simp [results, Tryd.results50, go_sem, t1, t2, t3, t4]) rfl ⟨rfl, by first | exact below_four HBd.drew hg3 _ _ _ _ | exact (below_four HBd hg3 _ _ _ _).drew⟩

set_option maxRecDepth 100000 in
theorem minusB_any (n q : Int) (x y : Nat) (hx : x < 4096) (hy : y < 4096) (c' n' q' : Int) (w : World) :
    Calls Tryd.prog 50 #[elV 2 n q x, elV c' n' q' y] w fun e w' => e = .returned (elV 2 n q ((x ^^^ y : Nat) : Int)) ∧ Below w.heap.size w w' := by
  have HP := plusB_any n q x y hx hy c' n' q'
  obtain ⟨z, hz⟩ : ∃ z : Nat, x ^^^ y = z := ⟨_, rfl⟩
  rw [hz] at HP ⊢
  unfold elV at HP ⊢
  have HPP := Lib.hid HP
  obtain ⟨W, hW, E1, E2, E3, HB⟩ := three_el w 2 n q x c' n' q' y
  clear hz hx hy HP
  generalize (x : Int) = xi at *
  generalize (y : Int) = yi at *
  obtain ⟨c1, c2, c3, c4⟩ := E1.cells
  rw [hW] at c1 c2 c3 c4
  go_enter Tryd.func50, Tryd.ntmps50
  go_wp2_with fail
  rw [← hW]
  refine (HPP.out _).mono ?_
  rintro e w2 ⟨rfl, hb⟩
  have F3 := E3.next hb
  have hB := below_step HB hb
  have l3 := F3.lt
  obtain ⟨e1, e2, e3, e4⟩ := F3.cells
  obtain ⟨f1, f2, f3, f4⟩ := F3.frozen
  have hg30 : w.heap.size ≤ w.heap.size + 1 + 1 := by omega
  generalize w.heap.size + 1 + 1 = g3 at *
  obtain ⟨t1, t2, t3, t4⟩ := peel_four e1 e2 e3 e4 (.int .i64 2) (.int .i64 n) (.int .i64 q) (.int .i64 (z : Int))
  clear hW E1 E2 E3 HB F3 c1 c2 c3 c4
  go_wp2
  exact bodyPost_ret (v := .agg #[.int .i64 2, .int .i64 n, .int .i64 q, .int .i64 (z : Int)]) (by simp [results, Tryd.results50, go_sem, t1, t2, t3, t4]) rfl ⟨rfl, below_four hB hg30 _ _ _ _⟩

theorem areE_no (c n q : Int) (hc : I64 c) (hn : I64 n) (hq : I64 q) (l : List Int) (hl : ∀ x ∈ l, I64 x) (h : ¬ (EL n l ∧ VF c n q)) (A : Option Addr) (m cp : Nat) (w : World) (hT : Tb w) (hs : Sl w w.heap.size A m cp (il l)) :
    Calls Tryd.prog 47 #[.agg #[.int .i64 c, .int .i64 n, .int .i64 q], .slice A m cp] w fun e w' => e = .returned (.bool false) ∧ Below w.heap.size w w' :=
  areElements_any c n q hc hn hq l hl A m cp false ⟨fun e => (by cases e), fun e => absurd e h⟩ w hT hs
theorem I64.two {x y : Int} (hx : I64 x) (hy : I64 y) : ∀ z ∈ [x, y], I64 z := by
  intro z hz
  simp at hz
  rcases hz with rfl | rfl
  · exact hx
  · exact hy
theorem I64.one {x : Int} (hx : I64 x) : ∀ z ∈ [x], I64 z := by
  intro z hz
  simp at hz
  rw [hz]
  exact hx
set_option maxRecDepth 100000 in
theorem Add_no (c n q x y : Int) (hc : I64 c) (hn : I64 n) (hq : I64 q) (hx : I64 x) (hy : I64 y) (h : ¬ (EL n [x, y] ∧ VF c n q)) (w : World) (hT : Tb w) :
    Calls Tryd.prog 17 #[.agg #[.int .i64 c, .int .i64 n, .int .i64 q], .int .i64 x, .int .i64 y] w fun e w' => e = .returned (.tuple #[.int .i64 0, .int .i64 1]) ∧ Below w.heap.size w w' := by
  obtain ⟨W, hW, HB, F, S⟩ := two_new w c n q x y
  have HA := areE_no c n q hc hn hq [x, y] (I64.two hx hy) h _ _ _ W (hT.next HB) S
  clear hc hn hq hx hy hT S h
  go_enter Tryd.func17, Tryd.ntmps17
  go_wp2_with fail
  rw [← hW]
  refine HA.mono ?_
  rintro e w1 ⟨rfl, hb⟩
  go_wp2
  exact bodyPost_ret (v := .tuple #[.int .i64 0, .int .i64 1]) (by simp [results, Tryd.results17, go_sem]) rfl ⟨rfl, below_step HB hb⟩
set_option maxRecDepth 100000 in
theorem Sub_no (c n q x y : Int) (hc : I64 c) (hn : I64 n) (hq : I64 q) (hx : I64 x) (hy : I64 y) (h : ¬ (EL n [x, y] ∧ VF c n q)) (w : World) (hT : Tb w) :
    Calls Tryd.prog 19 #[.agg #[.int .i64 c, .int .i64 n, .int .i64 q], .int .i64 x, .int .i64 y] w fun e w' => e = .returned (.tuple #[.int .i64 0, .int .i64 1]) ∧ Below w.heap.size w w' := by
  obtain ⟨W, hW, HB, F, S⟩ := two_new w c n q x y
  have HA := areE_no c n q hc hn hq [x, y] (I64.two hx hy) h _ _ _ W (hT.next HB) S
  clear hc hn hq hx hy hT S h
  go_enter Tryd.func19, Tryd.ntmps19
  go_wp2_with fail
  rw [← hW]
  refine HA.mono ?_
  rintro e w1 ⟨rfl, hb⟩
  go_wp2
  exact bodyPost_ret (v := .tuple #[.int .i64 0, .int .i64 1]) (by simp [results, Tryd.results19, go_sem]) rfl ⟨rfl, below_step HB hb⟩
set_option maxRecDepth 100000 in
theorem Mul_no (c n q x y : Int) (hc : I64 c) (hn : I64 n) (hq : I64 q) (hx : I64 x) (hy : I64 y) (h : ¬ (EL n [x, y] ∧ VF c n q)) (w : World) (hT : Tb w) :
    Calls Tryd.prog 21 #[.agg #[.int .i64 c, .int .i64 n, .int .i64 q], .int .i64 x, .int .i64 y] w fun e w' => e = .returned (.tuple #[.int .i64 0, .int .i64 1]) ∧ Below w.heap.size w w' := by
  obtain ⟨W, hW, HB, F, S⟩ := two_new w c n q x y
  have HA := areE_no c n q hc hn hq [x, y] (I64.two hx hy) h _ _ _ W (hT.next HB) S
  clear hc hn hq hx hy hT S h
  go_enter Tryd.func21, Tryd.ntmps21
  go_wp2_with fail
  rw [← hW]
  refine HA.mono ?_
  rintro e w1 ⟨rfl, hb⟩
  go_wp2
  exact bodyPost_ret (v := .tuple #[.int .i64 0, .int .i64 1]) (by simp [results, Tryd.results21, go_sem]) rfl ⟨rfl, below_step HB hb⟩
set_option maxRecDepth 100000 in
theorem Div_no (c n q x y : Int) (hc : I64 c) (hn : I64 n) (hq : I64 q) (hx : I64 x) (hy : I64 y) (h : ¬ (EL n [x, y] ∧ VF c n q)) (w : World) (hT : Tb w) :
    Calls Tryd.prog 23 #[.agg #[.int .i64 c, .int .i64 n, .int .i64 q], .int .i64 x, .int .i64 y] w fun e w' => e = .returned (.tuple #[.int .i64 0, .int .i64 1]) ∧ Below w.heap.size w w' := by
  obtain ⟨W, hW, HB, F, S⟩ := two_new w c n q x y
  have HA := areE_no c n q hc hn hq [x, y] (I64.two hx hy) h _ _ _ W (hT.next HB) S
  clear hc hn hq hx hy hT S h
  go_enter Tryd.func23, Tryd.ntmps23
  go_wp2_with fail
  rw [← hW]
  refine HA.mono ?_
  rintro e w1 ⟨rfl, hb⟩
  go_wp2
  exact bodyPost_ret (v := .tuple #[.int .i64 0, .int .i64 1]) (by simp [results, Tryd.results23, go_sem]) rfl ⟨rfl, below_step HB hb⟩
set_option maxRecDepth 100000 in
theorem Div_zero (c n q x : Int) (hc : I64 c) (hn : I64 n) (hq : I64 q) (hV : VF c n q) (hx : 0 ≤ x ∧ x < n) (w : World) (hT : Tb w) :
    Calls Tryd.prog 23 #[.agg #[.int .i64 c, .int .i64 n, .int .i64 q], .int .i64 x, .int .i64 0] w fun e w' => e = .returned (.tuple #[.int .i64 0, .int .i64 12]) ∧ Below w.heap.size w w' := by
  obtain ⟨W, hW, HB, F, S⟩ := two_new w c n q x 0
  have HA := areE_ok c n q hc hn hq hV [x, 0] (EL.two hx (by omega)) _ _ _ W (hT.next HB) S
  clear hc hn hq hV hx hT S
  go_enter Tryd.func23, Tryd.ntmps23
  go_wp2_with fail
  rw [← hW]
  refine HA.mono ?_
  rintro e w1 ⟨rfl, hb⟩
  go_wp2
  exact bodyPost_ret (v := .tuple #[.int .i64 0, .int .i64 12]) (by simp [results, Tryd.results23, go_sem]) rfl ⟨rfl, below_step HB hb⟩

set_option maxRecDepth 100000 in
theorem Pow_ok (c n q x k z : Int) (hc : I64 c) (hn : I64 n) (hq : I64 q) (hV : VF c n q) (hx : 0 ≤ x ∧ x < n) (hx0 : ¬ x = 0)
    (HP : ∀ w, Calls Tryd.prog 54 #[elV c n q x, .int .i64 k] w fun e w' => e = .returned (elV c n q z) ∧ Below w.heap.size w w') (w : World) (hT : Tb w) :
    Calls Tryd.prog 27 #[.agg #[.int .i64 c, .int .i64 n, .int .i64 q], .int .i64 x, .int .i64 k] w fun e w' => e = .returned (.tuple #[.int .i64 z, .int .i64 0]) ∧ Below w.heap.size w w' := by
  obtain ⟨W, hW, HB, F, S⟩ := one_new w c n q x
  have HA := areE_ok c n q hc hn hq hV [x] (EL.one hx) _ _ _ W (hT.next HB) S
  unfold elV at HP
  have hx1 : (x != 0) = true := by rw [bne_iff_ne]; exact hx0
  clear hc hn hq hV hx hT S
  go_enter Tryd.func27, Tryd.ntmps27
  go_wp2_with fail
  rw [← hW]
  refine HA.mono ?_
  rintro e w1 ⟨rfl, hb⟩
  have F1 := F.next hb
  have hB := below_step HB hb
  clear F HB hb HA hW
  obtain ⟨c1, c2, c3⟩ := F1.cells
  go_wp2_with fail
  refine (HP _).mono ?_
  rintro e w2 ⟨rfl, hb⟩
  have hF := run_value c n q z w2
  go_wp2
  exact bodyPost_ret (v := .tuple #[.int .i64 z, .int .i64 0]) (by simp [results, Tryd.results27, go_sem]) rfl ⟨rfl, below_step hB hb⟩
set_option maxRecDepth 100000 in
theorem Pow_no (c n q x k : Int) (hc : I64 c) (hn : I64 n) (hq : I64 q) (hx : I64 x) (h : ¬ (EL n [x] ∧ VF c n q)) (w : World) (hT : Tb w) :
    Calls Tryd.prog 27 #[.agg #[.int .i64 c, .int .i64 n, .int .i64 q], .int .i64 x, .int .i64 k] w fun e w' => e = .returned (.tuple #[.int .i64 0, .int .i64 1]) ∧ Below w.heap.size w w' := by
  obtain ⟨W, hW, HB, F, S⟩ := one_new w c n q x
  have HA := areE_no c n q hc hn hq [x] (I64.one hx) h _ _ _ W (hT.next HB) S
  clear hc hn hq hx hT S h
  go_enter Tryd.func27, Tryd.ntmps27
  go_wp2_with fail
  rw [← hW]
  refine HA.mono ?_
  rintro e w1 ⟨rfl, hb⟩
  go_wp2
  exact bodyPost_ret (v := .tuple #[.int .i64 0, .int .i64 1]) (by simp [results, Tryd.results27, go_sem]) rfl ⟨rfl, below_step HB hb⟩
set_option maxRecDepth 100000 in
theorem Pow_zero (c n q k : Int) (hc : I64 c) (hn : I64 n) (hq : I64 q) (hV : VF c n q) (hn0 : 0 < n) (hk : k < 0) (w : World) (hT : Tb w) :
    Calls Tryd.prog 27 #[.agg #[.int .i64 c, .int .i64 n, .int .i64 q], .int .i64 0, .int .i64 k] w fun e w' => e = .returned (.tuple #[.int .i64 0, .int .i64 12]) ∧ Below w.heap.size w w' := by
  obtain ⟨W, hW, HB, F, S⟩ := one_new w c n q 0
  have HA := areE_ok c n q hc hn hq hV [0] (EL.one ⟨by omega, hn0⟩) _ _ _ W (hT.next HB) S
  clear hc hn hq hV hT S
  go_enter Tryd.func27, Tryd.ntmps27
  go_wp2_with fail
  rw [← hW]
  refine HA.mono ?_
  rintro e w1 ⟨rfl, hb⟩
  go_wp2
  exact bodyPost_ret (v := .tuple #[.int .i64 0, .int .i64 12]) (by simp [results, Tryd.results27, go_sem]) rfl ⟨rfl, below_step HB hb⟩
theorem Inv_of (c n q x z er : Int) (HP : ∀ w, Tb w → Calls Tryd.prog 27 #[.agg #[.int .i64 c, .int .i64 n, .int .i64 q], .int .i64 x, .int .i64 (-1)] w fun e w' => e = .returned (.tuple #[.int .i64 z, .int .i64 er]) ∧ Below w.heap.size w w') (w : World) (hT : Tb w) :
    Calls Tryd.prog 25 #[.agg #[.int .i64 c, .int .i64 n, .int .i64 q], .int .i64 x] w fun e w' => e = .returned (.tuple #[.int .i64 z, .int .i64 er]) ∧ Below w.heap.size w w' := by
  have hb0 := below_new w (.cells #[.int .i64 c, .int .i64 n, .int .i64 q] 23)
  have hT0 := hT.next hb0
  obtain ⟨c1, c2, c3⟩ := (Fd.new w c n q).cells
  go_enter Tryd.func25, Tryd.ntmps25
  go_wp2_with fail
  refine (HP _ hT0).mono ?_
  rintro e w2 ⟨rfl, hb⟩
  go_wp2
  exact bodyPost_ret (v := .tuple #[.int .i64 z, .int .i64 er]) (by simp [results, Tryd.results25, go_sem]) rfl ⟨rfl, below_step hb0 hb⟩
end Go.Proofs.YtjbaleadahefoaaDoor
