/- Contracts: GCD, by what commonDivisor returns. -/
import Derived.Test.YtebbpodcldndjaaV8
import Derived.Test.YtebbpodcldndjaaV6
set_option linter.unusedVariables false
namespace Go.Proofs.Ytebbpodcldndjaa
open Go.RowKit

theorem sl_small {w : World} {B : Nat} {A : Option Addr} {n c : Nat} {l : List Nat} (h : Sl w B A n c (ml l)) : n ≤ 9223372036854775807 := by
  have h1 := h.le
  have h2 := h.max
  unfold maxLen at h2
  omega
set_option maxRecDepth 100000 in
set_option maxHeartbeats 2000000 in
theorem gcd_of (neg neg' : Bool) (A1 A2 : Option Addr) (n1 c1 n2 c2 a b g : Nat) (w : World) (hs1 : Sl w w.heap.size A1 n1 c1 (ml (enc a))) (hs2 : Sl w w.heap.size A2 n2 c2 (ml (enc b))) (hva : Vd neg a) (hvb : Vd neg' b)
    (HCD : Hid (∀ W : World, Sl W W.heap.size A1 n1 c1 (ml (enc a)) → Sl W W.heap.size A2 n2 c2 (ml (enc b)) → Calls Try.prog 68 #[.slice A1 n1 c1, .slice A2 n2 c2] W (Mag (enc g) W))) :
    Calls Try.prog 29 #[.agg #[.bool neg, .slice A1 n1 c1], .agg #[.bool neg', .slice A2 n2 c2]] w (GiveE false g 0 w) := by
  obtain ⟨HA, HA2, HR, HB, hS⟩ := boxed_abr w (.bool neg) (.slice A1 n1 c1) (.bool neg') (.slice A2 n2 c2)
  have h1 := hS _ _ _ _ hs1
  have h2 := hS _ _ _ _ hs2
  clear hS hs1 hs2
  obtain ⟨ng, hng⟩ : ∃ ng, (enc g).length = ng := ⟨_, rfl⟩
  have HNG := Lib.hid hng
  clear hng
  go_enter Try.func29, Try.ntmps29
  go_wp2_with fail
  refine (valid_true hva h1).mono ?_
  rintro e w3 ⟨rfl, hb3⟩
  replace h1 := h1.next hb3
  replace h2 := h2.next hb3
  replace HA := HA.next hb3
  replace HA2 := HA2.next hb3
  replace HR := HR.next hb3
  replace HB := below_step HB hb3
  clear hb3
  obtain ⟨a1, a2, _, _⟩ := HA.facts
  obtain ⟨a3, a4, _, _⟩ := HA2.facts
  go_wp2_with fail
  refine (valid_true hvb h2).mono ?_
  rintro e w4 ⟨rfl, hb4⟩
  clear a1 a2 a3 a4
  replace h1 := h1.next hb4
  replace h2 := h2.next hb4
  obtain ⟨a1, a2, _, _⟩ := (HA.next hb4).facts
  obtain ⟨a3, a4, _, _⟩ := (HA2.next hb4).facts
  replace HR := HR.next hb4
  replace HB := below_step HB hb4
  clear hb4 HA HA2
  have HOP := Lib.hid (HCD.out _ h1 h2)
  go_wp2_with fail
  refine HOP.out.mono ?_
  rintro e w5 ⟨A5, c5, rfl, hs5, hb5⟩
  rw [HNG.out] at hs5 ⊢
  replace HR := HR.next hb5
  replace HB := below_step HB hb5
  clear a1 a2 a3 a4 HOP HCD hb5 h1 h2
  have hn5 := sl_small hs5
  go_wp2_with fail
  refine (signed_any false A5 ng c5 _ hn5).mono ?_
  rintro e w6 ⟨rfl, hb6⟩
  replace HR := HR.next hb6
  replace HB := below_step HB hb6
  replace hs5 := hs5.next hb6
  obtain ⟨t1, t2, t3, t4⟩ := HR.facts
  go_wp2
  refine bodyPost_ret (v := .tuple #[.agg #[.bool (false && decide (ng ≠ 0)), .slice A5 ng c5], .int .i64 0]) (by simp [results, Try.results29, go_sem, t1, t2]) rfl ?_
  exact GiveE.mk HB (by omega) HR HNG.out hs5 rfl _ _
end Go.Proofs.Ytebbpodcldndjaa
