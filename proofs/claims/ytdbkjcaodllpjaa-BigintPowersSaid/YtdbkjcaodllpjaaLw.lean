/- BigintPowers returns true for any integer and any exponent. -/
import Derived.Test.YtdbkjcaodllpjaaVe
set_option linter.unusedVariables false
namespace Go.Proofs.Ytdbkjcaodllpjaa
open Go.RowKit

theorem one_pow_fit (k : Nat) : (enc (1 ^ k)).length ≤ 512 := by rw [Nat.one_pow, one_limb (by omega) (by omega)]; omega
theorem pow_pair (B0 : Bool) (A0 : Option Addr) (n0 c0 : Nat) (l0 : List Nat) (o0 : Ok l0) (k : Int) (hk : -9223372036854775808 ≤ k ∧ k ≤ 9223372036854775807) :
    ∃ r1 r2 r3, Hid (∀ W : World, Sl W W.heap.size A0 n0 c0 (ml l0) → Calls Try.prog 31 #[.agg #[.bool B0, .slice A0 n0 c0], .int .i64 k] W (GiveE r1 r2 r3 W)) ∧ Hid (∀ W : World, Sl W W.heap.size A0 n0 c0 (ml l0) → Calls Try.prog 32 #[.agg #[.bool B0, .slice A0 n0 c0], .int .i64 k] W (GiveE r1 r2 r3 W)) := by
  cases hval : validB B0 l0 with
  | false => exact ⟨_, _, _, fun W h => pow_bad B0 A0 n0 c0 l0 k W h o0 hval, fun W h => rPow_bad B0 A0 n0 c0 l0 k W h o0 hval⟩
  | true =>
    by_cases hneg : k < 0
    · exact ⟨_, _, _, fun W h => pow_under B0 A0 n0 c0 l0 k W h hval o0 hneg, fun W h => rPow_under B0 A0 n0 c0 l0 k W h hval o0 hneg⟩
    obtain ⟨j, rfl⟩ : ∃ j : Nat, k = j := ⟨k.toNat, by omega⟩
    obtain ⟨ev, hva⟩ := of_validB o0 hval
    generalize val l0 = v at ev hva
    subst ev
    obtain ⟨q1, q2, q3, hq⟩ : ∃ q1 q2 q3, zpowS B0 v j = (q1, q2, q3) := ⟨_, _, _, rfl⟩
    have HP : Hid (∀ W : World, Sl W W.heap.size A0 n0 c0 (ml (enc v)) → Calls Try.prog 31 #[.agg #[.bool B0, .slice A0 n0 c0], .int .i64 (j : Int)] W (GiveE q1 q2 q3 W)) := by
      intro W h
      have := pow_any _ B0 v j W (sl_zi h) hva (by omega)
      rwa [hq] at this
    refine ⟨q1, q2, q3, HP, ?_⟩
    intro W h
    by_cases h0 : j = 0
    · subst h0
      rw [zpow_fit (by rw [Nat.pow_zero, one_limb (by omega) (by omega)]; omega)] at hq
      injection hq with e1 e2
      injection e2 with e2 e3
      subst e2 e3
      have e1' : q1 = false := by rw [← e1]; simp
      rw [e1', Nat.pow_zero]
      exact rPow_zero B0 v A0 n0 c0 W h hva
    have hj : (0 : Int) < (j : Int) := by omega
    by_cases hv0 : v = 0
    · subst hv0
      have hB : B0 = false := by cases B0 with | false => rfl | true => exact absurd rfl (hva.1 rfl)
      subst hB
      rw [zpow_fit (by rw [Nat.zero_pow (by omega), enc_zero]; simp)] at hq
      injection hq with e1 e2
      injection e2 with e2 e3
      subst e2 e3
      have e1' : q1 = false := by rw [← e1]; simp
      rw [e1', Nat.zero_pow (by omega)]
      exact rPow_nil A0 n0 c0 W h j hj
    by_cases hv1 : v = 1
    · subst hv1
      rw [zpow_fit (one_pow_fit j)] at hq
      injection hq with e1 e2
      injection e2 with e2 e3
      subst e2 e3
      rw [Nat.one_pow] at e1 ⊢
      cases B0
      · have e1' : q1 = false := by rw [← e1]; simp
        rw [e1']
        exact rPow_one A0 n0 c0 W h j hj
      · have e1' : q1 = decide (j % 2 = 1) := by rw [← e1]; simp
        rw [e1']
        refine rPow_minus A0 n0 c0 W h j hj _ ?_
        by_cases h2 : j % 2 = 1
        · rw [decide_eq_true h2, Bool.not_true, beq_eq_false_iff_ne]; omega
        · rw [decide_eq_false h2, Bool.not_false, beq_iff_eq]; omega
    · exact rPow_loop B0 A0 n0 c0 v j W h hva (by omega) (by omega) (by omega) q1 q2 q3 hq

set_option maxRecDepth 100000 in
set_option maxHeartbeats 4000000 in
theorem law_powers (B0 : Bool) (A0 : Option Addr) (n0 c0 : Nat) (l0 : List Nat) (k : Int) (w : World) (s0 : Sl w w.heap.size A0 n0 c0 (ml l0)) (o0 : Ok l0) (hk : -9223372036854775808 ≤ k ∧ k ≤ 9223372036854775807) :
    Calls Try.prog 6 #[.agg #[.bool B0, .slice A0 n0 c0], .int .i64 k] w fun e w' => e = .returned (.bool true) ∧ Below w.heap.size w w' := by
  obtain ⟨r1, r2, r3, HM, HRM⟩ := pow_pair B0 A0 n0 c0 l0 o0 k hk
  have I0 : Bl (w.alloc (bx (.bool B0) (.slice A0 n0 c0))) w.heap.size B0 A0 n0 c0 l0 := ⟨At.new _ _ _, s0.next (below_new _ _)⟩
  have HB := below_new w (bx (.bool B0) (.slice A0 n0 c0))
  clear s0 hk
  go_enter Try.func6, Try.ntmps6
  go_wp2_with fail
  refine (HM.out _ I0.sl).mono ?_
  intro e w2 h
  obtain ⟨A2, n2, c2, rfl, hs2, hb2⟩ := giveE_out h
  have X2 := Bx.new (neg := r1) hs2
  have hn2 := below_step hb2 (below_new w2 (.cells #[.bool r1, .slice A2 n2 c2] 24))
  replace I0 := I0.next hn2
  replace HB := below_step HB hn2
  obtain ⟨k1, k2⟩ := I0.cells
  clear h hs2 hb2 hn2
  go_wp2_with fail
  refine (HRM.out _ I0.sl).mono ?_
  intro e w3 h
  obtain ⟨A3, n3, c3, rfl, hs3, hb3⟩ := giveE_out h
  have X3 := Bx.new (neg := r1) hs3
  have hn3 := below_step hb3 (below_new w3 (.cells #[.bool r1, .slice A3 n3 c3] 24))
  replace X2 := X2.next hn3
  replace HB := below_step HB hn3
  clear h hs3 hb3 hn3 I0 k1 k2
  obtain ⟨k1, k2⟩ := X2.cells
  go_wp2_with fail
  refine (same_eq _ _ _ _ _ X2.zi X3.zi).mono ?_
  rintro e w4 ⟨rfl, hb4⟩
  replace HB := below_step HB hb4
  clear hb4 X2 X3 k1 k2
  go_wp2_with fail
  refine (examples_any _).mono ?_
  rintro e w5 ⟨rfl, hb5⟩
  go_wp2
  go_ret
  exact ⟨rfl, below_step HB hb5⟩
end Go.Proofs.Ytdbkjcaodllpjaa
