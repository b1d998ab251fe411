/- BchInformation returns true for every argument. No condition. -/
import Derived.Test.YtnkoenohngkcmaaL3
set_option linter.unusedVariables false
namespace Go.Proofs.Ytnkoenohngkcmaa
open Go.RowKit

/-- what Format and then ParseFormat of the changed word return -/
theorem format_back (level mask : Int) (x : Nat) (hx : x < 32768) :
    (∃ a e : Int, (e = 15 ∨ e = 3) ∧ ∀ w, Calls Try.prog 18 #[.int .i64 level, .int .i64 mask] w fun r w' => r = .returned (.tuple #[.int .i64 a, .int .i64 e]) ∧ Below w.heap.size w w') ∨
    (∃ a y : Nat, (∀ w, Calls Try.prog 18 #[.int .i64 level, .int .i64 mask] w fun r w' => r = .returned (.tuple #[.int .i64 (a : Int), .int .i64 0]) ∧ Below w.heap.size w w') ∧
      Go.bits .xor .i64 (a : Int) (x : Int) = (y : Int) ∧ (wt x ≤ 3 → ∀ w, Calls Try.prog 20 #[.int .i64 (y : Int)] w fun r w' => r = .returned (.tuple #[.int .i64 level, .int .i64 mask, .int .i64 ((wt x : Nat) : Int), .int .i64 0]) ∧ Below w.heap.size w w')) := by
  have hl : lvI level = -1 ∨ ∃ b : Nat, b < 4 ∧ lvI level = (b : Int) ∧ lvOf b = level := by
    rcases lvI_cases level with ⟨h0, h⟩ | ⟨h0, h⟩ | ⟨h0, h⟩ | ⟨h0, h⟩ | ⟨_, _, _, _, h⟩
    · exact Or.inr ⟨1, by omega, h, h0.symm⟩
    · exact Or.inr ⟨0, by omega, h, h0.symm⟩
    · exact Or.inr ⟨3, by omega, h, h0.symm⟩
    · exact Or.inr ⟨2, by omega, h, h0.symm⟩
    · exact Or.inl h
  rcases hl with hl | ⟨b, hb, hl, hlv⟩
  · exact Or.inl ⟨0, 15, Or.inl rfl, fun w => format_level level mask hl w⟩
  · by_cases hm : mask < 0 ∨ 8 ≤ mask
    · exact Or.inl ⟨0, 3, Or.inr rfl, fun w => format_mask level mask b hl hm w⟩
    · obtain ⟨m, rfl⟩ : ∃ m : Nat, mask = m := ⟨mask.toNat, by omega⟩
      have hm8 : m < 8 := by omega
      have hV : b * 8 + m < 32 := by omega
      have hc := cwF_lt (b * 8 + m) hV
      have ha : cw 1335 10 5 (b * 8 + m) ^^^ 21522 < 2 ^ 15 := Nat.xor_lt_two_pow (n := 15) hc (by omega)
      have hy := Nat.xor_lt_two_pow (n := 15) ha hx
      refine Or.inr ⟨_, _, fun w => format_ok level m b hl hb hm8 w, i64_xor _ x 15 ha hx (by omega), fun hT w => ?_⟩
      have HP := parseFormat_ok _ hy w
      have e1 : (cw 1335 10 5 (b * 8 + m) ^^^ 21522 ^^^ x) ^^^ 21522 = cw 1335 10 5 (b * 8 + m) ^^^ x := by
        rw [Nat.xor_assoc, Nat.xor_comm x 21522, ← Nat.xor_assoc, Nat.xor_assoc (cw 1335 10 5 (b * 8 + m)) 21522 21522, Nat.xor_self, Nat.xor_zero]
      rw [e1] at HP
      obtain ⟨h1, h2⟩ := near_found degF 5 (b * 8 + m) x hV (by rw [distF]; omega) (by rw [distF]; omega)
      rw [distF] at h1
      rw [show near 1335 10 5 (cw 1335 10 5 (b * 8 + m) ^^^ x) 3 32 0 = some (b * 8 + m) from h1] at HP
      simp only [pfV] at HP
      rw [h2, show (b * 8 + m) / 8 = b by omega, show (b * 8 + m) % 8 = m by omega, hlv] at HP
      exact HP
theorem version_back (n : Int) (x : Nat) (hx : x < 262144) :
    (∃ a : Int, ∀ w, Calls Try.prog 22 #[.int .i64 n] w fun r w' => r = .returned (.tuple #[.int .i64 a, .int .i64 14]) ∧ Below w.heap.size w w') ∨
    (∃ a y : Nat, (∀ w, Calls Try.prog 22 #[.int .i64 n] w fun r w' => r = .returned (.tuple #[.int .i64 (a : Int), .int .i64 0]) ∧ Below w.heap.size w w') ∧
      Go.bits .xor .i64 (a : Int) (x : Int) = (y : Int) ∧ (wt x ≤ 3 → ∀ w, Calls Try.prog 24 #[.int .i64 (y : Int)] w fun r w' => r = .returned (.tuple #[.int .i64 n, .int .i64 ((wt x : Nat) : Int), .int .i64 0]) ∧ Below w.heap.size w w')) := by
  by_cases hm : n < 7 ∨ 40 < n
  · exact Or.inl ⟨0, fun w => version_no n hm w⟩
  · obtain ⟨v, rfl⟩ : ∃ v : Nat, n = v := ⟨n.toNat, by omega⟩
    have h7 : 7 ≤ v := by omega
    have h40 : v ≤ 40 := by omega
    have hc : cw 7973 12 6 v < 2 ^ 18 := cw_lt degV 6 v (by omega)
    have hy := Nat.xor_lt_two_pow (n := 18) hc hx
    refine Or.inr ⟨_, _, fun w => version_yes v h7 h40 w, i64_xor _ x 18 hc hx (by omega), fun hT w => ?_⟩
    have HP := parseVersion_ok _ hy w
    obtain ⟨h1, h2⟩ := near_found degV 6 v x (by omega) (by rw [distV]; omega) (by rw [distV]; omega)
    rw [distV] at h1
    rw [show near 7973 12 6 (cw 7973 12 6 v ^^^ x) 3 64 0 = some v from h1, pvV_yes _ v x (wt x) h7 h40 h2 rfl] at HP
    exact HP

theorem mod_data (c : Int) (N : Nat) (h0 : 0 < N) : ∃ x : Nat, x < N ∧ c % (N : Int) = x := by
  have h1 := Int.emod_nonneg c (show (N : Int) ≠ 0 by omega)
  have h2 := Int.emod_lt_of_pos c (show (0 : Int) < N by omega)
  exact ⟨(c % (N : Int)).toNat, by omega, by omega⟩
set_option maxRecDepth 100000 in
set_option maxHeartbeats 2000000 in
theorem law_information (level mask version change : Int) (w : World) (hl : -9223372036854775808 ≤ level ∧ level ≤ 9223372036854775807) (hm : -9223372036854775808 ≤ mask ∧ mask ≤ 9223372036854775807) (hv : -9223372036854775808 ≤ version ∧ version ≤ 9223372036854775807) (hc : 0 ≤ change ∧ change ≤ 4294967295) :
    Calls Try.prog 10 #[.int .i64 level, .int .i64 mask, .int .i64 version, .int .u32 change] w fun e w' => e = .returned (.bool true) ∧ Below w.heap.size w w' := by
  obtain ⟨x, hx, hx2⟩ := mod_data change 32768 (by omega)
  obtain ⟨z, hz, hz2⟩ := mod_data change 262144 (by omega)
  have hx3 : change % 32768 = (x : Int) := hx2
  have hz3 : change % 262144 = (z : Int) := hz2
  have FB := format_back level mask x hx
  have VB := version_back version z hz
  have HO1 := lOnes_any x (by omega)
  have HO2 := lOnes_any z (by omega)
  obtain ⟨T, hT⟩ : ∃ T, wt x = T := ⟨_, rfl⟩
  obtain ⟨U, hU⟩ : ∃ U, wt z = U := ⟨_, rfl⟩
  rw [hT] at FB HO1
  rw [hU] at VB HO2
  obtain ⟨hc1, hc2⟩ := hc
  clear hT hU hx hz hx2 hz2 hl hm hv
  have FB2 : (∃ a e : Int, (e = 15 ∨ e = 3) ∧ ∀ w, Calls Try.prog 18 #[.int .i64 level, .int .i64 mask] w fun r w' => r = .returned (.tuple #[.int .i64 a, .int .i64 e]) ∧ Below w.heap.size w w') ∨
    (∃ a y : Int, (∀ w, Calls Try.prog 18 #[.int .i64 level, .int .i64 mask] w fun r w' => r = .returned (.tuple #[.int .i64 a, .int .i64 0]) ∧ Below w.heap.size w w') ∧
      Go.bits .xor .i64 a (x : Int) = y ∧ ((decide ((T : Int) ≤ 3) = true ∧ ∀ w, Calls Try.prog 20 #[.int .i64 y] w fun r w' => r = .returned (.tuple #[.int .i64 level, .int .i64 mask, .int .i64 (T : Int), .int .i64 0]) ∧ Below w.heap.size w w') ∨ decide ((T : Int) ≤ 3) = false)) := by
    rcases FB with h | ⟨a, y, h1, h2, h3⟩
    · exact Or.inl h
    · refine Or.inr ⟨a, y, h1, h2, ?_⟩
      by_cases hT : T ≤ 3
      · exact Or.inl ⟨decide_eq_true (by omega), h3 hT⟩
      · exact Or.inr (decide_eq_false (by omega))
  have VB2 : (∃ a : Int, ∀ w, Calls Try.prog 22 #[.int .i64 version] w fun r w' => r = .returned (.tuple #[.int .i64 a, .int .i64 14]) ∧ Below w.heap.size w w') ∨
    (∃ a y : Int, (∀ w, Calls Try.prog 22 #[.int .i64 version] w fun r w' => r = .returned (.tuple #[.int .i64 a, .int .i64 0]) ∧ Below w.heap.size w w') ∧
      Go.bits .xor .i64 a (z : Int) = y ∧ ((decide ((U : Int) ≤ 3) = true ∧ ∀ w, Calls Try.prog 24 #[.int .i64 y] w fun r w' => r = .returned (.tuple #[.int .i64 version, .int .i64 (U : Int), .int .i64 0]) ∧ Below w.heap.size w w') ∨ decide ((U : Int) ≤ 3) = false)) := by
    rcases VB with h | ⟨a, y, h1, h2, h3⟩
    · exact Or.inl h
    · refine Or.inr ⟨a, y, h1, h2, ?_⟩
      by_cases hT : U ≤ 3
      · exact Or.inl ⟨decide_eq_true (by omega), h3 hT⟩
      · exact Or.inr (decide_eq_false (by omega))
  clear FB VB
  generalize (T : Int) = t at *
  generalize (U : Int) = u at *
  generalize (x : Int) = xi at *
  generalize (z : Int) = zi at *
  clear T U x z
  rcases FB2 with ⟨a, e, rfl | rfl, HF⟩ | ⟨a, y, HF, hy, ⟨ht, HPF⟩ | ht⟩
  all_goals
    rcases VB2 with ⟨b, HV⟩ | ⟨b, q, HV, hq, ⟨hu, HPV⟩ | hu⟩
  all_goals
    go_enter Try.func10, Try.ntmps10
    go_wp2_with fail
    refine (HF _).mono ?_
    rintro e w1 ⟨rfl, h⟩
    go_wp2_with fail
    repeat (first
      | (with_reducible refine (HO1 _).mono ?_; rintro e w' ⟨rfl, rfl⟩; go_wp2_with fail)
      | (with_reducible refine (HPF _).mono ?_; rintro e w' ⟨rfl, h2⟩; replace h := below_step h h2; clear h2; go_wp2_with fail)
      | (with_reducible refine (HV _).mono ?_; rintro e w' ⟨rfl, h2⟩; replace h := below_step h h2; clear h2 HV; go_wp2_with fail)
      | (with_reducible refine (HO2 _).mono ?_; rintro e w' ⟨rfl, rfl⟩; go_wp2_with fail)
      | (with_reducible refine (HPV _).mono ?_; rintro e w' ⟨rfl, h2⟩; replace h := below_step h h2; clear h2; go_wp2_with fail))
    refine (examples_any _).mono ?_
    rintro e w4 ⟨rfl, h4⟩
    go_wp2
    go_ret
    exact ⟨rfl, below_step h h4⟩
end Go.Proofs.Ytnkoenohngkcmaa
