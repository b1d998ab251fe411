/- BchLinear, BchCorrects, BchDetects and BchInformation return true for every argument. No condition. -/
import Derived.Test.YtnkoenohngkcmaaWc
set_option linter.unusedVariables false
namespace Go.Proofs.Ytnkoenohngkcmaa
open Go.RowKit

theorem mod_pow (a k : Nat) : (a : Int) % ((2 ^ k : Nat) : Int) = ((a % 2 ^ k : Nat) : Int) := (Int.natCast_emod a (2 ^ k)).symm
set_option maxRecDepth 100000 in
theorem law_linear_k (a b k gen : Int) (w : World) (hk : ¬ (1 ≤ k ∧ k ≤ 12)) :
    Calls Try.prog 7 #[.int .u16 a, .int .u16 b, .int .i64 k, .int .i64 gen] w fun e w' => e = .returned (.bool true) ∧ Below w.heap.size w w' := by
  have HB := encode_bad 0 k gen (fun h => hk ⟨h.1, h.2.1⟩)
  by_cases h1 : k < 1
  · clear hk
    go_enter Try.func7, Try.ntmps7
    go_wp2_with fail
    refine (HB _).mono ?_
    rintro e w1 ⟨rfl, h1⟩
    go_wp2_with fail
    refine (examples_any _).mono ?_
    rintro e w3 ⟨rfl, h3⟩
    go_wp2
    go_ret
    exact ⟨rfl, below_step h1 h3⟩
  · have h12 : 12 < k := by omega
    clear hk
    go_enter Try.func7, Try.ntmps7
    go_wp2_with fail
    refine (HB _).mono ?_
    rintro e w1 ⟨rfl, h1⟩
    go_wp2_with fail
    refine (examples_any _).mono ?_
    rintro e w3 ⟨rfl, h3⟩
    go_wp2
    go_ret
    exact ⟨rfl, below_step h1 h3⟩
/-- the two numbers of the statement, and their exclusive or -/
theorem two_data (a b : Int) (k N : Nat) (hN : 2 ^ k = N) (ha : 0 ≤ a) (hb : 0 ≤ b) : ∃ x y : Nat, x < N ∧ y < N ∧ a % (N : Int) = x ∧ b % (N : Int) = y := by
  have h0 : 0 < N := by rw [← hN]; exact Nat.pow_pos (by omega)
  have h1 := Int.emod_nonneg a (show (N : Int) ≠ 0 by omega)
  have h2 := Int.emod_lt_of_pos a (show (0 : Int) < N by omega)
  have h3 := Int.emod_nonneg b (show (N : Int) ≠ 0 by omega)
  have h4 := Int.emod_lt_of_pos b (show (0 : Int) < N by omega)
  exact ⟨(a % (N : Int)).toNat, (b % (N : Int)).toNat, by omega, by omega, by omega, by omega⟩
set_option maxRecDepth 100000 in
theorem law_linear_g (a b gen : Int) (k : Nat) (w : World) (hk1 : 1 ≤ k) (hk : k ≤ 12) (hg : ¬ OkC k gen) (ha : 0 ≤ a ∧ a ≤ 65535) (hb : 0 ≤ b ∧ b ≤ 65535) :
    Calls Try.prog 7 #[.int .u16 a, .int .u16 b, .int .i64 (k : Int), .int .i64 gen] w fun e w' => e = .returned (.bool true) ∧ Below w.heap.size w w' := by
  have HB := fun v => encode_bad v k gen hg
  have hp := pow64 k (by omega)
  have hp12 := pow_le_12 k hk
  have hp0 : 0 < 2 ^ k := Nat.pow_pos (by omega)
  obtain ⟨N, hN⟩ : ∃ N : Nat, 2 ^ k = N := ⟨_, rfl⟩
  obtain ⟨x, y, hx, hy, hax, hby⟩ := two_data a b k N hN ha.1 hb.1
  rw [hN] at hp hp12 hp0
  have hNI : (0 : Int) < N := by omega
  have hN2 : ¬ (N : Int) = 0 := by omega
  obtain ⟨ha1, ha2⟩ := ha
  obtain ⟨hb1, hb2⟩ := hb
  clear hN hg
  go_enter Try.func7, Try.ntmps7
  go_wp2_with fail
  refine (HB _ _).mono ?_
  rintro e w1 ⟨rfl, h1⟩
  go_wp2_with fail
  refine (HB _ _).mono ?_
  rintro e w2 ⟨rfl, h2⟩
  go_wp2_with fail
  refine (HB _ _).mono ?_
  rintro e w3 ⟨rfl, h3⟩
  go_wp2_with fail
  refine (examples_any _).mono ?_
  rintro e w4 ⟨rfl, h4⟩
  go_wp2
  go_ret
  exact ⟨rfl, below_step (below_step (below_step h1 h2) h3) h4⟩
set_option maxRecDepth 100000 in
theorem law_linear_ok (a b : Int) (k g d : Nat) (w : World) (hk1 : 1 ≤ k) (hk : k ≤ 12) (hg : OkC k g) (hd : Deg g d) (hd1 : 1 ≤ d) (hd18 : d ≤ 18) (ha : 0 ≤ a ∧ a ≤ 65535) (hb : 0 ≤ b ∧ b ≤ 65535) :
    Calls Try.prog 7 #[.int .u16 a, .int .u16 b, .int .i64 (k : Int), .int .i64 (g : Int)] w fun e w' => e = .returned (.bool true) ∧ Below w.heap.size w w' := by
  have HE := fun v (hv : v < 2 ^ k) => encode_ok v k g d hg hd hd18 hv
  have hp := pow64 k (by omega)
  have hp12 := pow_le_12 k hk
  have hp0 : 0 < 2 ^ k := Nat.pow_pos (by omega)
  obtain ⟨N, hN⟩ : ∃ N : Nat, 2 ^ k = N := ⟨_, rfl⟩
  obtain ⟨x, y, hx, hy, hax, hby⟩ := two_data a b k N hN ha.1 hb.1
  rw [← hN] at hx hy
  have HX := HE x hx
  have HY := HE y hy
  have hz := Nat.xor_lt_two_pow hx hy
  have HZ := HE (x ^^^ y) hz
  have hxy := i64_xor x y k hx hy (by omega)
  have hcx := cw_lt hd k x hx
  have hcy := cw_lt hd k y hy
  have hcz := cw_xor hd k x y hx hy
  have hcc := i64_xor (cw g d k x) (cw g d k y) (k + d) hcx hcy (by omega)
  rw [← hcz] at hcc
  have hdx := cw_div hd k x hx
  have hsh := shr64 (cw g d k x) d
  rw [hdx] at hsh
  rw [hN] at hp hp12 hp0 hx hy hz
  have hNI : (0 : Int) < N := by omega
  have hN2 : ¬ (N : Int) = 0 := by omega
  obtain ⟨ha1, ha2⟩ := ha
  obtain ⟨hb1, hb2⟩ := hb
  obtain ⟨z, hzz⟩ : ∃ z, x ^^^ y = z := ⟨_, rfl⟩
  rw [hzz] at HZ hxy hz hcc
  obtain ⟨X, hX⟩ : ∃ X, cw g d k x = X := ⟨_, rfl⟩
  obtain ⟨Y, hY⟩ : ∃ Y, cw g d k y = Y := ⟨_, rfl⟩
  obtain ⟨Z, hZ⟩ : ∃ Z, cw g d k z = Z := ⟨_, rfl⟩
  rw [hX] at HX hcc hsh
  rw [hY] at HY hcc
  rw [hZ] at HZ hcc
  have hX0 : (0 : Int) ≤ (X : Int) := by omega
  have hd3 : (d : Int) < 64 := by omega
  clear hN HE hcx hcy hcz hdx hX hY hZ hzz
  go_enter Try.func7, Try.ntmps7
  go_wp2_with fail
  refine (HX _).mono ?_
  rintro e w1 ⟨rfl, h1⟩
  go_wp2_with fail
  refine (HY _).mono ?_
  rintro e w2 ⟨rfl, h2⟩
  go_wp2_with fail
  refine (HZ _).mono ?_
  rintro e w3 ⟨rfl, h3⟩
  go_wp2_with fail
  refine (lDegree_any g d hd hd18 _).mono ?_
  rintro e w4 ⟨rfl, rfl⟩
  go_wp2_with fail
  refine (examples_any _).mono ?_
  rintro e w4 ⟨rfl, h4⟩
  go_wp2
  go_ret
  exact ⟨rfl, below_step (below_step (below_step h1 h2) h3) h4⟩
theorem law_linear (a b k gen : Int) (w : World) (ha : 0 ≤ a ∧ a ≤ 65535) (hb : 0 ≤ b ∧ b ≤ 65535) (hk : -9223372036854775808 ≤ k ∧ k ≤ 9223372036854775807) (hg : -9223372036854775808 ≤ gen ∧ gen ≤ 9223372036854775807) :
    Calls Try.prog 7 #[.int .u16 a, .int .u16 b, .int .i64 k, .int .i64 gen] w fun e w' => e = .returned (.bool true) ∧ Below w.heap.size w w' := by
  by_cases h : OkC k gen
  · obtain ⟨k', g, d, rfl, rfl, hk1, hk12, hd, hd1, hd18⟩ := ok_nat h
    exact law_linear_ok a b k' g d w hk1 hk12 h hd hd1 hd18 ha hb
  · by_cases h1 : 1 ≤ k ∧ k ≤ 12
    · obtain ⟨k', rfl⟩ : ∃ k' : Nat, k = k' := ⟨k.toNat, by omega⟩
      exact law_linear_g a b gen k' w (by omega) (by omega) h ha hb
    · exact law_linear_k a b k gen w h1
end Go.Proofs.Ytnkoenohngkcmaa
