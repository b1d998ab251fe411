/- Contracts of Combine and of its specification. -/
import Derived.Test.YtkpnihapcoiepaaW1
namespace Go.Proofs.Ytkpnihapcoiepaa
open Go.RowKit

/-- n*8 steps -/
def pow8 (n : Nat) (x : BitVec 32) : BitVec 32 := sts st (8 * n) x
theorem pow8_zero (x : BitVec 32) : pow8 0 x = x := rfl
theorem pow8_add (a b : Nat) (x : BitVec 32) : pow8 (a + b) x = sts st (8 * a) (pow8 b x) := by
  unfold pow8; rw [← sts_add, Nat.mul_add]
theorem pow8_start : (8388608 : Int) = ((pow8 1 one32).toNat : Int) := by decide
theorem half_odd (m p r n : Nat) (h : m * p + r = n) (h1 : m % 2 = 1) : m / 2 * (p + p) + (p + r) = n := by
  obtain ⟨k, rfl⟩ : ∃ k, m = 2 * k + 1 := ⟨m / 2, by omega⟩
  rw [show (2 * k + 1) / 2 = k by omega, ← h, Nat.add_mul, Nat.mul_add, Nat.mul_comm 2 k, Nat.mul_assoc, Nat.two_mul, Nat.mul_add]; omega
theorem half_even (m p r n : Nat) (h : m * p + r = n) (h1 : ¬ m % 2 = 1) : m / 2 * (p + p) + r = n := by
  obtain ⟨k, rfl⟩ : ∃ k, m = 2 * k := ⟨m / 2, by omega⟩
  rw [show (2 * k) / 2 = k by omega, ← h, Nat.mul_add, Nat.mul_comm 2 k, Nat.mul_assoc, Nat.two_mul, Nat.mul_add]
theorem half_bound (m i n : Nat) (h : m * 2 ^ i ≤ n) : m / 2 * 2 ^ (i + 1) ≤ n := by
  refine Nat.le_trans ?_ h
  rw [Nat.pow_succ, Nat.mul_comm (2 ^ i) 2, ← Nat.mul_assoc]
  exact Nat.mul_le_mul_right _ (by omega)

set_option maxRecDepth 100000 in
theorem skip32_any (x : BitVec 32) (n : Nat) (hn : n ≤ 9223372036854775807) (w : World) :
    Calls Try.prog 33 #[.int .u32 (x.toNat : Int), .int .i64 (n : Int)] w fun e w' => e = .returned (.int .u32 ((pow8 n x).toNat : Int)) ∧ w = w' := by
  have hx := x.isLt
  go_enter Try.func33, Try.ntmps33
  go_wp2
  go_loop [0, 1, 5] (fun a c b => ∃ m p r : Nat, Hid (m * p + r = n) ∧ m ≤ n ∧ c = .int .i64 m ∧ a = .int .u32 ((pow8 r x).toNat : Int) ∧ b = .int .u32 ((pow8 p one32).toNat : Int)) (fun _ c _ => (intOf c).toNat)
  case atStart => exact ⟨n, 1, 0, (by omega : n * 1 + 0 = n), by omega, rfl, rfl, valI pow8_start⟩
  case round =>
    obtain ⟨m, p, r, hm, hmn, rfl, rfl, rfl⟩ := hrel
    by_cases hpos : 0 < m
    · have H2 := Lib.hid (pow8_add p p one32)
      by_cases hodd : m % 2 = 1
      · have ht : ((m : Int) % 2 == 1) = true := by simp; omega
        have HM := Lib.hid (half_odd m p r n hm.out hodd)
        have HX := Lib.hid (pow8_add p r x)
        clear hodd
        go_wp2_with fail
        refine (multiply32_any _ (8 * p) _ rfl _).mono ?_
        rintro e w' ⟨rfl, rfl⟩
        rw [← HX.out]
        go_wp2_with fail
        refine (multiply32_any _ (8 * p) _ rfl _).mono ?_
        rintro e w' ⟨rfl, rfl⟩
        rw [← H2.out]
        go_wp2_with fail
        go_round
        case rel => exact ⟨m / 2, p + p, p + r, HM, by omega, by go_num, rfl, rfl⟩
        case measure => simp [intOf]; omega
      · have ht : ((m : Int) % 2 == 1) = false := by simp; omega
        have HM := Lib.hid (half_even m p r n hm.out hodd)
        clear hodd
        go_wp2_with fail
        refine (multiply32_any _ (8 * p) _ rfl _).mono ?_
        rintro e w' ⟨rfl, rfl⟩
        rw [← H2.out]
        go_wp2_with fail
        go_round
        case rel => exact ⟨m / 2, p + p, r, HM, by omega, by go_num, rfl, rfl⟩
        case measure => simp [intOf]; omega
    · obtain rfl : m = 0 := by omega
      have HR := Lib.hid (show r = n by have := hm.out; omega)
      go_wp2
      go_ret
      exact ⟨retI (by rw [HR.out]), rfl⟩

set_option maxRecDepth 100000 in
theorem rShift_any (x : BitVec 32) (n : Nat) (hn : n ≤ 9223372036854775807) (w : World) :
    Calls Try.prog 34 #[.int .u32 (x.toNat : Int), .int .i64 (n : Int)] w fun e w' => e = .returned (.int .u32 ((pow8 n x).toNat : Int)) ∧ w = w' := by
  have hx := x.isLt
  go_enter Try.func34, Try.ntmps34
  go_wp2
  go_loop [0, 1, 5, 6] (fun a c b i => ∃ m p r j : Nat, Hid (m * p + r = n) ∧ Hid (m * 2 ^ j ≤ n) ∧ m ≤ n ∧ j ≤ 63 ∧ i = .int .i64 j ∧ c = .int .i64 m ∧ a = .int .u32 ((pow8 r x).toNat : Int) ∧ b = .int .u32 ((pow8 p one32).toNat : Int)) (fun _ c _ _ => (intOf c).toNat)
  case atStart => exact ⟨n, 1, 0, 0, (by omega : n * 1 + 0 = n), (by simp : n * 2 ^ 0 ≤ n), by omega, by omega, rfl, rfl, rfl, valI pow8_start⟩
  case round =>
    obtain ⟨m, p, r, j, hm, hj2, hmn, hj, rfl, rfl, rfl, rfl⟩ := hrel
    have hj63 : j = 63 → m = 0 := by
      rintro rfl
      have := hj2.out
      rcases Nat.eq_zero_or_pos m with h | h
      · exact h
      · have h3 : 1 * 2 ^ 63 ≤ m * 2 ^ 63 := Nat.mul_le_mul_right _ h
        omega
    by_cases hpos : 0 < m
    · have hj' : j < 63 := by omega
      clear hj63
      have H2 := Lib.hid (pow8_add p p one32)
      have HJ := Lib.hid (half_bound m j n hj2.out)
      by_cases hodd : m % 2 = 1
      · have ht : ((m : Int) % 2 == 1) = true := by simp; omega
        have HM := Lib.hid (half_odd m p r n hm.out hodd)
        have HX := Lib.hid (pow8_add p r x)
        clear hodd
        go_wp2_with fail
        refine (rTimes_any _ (8 * p) _ rfl _).mono ?_
        rintro e w' ⟨rfl, rfl⟩
        rw [← HX.out]
        go_wp2_with fail
        refine (rTimes_any _ (8 * p) _ rfl _).mono ?_
        rintro e w' ⟨rfl, rfl⟩
        rw [← H2.out]
        go_wp2_with fail
        go_round
        case rel => exact ⟨m / 2, p + p, p + r, j + 1, HM, HJ, by omega, by omega, by go_num, by go_num, rfl, rfl⟩
        case measure => simp [intOf]; omega
      · have ht : ((m : Int) % 2 == 1) = false := by simp; omega
        have HM := Lib.hid (half_even m p r n hm.out hodd)
        clear hodd
        go_wp2_with fail
        refine (rTimes_any _ (8 * p) _ rfl _).mono ?_
        rintro e w' ⟨rfl, rfl⟩
        rw [← H2.out]
        go_wp2_with fail
        go_round
        case rel => exact ⟨m / 2, p + p, r, j + 1, HM, HJ, by omega, by omega, by go_num, by go_num, rfl, rfl⟩
        case measure => simp [intOf]; omega
    · obtain rfl : m = 0 := by omega
      have HR := Lib.hid (show r = n by have := hm.out; omega)
      clear hj63
      by_cases hjl : j < 63
      all_goals
        go_wp2
        go_ret
        exact ⟨retI (by rw [HR.out]), rfl⟩

/-- what Combine returns, for n that is not negative -/
def comb (a b : BitVec 32) (n : Nat) : BitVec 32 := b ^^^ pow8 n a
theorem combine_any (a b : BitVec 32) (n : Nat) (hn : n ≤ 9223372036854775807) (w : World) :
    Calls Try.prog 21 #[.int .u32 (a.toNat : Int), .int .u32 (b.toNat : Int), .int .i64 (n : Int)] w fun e w' => e = .returned (.tuple #[.int .u32 ((comb a b n).toNat : Int), .int .i64 0]) ∧ w = w' := by
  have HX := Lib.hid (xor32 b (pow8 n a))
  go_enter Try.func21, Try.ntmps21
  go_wp2_with fail
  refine (skip32_any a n hn _).mono ?_
  rintro e w' ⟨rfl, rfl⟩
  go_wp2
  go_ret2
  exact ⟨by show Ending.returned (.tuple #[.int .u32 _, .int .i64 0]) = _; rw [HX.out]; rfl, rfl⟩
theorem combine_neg (a b n : Int) (hn : n < 0) (w : World) :
    Calls Try.prog 21 #[.int .u32 a, .int .u32 b, .int .i64 n] w fun e w' => e = .returned (.tuple #[.int .u32 0, .int .i64 3]) ∧ w = w' := by
  go_enter Try.func21, Try.ntmps21
  go_wp2
  go_ret2
  exact ⟨rfl, rfl⟩
theorem rCombine_any (a b : BitVec 32) (n : Nat) (hn : n ≤ 9223372036854775807) (w : World) :
    Calls Try.prog 22 #[.int .u32 (a.toNat : Int), .int .u32 (b.toNat : Int), .int .i64 (n : Int)] w fun e w' => e = .returned (.tuple #[.int .u32 ((comb a b n).toNat : Int), .int .i64 0]) ∧ w = w' := by
  have HX := Lib.hid (xor32 (pow8 n a) b)
  go_enter Try.func22, Try.ntmps22
  go_wp2_with fail
  refine (rShift_any a n hn _).mono ?_
  rintro e w' ⟨rfl, rfl⟩
  go_wp2
  go_ret2
  exact ⟨by show Ending.returned (.tuple #[.int .u32 _, .int .i64 0]) = _; rw [HX.out, BitVec.xor_comm]; rfl, rfl⟩
theorem rCombine_neg (a b n : Int) (hn : n < 0) (w : World) :
    Calls Try.prog 22 #[.int .u32 a, .int .u32 b, .int .i64 n] w fun e w' => e = .returned (.tuple #[.int .u32 0, .int .i64 3]) ∧ w = w' := by
  go_enter Try.func22, Try.ntmps22
  go_wp2
  go_ret2
  exact ⟨rfl, rfl⟩
end Go.Proofs.Ytkpnihapcoiepaa
