/- Bit operations of the walk on registers that are bit vectors. -/
import Derived.Test.YtkpnihapcoiepaaKit
namespace Go.Proofs.Ytkpnihapcoiepaa
open Go.RowKit

theorem xor32 (x y : BitVec 32) : Go.bits .xor .u32 (x.toNat : Int) (y.toNat : Int) = ((x ^^^ y).toNat : Int) := by
  rw [u32_xor_nat _ _ x.isLt y.isLt, BitVec.toNat_xor]
theorem xor32_P (x : BitVec 32) : Go.bits .xor .u32 (x.toNat : Int) 3988292384 = ((x ^^^ P32).toNat : Int) := xor32 x P32
theorem xor32_ones (x : BitVec 32) : Go.bits .xor .u32 (x.toNat : Int) 4294967295 = ((x ^^^ ones32).toNat : Int) := xor32 x ones32
theorem and32_1 (x : BitVec 32) : (Go.bits .and .u32 (x.toNat : Int) 1 == 1) = x.getLsbD 0 := by
  rw [show (1 : Int) = ((1 : Nat) : Int) from rfl, u32_and_nat _ 1 x.isLt (by omega), Nat.and_one_is_mod, BitVec.getLsbD, Nat.testBit_zero]
  by_cases h : x.toNat % 2 = 1
  · simp [h]
  · have h0 : x.toNat % 2 = 0 := by omega
    simp [h0]
theorem and32_15 (x : BitVec 32) : Go.bits .and .u32 (x.toNat : Int) 15 = ((x &&& 15#32).toNat : Int) := by
  rw [show (15 : Int) = ((15 : Nat) : Int) from rfl, u32_and_nat _ 15 x.isLt (by omega), BitVec.toNat_and]
  rfl
theorem shr32_1 (x : BitVec 32) : (x.toNat : Int) / (2 : Int) = ((x >>> 1).toNat : Int) := by
  rw [BitVec.toNat_ushiftRight, Nat.shiftRight_eq_div_pow]; omega
theorem shr32_4 (x : BitVec 32) : (x.toNat : Int) / (16 : Int) = ((x >>> 4).toNat : Int) := by
  rw [BitVec.toNat_ushiftRight, Nat.shiftRight_eq_div_pow]; omega
theorem mod32_2 (x : BitVec 32) : ((x.toNat : Int) % 2 == 1) = x.getLsbD 0 := by
  rw [BitVec.getLsbD, Nat.testBit_zero]
  by_cases h : x.toNat % 2 = 1
  · have : (x.toNat : Int) % 2 = 1 := by omega
    simp [h, this]
  · have : (x.toNat : Int) % 2 = 0 := by omega
    have h0 : x.toNat % 2 = 0 := by omega
    simp [h0, this]

theorem shr32 (x : BitVec 32) (i : Nat) : (x.toNat : Int) / (2 : Int) ^ i = ((x >>> i).toNat : Int) := by
  rw [BitVec.toNat_ushiftRight, Nat.shiftRight_eq_div_pow, Int.natCast_ediv, Int.natCast_pow]; rfl
theorem and32_bit (x : BitVec 32) (i : Nat) : (Go.bits .and .u32 ((x.toNat : Int) / (2 : Int) ^ i) 1 == 1) = x.getLsbD i := by
  rw [shr32, and32_1, BitVec.getLsbD_ushiftRight, Nat.add_zero]
/-- doubled j times -/
def dbl (x : BitVec 32) (j : Nat) : BitVec 32 := x <<< j
theorem dbl_zero (x : BitVec 32) : dbl x 0 = x := by simp [dbl]
theorem shl32_msb (x : BitVec 32) (j : Nat) (hj : j < 32) : decide (2147483648 ≤ ((dbl x j).toNat : Int)) = x.getLsbD (31 - j) := by
  unfold dbl
  have h := BitVec.getLsbD_shiftLeft (x := x) (n := j) (i := 31)
  have h2 : decide (31 < j) = false := by simp; omega
  rw [h2] at h
  simp only [Nat.reduceLT, decide_true, Bool.not_false, Bool.true_and] at h
  rw [← h]
  have h3 := (x <<< j).isLt
  rw [BitVec.getLsbD, Nat.testBit_eq_decide_div_mod_eq]
  by_cases hh : 2147483648 ≤ (x <<< j).toNat
  · have : (2147483648 : Int) ≤ ((x <<< j).toNat : Int) := by omega
    have h5 : (x <<< j).toNat / 2 ^ 31 % 2 = 1 := by omega
    simp only [this, h5, decide_true]
  · have : ¬ (2147483648 : Int) ≤ ((x <<< j).toNat : Int) := by omega
    have h5 : (x <<< j).toNat / 2 ^ 31 % 2 = 0 := by omega
    simp only [this, h5]
    decide
theorem dbl32 (x : BitVec 32) (j : Nat) : ((dbl x j).toNat : Int) * 2 % 4294967296 = ((dbl x (j + 1)).toNat : Int) := by
  unfold dbl
  rw [BitVec.shiftLeft_add, BitVec.toNat_shiftLeft (x := x <<< j), Nat.shiftLeft_eq]
  omega
theorem mulS_skip (x y : BitVec 32) (j : Nat) (h : x.getLsbD (31 - j) = false) : mulS x y (j + 1) = mulS x y j := by
  simp only [mulS, h, sel]; simp
theorem mulS_take (x y : BitVec 32) (j : Nat) (h : x.getLsbD (31 - j) = true) : Go.bits .xor .u32 ((mulS x y j).toNat : Int) ((sts st j y).toNat : Int) = ((mulS x y (j + 1)).toNat : Int) := by
  rw [xor32]; simp only [mulS, h, sel]; simp

theorem retI {k : IntKind} {a b : Int} (h : a = b) : Ending.returned (.int k a) = .returned (.int k b) := by rw [h]
theorem valI {k : IntKind} {a b : Int} (h : a = b) : Value.int k a = .int k b := by rw [h]
theorem st_lo (x : BitVec 32) (h : x.getLsbD 0 = false) : (x.toNat : Int) / 2 = ((st x).toNat : Int) := by rw [st_even x h, shr32_1]
theorem st_hi (x : BitVec 32) (h : x.getLsbD 0 = true) : Go.bits .xor .u32 ((x.toNat : Int) / 2) 3988292384 = ((st x).toNat : Int) := by rw [st_odd x h, shr32_1, xor32_P]
end Go.Proofs.Ytkpnihapcoiepaa
