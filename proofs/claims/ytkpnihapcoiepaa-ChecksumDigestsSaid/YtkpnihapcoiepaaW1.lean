/- Contracts of package checksum and of its specification: the steps. -/
import Derived.Test.YtkpnihapcoiepaaBv
import Derived.Outline
namespace Go.Proofs.Ytkpnihapcoiepaa
open Go.RowKit

theorem step32_any (x : BitVec 32) (w : World) : Calls Try.prog 40 #[.int .u32 (x.toNat : Int)] w fun e w' => e = .returned (.int .u32 ((st x).toNat : Int)) ∧ w = w' := by
  have hx := x.isLt
  have h1 := and32_1 x
  cases h : x.getLsbD 0
  · have hr := Lib.hid (st_lo x h)
    rw [h] at h1
    clear h
    go_enter Try.func40, Try.ntmps40
    go_wp2
    go_ret
    exact ⟨retI hr.out, rfl⟩
  · have hr := Lib.hid (st_hi x h)
    rw [h] at h1
    clear h
    go_enter Try.func40, Try.ntmps40
    go_wp2
    go_ret
    exact ⟨retI hr.out, rfl⟩
theorem rStep_any (x : BitVec 32) (w : World) : Calls Try.prog 31 #[.int .u32 (x.toNat : Int)] w fun e w' => e = .returned (.int .u32 ((st x).toNat : Int)) ∧ w = w' := by
  have hx := x.isLt
  have h1 := mod32_2 x
  cases h : x.getLsbD 0
  · have hr := Lib.hid (st_lo x h)
    rw [h] at h1
    clear h
    go_enter Try.func31, Try.ntmps31
    go_wp2
    go_ret
    exact ⟨retI hr.out, rfl⟩
  · have hr := Lib.hid (st_hi x h)
    rw [h] at h1
    clear h
    go_enter Try.func31, Try.ntmps31
    go_wp2
    go_ret
    exact ⟨retI hr.out, rfl⟩

theorem multiply32_any (x : BitVec 32) (k : Nat) (y : BitVec 32) (hy : y = sts st k one32) (w : World) :
    Calls Try.prog 38 #[.int .u32 (x.toNat : Int), .int .u32 (y.toNat : Int)] w fun e w' => e = .returned (.int .u32 ((sts st k x).toNat : Int)) ∧ w = w' := by
  have hr := Lib.hid (mul_sts x k)
  have hx := x.isLt
  rw [← hy] at hr
  clear hy
  go_enter Try.func38, Try.ntmps38
  go_wp2
  go_loop [1, 5, 7] (fun b p i => ∃ j : Nat, j ≤ 32 ∧ i = .int .i64 j ∧ b = .int .u32 ((sts st j y).toNat : Int) ∧ p = .int .u32 ((mulS x y j).toNat : Int)) (fun _ _ i => 32 - (intOf i).toNat)
  case atStart => exact ⟨0, by omega, rfl, rfl, rfl⟩
  case round =>
    obtain ⟨j, hj, rfl, rfl, rfl⟩ := hrel
    by_cases hlt : j < 32
    · have h1 := and32_bit x (31 - j)
      cases hb : x.getLsbD (31 - j)
      · have HS := Lib.hid (mulS_skip x y j hb)
        rw [hb] at h1
        clear hb
        go_wp2_with fail
        refine (step32_any _ _).mono ?_
        rintro e w' ⟨rfl, rfl⟩
        go_wp2_with fail
        go_round
        case rel => exact ⟨j + 1, by omega, by go_num, rfl, by rw [HS.out]⟩
        case measure => simp [intOf]; omega
      · have HS := Lib.hid (mulS_take x y j hb)
        rw [hb] at h1
        clear hb
        go_wp2_with fail
        refine (step32_any _ _).mono ?_
        rintro e w' ⟨rfl, rfl⟩
        go_wp2_with fail
        go_round
        case rel => exact ⟨j + 1, by omega, by go_num, rfl, valI HS.out⟩
        case measure => simp [intOf]; omega
    · obtain rfl : j = 32 := by omega
      go_wp2
      go_ret
      exact ⟨retI (by rw [← hr.out]; rfl), rfl⟩

set_option maxRecDepth 100000 in
theorem rTimes_any (x : BitVec 32) (k : Nat) (y : BitVec 32) (hy : y = sts st k one32) (w : World) :
    Calls Try.prog 39 #[.int .u32 (x.toNat : Int), .int .u32 (y.toNat : Int)] w fun e w' => e = .returned (.int .u32 ((sts st k x).toNat : Int)) ∧ w = w' := by
  have hr := Lib.hid (mul_sts x k)
  have hx := x.isLt
  rw [← hy] at hr
  clear hy
  go_enter Try.func39, Try.ntmps39
  go_wp2
  go_loop [0, 1, 5, 6] (fun a b p i => ∃ j : Nat, j ≤ 32 ∧ i = .int .i64 j ∧ a = .int .u32 ((dbl x j).toNat : Int) ∧ b = .int .u32 ((sts st j y).toNat : Int) ∧ p = .int .u32 ((mulS x y j).toNat : Int)) (fun _ _ _ i => 32 - (intOf i).toNat)
  case atStart => exact ⟨0, by omega, rfl, by rw [dbl_zero], rfl, rfl⟩
  case round =>
    obtain ⟨j, hj, rfl, rfl, rfl, rfl⟩ := hrel
    by_cases hlt : j < 32
    · have h1 := shl32_msb x j hlt
      have HD := Lib.hid (dbl32 x j)
      have hd0 : (0 : Int) ≤ ((dbl x j).toNat : Int) := by omega
      have hd1 : ((dbl x j).toNat : Int) < 4294967296 := by have := (dbl x j).isLt; omega
      generalize ((dbl x j).toNat : Int) = A at *
      cases hb : x.getLsbD (31 - j)
      · have HS := Lib.hid (mulS_skip x y j hb)
        rw [hb] at h1
        clear hb
        go_wp2_with fail
        refine (rStep_any _ _).mono ?_
        rintro e w' ⟨rfl, rfl⟩
        go_wp2_with fail
        go_round
        case rel => exact ⟨j + 1, by omega, by go_num, valI HD.out, rfl, by rw [HS.out]⟩
        case measure => simp [intOf]; omega
      · have HS := Lib.hid (mulS_take x y j hb)
        rw [hb] at h1
        clear hb
        go_wp2_with fail
        refine (rStep_any _ _).mono ?_
        rintro e w' ⟨rfl, rfl⟩
        go_wp2_with fail
        go_round
        case rel => exact ⟨j + 1, by omega, by go_num, valI HD.out, rfl, valI HS.out⟩
        case measure => simp [intOf]; omega
    · obtain rfl : j = 32 := by omega
      go_wp2
      go_ret
      exact ⟨retI (by rw [← hr.out]; rfl), rfl⟩
end Go.Proofs.Ytkpnihapcoiepaa
