/- Contracts of divisor, Unit, and of Wide at an example. -/
import Derived.Test.YtjobcobgmajajaaW3
set_option linter.unusedVariables false
namespace Go.Proofs.Ytjobcobgmajajaa
open Go.RowKit

theorem divisor_any (a0 b0 : Nat) (w : World) (ha : a0 ≤ 1099511627776) (hb : b0 ≤ 1099511627776) :
    Calls Try.prog 37 #[.int .i64 a0, .int .i64 b0] w fun e w' => e = .returned (.int .i64 (Nat.gcd a0 b0 : Nat)) ∧ Below w.heap.size w w' := by
  go_enter Try.func37, Try.ntmps37
  go_wp2
  go_loopw [0, 1] (fun x y wr => ∃ a b : Nat, x = .int .i64 a ∧ y = .int .i64 b ∧ a ≤ 1099511627776 ∧ b ≤ 1099511627776 ∧ Hid (Nat.gcd a b = Nat.gcd a0 b0) ∧ Below w.heap.size w wr) (fun _ y _ => (intOf y).toNat)
  case atStart => exact ⟨a0, b0, rfl, rfl, ha, hb, rfl, Below.refl _ _⟩
  case round =>
    obtain ⟨a, b, rfl, rfl, ha1, hb1, hg, hbel⟩ := hrel
    by_cases h0 : b = 0
    · subst h0
      go_wp2
      go_ret
      exact ⟨retI (by have := hg.out; rw [Nat.gcd_zero_right] at this; rw [this]), hbel⟩
    · have h1 : ((b : Int) == 0) = false := by rw [beq_eq_false_iff_ne]; omega
      have h2 : ((b : Int) != 0) = true := by rw [bne_iff_ne]; omega
      have h3 : ¬ (b : Int) = 0 := by omega
      have hm : Int.tmod (a : Int) (b : Int) = ((a % b : Nat) : Int) := by rw [Int.tmod_eq_emod_of_nonneg (by omega)]; rfl
      have hml : a % b < b := Nat.mod_lt _ (by omega)
      have HG : Hid (Nat.gcd b (a % b) = Nat.gcd a0 b0) := by
        rw [← hg.out, Nat.gcd_comm a b, Nat.gcd_rec b a, Nat.gcd_comm]
        exact rfl
      have HL := Lib.hid hml
      clear hg
      generalize hr : a % b = r at *
      clear hr
      go_wp2
      go_quiet (fail)
      go_wp2
      go_roundw
      case rel => exact ⟨b, r, rfl, rfl, hb1, by omega, HG, below_drawn hbel _⟩
      case measure => have := HL.out; simp [intOf]; omega

theorem unit_ex (A : Option Addr) (c : Nat) (w : World) (hs : Sl w w.heap.size A 2 c (il [4, 6])) :
    Calls Try.prog 26 #[.slice A 2 c] w fun e w' => e = .returned (.int .i64 2) ∧ Below w.heap.size w w' := by
  have hle := hs.le
  have hmax := hs.max
  unfold maxLen at hmax
  go_enter Try.func26, Try.ntmps26
  go_wp2
  go_loopw [3, 8] (fun u i wr => ∃ k : Nat, k ≤ 2 ∧ i = .int .i64 k ∧ u = .int .i64 (([0, 4, 2] : List Int).getD k 0) ∧ Below w.heap.size w wr) (fun _ i _ => 2 - (intOf i).toNat)
  case atStart => exact ⟨0, Nat.zero_le _, rfl, rfl, Below.refl _ _⟩
  case round =>
    obtain ⟨k, hk, rfl, rfl, hbel⟩ := hrel
    rcases (show k = 0 ∨ k = 1 ∨ k = 2 by omega) with rfl | rfl | rfl
    · obtain ⟨b, off, rfl, hb, hc⟩ := (hs.below hbel).at_ (show 0 < 2 by omega) (.int .i64 0)
      rw [show (il [4, 6]).getD 0 (.int .i64 0) = .int .i64 4 from rfl, Nat.add_zero] at hc
      go_wp2_with fail
      refine (divisor_any 0 4 _ (by omega) (by omega)).mono ?_
      rintro e w2 ⟨rfl, hb2⟩
      go_wp2
      go_roundw
      case rel => exact ⟨1, by omega, rfl, rfl, hbel.trans (hb2.mono hbel.size)⟩
      case measure => simp [intOf]
    · obtain ⟨b, off, rfl, hb, hc⟩ := (hs.below hbel).at_ (show 1 < 2 by omega) (.int .i64 0)
      rw [show (il [4, 6]).getD 1 (.int .i64 0) = .int .i64 6 from rfl] at hc
      go_wp2_with fail
      refine (divisor_any 4 6 _ (by omega) (by omega)).mono ?_
      rintro e w2 ⟨rfl, hb2⟩
      go_wp2
      go_roundw
      case rel => exact ⟨2, by omega, rfl, rfl, hbel.trans (hb2.mono hbel.size)⟩
      case measure => simp [intOf]
    · go_wp2
      go_ret
      exact ⟨rfl, hbel⟩

theorem isClearlyWider_any (a b : Int) (w : World) (ha : 0 ≤ a ∧ a ≤ 1099511627776) (hb : 0 ≤ b ∧ b ≤ 1099511627776) :
    Calls Try.prog 36 #[.int .i64 a, .int .i64 b] w fun e w' => e = .returned (.bool (decide (3 * b ≤ 2 * a))) ∧ w = w' := by
  go_enter Try.func36, Try.ntmps36
  go_wp2
  go_ret
  exact ⟨rfl, rfl⟩

def exW : List Int := [2, 4, 2, 5]
theorem min_ex (A : Option Addr) (c : Nat) (w : World) (hs : Sl w w.heap.size A 4 c (il exW)) :
    Calls Try.prog 34 #[.slice A 4 c] w fun e w' => e = .returned (.int .i64 2) ∧ w = w' := by
  have hle := hs.le
  have hmax := hs.max
  unfold maxLen at hmax
  obtain ⟨b, off, rfl, hb, hc⟩ := hs.read (by omega)
  have h0 := hc 0 _ rfl
  have h1 := hc 1 _ rfl
  have h2 := hc 2 _ rfl
  have h3 := hc 3 _ rfl
  simp only [Nat.add_zero] at h0
  clear hc
  go_enter Try.func34, Try.ntmps34
  go_wp2
  go_loop [3, 4] (fun u i => ∃ k : Nat, 1 ≤ k ∧ k ≤ 4 ∧ i = .int .i64 k ∧ u = .int .i64 2) (fun _ i => 4 - (intOf i).toNat)
  case atStart => exact ⟨1, by omega, by omega, rfl, rfl⟩
  case round =>
    obtain ⟨k, hk1, hk, rfl, rfl⟩ := hrel
    rcases (show k = 1 ∨ k = 2 ∨ k = 3 ∨ k = 4 by omega) with rfl | rfl | rfl | rfl
    · go_wp2
      go_round
      case rel => exact ⟨2, by omega, by omega, rfl, rfl⟩
      case measure => simp [intOf]
    · go_wp2
      go_round
      case rel => exact ⟨3, by omega, by omega, rfl, rfl⟩
      case measure => simp [intOf]
    · go_wp2
      go_round
      case rel => exact ⟨4, by omega, by omega, rfl, rfl⟩
      case measure => simp [intOf]
    · go_wp2
      go_ret
      exact ⟨rfl, rfl⟩
theorem max_ex (A : Option Addr) (c : Nat) (w : World) (hs : Sl w w.heap.size A 4 c (il exW)) :
    Calls Try.prog 35 #[.slice A 4 c] w fun e w' => e = .returned (.int .i64 5) ∧ w = w' := by
  have hle := hs.le
  have hmax := hs.max
  unfold maxLen at hmax
  obtain ⟨b, off, rfl, hb, hc⟩ := hs.read (by omega)
  have h0 := hc 0 _ rfl
  have h1 := hc 1 _ rfl
  have h2 := hc 2 _ rfl
  have h3 := hc 3 _ rfl
  simp only [Nat.add_zero] at h0
  clear hc
  go_enter Try.func35, Try.ntmps35
  go_wp2
  go_loop [3, 4] (fun u i => ∃ k : Nat, 1 ≤ k ∧ k ≤ 4 ∧ i = .int .i64 k ∧ u = .int .i64 (([0, 2, 4, 4, 5] : List Int).getD k 0)) (fun _ i => 4 - (intOf i).toNat)
  case atStart => exact ⟨1, by omega, by omega, rfl, rfl⟩
  case round =>
    obtain ⟨k, hk1, hk, rfl, rfl⟩ := hrel
    rcases (show k = 1 ∨ k = 2 ∨ k = 3 ∨ k = 4 by omega) with rfl | rfl | rfl | rfl
    · go_wp2
      go_round
      case rel => exact ⟨2, by omega, by omega, rfl, rfl⟩
      case measure => simp [intOf]
    · go_wp2
      go_round
      case rel => exact ⟨3, by omega, by omega, rfl, rfl⟩
      case measure => simp [intOf]
    · go_wp2
      go_round
      case rel => exact ⟨4, by omega, by omega, rfl, rfl⟩
      case measure => simp [intOf]
    · go_wp2
      go_ret
      exact ⟨rfl, rfl⟩
end Go.Proofs.Ytjobcobgmajajaa
