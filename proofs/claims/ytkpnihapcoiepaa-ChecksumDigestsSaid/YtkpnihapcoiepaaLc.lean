/- ChecksumCRC32, ChecksumCRC16, ChecksumAdler and ChecksumCombines return true for every argument. No condition. -/
import Derived.Test.YtkpnihapcoiepaaW9
set_option linter.unusedVariables false
namespace Go.Proofs.Ytkpnihapcoiepaa
open Go.RowKit

theorem law_crc32 (A : Option Addr) (n c : Nat) (l : List Nat) (w : World) (hs : Sl w w.heap.size A n c (byl l)) (hb : Byt l) :
    Calls Try.prog 3 #[.slice A n c] w fun e w' => e = .returned (.bool true) ∧ Below w.heap.size w w' := by
  have hmax := hs.max
  have hle := hs.le
  unfold maxLen at hmax
  by_cases hn : 600 < n
  · go_enter Try.func3, Try.ntmps3
    go_wp2_with fail
    refine (examples_any _).mono ?_
    rintro e w2 ⟨rfl, hb2⟩
    go_wp2
    go_ret
    exact ⟨rfl, hb2⟩
  · go_enter Try.func3, Try.ntmps3
    go_wp2_with fail
    refine (crc32_any _ _ _ l _ hs hb).mono ?_
    rintro e w1 ⟨rfl, hb1⟩
    replace hs := hs.next hb1
    go_wp2_with fail
    refine (rCRC32_any _ _ _ l _ hs hb).mono ?_
    rintro e w' ⟨rfl, rfl⟩
    go_wp2_with fail
    refine (examples_any _).mono ?_
    rintro e w2 ⟨rfl, hb2⟩
    go_wp2
    go_ret
    exact ⟨rfl, below_step hb1 hb2⟩

theorem law_crc16 (A : Option Addr) (n c : Nat) (l : List Nat) (w : World) (hs : Sl w w.heap.size A n c (byl l)) (hb : Byt l) :
    Calls Try.prog 4 #[.slice A n c] w fun e w' => e = .returned (.bool true) ∧ Below w.heap.size w w' := by
  have hmax := hs.max
  have hle := hs.le
  unfold maxLen at hmax
  by_cases hn : 600 < n
  · go_enter Try.func4, Try.ntmps4
    go_wp2_with fail
    refine (examples_any _).mono ?_
    rintro e w2 ⟨rfl, hb2⟩
    go_wp2
    go_ret
    exact ⟨rfl, hb2⟩
  · go_enter Try.func4, Try.ntmps4
    go_wp2_with fail
    refine (crc16_any _ _ _ l _ hs hb).mono ?_
    rintro e w1 ⟨rfl, hb1⟩
    replace hs := hs.next hb1
    go_wp2_with fail
    refine (rCRC16_any _ _ _ l _ hs hb).mono ?_
    rintro e w' ⟨rfl, rfl⟩
    go_wp2_with fail
    refine (examples_any _).mono ?_
    rintro e w2 ⟨rfl, hb2⟩
    go_wp2
    go_ret
    exact ⟨rfl, below_step hb1 hb2⟩

set_option maxRecDepth 100000 in
theorem law_adler (A : Option Addr) (n c : Nat) (l : List Nat) (w : World) (hs : Sl w w.heap.size A n c (byl l)) (hb : Byt l) :
    Calls Try.prog 5 #[.slice A n c] w fun e w' => e = .returned (.bool true) ∧ Below w.heap.size w w' := by
  have hmax := hs.max
  have hle := hs.le
  unfold maxLen at hmax
  by_cases hn : 20000 < n
  · go_enter Try.func5, Try.ntmps5
    go_wp2_with fail
    refine (examples_any _).mono ?_
    rintro e w2 ⟨rfl, hb2⟩
    go_wp2
    go_ret
    exact ⟨rfl, hb2⟩
  · go_enter Try.func5, Try.ntmps5
    go_wp2_with fail
    refine (adler_any _ _ _ _ l _ hs hb).mono ?_
    rintro e w' ⟨rfl, rfl⟩
    go_wp2_with fail
    refine (rAdler_any _ _ _ _ l _ hs hb).mono ?_
    rintro e w' ⟨rfl, rfl⟩
    go_wp2_with fail
    refine (examples_any _).mono ?_
    rintro e w2 ⟨rfl, hb2⟩
    go_wp2
    go_ret
    exact ⟨rfl, hb2⟩

theorem bv_of (a : Int) (h : 0 ≤ a ∧ a ≤ 4294967295) : ∃ x : BitVec 32, a = (x.toNat : Int) := by
  refine ⟨BitVec.ofNat 32 a.toNat, ?_⟩
  rw [BitVec.toNat_ofNat, Nat.mod_eq_of_lt (by omega)]
  omega
theorem law_combines (a b n : Int) (w : World) (ha : 0 ≤ a ∧ a ≤ 4294967295) (hb : 0 ≤ b ∧ b ≤ 4294967295) (hn : -9223372036854775808 ≤ n ∧ n ≤ 9223372036854775807) :
    Calls Try.prog 6 #[.int .u32 a, .int .u32 b, .int .i64 n] w fun e w' => e = .returned (.bool true) ∧ Below w.heap.size w w' := by
  by_cases h0 : n < 0
  · go_enter Try.func6, Try.ntmps6
    go_wp2_with fail
    refine (combine_neg a b n h0 _).mono ?_
    rintro e w' ⟨rfl, rfl⟩
    go_wp2_with fail
    refine (rCombine_neg a b n h0 _).mono ?_
    rintro e w' ⟨rfl, rfl⟩
    go_wp2_with fail
    refine (examples_any _).mono ?_
    rintro e w2 ⟨rfl, hb2⟩
    go_wp2
    go_ret
    exact ⟨rfl, hb2⟩
  · obtain ⟨x, rfl⟩ := bv_of a ha
    obtain ⟨y, rfl⟩ := bv_of b hb
    obtain ⟨m, rfl⟩ := Int.eq_ofNat_of_zero_le (show 0 ≤ n by omega)
    have hm : m ≤ 9223372036854775807 := by omega
    clear ha hb hn h0
    go_enter Try.func6, Try.ntmps6
    go_wp2_with fail
    refine (combine_any x y m hm _).mono ?_
    rintro e w' ⟨rfl, rfl⟩
    go_wp2_with fail
    refine (rCombine_any x y m hm _).mono ?_
    rintro e w' ⟨rfl, rfl⟩
    go_wp2_with fail
    refine (examples_any _).mono ?_
    rintro e w2 ⟨rfl, hb2⟩
    go_wp2
    go_ret
    exact ⟨rfl, hb2⟩
end Go.Proofs.Ytkpnihapcoiepaa
