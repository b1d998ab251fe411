/- Contracts of the small functions of package bits. -/
import Derived.Test.YtjpfalpengocjaaKit
namespace Go.Proofs.Ytjpfalpengocjaa
open Go.RowKit

theorem retI {k : IntKind} {a b : Int} (h : a = b) : Ending.returned (.int k a) = .returned (.int k b) := by rw [h]

theorem next_any (v : Int) (b : Bool) (w : World) (h0 : 0 ≤ v) (h1 : v < 2305843009213693952) :
    Calls Try.prog 44 #[.int .i64 v, .bool b] w fun e w' => e = .returned (.int .i64 (2 * v + (b.toNat : Nat))) ∧ w = w' := by
  cases b
  · go_enter Try.func44, Try.ntmps44
    go_wp2
    go_ret
    exact ⟨retI (by simp), rfl⟩
  · go_enter Try.func44, Try.ntmps44
    go_wp2
    go_ret
    exact ⟨retI (by simp), rfl⟩

theorem num_take_lt (l : List Bool) (k : Nat) (hk : k ≤ 60) : num (l.take k) < 1152921504606846976 + 1 := by
  have h := num_lt (l.take k)
  have h2 : (l.take k).length ≤ k := List.length_take_le _ _
  have h3 : 2 ^ (l.take k).length ≤ 2 ^ 60 := Nat.pow_le_pow_right (by omega) (by omega)
  have h4 : (2 : Nat) ^ 60 = 1152921504606846976 := by decide
  omega

theorem take_bl (l : List Bool) (k : Nat) (hk : k < l.length) : l.take (k + 1) = l.take k ++ [l.getD k false] := by
  rw [List.take_add_one, List.getElem?_eq_getElem hk]
  simp [List.getD, hk]

theorem number_any (A : Option Addr) (n c B : Nat) (l : List Bool) (w : World) (hs : Sl w B A n c (bl l)) (hn : n ≤ 62) :
    Calls Try.prog 39 #[.slice A n c] w fun e w' => e = .returned (.int .i64 (num l : Nat)) ∧ w = w' := by
  have hl : l.length = n := by rw [← length_bl]; exact hs.len
  have hmax := hs.max
  have hle := hs.le
  unfold maxLen at hmax
  go_enter Try.func39, Try.ntmps39
  go_wp2
  go_loop [3, 8] (fun v i => ∃ k : Nat, k ≤ n ∧ i = .int .i64 k ∧ v = .int .i64 (num (l.take k) : Nat)) (fun _ i => n - (intOf i).toNat)
  case atStart => exact ⟨0, Nat.zero_le _, rfl, rfl⟩
  case round =>
    obtain ⟨k, hk, rfl, rfl⟩ := hrel
    by_cases hlt : k < n
    · obtain ⟨b, off, rfl, hb, hc⟩ := hs.at_ hlt (.bool false)
      rw [getD_bl l k (by omega)] at hc
      have hv := num_lt (l.take k)
      have hp : 2 ^ (l.take k).length ≤ 2 ^ 61 := Nat.pow_le_pow_right (by omega) (by rw [List.length_take]; omega)
      have h61 : (2 : Nat) ^ 61 = 2305843009213693952 := by decide
      have hsn : num (l.take (k + 1)) = 2 * num (l.take k) + (l.getD k false).toNat := by rw [take_bl l k (by omega), num_snoc]
      have hb1 : num (l.take k) < 2305843009213693952 := by omega
      have HS := Lib.hid hsn
      clear hsn h61 hp hv
      go_wp2_with fail
      refine (next_any _ _ _ (by omega) (by omega)).mono ?_
      rintro e w' ⟨rfl, rfl⟩
      go_wp2_with fail
      go_round
      case rel => exact ⟨k + 1, by omega, by go_num, by rw [HS.out]; simp [List.getD, show k < l.length by omega]⟩
      case measure => simp [intOf]; omega
    · obtain rfl : k = n := by omega
      go_wp2
      go_ret
      exact ⟨retI (by rw [List.take_of_length_le (by omega)]), rfl⟩
end Go.Proofs.Ytjpfalpengocjaa
