/- Contracts of package bits and of its specification: Take, Weight. -/
import Derived.Test.YtjpfalpengocjaaW1
set_option linter.unusedVariables false
namespace Go.Proofs.Ytjpfalpengocjaa
open Go.RowKit

theorem ret2I {k k' : IntKind} {a b c d : Int} (h : a = b) (h' : c = d) : Ending.returned (.tuple #[.int k a, .int k' c]) = .returned (.tuple #[.int k b, .int k' d]) := by rw [h, h']

/-- what Take returns -/
def takeS (l : List Bool) (a n : Int) : Int × Int :=
  if n < 0 ∨ 62 < n ∨ a < 0 ∨ (l.length : Int) < a then (0, 3)
  else if (l.length : Int) - a < n then (0, 10)
  else ((num ((l.drop a.toNat).take n.toNat) : Nat), 0)

theorem take_any (A : Option Addr) (m c B : Nat) (l : List Bool) (a n : Int) (w : World) (hs : Sl w B A m c (bl l)) :
    Calls Try.prog 15 #[.slice A m c, .int .i64 a, .int .i64 n] w fun e w' => e = .returned (.tuple #[.int .i64 (takeS l a n).1, .int .i64 (takeS l a n).2]) ∧ w = w' := by
  have hl : l.length = m := by rw [← length_bl]; exact hs.len
  have hmax := hs.max
  have hle := hs.le
  unfold maxLen at hmax
  by_cases h1 : n < 0
  · have hr : takeS l a n = (0, 3) := by unfold takeS; rw [if_pos (by omega)]
    rw [hr]
    go_enter Try.func15, Try.ntmps15
    go_wp2
    go_ret2
    exact ⟨rfl, rfl⟩
  by_cases h2 : 62 < n
  · have hr : takeS l a n = (0, 3) := by unfold takeS; rw [if_pos (by omega)]
    rw [hr]
    go_enter Try.func15, Try.ntmps15
    go_wp2
    go_ret2
    exact ⟨rfl, rfl⟩
  by_cases h3 : a < 0
  · have hr : takeS l a n = (0, 3) := by unfold takeS; rw [if_pos (by omega)]
    rw [hr]
    go_enter Try.func15, Try.ntmps15
    go_wp2
    go_ret2
    exact ⟨rfl, rfl⟩
  by_cases h4 : (m : Int) < a
  · have hr : takeS l a n = (0, 3) := by unfold takeS; rw [if_pos (by omega)]
    rw [hr]
    go_enter Try.func15, Try.ntmps15
    go_wp2
    go_ret2
    exact ⟨rfl, rfl⟩
  by_cases h5 : (m : Int) - a < n
  · have hr : takeS l a n = (0, 10) := by unfold takeS; rw [if_neg (by omega), if_pos (by omega)]
    rw [hr]
    go_enter Try.func15, Try.ntmps15
    go_wp2
    go_ret2
    exact ⟨rfl, rfl⟩
  obtain ⟨k, rfl⟩ := Int.eq_ofNat_of_zero_le (show 0 ≤ a by omega)
  obtain ⟨j, rfl⟩ := Int.eq_ofNat_of_zero_le (show 0 ≤ n by omega)
  have hr : takeS l k j = (((num ((l.drop k).take j) : Nat) : Int), 0) := by unfold takeS; rw [if_neg (by omega), if_neg (by omega)]; simp
  rw [hr]
  have hcut : Sl w B (if c = k then A else A.map (·.add k)) j (c - k) (bl ((l.drop k).take j)) := by
    have h := hs.cut k (k + j) (by omega) (by omega)
    simp only [Nat.mul_one, Nat.add_sub_cancel_left] at h
    simpa [bl] using h
  by_cases hck : c = k
  · subst hck
    obtain rfl : j = 0 := by omega
    rw [if_pos rfl, Nat.sub_self] at hcut
    go_enter Try.func15, Try.ntmps15
    go_wp2_with fail
    refine (number_any _ _ _ B _ _ hcut (by omega)).mono ?_
    rintro e w' ⟨rfl, rfl⟩
    go_wp2
    go_ret2
    exact ⟨rfl, rfl⟩
  · rw [if_neg hck] at hcut
    go_enter Try.func15, Try.ntmps15
    go_wp2_with fail
    refine (number_any _ _ _ B _ _ hcut (by omega)).mono ?_
    rintro e w' ⟨rfl, rfl⟩
    go_wp2
    go_ret2
    exact ⟨rfl, rfl⟩

theorem rTake_any (A : Option Addr) (m c B : Nat) (l : List Bool) (a n : Int) (w : World) (hs : Sl w B A m c (bl l)) :
    Calls Try.prog 16 #[.slice A m c, .int .i64 a, .int .i64 n] w fun e w' => e = .returned (.tuple #[.int .i64 (takeS l a n).1, .int .i64 (takeS l a n).2]) ∧ w = w' := by
  have hl : l.length = m := by rw [← length_bl]; exact hs.len
  have hmax := hs.max
  have hle := hs.le
  unfold maxLen at hmax
  by_cases h1 : n < 0
  · have hr : takeS l a n = (0, 3) := by unfold takeS; rw [if_pos (by omega)]
    rw [hr]
    go_enter Try.func16, Try.ntmps16
    go_wp2
    go_ret2
    exact ⟨rfl, rfl⟩
  by_cases h2 : 62 < n
  · have hr : takeS l a n = (0, 3) := by unfold takeS; rw [if_pos (by omega)]
    rw [hr]
    go_enter Try.func16, Try.ntmps16
    go_wp2
    go_ret2
    exact ⟨rfl, rfl⟩
  by_cases h3 : a < 0
  · have hr : takeS l a n = (0, 3) := by unfold takeS; rw [if_pos (by omega)]
    rw [hr]
    go_enter Try.func16, Try.ntmps16
    go_wp2
    go_ret2
    exact ⟨rfl, rfl⟩
  by_cases h4 : (m : Int) < a
  · have hr : takeS l a n = (0, 3) := by unfold takeS; rw [if_pos (by omega)]
    rw [hr]
    go_enter Try.func16, Try.ntmps16
    go_wp2
    go_ret2
    exact ⟨rfl, rfl⟩
  by_cases h5 : (m : Int) - a < n
  · have hr : takeS l a n = (0, 10) := by unfold takeS; rw [if_neg (by omega), if_pos (by omega)]
    rw [hr]
    go_enter Try.func16, Try.ntmps16
    go_wp2
    go_ret2
    exact ⟨rfl, rfl⟩
  obtain ⟨k, rfl⟩ := Int.eq_ofNat_of_zero_le (show 0 ≤ a by omega)
  obtain ⟨j, rfl⟩ := Int.eq_ofNat_of_zero_le (show 0 ≤ n by omega)
  have hr : takeS l k j = (((num ((l.drop k).take j) : Nat) : Int), 0) := by unfold takeS; rw [if_neg (by omega), if_neg (by omega)]; simp
  rw [hr]
  clear hr
  go_enter Try.func16, Try.ntmps16
  go_wp2
  go_loop [8, 9] (fun v i => ∃ t : Nat, t ≤ j ∧ i = .int .i64 ((k + t : Nat) : Int) ∧ v = .int .i64 (num ((l.drop k).take t) : Nat)) (fun _ i => k + j - (intOf i).toNat)
  case atStart => exact ⟨0, Nat.zero_le _, rfl, rfl⟩
  case round =>
    obtain ⟨t, ht, rfl, rfl⟩ := hrel
    by_cases hlt : t < j
    · obtain ⟨b, off, rfl, hb, hc⟩ := hs.at_ (show k + t < m by omega) (.bool false)
      rw [getD_bl l (k + t) (by omega)] at hc
      have hv := num_lt ((l.drop k).take t)
      have hp : 2 ^ ((l.drop k).take t).length ≤ 2 ^ 61 := Nat.pow_le_pow_right (by omega) (by rw [List.length_take]; omega)
      have h61 : (2 : Nat) ^ 61 = 2305843009213693952 := by decide
      have hsn : num ((l.drop k).take (t + 1)) = 2 * num ((l.drop k).take t) + (l.getD (k + t) false).toNat := by
        rw [take_bl (l.drop k) t (by rw [List.length_drop]; omega), num_snoc]
        simp [List.getD]
      have hb1 : num ((l.drop k).take t) < 2305843009213693952 := by omega
      have HS := Lib.hid hsn
      clear hsn h61 hp hv
      cases hbit : l.getD (k + t) false
      · rw [hbit] at hc
        have HB := Lib.hid hbit
        clear hbit
        go_wp2
        go_round
        case rel => exact ⟨t + 1, by omega, by go_num, by rw [HS.out, HB.out]; simp⟩
        case measure => simp [intOf]; omega
      · rw [hbit] at hc
        have HB := Lib.hid hbit
        clear hbit
        go_wp2
        go_round
        case rel => exact ⟨t + 1, by omega, by go_num, by rw [HS.out, HB.out]; simp⟩
        case measure => simp [intOf]; omega
    · obtain rfl : t = j := by omega
      go_wp2
      go_ret2
      exact ⟨rfl, rfl⟩

/-- how many are true -/
def wt (l : List Bool) : Nat := l.foldl (fun n b => n + b.toNat) 0
theorem wt_snoc (l : List Bool) (b : Bool) : wt (l ++ [b]) = wt l + b.toNat := by simp [wt]
theorem wt_from (l : List Bool) : ∀ n, l.foldl (fun n b => n + b.toNat) n = n + wt l := by
  induction l with
  | nil => intro n; simp [wt]
  | cons b l ih =>
    intro n
    have h1 := ih (n + b.toNat)
    have h2 := ih (0 + b.toNat)
    simp only [wt, List.foldl_cons] at *
    omega
theorem wt_cons (b : Bool) (l : List Bool) : wt (b :: l) = b.toNat + wt l := by
  have := wt_from l (0 + b.toNat)
  simpa [wt] using this
theorem wt_le (l : List Bool) : wt l ≤ l.length := by
  induction l with
  | nil => simp [wt]
  | cons b l ih => rw [wt_cons, List.length_cons]; cases b <;> simp <;> omega

theorem weight_any (A : Option Addr) (n c B : Nat) (l : List Bool) (w : World) (hs : Sl w B A n c (bl l)) :
    Calls Try.prog 28 #[.slice A n c] w fun e w' => e = .returned (.int .i64 (wt l : Nat)) ∧ w = w' := by
  have hl : l.length = n := by rw [← length_bl]; exact hs.len
  have hmax := hs.max
  have hle := hs.le
  unfold maxLen at hmax
  go_enter Try.func28, Try.ntmps28
  go_wp2
  go_loop [3, 8] (fun v i => ∃ k : Nat, k ≤ n ∧ i = .int .i64 k ∧ v = .int .i64 (wt (l.take k) : Nat)) (fun _ i => n - (intOf i).toNat)
  case atStart => exact ⟨0, Nat.zero_le _, rfl, rfl⟩
  case round =>
    obtain ⟨k, hk, rfl, rfl⟩ := hrel
    by_cases hlt : k < n
    · obtain ⟨b, off, rfl, hb, hc⟩ := hs.at_ hlt (.bool false)
      rw [getD_bl l k (by omega)] at hc
      have hw := wt_le (l.take k)
      have hll : (l.take k).length ≤ k := List.length_take_le _ _
      have hsn : wt (l.take (k + 1)) = wt (l.take k) + (l.getD k false).toNat := by rw [take_bl l k (by omega), wt_snoc]
      have HS := Lib.hid hsn
      clear hsn
      cases hbit : l.getD k false
      all_goals
        rw [hbit] at hc
        have HB := Lib.hid hbit
        clear hbit
        go_wp2
        go_round
        case rel => exact ⟨k + 1, by omega, by go_num, by rw [HS.out, HB.out]; simp⟩
        case measure => simp [intOf]; omega
    · obtain rfl : k = n := by omega
      go_wp2
      go_ret
      exact ⟨retI (by rw [List.take_of_length_le (by omega)]), rfl⟩

theorem rWeight_any (A : Option Addr) (n c B : Nat) (l : List Bool) (w : World) (hs : Sl w B A n c (bl l)) :
    Calls Try.prog 29 #[.slice A n c] w fun e w' => e = .returned (.int .i64 (wt l : Nat)) ∧ w = w' := by
  have hl : l.length = n := by rw [← length_bl]; exact hs.len
  have hmax := hs.max
  have hle := hs.le
  unfold maxLen at hmax
  go_enter Try.func29, Try.ntmps29
  go_wp2
  go_loop [3, 4] (fun v i => ∃ k : Nat, k ≤ n ∧ i = .int .i64 k ∧ v = .int .i64 (wt (l.take k) : Nat)) (fun _ i => n - (intOf i).toNat)
  case atStart => exact ⟨0, Nat.zero_le _, rfl, rfl⟩
  case round =>
    obtain ⟨k, hk, rfl, rfl⟩ := hrel
    by_cases hlt : k < n
    · obtain ⟨b, off, rfl, hb, hc⟩ := hs.at_ hlt (.bool false)
      rw [getD_bl l k (by omega)] at hc
      have hw := wt_le (l.take k)
      have hll : (l.take k).length ≤ k := List.length_take_le _ _
      have hsn : wt (l.take (k + 1)) = wt (l.take k) + (l.getD k false).toNat := by rw [take_bl l k (by omega), wt_snoc]
      have HS := Lib.hid hsn
      clear hsn
      cases hbit : l.getD k false
      all_goals
        rw [hbit] at hc
        have HB := Lib.hid hbit
        clear hbit
        go_wp2
        go_round
        case rel => exact ⟨k + 1, by omega, by go_num, by rw [HS.out, HB.out]; simp⟩
        case measure => simp [intOf]; omega
    · obtain rfl : k = n := by omega
      go_wp2
      go_ret
      exact ⟨retI (by rw [List.take_of_length_le (by omega)]), rfl⟩
end Go.Proofs.Ytjpfalpengocjaa
