/- Contracts of the comparisons. -/
import Derived.Test.YtjobcobgmajajaaKit
set_option linter.unusedVariables false
namespace Go.Proofs.Ytjobcobgmajajaa
open Go.RowKit
theorem same_any (A A' : Option Addr) (n c n' c' : Nat) (l l' : List Bool) (w : World) (hs : Sl w w.heap.size A n c (bl l)) (hs' : Sl w w.heap.size A' n' c' (bl l')) :
    Calls Try.prog 13 #[.slice A n c, .slice A' n' c'] w fun e w' => e = .returned (.bool (l == l')) ∧ Below w.heap.size w w' := by
  have hl : l.length = n := by rw [← length_bl]; exact hs.len
  have hl' : l'.length = n' := by rw [← length_bl]; exact hs'.len
  have hmax := hs.max
  have hle := hs.le
  have hle' := hs'.le
  have hmax' := hs'.max
  unfold maxLen at hmax hmax'
  by_cases hnn : n = n'
  · subst hnn
    go_enter Try.func13, Try.ntmps13
    go_wp2
    go_loopw [5] (fun i wr => ∃ k : Nat, k ≤ n ∧ i = .int .i64 k ∧ Hid (l.take k = l'.take k) ∧ Below w.heap.size w wr) (fun i _ => n - (intOf i).toNat)
    case atStart => exact ⟨0, Nat.zero_le _, rfl, rfl, Below.refl _ _⟩
    case round =>
      obtain ⟨k, hk, rfl, heq, hbel⟩ := hrel
      by_cases hlt : k < n
      · obtain ⟨b, off, rfl, hb, hc⟩ := (hs.below hbel).at_ hlt (.bool false)
        obtain ⟨b', off', rfl, hb', hc'⟩ := (hs'.below hbel).at_ hlt (.bool false)
        rw [getD_bl l k (by omega)] at hc
        rw [getD_bl l' k (by omega)] at hc'
        have hk0 : (0 : Int) ≤ k := by omega
        have hk1 : (k : Int) < n := by omega
        by_cases hbit : l.getD k false = l'.getD k false
        · have HB := Lib.hid hbit
          rw [← hbit] at hc'
          clear hbit
          go_wp2
          go_quiet (fail)
          go_wp2
          go_roundw
          case rel => exact ⟨k + 1, by omega, by go_num, take_eq_succ false l l' k (by omega) (by omega) heq.out HB.out, below_drawn hbel _⟩
          case measure => simp [intOf]; omega
        · have HB := Lib.hid (ne_of_getD false l l' k hbit)
          have HE : Hid ((l == l') = false) := beq_false_of_ne HB.out
          clear HB
          generalize l.getD k false = x at *
          generalize l'.getD k false = y at *
          cases x
          all_goals
            cases y
          all_goals first | exact absurd rfl hbit | skip
          all_goals
            clear hbit
            go_wp2
            go_quiet (fail)
            go_wp2
            go_ret
            exact ⟨retB HE.out.symm, below_drawn hbel _⟩
      · obtain rfl : k = n := by omega
        have e := heq.out
        rw [List.take_of_length_le (by omega), List.take_of_length_le (by omega)] at e
        subst e
        go_wp2
        go_ret
        exact ⟨by simp, hbel⟩
  · have hne : (l == l') = false := beq_false_of_ne (by rintro rfl; omega)
    rw [hne]
    go_enter Try.func13, Try.ntmps13
    go_wp2
    go_ret
    exact ⟨rfl, Below.refl _ _⟩

theorem getD_il' (l : List Int) (k : Nat) (hk : k < l.length) : (il l).getD k (.int .i64 0) = .int .i64 (l.getD k 0) := getD_il l k hk

theorem ints_any (A A' : Option Addr) (n c n' c' : Nat) (l l' : List Int) (w : World) (hs : Sl w w.heap.size A n c (il l)) (hs' : Sl w w.heap.size A' n' c' (il l')) :
    Calls Try.prog 16 #[.slice A n c, .slice A' n' c'] w fun e w' => e = .returned (.bool (l == l')) ∧ Below w.heap.size w w' := by
  have hl : l.length = n := by rw [← length_il]; exact hs.len
  have hl' : l'.length = n' := by rw [← length_il]; exact hs'.len
  have hmax := hs.max
  have hle := hs.le
  have hle' := hs'.le
  have hmax' := hs'.max
  unfold maxLen at hmax hmax'
  by_cases hnn : n = n'
  · subst hnn
    go_enter Try.func16, Try.ntmps16
    go_wp2
    go_loopw [5] (fun i wr => ∃ k : Nat, k ≤ n ∧ i = .int .i64 k ∧ Hid (l.take k = l'.take k) ∧ Below w.heap.size w wr) (fun i _ => n - (intOf i).toNat)
    case atStart => exact ⟨0, Nat.zero_le _, rfl, rfl, Below.refl _ _⟩
    case round =>
      obtain ⟨k, hk, rfl, heq, hbel⟩ := hrel
      by_cases hlt : k < n
      · obtain ⟨b, off, rfl, hb, hc⟩ := (hs.below hbel).at_ hlt (.int .i64 0)
        obtain ⟨b', off', rfl, hb', hc'⟩ := (hs'.below hbel).at_ hlt (.int .i64 0)
        rw [getD_il l k (by omega)] at hc
        rw [getD_il l' k (by omega)] at hc'
        have hk0 : (0 : Int) ≤ k := by omega
        have hk1 : (k : Int) < n := by omega
        by_cases hbit : l.getD k 0 = l'.getD k 0
        · have HB := Lib.hid hbit
          rw [← hbit] at hc'
          clear hbit
          go_wp2
          go_quiet (fail)
          go_wp2
          go_roundw
          case rel => exact ⟨k + 1, by omega, by go_num, take_eq_succ 0 l l' k (by omega) (by omega) heq.out HB.out, below_drawn hbel _⟩
          case measure => simp [intOf]; omega
        · have HB := Lib.hid (ne_of_getD 0 l l' k hbit)
          have HE : Hid ((l == l') = false) := beq_false_of_ne HB.out
          clear HB
          generalize l.getD k 0 = x at *
          generalize l'.getD k 0 = y at *
          have hx1 : (x == y) = false := by simpa using hbit
          have hx2 : (x != y) = true := by simpa using hbit
          go_wp2
          go_quiet (fail)
          go_wp2
          go_ret
          exact ⟨retB HE.out.symm, below_drawn hbel _⟩
      · obtain rfl : k = n := by omega
        have e := heq.out
        rw [List.take_of_length_le (by omega), List.take_of_length_le (by omega)] at e
        subst e
        go_wp2
        go_ret
        exact ⟨by simp, hbel⟩
  · have hne : (l == l') = false := beq_false_of_ne (by rintro rfl; omega)
    rw [hne]
    go_enter Try.func16, Try.ntmps16
    go_wp2
    go_ret
    exact ⟨rfl, Below.refl _ _⟩

end Go.Proofs.Ytjobcobgmajajaa
