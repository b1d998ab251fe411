/- Contracts of the comparisons: Same, Ints, Distance. -/
import Derived.Test.YtjpfalpengocjaaW3
set_option linter.unusedVariables false
namespace Go.Proofs.Ytjpfalpengocjaa
open Go.RowKit

theorem retB {a b : Bool} (h : a = b) : Ending.returned (.bool a) = .returned (.bool b) := by rw [h]

theorem take_eq_succ {α : Type} [DecidableEq α] (d : α) (l l' : List α) (k : Nat) (h : k < l.length) (h' : k < l'.length) (e : l.take k = l'.take k) (e2 : l.getD k d = l'.getD k d) : l.take (k + 1) = l'.take (k + 1) := by
  rw [List.take_add_one, List.take_add_one, e, List.getElem?_eq_getElem h, List.getElem?_eq_getElem h']
  simp [List.getD, h, h'] at e2
  rw [e2]
theorem ne_of_getD {α : Type} (d : α) (l l' : List α) (k : Nat) (e : l.getD k d ≠ l'.getD k d) : l ≠ l' := by
  rintro rfl
  exact e rfl
theorem beq_false_of_ne {α : Type} [BEq α] [LawfulBEq α] {l l' : List α} (h : l ≠ l') : (l == l') = false := by simpa using h

theorem same_any (A A' : Option Addr) (n c n' c' : Nat) (l l' : List Bool) (w : World) (hs : Sl w w.heap.size A n c (bl l)) (hs' : Sl w w.heap.size A' n' c' (bl l')) :
    Calls Try.prog 17 #[.slice A n c, .slice A' n' c'] w fun e w' => e = .returned (.bool (l == l')) ∧ Below w.heap.size w w' := by
  have hl : l.length = n := by rw [← length_bl]; exact hs.len
  have hl' : l'.length = n' := by rw [← length_bl]; exact hs'.len
  have hmax := hs.max
  have hle := hs.le
  have hle' := hs'.le
  have hmax' := hs'.max
  unfold maxLen at hmax hmax'
  by_cases hnn : n = n'
  · subst hnn
    go_enter Try.func17, Try.ntmps17
    go_wp2
    go_loopw [5] (fun i wr => ∃ k : Nat, k ≤ n ∧ i = .int .i64 k ∧ Hid (l.take k = l'.take k) ∧ Below w.heap.size w wr) (fun i _ => n - (intOf i).toNat)
    case atStart => exact ⟨0, Nat.zero_le _, rfl, rfl, Below.refl _ _⟩
    case round =>
      obtain ⟨k, hk, rfl, heq, hbel⟩ := hrel
      by_cases hlt : k < n
      · obtain ⟨b, off, rfl, hb, hc⟩ := (hs.below hbel).at_ hlt (.bool false)
        obtain ⟨b', off', rfl, hb', hc'⟩ := (hs'.below hbel).at_ hlt (.bool false)
        rw [getD_bl l k (by omega)] at hc
        rw [getD_bl l' k (by omega)] at hc'
        have hk0 : (0 : Int) ≤ k := by omega
        have hk1 : (k : Int) < n := by omega
        by_cases hbit : l.getD k false = l'.getD k false
        · have HB := Lib.hid hbit
          rw [← hbit] at hc'
          clear hbit
          go_wp2
          go_quiet (fail)
          go_wp2
          go_roundw
          case rel => exact ⟨k + 1, by omega, by go_num, take_eq_succ false l l' k (by omega) (by omega) heq.out HB.out, below_drawn hbel _⟩
          case measure => simp [intOf]; omega
        · have HB := Lib.hid (ne_of_getD false l l' k hbit)
          have HE : Hid ((l == l') = false) := beq_false_of_ne HB.out
          clear HB
          generalize l.getD k false = x at *
          generalize l'.getD k false = y at *
          cases x
          all_goals
            cases y
          all_goals first | exact absurd rfl hbit | skip
          all_goals
            clear hbit
            go_wp2
            go_quiet (fail)
            go_wp2
            go_ret
            exact ⟨retB HE.out.symm, below_drawn hbel _⟩
      · obtain rfl : k = n := by omega
        have e := heq.out
        rw [List.take_of_length_le (by omega), List.take_of_length_le (by omega)] at e
        subst e
        go_wp2
        go_ret
        exact ⟨by simp, hbel⟩
  · have hne : (l == l') = false := beq_false_of_ne (by rintro rfl; omega)
    rw [hne]
    go_enter Try.func17, Try.ntmps17
    go_wp2
    go_ret
    exact ⟨rfl, Below.refl _ _⟩

theorem getD_il' (l : List Int) (k : Nat) (hk : k < l.length) : (il l).getD k (.int .i64 0) = .int .i64 (l.getD k 0) := getD_il l k hk

theorem ints_any (A A' : Option Addr) (n c n' c' : Nat) (l l' : List Int) (w : World) (hs : Sl w w.heap.size A n c (il l)) (hs' : Sl w w.heap.size A' n' c' (il l')) :
    Calls Try.prog 34 #[.slice A n c, .slice A' n' c'] w fun e w' => e = .returned (.bool (l == l')) ∧ Below w.heap.size w w' := by
  have hl : l.length = n := by rw [← length_il]; exact hs.len
  have hl' : l'.length = n' := by rw [← length_il]; exact hs'.len
  have hmax := hs.max
  have hle := hs.le
  have hle' := hs'.le
  have hmax' := hs'.max
  unfold maxLen at hmax hmax'
  by_cases hnn : n = n'
  · subst hnn
    go_enter Try.func34, Try.ntmps34
    go_wp2
    go_loopw [5] (fun i wr => ∃ k : Nat, k ≤ n ∧ i = .int .i64 k ∧ Hid (l.take k = l'.take k) ∧ Below w.heap.size w wr) (fun i _ => n - (intOf i).toNat)
    case atStart => exact ⟨0, Nat.zero_le _, rfl, rfl, Below.refl _ _⟩
    case round =>
      obtain ⟨k, hk, rfl, heq, hbel⟩ := hrel
      by_cases hlt : k < n
      · obtain ⟨b, off, rfl, hb, hc⟩ := (hs.below hbel).at_ hlt (.int .i64 0)
        obtain ⟨b', off', rfl, hb', hc'⟩ := (hs'.below hbel).at_ hlt (.int .i64 0)
        rw [getD_il l k (by omega)] at hc
        rw [getD_il l' k (by omega)] at hc'
        have hk0 : (0 : Int) ≤ k := by omega
        have hk1 : (k : Int) < n := by omega
        by_cases hbit : l.getD k 0 = l'.getD k 0
        · have HB := Lib.hid hbit
          rw [← hbit] at hc'
          clear hbit
          go_wp2
          go_quiet (fail)
          go_wp2
          go_roundw
          case rel => exact ⟨k + 1, by omega, by go_num, take_eq_succ 0 l l' k (by omega) (by omega) heq.out HB.out, below_drawn hbel _⟩
          case measure => simp [intOf]; omega
        · have HB := Lib.hid (ne_of_getD 0 l l' k hbit)
          have HE : Hid ((l == l') = false) := beq_false_of_ne HB.out
          clear HB
          generalize l.getD k 0 = x at *
          generalize l'.getD k 0 = y at *
          have hx1 : (x == y) = false := by simpa using hbit
          have hx2 : (x != y) = true := by simpa using hbit
          go_wp2
          go_quiet (fail)
          go_wp2
          go_ret
          exact ⟨retB HE.out.symm, below_drawn hbel _⟩
      · obtain rfl : k = n := by omega
        have e := heq.out
        rw [List.take_of_length_le (by omega), List.take_of_length_le (by omega)] at e
        subst e
        go_wp2
        go_ret
        exact ⟨by simp, hbel⟩
  · have hne : (l == l') = false := beq_false_of_ne (by rintro rfl; omega)
    rw [hne]
    go_enter Try.func34, Try.ntmps34
    go_wp2
    go_ret
    exact ⟨rfl, Below.refl _ _⟩

/-- at how many places two lists differ -/
def ds : List Bool → List Bool → Nat
  | a :: l, b :: m => (a != b).toNat + ds l m
  | _, _ => 0
theorem ds_snoc (l m : List Bool) (h : l.length = m.length) (a b : Bool) : ds (l ++ [a]) (m ++ [b]) = ds l m + (a != b).toNat := by
  induction l generalizing m with
  | nil =>
    obtain rfl : m = [] := List.eq_nil_of_length_eq_zero (by simpa using h.symm)
    simp [ds]
  | cons x l ih =>
    match m, h with
    | y :: m, h =>
      simp only [List.cons_append, ds]
      rw [ih m (by simpa using h)]
      omega
theorem ds_le (l m : List Bool) : ds l m ≤ l.length := by
  induction l generalizing m with
  | nil => simp [ds]
  | cons x l ih =>
    cases m with
    | nil => simp [ds]
    | cons y m =>
      have := ih m
      simp only [ds, List.length_cons]
      cases (x != y) <;> simp <;> omega
def distS (l m : List Bool) : Int × Int := if l.length = m.length then ((ds l m : Nat), 0) else (0, 7)

theorem distance_any (A A' : Option Addr) (n c n' c' : Nat) (l l' : List Bool) (w : World) (hs : Sl w w.heap.size A n c (bl l)) (hs' : Sl w w.heap.size A' n' c' (bl l')) :
    Calls Try.prog 24 #[.slice A n c, .slice A' n' c'] w fun e w' => e = .returned (.tuple #[.int .i64 (distS l l').1, .int .i64 (distS l l').2]) ∧ Below w.heap.size w w' := by
  have hl : l.length = n := by rw [← length_bl]; exact hs.len
  have hl' : l'.length = n' := by rw [← length_bl]; exact hs'.len
  have hmax := hs.max
  have hle := hs.le
  have hle' := hs'.le
  have hmax' := hs'.max
  unfold maxLen at hmax hmax'
  by_cases hnn : n = n'
  · subst hnn
    have hr : distS l l' = (((ds l l' : Nat) : Int), 0) := by unfold distS; rw [if_pos (by omega)]
    rw [hr]
    clear hr
    go_enter Try.func24, Try.ntmps24
    go_wp2
    go_loopw [6, 15] (fun v i wr => ∃ k : Nat, k ≤ n ∧ i = .int .i64 k ∧ v = .int .i64 (ds (l.take k) (l'.take k) : Nat) ∧ Below w.heap.size w wr) (fun _ i _ => n - (intOf i).toNat)
    case atStart => exact ⟨0, Nat.zero_le _, rfl, rfl, Below.refl _ _⟩
    case round =>
      obtain ⟨k, hk, rfl, rfl, hbel⟩ := hrel
      by_cases hlt : k < n
      · obtain ⟨b, off, rfl, hb, hc⟩ := (hs.below hbel).at_ hlt (.bool false)
        obtain ⟨b', off', rfl, hb', hc'⟩ := (hs'.below hbel).at_ hlt (.bool false)
        rw [getD_bl l k (by omega)] at hc
        rw [getD_bl l' k (by omega)] at hc'
        have hk0 : (0 : Int) ≤ k := by omega
        have hk1 : (k : Int) < n := by omega
        have hw := ds_le (l.take k) (l'.take k)
        have hll : (l.take k).length ≤ k := List.length_take_le _ _
        have HS := Lib.hid (show ds (l.take (k + 1)) (l'.take (k + 1)) = ds (l.take k) (l'.take k) + (l.getD k false != l'.getD k false).toNat by
          rw [take_bl l k (by omega), take_bl l' k (by omega), ds_snoc _ _ (by simp; omega)])
        cases hx : l.getD k false
        all_goals
          cases hy : l'.getD k false
        all_goals
          rw [hx] at hc
          rw [hy] at hc'
          have HX := Lib.hid hx
          have HY := Lib.hid hy
          clear hx hy
          go_wp2
          go_quiet (fail)
          go_wp2
          go_roundw
          case rel => exact ⟨k + 1, by omega, by go_num, by rw [HS.out, HX.out, HY.out]; simp, below_drawn hbel _⟩
          case measure => simp [intOf]; omega
      · obtain rfl : k = n := by omega
        go_wp2
        go_ret2
        exact ⟨ret2I (by rw [List.take_of_length_le (by omega), List.take_of_length_le (by omega)]) rfl, hbel⟩
  · have hr : distS l l' = (0, 7) := by unfold distS; rw [if_neg (by omega)]
    rw [hr]
    go_enter Try.func24, Try.ntmps24
    go_wp2
    go_ret2
    exact ⟨rfl, Below.refl _ _⟩

theorem rDistance_any (A A' : Option Addr) (n c n' c' : Nat) (l l' : List Bool) (w : World) (hs : Sl w w.heap.size A n c (bl l)) (hs' : Sl w w.heap.size A' n' c' (bl l')) :
    Calls Try.prog 25 #[.slice A n c, .slice A' n' c'] w fun e w' => e = .returned (.tuple #[.int .i64 (distS l l').1, .int .i64 (distS l l').2]) ∧ Below w.heap.size w w' := by
  have hl : l.length = n := by rw [← length_bl]; exact hs.len
  have hl' : l'.length = n' := by rw [← length_bl]; exact hs'.len
  have hmax := hs.max
  have hle := hs.le
  have hle' := hs'.le
  have hmax' := hs'.max
  unfold maxLen at hmax hmax'
  by_cases hnn : n = n'
  · subst hnn
    have hr : distS l l' = (((ds l l' : Nat) : Int), 0) := by unfold distS; rw [if_pos (by omega)]
    rw [hr]
    clear hr
    go_enter Try.func25, Try.ntmps25
    go_wp2
    go_loopw [6, 7] (fun v i wr => ∃ k : Nat, k ≤ n ∧ i = .int .i64 k ∧ v = .int .i64 (ds (l.take k) (l'.take k) : Nat) ∧ Below w.heap.size w wr) (fun _ i _ => n - (intOf i).toNat)
    case atStart => exact ⟨0, Nat.zero_le _, rfl, rfl, Below.refl _ _⟩
    case round =>
      obtain ⟨k, hk, rfl, rfl, hbel⟩ := hrel
      by_cases hlt : k < n
      · obtain ⟨b, off, rfl, hb, hc⟩ := (hs.below hbel).at_ hlt (.bool false)
        obtain ⟨b', off', rfl, hb', hc'⟩ := (hs'.below hbel).at_ hlt (.bool false)
        rw [getD_bl l k (by omega)] at hc
        rw [getD_bl l' k (by omega)] at hc'
        have hk0 : (0 : Int) ≤ k := by omega
        have hk1 : (k : Int) < n := by omega
        have hw := ds_le (l.take k) (l'.take k)
        have hll : (l.take k).length ≤ k := List.length_take_le _ _
        have HS := Lib.hid (show ds (l.take (k + 1)) (l'.take (k + 1)) = ds (l.take k) (l'.take k) + (l.getD k false != l'.getD k false).toNat by
          rw [take_bl l k (by omega), take_bl l' k (by omega), ds_snoc _ _ (by simp; omega)])
        cases hx : l.getD k false
        all_goals
          cases hy : l'.getD k false
        all_goals
          rw [hx] at hc
          rw [hy] at hc'
          have HX := Lib.hid hx
          have HY := Lib.hid hy
          clear hx hy
          go_wp2
          go_quiet (fail)
          go_wp2
          go_roundw
          case rel => exact ⟨k + 1, by omega, by go_num, by rw [HS.out, HX.out, HY.out]; simp, below_drawn hbel _⟩
          case measure => simp [intOf]; omega
      · obtain rfl : k = n := by omega
        go_wp2
        go_ret2
        exact ⟨ret2I (by rw [List.take_of_length_le (by omega), List.take_of_length_le (by omega)]) rfl, hbel⟩
  · have hr : distS l l' = (0, 7) := by unfold distS; rw [if_neg (by omega)]
    rw [hr]
    go_enter Try.func25, Try.ntmps25
    go_wp2
    go_ret2
    exact ⟨rfl, Below.refl _ _⟩
end Go.Proofs.Ytjpfalpengocjaa
