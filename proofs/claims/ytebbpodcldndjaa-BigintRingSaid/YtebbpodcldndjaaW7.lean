/- Contracts on integers: Same. -/
import Derived.Test.YtebbpodcldndjaaW6
set_option linter.unusedVariables false
namespace Go.Proofs.Ytebbpodcldndjaa
open Go.RowKit

theorem take_eq_succ {α : Type} (d : α) (l l' : List α) (k : Nat) (h : k < l.length) (h' : k < l'.length) (e : l.take k = l'.take k) (e2 : l.getD k d = l'.getD k d) : l.take (k + 1) = l'.take (k + 1) := by
  rw [List.take_add_one, List.take_add_one, e, List.getElem?_eq_getElem h, List.getElem?_eq_getElem h']
  simp [List.getD, h, h'] at e2
  rw [e2]
theorem ne_of_getD {α : Type} (d : α) (l l' : List α) (k : Nat) (e : l.getD k d ≠ l'.getD k d) : l ≠ l' := by
  rintro rfl
  exact e rfl
theorem beq_false_of_ne {α : Type} [BEq α] [LawfulBEq α] {l l' : List α} (h : l ≠ l') : (l == l') = false := by simpa using h

set_option maxRecDepth 100000 in
theorem same_neg (b : Bool) (A A' : Option Addr) (n c n' c' : Nat) (l l' : List Nat) (w : World) (hs : Sl w w.heap.size A n c (ml l)) (hs' : Sl w w.heap.size A' n' c' (ml l')) (hok : Ok l) (hok' : Ok l') :
    Calls Try.prog 58 #[.agg #[.bool b, .slice A n c], .agg #[.bool b, .slice A' n' c']] w fun e w' => e = .returned (.bool (l == l')) ∧ Below w.heap.size w w' := by
  have hl : l.length = n := by rw [← length_ml]; exact hs.len
  have hl' : l'.length = n' := by rw [← length_ml]; exact hs'.len
  have hmax := hs.max
  have hle := hs.le
  have hle' := hs'.le
  have hmax' := hs'.max
  unfold maxLen at hmax hmax'
  have hd1 : (false != false) = false := rfl
  have hd2 : (true != true) = false := rfl
  by_cases hnn : n = n'
  · subst hnn
    have hb1 := below_new w (.cells #[.bool b, .slice A n c] 24)
    have hb2 := below_new (w.alloc (.cells #[.bool b, .slice A n c] 24)) (.cells #[.bool b, .slice A' n c'] 24)
    have hs1 := (hs.next hb1).next hb2
    have hs1' := (hs'.next hb1).next hb2
    have HA := Lib.hid ((At.new w (.bool b) (.slice A n c)).next hb2)
    have HA' := Lib.hid (At.new (w.alloc (.cells #[.bool b, .slice A n c] 24)) (.bool b) (.slice A' n c'))
    have HB := Lib.hid (below_step hb1 hb2)
    have hsz2 : ((w.alloc (.cells #[.bool b, .slice A n c] 24)).alloc (.cells #[.bool b, .slice A' n c'] 24)).heap.size = w.heap.size + 2 := by simp
    have HZ := Lib.hid hsz2
    have hsz1 : (w.alloc (.cells #[.bool b, .slice A n c] 24)).heap.size = w.heap.size + 1 := by simp
    rw [hsz1] at HA'
    clear hsz2 hsz1 hb1 hb2 hs hs'
    cases b
    all_goals
      go_enter Try.func58, Try.ntmps58
      go_wp2
      go_loopw [5] (fun i wr => ∃ k : Nat, k ≤ n ∧ i = .int .i64 k ∧ Hid (l.take k = l'.take k) ∧ Hid (Below (w.heap.size + 2) ((w.alloc (.cells #[.bool _, .slice A n c] 24)).alloc (.cells #[.bool _, .slice A' n c'] 24)) wr)) (fun i _ => n - (intOf i).toNat)
      case atStart => exact ⟨0, Nat.zero_le _, rfl, rfl, Lib.hid (Below.refl _ _)⟩
      case round =>
        obtain ⟨k, hk, rfl, heq, hbel⟩ := hrel
        obtain ⟨f1, f2, _, _⟩ := (HA.out.below hbel.out (by omega)).facts
        obtain ⟨g1, g2, _, _⟩ := (HA'.out.below hbel.out (by omega)).facts
        have HE := Lib.hid (show Below w.heap.size w _ from HB.out.trans (hbel.out.mono (by omega)))
        by_cases hlt : k < n
        · have hbel' := hbel.out
          rw [← HZ.out] at hbel'
          obtain ⟨bb, off, rfl, hb, hc⟩ := (hs1.below hbel').at_ hlt (.int .u32 0)
          obtain ⟨bb', off', rfl, hb', hc'⟩ := (hs1'.below hbel').at_ hlt (.int .u32 0)
          rw [getD_ml l k (by omega)] at hc
          rw [getD_ml l' k (by omega)] at hc'
          have hk0 : (0 : Int) ≤ k := by omega
          have hk1 : (k : Int) < n := by omega
          clear hbel'
          by_cases hbit : l.getD k 0 = l'.getD k 0
          · have HBt := Lib.hid hbit
            rw [← hbit] at hc'
            clear hbit
            go_wp2
            go_quiet (fail)
            go_wp2
            go_roundw
            case rel => exact ⟨k + 1, by omega, by go_num, take_eq_succ 0 l l' k (by omega) (by omega) heq.out HBt.out, Lib.hid (below_drawn hbel.out _)⟩
            case measure => simp [intOf]; omega
          · have HEq : Hid ((l == l') = false) := beq_false_of_ne (ne_of_getD 0 l l' k hbit)
            have hx1 := natB hbit
            generalize l.getD k 0 = x at *
            generalize l'.getD k 0 = y at *
            have hx2 : ((x : Int) != (y : Int)) = true := by simp; omega
            go_wp2
            go_quiet (fail)
            go_wp2
            go_ret
            exact ⟨retB HEq.out.symm, below_drawn HE.out _⟩
        · obtain rfl : k = n := by omega
          have e := heq.out
          rw [List.take_of_length_le (by omega), List.take_of_length_le (by omega)] at e
          subst e
          go_wp2
          go_ret
          exact ⟨retB (by simp), HE.out⟩
  · have hne : (l == l') = false := beq_false_of_ne (by rintro rfl; omega)
    rw [hne]
    have hx1 := natB hnn
    cases b
    all_goals
      go_enter Try.func58, Try.ntmps58
      go_wp2
      go_ret
      exact ⟨rfl, below_step (below_new _ _) (below_new _ _)⟩
end Go.Proofs.Ytebbpodcldndjaa
