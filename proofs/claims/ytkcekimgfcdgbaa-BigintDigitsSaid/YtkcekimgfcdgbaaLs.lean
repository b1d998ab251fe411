/- BigintDigits returns true for any integer, any row and any base. -/
import Derived.Test.YtkcekimgfcdgbaaVm
import Derived.Test.YtkcekimgfcdgbaaVp
set_option linter.unusedVariables false
namespace Go.Proofs.Ytkcekimgfcdgbaa
open Go.RowKit

theorem first_bad (p : Nat → Prop) (n : Nat) : (∀ k, k < n → p k) ∨ ∃ k0, k0 < n ∧ (∀ k, k < k0 → p k) ∧ ¬ p k0 := by
  induction n with
  | zero => exact .inl fun k h => absurd h (by omega)
  | succ n ih =>
    rcases ih with h | ⟨k0, h1, h2⟩
    · rcases Classical.em (p n) with hp | hp
      · refine .inl fun k hk => ?_
        rcases Nat.lt_or_ge k n with h' | h'
        · exact h k h'
        · obtain rfl : k = n := by omega
          exact hp
      · exact .inr ⟨n, by omega, h, hp⟩
    · exact .inr ⟨k0, by omega, h2⟩
abbrev On1 (f : Nat) (B0 : Bool) (A0 : Option Addr) (n0 c0 : Nat) (l0 : List Nat) (b : Int) (Q : World → Ending → World → Prop) : Prop :=
  ∀ W : World, Sl W W.heap.size A0 n0 c0 (ml l0) → Calls Try.prog f #[.agg #[.bool B0, .slice A0 n0 c0], .int .i64 b] W (Q W)
theorem digits_pair (B0 : Bool) (A0 : Option Addr) (n0 c0 : Nat) (l0 : List Nat) (b : Int) (o0 : Ok l0) : ∃ r1 r2, r1.length ≤ 4096 ∧ Hid (On1 43 B0 A0 n0 c0 l0 b (GiveN r1 r2)) ∧ Hid (On1 44 B0 A0 n0 c0 l0 b (GiveN r1 r2)) := by
  cases hv : validB B0 l0 with
  | false => exact ⟨[], 1, by simp, fun W h => digits_invalid B0 A0 n0 c0 l0 b W h o0 hv, fun W h => rDigits_invalid B0 A0 n0 c0 l0 b W h o0 hv⟩
  | true =>
    obtain ⟨ev, hva⟩ := of_validB o0 hv
    generalize val l0 = v at ev hva
    subst ev
    cases hb : baseB b with
    | false => exact ⟨[], 1, by simp, fun W h => digits_base B0 A0 n0 c0 v b W h hva hb, fun W h => rDigits_base B0 A0 n0 c0 v b W h hva hb⟩
    | true =>
      cases B0 with
      | true => exact ⟨[], 1, by simp, fun W h => (digits_neg A0 n0 c0 v b W h hva).mono fun e W' h' => (by obtain ⟨rfl, h'⟩ := h'; exact giveN_nil h'), fun W h => rDigits_neg A0 n0 c0 v b W h hva⟩
      | false =>
        obtain ⟨g1, g2⟩ := base_good hb
        obtain ⟨base, rfl⟩ : ∃ base : Nat, b = (base : Int) := ⟨b.toNat, by omega⟩
        by_cases hl : (digsS base v).length ≤ 4096
        · have HR : Hid (((digsS base v).length ≤ 4096 → digsS base v = digsS base v ∧ (0 : Int) = 0) ∧ (4096 < (digsS base v).length → digsS base v = [] ∧ (0 : Int) = 4)) := Lib.hid ⟨fun _ => ⟨rfl, rfl⟩, fun h => absurd h (by omega)⟩
          exact ⟨digsS base v, 0, hl, fun W h => digits_any A0 n0 c0 v base W h hva (by omega) (by omega) _ _ HR, fun W h => rDigits_any A0 n0 c0 v base W h hva (by omega) (by omega) _ _ HR⟩
        · have HR : Hid (((digsS base v).length ≤ 4096 → ([] : List Nat) = digsS base v ∧ (4 : Int) = 0) ∧ (4096 < (digsS base v).length → ([] : List Nat) = [] ∧ (4 : Int) = 4)) := Lib.hid ⟨fun h => absurd h hl, fun _ => ⟨rfl, rfl⟩⟩
          exact ⟨[], 4, by simp, fun W h => digits_any A0 n0 c0 v base W h hva (by omega) (by omega) _ _ HR, fun W h => rDigits_any A0 n0 c0 v base W h hva (by omega) (by omega) _ _ HR⟩
abbrev OnI (f : Nat) (A0 : Option Addr) (n0 c0 : Nat) (l0 : List Int) (b : Int) (Q : World → Ending → World → Prop) : Prop :=
  ∀ W : World, Sl W W.heap.size A0 n0 c0 (il l0) → Calls Try.prog f #[.slice A0 n0 c0, .int .i64 b] W (Q W)
theorem fromDigits_pair (A0 : Option Addr) (n0 c0 : Nat) (l0 : List Int) (b : Int) (hl : l0.length = n0) : ∃ r1 r2 r3, Hid (OnI 45 A0 n0 c0 l0 b (GiveE r1 r2 r3)) ∧ Hid (OnI 46 A0 n0 c0 l0 b (GiveE r1 r2 r3)) := by
  cases hb : baseB b with
  | false => exact ⟨_, _, _, fun W h => fromDigits_base A0 n0 c0 l0 b W h hb, fun W h => rFromDigits_base A0 n0 c0 l0 b W h hb⟩
  | true =>
    rcases Nat.lt_or_ge 4096 n0 with hn | hn
    · exact ⟨_, _, _, fun W h => fromDigits_long A0 n0 c0 l0 b W h hb hn, fun W h => rFromDigits_long A0 n0 c0 l0 b W h hb hn⟩
    rcases first_bad (fun k => 0 ≤ l0.getD k 0 ∧ l0.getD k 0 < b) n0 with hall | ⟨k0, h1, h2, h3⟩
    · obtain ⟨g1, g2⟩ := base_good hb
      obtain ⟨base, rfl⟩ : ∃ base : Nat, b = (base : Int) := ⟨b.toNat, by omega⟩
      have hmem : ∀ x ∈ l0, 0 ≤ x ∧ x < (base : Int) := fun x hx => by
        obtain ⟨k, hk, rfl⟩ := List.mem_iff_getElem.1 hx
        have := hall k (by omega)
        simpa [List.getD, hk] using this
      have hil : il l0 = nl (l0.map Int.toNat) := by
        unfold il nl
        rw [List.map_map]
        refine List.map_congr_left fun x hx => ?_
        have := (hmem x hx).1
        simp only [Function.comp]
        rw [show ((x.toNat : Nat) : Int) = x by omega]
      have hok : OkD base (l0.map Int.toNat) := by
        intro y hy
        obtain ⟨x, hx, rfl⟩ := List.mem_map.1 hy
        have := hmem x hx
        omega
      obtain ⟨V, hV⟩ : ∃ V, horn base (l0.map Int.toNat) = V := ⟨_, rfl⟩
      refine ⟨(limS false V).1, (limS false V).2.1, (limS false V).2.2, fun W h => ?_, fun W h => ?_⟩
      · rw [hil] at h
        exact fromDigits_all A0 n0 c0 base V _ W h (by omega) (by omega) hn hok hV
      · rw [hil] at h
        exact rFromDigits_all A0 n0 c0 base V _ W h (by omega) (by omega) hn hok hV
    · exact ⟨_, _, _, fun W h => fromDigits_range A0 n0 c0 k0 l0 b W h hb hn h1 h2 h3, fun W h => rFromDigits_range A0 n0 c0 k0 l0 b W h hb hn h1 h2 h3⟩

set_option maxRecDepth 100000 in
set_option maxHeartbeats 1000000 in
theorem ints_eq (A A' : Option Addr) (n c c' : Nat) (l : List Nat) (w : World) (hs : Sl w w.heap.size A n c (nl l)) (hs' : Sl w w.heap.size A' n c' (nl l)) :
    Calls Try.prog 47 #[.slice A n c, .slice A' n c'] w fun e w' => e = .returned (.bool true) ∧ Below w.heap.size w w' := by
  have hmax := hs.max
  have hle := hs.le
  have hle' := hs'.le
  have hmax' := hs'.max
  unfold maxLen at hmax hmax'
  go_enter Try.func47, Try.ntmps47
  go_wp2
  go_loopw [5] (fun i wr => ∃ k : Nat, k ≤ n ∧ i = .int .i64 k ∧ Below w.heap.size w wr) (fun i _ => n - (intOf i).toNat)
  case atStart => exact ⟨0, Nat.zero_le _, rfl, Below.refl _ _⟩
  case round =>
    obtain ⟨k, hk, rfl, hbel⟩ := hrel
    by_cases hlt : k < n
    · obtain ⟨b, off, rfl, hb, hc⟩ := at_nl (hs.below hbel) hlt
      obtain ⟨b', off', rfl, hb', hc'⟩ := at_nl (hs'.below hbel) hlt
      have hk0 : (0 : Int) ≤ k := by omega
      have hk1 : (k : Int) < n := by omega
      generalize l.getD k 0 = x at *
      go_wp2
      go_quiet (fail)
      go_wp2
      go_roundw
      case rel => exact ⟨k + 1, by omega, by go_num, below_drawn hbel _⟩
      case measure => simp [intOf]; omega
    · obtain rfl : n = k := by omega
      go_wp2
      go_ret
      exact ⟨rfl, hbel⟩
theorem giveN_out {l : List Nat} {err : Int} {w w' : World} {e : Ending} (h : GiveN l err w e w') : ∃ A c, e = .returned (.tuple #[.slice A l.length c, .int .i64 err]) ∧ Sl w' w'.heap.size A l.length c (nl l) ∧ Below w.heap.size w w' := h

set_option maxRecDepth 100000 in
set_option maxHeartbeats 4000000 in
theorem law_digits (B0 : Bool) (A0 : Option Addr) (n0 c0 : Nat) (l0 : List Nat) (A1 : Option Addr) (n1 c1 : Nat) (l1 : List Int) (x2 : Int) (w : World) (s0 : Sl w w.heap.size A0 n0 c0 (ml l0)) (o0 : Ok l0) (s1 : Sl w w.heap.size A1 n1 c1 (il l1)) (_w1 : ∀ y ∈ l1, -9223372036854775808 ≤ y ∧ y ≤ 9223372036854775807) (_b2 : -9223372036854775808 ≤ x2 ∧ x2 ≤ 9223372036854775807) :
    Calls Try.prog 9 #[.agg #[.bool B0, .slice A0 n0 c0], .slice A1 n1 c1, .int .i64 x2] w fun e w' => e = .returned (.bool true) ∧ Below w.heap.size w w' := by
  have hl1 : l1.length = n1 := by rw [← length_il]; exact s1.len
  obtain ⟨r1, r2, hr, HM, HRM⟩ := digits_pair B0 A0 n0 c0 l0 x2 o0
  obtain ⟨q1, q2, q3, HF, HRF⟩ := fromDigits_pair A1 n1 c1 l1 x2 hl1
  have I0 : Bl (w.alloc (bx (.bool B0) (.slice A0 n0 c0))) w.heap.size B0 A0 n0 c0 l0 := ⟨At.new _ _ _, s0.next (below_new _ _)⟩
  have HB := below_new w (bx (.bool B0) (.slice A0 n0 c0))
  have J := s1.next HB
  clear s0 s1 hl1
  go_enter Try.func9, Try.ntmps9
  obtain ⟨k1, k2⟩ := I0.cells
  go_wp2_with fail
  refine (HM.out _ I0.sl).mono ?_
  intro e w2 h
  obtain ⟨A2, c2, rfl, hs2, hb2⟩ := giveN_out h
  replace I0 := I0.next hb2
  replace J := J.next hb2
  replace HB := below_step HB hb2
  clear h hb2 k1 k2
  obtain ⟨k1, k2⟩ := I0.cells
  go_wp2_with fail
  refine (HRM.out _ I0.sl).mono ?_
  intro e w3 h
  obtain ⟨A3, c3, rfl, hs3, hb3⟩ := giveN_out h
  replace hs2 := hs2.next hb3
  replace J := J.next hb3
  replace HB := below_step HB hb3
  clear h hb3 k1 k2 I0
  go_wp2_with fail
  refine (HF.out _ J).mono ?_
  intro e w4 h
  obtain ⟨A4, n4, c4, rfl, hs4, hb4⟩ := giveE_out h
  have X4 := Bx.new (neg := q1) hs4
  have hn4 := below_step hb4 (below_new w4 (.cells #[.bool q1, .slice A4 n4 c4] 24))
  replace hs2 := hs2.next hn4
  replace hs3 := hs3.next hn4
  replace J := J.next hn4
  replace HB := below_step HB hn4
  clear h hs4 hb4 hn4
  go_wp2_with fail
  refine (HRF.out _ J).mono ?_
  intro e w5 h
  obtain ⟨A5, n5, c5, rfl, hs5, hb5⟩ := giveE_out h
  have X5 := Bx.new (neg := q1) hs5
  have hn5 := below_step hb5 (below_new w5 (.cells #[.bool q1, .slice A5 n5 c5] 24))
  replace hs2 := hs2.next hn5
  replace hs3 := hs3.next hn5
  replace X4 := X4.next hn5
  replace HB := below_step HB hn5
  clear h hs5 hb5 hn5 J
  obtain ⟨k1, k2⟩ := X4.cells
  obtain ⟨k3, k4⟩ := X5.cells
  go_wp2_with fail
  refine (ints_eq _ _ _ _ _ _ _ hs2 hs3).mono ?_
  rintro e w6 ⟨rfl, hb6⟩
  replace X4 := X4.next hb6
  replace X5 := X5.next hb6
  replace HB := below_step HB hb6
  clear hb6 hs2 hs3 k1 k2 k3 k4
  obtain ⟨k1, k2⟩ := X4.cells
  obtain ⟨k3, k4⟩ := X5.cells
  go_wp2_with fail
  refine (same_eq _ _ _ _ _ X4.zi X5.zi).mono ?_
  rintro e w7 ⟨rfl, hb7⟩
  replace HB := below_step HB hb7
  clear hb7 X4 X5 k1 k2 k3 k4
  go_wp2_with fail
  refine (examples_any _).mono ?_
  rintro e w8 ⟨rfl, hb8⟩
  go_wp2
  go_ret
  exact ⟨rfl, below_step HB hb8⟩
end Go.Proofs.Ytkcekimgfcdgbaa
