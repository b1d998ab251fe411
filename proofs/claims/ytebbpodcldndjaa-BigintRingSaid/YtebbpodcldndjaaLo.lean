/- BigintOrder returns true for any three integers. -/
import Derived.Test.YtebbpodcldndjaaLoM
import Derived.Deep.RegionHeld3
import Derived.Deep.DrawnRows
import Derived.Deep.DeepCutAuto
set_option linter.unusedVariables false
namespace Go.Proofs.Ytebbpodcldndjaa
open Go.RowKit
attribute [local go_sem ↓] Go.wp_at_zero Go.wp_at_succ

/-- three integers that came in -/
structure In3 (W w : World) (B0 : Bool) (A0 : Option Addr) (n0 c0 : Nat) (l0 : List Nat) (B1 : Bool) (A1 : Option Addr) (n1 c1 : Nat) (l1 : List Nat) (B2 : Bool) (A2 : Option Addr) (n2 c2 : Nat) (l2 : List Nat) : Prop where
  a : Bl W w.heap.size B0 A0 n0 c0 l0
  b : Bl W (w.heap.size + 1) B1 A1 n1 c1 l1
  c : Bl W (w.heap.size + 2) B2 A2 n2 c2 l2
  bel : Below w.heap.size w W
section
variable {W w : World} {B0 : Bool} {A0 : Option Addr} {n0 c0 : Nat} {l0 : List Nat} {B1 : Bool} {A1 : Option Addr} {n1 c1 : Nat} {l1 : List Nat} {B2 : Bool} {A2 : Option Addr} {n2 c2 : Nat} {l2 : List Nat}
theorem In3.next {W' : World} (h : In3 W w B0 A0 n0 c0 l0 B1 A1 n1 c1 l1 B2 A2 n2 c2 l2) (hb : Below W.heap.size W W') : In3 W' w B0 A0 n0 c0 l0 B1 A1 n1 c1 l1 B2 A2 n2 c2 l2 := ⟨h.a.next hb, h.b.next hb, h.c.next hb, below_step h.bel hb⟩
theorem In3.drew (h : In3 W w B0 A0 n0 c0 l0 B1 A1 n1 c1 l1 B2 A2 n2 c2 l2) : In3 W.drew w B0 A0 n0 c0 l0 B1 A1 n1 c1 l1 B2 A2 n2 c2 l2 := ⟨h.a.drew, h.b.drew, h.c.drew, h.bel.drew⟩
theorem In3.cells (h : In3 W w B0 A0 n0 c0 l0 B1 A1 n1 c1 l1 B2 A2 n2 c2 l2) : W.cell? ⟨w.heap.size, 0, none⟩ = some (.bool B0) ∧ W.cell? ⟨w.heap.size, 1, none⟩ = some (.slice A0 n0 c0) ∧ W.cell? ⟨w.heap.size + 1, 0, none⟩ = some (.bool B1) ∧ W.cell? ⟨w.heap.size + 1, 1, none⟩ = some (.slice A1 n1 c1) ∧ W.cell? ⟨w.heap.size + 2, 0, none⟩ = some (.bool B2) ∧ W.cell? ⟨w.heap.size + 2, 1, none⟩ = some (.slice A2 n2 c2) :=
  ⟨h.a.cells.1, h.a.cells.2, h.b.cells.1, h.b.cells.2, h.c.cells.1, h.c.cells.2⟩
end
theorem three_in (w : World) (B0 : Bool) (A0 : Option Addr) (n0 c0 : Nat) (l0 : List Nat) (B1 : Bool) (A1 : Option Addr) (n1 c1 : Nat) (l1 : List Nat) (B2 : Bool) (A2 : Option Addr) (n2 c2 : Nat) (l2 : List Nat) (s0 : Sl w w.heap.size A0 n0 c0 (ml l0)) (s1 : Sl w w.heap.size A1 n1 c1 (ml l1)) (s2 : Sl w w.heap.size A2 n2 c2 (ml l2)) :
    In3 (((w.alloc (bx (.bool B0) (.slice A0 n0 c0))).alloc (bx (.bool B1) (.slice A1 n1 c1))).alloc (bx (.bool B2) (.slice A2 n2 c2))) w B0 A0 n0 c0 l0 B1 A1 n1 c1 l1 B2 A2 n2 c2 l2 := by
  obtain ⟨HA, HR, HB, hS⟩ := boxed_ab w (.bool B0) (.slice A0 n0 c0) (.bool B1) (.slice A1 n1 c1)
  have hb := below_new ((w.alloc (bx (.bool B0) (.slice A0 n0 c0))).alloc (bx (.bool B1) (.slice A1 n1 c1))) (bx (.bool B2) (.slice A2 n2 c2))
  have h3 := At.new ((w.alloc (bx (.bool B0) (.slice A0 n0 c0))).alloc (bx (.bool B1) (.slice A1 n1 c1))) (.bool B2) (.slice A2 n2 c2)
  have e2 : ((w.alloc (bx (.bool B0) (.slice A0 n0 c0))).alloc (bx (.bool B1) (.slice A1 n1 c1))).heap.size = w.heap.size + 2 := by simp
  rw [e2] at h3
  exact ⟨⟨HA.next hb, (hS _ _ _ _ s0).next hb⟩, ⟨HR.next hb, (hS _ _ _ _ s1).next hb⟩, ⟨h3, (hS _ _ _ _ s2).next hb⟩, below_step HB hb⟩

set_option maxRecDepth 100000 in
set_option maxHeartbeats 4000000 in
theorem order_bad (B0 : Bool) (A0 : Option Addr) (n0 c0 : Nat) (l0 : List Nat) (B1 : Bool) (A1 : Option Addr) (n1 c1 : Nat) (l1 : List Nat) (B2 : Bool) (A2 : Option Addr) (n2 c2 : Nat) (l2 : List Nat) (w : World) (s0 : Sl w w.heap.size A0 n0 c0 (ml l0)) (o0 : Ok l0) (s1 : Sl w w.heap.size A1 n1 c1 (ml l1)) (o1 : Ok l1) (s2 : Sl w w.heap.size A2 n2 c2 (ml l2)) (o2 : Ok l2)
    (hbad : (validB B0 l0 = false) ∨ (validB B0 l0 = true ∧ validB B1 l1 = false)) :
    Calls Try.prog 11 #[.agg #[.bool B0, .slice A0 n0 c0], .agg #[.bool B1, .slice A1 n1 c1], .agg #[.bool B2, .slice A2 n2 c2]] w fun e w' => e = .returned (.bool true) ∧ Below w.heap.size w w' := by
  have I := three_in w B0 A0 n0 c0 l0 B1 A1 n1 c1 l1 B2 A2 n2 c2 l2 s0 s1 s2
  have HC : Hid (∀ W : World, Sl W W.heap.size A0 n0 c0 (ml l0) → Sl W W.heap.size A1 n1 c1 (ml l1) → Calls Try.prog 22 #[.agg #[.bool B0, .slice A0 n0 c0], .agg #[.bool B1, .slice A1 n1 c1]] W fun e w' => e = .returned (.int .i64 0) ∧ Below W.heap.size W w') :=
    fun W h h' => cmp_bad B0 B1 A0 A1 n0 c0 n1 c1 l0 l1 W h h' o0 o1 (by rcases hbad with h | h; · exact .inl h
                                                                         · exact .inr h.2)
  clear s0 s1 s2
  rcases hbad with hv | ⟨hv, hv1⟩
  · go_enter Try.func11, Try.ntmps11
    go_wp2_with fail
    refine (valid_false hv o0 I.a.sl).mono ?_
    rintro e w3 ⟨rfl, hb3⟩
    replace I := I.next hb3
    obtain ⟨a1, a2, a3, a4, a5, a6⟩ := I.cells
    go_wp2_with fail
    refine (HC.out _ I.a.sl I.b.sl).mono ?_
    rintro e w4 ⟨rfl, hb4⟩
    replace I := I.next hb4
    clear a1 a2 a3 a4 a5 a6 hb3 hb4
    go_wp2_with fail
    refine (examples_any _).mono ?_
    rintro e w5 ⟨rfl, hb5⟩
    go_wp2
    go_ret
    exact ⟨rfl, below_step I.bel hb5⟩
  · obtain ⟨ev, hva⟩ := of_validB o0 hv
    generalize val l0 = v at ev hva
    subst ev
    go_enter Try.func11, Try.ntmps11
    go_wp2_with fail
    refine (valid_true hva I.a.sl).mono ?_
    rintro e w2 ⟨rfl, hb2⟩
    replace I := I.next hb2
    obtain ⟨a1, a2, a3, a4, a5, a6⟩ := I.cells
    go_wp2_with fail
    refine (valid_false hv1 o1 I.b.sl).mono ?_
    rintro e w3 ⟨rfl, hb3⟩
    replace I := I.next hb3
    clear a1 a2 a3 a4 a5 a6
    obtain ⟨a1, a2, a3, a4, a5, a6⟩ := I.cells
    go_wp2_with fail
    refine (HC.out _ I.a.sl I.b.sl).mono ?_
    rintro e w4 ⟨rfl, hb4⟩
    replace I := I.next hb4
    clear a1 a2 a3 a4 a5 a6 hb3 hb4
    go_wp2_with fail
    refine (examples_any _).mono ?_
    rintro e w5 ⟨rfl, hb5⟩
    go_wp2
    go_ret
    exact ⟨rfl, below_step I.bel hb5⟩

set_option maxRecDepth 100000 in
set_option maxHeartbeats 4000000 in
theorem order_bad2 (B0 : Bool) (A0 : Option Addr) (n0 c0 a : Nat) (B1 : Bool) (A1 : Option Addr) (n1 c1 b : Nat) (B2 : Bool) (A2 : Option Addr) (n2 c2 : Nat) (l2 : List Nat) (w : World) (s0 : Sl w w.heap.size A0 n0 c0 (ml (enc a))) (s1 : Sl w w.heap.size A1 n1 c1 (ml (enc b))) (s2 : Sl w w.heap.size A2 n2 c2 (ml l2)) (o2 : Ok l2) (hva : Vd B0 a) (hvb : Vd B1 b)
    (hbad : validB B2 l2 = false) :
    Calls Try.prog 11 #[.agg #[.bool B0, .slice A0 n0 c0], .agg #[.bool B1, .slice A1 n1 c1], .agg #[.bool B2, .slice A2 n2 c2]] w fun e w' => e = .returned (.bool true) ∧ Below w.heap.size w w' := by
  have I := three_in w B0 A0 n0 c0 _ B1 A1 n1 c1 _ B2 A2 n2 c2 l2 s0 s1 s2
  obtain ⟨r, hr⟩ : ∃ r, cmpS B0 a B1 b = r := ⟨_, rfl⟩
  have HC : Hid (∀ W : World, Sl W W.heap.size A0 n0 c0 (ml (enc a)) → Sl W W.heap.size A1 n1 c1 (ml (enc b)) → Calls Try.prog 22 #[.agg #[.bool B0, .slice A0 n0 c0], .agg #[.bool B1, .slice A1 n1 c1]] W fun e w' => e = .returned (.int .i64 r) ∧ Below W.heap.size W w') := by
    intro W h h'
    have := cmp_any _ _ B0 B1 a b W (zi_of h) (zi_of h') hva hvb
    rwa [hr] at this
  clear s0 s1 s2 hr
  have hr2 : (r == 0) = true ∨ (r == 0) = false := by cases (r == 0) <;> simp
  rcases hr2 with hr2 | hr2
  all_goals
    go_enter Try.func11, Try.ntmps11
    go_wp2_with fail
    refine (valid_true hva I.a.sl).mono ?_
    rintro e w2 ⟨rfl, hb2⟩
    replace I := I.next hb2
    obtain ⟨a1, a2, a3, a4, a5, a6⟩ := I.cells
    go_wp2_with fail
    refine (valid_true hvb I.b.sl).mono ?_
    rintro e w3 ⟨rfl, hb3⟩
    replace I := I.next hb3
    clear a1 a2 a3 a4 a5 a6
    obtain ⟨a1, a2, a3, a4, a5, a6⟩ := I.cells
    go_wp2_with fail
    refine (valid_false hbad o2 I.c.sl).mono ?_
    rintro e w4 ⟨rfl, hb4⟩
    replace I := I.next hb4
    clear a1 a2 a3 a4 a5 a6 hb2 hb3 hb4
    obtain ⟨a1, a2, a3, a4, a5, a6⟩ := I.cells
    go_wp2_with fail
    refine (HC.out _ I.a.sl I.b.sl).mono ?_
    rintro e w5 ⟨rfl, hb5⟩
    replace I := I.next hb5
    clear a1 a2 a3 a4 a5 a6 hb5
    obtain ⟨a1, a2, a3, a4, a5, a6⟩ := I.cells
    first
      | (go_wp2_with fail
         (with_reducible refine (examples_any _).mono ?_)
         rintro e w5 ⟨rfl, hb5⟩
         go_wp2
         go_ret
         exact ⟨rfl, below_step I.bel hb5⟩)
      | (go_wp2_with fail
         refine (valid_true hva I.a.sl).mono ?_
         rintro e w2 ⟨rfl, hb2⟩
         replace I := I.next hb2
         clear a1 a2 a3 a4 a5 a6
         obtain ⟨a1, a2, a3, a4, a5, a6⟩ := I.cells
         go_wp2_with fail
         refine (valid_true hvb I.b.sl).mono ?_
         rintro e w3 ⟨rfl, hb3⟩
         replace I := I.next hb3
         clear a1 a2 a3 a4 a5 a6 hb2 hb3
         go_wp2_with fail
         refine (examples_any _).mono ?_
         rintro e w5 ⟨rfl, hb5⟩
         go_wp2
         go_ret
         exact ⟨rfl, below_step I.bel hb5⟩)
end Go.Proofs.Ytebbpodcldndjaa
