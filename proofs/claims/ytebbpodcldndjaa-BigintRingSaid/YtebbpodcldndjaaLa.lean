/- What a function and its specification return is the same, for any arguments. -/
import Derived.Test.YtebbpodcldndjaaVb
import Derived.Test.YtebbpodcldndjaaWo
import Derived.Test.YtebbpodcldndjaaWn
import Derived.Test.YtebbpodcldndjaaWj
import Derived.Test.YtebbpodcldndjaaWe
set_option linter.unusedVariables false
namespace Go.Proofs.Ytebbpodcldndjaa
open Go.RowKit

/-- a call with two integers that came in -/
abbrev On2 (f : Nat) (B0 : Bool) (A0 : Option Addr) (n0 c0 : Nat) (l0 : List Nat) (B1 : Bool) (A1 : Option Addr) (n1 c1 : Nat) (l1 : List Nat) (Q : World → Ending → World → Prop) : Prop :=
  ∀ W : World, Sl W W.heap.size A0 n0 c0 (ml l0) → Sl W W.heap.size A1 n1 c1 (ml l1) → Calls Try.prog f #[.agg #[.bool B0, .slice A0 n0 c0], .agg #[.bool B1, .slice A1 n1 c1]] W (Q W)
theorem zi_of {W : World} {A : Option Addr} {n c v : Nat} {neg : Bool} (h : Sl W W.heap.size A n c (ml (enc v))) : Zi W (.agg #[.bool neg, .slice A n c]) neg v := sl_zi h

section
variable (B0 : Bool) (A0 : Option Addr) (n0 c0 : Nat) (l0 : List Nat) (B1 : Bool) (A1 : Option Addr) (n1 c1 : Nat) (l1 : List Nat) (o0 : Ok l0) (o1 : Ok l1)
include o0 o1
theorem both_or : (∃ a b, l0 = enc a ∧ l1 = enc b ∧ Vd B0 a ∧ Vd B1 b) ∨ (validB B0 l0 = false ∨ validB B1 l1 = false) := by
  cases h0 : validB B0 l0 with
  | false => exact .inr (.inl rfl)
  | true =>
    cases h1 : validB B1 l1 with
    | false => exact .inr (.inr rfl)
    | true =>
      obtain ⟨e0, v0⟩ := of_validB o0 h0
      obtain ⟨e1, v1⟩ := of_validB o1 h1
      exact .inl ⟨_, _, e0, e1, v0, v1⟩
theorem mul_pair : ∃ r1 r2 r3, Hid (On2 25 B0 A0 n0 c0 l0 B1 A1 n1 c1 l1 (GiveE r1 r2 r3)) ∧ Hid (On2 26 B0 A0 n0 c0 l0 B1 A1 n1 c1 l1 (GiveE r1 r2 r3)) := by
  rcases both_or B0 l0 B1 l1 o0 o1 with ⟨a, b, rfl, rfl, va, vb⟩ | hv
  · exact ⟨_, _, _, fun W h h' => mul2_any B0 B1 A0 A1 n0 c0 n1 c1 a b W h h' va vb, fun W h h' => rMul_any B0 B1 A0 A1 n0 c0 n1 c1 a b W h h' va vb⟩
  · exact ⟨_, _, _, fun W h h' => mul_bad B0 B1 A0 A1 n0 c0 n1 c1 l0 l1 W h h' o0 o1 hv, fun W h h' => rMul_bad B0 B1 A0 A1 n0 c0 n1 c1 l0 l1 W h h' o0 o1 hv⟩
theorem add_pair : ∃ r1 r2 r3, Hid (On2 15 B0 A0 n0 c0 l0 B1 A1 n1 c1 l1 (GiveE r1 r2 r3)) ∧ Hid (On2 16 B0 A0 n0 c0 l0 B1 A1 n1 c1 l1 (GiveE r1 r2 r3)) := by
  rcases both_or B0 l0 B1 l1 o0 o1 with ⟨a, b, rfl, rfl, va, vb⟩ | hv
  · exact ⟨_, _, _, fun W h h' => add2_any _ _ B0 B1 a b W (zi_of h) (zi_of h') va vb, fun W h h' => rAdd_any _ _ B0 B1 a b W (zi_of h) (zi_of h') va vb⟩
  · exact ⟨_, _, _, fun W h h' => add_bad B0 B1 A0 A1 n0 c0 n1 c1 l0 l1 W h h' o0 o1 hv, fun W h h' => rAdd_bad B0 B1 A0 A1 n0 c0 n1 c1 l0 l1 W h h' o0 o1 hv⟩
theorem sub_pair : ∃ r1 r2 r3, Hid (On2 17 B0 A0 n0 c0 l0 B1 A1 n1 c1 l1 (GiveE r1 r2 r3)) ∧ Hid (On2 18 B0 A0 n0 c0 l0 B1 A1 n1 c1 l1 (GiveE r1 r2 r3)) := by
  rcases both_or B0 l0 B1 l1 o0 o1 with ⟨a, b, rfl, rfl, va, vb⟩ | hv
  · exact ⟨_, _, _, fun W h h' => sub2_any _ _ B0 B1 a b W (zi_of h) (zi_of h') va vb, fun W h h' => rSub_any _ _ B0 B1 a b W (zi_of h) (zi_of h') va vb⟩
  · exact ⟨_, _, _, fun W h h' => sub_bad B0 B1 A0 A1 n0 c0 n1 c1 l0 l1 W h h' o0 o1 hv, fun W h h' => rSub_bad B0 B1 A0 A1 n0 c0 n1 c1 l0 l1 W h h' o0 o1 hv⟩
theorem cmp_pair : ∃ r : Int, Hid (On2 22 B0 A0 n0 c0 l0 B1 A1 n1 c1 l1 fun W e w' => e = .returned (.int .i64 r) ∧ Below W.heap.size W w') ∧ Hid (On2 23 B0 A0 n0 c0 l0 B1 A1 n1 c1 l1 fun W e w' => e = .returned (.int .i64 r) ∧ Below W.heap.size W w') := by
  rcases both_or B0 l0 B1 l1 o0 o1 with ⟨a, b, rfl, rfl, va, vb⟩ | hv
  · exact ⟨_, fun W h h' => cmp_any _ _ B0 B1 a b W (zi_of h) (zi_of h') va vb, fun W h h' => rCmp_any _ _ B0 B1 a b W (zi_of h) (zi_of h') va vb⟩
  · exact ⟨_, fun W h h' => cmp_bad B0 B1 A0 A1 n0 c0 n1 c1 l0 l1 W h h' o0 o1 hv, fun W h h' => rCmp_bad B0 B1 A0 A1 n0 c0 n1 c1 l0 l1 W h h' o0 o1 hv⟩
omit o1 in
theorem neg_pair : ∃ r1 r2, Hid (∀ W : World, Sl W W.heap.size A0 n0 c0 (ml l0) → Calls Try.prog 20 #[.agg #[.bool B0, .slice A0 n0 c0]] W (GiveI r1 r2 W)) ∧ Hid (∀ W : World, Sl W W.heap.size A0 n0 c0 (ml l0) → Calls Try.prog 21 #[.agg #[.bool B0, .slice A0 n0 c0]] W (GiveI r1 r2 W)) := by
  cases h0 : validB B0 l0 with
  | false => exact ⟨_, _, fun W h => neg_bad B0 A0 n0 c0 l0 W h o0 h0, fun W h => rNeg_bad B0 A0 n0 c0 l0 W h o0 h0⟩
  | true =>
    obtain ⟨e0, v0⟩ := of_validB o0 h0
    rw [e0]
    exact ⟨_, _, fun W h => neg_any _ B0 _ W (zi_of h) v0, fun W h => rNeg_any _ B0 _ W (zi_of h) v0⟩
end
theorem ex_from1 (W : World) : Calls Try.prog 35 #[.int .i64 1] W (GiveI false 1 W) := fromInt_any 1 W (by omega) (by omega)
theorem same_eq (x y : Value) (neg : Bool) (v : Nat) (W : World) (hx : Zi W x neg v) (hy : Zi W y neg v) : Calls Try.prog 19 #[x, y] W fun e w' => e = .returned (.bool true) ∧ Below W.heap.size W w' := by
  have := same_any x y neg neg v v W hx hy
  rwa [decide_eq_true ⟨rfl, rfl⟩] at this
/-- at block g lies an integer that came in -/
structure Bl (W : World) (g : Nat) (B : Bool) (A : Option Addr) (n c : Nat) (l : List Nat) : Prop where
  at_ : At W g (.bool B) (.slice A n c)
  sl : Sl W W.heap.size A n c (ml l)
theorem Bl.next {W W' : World} {g : Nat} {B : Bool} {A : Option Addr} {n c : Nat} {l : List Nat} (h : Bl W g B A n c l) (hb : Below W.heap.size W W') : Bl W' g B A n c l := ⟨h.at_.next hb, h.sl.next hb⟩
theorem Bl.drew {W : World} {g : Nat} {B : Bool} {A : Option Addr} {n c : Nat} {l : List Nat} (h : Bl W g B A n c l) : Bl W.drew g B A n c l := ⟨h.at_.drew, h.sl.drew⟩
theorem Bl.cells {W : World} {g : Nat} {B : Bool} {A : Option Addr} {n c : Nat} {l : List Nat} (h : Bl W g B A n c l) : W.cell? ⟨g, 0, none⟩ = some (.bool B) ∧ W.cell? ⟨g, 1, none⟩ = some (.slice A n c) := ⟨h.at_.facts.1, h.at_.facts.2.1⟩
theorem two_in (w : World) (B0 : Bool) (A0 : Option Addr) (n0 c0 : Nat) (l0 : List Nat) (B1 : Bool) (A1 : Option Addr) (n1 c1 : Nat) (l1 : List Nat) (s0 : Sl w w.heap.size A0 n0 c0 (ml l0)) (s1 : Sl w w.heap.size A1 n1 c1 (ml l1)) :
    Bl ((w.alloc (bx (.bool B0) (.slice A0 n0 c0))).alloc (bx (.bool B1) (.slice A1 n1 c1))) w.heap.size B0 A0 n0 c0 l0 ∧ Bl ((w.alloc (bx (.bool B0) (.slice A0 n0 c0))).alloc (bx (.bool B1) (.slice A1 n1 c1))) (w.heap.size + 1) B1 A1 n1 c1 l1 ∧ Below w.heap.size w ((w.alloc (bx (.bool B0) (.slice A0 n0 c0))).alloc (bx (.bool B1) (.slice A1 n1 c1))) := by
  obtain ⟨HA, HR, HB, hS⟩ := boxed_ab w (.bool B0) (.slice A0 n0 c0) (.bool B1) (.slice A1 n1 c1)
  exact ⟨⟨HA, hS _ _ _ _ s0⟩, ⟨HR, hS _ _ _ _ s1⟩, HB⟩
end Go.Proofs.Ytebbpodcldndjaa
