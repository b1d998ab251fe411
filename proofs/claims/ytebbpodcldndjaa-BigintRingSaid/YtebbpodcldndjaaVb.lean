/- The chapter's examples: all true. -/
import Derived.Test.YtebbpodcldndjaaVa
import Derived.Test.YtebbpodcldndjaaW9
import Derived.Deep.RegionHeld3
import Derived.Deep.DrawnRows
import Derived.Deep.DeepCutAuto
set_option linter.unusedVariables false
namespace Go.Proofs.Ytebbpodcldndjaa
open Go.RowKit
attribute [local go_sem ↓] Go.wp_at_zero Go.wp_at_succ

/-- at block g lies an integer with a sign and a magnitude -/
structure Bx (W : World) (g : Nat) (neg : Bool) (v : Nat) (A : Option Addr) (n c : Nat) : Prop where
  at_ : At W g (.bool neg) (.slice A n c)
  sl : Sl W W.heap.size A n c (ml (enc v))
theorem Bx.next {W W' : World} {g : Nat} {neg : Bool} {v : Nat} {A : Option Addr} {n c : Nat} (h : Bx W g neg v A n c) (hb : Below W.heap.size W W') : Bx W' g neg v A n c := ⟨h.at_.next hb, h.sl.next hb⟩
theorem Bx.drew {W : World} {g : Nat} {neg : Bool} {v : Nat} {A : Option Addr} {n c : Nat} (h : Bx W g neg v A n c) : Bx W.drew g neg v A n c := ⟨h.at_.drew, h.sl.drew⟩
theorem Bx.new {w : World} {neg : Bool} {v : Nat} {A : Option Addr} {n c : Nat} (h : Sl w w.heap.size A n c (ml (enc v))) : Bx (w.alloc (.cells #[.bool neg, .slice A n c] 24)) w.heap.size neg v A n c :=
  ⟨At.new w _ _, h.next (below_new _ _)⟩
theorem sl_zi {W : World} {neg : Bool} {v : Nat} {A : Option Addr} {n c : Nat} (h : Sl W W.heap.size A n c (ml (enc v))) : Zi W (.agg #[.bool neg, .slice A n c]) neg v := by
  have hn : (enc v).length = n := by rw [← length_ml]; exact h.len
  exact ⟨A, c, by rw [hn], by rw [hn]; exact h⟩
theorem Bx.zi {W : World} {g : Nat} {neg : Bool} {v : Nat} {A : Option Addr} {n c : Nat} (h : Bx W g neg v A n c) : Zi W (.agg #[.bool neg, .slice A n c]) neg v := sl_zi h.sl
theorem Bx.cells {W : World} {g : Nat} {neg : Bool} {v : Nat} {A : Option Addr} {n c : Nat} (h : Bx W g neg v A n c) : W.cell? ⟨g, 0, none⟩ = some (.bool neg) ∧ W.cell? ⟨g, 1, none⟩ = some (.slice A n c) := ⟨h.at_.facts.1, h.at_.facts.2.1⟩
theorem giveI_out {neg : Bool} {v : Nat} {w w' : World} {e : Ending} (h : GiveI neg v w e w') : ∃ A n c, e = .returned (.agg #[.bool neg, .slice A n c]) ∧ Sl w' w'.heap.size A n c (ml (enc v)) ∧ Below w.heap.size w w' := by
  obtain ⟨x, rfl, ⟨A, c, rfl, hs⟩, hb⟩ := h
  exact ⟨A, _, c, rfl, hs, hb⟩
theorem giveE_out {neg : Bool} {v : Nat} {err : Int} {w w' : World} {e : Ending} (h : GiveE neg v err w e w') : ∃ A n c, e = .returned (.tuple #[.agg #[.bool neg, .slice A n c], .int .i64 err]) ∧ Sl w' w'.heap.size A n c (ml (enc v)) ∧ Below w.heap.size w w' := by
  obtain ⟨x, rfl, ⟨A, c, rfl, hs⟩, hb⟩ := h
  exact ⟨A, _, c, rfl, hs, hb⟩
theorem giveQ_out {neg neg' : Bool} {v v' : Nat} {err : Int} {w w' : World} {e : Ending} (h : GiveQ neg v neg' v' err w e w') :
    ∃ A n c A' n' c', e = .returned (.tuple #[.agg #[.bool neg, .slice A n c], .agg #[.bool neg', .slice A' n' c'], .int .i64 err]) ∧ Sl w' w'.heap.size A n c (ml (enc v)) ∧ Sl w' w'.heap.size A' n' c' (ml (enc v')) ∧ Below w.heap.size w w' := by
  obtain ⟨x, y, rfl, ⟨A, c, rfl, hs⟩, ⟨A', c', rfl, hs'⟩, hb⟩ := h
  exact ⟨A, _, c, A', _, c', rfl, hs, hs', hb⟩
/-- no numbers lie where an integer lies -/
theorem At.ne_nl {w : World} {g B : Nat} {x : Bool} {A1 : Option Addr} {n1 c1 : Nat} (h : At w g (.bool x) (.slice A1 n1 c1)) {n c b off : Nat} {l : List Nat} (hs : Sl w B (some ⟨b, off, none⟩) n c (nl l)) (hn : 0 < n) : b ≠ g := by
  rintro rfl
  obtain ⟨b', off', e, _, hc⟩ := hs.read hn
  cases e
  have hl : l.length = n := by rw [← length_nl]; exact hs.len
  have h0 : 0 < l.length := by omega
  have := hc 0 (.int .i64 ((l[0] : Nat) : Int)) (by simp [nl, h0])
  rw [cell_of_row w b _ _ _ _ h] at this
  match off, this with
  | 0, this => simp at this
  | 1, this => simp at this
  | k + 2, this => simp at this
theorem Sl.store_nl {w : World} {g B : Nat} {x : Bool} {A1 : Option Addr} {n1 c1 : Nat} (h : At w g (.bool x) (.slice A1 n1 c1)) {A : Option Addr} {n c : Nat} {l : List Nat} (hs : Sl w B A n c (nl l)) (u v : Value) :
    Sl ((w.setCell ⟨g, 0, none⟩ u).setCell ⟨g, 1, none⟩ v) B A n c (nl l) := by
  refine ⟨hs.len, hs.le, hs.max, hs.nil, fun hn => ?_⟩
  obtain ⟨b, off, rfl, hb, hc⟩ := hs.read hn
  have hne := h.ne_nl hs hn
  refine ⟨b, off, rfl, hb, fun j y hy => ?_⟩
  have e1 : ∀ (W : World) (k : Nat) (y : Value), (W.setCell ⟨g, k, none⟩ y).cell? ⟨b, off + j, none⟩ = W.cell? ⟨b, off + j, none⟩ := fun W k y =>
    World.cell?_setCell_other W _ _ y (by intro e; injection e with e1; exact hne e1.symm)
  rw [e1, e1]
  exact hc j y hy
/-- what stands behind the examples' division -/
structure Qd (W w : World) (g2 g5 g6 : Nat) (A2 A5 A6 A9 Ab Ac : Option Addr) (n2 c2 n5 c5 n6 c6 c9 nb cb nc cc : Nat) : Prop where
  b2 : Bx W g2 false (2 ^ 100) A2 n2 c2
  b5 : Bx W g5 false 6 A5 n5 c5
  b6 : Bx W g6 true 12 A6 n6 c6
  d9 : Sl W W.heap.size A9 2 c9 (nl [1, 100])
  q : Sl W W.heap.size Ab nb cb (ml (enc 4))
  r : Sl W W.heap.size Ac nc cc (ml (enc 1))
  bel : Below w.heap.size w W
theorem Qd.next {W : World} {w : World} {g2 g5 g6 : Nat} {A2 A5 A6 A9 Ab Ac : Option Addr} {n2 c2 n5 c5 n6 c6 c9 nb cb nc cc : Nat} {W' : World} (h : Qd W w g2 g5 g6 A2 A5 A6 A9 Ab Ac n2 c2 n5 c5 n6 c6 c9 nb cb nc cc) (hb : Below W.heap.size W W') : Qd W' w g2 g5 g6 A2 A5 A6 A9 Ab Ac n2 c2 n5 c5 n6 c6 c9 nb cb nc cc :=
  ⟨h.b2.next hb, h.b5.next hb, h.b6.next hb, h.d9.next hb, h.q.next hb, h.r.next hb, below_step h.bel hb⟩
theorem Bx.set {W : World} {g g' : Nat} {neg : Bool} {v : Nat} {A : Option Addr} {n c : Nat} (h : Bx W g neg v A n c) {x : Bool} {A1 : Option Addr} {n1 c1 : Nat} (z : At W g' (.bool x) (.slice A1 n1 c1)) (hg : g ≠ g') (u v' : Value) :
    Bx ((W.setCell ⟨g', 0, none⟩ u).setCell ⟨g', 1, none⟩ v') g neg v A n c := ⟨h.at_.other hg _ _, by simpa using Sl.store z h.sl _ _⟩
theorem Qd.set {W : World} {w : World} {g2 g5 g6 : Nat} {A2 A5 A6 A9 Ab Ac : Option Addr} {n2 c2 n5 c5 n6 c6 c9 nb cb nc cc : Nat} (h : Qd W w g2 g5 g6 A2 A5 A6 A9 Ab Ac n2 c2 n5 c5 n6 c6 c9 nb cb nc cc) {g : Nat} {x : Bool} {A1 : Option Addr} {n1 c1 : Nat} (z : At W g (.bool x) (.slice A1 n1 c1)) (hg : g2 < g ∧ g5 < g ∧ g6 < g) (hw : w.heap.size ≤ g) (u v : Value) :
    Qd ((W.setCell ⟨g, 0, none⟩ u).setCell ⟨g, 1, none⟩ v) w g2 g5 g6 A2 A5 A6 A9 Ab Ac n2 c2 n5 c5 n6 c6 c9 nb cb nc cc :=
  ⟨h.b2.set z (by omega) _ _, h.b5.set z (by omega) _ _, h.b6.set z (by omega) _ _, by simpa using Sl.store_nl z h.d9 _ _, by simpa using Sl.store z h.q _ _, by simpa using Sl.store z h.r _ _, below_two h.bel hw _ _⟩
/-- the examples' division, stored -/
def Rel (s12 s13 s14 : Value) (W w : World) (g2 g5 g6 : Nat) (A2 A5 A6 A9 : Option Addr) (n2 c2 n5 c5 n6 c6 c9 : Nat) : Prop :=
  ∃ (g12 g13 nb cb nc cc : Nat) (Ab Ac : Option Addr), s12 = .pointer (some ⟨g12, 0, none⟩) ∧ s13 = .pointer (some ⟨g13, 0, none⟩) ∧ s14 = .int .i64 0 ∧ At W g12 (.bool true) (.slice Ab nb cb) ∧ At W g13 (.bool false) (.slice Ac nc cc) ∧ Qd W w g2 g5 g6 A2 A5 A6 A9 Ab Ac n2 c2 n5 c5 n6 c6 c9 nb cb nc cc
abbrev Zv : Obj := .cells #[.bool false, .slice none 0 0] 24
theorem fin_a {W : World} {w : World} {g2 g5 g6 : Nat} {A2 A5 A6 A9 Ab Ac : Option Addr} {n2 c2 n5 c5 n6 c6 c9 nb cb nc cc : Nat} {g12 g13 : Nat} (h : Qd W w g2 g5 g6 A2 A5 A6 A9 Ab Ac n2 c2 n5 c5 n6 c6 c9 nb cb nc cc) (z12 : At W g12 (.bool false) (.slice none 0 0)) (z13 : At W g13 (.bool false) (.slice none 0 0)) (hne : g12 ≠ g13) (h12 : g2 < g12 ∧ g5 < g12 ∧ g6 < g12) (h13 : g2 < g13 ∧ g5 < g13 ∧ g6 < g13) (w12 : w.heap.size ≤ g12) (w13 : w.heap.size ≤ g13) :
    Rel (.pointer (some ⟨g12, 0, none⟩)) (.pointer (some ⟨g13, 0, none⟩)) (.int .i64 0) ((((W.setCell ⟨g12, 0, none⟩ (.bool true)).setCell ⟨g12, 1, none⟩ (.slice Ab nb cb)).setCell ⟨g13, 0, none⟩ (.bool false)).setCell ⟨g13, 1, none⟩ (.slice Ac nc cc)) w g2 g5 g6 A2 A5 A6 A9 n2 c2 n5 c5 n6 c6 c9 := by
  have z := z13.other (fun e => hne e.symm) (.bool true) (.slice Ab nb cb)
  exact ⟨g12, g13, nb, cb, nc, cc, Ab, Ac, rfl, rfl, rfl, (z12.set _ _).other hne _ _, z.set _ _, (h.set z12 h12 w12 _ _).set z h13 w13 _ _⟩
theorem fin_b {W : World} {w : World} {g2 g5 g6 : Nat} {A2 A5 A6 A9 Ab Ac : Option Addr} {n2 c2 n5 c5 n6 c6 c9 nb cb nc cc : Nat} {g12 : Nat} (h : Qd W w g2 g5 g6 A2 A5 A6 A9 Ab Ac n2 c2 n5 c5 n6 c6 c9 nb cb nc cc) (z12 : At W g12 (.bool false) (.slice none 0 0)) (h12 : g2 < g12 ∧ g5 < g12 ∧ g6 < g12) (w12 : w.heap.size ≤ g12) :
    Rel (.pointer (some ⟨g12, 0, none⟩)) (.pointer (some ⟨W.heap.size, 0, none⟩)) (.int .i64 0) (((W.setCell ⟨g12, 0, none⟩ (.bool true)).setCell ⟨g12, 1, none⟩ (.slice Ab nb cb)).alloc (.cells #[.bool false, .slice Ac nc cc] 24)) w g2 g5 g6 A2 A5 A6 A9 n2 c2 n5 c5 n6 c6 c9 := by
  have hb := below_new ((W.setCell ⟨g12, 0, none⟩ (.bool true)).setCell ⟨g12, 1, none⟩ (.slice Ab nb cb)) (.cells #[.bool false, .slice Ac nc cc] 24)
  have h13 := At.new ((W.setCell ⟨g12, 0, none⟩ (.bool true)).setCell ⟨g12, 1, none⟩ (.slice Ab nb cb)) (.bool false) (.slice Ac nc cc)
  exact ⟨g12, W.heap.size, nb, cb, nc, cc, Ab, Ac, rfl, rfl, rfl, (z12.set _ _).next hb, by simpa using h13, (h.set z12 h12 w12 _ _).next hb⟩
theorem fin_b' {W : World} {w : World} {g2 g5 g6 : Nat} {A2 A5 A6 A9 Ab Ac : Option Addr} {n2 c2 n5 c5 n6 c6 c9 nb cb nc cc : Nat} {g13 : Nat} (h : Qd W w g2 g5 g6 A2 A5 A6 A9 Ab Ac n2 c2 n5 c5 n6 c6 c9 nb cb nc cc) (z13 : At W g13 (.bool false) (.slice none 0 0)) (h13 : g2 < g13 ∧ g5 < g13 ∧ g6 < g13) (w13 : w.heap.size ≤ g13) :
    Rel (.pointer (some ⟨W.heap.size, 0, none⟩)) (.pointer (some ⟨g13, 0, none⟩)) (.int .i64 0) (((W.setCell ⟨g13, 0, none⟩ (.bool false)).setCell ⟨g13, 1, none⟩ (.slice Ac nc cc)).alloc (.cells #[.bool true, .slice Ab nb cb] 24)) w g2 g5 g6 A2 A5 A6 A9 n2 c2 n5 c5 n6 c6 c9 := by
  have hb := below_new ((W.setCell ⟨g13, 0, none⟩ (.bool false)).setCell ⟨g13, 1, none⟩ (.slice Ac nc cc)) (.cells #[.bool true, .slice Ab nb cb] 24)
  have h12 := At.new ((W.setCell ⟨g13, 0, none⟩ (.bool false)).setCell ⟨g13, 1, none⟩ (.slice Ac nc cc)) (.bool true) (.slice Ab nb cb)
  exact ⟨W.heap.size, g13, nb, cb, nc, cc, Ab, Ac, rfl, rfl, rfl, by simpa using h12, (z13.set _ _).next hb, (h.set z13 h13 w13 _ _).next hb⟩
theorem fin_c {W : World} {w : World} {g2 g5 g6 : Nat} {A2 A5 A6 A9 Ab Ac : Option Addr} {n2 c2 n5 c5 n6 c6 c9 nb cb nc cc : Nat} (h : Qd W w g2 g5 g6 A2 A5 A6 A9 Ab Ac n2 c2 n5 c5 n6 c6 c9 nb cb nc cc) :
    Rel (.pointer (some ⟨W.heap.size, 0, none⟩)) (.pointer (some ⟨W.heap.size + 1, 0, none⟩)) (.int .i64 0) ((W.alloc (.cells #[.bool true, .slice Ab nb cb] 24)).alloc (.cells #[.bool false, .slice Ac nc cc] 24)) w g2 g5 g6 A2 A5 A6 A9 n2 c2 n5 c5 n6 c6 c9 := by
  obtain ⟨h1, h2, hb, _⟩ := boxed_ab W (.bool true) (.slice Ab nb cb) (.bool false) (.slice Ac nc cc)
  exact ⟨W.heap.size, W.heap.size + 1, nb, cb, nc, cc, Ab, Ac, rfl, rfl, rfl, h1, h2, h.next hb⟩
theorem fin_c' {W : World} {w : World} {g2 g5 g6 : Nat} {A2 A5 A6 A9 Ab Ac : Option Addr} {n2 c2 n5 c5 n6 c6 c9 nb cb nc cc : Nat} (h : Qd W w g2 g5 g6 A2 A5 A6 A9 Ab Ac n2 c2 n5 c5 n6 c6 c9 nb cb nc cc) :
    Rel (.pointer (some ⟨W.heap.size + 1, 0, none⟩)) (.pointer (some ⟨W.heap.size, 0, none⟩)) (.int .i64 0) ((W.alloc (.cells #[.bool false, .slice Ac nc cc] 24)).alloc (.cells #[.bool true, .slice Ab nb cb] 24)) w g2 g5 g6 A2 A5 A6 A9 n2 c2 n5 c5 n6 c6 c9 := by
  obtain ⟨h1, h2, hb, _⟩ := boxed_ab W (.bool false) (.slice Ac nc cc) (.bool true) (.slice Ab nb cb)
  exact ⟨W.heap.size + 1, W.heap.size, nb, cb, nc, cc, Ab, Ac, rfl, rfl, rfl, h2, h1, h.next hb⟩
theorem keepA {W : World} {g : Nat} {x y : Value} (h : W.cell? ⟨g, 0, none⟩ = some x ∧ W.cell? ⟨g, 1, none⟩ = some y) (O : Obj) : (W.alloc O).cell? ⟨g, 0, none⟩ = some x ∧ (W.alloc O).cell? ⟨g, 1, none⟩ = some y := by
  have hlt := World.block_lt_of_cell? W _ h.1
  exact ⟨(World.cell?_alloc_lt W _ _ hlt).trans h.1, (World.cell?_alloc_lt W _ ⟨g, 1, none⟩ (show (⟨g, 1, none⟩ : Addr).block < W.heap.size from hlt)).trans h.2⟩
theorem keep2 {W : World} {g g' : Nat} {x y : Value} (h : W.cell? ⟨g, 0, none⟩ = some x ∧ W.cell? ⟨g, 1, none⟩ = some y) (hne : g ≠ g') (u v : Value) :
    ((W.setCell ⟨g', 0, none⟩ u).setCell ⟨g', 1, none⟩ v).cell? ⟨g, 0, none⟩ = some x ∧ ((W.setCell ⟨g', 0, none⟩ u).setCell ⟨g', 1, none⟩ v).cell? ⟨g, 1, none⟩ = some y := by
  have e1 : ∀ (W : World) (k j : Nat) (u : Value), (W.setCell ⟨g', k, none⟩ u).cell? ⟨g, j, none⟩ = W.cell? ⟨g, j, none⟩ := fun W k j u =>
    World.cell?_setCell_other W _ _ u (by intro e; injection e with e1; first | exact hne e1 | exact hne e1.symm)
  exact ⟨by rw [e1, e1]; exact h.1, by rw [e1, e1]; exact h.2⟩
theorem keepD {W : World} {g : Nat} {x y : Value} (h : W.cell? ⟨g, 0, none⟩ = some x ∧ W.cell? ⟨g, 1, none⟩ = some y) : W.drew.cell? ⟨g, 0, none⟩ = some x ∧ W.drew.cell? ⟨g, 1, none⟩ = some y := h
theorem below_undrew {W w' : World} (h : Below W.drew.heap.size W.drew w') : Below W.heap.size W w' := ⟨h.os, h.tape, h.output, h.size, h.block⟩
theorem ex_from (W : World) : Calls Try.prog 35 #[.int .i64 2] W (GiveI false 2 W) := fromInt_any 2 W (by omega) (by omega)
theorem ex_from12 (W : World) : Calls Try.prog 35 #[.int .i64 12] W (GiveI false 12 W) := fromInt_any 12 W (by omega) (by omega)
theorem ex_fromm18 (W : World) : Calls Try.prog 35 #[.int .i64 (-18)] W (GiveI true 18 W) := fromInt_any (-18) W (by omega) (by omega)
theorem ex_from1000 (W : World) : Calls Try.prog 35 #[.int .i64 1000] W (GiveI false 1000 W) := fromInt_any 1000 W (by omega) (by omega)
theorem ex_fromm7 (W : World) : Calls Try.prog 35 #[.int .i64 (-7)] W (GiveI true 7 W) := fromInt_any (-7) W (by omega) (by omega)
theorem ex_fromm12 (W : World) : Calls Try.prog 35 #[.int .i64 (-12)] W (GiveI true 12 W) := fromInt_any (-12) W (by omega) (by omega)

theorem two_cells {W : World} {B b o c : Nat} (h : Sl W B (some ⟨b, o, none⟩) 2 c (nl [1, 100])) : W.cell? ⟨b, o, none⟩ = some (.int .i64 1) ∧ W.cell? ⟨b, o + 1, none⟩ = some (.int .i64 100) := by
  obtain ⟨b', o', e, _, hc⟩ := h.read (by omega)
  cases e
  exact ⟨hc 0 _ rfl, hc 1 _ rfl⟩
/-- what stands while the examples end -/
structure Ez (W w : World) (g2 g5 g6 g12 g13 b9 o9 : Nat) (A2 A5 A6 Ab Ac : Option Addr) (n2 c2 n5 c5 n6 c6 c9 nb cb nc cc : Nat) : Prop where
  b2 : Bx W g2 false (2 ^ 100) A2 n2 c2
  b5 : Bx W g5 false 6 A5 n5 c5
  b6 : Bx W g6 true 12 A6 n6 c6
  b12 : Bx W g12 true 4 Ab nb cb
  b13 : Bx W g13 false 1 Ac nc cc
  d9 : Sl W W.heap.size (some ⟨b9, o9, none⟩) 2 c9 (nl [1, 100])
  bel : Below w.heap.size w W
theorem Ez.next {W w : World} {g2 g5 g6 g12 g13 b9 o9 : Nat} {A2 A5 A6 Ab Ac : Option Addr} {n2 c2 n5 c5 n6 c6 c9 nb cb nc cc : Nat} {W' : World} (h : Ez W w g2 g5 g6 g12 g13 b9 o9 A2 A5 A6 Ab Ac n2 c2 n5 c5 n6 c6 c9 nb cb nc cc) (hb : Below W.heap.size W W') : Ez W' w g2 g5 g6 g12 g13 b9 o9 A2 A5 A6 Ab Ac n2 c2 n5 c5 n6 c6 c9 nb cb nc cc := ⟨h.b2.next hb, h.b5.next hb, h.b6.next hb, h.b12.next hb, h.b13.next hb, h.d9.next hb, below_step h.bel hb⟩
theorem Ez.drew {W w : World} {g2 g5 g6 g12 g13 b9 o9 : Nat} {A2 A5 A6 Ab Ac : Option Addr} {n2 c2 n5 c5 n6 c6 c9 nb cb nc cc : Nat} (h : Ez W w g2 g5 g6 g12 g13 b9 o9 A2 A5 A6 Ab Ac n2 c2 n5 c5 n6 c6 c9 nb cb nc cc) : Ez W.drew w g2 g5 g6 g12 g13 b9 o9 A2 A5 A6 Ab Ac n2 c2 n5 c5 n6 c6 c9 nb cb nc cc := ⟨h.b2.drew, h.b5.drew, h.b6.drew, h.b12.drew, h.b13.drew, h.d9.drew, h.bel.drew⟩
theorem Ez.cells {W w : World} {g2 g5 g6 g12 g13 b9 o9 : Nat} {A2 A5 A6 Ab Ac : Option Addr} {n2 c2 n5 c5 n6 c6 c9 nb cb nc cc : Nat} (h : Ez W w g2 g5 g6 g12 g13 b9 o9 A2 A5 A6 Ab Ac n2 c2 n5 c5 n6 c6 c9 nb cb nc cc) : W.cell? ⟨g2, 0, none⟩ = some (.bool false) ∧ W.cell? ⟨g2, 1, none⟩ = some (.slice A2 n2 c2) ∧ W.cell? ⟨g5, 0, none⟩ = some (.bool false) ∧ W.cell? ⟨g5, 1, none⟩ = some (.slice A5 n5 c5) ∧ W.cell? ⟨g6, 0, none⟩ = some (.bool true) ∧ W.cell? ⟨g6, 1, none⟩ = some (.slice A6 n6 c6) ∧ W.cell? ⟨g12, 0, none⟩ = some (.bool true) ∧ W.cell? ⟨g12, 1, none⟩ = some (.slice Ab nb cb) ∧ W.cell? ⟨g13, 0, none⟩ = some (.bool false) ∧ W.cell? ⟨g13, 1, none⟩ = some (.slice Ac nc cc) ∧ W.cell? ⟨b9, o9, none⟩ = some (.int .i64 1) ∧ W.cell? ⟨b9, o9 + 1, none⟩ = some (.int .i64 100) :=
  ⟨h.b2.cells.1, h.b2.cells.2, h.b5.cells.1, h.b5.cells.2, h.b6.cells.1, h.b6.cells.2, h.b12.cells.1, h.b12.cells.2, h.b13.cells.1, h.b13.cells.2, (two_cells h.d9).1, (two_cells h.d9).2⟩
theorem ex_same (x y : Value) (W : World) (hx : Zi W x true 12) (hy : Zi W y true 12) : Calls Try.prog 19 #[x, y] W fun e w' => e = .returned (.bool true) ∧ Below W.heap.size W w' := same_any x y true true 12 12 W hx hy
theorem ex_f100 (x : Value) (W : World) (hx : Zi W x false (2 ^ 100)) : Calls Try.prog 41 #[x] W fun e w' => e = .returned (.string { data := #[49, 50, 54, 55, 54, 53, 48, 54, 48, 48, 50, 50, 56, 50, 50, 57, 52, 48, 49, 52, 57, 54, 55, 48, 51, 50, 48, 53, 51, 55, 54] }) ∧ Below W.heap.size W w' := ex_fmt x false (2 ^ 100) _ W hx ⟨(fun h => by cases h), p100_fits⟩ fmt_p100
theorem ex_f6 (x : Value) (W : World) (hx : Zi W x false 6) : Calls Try.prog 41 #[x] W fun e w' => e = .returned (.string { data := #[54] }) ∧ Below W.heap.size W w' := ex_fmt x false 6 _ W hx (vd_of _ _ (by omega) (by omega)) fmt_6
theorem ex_fm4 (x : Value) (W : World) (hx : Zi W x true 4) : Calls Try.prog 41 #[x] W fun e w' => e = .returned (.string { data := #[45, 52] }) ∧ Below W.heap.size W w' := ex_fmt x true 4 _ W hx (vd_of _ _ (by omega) (by omega)) fmt_m4
theorem ex_f1 (x : Value) (W : World) (hx : Zi W x false 1) : Calls Try.prog 41 #[x] W fun e w' => e = .returned (.string { data := #[49] }) ∧ Below W.heap.size W w' := ex_fmt x false 1 _ W hx (vd_of _ _ (by omega) (by omega)) fmt_1

set_option maxRecDepth 100000 in
set_option maxHeartbeats 4000000 in
theorem examples_any (w : World) : Calls Try.prog 24 #[] w fun e w' => e = .returned (.bool true) ∧ Below w.heap.size w w' := by
  go_enter Try.func24, Try.ntmps24
  go_wp2_with fail
  refine (ex_from w).mono ?_
  intro e w1 h
  obtain ⟨A1, n1, c1, rfl, hs1, HB⟩ := giveI_out h
  have B1 := Bx.new (neg := false) hs1
  replace HB := below_step HB (below_new w1 (.cells #[.bool false, .slice A1 n1 c1] 24))
  clear h hs1
  go_wp2_with fail
  refine (ex_pow _ _ B1.zi).mono ?_
  intro e w2 h
  obtain ⟨A2, n2, c2, rfl, hs2, hb2⟩ := giveE_out h
  have B2 := Bx.new (neg := false) hs2
  have hn2 := below_step hb2 (below_new w2 (.cells #[.bool false, .slice A2 n2 c2] 24))
  replace B1 := B1.next hn2
  replace HB := below_step HB hn2
  clear h hs2 hb2 hn2
  go_wp2_with fail
  refine (ex_from12 _).mono ?_
  intro e w3 h
  obtain ⟨A3, n3, c3, rfl, hs3, hb3⟩ := giveI_out h
  replace B1 := B1.next hb3
  replace B2 := B2.next hb3
  replace HB := below_step HB hb3
  clear h hb3
  go_wp2_with fail
  refine (ex_fromm18 _).mono ?_
  intro e w4 h
  obtain ⟨A4, n4, c4, rfl, hs4, hb4⟩ := giveI_out h
  replace B1 := B1.next hb4
  replace B2 := B2.next hb4
  replace HB := below_step HB hb4
  replace hs3 := hs3.next hb4
  clear h hb4
  go_wp2_with fail
  refine (ex_gcd _ _ _ (sl_zi hs3) (sl_zi hs4)).mono ?_
  intro e w5 h
  obtain ⟨A5, n5, c5, rfl, hs5, hb5⟩ := giveE_out h
  have B5 := Bx.new (neg := false) hs5
  have hn5 := below_step hb5 (below_new w5 (.cells #[.bool false, .slice A5 n5 c5] 24))
  replace B1 := B1.next hn5
  replace B2 := B2.next hn5
  replace HB := below_step HB hn5
  clear h hs3 hs4 hs5 hb5 hn5
  go_wp2_with fail
  refine (ex_parse1 _).mono ?_
  intro e w6 h
  obtain ⟨A6, n6, c6, rfl, hs6, hb6⟩ := giveE_out h
  have B6 := Bx.new (neg := true) hs6
  have hn6 := below_step hb6 (below_new w6 (.cells #[.bool true, .slice A6 n6 c6] 24))
  replace B1 := B1.next hn6
  replace B2 := B2.next hn6
  replace B5 := B5.next hn6
  replace HB := below_step HB hn6
  clear h hs6 hb6 hn6
  go_wp2_with fail
  refine (ex_parse2 _).mono ?_
  intro e w7 h
  obtain ⟨A7, n7, c7, rfl, hs7, hb7⟩ := giveE_out h
  have hn7 := below_step hb7 (below_new w7 (.cells #[.bool false, .slice A7 n7 c7] 24))
  replace B1 := B1.next hn7
  replace B2 := B2.next hn7
  replace B5 := B5.next hn7
  replace B6 := B6.next hn7
  replace HB := below_step HB hn7
  clear h hs7 hb7 hn7
  go_wp2_with fail
  refine (ex_from1000 _).mono ?_
  intro e w8 h
  obtain ⟨A8, n8, c8, rfl, hs8, hb8⟩ := giveI_out h
  replace B1 := B1.next hb8
  replace B2 := B2.next hb8
  replace B5 := B5.next hb8
  replace B6 := B6.next hb8
  replace HB := below_step HB hb8
  clear h hb8
  go_wp2_with fail
  refine (ex_digits _ _ (sl_zi hs8)).mono ?_
  intro e w9 h
  obtain ⟨A9, c9, rfl, hs9, hb9⟩ := h
  replace B1 := B1.next hb9
  replace B2 := B2.next hb9
  replace B5 := B5.next hb9
  replace B6 := B6.next hb9
  replace HB := below_step HB hb9
  clear hb9 hs8
  have hV : w2.heap.size < w9.heap.size ∧ w5.heap.size < w9.heap.size ∧ w6.heap.size < w9.heap.size := ⟨B2.at_.lt, B5.at_.lt, B6.at_.lt⟩
  have hwV : w.heap.size ≤ w9.heap.size := HB.size
  have hk0 : w1.heap.size < w9.heap.size := B1.at_.lt
  obtain ⟨k1, k2⟩ := B1.cells
  go_upto_region 7 with fail
  go_cut [12, 13, 14] (fun s12 s13 s14 wx => Rel s12 s13 s14 wx w w2.heap.size w5.heap.size w6.heap.size A2 A5 A6 A9 n2 c2 n5 c5 n6 c6 c9)
  case first =>
    go_region_held3 (fun w' => w'.cell? ⟨w1.heap.size, 0, none⟩ = some (.bool false) ∧ w'.cell? ⟨w1.heap.size, 1, none⟩ = some (.slice A1 n1 c1))
      (first | (with_reducible exact ⟨k1, k2⟩) | (with_reducible exact keepD ⟨k1, k2⟩) | (with_reducible exact keepD (keepA ⟨k1, k2⟩ _)) | (with_reducible exact keepD (keepA (keepA ⟨k1, k2⟩ _) _)) | (with_reducible exact keepA ⟨k1, k2⟩ _) | (with_reducible exact keepA (keepA ⟨k1, k2⟩ _) _) | (with_reducible exact keep2 ⟨k1, k2⟩ (by omega) _ _) | (with_reducible exact keepA (keep2 ⟨k1, k2⟩ (by omega) _ _) _) | (with_reducible exact keep2 (keep2 ⟨k1, k2⟩ (by omega) _ _) (by omega) _ _) | (with_reducible exact keep2 (keepA ⟨k1, k2⟩ _) (by omega) _ _) | (with_reducible exact keep2 (keepA (keepA ⟨k1, k2⟩ _) _) (by omega) _ _) | (with_reducible exact keepA (keepA (keep2 ⟨k1, k2⟩ (by omega) _ _) _) _))
      (first
      | (go_at_call 35; (with_reducible refine (ex_fromm7 _).mono ?_); intro e wa h; obtain ⟨Aa, na, ca, rfl, hsa, hba⟩ := giveI_out h; clear h k1 k2
         (first
          | (have hVa : Below w9.heap.size w9 wa := by with_reducible exact below_undrew hba)
          | (have hVa : Below w9.heap.size w9 wa := (by with_reducible exact below_step (below_new _ _) (below_undrew hba)); have z1 : At wa w9.heap.size (.bool false) (.slice none 0 0) := (At.new w9 (.bool false) (.slice none 0 0)).next (below_undrew hba))
          | (have hq := boxed_ab w9 (.bool false) (.slice none 0 0) (.bool false) (.slice none 0 0); have hVa : Below w9.heap.size w9 wa := (by with_reducible exact below_step hq.2.2.1 (below_undrew hba)); have z1 : At wa w9.heap.size (.bool false) (.slice none 0 0) := hq.1.next (below_undrew hba); have z2 : At wa (w9.heap.size + 1) (.bool false) (.slice none 0 0) := hq.2.1.next (below_undrew hba); clear hq))
         clear hba
         have B1a := B1.next hVa; have B2a := B2.next hVa; have B5a := B5.next hVa; have B6a := B6.next hVa; have HBa := below_step HB hVa; have hs9a := hs9.next hVa
         have e1 := hVa.size
         (try (have lz1 := z1.lt)); (try (have lz2 := z2.lt))
         have hk1 := B1a.at_.lt
         clear B1 B2 B5 B6 HB hs9 hVa; obtain ⟨k1, k2⟩ := B1a.cells)
      | (go_at_call 27
         (with_reducible refine (ex_div _ _ _ (by first | exact sl_zi hsa | exact sl_zi (hsa.next (below_new _ _)) | exact sl_zi ((hsa.next (below_new _ _)).next (below_new _ _))) (by first | exact B1a.zi | exact (B1a.next (below_new _ _)).zi | exact ((B1a.next (below_new _ _)).next (below_new _ _)).zi)).mono ?_)
         intro e wb h; obtain ⟨Ab, nb, cb, Ac, nc, cc, rfl, hsb, hsc, hbb⟩ := giveQ_out h; clear h k1 k2
         (first
          | (have hab : Below wa.heap.size wa wb := by with_reducible exact hbb)
          | (have hab : Below wa.heap.size wa wb := (by with_reducible exact below_step (below_new _ _) hbb); have y1 : At wb wa.heap.size (.bool false) (.slice none 0 0) := (At.new wa (.bool false) (.slice none 0 0)).next hbb)
          | (have hq := boxed_ab wa (.bool false) (.slice none 0 0) (.bool false) (.slice none 0 0); have hab : Below wa.heap.size wa wb := (by with_reducible exact below_step hq.2.2.1 hbb); have y1 : At wb wa.heap.size (.bool false) (.slice none 0 0) := hq.1.next hbb; have y2 : At wb (wa.heap.size + 1) (.bool false) (.slice none 0 0) := hq.2.1.next hbb; clear hq))
         clear hbb
         (try (replace z1 := z1.next hab)); (try (replace z2 := z2.next hab))
         have HQ : Qd wb w w2.heap.size w5.heap.size w6.heap.size A2 A5 A6 A9 Ab Ac n2 c2 n5 c5 n6 c6 c9 nb cb nc cc := ⟨B2a.next hab, B5a.next hab, B6a.next hab, hs9a.next hab, hsb, hsc, below_step HBa hab⟩
         have e2 := hab.size
         have hk2 := (B1a.next hab).at_.lt
         obtain ⟨k1, k2⟩ := (B1a.next hab).cells
         (try (obtain ⟨f1, f2, f3, f4⟩ := z1.facts)); (try (obtain ⟨f5, f6, f7, f8⟩ := z2.facts)); (try (obtain ⟨d1, d2, d3, d4⟩ := y1.facts)); (try (obtain ⟨d5, d6, d7, d8⟩ := y2.facts))
         (try (have mz1 := z1.lt)); (try (have mz2 := z2.lt)); (try (have my1 := y1.lt)); (try (have my2 := y2.lt))
         clear B1a B2a B5a B6a HBa hs9a hab hsa hsb hsc))
    all_goals
      go_wp2_with fail
      go_meet
      first
        | with_reducible exact fin_a HQ z1 z2 (by omega) (by omega) (by omega) (by omega) (by omega)
        | with_reducible exact fin_a HQ z2 z1 (by omega) (by omega) (by omega) (by omega) (by omega)
        | with_reducible exact fin_a HQ z1 y1 (by omega) (by omega) (by omega) (by omega) (by omega)
        | with_reducible exact fin_a HQ y1 z1 (by omega) (by omega) (by omega) (by omega) (by omega)
        | with_reducible exact fin_a HQ y1 y2 (by omega) (by omega) (by omega) (by omega) (by omega)
        | with_reducible exact fin_a HQ y2 y1 (by omega) (by omega) (by omega) (by omega) (by omega)
        | with_reducible exact fin_b HQ z1 (by omega) (by omega)
        | with_reducible exact fin_b HQ y1 (by omega) (by omega)
        | with_reducible exact fin_b' HQ z1 (by omega) (by omega)
        | with_reducible exact fin_b' HQ y1 (by omega) (by omega)
        | with_reducible exact fin_c HQ
        | with_reducible exact fin_c' HQ
  case rest =>
    obtain ⟨g12, g13, nb, cb, nc, cc, Ab, Ac, rfl, rfl, rfl, h12, h13, HQ⟩ := hcut
    obtain ⟨b9, o9, rfl, _, _⟩ := HQ.d9.read (by omega)
    have HE0 : Ez wc w w2.heap.size w5.heap.size w6.heap.size g12 g13 b9 o9 A2 A5 A6 Ab Ac n2 c2 n5 c5 n6 c6 c9 nb cb nc cc := ⟨HQ.b2, HQ.b5, HQ.b6, ⟨h12, HQ.q⟩, ⟨h13, HQ.r⟩, HQ.d9, HQ.bel⟩
    have HE1 := HE0.drew
    clear HQ h12 h13 HE0 k1 k2 B1 B2 B5 B6 HB hs9 hV hwV hk0
    obtain ⟨k1, k2, k3, k4, k5, k6, k7, k8, k9, k10, k11, k12⟩ := HE1.cells
    go_wp2
    go_region_held3 (fun w' => w'.cell? ⟨w2.heap.size, 0, none⟩ = some (.bool false) ∧ w'.cell? ⟨w2.heap.size, 1, none⟩ = some (.slice A2 n2 c2) ∧ w'.cell? ⟨w5.heap.size, 0, none⟩ = some (.bool false) ∧ w'.cell? ⟨w5.heap.size, 1, none⟩ = some (.slice A5 n5 c5) ∧ w'.cell? ⟨w6.heap.size, 0, none⟩ = some (.bool true) ∧ w'.cell? ⟨w6.heap.size, 1, none⟩ = some (.slice A6 n6 c6) ∧ w'.cell? ⟨g12, 0, none⟩ = some (.bool true) ∧ w'.cell? ⟨g12, 1, none⟩ = some (.slice Ab nb cb) ∧ w'.cell? ⟨g13, 0, none⟩ = some (.bool false) ∧ w'.cell? ⟨g13, 1, none⟩ = some (.slice Ac nc cc) ∧ w'.cell? ⟨b9, o9, none⟩ = some (.int .i64 1) ∧ w'.cell? ⟨b9, o9 + 1, none⟩ = some (.int .i64 100))
      (first | (with_reducible exact HE1.cells) | (with_reducible exact HE2.cells) | (with_reducible exact HE3.cells) | (with_reducible exact HE4.cells) | (with_reducible exact HE5.cells) | (with_reducible exact HE6.cells) | (with_reducible exact HE7.cells))
    (first
    | (go_at_call 41; (with_reducible refine (ex_f100 _ _ HE1.b2.zi).mono ?_); rintro e wd ⟨rfl, hbd⟩; have HE2 := HE1.next hbd; clear HE1 hbd k1 k2 k3 k4 k5 k6 k7 k8 k9 k10 k11 k12; obtain ⟨k1, k2, k3, k4, k5, k6, k7, k8, k9, k10, k11, k12⟩ := HE2.cells)
    | (go_at_call 41; (with_reducible refine (ex_f6 _ _ HE2.b5.zi).mono ?_); rintro e wd ⟨rfl, hbd⟩; have HE3 := HE2.next hbd; clear HE2 hbd k1 k2 k3 k4 k5 k6 k7 k8 k9 k10 k11 k12; obtain ⟨k1, k2, k3, k4, k5, k6, k7, k8, k9, k10, k11, k12⟩ := HE3.cells)
    | (go_at_call 35; (with_reducible refine (ex_fromm12 _).mono ?_); intro e wd hm; obtain ⟨Am, nm, cm, rfl, hsm, hbd⟩ := giveI_out hm; clear hm; have HE4 := HE3.next hbd; clear HE3 hbd k1 k2 k3 k4 k5 k6 k7 k8 k9 k10 k11 k12; obtain ⟨k1, k2, k3, k4, k5, k6, k7, k8, k9, k10, k11, k12⟩ := HE4.cells)
    | (go_at_call 19; (with_reducible refine (ex_same _ _ _ HE4.b6.zi (sl_zi hsm)).mono ?_); rintro e wd ⟨rfl, hbd⟩; clear hsm; have HE5 := HE4.next hbd; clear HE4 hbd k1 k2 k3 k4 k5 k6 k7 k8 k9 k10 k11 k12; obtain ⟨k1, k2, k3, k4, k5, k6, k7, k8, k9, k10, k11, k12⟩ := HE5.cells)
    | (go_at_call 41; (with_reducible refine (ex_fm4 _ _ HE5.b12.zi).mono ?_); rintro e wd ⟨rfl, hbd⟩; have HE6 := HE5.next hbd; clear HE5 hbd k1 k2 k3 k4 k5 k6 k7 k8 k9 k10 k11 k12; obtain ⟨k1, k2, k3, k4, k5, k6, k7, k8, k9, k10, k11, k12⟩ := HE6.cells)
    | (go_at_call 41; (with_reducible refine (ex_f1 _ _ HE6.b13.zi).mono ?_); rintro e wd ⟨rfl, hbd⟩; have HE7 := HE6.next hbd; clear HE6 hbd k1 k2 k3 k4 k5 k6 k7 k8 k9 k10 k11 k12; obtain ⟨k1, k2, k3, k4, k5, k6, k7, k8, k9, k10, k11, k12⟩ := HE7.cells)
    )
    all_goals
      go_wp2
      go_ret
      exact ⟨rfl, HE7.bel⟩
end Go.Proofs.Ytebbpodcldndjaa
