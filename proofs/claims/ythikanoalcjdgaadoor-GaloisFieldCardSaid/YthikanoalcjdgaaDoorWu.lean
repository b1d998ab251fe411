/- galois: law GaloisField, the walk. -/
import Derived.Test.YthikanoalcjdgaaDoorWt
set_option linter.unusedVariables false
namespace Go.Proofs.YthikanoalcjdgaaDoor
open Go.RowKit

/-- what the law has in memory -/
structure Fz (W V : World) (g0 g1 g2 : Nat) (c n q x y z : Int) : Prop where
  F : Fc V g0 c n q
  a0 : V.cell? ⟨g1, 0, none⟩ = some (.int .i64 x)
  a1 : V.cell? ⟨g1, 1, none⟩ = some (.int .i64 y)
  b0 : V.cell? ⟨g2, 0, none⟩ = some (.int .i64 z)
  l1 : g1 < V.heap.size
  l2 : g2 < V.heap.size
  hT : Tb V
  hB : Below W.heap.size W V
theorem Fz.next {W V V' : World} {g0 g1 g2 : Nat} {c n q x y z : Int} (h : Fz W V g0 g1 g2 c n q x y z) (hb : Below V.heap.size V V') : Fz W V' g0 g1 g2 c n q x y z :=
  ⟨h.F.next hb, (hb.cell (p := ⟨g1, 0, none⟩) h.l1).trans h.a0, (hb.cell (p := ⟨g1, 1, none⟩) h.l1).trans h.a1, (hb.cell (p := ⟨g2, 0, none⟩) h.l2).trans h.b0, Nat.lt_of_lt_of_le h.l1 hb.size, Nat.lt_of_lt_of_le h.l2 hb.size, h.hT.next hb, below_step h.hB hb⟩
theorem Fz.drew {W V : World} {g0 g1 g2 : Nat} {c n q x y z : Int} (h : Fz W V g0 g1 g2 c n q x y z) : Fz W V.drew g0 g1 g2 c n q x y z :=
  ⟨h.F.drew, h.a0, h.a1, h.b0, h.l1, h.l2, h.hT.keep rfl rfl, h.hB.drew⟩
theorem Fz.cells {W V : World} {g0 g1 g2 : Nat} {c n q x y z : Int} (h : Fz W V g0 g1 g2 c n q x y z) : V.cell? ⟨g0, 0, none⟩ = some (.int .i64 c) ∧ V.cell? ⟨g0, 1, none⟩ = some (.int .i64 n) ∧ V.cell? ⟨g0, 2, none⟩ = some (.int .i64 q) ∧ V.cell? ⟨g1, 0, none⟩ = some (.int .i64 x) ∧ V.cell? ⟨g1, 1, none⟩ = some (.int .i64 y) ∧ V.cell? ⟨g2, 0, none⟩ = some (.int .i64 z) :=
  ⟨h.F.c0, h.F.c1, h.F.c2, h.a0, h.a1, h.b0⟩
theorem three_bx (w : World) (c n q x y z t : Int) (hT : Tb w) : ∃ W, W = (((w.alloc (.cells #[.int .i64 c, .int .i64 n, .int .i64 q] 23)).alloc (.cells #[.int .i64 x, .int .i64 y] 38)).alloc (.cells #[.int .i64 z, .int .i64 t] 38)) ∧
    Fz w W w.heap.size (w.heap.size + 1) (w.heap.size + 1 + 1) c n q x y z := by
  have b1 := below_new w (.cells #[.int .i64 c, .int .i64 n, .int .i64 q] 23)
  have b2 := below_new (w.alloc (.cells #[.int .i64 c, .int .i64 n, .int .i64 q] 23)) (.cells #[.int .i64 x, .int .i64 y] 38)
  have b3 := below_new ((w.alloc (.cells #[.int .i64 c, .int .i64 n, .int .i64 q] 23)).alloc (.cells #[.int .i64 x, .int .i64 y] 38)) (.cells #[.int .i64 z, .int .i64 t] 38)
  have s1 : (w.alloc (.cells #[.int .i64 c, .int .i64 n, .int .i64 q] 23)).heap.size = w.heap.size + 1 := by simp
  have s2 : ((w.alloc (.cells #[.int .i64 c, .int .i64 n, .int .i64 q] 23)).alloc (.cells #[.int .i64 x, .int .i64 y] 38)).heap.size = w.heap.size + 1 + 1 := by simp
  refine ⟨_, rfl, (((Fd.new w c n q).next b2).next b3).fc, ?_, ?_, ?_, ?_, ?_, ((hT.next b1).next b2).next b3, below_step (below_step b1 b2) b3⟩
  · rw [← s1]; exact (b3.cell (p := ⟨_, 0, none⟩) (by simp)).trans (by rw [cell_of_row _ _ _ _ _ _ (heap_alloc_new _ _)]; rfl)
  · rw [← s1]; exact (b3.cell (p := ⟨_, 1, none⟩) (by simp)).trans (by rw [cell_of_row _ _ _ _ _ _ (heap_alloc_new _ _)]; rfl)
  · rw [← s2, cell_of_row _ _ _ _ _ _ (heap_alloc_new _ _)]; rfl
  · simp
  · simp
def CA (c n q a b r : Int) : Prop := ∀ w g, Tb w → Kc w g c n q → Calls Tryd.prog 38 #[.pointer (some ⟨g, 0, none⟩), .int .i64 a, .int .i64 b] w fun e w' => e = .returned (.int .i64 r) ∧ Below w.heap.size w w'
def CM (c n q a b r : Int) : Prop := ∀ w g, Tb w → Kc w g c n q → Calls Tryd.prog 39 #[.pointer (some ⟨g, 0, none⟩), .int .i64 a, .int .i64 b] w fun e w' => e = .returned (.int .i64 r) ∧ Below w.heap.size w w'
def CS (c n q a b r : Int) : Prop := ∀ w, Tb w → Calls Tryd.prog 19 #[.agg #[.int .i64 c, .int .i64 n, .int .i64 q], .int .i64 a, .int .i64 b] w fun e w' => e = .returned (.tuple #[.int .i64 r, .int .i64 0]) ∧ Below w.heap.size w w'
def CI (c n q a r er : Int) : Prop := ∀ w, Tb w → Calls Tryd.prog 25 #[.agg #[.int .i64 c, .int .i64 n, .int .i64 q], .int .i64 a] w fun e w' => e = .returned (.tuple #[.int .i64 r, .int .i64 er]) ∧ Below w.heap.size w w'
def CV (c n q : Int) (b : Bool) : Prop := ∀ w, Calls Tryd.prog 15 #[.agg #[.int .i64 c, .int .i64 n, .int .i64 q]] w fun e w' => e = .returned (.bool b) ∧ Below w.heap.size w w'
def CE (c n q x : Int) (b : Bool) : Prop := ∀ w, Calls Tryd.prog 37 #[.agg #[.int .i64 c, .int .i64 n, .int .i64 q], .int .i64 x] w fun e w' => e = .returned (.bool b) ∧ Below w.heap.size w w'
set_option maxRecDepth 100000 in
theorem field_noV (c n q x y z t : Int) (hv : CV c n q false) (w : World) (hT : Tb w) :
    Calls Tryd.prog 7 #[.agg #[.int .i64 c, .int .i64 n, .int .i64 q], .agg #[.int .i64 x, .int .i64 y], .agg #[.int .i64 z, .int .i64 t]] w fun e w' => e = .returned (.bool true) ∧ Below w.heap.size w w' := by
  obtain ⟨W, hW, Z0⟩ := three_bx w c n q x y z t hT
  clear hT
  obtain ⟨k0, k1, k2, k3, k4, k5⟩ := Z0.cells
  go_enter Tryd.func7, Tryd.ntmps7
  rw [hW] at k0 k1 k2 k3 k4 k5
  go_wp2_with fail
  rw [← hW] at k0 k1 k2 k3 k4 k5 ⊢
  clear hW
  generalize w.heap.size + 1 + 1 = g2 at *
  generalize w.heap.size + 1 = g1 at *
  refine (hv _).mono ?_
  rintro e w1 ⟨rfl, hb⟩
  have Z1 := Z0.next hb
  clear Z0 hb k0 k1 k2 k3 k4 k5
  obtain ⟨k0, k1, k2, k3, k4, k5⟩ := Z1.cells
  go_wp2_with fail
  refine (alive_any _ Z1.hT).mono ?_
  rintro e w2 ⟨rfl, hb⟩
  have Z2 := Z1.next hb
  clear Z1 hb k0 k1 k2 k3 k4 k5
  obtain ⟨k0, k1, k2, k3, k4, k5⟩ := Z2.cells
  go_wp2
  go_ret
  exact ⟨rfl, Z2.hB⟩
set_option maxRecDepth 100000 in
theorem field_noX (c n q x y z t : Int) (hv : CV c n q true) (hx : CE c n q x false) (w : World) (hT : Tb w) :
    Calls Tryd.prog 7 #[.agg #[.int .i64 c, .int .i64 n, .int .i64 q], .agg #[.int .i64 x, .int .i64 y], .agg #[.int .i64 z, .int .i64 t]] w fun e w' => e = .returned (.bool true) ∧ Below w.heap.size w w' := by
  obtain ⟨W, hW, Z0⟩ := three_bx w c n q x y z t hT
  clear hT
  obtain ⟨k0, k1, k2, k3, k4, k5⟩ := Z0.cells
  go_enter Tryd.func7, Tryd.ntmps7
  rw [hW] at k0 k1 k2 k3 k4 k5
  go_wp2_with fail
  rw [← hW] at k0 k1 k2 k3 k4 k5 ⊢
  clear hW
  generalize w.heap.size + 1 + 1 = g2 at *
  generalize w.heap.size + 1 = g1 at *
  refine (hv _).mono ?_
  rintro e w1 ⟨rfl, hb⟩
  have Z1 := Z0.next hb
  clear Z0 hb k0 k1 k2 k3 k4 k5
  obtain ⟨k0, k1, k2, k3, k4, k5⟩ := Z1.cells
  go_wp2_with fail
  refine (hx _).mono ?_
  rintro e w2 ⟨rfl, hb⟩
  have Z2 := Z1.next hb
  clear Z1 hb k0 k1 k2 k3 k4 k5
  obtain ⟨k0, k1, k2, k3, k4, k5⟩ := Z2.cells
  go_wp2_with fail
  refine (alive_any _ Z2.hT).mono ?_
  rintro e w3 ⟨rfl, hb⟩
  have Z3 := Z2.next hb
  clear Z2 hb k0 k1 k2 k3 k4 k5
  obtain ⟨k0, k1, k2, k3, k4, k5⟩ := Z3.cells
  go_wp2
  go_ret
  exact ⟨rfl, Z3.hB⟩
set_option maxRecDepth 100000 in
theorem field_noY (c n q x y z t : Int) (hv : CV c n q true) (hx : CE c n q x true) (hy : CE c n q y false) (w : World) (hT : Tb w) :
    Calls Tryd.prog 7 #[.agg #[.int .i64 c, .int .i64 n, .int .i64 q], .agg #[.int .i64 x, .int .i64 y], .agg #[.int .i64 z, .int .i64 t]] w fun e w' => e = .returned (.bool true) ∧ Below w.heap.size w w' := by
  obtain ⟨W, hW, Z0⟩ := three_bx w c n q x y z t hT
  clear hT
  obtain ⟨k0, k1, k2, k3, k4, k5⟩ := Z0.cells
  go_enter Tryd.func7, Tryd.ntmps7
  rw [hW] at k0 k1 k2 k3 k4 k5
  go_wp2_with fail
  rw [← hW] at k0 k1 k2 k3 k4 k5 ⊢
  clear hW
  generalize w.heap.size + 1 + 1 = g2 at *
  generalize w.heap.size + 1 = g1 at *
  refine (hv _).mono ?_
  rintro e w1 ⟨rfl, hb⟩
  have Z1 := Z0.next hb
  clear Z0 hb k0 k1 k2 k3 k4 k5
  obtain ⟨k0, k1, k2, k3, k4, k5⟩ := Z1.cells
  go_wp2_with fail
  refine (hx _).mono ?_
  rintro e w2 ⟨rfl, hb⟩
  have Z2 := Z1.next hb
  clear Z1 hb k0 k1 k2 k3 k4 k5
  obtain ⟨k0, k1, k2, k3, k4, k5⟩ := Z2.cells
  go_wp2_with fail
  refine (hy _).mono ?_
  rintro e w3 ⟨rfl, hb⟩
  have Z3 := Z2.next hb
  clear Z2 hb k0 k1 k2 k3 k4 k5
  obtain ⟨k0, k1, k2, k3, k4, k5⟩ := Z3.cells
  go_wp2_with fail
  refine (alive_any _ Z3.hT).mono ?_
  rintro e w4 ⟨rfl, hb⟩
  have Z4 := Z3.next hb
  clear Z3 hb k0 k1 k2 k3 k4 k5
  obtain ⟨k0, k1, k2, k3, k4, k5⟩ := Z4.cells
  go_wp2
  go_ret
  exact ⟨rfl, Z4.hB⟩
set_option maxRecDepth 100000 in
theorem field_noZ (c n q x y z t : Int) (hv : CV c n q true) (hx : CE c n q x true) (hy : CE c n q y true) (hz : CE c n q z false) (w : World) (hT : Tb w) :
    Calls Tryd.prog 7 #[.agg #[.int .i64 c, .int .i64 n, .int .i64 q], .agg #[.int .i64 x, .int .i64 y], .agg #[.int .i64 z, .int .i64 t]] w fun e w' => e = .returned (.bool true) ∧ Below w.heap.size w w' := by
  obtain ⟨W, hW, Z0⟩ := three_bx w c n q x y z t hT
  clear hT
  obtain ⟨k0, k1, k2, k3, k4, k5⟩ := Z0.cells
  go_enter Tryd.func7, Tryd.ntmps7
  rw [hW] at k0 k1 k2 k3 k4 k5
  go_wp2_with fail
  rw [← hW] at k0 k1 k2 k3 k4 k5 ⊢
  clear hW
  generalize w.heap.size + 1 + 1 = g2 at *
  generalize w.heap.size + 1 = g1 at *
  refine (hv _).mono ?_
  rintro e w1 ⟨rfl, hb⟩
  have Z1 := Z0.next hb
  clear Z0 hb k0 k1 k2 k3 k4 k5
  obtain ⟨k0, k1, k2, k3, k4, k5⟩ := Z1.cells
  go_wp2_with fail
  refine (hx _).mono ?_
  rintro e w2 ⟨rfl, hb⟩
  have Z2 := Z1.next hb
  clear Z1 hb k0 k1 k2 k3 k4 k5
  obtain ⟨k0, k1, k2, k3, k4, k5⟩ := Z2.cells
  go_wp2_with fail
  refine (hy _).mono ?_
  rintro e w3 ⟨rfl, hb⟩
  have Z3 := Z2.next hb
  clear Z2 hb k0 k1 k2 k3 k4 k5
  obtain ⟨k0, k1, k2, k3, k4, k5⟩ := Z3.cells
  go_wp2_with fail
  refine (hz _).mono ?_
  rintro e w4 ⟨rfl, hb⟩
  have Z4 := Z3.next hb
  clear Z3 hb k0 k1 k2 k3 k4 k5
  obtain ⟨k0, k1, k2, k3, k4, k5⟩ := Z4.cells
  go_wp2_with fail
  refine (alive_any _ Z4.hT).mono ?_
  rintro e w5 ⟨rfl, hb⟩
  have Z5 := Z4.next hb
  clear Z4 hb k0 k1 k2 k3 k4 k5
  obtain ⟨k0, k1, k2, k3, k4, k5⟩ := Z5.cells
  go_wp2
  go_ret
  exact ⟨rfl, Z5.hB⟩
set_option maxRecDepth 100000 in
theorem field_zero (c n q x y z t : Int) (s1 s2 s3 m1 m2 m3 m4 d nx dd v : Int) (hv : CV c n q true) (hx : CE c n q x true) (hy : CE c n q y true) (hz : CE c n q z true) (a1 : CA c n q x y s1) (a2 : CA c n q s1 z s2) (a3 : CA c n q y z s3) (a4 : CA c n q x s3 s2) (a5 : CA c n q y x s1) (a6 : CA c n q x 0 x) (p1 : CM c n q x y m1) (p2 : CM c n q m1 z m2) (p3 : CM c n q y z m3) (p4 : CM c n q x m3 m2) (p5 : CM c n q y x m1) (p6 : CM c n q x 1 x) (p7 : CM c n q x 0 0) (p8 : CM c n q x s3 d) (p9 : CM c n q x z m4) (a7 : CA c n q m1 m4 d) (b1 : CS c n q 0 x nx) (b2 : CS c n q x y dd) (a8 : CA c n q x nx 0) (a9 : CA c n q dd y x) (h0 : Hid (x = 0)) (iv : CI c n q x 0 12) (w : World) (hT : Tb w) :
    Calls Tryd.prog 7 #[.agg #[.int .i64 c, .int .i64 n, .int .i64 q], .agg #[.int .i64 x, .int .i64 y], .agg #[.int .i64 z, .int .i64 t]] w fun e w' => e = .returned (.bool true) ∧ Below w.heap.size w w' := by
  obtain ⟨W, hW, Z0⟩ := three_bx w c n q x y z t hT
  clear hT
  obtain ⟨k0, k1, k2, k3, k4, k5⟩ := Z0.cells
  go_enter Tryd.func7, Tryd.ntmps7
  rw [hW] at k0 k1 k2 k3 k4 k5
  go_wp2_with fail
  rw [← hW] at k0 k1 k2 k3 k4 k5 ⊢
  clear hW
  generalize w.heap.size + 1 + 1 = g2 at *
  generalize w.heap.size + 1 = g1 at *
  refine (hv _).mono ?_
  rintro e w1 ⟨rfl, hb⟩
  have Z1 := Z0.next hb
  clear Z0 hb k0 k1 k2 k3 k4 k5
  obtain ⟨k0, k1, k2, k3, k4, k5⟩ := Z1.cells
  go_wp2_with fail
  refine (hx _).mono ?_
  rintro e w2 ⟨rfl, hb⟩
  have Z2 := Z1.next hb
  clear Z1 hb k0 k1 k2 k3 k4 k5
  obtain ⟨k0, k1, k2, k3, k4, k5⟩ := Z2.cells
  go_wp2_with fail
  refine (hy _).mono ?_
  rintro e w3 ⟨rfl, hb⟩
  have Z3 := Z2.next hb
  clear Z2 hb k0 k1 k2 k3 k4 k5
  obtain ⟨k0, k1, k2, k3, k4, k5⟩ := Z3.cells
  go_wp2_with fail
  refine (hz _).mono ?_
  rintro e w4 ⟨rfl, hb⟩
  have Z4 := Z3.next hb
  clear Z3 hb k0 k1 k2 k3 k4 k5
  obtain ⟨k0, k1, k2, k3, k4, k5⟩ := Z4.cells
  go_wp2
  have hb := below_new w4 (.cells #[.int .i64 c, .int .i64 n, .int .i64 q, .bool true] 42)
  have Z5' := (Z4.next hb).drew
  have K5 : Kc (w4.alloc (.cells #[.int .i64 c, .int .i64 n, .int .i64 q, .bool true] 42)).drew w4.heap.size c n q := Kc.new w4 c n q
  clear Z4 hb k0 k1 k2 k3 k4 k5
  obtain ⟨k0, k1, k2, k3, k4, k5⟩ := Z5'.cells
  generalize w4.heap.size = gk at *
  generalize (w4.alloc (.cells #[.int .i64 c, .int .i64 n, .int .i64 q, .bool true] 42)) = w5 at *
  go_region
  obtain ⟨n0, n1, n2, n3⟩ := K5.cells
  have Z5 := Z5'
  clear Z5'
  go_wp2_with fail
  refine (a1 _ _ Z5.hT K5).mono ?_
  rintro e w6 ⟨rfl, hb⟩
  have Z6 := Z5.next hb
  have K6 := K5.next hb
  clear Z5 hb k0 k1 k2 k3 k4 k5
  clear K5 n0 n1 n2 n3
  obtain ⟨n0, n1, n2, n3⟩ := K6.cells
  obtain ⟨k0, k1, k2, k3, k4, k5⟩ := Z6.cells
  go_wp2_with fail
  refine (a2 _ _ Z6.hT K6).mono ?_
  rintro e w7 ⟨rfl, hb⟩
  have Z7 := Z6.next hb
  have K7 := K6.next hb
  clear Z6 hb k0 k1 k2 k3 k4 k5
  clear K6 n0 n1 n2 n3
  obtain ⟨n0, n1, n2, n3⟩ := K7.cells
  obtain ⟨k0, k1, k2, k3, k4, k5⟩ := Z7.cells
  go_wp2_with fail
  refine (a3 _ _ Z7.hT K7).mono ?_
  rintro e w8 ⟨rfl, hb⟩
  have Z8 := Z7.next hb
  have K8 := K7.next hb
  clear Z7 hb k0 k1 k2 k3 k4 k5
  clear K7 n0 n1 n2 n3
  obtain ⟨n0, n1, n2, n3⟩ := K8.cells
  obtain ⟨k0, k1, k2, k3, k4, k5⟩ := Z8.cells
  go_wp2_with fail
  refine (a4 _ _ Z8.hT K8).mono ?_
  rintro e w9 ⟨rfl, hb⟩
  have Z9 := Z8.next hb
  have K9 := K8.next hb
  clear Z8 hb k0 k1 k2 k3 k4 k5
  clear K8 n0 n1 n2 n3
  obtain ⟨n0, n1, n2, n3⟩ := K9.cells
  obtain ⟨k0, k1, k2, k3, k4, k5⟩ := Z9.cells
  go_wp2_with fail
  refine (a1 _ _ Z9.hT K9).mono ?_
  rintro e w10 ⟨rfl, hb⟩
  have Z10 := Z9.next hb
  have K10 := K9.next hb
  clear Z9 hb k0 k1 k2 k3 k4 k5
  clear K9 n0 n1 n2 n3
  obtain ⟨n0, n1, n2, n3⟩ := K10.cells
  obtain ⟨k0, k1, k2, k3, k4, k5⟩ := Z10.cells
  go_wp2_with fail
  refine (a5 _ _ Z10.hT K10).mono ?_
  rintro e w11 ⟨rfl, hb⟩
  have Z11 := Z10.next hb
  have K11 := K10.next hb
  clear Z10 hb k0 k1 k2 k3 k4 k5
  clear K10 n0 n1 n2 n3
  obtain ⟨n0, n1, n2, n3⟩ := K11.cells
  obtain ⟨k0, k1, k2, k3, k4, k5⟩ := Z11.cells
  go_wp2_with fail
  refine (a6 _ _ Z11.hT K11).mono ?_
  rintro e w12 ⟨rfl, hb⟩
  have Z12 := Z11.next hb
  have K12 := K11.next hb
  clear Z11 hb k0 k1 k2 k3 k4 k5
  clear K11 n0 n1 n2 n3
  obtain ⟨n0, n1, n2, n3⟩ := K12.cells
  obtain ⟨k0, k1, k2, k3, k4, k5⟩ := Z12.cells
  go_wp2_with fail
  refine (p1 _ _ Z12.hT K12).mono ?_
  rintro e w13 ⟨rfl, hb⟩
  have Z13 := Z12.next hb
  have K13 := K12.next hb
  clear Z12 hb k0 k1 k2 k3 k4 k5
  clear K12 n0 n1 n2 n3
  obtain ⟨n0, n1, n2, n3⟩ := K13.cells
  obtain ⟨k0, k1, k2, k3, k4, k5⟩ := Z13.cells
  go_wp2_with fail
  refine (p2 _ _ Z13.hT K13).mono ?_
  rintro e w14 ⟨rfl, hb⟩
  have Z14 := Z13.next hb
  have K14 := K13.next hb
  clear Z13 hb k0 k1 k2 k3 k4 k5
  clear K13 n0 n1 n2 n3
  obtain ⟨n0, n1, n2, n3⟩ := K14.cells
  obtain ⟨k0, k1, k2, k3, k4, k5⟩ := Z14.cells
  go_wp2_with fail
  refine (p3 _ _ Z14.hT K14).mono ?_
  rintro e w15 ⟨rfl, hb⟩
  have Z15 := Z14.next hb
  have K15 := K14.next hb
  clear Z14 hb k0 k1 k2 k3 k4 k5
  clear K14 n0 n1 n2 n3
  obtain ⟨n0, n1, n2, n3⟩ := K15.cells
  obtain ⟨k0, k1, k2, k3, k4, k5⟩ := Z15.cells
  go_wp2_with fail
  refine (p4 _ _ Z15.hT K15).mono ?_
  rintro e w16 ⟨rfl, hb⟩
  have Z16 := Z15.next hb
  have K16 := K15.next hb
  clear Z15 hb k0 k1 k2 k3 k4 k5
  clear K15 n0 n1 n2 n3
  obtain ⟨n0, n1, n2, n3⟩ := K16.cells
  obtain ⟨k0, k1, k2, k3, k4, k5⟩ := Z16.cells
  go_wp2_with fail
  refine (p1 _ _ Z16.hT K16).mono ?_
  rintro e w17 ⟨rfl, hb⟩
  have Z17 := Z16.next hb
  have K17 := K16.next hb
  clear Z16 hb k0 k1 k2 k3 k4 k5
  clear K16 n0 n1 n2 n3
  obtain ⟨n0, n1, n2, n3⟩ := K17.cells
  obtain ⟨k0, k1, k2, k3, k4, k5⟩ := Z17.cells
  go_wp2_with fail
  refine (p5 _ _ Z17.hT K17).mono ?_
  rintro e w18 ⟨rfl, hb⟩
  have Z18 := Z17.next hb
  have K18 := K17.next hb
  clear Z17 hb k0 k1 k2 k3 k4 k5
  clear K17 n0 n1 n2 n3
  obtain ⟨n0, n1, n2, n3⟩ := K18.cells
  obtain ⟨k0, k1, k2, k3, k4, k5⟩ := Z18.cells
  go_wp2_with fail
  refine (p6 _ _ Z18.hT K18).mono ?_
  rintro e w19 ⟨rfl, hb⟩
  have Z19 := Z18.next hb
  have K19 := K18.next hb
  clear Z18 hb k0 k1 k2 k3 k4 k5
  clear K18 n0 n1 n2 n3
  obtain ⟨n0, n1, n2, n3⟩ := K19.cells
  obtain ⟨k0, k1, k2, k3, k4, k5⟩ := Z19.cells
  go_wp2_with fail
  refine (p7 _ _ Z19.hT K19).mono ?_
  rintro e w20 ⟨rfl, hb⟩
  have Z20 := Z19.next hb
  have K20 := K19.next hb
  clear Z19 hb k0 k1 k2 k3 k4 k5
  clear K19 n0 n1 n2 n3
  obtain ⟨n0, n1, n2, n3⟩ := K20.cells
  obtain ⟨k0, k1, k2, k3, k4, k5⟩ := Z20.cells
  go_wp2_with fail
  refine (a3 _ _ Z20.hT K20).mono ?_
  rintro e w21 ⟨rfl, hb⟩
  have Z21 := Z20.next hb
  have K21 := K20.next hb
  clear Z20 hb k0 k1 k2 k3 k4 k5
  clear K20 n0 n1 n2 n3
  obtain ⟨n0, n1, n2, n3⟩ := K21.cells
  obtain ⟨k0, k1, k2, k3, k4, k5⟩ := Z21.cells
  go_wp2_with fail
  refine (p8 _ _ Z21.hT K21).mono ?_
  rintro e w22 ⟨rfl, hb⟩
  have Z22 := Z21.next hb
  have K22 := K21.next hb
  clear Z21 hb k0 k1 k2 k3 k4 k5
  clear K21 n0 n1 n2 n3
  obtain ⟨n0, n1, n2, n3⟩ := K22.cells
  obtain ⟨k0, k1, k2, k3, k4, k5⟩ := Z22.cells
  go_wp2_with fail
  refine (p1 _ _ Z22.hT K22).mono ?_
  rintro e w23 ⟨rfl, hb⟩
  have Z23 := Z22.next hb
  have K23 := K22.next hb
  clear Z22 hb k0 k1 k2 k3 k4 k5
  clear K22 n0 n1 n2 n3
  obtain ⟨n0, n1, n2, n3⟩ := K23.cells
  obtain ⟨k0, k1, k2, k3, k4, k5⟩ := Z23.cells
  go_wp2_with fail
  refine (p9 _ _ Z23.hT K23).mono ?_
  rintro e w24 ⟨rfl, hb⟩
  have Z24 := Z23.next hb
  have K24 := K23.next hb
  clear Z23 hb k0 k1 k2 k3 k4 k5
  clear K23 n0 n1 n2 n3
  obtain ⟨n0, n1, n2, n3⟩ := K24.cells
  obtain ⟨k0, k1, k2, k3, k4, k5⟩ := Z24.cells
  go_wp2_with fail
  refine (a7 _ _ Z24.hT K24).mono ?_
  rintro e w25 ⟨rfl, hb⟩
  have Z25 := Z24.next hb
  have K25 := K24.next hb
  clear Z24 hb k0 k1 k2 k3 k4 k5
  clear K24 n0 n1 n2 n3
  obtain ⟨n0, n1, n2, n3⟩ := K25.cells
  obtain ⟨k0, k1, k2, k3, k4, k5⟩ := Z25.cells
  go_wp2_with fail
  refine (b1 _ Z25.hT).mono ?_
  rintro e w26 ⟨rfl, hb⟩
  have Z26 := Z25.next hb
  have K26 := K25.next hb
  clear Z25 hb k0 k1 k2 k3 k4 k5
  clear K25 n0 n1 n2 n3
  obtain ⟨n0, n1, n2, n3⟩ := K26.cells
  obtain ⟨k0, k1, k2, k3, k4, k5⟩ := Z26.cells
  go_wp2_with fail
  refine (b2 _ Z26.hT).mono ?_
  rintro e w27 ⟨rfl, hb⟩
  have Z27 := Z26.next hb
  have K27 := K26.next hb
  clear Z26 hb k0 k1 k2 k3 k4 k5
  clear K26 n0 n1 n2 n3
  obtain ⟨n0, n1, n2, n3⟩ := K27.cells
  obtain ⟨k0, k1, k2, k3, k4, k5⟩ := Z27.cells
  go_wp2_with fail
  refine (a8 _ _ Z27.hT K27).mono ?_
  rintro e w28 ⟨rfl, hb⟩
  have Z28 := Z27.next hb
  have K28 := K27.next hb
  clear Z27 hb k0 k1 k2 k3 k4 k5
  clear K27 n0 n1 n2 n3
  obtain ⟨n0, n1, n2, n3⟩ := K28.cells
  obtain ⟨k0, k1, k2, k3, k4, k5⟩ := Z28.cells
  go_wp2_with fail
  refine (a9 _ _ Z28.hT K28).mono ?_
  rintro e w29 ⟨rfl, hb⟩
  have Z29 := Z28.next hb
  have K29 := K28.next hb
  clear Z28 hb k0 k1 k2 k3 k4 k5
  clear K28 n0 n1 n2 n3
  obtain ⟨n0, n1, n2, n3⟩ := K29.cells
  obtain ⟨k0, k1, k2, k3, k4, k5⟩ := Z29.cells
  go_wp2_with fail
  refine (iv _ Z29.hT).mono ?_
  rintro e w30 ⟨rfl, hb⟩
  have Z30 := Z29.next hb
  have K30 := K29.next hb
  clear Z29 hb k0 k1 k2 k3 k4 k5
  clear K29 n0 n1 n2 n3
  obtain ⟨n0, n1, n2, n3⟩ := K30.cells
  obtain ⟨k0, k1, k2, k3, k4, k5⟩ := Z30.cells
  have h0 := h0.out
  go_wp2_with fail
  refine (alive_any _ Z30.hT).mono ?_
  rintro e w31 ⟨rfl, hb⟩
  have Z31 := Z30.next hb
  have K31 := K30.next hb
  clear Z30 hb k0 k1 k2 k3 k4 k5
  clear K30 n0 n1 n2 n3
  obtain ⟨n0, n1, n2, n3⟩ := K31.cells
  obtain ⟨k0, k1, k2, k3, k4, k5⟩ := Z31.cells
  go_wp2
  go_ret
  exact ⟨rfl, Z31.hB⟩
set_option maxRecDepth 100000 in
theorem field_unit (c n q x y z t : Int) (s1 s2 s3 m1 m2 m3 m4 d nx dd v : Int) (hv : CV c n q true) (hx : CE c n q x true) (hy : CE c n q y true) (hz : CE c n q z true) (a1 : CA c n q x y s1) (a2 : CA c n q s1 z s2) (a3 : CA c n q y z s3) (a4 : CA c n q x s3 s2) (a5 : CA c n q y x s1) (a6 : CA c n q x 0 x) (p1 : CM c n q x y m1) (p2 : CM c n q m1 z m2) (p3 : CM c n q y z m3) (p4 : CM c n q x m3 m2) (p5 : CM c n q y x m1) (p6 : CM c n q x 1 x) (p7 : CM c n q x 0 0) (p8 : CM c n q x s3 d) (p9 : CM c n q x z m4) (a7 : CA c n q m1 m4 d) (b1 : CS c n q 0 x nx) (b2 : CS c n q x y dd) (a8 : CA c n q x nx 0) (a9 : CA c n q dd y x) (h0 : ¬ x = 0) (iv : CI c n q x v 0) (p0 : CM c n q x v 1) (w : World) (hT : Tb w) :
    Calls Tryd.prog 7 #[.agg #[.int .i64 c, .int .i64 n, .int .i64 q], .agg #[.int .i64 x, .int .i64 y], .agg #[.int .i64 z, .int .i64 t]] w fun e w' => e = .returned (.bool true) ∧ Below w.heap.size w w' := by
  obtain ⟨W, hW, Z0⟩ := three_bx w c n q x y z t hT
  clear hT
  obtain ⟨k0, k1, k2, k3, k4, k5⟩ := Z0.cells
  go_enter Tryd.func7, Tryd.ntmps7
  rw [hW] at k0 k1 k2 k3 k4 k5
  go_wp2_with fail
  rw [← hW] at k0 k1 k2 k3 k4 k5 ⊢
  clear hW
  generalize w.heap.size + 1 + 1 = g2 at *
  generalize w.heap.size + 1 = g1 at *
  refine (hv _).mono ?_
  rintro e w1 ⟨rfl, hb⟩
  have Z1 := Z0.next hb
  clear Z0 hb k0 k1 k2 k3 k4 k5
  obtain ⟨k0, k1, k2, k3, k4, k5⟩ := Z1.cells
  go_wp2_with fail
  refine (hx _).mono ?_
  rintro e w2 ⟨rfl, hb⟩
  have Z2 := Z1.next hb
  clear Z1 hb k0 k1 k2 k3 k4 k5
  obtain ⟨k0, k1, k2, k3, k4, k5⟩ := Z2.cells
  go_wp2_with fail
  refine (hy _).mono ?_
  rintro e w3 ⟨rfl, hb⟩
  have Z3 := Z2.next hb
  clear Z2 hb k0 k1 k2 k3 k4 k5
  obtain ⟨k0, k1, k2, k3, k4, k5⟩ := Z3.cells
  go_wp2_with fail
  refine (hz _).mono ?_
  rintro e w4 ⟨rfl, hb⟩
  have Z4 := Z3.next hb
  clear Z3 hb k0 k1 k2 k3 k4 k5
  obtain ⟨k0, k1, k2, k3, k4, k5⟩ := Z4.cells
  go_wp2
  have hb := below_new w4 (.cells #[.int .i64 c, .int .i64 n, .int .i64 q, .bool true] 42)
  have Z5' := (Z4.next hb).drew
  have K5 : Kc (w4.alloc (.cells #[.int .i64 c, .int .i64 n, .int .i64 q, .bool true] 42)).drew w4.heap.size c n q := Kc.new w4 c n q
  clear Z4 hb k0 k1 k2 k3 k4 k5
  obtain ⟨k0, k1, k2, k3, k4, k5⟩ := Z5'.cells
  generalize w4.heap.size = gk at *
  generalize (w4.alloc (.cells #[.int .i64 c, .int .i64 n, .int .i64 q, .bool true] 42)) = w5 at *
  go_region
  obtain ⟨n0, n1, n2, n3⟩ := K5.cells
  have Z5 := Z5'
  clear Z5'
  go_wp2_with fail
  refine (a1 _ _ Z5.hT K5).mono ?_
  rintro e w6 ⟨rfl, hb⟩
  have Z6 := Z5.next hb
  have K6 := K5.next hb
  clear Z5 hb k0 k1 k2 k3 k4 k5
  clear K5 n0 n1 n2 n3
  obtain ⟨n0, n1, n2, n3⟩ := K6.cells
  obtain ⟨k0, k1, k2, k3, k4, k5⟩ := Z6.cells
  go_wp2_with fail
  refine (a2 _ _ Z6.hT K6).mono ?_
  rintro e w7 ⟨rfl, hb⟩
  have Z7 := Z6.next hb
  have K7 := K6.next hb
  clear Z6 hb k0 k1 k2 k3 k4 k5
  clear K6 n0 n1 n2 n3
  obtain ⟨n0, n1, n2, n3⟩ := K7.cells
  obtain ⟨k0, k1, k2, k3, k4, k5⟩ := Z7.cells
  go_wp2_with fail
  refine (a3 _ _ Z7.hT K7).mono ?_
  rintro e w8 ⟨rfl, hb⟩
  have Z8 := Z7.next hb
  have K8 := K7.next hb
  clear Z7 hb k0 k1 k2 k3 k4 k5
  clear K7 n0 n1 n2 n3
  obtain ⟨n0, n1, n2, n3⟩ := K8.cells
  obtain ⟨k0, k1, k2, k3, k4, k5⟩ := Z8.cells
  go_wp2_with fail
  refine (a4 _ _ Z8.hT K8).mono ?_
  rintro e w9 ⟨rfl, hb⟩
  have Z9 := Z8.next hb
  have K9 := K8.next hb
  clear Z8 hb k0 k1 k2 k3 k4 k5
  clear K8 n0 n1 n2 n3
  obtain ⟨n0, n1, n2, n3⟩ := K9.cells
  obtain ⟨k0, k1, k2, k3, k4, k5⟩ := Z9.cells
  go_wp2_with fail
  refine (a1 _ _ Z9.hT K9).mono ?_
  rintro e w10 ⟨rfl, hb⟩
  have Z10 := Z9.next hb
  have K10 := K9.next hb
  clear Z9 hb k0 k1 k2 k3 k4 k5
  clear K9 n0 n1 n2 n3
  obtain ⟨n0, n1, n2, n3⟩ := K10.cells
  obtain ⟨k0, k1, k2, k3, k4, k5⟩ := Z10.cells
  go_wp2_with fail
  refine (a5 _ _ Z10.hT K10).mono ?_
  rintro e w11 ⟨rfl, hb⟩
  have Z11 := Z10.next hb
  have K11 := K10.next hb
  clear Z10 hb k0 k1 k2 k3 k4 k5
  clear K10 n0 n1 n2 n3
  obtain ⟨n0, n1, n2, n3⟩ := K11.cells
  obtain ⟨k0, k1, k2, k3, k4, k5⟩ := Z11.cells
  go_wp2_with fail
  refine (a6 _ _ Z11.hT K11).mono ?_
  rintro e w12 ⟨rfl, hb⟩
  have Z12 := Z11.next hb
  have K12 := K11.next hb
  clear Z11 hb k0 k1 k2 k3 k4 k5
  clear K11 n0 n1 n2 n3
  obtain ⟨n0, n1, n2, n3⟩ := K12.cells
  obtain ⟨k0, k1, k2, k3, k4, k5⟩ := Z12.cells
  go_wp2_with fail
  refine (p1 _ _ Z12.hT K12).mono ?_
  rintro e w13 ⟨rfl, hb⟩
  have Z13 := Z12.next hb
  have K13 := K12.next hb
  clear Z12 hb k0 k1 k2 k3 k4 k5
  clear K12 n0 n1 n2 n3
  obtain ⟨n0, n1, n2, n3⟩ := K13.cells
  obtain ⟨k0, k1, k2, k3, k4, k5⟩ := Z13.cells
  go_wp2_with fail
  refine (p2 _ _ Z13.hT K13).mono ?_
  rintro e w14 ⟨rfl, hb⟩
  have Z14 := Z13.next hb
  have K14 := K13.next hb
  clear Z13 hb k0 k1 k2 k3 k4 k5
  clear K13 n0 n1 n2 n3
  obtain ⟨n0, n1, n2, n3⟩ := K14.cells
  obtain ⟨k0, k1, k2, k3, k4, k5⟩ := Z14.cells
  go_wp2_with fail
  refine (p3 _ _ Z14.hT K14).mono ?_
  rintro e w15 ⟨rfl, hb⟩
  have Z15 := Z14.next hb
  have K15 := K14.next hb
  clear Z14 hb k0 k1 k2 k3 k4 k5
  clear K14 n0 n1 n2 n3
  obtain ⟨n0, n1, n2, n3⟩ := K15.cells
  obtain ⟨k0, k1, k2, k3, k4, k5⟩ := Z15.cells
  go_wp2_with fail
  refine (p4 _ _ Z15.hT K15).mono ?_
  rintro e w16 ⟨rfl, hb⟩
  have Z16 := Z15.next hb
  have K16 := K15.next hb
  clear Z15 hb k0 k1 k2 k3 k4 k5
  clear K15 n0 n1 n2 n3
  obtain ⟨n0, n1, n2, n3⟩ := K16.cells
  obtain ⟨k0, k1, k2, k3, k4, k5⟩ := Z16.cells
  go_wp2_with fail
  refine (p1 _ _ Z16.hT K16).mono ?_
  rintro e w17 ⟨rfl, hb⟩
  have Z17 := Z16.next hb
  have K17 := K16.next hb
  clear Z16 hb k0 k1 k2 k3 k4 k5
  clear K16 n0 n1 n2 n3
  obtain ⟨n0, n1, n2, n3⟩ := K17.cells
  obtain ⟨k0, k1, k2, k3, k4, k5⟩ := Z17.cells
  go_wp2_with fail
  refine (p5 _ _ Z17.hT K17).mono ?_
  rintro e w18 ⟨rfl, hb⟩
  have Z18 := Z17.next hb
  have K18 := K17.next hb
  clear Z17 hb k0 k1 k2 k3 k4 k5
  clear K17 n0 n1 n2 n3
  obtain ⟨n0, n1, n2, n3⟩ := K18.cells
  obtain ⟨k0, k1, k2, k3, k4, k5⟩ := Z18.cells
  go_wp2_with fail
  refine (p6 _ _ Z18.hT K18).mono ?_
  rintro e w19 ⟨rfl, hb⟩
  have Z19 := Z18.next hb
  have K19 := K18.next hb
  clear Z18 hb k0 k1 k2 k3 k4 k5
  clear K18 n0 n1 n2 n3
  obtain ⟨n0, n1, n2, n3⟩ := K19.cells
  obtain ⟨k0, k1, k2, k3, k4, k5⟩ := Z19.cells
  go_wp2_with fail
  refine (p7 _ _ Z19.hT K19).mono ?_
  rintro e w20 ⟨rfl, hb⟩
  have Z20 := Z19.next hb
  have K20 := K19.next hb
  clear Z19 hb k0 k1 k2 k3 k4 k5
  clear K19 n0 n1 n2 n3
  obtain ⟨n0, n1, n2, n3⟩ := K20.cells
  obtain ⟨k0, k1, k2, k3, k4, k5⟩ := Z20.cells
  go_wp2_with fail
  refine (a3 _ _ Z20.hT K20).mono ?_
  rintro e w21 ⟨rfl, hb⟩
  have Z21 := Z20.next hb
  have K21 := K20.next hb
  clear Z20 hb k0 k1 k2 k3 k4 k5
  clear K20 n0 n1 n2 n3
  obtain ⟨n0, n1, n2, n3⟩ := K21.cells
  obtain ⟨k0, k1, k2, k3, k4, k5⟩ := Z21.cells
  go_wp2_with fail
  refine (p8 _ _ Z21.hT K21).mono ?_
  rintro e w22 ⟨rfl, hb⟩
  have Z22 := Z21.next hb
  have K22 := K21.next hb
  clear Z21 hb k0 k1 k2 k3 k4 k5
  clear K21 n0 n1 n2 n3
  obtain ⟨n0, n1, n2, n3⟩ := K22.cells
  obtain ⟨k0, k1, k2, k3, k4, k5⟩ := Z22.cells
  go_wp2_with fail
  refine (p1 _ _ Z22.hT K22).mono ?_
  rintro e w23 ⟨rfl, hb⟩
  have Z23 := Z22.next hb
  have K23 := K22.next hb
  clear Z22 hb k0 k1 k2 k3 k4 k5
  clear K22 n0 n1 n2 n3
  obtain ⟨n0, n1, n2, n3⟩ := K23.cells
  obtain ⟨k0, k1, k2, k3, k4, k5⟩ := Z23.cells
  go_wp2_with fail
  refine (p9 _ _ Z23.hT K23).mono ?_
  rintro e w24 ⟨rfl, hb⟩
  have Z24 := Z23.next hb
  have K24 := K23.next hb
  clear Z23 hb k0 k1 k2 k3 k4 k5
  clear K23 n0 n1 n2 n3
  obtain ⟨n0, n1, n2, n3⟩ := K24.cells
  obtain ⟨k0, k1, k2, k3, k4, k5⟩ := Z24.cells
  go_wp2_with fail
  refine (a7 _ _ Z24.hT K24).mono ?_
  rintro e w25 ⟨rfl, hb⟩
  have Z25 := Z24.next hb
  have K25 := K24.next hb
  clear Z24 hb k0 k1 k2 k3 k4 k5
  clear K24 n0 n1 n2 n3
  obtain ⟨n0, n1, n2, n3⟩ := K25.cells
  obtain ⟨k0, k1, k2, k3, k4, k5⟩ := Z25.cells
  go_wp2_with fail
  refine (b1 _ Z25.hT).mono ?_
  rintro e w26 ⟨rfl, hb⟩
  have Z26 := Z25.next hb
  have K26 := K25.next hb
  clear Z25 hb k0 k1 k2 k3 k4 k5
  clear K25 n0 n1 n2 n3
  obtain ⟨n0, n1, n2, n3⟩ := K26.cells
  obtain ⟨k0, k1, k2, k3, k4, k5⟩ := Z26.cells
  go_wp2_with fail
  refine (b2 _ Z26.hT).mono ?_
  rintro e w27 ⟨rfl, hb⟩
  have Z27 := Z26.next hb
  have K27 := K26.next hb
  clear Z26 hb k0 k1 k2 k3 k4 k5
  clear K26 n0 n1 n2 n3
  obtain ⟨n0, n1, n2, n3⟩ := K27.cells
  obtain ⟨k0, k1, k2, k3, k4, k5⟩ := Z27.cells
  go_wp2_with fail
  refine (a8 _ _ Z27.hT K27).mono ?_
  rintro e w28 ⟨rfl, hb⟩
  have Z28 := Z27.next hb
  have K28 := K27.next hb
  clear Z27 hb k0 k1 k2 k3 k4 k5
  clear K27 n0 n1 n2 n3
  obtain ⟨n0, n1, n2, n3⟩ := K28.cells
  obtain ⟨k0, k1, k2, k3, k4, k5⟩ := Z28.cells
  go_wp2_with fail
  refine (a9 _ _ Z28.hT K28).mono ?_
  rintro e w29 ⟨rfl, hb⟩
  have Z29 := Z28.next hb
  have K29 := K28.next hb
  clear Z28 hb k0 k1 k2 k3 k4 k5
  clear K28 n0 n1 n2 n3
  obtain ⟨n0, n1, n2, n3⟩ := K29.cells
  obtain ⟨k0, k1, k2, k3, k4, k5⟩ := Z29.cells
  go_wp2_with fail
  refine (iv _ Z29.hT).mono ?_
  rintro e w30 ⟨rfl, hb⟩
  have Z30 := Z29.next hb
  have K30 := K29.next hb
  clear Z29 hb k0 k1 k2 k3 k4 k5
  clear K29 n0 n1 n2 n3
  obtain ⟨n0, n1, n2, n3⟩ := K30.cells
  obtain ⟨k0, k1, k2, k3, k4, k5⟩ := Z30.cells
  go_wp2_with fail
  refine (p0 _ _ Z30.hT K30).mono ?_
  rintro e w31 ⟨rfl, hb⟩
  have Z31 := Z30.next hb
  have K31 := K30.next hb
  clear Z30 hb k0 k1 k2 k3 k4 k5
  clear K30 n0 n1 n2 n3
  obtain ⟨n0, n1, n2, n3⟩ := K31.cells
  obtain ⟨k0, k1, k2, k3, k4, k5⟩ := Z31.cells
  go_wp2_with fail
  refine (alive_any _ Z31.hT).mono ?_
  rintro e w32 ⟨rfl, hb⟩
  have Z32 := Z31.next hb
  have K32 := K31.next hb
  clear Z31 hb k0 k1 k2 k3 k4 k5
  clear K31 n0 n1 n2 n3
  obtain ⟨n0, n1, n2, n3⟩ := K32.cells
  obtain ⟨k0, k1, k2, k3, k4, k5⟩ := Z32.cells
  go_wp2
  go_ret
  exact ⟨rfl, Z32.hB⟩
end Go.Proofs.YthikanoalcjdgaaDoor
