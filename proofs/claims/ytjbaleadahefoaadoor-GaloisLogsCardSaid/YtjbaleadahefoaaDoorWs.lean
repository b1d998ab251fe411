/- galois: law GaloisCalculates, the walk. -/
import Derived.Test.YtjbaleadahefoaaDoorWr
import Derived.Test.YtjbaleadahefoaaDoorWm
set_option linter.unusedVariables false
namespace Go.Proofs.YtjbaleadahefoaaDoor
open Go.RowKit

/-- the law's argument lies at block g -/
structure Ak (w : World) (g : Nat) (c n q a b k : Int) : Prop where
  c0 : w.cell? ⟨g, 0, none⟩ = some (.int .i64 c)
  c1 : w.cell? ⟨g, 1, none⟩ = some (.int .i64 n)
  c2 : w.cell? ⟨g, 2, none⟩ = some (.int .i64 q)
  c3 : w.cell? ⟨g, 3, none⟩ = some (.int .i64 a)
  c4 : w.cell? ⟨g, 4, none⟩ = some (.int .i64 b)
  c5 : w.cell? ⟨g, 5, none⟩ = some (.int .i64 k)
  lt : g < w.heap.size
theorem Ak.next {w w' : World} {g : Nat} {c n q a b k : Int} (h : Ak w g c n q a b k) (hb : Below w.heap.size w w') : Ak w' g c n q a b k :=
  ⟨(hb.cell (p := ⟨g, 0, none⟩) h.lt).trans h.c0, (hb.cell (p := ⟨g, 1, none⟩) h.lt).trans h.c1, (hb.cell (p := ⟨g, 2, none⟩) h.lt).trans h.c2, (hb.cell (p := ⟨g, 3, none⟩) h.lt).trans h.c3, (hb.cell (p := ⟨g, 4, none⟩) h.lt).trans h.c4, (hb.cell (p := ⟨g, 5, none⟩) h.lt).trans h.c5, Nat.lt_of_lt_of_le h.lt hb.size⟩
theorem Ak.new (w : World) (c n q a b k : Int) : Ak (w.alloc (.cells #[.int .i64 c, .int .i64 n, .int .i64 q, .int .i64 a, .int .i64 b, .int .i64 k] 32)) w.heap.size c n q a b k := by
  refine ⟨?_, ?_, ?_, ?_, ?_, ?_, ?_⟩
  all_goals first | (simp [World.cell?]; done) | simp

set_option maxRecDepth 100000 in
theorem calculates_any (c n q a b k : Int) (hc : I64 c) (hn : I64 n) (hq : I64 q) (ha : I64 a) (hb : I64 b) (w : World) (hT : Tb w) :
    Calls Tryd.prog 4 #[.agg #[.int .i64 c, .int .i64 n, .int .i64 q, .int .i64 a, .int .i64 b, .int .i64 k]] w fun e w' => e = .returned (.bool true) ∧ Below w.heap.size w w' := by
  obtain ⟨z1, e1, A1, S1⟩ := add_pair hc hn hq ha hb
  obtain ⟨z2, e2, A2, S2⟩ := sub_pair hc hn hq ha hb
  obtain ⟨z3, e3, A3, S3⟩ := mul_pair hc hn hq ha hb
  obtain ⟨z4, e4, A4, S4⟩ := div_pair hc hn hq ha hb
  obtain ⟨z5, e5, A5, S5⟩ := inv_pair hc hn hq ha
  have X1 := Lib.hid A1
  have X2 := Lib.hid S1
  have X3 := Lib.hid A2
  have X4 := Lib.hid S2
  have X5 := Lib.hid A3
  have X6 := Lib.hid S3
  have X7 := Lib.hid A4
  have X8 := Lib.hid S4
  have X9 := Lib.hid A5
  have X10 := Lib.hid S5
  clear A1 S1 A2 S2 A3 S3 A4 S4 A5 S5 hc hn hq ha hb
  have hB0 := below_new w (.cells #[.int .i64 c, .int .i64 n, .int .i64 q, .int .i64 a, .int .i64 b, .int .i64 k] 32)
  have F0 := Ak.new w c n q a b k
  have hT0 := hT.next hB0
  clear hT
  obtain ⟨k0, k1, k2, k3, k4, k5, k6⟩ := F0
  have F0 : Ak _ w.heap.size c n q a b k := ⟨k0, k1, k2, k3, k4, k5, k6⟩
  go_enter Tryd.func4, Tryd.ntmps4
  go_wp2_with fail
  generalize (w.alloc (.cells #[.int .i64 c, .int .i64 n, .int .i64 q, .int .i64 a, .int .i64 b, .int .i64 k] 32)) = v0 at *
  refine (X1.out _ hT0).mono ?_
  rintro e w1 ⟨rfl, hb⟩
  clear X1
  have F1 := F0.next hb
  have hB1 := below_step hB0 hb
  have hT1 := hT0.next hb
  clear F0 hB0 hT0 hb k0 k1 k2 k3 k4 k5 k6
  obtain ⟨k0, k1, k2, k3, k4, k5, k6⟩ := F1
  have F1 : Ak _ w.heap.size c n q a b k := ⟨k0, k1, k2, k3, k4, k5, k6⟩
  go_wp2_with fail
  refine (X2.out _ ).mono ?_
  rintro e w2 ⟨rfl, hb⟩
  clear X2
  have F2 := F1.next hb
  have hB2 := below_step hB1 hb
  have hT2 := hT1.next hb
  clear F1 hB1 hT1 hb k0 k1 k2 k3 k4 k5 k6
  obtain ⟨k0, k1, k2, k3, k4, k5, k6⟩ := F2
  have F2 : Ak _ w.heap.size c n q a b k := ⟨k0, k1, k2, k3, k4, k5, k6⟩
  go_wp2_with fail
  refine (X3.out _ hT2).mono ?_
  rintro e w3 ⟨rfl, hb⟩
  clear X3
  have F3 := F2.next hb
  have hB3 := below_step hB2 hb
  have hT3 := hT2.next hb
  clear F2 hB2 hT2 hb k0 k1 k2 k3 k4 k5 k6
  obtain ⟨k0, k1, k2, k3, k4, k5, k6⟩ := F3
  have F3 : Ak _ w.heap.size c n q a b k := ⟨k0, k1, k2, k3, k4, k5, k6⟩
  go_wp2_with fail
  refine (X4.out _ ).mono ?_
  rintro e w4 ⟨rfl, hb⟩
  clear X4
  have F4 := F3.next hb
  have hB4 := below_step hB3 hb
  have hT4 := hT3.next hb
  clear F3 hB3 hT3 hb k0 k1 k2 k3 k4 k5 k6
  obtain ⟨k0, k1, k2, k3, k4, k5, k6⟩ := F4
  have F4 : Ak _ w.heap.size c n q a b k := ⟨k0, k1, k2, k3, k4, k5, k6⟩
  go_wp2_with fail
  refine (X5.out _ hT4).mono ?_
  rintro e w5 ⟨rfl, hb⟩
  clear X5
  have F5 := F4.next hb
  have hB5 := below_step hB4 hb
  have hT5 := hT4.next hb
  clear F4 hB4 hT4 hb k0 k1 k2 k3 k4 k5 k6
  obtain ⟨k0, k1, k2, k3, k4, k5, k6⟩ := F5
  have F5 : Ak _ w.heap.size c n q a b k := ⟨k0, k1, k2, k3, k4, k5, k6⟩
  go_wp2_with fail
  refine (X6.out _ ).mono ?_
  rintro e w6 ⟨rfl, hb⟩
  clear X6
  have F6 := F5.next hb
  have hB6 := below_step hB5 hb
  have hT6 := hT5.next hb
  clear F5 hB5 hT5 hb k0 k1 k2 k3 k4 k5 k6
  obtain ⟨k0, k1, k2, k3, k4, k5, k6⟩ := F6
  have F6 : Ak _ w.heap.size c n q a b k := ⟨k0, k1, k2, k3, k4, k5, k6⟩
  go_wp2_with fail
  refine (X7.out _ hT6).mono ?_
  rintro e w7 ⟨rfl, hb⟩
  clear X7
  have F7 := F6.next hb
  have hB7 := below_step hB6 hb
  have hT7 := hT6.next hb
  clear F6 hB6 hT6 hb k0 k1 k2 k3 k4 k5 k6
  obtain ⟨k0, k1, k2, k3, k4, k5, k6⟩ := F7
  have F7 : Ak _ w.heap.size c n q a b k := ⟨k0, k1, k2, k3, k4, k5, k6⟩
  go_wp2_with fail
  refine (X8.out _ ).mono ?_
  rintro e w8 ⟨rfl, hb⟩
  clear X8
  have F8 := F7.next hb
  have hB8 := below_step hB7 hb
  have hT8 := hT7.next hb
  clear F7 hB7 hT7 hb k0 k1 k2 k3 k4 k5 k6
  obtain ⟨k0, k1, k2, k3, k4, k5, k6⟩ := F8
  have F8 : Ak _ w.heap.size c n q a b k := ⟨k0, k1, k2, k3, k4, k5, k6⟩
  go_wp2_with fail
  refine (X9.out _ hT8).mono ?_
  rintro e w9 ⟨rfl, hb⟩
  clear X9
  have F9 := F8.next hb
  have hB9 := below_step hB8 hb
  have hT9 := hT8.next hb
  clear F8 hB8 hT8 hb k0 k1 k2 k3 k4 k5 k6
  obtain ⟨k0, k1, k2, k3, k4, k5, k6⟩ := F9
  have F9 : Ak _ w.heap.size c n q a b k := ⟨k0, k1, k2, k3, k4, k5, k6⟩
  go_wp2_with fail
  refine (X10.out _ ).mono ?_
  rintro e w10 ⟨rfl, hb⟩
  clear X10
  have F10 := F9.next hb
  have hB10 := below_step hB9 hb
  have hT10 := hT9.next hb
  clear F9 hB9 hT9 hb k0 k1 k2 k3 k4 k5 k6
  obtain ⟨k0, k1, k2, k3, k4, k5, k6⟩ := F10
  have F10 : Ak _ w.heap.size c n q a b k := ⟨k0, k1, k2, k3, k4, k5, k6⟩
  go_wp2_with fail
  refine (alive_any _ hT10).mono ?_
  rintro e w11 ⟨rfl, hb⟩
  have hB11 := below_step hB10 hb
  clear F10 hB10 hT10 hb k0 k1 k2 k3 k4 k5 k6
  go_wp2
  go_ret
  exact ⟨rfl, hB11⟩
end Go.Proofs.YtjbaleadahefoaaDoor
