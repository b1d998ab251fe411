/- galois: the walks of GaloisExponents and GaloisLogarithms (written by genex.py). -/
import Derived.Test.YtjbaleadahefoaaDoorYe
set_option linter.unusedVariables false
namespace Go.Proofs.YtjbaleadahefoaaDoor
open Go.RowKit

set_option maxRecDepth 100000 in
theorem exps_nov (c n q a b k m : Int) (hv_ : EV c n q false) (w : World) (hT : Tb w) :
    Calls Tryd.prog 8 #[.agg #[.int .i64 c, .int .i64 n, .int .i64 q, .int .i64 a, .int .i64 b, .int .i64 k], .int .i64 m] w fun e w' => e = .returned (.bool true) ∧ Below w.heap.size w w' := by
  have E0 := Ek.new w c n q a b k hT
  clear hT
  obtain ⟨k0, k1, k2, k3, k4, k5⟩ := E0.cells
  go_enter Tryd.func8, Tryd.ntmps8
  go_wp2_with fail
  generalize (w.alloc (.cells #[.int .i64 c, .int .i64 n, .int .i64 q, .int .i64 a, .int .i64 b, .int .i64 k] 32)) = v0 at *
  refine (hv_ _ ).mono ?_
  rintro e w1 ⟨rfl, hb⟩
  have E1 := E0.next hb
  clear E0 hb k0 k1 k2 k3 k4 k5
  obtain ⟨k0, k1, k2, k3, k4, k5⟩ := E1.cells
  go_wp2_with fail
  refine (alive_any _ E1.hT).mono ?_
  rintro e w2 ⟨rfl, hb⟩
  have E2 := E1.next hb
  clear E1 hb k0 k1 k2 k3 k4 k5
  obtain ⟨k0, k1, k2, k3, k4, k5⟩ := E2.cells
  go_wp2
  go_ret
  exact ⟨rfl, E2.hB⟩
set_option maxRecDepth 100000 in
theorem exps_noa (c n q a b k m : Int) (hv_ : EV c n q true) (ha_ : EE c n q a false) (w : World) (hT : Tb w) :
    Calls Tryd.prog 8 #[.agg #[.int .i64 c, .int .i64 n, .int .i64 q, .int .i64 a, .int .i64 b, .int .i64 k], .int .i64 m] w fun e w' => e = .returned (.bool true) ∧ Below w.heap.size w w' := by
  have E0 := Ek.new w c n q a b k hT
  clear hT
  obtain ⟨k0, k1, k2, k3, k4, k5⟩ := E0.cells
  go_enter Tryd.func8, Tryd.ntmps8
  go_wp2_with fail
  generalize (w.alloc (.cells #[.int .i64 c, .int .i64 n, .int .i64 q, .int .i64 a, .int .i64 b, .int .i64 k] 32)) = v0 at *
  refine (hv_ _ ).mono ?_
  rintro e w1 ⟨rfl, hb⟩
  have E1 := E0.next hb
  clear E0 hb k0 k1 k2 k3 k4 k5
  obtain ⟨k0, k1, k2, k3, k4, k5⟩ := E1.cells
  go_wp2_with fail
  refine (ha_ _ ).mono ?_
  rintro e w2 ⟨rfl, hb⟩
  have E2 := E1.next hb
  clear E1 hb k0 k1 k2 k3 k4 k5
  obtain ⟨k0, k1, k2, k3, k4, k5⟩ := E2.cells
  go_wp2_with fail
  refine (alive_any _ E2.hT).mono ?_
  rintro e w3 ⟨rfl, hb⟩
  have E3 := E2.next hb
  clear E2 hb k0 k1 k2 k3 k4 k5
  obtain ⟨k0, k1, k2, k3, k4, k5⟩ := E3.cells
  go_wp2
  go_ret
  exact ⟨rfl, E3.hB⟩
set_option maxRecDepth 100000 in
theorem exps_nob (c n q a b k m : Int) (hv_ : EV c n q true) (ha_ : EE c n q a true) (hb_ : EE c n q b false) (w : World) (hT : Tb w) :
    Calls Tryd.prog 8 #[.agg #[.int .i64 c, .int .i64 n, .int .i64 q, .int .i64 a, .int .i64 b, .int .i64 k], .int .i64 m] w fun e w' => e = .returned (.bool true) ∧ Below w.heap.size w w' := by
  have E0 := Ek.new w c n q a b k hT
  clear hT
  obtain ⟨k0, k1, k2, k3, k4, k5⟩ := E0.cells
  go_enter Tryd.func8, Tryd.ntmps8
  go_wp2_with fail
  generalize (w.alloc (.cells #[.int .i64 c, .int .i64 n, .int .i64 q, .int .i64 a, .int .i64 b, .int .i64 k] 32)) = v0 at *
  refine (hv_ _ ).mono ?_
  rintro e w1 ⟨rfl, hb⟩
  have E1 := E0.next hb
  clear E0 hb k0 k1 k2 k3 k4 k5
  obtain ⟨k0, k1, k2, k3, k4, k5⟩ := E1.cells
  go_wp2_with fail
  refine (ha_ _ ).mono ?_
  rintro e w2 ⟨rfl, hb⟩
  have E2 := E1.next hb
  clear E1 hb k0 k1 k2 k3 k4 k5
  obtain ⟨k0, k1, k2, k3, k4, k5⟩ := E2.cells
  go_wp2_with fail
  refine (hb_ _ ).mono ?_
  rintro e w3 ⟨rfl, hb⟩
  have E3 := E2.next hb
  clear E2 hb k0 k1 k2 k3 k4 k5
  obtain ⟨k0, k1, k2, k3, k4, k5⟩ := E3.cells
  go_wp2_with fail
  refine (alive_any _ E3.hT).mono ?_
  rintro e w4 ⟨rfl, hb⟩
  have E4 := E3.next hb
  clear E3 hb k0 k1 k2 k3 k4 k5
  obtain ⟨k0, k1, k2, k3, k4, k5⟩ := E4.cells
  go_wp2
  go_ret
  exact ⟨rfl, E4.hB⟩
set_option maxRecDepth 100000 in
theorem exps_a0 (c n q a b k m : Int) (hv_ : EV c n q true) (ha_ : EE c n q a true) (hb_ : EE c n q b true) (h1 : Hid (a = 0)) (w : World) (hT : Tb w) :
    Calls Tryd.prog 8 #[.agg #[.int .i64 c, .int .i64 n, .int .i64 q, .int .i64 a, .int .i64 b, .int .i64 k], .int .i64 m] w fun e w' => e = .returned (.bool true) ∧ Below w.heap.size w w' := by
  have E0 := Ek.new w c n q a b k hT
  clear hT
  obtain ⟨k0, k1, k2, k3, k4, k5⟩ := E0.cells
  go_enter Tryd.func8, Tryd.ntmps8
  go_wp2_with fail
  generalize (w.alloc (.cells #[.int .i64 c, .int .i64 n, .int .i64 q, .int .i64 a, .int .i64 b, .int .i64 k] 32)) = v0 at *
  refine (hv_ _ ).mono ?_
  rintro e w1 ⟨rfl, hb⟩
  have E1 := E0.next hb
  clear E0 hb k0 k1 k2 k3 k4 k5
  obtain ⟨k0, k1, k2, k3, k4, k5⟩ := E1.cells
  go_wp2_with fail
  refine (ha_ _ ).mono ?_
  rintro e w2 ⟨rfl, hb⟩
  have E2 := E1.next hb
  clear E1 hb k0 k1 k2 k3 k4 k5
  obtain ⟨k0, k1, k2, k3, k4, k5⟩ := E2.cells
  go_wp2_with fail
  refine (hb_ _ ).mono ?_
  rintro e w3 ⟨rfl, hb⟩
  have E3 := E2.next hb
  clear E2 hb k0 k1 k2 k3 k4 k5
  obtain ⟨k0, k1, k2, k3, k4, k5⟩ := E3.cells
  have h1 := h1.out
  go_wp2_with fail
  refine (alive_any _ E3.hT).mono ?_
  rintro e w4 ⟨rfl, hb⟩
  have E4 := E3.next hb
  clear E3 hb k0 k1 k2 k3 k4 k5
  obtain ⟨k0, k1, k2, k3, k4, k5⟩ := E4.cells
  go_wp2
  go_ret
  exact ⟨rfl, E4.hB⟩
set_option maxRecDepth 100000 in
theorem exps_k1 (c n q a b k m : Int) (hv_ : EV c n q true) (ha_ : EE c n q a true) (hb_ : EE c n q b true) (h1 : ¬ a = 0) (h2 : k < -1099511627776) (w : World) (hT : Tb w) :
    Calls Tryd.prog 8 #[.agg #[.int .i64 c, .int .i64 n, .int .i64 q, .int .i64 a, .int .i64 b, .int .i64 k], .int .i64 m] w fun e w' => e = .returned (.bool true) ∧ Below w.heap.size w w' := by
  have E0 := Ek.new w c n q a b k hT
  clear hT
  obtain ⟨k0, k1, k2, k3, k4, k5⟩ := E0.cells
  go_enter Tryd.func8, Tryd.ntmps8
  go_wp2_with fail
  generalize (w.alloc (.cells #[.int .i64 c, .int .i64 n, .int .i64 q, .int .i64 a, .int .i64 b, .int .i64 k] 32)) = v0 at *
  refine (hv_ _ ).mono ?_
  rintro e w1 ⟨rfl, hb⟩
  have E1 := E0.next hb
  clear E0 hb k0 k1 k2 k3 k4 k5
  obtain ⟨k0, k1, k2, k3, k4, k5⟩ := E1.cells
  go_wp2_with fail
  refine (ha_ _ ).mono ?_
  rintro e w2 ⟨rfl, hb⟩
  have E2 := E1.next hb
  clear E1 hb k0 k1 k2 k3 k4 k5
  obtain ⟨k0, k1, k2, k3, k4, k5⟩ := E2.cells
  go_wp2_with fail
  refine (hb_ _ ).mono ?_
  rintro e w3 ⟨rfl, hb⟩
  have E3 := E2.next hb
  clear E2 hb k0 k1 k2 k3 k4 k5
  obtain ⟨k0, k1, k2, k3, k4, k5⟩ := E3.cells
  go_wp2_with fail
  refine (alive_any _ E3.hT).mono ?_
  rintro e w4 ⟨rfl, hb⟩
  have E4 := E3.next hb
  clear E3 hb k0 k1 k2 k3 k4 k5
  obtain ⟨k0, k1, k2, k3, k4, k5⟩ := E4.cells
  go_wp2
  go_ret
  exact ⟨rfl, E4.hB⟩
set_option maxRecDepth 100000 in
theorem exps_k2 (c n q a b k m : Int) (hv_ : EV c n q true) (ha_ : EE c n q a true) (hb_ : EE c n q b true) (h1 : ¬ a = 0) (h2 : ¬ k < -1099511627776) (h3 : 1099511627776 < k) (w : World) (hT : Tb w) :
    Calls Tryd.prog 8 #[.agg #[.int .i64 c, .int .i64 n, .int .i64 q, .int .i64 a, .int .i64 b, .int .i64 k], .int .i64 m] w fun e w' => e = .returned (.bool true) ∧ Below w.heap.size w w' := by
  have E0 := Ek.new w c n q a b k hT
  clear hT
  obtain ⟨k0, k1, k2, k3, k4, k5⟩ := E0.cells
  go_enter Tryd.func8, Tryd.ntmps8
  go_wp2_with fail
  generalize (w.alloc (.cells #[.int .i64 c, .int .i64 n, .int .i64 q, .int .i64 a, .int .i64 b, .int .i64 k] 32)) = v0 at *
  refine (hv_ _ ).mono ?_
  rintro e w1 ⟨rfl, hb⟩
  have E1 := E0.next hb
  clear E0 hb k0 k1 k2 k3 k4 k5
  obtain ⟨k0, k1, k2, k3, k4, k5⟩ := E1.cells
  go_wp2_with fail
  refine (ha_ _ ).mono ?_
  rintro e w2 ⟨rfl, hb⟩
  have E2 := E1.next hb
  clear E1 hb k0 k1 k2 k3 k4 k5
  obtain ⟨k0, k1, k2, k3, k4, k5⟩ := E2.cells
  go_wp2_with fail
  refine (hb_ _ ).mono ?_
  rintro e w3 ⟨rfl, hb⟩
  have E3 := E2.next hb
  clear E2 hb k0 k1 k2 k3 k4 k5
  obtain ⟨k0, k1, k2, k3, k4, k5⟩ := E3.cells
  go_wp2_with fail
  refine (alive_any _ E3.hT).mono ?_
  rintro e w4 ⟨rfl, hb⟩
  have E4 := E3.next hb
  clear E3 hb k0 k1 k2 k3 k4 k5
  obtain ⟨k0, k1, k2, k3, k4, k5⟩ := E4.cells
  go_wp2
  go_ret
  exact ⟨rfl, E4.hB⟩
set_option maxRecDepth 100000 in
theorem exps_m1 (c n q a b k m : Int) (hv_ : EV c n q true) (ha_ : EE c n q a true) (hb_ : EE c n q b true) (h1 : ¬ a = 0) (h2 : ¬ k < -1099511627776) (h3 : ¬ 1099511627776 < k) (h4 : m < -1099511627776) (w : World) (hT : Tb w) :
    Calls Tryd.prog 8 #[.agg #[.int .i64 c, .int .i64 n, .int .i64 q, .int .i64 a, .int .i64 b, .int .i64 k], .int .i64 m] w fun e w' => e = .returned (.bool true) ∧ Below w.heap.size w w' := by
  have E0 := Ek.new w c n q a b k hT
  clear hT
  obtain ⟨k0, k1, k2, k3, k4, k5⟩ := E0.cells
  go_enter Tryd.func8, Tryd.ntmps8
  go_wp2_with fail
  generalize (w.alloc (.cells #[.int .i64 c, .int .i64 n, .int .i64 q, .int .i64 a, .int .i64 b, .int .i64 k] 32)) = v0 at *
  refine (hv_ _ ).mono ?_
  rintro e w1 ⟨rfl, hb⟩
  have E1 := E0.next hb
  clear E0 hb k0 k1 k2 k3 k4 k5
  obtain ⟨k0, k1, k2, k3, k4, k5⟩ := E1.cells
  go_wp2_with fail
  refine (ha_ _ ).mono ?_
  rintro e w2 ⟨rfl, hb⟩
  have E2 := E1.next hb
  clear E1 hb k0 k1 k2 k3 k4 k5
  obtain ⟨k0, k1, k2, k3, k4, k5⟩ := E2.cells
  go_wp2_with fail
  refine (hb_ _ ).mono ?_
  rintro e w3 ⟨rfl, hb⟩
  have E3 := E2.next hb
  clear E2 hb k0 k1 k2 k3 k4 k5
  obtain ⟨k0, k1, k2, k3, k4, k5⟩ := E3.cells
  go_wp2_with fail
  refine (alive_any _ E3.hT).mono ?_
  rintro e w4 ⟨rfl, hb⟩
  have E4 := E3.next hb
  clear E3 hb k0 k1 k2 k3 k4 k5
  obtain ⟨k0, k1, k2, k3, k4, k5⟩ := E4.cells
  go_wp2
  go_ret
  exact ⟨rfl, E4.hB⟩
set_option maxRecDepth 100000 in
theorem exps_m2 (c n q a b k m : Int) (hv_ : EV c n q true) (ha_ : EE c n q a true) (hb_ : EE c n q b true) (h1 : ¬ a = 0) (h2 : ¬ k < -1099511627776) (h3 : ¬ 1099511627776 < k) (h4 : ¬ m < -1099511627776) (h5 : 1099511627776 < m) (w : World) (hT : Tb w) :
    Calls Tryd.prog 8 #[.agg #[.int .i64 c, .int .i64 n, .int .i64 q, .int .i64 a, .int .i64 b, .int .i64 k], .int .i64 m] w fun e w' => e = .returned (.bool true) ∧ Below w.heap.size w w' := by
  have E0 := Ek.new w c n q a b k hT
  clear hT
  obtain ⟨k0, k1, k2, k3, k4, k5⟩ := E0.cells
  go_enter Tryd.func8, Tryd.ntmps8
  go_wp2_with fail
  generalize (w.alloc (.cells #[.int .i64 c, .int .i64 n, .int .i64 q, .int .i64 a, .int .i64 b, .int .i64 k] 32)) = v0 at *
  refine (hv_ _ ).mono ?_
  rintro e w1 ⟨rfl, hb⟩
  have E1 := E0.next hb
  clear E0 hb k0 k1 k2 k3 k4 k5
  obtain ⟨k0, k1, k2, k3, k4, k5⟩ := E1.cells
  go_wp2_with fail
  refine (ha_ _ ).mono ?_
  rintro e w2 ⟨rfl, hb⟩
  have E2 := E1.next hb
  clear E1 hb k0 k1 k2 k3 k4 k5
  obtain ⟨k0, k1, k2, k3, k4, k5⟩ := E2.cells
  go_wp2_with fail
  refine (hb_ _ ).mono ?_
  rintro e w3 ⟨rfl, hb⟩
  have E3 := E2.next hb
  clear E2 hb k0 k1 k2 k3 k4 k5
  obtain ⟨k0, k1, k2, k3, k4, k5⟩ := E3.cells
  go_wp2_with fail
  refine (alive_any _ E3.hT).mono ?_
  rintro e w4 ⟨rfl, hb⟩
  have E4 := E3.next hb
  clear E3 hb k0 k1 k2 k3 k4 k5
  obtain ⟨k0, k1, k2, k3, k4, k5⟩ := E4.cells
  go_wp2
  go_ret
  exact ⟨rfl, E4.hB⟩
set_option maxRecDepth 100000 in
theorem lgs_nov (c n q a b k : Int) (hv_ : EV c n q false) (w : World) (hT : Tb w) :
    Calls Tryd.prog 9 #[.agg #[.int .i64 c, .int .i64 n, .int .i64 q, .int .i64 a, .int .i64 b, .int .i64 k]] w fun e w' => e = .returned (.bool true) ∧ Below w.heap.size w w' := by
  have E0 := Ek.new w c n q a b k hT
  clear hT
  obtain ⟨k0, k1, k2, k3, k4, k5⟩ := E0.cells
  go_enter Tryd.func9, Tryd.ntmps9
  go_wp2_with fail
  generalize (w.alloc (.cells #[.int .i64 c, .int .i64 n, .int .i64 q, .int .i64 a, .int .i64 b, .int .i64 k] 32)) = v0 at *
  refine (hv_ _ ).mono ?_
  rintro e w1 ⟨rfl, hb⟩
  have E1 := E0.next hb
  clear E0 hb k0 k1 k2 k3 k4 k5
  obtain ⟨k0, k1, k2, k3, k4, k5⟩ := E1.cells
  go_wp2_with fail
  refine (alive_any _ E1.hT).mono ?_
  rintro e w2 ⟨rfl, hb⟩
  have E2 := E1.next hb
  clear E1 hb k0 k1 k2 k3 k4 k5
  obtain ⟨k0, k1, k2, k3, k4, k5⟩ := E2.cells
  go_wp2
  go_ret
  exact ⟨rfl, E2.hB⟩
set_option maxRecDepth 100000 in
theorem lgs_noa (c n q a b k : Int) (hv_ : EV c n q true) (ha_ : EE c n q a false) (w : World) (hT : Tb w) :
    Calls Tryd.prog 9 #[.agg #[.int .i64 c, .int .i64 n, .int .i64 q, .int .i64 a, .int .i64 b, .int .i64 k]] w fun e w' => e = .returned (.bool true) ∧ Below w.heap.size w w' := by
  have E0 := Ek.new w c n q a b k hT
  clear hT
  obtain ⟨k0, k1, k2, k3, k4, k5⟩ := E0.cells
  go_enter Tryd.func9, Tryd.ntmps9
  go_wp2_with fail
  generalize (w.alloc (.cells #[.int .i64 c, .int .i64 n, .int .i64 q, .int .i64 a, .int .i64 b, .int .i64 k] 32)) = v0 at *
  refine (hv_ _ ).mono ?_
  rintro e w1 ⟨rfl, hb⟩
  have E1 := E0.next hb
  clear E0 hb k0 k1 k2 k3 k4 k5
  obtain ⟨k0, k1, k2, k3, k4, k5⟩ := E1.cells
  go_wp2_with fail
  refine (ha_ _ ).mono ?_
  rintro e w2 ⟨rfl, hb⟩
  have E2 := E1.next hb
  clear E1 hb k0 k1 k2 k3 k4 k5
  obtain ⟨k0, k1, k2, k3, k4, k5⟩ := E2.cells
  go_wp2_with fail
  refine (alive_any _ E2.hT).mono ?_
  rintro e w3 ⟨rfl, hb⟩
  have E3 := E2.next hb
  clear E2 hb k0 k1 k2 k3 k4 k5
  obtain ⟨k0, k1, k2, k3, k4, k5⟩ := E3.cells
  go_wp2
  go_ret
  exact ⟨rfl, E3.hB⟩
set_option maxRecDepth 100000 in
theorem lgs_nob (c n q a b k : Int) (hv_ : EV c n q true) (ha_ : EE c n q a true) (hb_ : EE c n q b false) (w : World) (hT : Tb w) :
    Calls Tryd.prog 9 #[.agg #[.int .i64 c, .int .i64 n, .int .i64 q, .int .i64 a, .int .i64 b, .int .i64 k]] w fun e w' => e = .returned (.bool true) ∧ Below w.heap.size w w' := by
  have E0 := Ek.new w c n q a b k hT
  clear hT
  obtain ⟨k0, k1, k2, k3, k4, k5⟩ := E0.cells
  go_enter Tryd.func9, Tryd.ntmps9
  go_wp2_with fail
  generalize (w.alloc (.cells #[.int .i64 c, .int .i64 n, .int .i64 q, .int .i64 a, .int .i64 b, .int .i64 k] 32)) = v0 at *
  refine (hv_ _ ).mono ?_
  rintro e w1 ⟨rfl, hb⟩
  have E1 := E0.next hb
  clear E0 hb k0 k1 k2 k3 k4 k5
  obtain ⟨k0, k1, k2, k3, k4, k5⟩ := E1.cells
  go_wp2_with fail
  refine (ha_ _ ).mono ?_
  rintro e w2 ⟨rfl, hb⟩
  have E2 := E1.next hb
  clear E1 hb k0 k1 k2 k3 k4 k5
  obtain ⟨k0, k1, k2, k3, k4, k5⟩ := E2.cells
  go_wp2_with fail
  refine (hb_ _ ).mono ?_
  rintro e w3 ⟨rfl, hb⟩
  have E3 := E2.next hb
  clear E2 hb k0 k1 k2 k3 k4 k5
  obtain ⟨k0, k1, k2, k3, k4, k5⟩ := E3.cells
  go_wp2_with fail
  refine (alive_any _ E3.hT).mono ?_
  rintro e w4 ⟨rfl, hb⟩
  have E4 := E3.next hb
  clear E3 hb k0 k1 k2 k3 k4 k5
  obtain ⟨k0, k1, k2, k3, k4, k5⟩ := E4.cells
  go_wp2
  go_ret
  exact ⟨rfl, E4.hB⟩
set_option maxRecDepth 100000 in
theorem lgs_a0 (c n q a b k : Int) (hv_ : EV c n q true) (ha_ : EE c n q a true) (hb_ : EE c n q b true) (h1 : Hid (a = 0)) (w : World) (hT : Tb w) :
    Calls Tryd.prog 9 #[.agg #[.int .i64 c, .int .i64 n, .int .i64 q, .int .i64 a, .int .i64 b, .int .i64 k]] w fun e w' => e = .returned (.bool true) ∧ Below w.heap.size w w' := by
  have E0 := Ek.new w c n q a b k hT
  clear hT
  obtain ⟨k0, k1, k2, k3, k4, k5⟩ := E0.cells
  go_enter Tryd.func9, Tryd.ntmps9
  go_wp2_with fail
  generalize (w.alloc (.cells #[.int .i64 c, .int .i64 n, .int .i64 q, .int .i64 a, .int .i64 b, .int .i64 k] 32)) = v0 at *
  refine (hv_ _ ).mono ?_
  rintro e w1 ⟨rfl, hb⟩
  have E1 := E0.next hb
  clear E0 hb k0 k1 k2 k3 k4 k5
  obtain ⟨k0, k1, k2, k3, k4, k5⟩ := E1.cells
  go_wp2_with fail
  refine (ha_ _ ).mono ?_
  rintro e w2 ⟨rfl, hb⟩
  have E2 := E1.next hb
  clear E1 hb k0 k1 k2 k3 k4 k5
  obtain ⟨k0, k1, k2, k3, k4, k5⟩ := E2.cells
  go_wp2_with fail
  refine (hb_ _ ).mono ?_
  rintro e w3 ⟨rfl, hb⟩
  have E3 := E2.next hb
  clear E2 hb k0 k1 k2 k3 k4 k5
  obtain ⟨k0, k1, k2, k3, k4, k5⟩ := E3.cells
  have h1 := h1.out
  go_wp2_with fail
  refine (alive_any _ E3.hT).mono ?_
  rintro e w4 ⟨rfl, hb⟩
  have E4 := E3.next hb
  clear E3 hb k0 k1 k2 k3 k4 k5
  obtain ⟨k0, k1, k2, k3, k4, k5⟩ := E4.cells
  go_wp2
  go_ret
  exact ⟨rfl, E4.hB⟩
set_option maxRecDepth 100000 in
theorem lgs_b0 (c n q a b k : Int) (hv_ : EV c n q true) (ha_ : EE c n q a true) (hb_ : EE c n q b true) (h1 : ¬ a = 0) (h2 : Hid (b = 0)) (w : World) (hT : Tb w) :
    Calls Tryd.prog 9 #[.agg #[.int .i64 c, .int .i64 n, .int .i64 q, .int .i64 a, .int .i64 b, .int .i64 k]] w fun e w' => e = .returned (.bool true) ∧ Below w.heap.size w w' := by
  have E0 := Ek.new w c n q a b k hT
  clear hT
  obtain ⟨k0, k1, k2, k3, k4, k5⟩ := E0.cells
  go_enter Tryd.func9, Tryd.ntmps9
  go_wp2_with fail
  generalize (w.alloc (.cells #[.int .i64 c, .int .i64 n, .int .i64 q, .int .i64 a, .int .i64 b, .int .i64 k] 32)) = v0 at *
  refine (hv_ _ ).mono ?_
  rintro e w1 ⟨rfl, hb⟩
  have E1 := E0.next hb
  clear E0 hb k0 k1 k2 k3 k4 k5
  obtain ⟨k0, k1, k2, k3, k4, k5⟩ := E1.cells
  go_wp2_with fail
  refine (ha_ _ ).mono ?_
  rintro e w2 ⟨rfl, hb⟩
  have E2 := E1.next hb
  clear E1 hb k0 k1 k2 k3 k4 k5
  obtain ⟨k0, k1, k2, k3, k4, k5⟩ := E2.cells
  go_wp2_with fail
  refine (hb_ _ ).mono ?_
  rintro e w3 ⟨rfl, hb⟩
  have E3 := E2.next hb
  clear E2 hb k0 k1 k2 k3 k4 k5
  obtain ⟨k0, k1, k2, k3, k4, k5⟩ := E3.cells
  have h2 := h2.out
  go_wp2_with fail
  refine (alive_any _ E3.hT).mono ?_
  rintro e w4 ⟨rfl, hb⟩
  have E4 := E3.next hb
  clear E3 hb k0 k1 k2 k3 k4 k5
  obtain ⟨k0, k1, k2, k3, k4, k5⟩ := E4.cells
  go_wp2
  go_ret
  exact ⟨rfl, E4.hB⟩
end Go.Proofs.YtjbaleadahefoaaDoor
