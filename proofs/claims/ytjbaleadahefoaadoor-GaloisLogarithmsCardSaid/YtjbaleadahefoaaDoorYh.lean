/- galois: the main walks of GaloisExponents and GaloisLogarithms (written by genex.py). -/
import Derived.Test.YtjbaleadahefoaaDoorYe
set_option linter.unusedVariables false
namespace Go.Proofs.YtjbaleadahefoaaDoor
open Go.RowKit

set_option maxHeartbeats 2000000 in
set_option maxRecDepth 100000 in
theorem exps_ok (c n q a b k m od z12 z1 z2 s f fa fb : Int) (hv_ : EV c n q true) (ha_ : EE c n q a true) (hb_ : EE c n q b true) (h1 : ¬ a = 0) (h2 : ¬ k < -1099511627776) (h3 : ¬ 1099511627776 < k) (h4 : ¬ m < -1099511627776) (h5 : ¬ 1099511627776 < m) (hn2 : 2 ≤ n) (hn4 : n ≤ 4096)
    (hO : ∀ w, Tb w → Calls Tryd.prog 31 #[.agg #[.int .i64 c, .int .i64 n, .int .i64 q], .int .i64 a] w fun e w' => e = .returned (.tuple #[.int .i64 od, .int .i64 0]) ∧ Below w.heap.size w w')
    (ho1 : 1 ≤ od) (ho2 : (n - 1).tmod od = 0) (p0 : EP c n q a od 1) (p1 : EP c n q a (k + m) z12) (p2 : EP c n q a k z1) (p3 : EP c n q a m z2) (q1 : EM c n q z1 z2 z12) (s1 : EA c n q a b s) (p4 : EP c n q s c f) (p5 : EP c n q a c fa) (p6 : EP c n q b c fb) (s2 : EA c n q fa fb f) (w : World) (hT : Tb w) :
    Calls Tryd.prog 8 #[.agg #[.int .i64 c, .int .i64 n, .int .i64 q, .int .i64 a, .int .i64 b, .int .i64 k], .int .i64 m] w fun e w' => e = .returned (.bool true) ∧ Below w.heap.size w w' := by
  have E0 := Ek.new w c n q a b k hT
  clear hT
  obtain ⟨k0, k1, k2, k3, k4, k5⟩ := E0.cells
  go_enter Tryd.func8, Tryd.ntmps8
  go_wp2_with fail
  generalize (w.alloc (.cells #[.int .i64 c, .int .i64 n, .int .i64 q, .int .i64 a, .int .i64 b, .int .i64 k] 32)) = v0 at *
  refine (hv_ _ ).mono ?_
  rintro e w1 ⟨rfl, hb⟩
  have E1 := E0.next hb
  clear E0 hb k0 k1 k2 k3 k4 k5
  obtain ⟨k0, k1, k2, k3, k4, k5⟩ := E1.cells
  go_wp2_with fail
  refine (ha_ _ ).mono ?_
  rintro e w2 ⟨rfl, hb⟩
  have E2 := E1.next hb
  clear E1 hb k0 k1 k2 k3 k4 k5
  obtain ⟨k0, k1, k2, k3, k4, k5⟩ := E2.cells
  go_wp2_with fail
  refine (hb_ _ ).mono ?_
  rintro e w3 ⟨rfl, hb⟩
  have E3 := E2.next hb
  clear E2 hb k0 k1 k2 k3 k4 k5
  obtain ⟨k0, k1, k2, k3, k4, k5⟩ := E3.cells
  have f1 : (a == 0) = false := by simpa using h1
  have f2 : decide (k < -1099511627776) = false := decide_eq_false (by omega)
  have f3 : decide (1099511627776 < k) = false := decide_eq_false (by omega)
  have f4 : decide (m < -1099511627776) = false := decide_eq_false (by omega)
  have f5 : decide (1099511627776 < m) = false := decide_eq_false (by omega)
  have hkm : IntKind.i64.wrap (k + m) = k + m := by rw [IntKind.wrap_i64]; omega
  rw [← hkm] at p1
  clear hkm
  have hn1 : wrap64 (n - 1) = n - 1 := by unfold wrap64; omega
  have hod0 : ¬ od = 0 := by omega
  have hod1 : ¬ od < 1 := by omega
  have hb := below_new w3 (.cells #[.int .i64 c, .int .i64 n, .int .i64 q, .bool true] 42)
  have E4 := E3.next hb
  have K4 : Kc (w3.alloc (.cells #[.int .i64 c, .int .i64 n, .int .i64 q, .bool true] 42)) w3.heap.size c n q := Kc.new w3 c n q
  obtain ⟨m0, m1, m2, m3, m4, m5⟩ := E4.cells
  obtain ⟨n0, n1, n2, n3⟩ := K4.cells
  go_wp2_with fail
  clear E3 hb k0 k1 k2 k3 k4 k5
  generalize w3.heap.size = gk at *
  generalize (w3.alloc (.cells #[.int .i64 c, .int .i64 n, .int .i64 q, .bool true] 42)) = w4 at *
  clear m0 m1 m2 m3 m4 m5
  obtain ⟨k0, k1, k2, k3, k4, k5⟩ := E4.cells
  refine (hO _ E4.hT).mono ?_
  rintro e w5 ⟨rfl, hb⟩
  have E5 := E4.next hb
  have K5 := K4.next hb
  clear E4 hb k0 k1 k2 k3 k4 k5
  clear K4 n0 n1 n2 n3
  obtain ⟨n0, n1, n2, n3⟩ := K5.cells
  obtain ⟨k0, k1, k2, k3, k4, k5⟩ := E5.cells
  go_wp2_with fail
  refine (p0 _ _ E5.hT K5).mono ?_
  rintro e w6 ⟨rfl, hb⟩
  have E6 := E5.next hb
  have R0 : EK w w6.drew w.heap.size gk c n q a b k := ⟨(E5.next hb).drew, (show Kc w6 gk c n q from K5.next hb)⟩
  clear E5 K5 hb k0 k1 k2 k3 k4 k5 n0 n1 n2 n3
  obtain ⟨k0, k1, k2, k3, k4, k5, n0, n1, n2, n3⟩ := R0.cells
  obtain ⟨m0, m1, m2, m3, m4, m5⟩ := E6.cells
  go_wp2_with fail
  unfold EP at p1 p2 p3 p4 p5 p6
  unfold EM at q1
  unfold EA at s1 s2
  clear m0 m1 m2 m3 m4 m5 E6 hv_ ha_ hb_ hO p0 ho1 ho2 f1 f2 f3 f4 f5 hn1 hod0 hod1 h1 h2 h3 h4 h5 hn2 hn4
  go_region_held3 (fun V => V.cell? ⟨w.heap.size, 0, none⟩ = some (.int .i64 c) ∧ V.cell? ⟨w.heap.size, 1, none⟩ = some (.int .i64 n) ∧ V.cell? ⟨w.heap.size, 2, none⟩ = some (.int .i64 q) ∧ V.cell? ⟨w.heap.size, 3, none⟩ = some (.int .i64 a) ∧ V.cell? ⟨w.heap.size, 4, none⟩ = some (.int .i64 b) ∧ V.cell? ⟨w.heap.size, 5, none⟩ = some (.int .i64 k) ∧ V.cell? ⟨gk, 0, none⟩ = some (.int .i64 c) ∧ V.cell? ⟨gk, 1, none⟩ = some (.int .i64 n) ∧ V.cell? ⟨gk, 2, none⟩ = some (.int .i64 q) ∧ V.cell? ⟨gk, 3, none⟩ = some (.bool true))
    (first | (with_reducible exact R0.cells) | (with_reducible exact R1.cells) | (with_reducible exact R2.cells) | (with_reducible exact R3.cells) | (with_reducible exact R4.cells) | (with_reducible exact R5.cells) | (with_reducible exact R6.cells) | (with_reducible exact R7.cells) | (with_reducible exact R8.cells) | (with_reducible exact R9.cells) | (with_reducible exact R10.cells) | go_keep)
    (first
    | (go_at_call 40; (with_reducible refine (p1 _ _ R0.E.hT R0.K).mono ?_); rintro e v0 ⟨rfl, hb⟩; have R1 := R0.next hb; clear R0 hb k0 k1 k2 k3 k4 k5 n0 n1 n2 n3; obtain ⟨k0, k1, k2, k3, k4, k5, n0, n1, n2, n3⟩ := R1.cells)
    | (go_at_call 40; (with_reducible refine (p2 _ _ R1.E.hT R1.K).mono ?_); rintro e v1 ⟨rfl, hb⟩; have R2 := R1.next hb; clear R1 hb k0 k1 k2 k3 k4 k5 n0 n1 n2 n3; obtain ⟨k0, k1, k2, k3, k4, k5, n0, n1, n2, n3⟩ := R2.cells)
    | (go_at_call 40; (with_reducible refine (p3 _ _ R2.E.hT R2.K).mono ?_); rintro e v2 ⟨rfl, hb⟩; have R3 := R2.next hb; clear R2 hb k0 k1 k2 k3 k4 k5 n0 n1 n2 n3; obtain ⟨k0, k1, k2, k3, k4, k5, n0, n1, n2, n3⟩ := R3.cells)
    | (go_at_call 39; (with_reducible refine (q1 _ _ R3.E.hT R3.K).mono ?_); rintro e v3 ⟨rfl, hb⟩; have R4 := R3.next hb; clear R3 hb k0 k1 k2 k3 k4 k5 n0 n1 n2 n3; obtain ⟨k0, k1, k2, k3, k4, k5, n0, n1, n2, n3⟩ := R4.cells)
    | (go_at_call 38; (with_reducible refine (s1 _ _ R4.E.hT R4.K).mono ?_); rintro e v4 ⟨rfl, hb⟩; have R5 := R4.next hb; clear R4 hb k0 k1 k2 k3 k4 k5 n0 n1 n2 n3; obtain ⟨k0, k1, k2, k3, k4, k5, n0, n1, n2, n3⟩ := R5.cells)
    | (go_at_call 40; (with_reducible refine (p4 _ _ R5.E.hT R5.K).mono ?_); rintro e v5 ⟨rfl, hb⟩; have R6 := R5.next hb; clear R5 hb k0 k1 k2 k3 k4 k5 n0 n1 n2 n3; obtain ⟨k0, k1, k2, k3, k4, k5, n0, n1, n2, n3⟩ := R6.cells)
    | (go_at_call 40; (with_reducible refine (p5 _ _ R6.E.hT R6.K).mono ?_); rintro e v6 ⟨rfl, hb⟩; have R7 := R6.next hb; clear R6 hb k0 k1 k2 k3 k4 k5 n0 n1 n2 n3; obtain ⟨k0, k1, k2, k3, k4, k5, n0, n1, n2, n3⟩ := R7.cells)
    | (go_at_call 40; (with_reducible refine (p6 _ _ R7.E.hT R7.K).mono ?_); rintro e v7 ⟨rfl, hb⟩; have R8 := R7.next hb; clear R7 hb k0 k1 k2 k3 k4 k5 n0 n1 n2 n3; obtain ⟨k0, k1, k2, k3, k4, k5, n0, n1, n2, n3⟩ := R8.cells)
    | (go_at_call 38; (with_reducible refine (s2 _ _ R8.E.hT R8.K).mono ?_); rintro e v8 ⟨rfl, hb⟩; have R9 := R8.next hb; clear R8 hb k0 k1 k2 k3 k4 k5 n0 n1 n2 n3; obtain ⟨k0, k1, k2, k3, k4, k5, n0, n1, n2, n3⟩ := R9.cells)
    | (go_at_call 16; (with_reducible refine (alive_any _ R9.E.hT).mono ?_); rintro e v9 ⟨rfl, hb⟩; have R10 := R9.next hb; clear R9 hb k0 k1 k2 k3 k4 k5 n0 n1 n2 n3; obtain ⟨k0, k1, k2, k3, k4, k5, n0, n1, n2, n3⟩ := R10.cells))
  all_goals
    go_wp2
    go_ret
    exact ⟨rfl, by first | exact R10.E.hB | exact R10.E.hB.drew⟩
set_option maxRecDepth 100000 in
theorem lgs_ok (c n q a b k la lb p lc : Int) (hv_ : EV c n q true) (ha_ : EE c n q a true) (hb_ : EE c n q b true) (h1 : ¬ a = 0) (h2 : ¬ b = 0) (hn2 : 2 ≤ n) (hn4 : n ≤ 4096)
    (l1 : ∀ w, Tb w → Calls Tryd.prog 35 #[.agg #[.int .i64 c, .int .i64 n, .int .i64 q], .int .i64 a] w fun e w' => e = .returned (.tuple #[.int .i64 la, .int .i64 0]) ∧ Below w.heap.size w w')
    (l2 : ∀ w, Tb w → Calls Tryd.prog 35 #[.agg #[.int .i64 c, .int .i64 n, .int .i64 q], .int .i64 b] w fun e w' => e = .returned (.tuple #[.int .i64 lb, .int .i64 0]) ∧ Below w.heap.size w w')
    (l3 : ∀ w, Tb w → Calls Tryd.prog 21 #[.agg #[.int .i64 c, .int .i64 n, .int .i64 q], .int .i64 a, .int .i64 b] w fun e w' => e = .returned (.tuple #[.int .i64 p, .int .i64 0]) ∧ Below w.heap.size w w')
    (l4 : ∀ w, Tb w → Calls Tryd.prog 35 #[.agg #[.int .i64 c, .int .i64 n, .int .i64 q], .int .i64 p] w fun e w' => e = .returned (.tuple #[.int .i64 lc, .int .i64 0]) ∧ Below w.heap.size w w')
    (l5 : ∀ w, Tb w → Calls Tryd.prog 29 #[.agg #[.int .i64 c, .int .i64 n, .int .i64 q], .int .i64 la] w fun e w' => e = .returned (.tuple #[.int .i64 a, .int .i64 0]) ∧ Below w.heap.size w w')
    (b1 : 0 ≤ la) (b2 : la < n - 1) (b3 : 0 ≤ lb) (b4 : lb < n - 1) (hs : (la + lb).tmod (n - 1) = lc) (w : World) (hT : Tb w) :
    Calls Tryd.prog 9 #[.agg #[.int .i64 c, .int .i64 n, .int .i64 q, .int .i64 a, .int .i64 b, .int .i64 k]] w fun e w' => e = .returned (.bool true) ∧ Below w.heap.size w w' := by
  have E0 := Ek.new w c n q a b k hT
  clear hT
  obtain ⟨k0, k1, k2, k3, k4, k5⟩ := E0.cells
  go_enter Tryd.func9, Tryd.ntmps9
  go_wp2_with fail
  generalize (w.alloc (.cells #[.int .i64 c, .int .i64 n, .int .i64 q, .int .i64 a, .int .i64 b, .int .i64 k] 32)) = v0 at *
  refine (hv_ _ ).mono ?_
  rintro e w1 ⟨rfl, hb⟩
  have E1 := E0.next hb
  clear E0 hb k0 k1 k2 k3 k4 k5
  obtain ⟨k0, k1, k2, k3, k4, k5⟩ := E1.cells
  go_wp2_with fail
  refine (ha_ _ ).mono ?_
  rintro e w2 ⟨rfl, hb⟩
  have E2 := E1.next hb
  clear E1 hb k0 k1 k2 k3 k4 k5
  obtain ⟨k0, k1, k2, k3, k4, k5⟩ := E2.cells
  go_wp2_with fail
  refine (hb_ _ ).mono ?_
  rintro e w3 ⟨rfl, hb⟩
  have E3 := E2.next hb
  clear E2 hb k0 k1 k2 k3 k4 k5
  obtain ⟨k0, k1, k2, k3, k4, k5⟩ := E3.cells
  have f1 : (a == 0) = false := by simpa using h1
  have f2 : (b == 0) = false := by simpa using h2
  have hn1 : wrap64 (n - 1) = n - 1 := by unfold wrap64; omega
  have hs1 : wrap64 (la + lb) = la + lb := by unfold wrap64; omega
  have hn0 : ¬ n - 1 = 0 := by omega
  go_wp2_with fail
  refine (l1 _ E3.hT).mono ?_
  rintro e w4 ⟨rfl, hb⟩
  have E4 := E3.next hb
  clear E3 hb k0 k1 k2 k3 k4 k5
  obtain ⟨k0, k1, k2, k3, k4, k5⟩ := E4.cells
  go_wp2_with fail
  refine (l2 _ E4.hT).mono ?_
  rintro e w5 ⟨rfl, hb⟩
  have E5 := E4.next hb
  clear E4 hb k0 k1 k2 k3 k4 k5
  obtain ⟨k0, k1, k2, k3, k4, k5⟩ := E5.cells
  go_wp2_with fail
  refine (l3 _ E5.hT).mono ?_
  rintro e w6 ⟨rfl, hb⟩
  have E6 := E5.next hb
  clear E5 hb k0 k1 k2 k3 k4 k5
  obtain ⟨k0, k1, k2, k3, k4, k5⟩ := E6.cells
  go_wp2_with fail
  refine (l4 _ E6.hT).mono ?_
  rintro e w7 ⟨rfl, hb⟩
  have E7 := E6.next hb
  clear E6 hb k0 k1 k2 k3 k4 k5
  obtain ⟨k0, k1, k2, k3, k4, k5⟩ := E7.cells
  go_wp2_with fail
  refine (l5 _ E7.hT).mono ?_
  rintro e w8 ⟨rfl, hb⟩
  have E8 := E7.next hb
  clear E7 hb k0 k1 k2 k3 k4 k5
  obtain ⟨k0, k1, k2, k3, k4, k5⟩ := E8.cells
  go_wp2_with fail
  refine (alive_any _ E8.hT).mono ?_
  rintro e w9 ⟨rfl, hb⟩
  have E9 := E8.next hb
  clear E8 hb k0 k1 k2 k3 k4 k5
  obtain ⟨k0, k1, k2, k3, k4, k5⟩ := E9.cells
  go_wp2
  go_ret
  exact ⟨rfl, E9.hB⟩
end Go.Proofs.YtjbaleadahefoaaDoor
