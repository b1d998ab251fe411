/- galois: the pairs of Order, Generator and Log; law GaloisLogs, the walk. -/
import Derived.Test.YtjbaleadahefoaaDoorYc
set_option linter.unusedVariables false
namespace Go.Proofs.YtjbaleadahefoaaDoor
open Go.RowKit

section
variable {c n q x : Int} (hc : I64 c) (hn : I64 n) (hq : I64 q) (hx : I64 x)
include hc hn hq
theorem gen_pair : ∃ z er, (∀ w, Tb w → Calls Tryd.prog 33 #[.agg #[.int .i64 c, .int .i64 n, .int .i64 q]] w fun e w' => e = .returned (.tuple #[.int .i64 z, .int .i64 er]) ∧ Below w.heap.size w w') ∧
    (∀ w, Calls Tryd.prog 34 #[.agg #[.int .i64 c, .int .i64 n, .int .i64 q]] w fun e w' => e = .returned (.tuple #[.int .i64 z, .int .i64 er]) ∧ Below w.heap.size w w') := by
  by_cases hV : VF c n q
  · obtain ⟨N, T, P, M, g, rfl, O, F, g1, g2, H1, H2⟩ := gen_of hV
    exact ⟨_, 0, fun w hT => Generator_ok c N q g hc hn hq hV H1 w hT, fun w => rGenerator_ok c N q g hc hn hq hV H2 w⟩
  · exact ⟨0, 1, fun w hT => Generator_no c n q hc hn hq hV w hT, fun w => rGenerator_no c n q hc hn hq hV w⟩
include hx
theorem order_pair : ∃ z er, (∀ w, Tb w → Calls Tryd.prog 31 #[.agg #[.int .i64 c, .int .i64 n, .int .i64 q], .int .i64 x] w fun e w' => e = .returned (.tuple #[.int .i64 z, .int .i64 er]) ∧ Below w.heap.size w w') ∧
    (∀ w, Calls Tryd.prog 32 #[.agg #[.int .i64 c, .int .i64 n, .int .i64 q], .int .i64 x] w fun e w' => e = .returned (.tuple #[.int .i64 z, .int .i64 er]) ∧ Below w.heap.size w w') := by
  by_cases hV : VF c n q
  · by_cases hX : 0 ≤ x ∧ x < n
    · obtain ⟨N, T, P, M, rfl, O, F⟩ := fld_of hV
      have hN := O.n1
      by_cases h0 : x = 0
      · subst h0
        exact ⟨0, 12, fun w hT => Order_zero c N q hc hn hq hV (by omega) w hT, fun w => rOrder_zero c N q hc hn hq hV hX w⟩
      · obtain ⟨a, rfl⟩ : ∃ a : Nat, x = a := ⟨x.toNat, by omega⟩
        have ha : a < N := by omega
        have ha0 : a ≠ 0 := by omega
        exact ⟨_, 0, fun w hT => Order_ok c N q a _ hc hn hq hV hX h0 (fun w => code_order O F.toGrp ha ha0 w) w hT, fun w => rOrder_ok c N q a _ hc hn hq hV hX h0 (fun w => rOrder_any F.toGrp O.n2 O.ts a _ ha ha0 (ordOf_is F.toGrp ha ha0) w) w⟩
    · exact ⟨0, 1, fun w hT => Order_no c n q x hc hn hq hx (fun h => hX h.1.of_one) w hT, fun w => rOrder_noX c n q x hc hn hq hV hX w⟩
  · exact ⟨0, 1, fun w hT => Order_no c n q x hc hn hq hx (fun h => hV h.2) w hT, fun w => rOrder_noV c n q x hc hn hq hV w⟩
theorem log_pair : ∃ z er, (∀ w, Tb w → Calls Tryd.prog 35 #[.agg #[.int .i64 c, .int .i64 n, .int .i64 q], .int .i64 x] w fun e w' => e = .returned (.tuple #[.int .i64 z, .int .i64 er]) ∧ Below w.heap.size w w') ∧
    (∀ w, Calls Tryd.prog 36 #[.agg #[.int .i64 c, .int .i64 n, .int .i64 q], .int .i64 x] w fun e w' => e = .returned (.tuple #[.int .i64 z, .int .i64 er]) ∧ Below w.heap.size w w') := by
  by_cases hV : VF c n q
  · by_cases hX : 0 ≤ x ∧ x < n
    · obtain ⟨N, T, P, M, g, rfl, O, F, _, g1, g2, ho, H1, H2⟩ := gen_of2 hV
      have hN := O.n1
      by_cases h0 : x = 0
      · subst h0
        exact ⟨0, 12, fun w hT => Log_zero c N q hc hn hq hV (by omega) w hT, fun w => rLog_zero c N q hc hn hq hV hX w⟩
      · obtain ⟨a, rfl⟩ : ∃ a : Nat, x = a := ⟨x.toNat, by omega⟩
        have ha : a < N := by omega
        have ha0 : a ≠ 0 := by omega
        have hg0 : g ≠ 0 := by omega
        obtain ⟨m, hm, hpm⟩ := F.toGrp.log_ex g2 hg0 ho ha ha0
        exact ⟨_, 0, fun w hT => Log_ok c N q a g m hc hn hq hV hX h0 H1 (fun w => code_log hc hq O F.toGrp g2 hg0 ho ha hm hpm w) w hT,
          fun w => rLog_ok F.toGrp O.n2 hc hn hq hV O.ts g a m g2 ha ha0 hm hpm (fun j hj he => by
            have := F.toGrp.pw_inj g2 hg0 ho (show j < N - 1 by omega) hm (he.trans hpm.symm)
            omega) H2 w⟩
    · exact ⟨0, 1, fun w hT => Log_no c n q x hc hn hq hx (fun h => hX h.1.of_one) w hT, fun w => rLog_noX c n q x hc hn hq hV hX w⟩
  · exact ⟨0, 1, fun w hT => Log_no c n q x hc hn hq hx (fun h => hV h.2) w hT, fun w => rLog_noV c n q x hc hn hq hV w⟩
end

set_option maxRecDepth 100000 in
theorem logs_any (c n q a b k : Int) (hc : I64 c) (hn : I64 n) (hq : I64 q) (ha : I64 a) (w : World) (hT : Tb w) :
    Calls Tryd.prog 6 #[.agg #[.int .i64 c, .int .i64 n, .int .i64 q, .int .i64 a, .int .i64 b, .int .i64 k]] w fun e w' => e = .returned (.bool true) ∧ Below w.heap.size w w' := by
  obtain ⟨z0, e0, A0, S0⟩ := order_pair hc hn hq ha
  have X0 := Lib.hid A0
  have X1 := Lib.hid S0
  obtain ⟨z1, e1, A1, S1⟩ := gen_pair hc hn hq
  have X2 := Lib.hid A1
  have X3 := Lib.hid S1
  obtain ⟨z2, e2, A2, S2⟩ := log_pair hc hn hq ha
  have X4 := Lib.hid A2
  have X5 := Lib.hid S2
  clear A0 S0 A1 S1 A2 S2 hc hn hq ha
  have hB0 := below_new w (.cells #[.int .i64 c, .int .i64 n, .int .i64 q, .int .i64 a, .int .i64 b, .int .i64 k] 32)
  have F0 := Ak.new w c n q a b k
  have hT0 := hT.next hB0
  clear hT
  obtain ⟨k0, k1, k2, k3, k4, k5, k6⟩ := F0
  have F0 : Ak _ w.heap.size c n q a b k := ⟨k0, k1, k2, k3, k4, k5, k6⟩
  go_enter Tryd.func6, Tryd.ntmps6
  go_wp2_with fail
  generalize (w.alloc (.cells #[.int .i64 c, .int .i64 n, .int .i64 q, .int .i64 a, .int .i64 b, .int .i64 k] 32)) = v0 at *
  refine (X0.out _ hT0).mono ?_
  rintro e w1 ⟨rfl, hb⟩
  clear X0
  have F1 := F0.next hb
  have hB1 := below_step hB0 hb
  have hT1 := hT0.next hb
  clear F0 hB0 hT0 hb k0 k1 k2 k3 k4 k5 k6
  obtain ⟨k0, k1, k2, k3, k4, k5, k6⟩ := F1
  have F1 : Ak _ w.heap.size c n q a b k := ⟨k0, k1, k2, k3, k4, k5, k6⟩
  go_wp2_with fail
  refine (X1.out _ ).mono ?_
  rintro e w2 ⟨rfl, hb⟩
  clear X1
  have F2 := F1.next hb
  have hB2 := below_step hB1 hb
  have hT2 := hT1.next hb
  clear F1 hB1 hT1 hb k0 k1 k2 k3 k4 k5 k6
  obtain ⟨k0, k1, k2, k3, k4, k5, k6⟩ := F2
  have F2 : Ak _ w.heap.size c n q a b k := ⟨k0, k1, k2, k3, k4, k5, k6⟩
  go_wp2_with fail
  refine (X2.out _ hT2).mono ?_
  rintro e w3 ⟨rfl, hb⟩
  clear X2
  have F3 := F2.next hb
  have hB3 := below_step hB2 hb
  have hT3 := hT2.next hb
  clear F2 hB2 hT2 hb k0 k1 k2 k3 k4 k5 k6
  obtain ⟨k0, k1, k2, k3, k4, k5, k6⟩ := F3
  have F3 : Ak _ w.heap.size c n q a b k := ⟨k0, k1, k2, k3, k4, k5, k6⟩
  go_wp2_with fail
  refine (X3.out _ ).mono ?_
  rintro e w4 ⟨rfl, hb⟩
  clear X3
  have F4 := F3.next hb
  have hB4 := below_step hB3 hb
  have hT4 := hT3.next hb
  clear F3 hB3 hT3 hb k0 k1 k2 k3 k4 k5 k6
  obtain ⟨k0, k1, k2, k3, k4, k5, k6⟩ := F4
  have F4 : Ak _ w.heap.size c n q a b k := ⟨k0, k1, k2, k3, k4, k5, k6⟩
  go_wp2_with fail
  refine (X4.out _ hT4).mono ?_
  rintro e w5 ⟨rfl, hb⟩
  clear X4
  have F5 := F4.next hb
  have hB5 := below_step hB4 hb
  have hT5 := hT4.next hb
  clear F4 hB4 hT4 hb k0 k1 k2 k3 k4 k5 k6
  obtain ⟨k0, k1, k2, k3, k4, k5, k6⟩ := F5
  have F5 : Ak _ w.heap.size c n q a b k := ⟨k0, k1, k2, k3, k4, k5, k6⟩
  go_wp2_with fail
  refine (X5.out _ ).mono ?_
  rintro e w6 ⟨rfl, hb⟩
  clear X5
  have F6 := F5.next hb
  have hB6 := below_step hB5 hb
  have hT6 := hT5.next hb
  clear F5 hB5 hT5 hb k0 k1 k2 k3 k4 k5 k6
  obtain ⟨k0, k1, k2, k3, k4, k5, k6⟩ := F6
  have F6 : Ak _ w.heap.size c n q a b k := ⟨k0, k1, k2, k3, k4, k5, k6⟩
  go_wp2_with fail
  refine (alive_any _ hT6).mono ?_
  rintro e w7 ⟨rfl, hb⟩
  have hB7 := below_step hB6 hb
  clear F6 hB6 hT6 hb k0 k1 k2 k3 k4 k5 k6
  go_wp2
  go_ret
  exact ⟨rfl, hB7⟩
end Go.Proofs.YtjbaleadahefoaaDoor
