/- Contracts: the specification of ToInt at valid integers. -/
import Derived.Test.YtkcekimgfcdgbaaVh
import Derived.Deep.QuietTactic
import Derived.BigQuiet
set_option linter.unusedVariables false
namespace Go.Proofs.Ytkcekimgfcdgbaa
open Go.RowKit

theorem limb_eq (A : Option Addr) (n c : Nat) (l : List Nat) (k x : Nat) (w : World) (hs : Sl w w.heap.size A n c (ml l)) (hok : Ok l) (hx : l.getD k 0 = x) (kI : Int) (hk : kI = (k : Int)) :
    Hid (∀ m : Nat, Calls Try.prog 72 #[.slice A n c, .int .i64 kI] (w.drewN m) fun e w' => e = .returned (.int .u64 (x : Int)) ∧ ∃ m', w' = w.drewN m') := fun m => by
  subst hk
  have hs' : Sl (w.drewN m) (w.drewN m).heap.size A n c (ml l) := hs.keep fun p _ => rfl
  exact (limb_is A n c l k x (w.drewN m) hs' hok hx).mono fun _ _ ⟨a, b⟩ => ⟨a, m, b.symm⟩

set_option maxRecDepth 100000 in
set_option maxHeartbeats 600000 in
theorem rToInt_any (neg : Bool) (A : Option Addr) (n c v : Nat) (w : World) (hs : Sl w w.heap.size A n c (ml (enc v))) (hva : Vd neg v) (r e0 : Int) (hr : toIntS neg v = (r, e0)) :
    Calls Try.prog 34 #[.agg #[.bool neg, .slice A n c]] w fun e w' => e = .returned (.tuple #[.int .i64 r, .int .i64 e0]) ∧ Below w.heap.size w w' := by
  have hl : (enc v).length = n := by rw [← length_ml]; exact hs.len
  have HA := At.new w (.bool neg) (.slice A n c)
  have hb0 := below_new w (.cells #[.bool neg, .slice A n c] 24)
  have h1 := hs.next hb0
  clear hs
  obtain ⟨x, hx⟩ : ∃ x, (enc v).getD 0 0 = x := ⟨_, rfl⟩
  obtain ⟨y, hy⟩ : ∃ y, (enc v).getD 1 0 = y := ⟨_, rfl⟩
  have hxl : x < 4294967296 := by rw [← hx]; exact (ok_enc v).getD 0
  have hyl : y < 4294967296 := by rw [← hy]; exact (ok_enc v).getD 1
  have HU : Hid (n ≤ 2 → x + 4294967296 * y = v) := fun h2 => by
    have hxy := low_two (show (enc v).length ≤ 2 by omega)
    rw [hx, hy] at hxy
    have := hxy.1
    omega
  have HBIG : Hid (2 < n → toIntS neg v = (0, 13)) := fun h2 => toInt_big (by omega)
  obtain ⟨U, hU⟩ : ∃ U : Int, (x : Int) + 4294967296 * (y : Int) = U := ⟨_, rfl⟩
  have hU0 : 0 ≤ U := by omega
  have hU1 : U < 18446744073709551616 := by omega
  have w1 : IntKind.u64.wrap (4294967296 * (y : Int)) = 4294967296 * (y : Int) := by rw [IntKind.wrap_u64]; omega
  have w2 : IntKind.u64.wrap ((x : Int) + 4294967296 * (y : Int)) = U := by rw [IntKind.wrap_u64]; omega
  have HUV : Hid ((x : Int) + 4294967296 * (y : Int) = U) := hU
  have HRR := Lib.hid hr
  have HX := Lib.hid hx
  have HY := Lib.hid hy
  clear hU hr hx hy
  go_enter Try.func34, Try.ntmps34
  go_wp2_with fail
  refine (rValid_true hva h1).mono ?_
  rintro e w3 ⟨rfl, hb1⟩
  obtain ⟨a1, a2, _, _⟩ := (HA.next hb1).facts
  have HB := below_step hb0 hb1
  have L0 := limb_eq A n c (enc v) 0 x w3 (h1.next hb1) (ok_enc v) HX.out 0 rfl
  have L1 := limb_eq A n c (enc v) 1 y w3 (h1.next hb1) (ok_enc v) HY.out 1 rfl
  have HA3 := HA.next hb1
  clear h1 HA hb0 hb1
  go_wp2
  go_quiet ((first | (go_at_call 72; with_reducible exact L0.out _) | (go_at_call 72; with_reducible exact L1.out _)))
  have HBn := below_drawn HB nq
  by_cases h2 : 2 < n
  · have h4 := HRR.out
    rw [HBIG.out h2] at h4
    injection h4 with e1 e2
    subst e1 e2
    have h2I : (2 : Int) < (n : Int) := by omega
    clear w1 w2 HRR HBIG HU HUV L0 L1 HX HY
    go_wp2
    go_ret2
    exact ⟨rfl, HBn⟩
  · have hUv : U = (v : Int) := by have h5 := HU.out (by omega); have h6 := HUV.out; omega
    subst hUv
    have h2I : (n : Int) ≤ 2 := by omega
    have hva1 := hva.1
    have h4 := HRR.out
    unfold toIntS at h4
    clear w1 w2 HRR HBIG HU HUV L0 L1 HX HY
    have hvv : v < 18446744073709551616 := by omega
    cases neg
    · by_cases hv : v < 9223372036854775808
      · rw [if_neg (by simp), if_pos ⟨rfl, hv⟩] at h4
        injection h4 with e1 e2
        subst e1 e2
        generalize hV : (v : Int) = V at *
        have HVV := Lib.hid hV
        have k1 : V ≤ 9223372036854775807 := by omega
        have d2 : decide (9223372036854775807 < V) = false := decide_eq_false (by omega)
        have d1 : decide ((2 : Int) < (n : Int)) = false := decide_eq_false (by omega)
        clear hv hvv hva1 hV
        go_wp2
        go_ret2
        refine ⟨?_, HBn⟩
        rw [HVV.out]
        rfl
      · rw [if_neg (by simp), if_neg (by omega)] at h4
        injection h4 with e1 e2
        subst e1 e2
        generalize hV : (v : Int) = V at *
        have HVV := Lib.hid hV
        have k1 : 9223372036854775807 < V := by omega
        have d2 : decide (9223372036854775807 < V) = true := decide_eq_true (by omega)
        have d1 : decide ((2 : Int) < (n : Int)) = false := decide_eq_false (by omega)
        clear hv hvv hva1 hV
        go_wp2
        go_ret2
        exact ⟨rfl, HBn⟩
    · have hv0 := hva1 rfl
      by_cases hv : v ≤ 9223372036854775808
      · rw [if_pos ⟨rfl, hv⟩] at h4
        injection h4 with e1 e2
        subst e1 e2
        generalize hV : (v : Int) = V at *
        have HVV := Lib.hid hV
        have k1 : V ≤ 9223372036854775808 := by omega
        have d2 : decide (9223372036854775808 < V) = false := decide_eq_false (by omega)
        have d1 : decide ((2 : Int) < (n : Int)) = false := decide_eq_false (by omega)
        have k2 : 1 ≤ V := by omega
        clear hv hvv hva1 hv0 hV
        go_wp2
        go_ret2
        refine ⟨?_, HBn⟩
        show Ending.returned (.tuple #[.int .i64 (-(V - 1) - 1), .int .i64 0]) = _
        rw [show -(V - 1) - 1 = -V by omega, HVV.out]
      · rw [if_neg (by omega), if_neg (by simp)] at h4
        injection h4 with e1 e2
        subst e1 e2
        generalize hV : (v : Int) = V at *
        have HVV := Lib.hid hV
        have k1 : 9223372036854775808 < V := by omega
        have d2 : decide (9223372036854775808 < V) = true := decide_eq_true (by omega)
        have d1 : decide ((2 : Int) < (n : Int)) = false := decide_eq_false (by omega)
        clear hv hvv hva1 hv0 hV
        go_wp2
        go_ret2
        exact ⟨rfl, HBn⟩
end Go.Proofs.Ytkcekimgfcdgbaa
