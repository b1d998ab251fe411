/- BigintConverts returns true for any integer and any int. -/
import Derived.Test.YtkcekimgfcdgbaaVi
import Derived.Deep.RegionHeld3
import Derived.Deep.DrawnRows
set_option linter.unusedVariables false
namespace Go.Proofs.Ytkcekimgfcdgbaa
open Go.RowKit
attribute [local go_sem ↓] Go.wp_at_zero Go.wp_at_succ

theorem toInt_pair (B0 : Bool) (A0 : Option Addr) (n0 c0 : Nat) (l0 : List Nat) (o0 : Ok l0) : ∃ r e0 : Int,
    Hid (∀ W : World, Sl W W.heap.size A0 n0 c0 (ml l0) → Calls Try.prog 33 #[.agg #[.bool B0, .slice A0 n0 c0]] W fun e w' => e = .returned (.tuple #[.int .i64 r, .int .i64 e0]) ∧ Below W.heap.size W w') ∧
    Hid (∀ W : World, Sl W W.heap.size A0 n0 c0 (ml l0) → Calls Try.prog 34 #[.agg #[.bool B0, .slice A0 n0 c0]] W fun e w' => e = .returned (.tuple #[.int .i64 r, .int .i64 e0]) ∧ Below W.heap.size W w') := by
  cases hval : validB B0 l0 with
  | false => exact ⟨0, 1, fun W h => toInt_bad B0 A0 n0 c0 l0 W h o0 hval, fun W h => rToInt_bad B0 A0 n0 c0 l0 W h o0 hval⟩
  | true =>
    obtain ⟨ev, hva⟩ := of_validB o0 hval
    generalize val l0 = v at ev hva
    subst ev
    exact ⟨(toIntS B0 v).1, (toIntS B0 v).2, fun W h => toInt_any B0 A0 n0 c0 v W h hva _ _ rfl, fun W h => rToInt_any B0 A0 n0 c0 v W h hva _ _ rfl⟩
theorem toInt_from (z : Int) (h0 : -9223372036854775808 ≤ z) (h1 : z ≤ 9223372036854775807) : toIntS (decide (z < 0)) z.natAbs = (z, 0) := by
  unfold toIntS
  by_cases h : z < 0
  · rw [if_pos ⟨by simpa using h, by omega⟩, show -(z.natAbs : Int) = z by omega]
  · rw [if_neg (by simp; omega), if_pos ⟨by simpa using h, by omega⟩, show (z.natAbs : Int) = z by omega]
theorem vd_from (z : Int) (h0 : -9223372036854775808 ≤ z) (h1 : z ≤ 9223372036854775807) : Vd (decide (z < 0)) z.natAbs :=
  ⟨fun h => by have : z < 0 := by simpa using h
               omega, by
    have : (enc z.natAbs).length ≤ 2 := (length_enc_le _ 2).2 (by
      have : (4294967296 : Nat) ^ 2 = 18446744073709551616 := by decide
      omega)
    omega⟩

set_option maxRecDepth 100000 in
set_option maxHeartbeats 4000000 in
theorem law_converts (B0 : Bool) (A0 : Option Addr) (n0 c0 : Nat) (l0 : List Nat) (z : Int) (w : World) (s0 : Sl w w.heap.size A0 n0 c0 (ml l0)) (o0 : Ok l0) (hz : -9223372036854775808 ≤ z ∧ z ≤ 9223372036854775807) :
    Calls Try.prog 7 #[.agg #[.bool B0, .slice A0 n0 c0], .int .i64 z] w fun e w' => e = .returned (.bool true) ∧ Below w.heap.size w w' := by
  obtain ⟨r, e0, HT, HRT⟩ := toInt_pair B0 A0 n0 c0 l0 o0
  have HV : Hid (∀ W : World, Sl W W.heap.size A0 n0 c0 (ml l0) → Calls Try.prog 36 #[.agg #[.bool B0, .slice A0 n0 c0]] W fun e w' => e = .returned (.bool (validB B0 l0)) ∧ Below W.heap.size W w') := fun W h => valid_any B0 A0 n0 c0 l0 W h o0
  have HRV : Hid (∀ W : World, Sl W W.heap.size A0 n0 c0 (ml l0) → Calls Try.prog 37 #[.agg #[.bool B0, .slice A0 n0 c0]] W fun e w' => e = .returned (.bool (validB B0 l0)) ∧ Below W.heap.size W w') := fun W h => rValid_any B0 A0 n0 c0 l0 W h o0
  generalize validB B0 l0 = b at HV HRV
  have HF : Hid (∀ W : World, Calls Try.prog 35 #[.int .i64 z] W (GiveI (decide (z < 0)) z.natAbs W)) := fun W => fromInt_any z W hz.1 hz.2
  have HRF : Hid (∀ W : World, Calls Try.prog 38 #[.int .i64 z] W (GiveI (decide (z < 0)) z.natAbs W)) := fun W => rFromInt_any z W hz.1 hz.2
  have hvd := vd_from z hz.1 hz.2
  have htz := toInt_from z hz.1 hz.2
  obtain ⟨sg, hsg⟩ : ∃ sg, decide (z < 0) = sg := ⟨_, rfl⟩
  rw [hsg] at HF HRF hvd htz
  generalize z.natAbs = v at *
  have HTZ : Hid (∀ (W : World) (A : Option Addr) (n c : Nat), Sl W W.heap.size A n c (ml (enc v)) → Calls Try.prog 33 #[.agg #[.bool sg, .slice A n c]] W fun e w' => e = .returned (.tuple #[.int .i64 z, .int .i64 0]) ∧ Below W.heap.size W w') := fun W A n c h => toInt_any sg A n c v W h hvd z 0 htz
  have HVD := Lib.hid hvd
  clear hsg hvd htz
  have I0 : Bl (w.alloc (bx (.bool B0) (.slice A0 n0 c0))) w.heap.size B0 A0 n0 c0 l0 := ⟨At.new _ _ _, s0.next (below_new _ _)⟩
  have HB := below_new w (bx (.bool B0) (.slice A0 n0 c0))
  clear s0
  go_enter Try.func7, Try.ntmps7
  go_wp2_with fail
  refine (HT.out _ I0.sl).mono ?_
  rintro e w2 ⟨rfl, hb2⟩
  replace I0 := I0.next hb2
  replace HB := below_step HB hb2
  obtain ⟨k1, k2⟩ := I0.cells
  clear hb2 HT
  go_wp2_with fail
  refine (HRT.out _ I0.sl).mono ?_
  rintro e w3 ⟨rfl, hb3⟩
  replace I0 := I0.next hb3
  replace HB := below_step HB hb3
  clear hb3 HRT k1 k2
  go_wp2_with fail
  refine (HF.out _).mono ?_
  intro e w4 h
  obtain ⟨A4, n4, c4, rfl, hs4, hb4⟩ := giveI_out h
  have Y := Bx.new (neg := sg) hs4
  have hnn := below_step hb4 (below_new w4 (.cells #[.bool sg, .slice A4 n4 c4] 24))
  replace I0 := I0.next hnn
  replace HB := below_step HB hnn
  clear h hs4 hb4 hnn HF
  go_wp2_with fail
  refine (HTZ.out _ _ _ _ Y.sl).mono ?_
  rintro e w5 ⟨rfl, hb5⟩
  replace I0 := (I0.next hb5).drew
  replace Y := (Y.next hb5).drew
  replace HB := (below_step HB hb5).drew
  obtain ⟨k1, k2⟩ := I0.cells
  obtain ⟨k3, k4⟩ := Y.cells
  clear hb5 HTZ
  go_wp2
  go_region_held3 (fun W => W.cell? ⟨w.heap.size, 0, none⟩ = some (.bool B0) ∧ W.cell? ⟨w.heap.size, 1, none⟩ = some (.slice A0 n0 c0) ∧ W.cell? ⟨w4.heap.size, 0, none⟩ = some (.bool sg) ∧ W.cell? ⟨w4.heap.size, 1, none⟩ = some (.slice A4 n4 c4))
    (first | (with_reducible exact ⟨k1, k2, k3, k4⟩))
    (first
    | (go_at_call 36; (with_reducible refine (HV.out _ I0.sl).mono ?_); rintro e wd ⟨rfl, hbd⟩; have I1 := I0.next hbd; have Y1 := Y.next hbd; have HB1 := below_step HB hbd; clear I0 Y HB hbd HV k1 k2 k3 k4; obtain ⟨k1, k2⟩ := I1.cells; obtain ⟨k3, k4⟩ := Y1.cells)
    | (go_at_call 37; (with_reducible refine (HRV.out _ I1.sl).mono ?_); rintro e wd ⟨rfl, hbd⟩; have I2 := I1.next hbd; have Y2 := Y1.next hbd; have HB2 := below_step HB1 hbd; clear I1 Y1 HB1 hbd HRV k1 k2 k3 k4; obtain ⟨k1, k2⟩ := I2.cells; obtain ⟨k3, k4⟩ := Y2.cells)
    | (go_at_call 38; (with_reducible refine (HRF.out _).mono ?_); intro e wd hm; obtain ⟨Am, nm, cm, rfl, hsm, hbd⟩ := giveI_out hm; have I3 := I2.next hbd; have Y3 := Y2.next hbd; have HB3 := below_step HB2 hbd; clear hm I2 Y2 HB2 hbd HRF k1 k2 k3 k4; obtain ⟨k1, k2⟩ := I3.cells; obtain ⟨k3, k4⟩ := Y3.cells)
    | (go_at_call 19; (with_reducible refine (same_eq _ _ _ _ _ Y3.zi (sl_zi hsm)).mono ?_); rintro e wd ⟨rfl, hbd⟩; have I4 := I3.next hbd; have Y4 := Y3.next hbd; have HB4 := below_step HB3 hbd; clear hsm I3 Y3 HB3 hbd k1 k2 k3 k4; obtain ⟨k1, k2⟩ := I4.cells; obtain ⟨k3, k4⟩ := Y4.cells)
    | (go_at_call 36; (with_reducible refine (valid_true HVD.out Y4.sl).mono ?_); rintro e wd ⟨rfl, hbd⟩; have I5 := I4.next hbd; have Y5 := Y4.next hbd; have HB5 := below_step HB4 hbd; clear I4 Y4 HB4 hbd k1 k2 k3 k4; obtain ⟨k1, k2⟩ := I5.cells; obtain ⟨k3, k4⟩ := Y5.cells)
    | (go_at_call 24; (with_reducible refine (examples_any _).mono ?_); rintro e wd ⟨rfl, hbd⟩; have I6 := I5.next hbd; have Y6 := Y5.next hbd; have HB6 := below_step HB5 hbd; clear I5 Y5 HB5 hbd k1 k2 k3 k4; obtain ⟨k1, k2⟩ := I6.cells; obtain ⟨k3, k4⟩ := Y6.cells))
  all_goals
    go_wp2
    go_ret
    exact ⟨rfl, HB6⟩
end Go.Proofs.Ytkcekimgfcdgbaa
