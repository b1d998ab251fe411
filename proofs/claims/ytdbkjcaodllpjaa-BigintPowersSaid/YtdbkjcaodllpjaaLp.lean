/- BigintPowerLaw returns true for any integer and any two exponents. -/
import Derived.Test.YtdbkjcaodllpjaaLa
import Derived.Deep.RegionHeld3
import Derived.Deep.DrawnRows
set_option linter.unusedVariables false
namespace Go.Proofs.Ytdbkjcaodllpjaa
open Go.RowKit
attribute [local go_sem ↓] Go.wp_at_zero Go.wp_at_succ

set_option maxRecDepth 100000 in
theorem pow_bad (neg : Bool) (A : Option Addr) (n c : Nat) (l : List Nat) (k : Int) (w : World) (hs : Sl w w.heap.size A n c (ml l)) (hok : Ok l) (hv : validB neg l = false) :
    Calls Try.prog 31 #[.agg #[.bool neg, .slice A n c], .int .i64 k] w (GiveE false 0 1 w) := by
  obtain ⟨HA, HR, HB, hS⟩ := boxed_ab w (.bool neg) (.slice A n c) (.bool false) (.slice none 0 0)
  have h1 := hS _ _ _ _ hs
  clear hS hs
  go_enter Try.func31, Try.ntmps31
  go_wp2_with fail
  refine (valid_false hv hok h1).mono ?_
  rintro e w3 ⟨rfl, hb3⟩
  replace HR := HR.next hb3
  replace HB := below_step HB hb3
  obtain ⟨t1, t2, t3, t4⟩ := HR.facts
  go_wp2
  exact bodyPost_ret (v := .tuple #[.agg #[.bool false, .slice none 0 0], .int .i64 1]) (by simp [results, Try.results31, go_sem, t1, t2]) rfl ⟨_, rfl, Zi.zero _, below_two HB (by omega) _ _⟩

theorem pow_part {v i k : Nat} (h : (enc (v ^ k)).length ≤ 512) (hi : i ≤ k) : (enc (v ^ i)).length ≤ 512 := by
  by_cases h0 : v = 0
  · subst h0
    by_cases h1 : i = 0
    · subst h1; rw [Nat.pow_zero, one_limb (by omega) (by omega)]; omega
    · rw [Nat.zero_pow (by omega), enc_zero]; simp
  · exact length_le_of (Nat.pow_le_pow_right (by omega) hi) h
theorem zpow_fit {neg : Bool} {v k : Nat} (h : (enc (v ^ k)).length ≤ 512) : zpowS neg v k = ((neg && decide (k % 2 = 1)) && decide (v ^ k ≠ 0), v ^ k, 0) := by
  unfold zpowS powS
  rw [if_pos h]
theorem zpow_long {neg : Bool} {v k : Nat} (h : ¬ (enc (v ^ k)).length ≤ 512) : zpowS neg v k = (false, 0, 4) := by
  unfold zpowS powS
  rw [if_neg h]
  simp
theorem vd_pow {neg : Bool} {v k : Nat} (hv : Vd neg v) (h : (enc (v ^ k)).length ≤ 512) : Vd ((neg && decide (k % 2 = 1)) && decide (v ^ k ≠ 0)) (v ^ k) :=
  ⟨fun e h0 => by rw [h0] at e; simp at e, h⟩
theorem sgn_pow (neg : Bool) (v k l : Nat) :
    ((((neg && decide (k % 2 = 1)) && decide (v ^ k ≠ 0)) != ((neg && decide (l % 2 = 1)) && decide (v ^ l ≠ 0))) && decide (v ^ k * v ^ l ≠ 0)) = ((neg && decide ((k + l) % 2 = 1)) && decide (v ^ (k + l) ≠ 0)) := by
  rw [Nat.pow_add]
  by_cases hk : v ^ k = 0
  · simp [hk]
  by_cases hl : v ^ l = 0
  · simp [hl]
  have hp : v ^ k * v ^ l ≠ 0 := Nat.mul_ne_zero hk hl
  rw [decide_eq_true hk, decide_eq_true hl, decide_eq_true hp]
  cases neg
  · simp
  · have h2 : (k + l) % 2 = (k % 2 + l % 2) % 2 := Nat.add_mod _ _ _
    rcases Nat.mod_two_eq_zero_or_one k with h | h <;> rcases Nat.mod_two_eq_zero_or_one l with h' | h' <;> simp [h, h', h2]

set_option maxRecDepth 100000 in
set_option maxHeartbeats 4000000 in
theorem law_powerLaw (B0 : Bool) (A0 : Option Addr) (n0 c0 : Nat) (l0 : List Nat) (x1 x2 : Int) (w : World) (s0 : Sl w w.heap.size A0 n0 c0 (ml l0)) (o0 : Ok l0) (b1 : 0 ≤ x1 ∧ x1 ≤ 255) (b2 : 0 ≤ x2 ∧ x2 ≤ 255) :
    Calls Try.prog 13 #[.agg #[.bool B0, .slice A0 n0 c0], .int .u8 x1, .int .u8 x2] w fun e w' => e = .returned (.bool true) ∧ Below w.heap.size w w' := by
  obtain ⟨m, rfl⟩ : ∃ m : Nat, x1 = m := ⟨x1.toNat, by omega⟩
  obtain ⟨n, rfl⟩ : ∃ n : Nat, x2 = n := ⟨x2.toNat, by omega⟩
  have I0 : Bl (w.alloc (bx (.bool B0) (.slice A0 n0 c0))) w.heap.size B0 A0 n0 c0 l0 := ⟨At.new _ _ _, s0.next (below_new _ _)⟩
  have HB := below_new w (bx (.bool B0) (.slice A0 n0 c0))
  clear s0
  have hm1 := b1.1
  have hm2 := b1.2
  have hn1 := b2.1
  have hn2 := b2.2
  clear b1 b2
  cases hval : validB B0 l0 with
  | false =>
    go_enter Try.func13, Try.ntmps13
    go_wp2_with fail
    refine (pow_bad B0 A0 n0 c0 l0 _ _ I0.sl o0 hval).mono ?_
    intro e w2 h
    obtain ⟨A2, n2, c2, rfl, hs2, hb2⟩ := giveE_out h
    have hnn := below_step hb2 (below_new w2 (.cells #[.bool false, .slice A2 n2 c2] 24))
    replace I0 := I0.next hnn
    replace HB := below_step HB hnn
    obtain ⟨k1, k2⟩ := I0.cells
    clear h hs2 hb2 hnn
    go_wp2_with fail
    refine (valid_false hval o0 I0.sl).mono ?_
    rintro e w3 ⟨rfl, hb3⟩
    replace HB := below_step HB hb3
    clear hb3 I0 k1 k2
    go_wp2_with fail
    refine (examples_any _).mono ?_
    rintro e w5 ⟨rfl, hb5⟩
    go_wp2
    go_ret
    exact ⟨rfl, below_step HB hb5⟩
  | true =>
    obtain ⟨ev, hva⟩ := of_validB o0 hval
    generalize val l0 = v at ev hva
    subst ev
    clear hval o0
    have ekl : ((m % 61 + n % 61 : Nat) : Int) = (m : Int) % 61 + (n : Int) % 61 := by omega
    have ek : ((m % 61 : Nat) : Int) = (m : Int) % 61 := by omega
    have el : ((n % 61 : Nat) : Int) = (n : Int) % 61 := by omega
    by_cases hfit : (enc (v ^ (m % 61 + n % 61))).length ≤ 512
    · have hfk := pow_part hfit (show m % 61 ≤ m % 61 + n % 61 by omega)
      have hfl := pow_part hfit (show n % 61 ≤ m % 61 + n % 61 by omega)
      have hf0 := pow_part hfit (show 0 ≤ m % 61 + n % 61 by omega)
      have HP : Hid (∀ W : World, Sl W W.heap.size A0 n0 c0 (ml (enc v)) → Calls Try.prog 31 #[.agg #[.bool B0, .slice A0 n0 c0], .int .i64 ((m : Int) % 61 + (n : Int) % 61)] W (GiveE ((B0 && decide ((m % 61 + n % 61) % 2 = 1)) && decide (v ^ (m % 61 + n % 61) ≠ 0)) (v ^ (m % 61 + n % 61)) 0 W)) := by
        intro W h
        have := pow_any _ B0 v (m % 61 + n % 61) W (sl_zi h) hva (by omega)
        rwa [zpow_fit hfit, ekl] at this
      have HPk : Hid (∀ W : World, Sl W W.heap.size A0 n0 c0 (ml (enc v)) → Calls Try.prog 31 #[.agg #[.bool B0, .slice A0 n0 c0], .int .i64 ((m : Int) % 61)] W (GiveE ((B0 && decide (m % 61 % 2 = 1)) && decide (v ^ (m % 61) ≠ 0)) (v ^ (m % 61)) 0 W)) := by
        intro W h
        have := pow_any _ B0 v (m % 61) W (sl_zi h) hva (by omega)
        rwa [zpow_fit hfk, ek] at this
      have HPl : Hid (∀ W : World, Sl W W.heap.size A0 n0 c0 (ml (enc v)) → Calls Try.prog 31 #[.agg #[.bool B0, .slice A0 n0 c0], .int .i64 ((n : Int) % 61)] W (GiveE ((B0 && decide (n % 61 % 2 = 1)) && decide (v ^ (n % 61) ≠ 0)) (v ^ (n % 61)) 0 W)) := by
        intro W h
        have := pow_any _ B0 v (n % 61) W (sl_zi h) hva (by omega)
        rwa [zpow_fit hfl, el] at this
      have HP0 : Hid (∀ W : World, Sl W W.heap.size A0 n0 c0 (ml (enc v)) → Calls Try.prog 31 #[.agg #[.bool B0, .slice A0 n0 c0], .int .i64 0] W (GiveE false 1 0 W)) := by
        intro W h
        have := pow_any _ B0 v 0 W (sl_zi h) hva (by omega)
        rw [zpow_fit hf0] at this
        simpa using this
      have hvk := vd_pow hva hfk
      have hvl := vd_pow hva hfl
      have HM : Hid (∀ (W : World) (A2 A3 : Option Addr) (n2 c2 n3 c3 : Nat), Sl W W.heap.size A2 n2 c2 (ml (enc (v ^ (m % 61)))) → Sl W W.heap.size A3 n3 c3 (ml (enc (v ^ (n % 61)))) →
          Calls Try.prog 25 #[.agg #[.bool ((B0 && decide (m % 61 % 2 = 1)) && decide (v ^ (m % 61) ≠ 0)), .slice A2 n2 c2], .agg #[.bool ((B0 && decide (n % 61 % 2 = 1)) && decide (v ^ (n % 61) ≠ 0)), .slice A3 n3 c3]] W (GiveE ((B0 && decide ((m % 61 + n % 61) % 2 = 1)) && decide (v ^ (m % 61 + n % 61) ≠ 0)) (v ^ (m % 61 + n % 61)) 0 W)) := by
        intro W A2 A3 n2 c2 n3 c3 h h'
        have := mul2_any _ _ A2 A3 n2 c2 n3 c3 _ _ W h h' hvk hvl
        rw [sgn_pow, ← Nat.pow_add] at this
        unfold limS at this
        rwa [if_pos hfit] at this
      generalize ((B0 && decide ((m % 61 + n % 61) % 2 = 1)) && decide (v ^ (m % 61 + n % 61) ≠ 0)) = sz at *
      generalize ((B0 && decide (m % 61 % 2 = 1)) && decide (v ^ (m % 61) ≠ 0)) = sx at *
      generalize ((B0 && decide (n % 61 % 2 = 1)) && decide (v ^ (n % 61) ≠ 0)) = sy at *
      generalize v ^ (m % 61 + n % 61) = vz at *
      generalize v ^ (m % 61) = vx at *
      generalize v ^ (n % 61) = vy at *
      clear hfit hfk hfl hf0 hvk hvl ekl ek el
      go_enter Try.func13, Try.ntmps13
      go_wp2_with fail
      refine (HP.out _ I0.sl).mono ?_
      intro e w2 h
      obtain ⟨A2, n2, c2, rfl, hs2, hb2⟩ := giveE_out h
      have Z := Bx.new (neg := sz) hs2
      have hnn := below_step hb2 (below_new w2 (.cells #[.bool sz, .slice A2 n2 c2] 24))
      replace I0 := I0.next hnn
      replace HB := below_step HB hnn
      obtain ⟨k1, k2⟩ := I0.cells
      clear h hs2 hb2 hnn HP
      go_wp2_with fail
      refine (HPk.out _ I0.sl).mono ?_
      intro e w3 h
      obtain ⟨A3, n3, c3, rfl, hs3, hb3⟩ := giveE_out h
      have X := Bx.new (neg := sx) hs3
      have hnn := below_step hb3 (below_new w3 (.cells #[.bool sx, .slice A3 n3 c3] 24))
      replace I0 := I0.next hnn
      replace Z := Z.next hnn
      replace HB := below_step HB hnn
      clear k1 k2
      obtain ⟨k1, k2⟩ := I0.cells
      clear h hs3 hb3 hnn HPk
      go_wp2_with fail
      refine (HPl.out _ I0.sl).mono ?_
      intro e w4 h
      obtain ⟨A4, n4, c4, rfl, hs4, hb4⟩ := giveE_out h
      have Y := Bx.new (neg := sy) hs4
      have hnn := below_step hb4 (below_new w4 (.cells #[.bool sy, .slice A4 n4 c4] 24))
      replace I0 := I0.next hnn
      replace Z := Z.next hnn
      replace X := X.next hnn
      replace HB := below_step HB hnn
      clear k1 k2
      obtain ⟨k1, k2⟩ := X.cells
      clear h hs4 hb4 hnn HPl
      go_wp2_with fail
      refine (HM.out _ _ _ _ _ _ _ X.sl Y.sl).mono ?_
      intro e w5 h
      obtain ⟨A5, n5, c5, rfl, hs5, hb5⟩ := giveE_out h
      have P := Bx.new (neg := sz) hs5
      have hnn := below_step hb5 (below_new w5 (.cells #[.bool sz, .slice A5 n5 c5] 24))
      replace I0 := I0.next hnn
      replace Z := Z.next hnn
      replace HB := below_step HB hnn
      clear k1 k2 X Y
      obtain ⟨k1, k2⟩ := I0.cells
      clear h hs5 hb5 hnn HM
      go_wp2_with fail
      refine (HP0.out _ I0.sl).mono ?_
      intro e w6 h
      obtain ⟨A6, n6, c6, rfl, hs6, hb6⟩ := giveE_out h
      have U := (Bx.new (neg := false) hs6).drew
      have hnn := below_step hb6 (below_new w6 (.cells #[.bool false, .slice A6 n6 c6] 24))
      replace Z := (Z.next hnn).drew
      replace P := (P.next hnn).drew
      replace HB := (below_step HB hnn).drew
      clear k1 k2 I0
      clear h hs6 hb6 hnn HP0
      obtain ⟨k1, k2⟩ := Z.cells
      obtain ⟨k3, k4⟩ := P.cells
      obtain ⟨k5, k6⟩ := U.cells
      go_wp2
      go_region_held3 (fun W => W.cell? ⟨w2.heap.size, 0, none⟩ = some (.bool sz) ∧ W.cell? ⟨w2.heap.size, 1, none⟩ = some (.slice A2 n2 c2) ∧ W.cell? ⟨w5.heap.size, 0, none⟩ = some (.bool sz) ∧ W.cell? ⟨w5.heap.size, 1, none⟩ = some (.slice A5 n5 c5) ∧ W.cell? ⟨w6.heap.size, 0, none⟩ = some (.bool false) ∧ W.cell? ⟨w6.heap.size, 1, none⟩ = some (.slice A6 n6 c6))
        (first | (with_reducible exact ⟨k1, k2, k3, k4, k5, k6⟩))
        (first
        | (go_at_call 19; (with_reducible refine (same_eq _ _ _ _ _ P.zi Z.zi).mono ?_); rintro e wd ⟨rfl, hbd⟩; have Z1 := Z.next hbd; have P1 := P.next hbd; have U1 := U.next hbd; have HB1 := below_step HB hbd; clear Z P U HB hbd k1 k2 k3 k4 k5 k6; obtain ⟨k1, k2⟩ := Z1.cells; obtain ⟨k3, k4⟩ := P1.cells; obtain ⟨k5, k6⟩ := U1.cells)
        | (go_at_call 35; (with_reducible refine (ex_from1 _).mono ?_); intro e wd hm; obtain ⟨Am, nm, cm, rfl, hsm, hbd⟩ := giveI_out hm; have Z2 := Z1.next hbd; have P2 := P1.next hbd; have U2 := U1.next hbd; have HB2 := below_step HB1 hbd; clear hm Z1 P1 U1 HB1 hbd k1 k2 k3 k4 k5 k6; obtain ⟨k1, k2⟩ := Z2.cells; obtain ⟨k3, k4⟩ := P2.cells; obtain ⟨k5, k6⟩ := U2.cells)
        | (go_at_call 19; (with_reducible refine (same_eq _ _ _ _ _ U2.zi (sl_zi hsm)).mono ?_); rintro e wd ⟨rfl, hbd⟩; have Z3 := Z2.next hbd; have P3 := P2.next hbd; have U3 := U2.next hbd; have HB3 := below_step HB2 hbd; clear hsm Z2 P2 U2 HB2 hbd k1 k2 k3 k4 k5 k6; obtain ⟨k1, k2⟩ := Z3.cells; obtain ⟨k3, k4⟩ := P3.cells; obtain ⟨k5, k6⟩ := U3.cells)
        | (go_at_call 24; (with_reducible refine (examples_any _).mono ?_); rintro e wd ⟨rfl, hbd⟩; have Z4 := Z3.next hbd; have P4 := P3.next hbd; have U4 := U3.next hbd; have HB4 := below_step HB3 hbd; clear Z3 P3 U3 HB3 hbd k1 k2 k3 k4 k5 k6; obtain ⟨k1, k2⟩ := Z4.cells; obtain ⟨k3, k4⟩ := P4.cells; obtain ⟨k5, k6⟩ := U4.cells))
      all_goals
        go_wp2
        go_ret
        exact ⟨rfl, HB4⟩
    · have HP : Hid (∀ W : World, Sl W W.heap.size A0 n0 c0 (ml (enc v)) → Calls Try.prog 31 #[.agg #[.bool B0, .slice A0 n0 c0], .int .i64 ((m : Int) % 61 + (n : Int) % 61)] W (GiveE false 0 4 W)) := by
        intro W h
        have := pow_any _ B0 v (m % 61 + n % 61) W (sl_zi h) hva (by omega)
        rwa [zpow_long hfit, ekl] at this
      clear hfit ekl ek el
      go_enter Try.func13, Try.ntmps13
      go_wp2_with fail
      refine (HP.out _ I0.sl).mono ?_
      intro e w2 h
      obtain ⟨A2, n2, c2, rfl, hs2, hb2⟩ := giveE_out h
      replace HB := below_step HB (below_step hb2 (below_new w2 (.cells #[.bool false, .slice A2 n2 c2] 24)))
      clear h hs2 hb2
      go_wp2_with fail
      refine (examples_any _).mono ?_
      rintro e w5 ⟨rfl, hb5⟩
      go_wp2
      go_ret
      exact ⟨rfl, below_step HB hb5⟩
end Go.Proofs.Ytdbkjcaodllpjaa
