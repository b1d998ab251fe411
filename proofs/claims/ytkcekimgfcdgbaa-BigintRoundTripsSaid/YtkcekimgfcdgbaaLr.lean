/- BigintRoundTrips returns true for any integer and any base. -/
import Derived.Test.YtkcekimgfcdgbaaVi
import Derived.Test.YtkcekimgfcdgbaaVk
import Derived.Deep.RegionHeld3
import Derived.Deep.DrawnRows
set_option linter.unusedVariables false
namespace Go.Proofs.Ytkcekimgfcdgbaa
open Go.RowKit
attribute [local go_sem ↓] Go.wp_at_zero Go.wp_at_succ

theorem rest_bound (v : Nat) (h : (enc v).length ≤ 512) : (restS v).length ≤ 16384 := by
  unfold restS
  split
  · simp
  · rw [length_chs, List.length_reverse]
    obtain ⟨z, hz⟩ : ∃ z, z = 512 := ⟨_, rfl⟩
    rw [← hz] at h
    have h1 := (length_enc_le v z).1 h
    rw [pow_limb] at h1
    refine Nat.le_trans ((length_digs_le 10 (by omega) v (32 * z)).2 (Nat.lt_of_lt_of_le h1 (Nat.pow_le_pow_left (by omega) _))) (by omega)
/-- what FromInt makes of what ToInt returns -/
theorem from_toInt {neg : Bool} {v : Nat} {r : Int} (h0 : neg = true → v ≠ 0) (h : toIntS neg v = (r, 0)) : -9223372036854775808 ≤ r ∧ r ≤ 9223372036854775807 ∧ decide (r < 0) = neg ∧ r.natAbs = v := by
  unfold toIntS at h
  split at h
  · rename_i hh
    injection h with h1 _
    have := h0 hh.1
    refine ⟨by omega, by omega, ?_, by omega⟩
    rw [hh.1]
    exact decide_eq_true (by omega)
  · split at h
    · rename_i hh
      injection h with h1 _
      refine ⟨by omega, by omega, ?_, by omega⟩
      rw [hh.1]
      exact decide_eq_false (by omega)
    · injection h with h1 h2
      omega
theorem digsS_ok (b v : Nat) (hb : 2 ≤ b) : OkD b (digsS b v) := by
  unfold digsS
  split
  · intro x hx; simp at hx; omega
  · intro x hx
    exact okD_digs b hb v x (by simpa using hx)
theorem horn_digsS (b v : Nat) (hb : 2 ≤ b) : horn b (digsS b v) = v := by
  unfold digsS
  split
  · subst_vars; simp [horn]
  · rw [horn_rev, valD_digs b hb]
theorem digsS_head (b v : Nat) (hb : 2 ≤ b) : 0 < (digsS b v).length ∧ ((digsS b v).getD 0 0 ≠ 0 ∨ (digsS b v).length = 1) := by
  unfold digsS
  split
  · simp
  · rename_i h
    refine ⟨?_, .inl (head_rev b hb h)⟩
    rw [List.length_reverse]
    exact List.length_pos_iff.2 (fun e => h (digs_eq_nil hb e))

set_option maxRecDepth 100000 in
set_option maxHeartbeats 4000000 in
theorem law_roundTrips (B0 : Bool) (A0 : Option Addr) (n0 c0 : Nat) (l0 : List Nat) (x1 : Int) (w : World) (s0 : Sl w w.heap.size A0 n0 c0 (ml l0)) (o0 : Ok l0) (b1 : 0 ≤ x1 ∧ x1 ≤ 65535) :
    Calls Try.prog 14 #[.agg #[.bool B0, .slice A0 n0 c0], .int .u16 x1] w fun e w' => e = .returned (.bool true) ∧ Below w.heap.size w w' := by
  have I0 : Bl (w.alloc (bx (.bool B0) (.slice A0 n0 c0))) w.heap.size B0 A0 n0 c0 l0 := ⟨At.new _ _ _, s0.next (below_new _ _)⟩
  have HB := below_new w (bx (.bool B0) (.slice A0 n0 c0))
  clear s0
  cases hval : validB B0 l0 with
  | false =>
    go_enter Try.func14, Try.ntmps14
    go_wp2_with fail
    refine (valid_false hval o0 I0.sl).mono ?_
    rintro e w3 ⟨rfl, hb3⟩
    replace I0 := I0.next hb3
    replace HB := below_step HB hb3
    obtain ⟨k1, k2⟩ := I0.cells
    clear hb3
    go_wp2_with fail
    refine (format_bad B0 A0 n0 c0 l0 _ I0.sl o0 hval).mono ?_
    rintro e w4 ⟨rfl, hb4⟩
    replace HB := below_step HB hb4
    clear hb4 k1 k2 I0
    go_wp2_with fail
    refine (examples_any _).mono ?_
    rintro e w5 ⟨rfl, hb5⟩
    go_wp2
    go_ret
    exact ⟨rfl, below_step HB hb5⟩
  | true =>
    obtain ⟨ev, hva⟩ := of_validB o0 hval
    generalize val l0 = v at ev hva
    subst ev
    clear hval o0
    have hrb := rest_bound v hva.2
    obtain ⟨S, hS⟩ : ∃ S, str (fmtS B0 v) = S := ⟨_, rfl⟩
    have hSz : S.size = (fmtS B0 v).length := by rw [← hS, str_size]
    have hS1 : 1 ≤ S.size ∧ S.size ≤ 16385 := by
      have h1 := rest_len v
      rw [hSz, fmt_rest, List.length_append]
      cases B0 <;> simp <;> omega
    have HF : Hid (∀ W : World, Sl W W.heap.size A0 n0 c0 (ml (enc v)) → Calls Try.prog 41 #[.agg #[.bool B0, .slice A0 n0 c0]] W fun e w' => e = .returned (.string S) ∧ Below W.heap.size W w') := fun W h => by
      rw [← hS]; exact format_any B0 A0 n0 c0 v W h hva
    have HP : Hid (∃ q1 q2 q3, (S.size ≤ 4096 → q1 = B0 ∧ q2 = v ∧ q3 = 0) ∧ ∀ W : World, Calls Try.prog 39 #[.string S] W (GiveE q1 q2 q3 W)) := by
      have hsb : sb (str (restS v)) = restS v := sb_str _ (fun x hx => by have := rest_byte v x hx; omega)
      by_cases hl : (restS v).length ≤ 4096
      · exact ⟨B0, v, 0, fun _ => ⟨rfl, rfl, rfl⟩, fun W => by rw [← hS]; exact parse_core _ (str (restS v)) B0 W (by rw [str_size]; omega) _ _ _ (by rw [hsb]; exact parse_rest B0 v hva.1 hl) (cut_fmt B0 v)⟩
      · refine ⟨false, 0, 4, fun h => ?_, fun W => by rw [← hS]; exact parse_core _ (str (restS v)) B0 W (by rw [str_size]; omega) _ _ _ (by rw [hsb]; exact parse_long B0 v (by omega)) (cut_fmt B0 v)⟩
        rw [hSz, fmt_rest, List.length_append] at h
        omega
    obtain ⟨q1, q2, q3, hq, HPC0⟩ := HP.out
    have HPC := Lib.hid HPC0
    clear hS hSz hrb HP HPC0
    obtain ⟨hS0, hS9⟩ := hS1
    go_enter Try.func14, Try.ntmps14
    go_wp2_with fail
    refine (valid_true hva I0.sl).mono ?_
    rintro e w3 ⟨rfl, hb3⟩
    replace I0 := I0.next hb3
    replace HB := below_step HB hb3
    obtain ⟨k1, k2⟩ := I0.cells
    clear hb3
    go_wp2_with fail
    refine (HF.out _ I0.sl).mono ?_
    rintro e w4 ⟨rfl, hb4⟩
    replace I0 := I0.next hb4
    replace HB := below_step HB hb4
    clear hb4 k1 k2
    go_wp2_with fail
    refine (HPC.out _).mono ?_
    intro e w5 h
    obtain ⟨A5, n5, c5, rfl, hs5, hb5⟩ := giveE_out h
    have Y := Bx.new (neg := q1) hs5
    have hnn := below_step hb5 (below_new w5 (.cells #[.bool q1, .slice A5 n5 c5] 24))
    replace I0 := I0.next hnn
    replace HB := below_step HB hnn
    obtain ⟨k1, k2⟩ := I0.cells
    obtain ⟨k3, k4⟩ := Y.cells
    clear h hs5 hb5 hnn HF HPC
    have hsI : (1 : Int) ≤ (S.size : Int) := by omega
    have hSe : S.toList.isEmpty = false := by
      have := toList_ne (t := S) (by omega)
      cases h : S.toList with
      | nil => exact absurd h this
      | cons => rfl
    obtain ⟨r, hr⟩ : ∃ r, (toIntS B0 v).1 = r := ⟨_, rfl⟩
    obtain ⟨e0, he0⟩ : ∃ e0, (toIntS B0 v).2 = e0 := ⟨_, rfl⟩
    have hre : toIntS B0 v = (r, e0) := by rw [← hr, ← he0]
    have HT : Hid (∀ W : World, Sl W W.heap.size A0 n0 c0 (ml (enc v)) → Calls Try.prog 33 #[.agg #[.bool B0, .slice A0 n0 c0]] W fun e w' => e = .returned (.tuple #[.int .i64 r, .int .i64 e0]) ∧ Below W.heap.size W w') := fun W h => toInt_any B0 A0 n0 c0 v W h hva r e0 hre
    have HRE := Lib.hid hre
    have HVA := Lib.hid hva
    obtain ⟨base, hbI⟩ : ∃ base : Nat, x1 % 65535 + 2 = (base : Int) := ⟨(x1 % 65535 + 2).toNat, by omega⟩
    have hb1 : 2 ≤ base := by omega
    have hb2 : base ≤ 65536 := by omega
    obtain ⟨hx0, hx1⟩ := b1
    clear hr he0 hre hva
    by_cases hsz : S.size ≤ 4096
    focus
      obtain ⟨rfl, rfl, rfl⟩ := (hq hsz).imp Eq.symm (And.imp Eq.symm id)
      clear hq
      go_wp2_with fail
      refine (same_eq _ _ _ _ _ (sl_zi I0.sl) Y.zi).mono ?_
      rintro e w6 ⟨rfl, hb6⟩
      replace I0 := I0.next hb6
      replace HB := below_step HB hb6
      clear hb6 k1 k2 k3 k4 Y
      obtain ⟨k1, k2⟩ := I0.cells
      go_wp2_with fail
    rotate_left
    focus
      clear hq k3 k4 Y
      go_wp2_with fail
    all_goals
      refine (HT.out _ I0.sl).mono ?_
      rintro e w7 ⟨rfl, hb7⟩
      have I1 := (I0.next hb7).drew
      have HB1 := (below_step HB hb7).drew
      have I7 := I0.next hb7
      have HB7 := below_step HB hb7
      clear hb7 HT I0 HB k1 k2
      obtain ⟨k1, k2⟩ := I1.cells
      by_cases he : e0 = 0
      focus
        subst he
        obtain ⟨f0, f1, f2, f3⟩ := from_toInt HVA.out.1 HRE.out
        have HFI : Hid (∀ W : World, Calls Try.prog 35 #[.int .i64 r] W (GiveI B0 v W)) := fun W => by
          have := fromInt_any r W f0 f1
          rwa [f2, f3] at this
        clear f0 f1 f2 f3 I7 HB7
        go_wp2
        go_region_held3 (fun W => W.cell? ⟨w.heap.size, 0, none⟩ = some (.bool B0) ∧ W.cell? ⟨w.heap.size, 1, none⟩ = some (.slice A0 n0 c0))
          (first | (with_reducible exact ⟨k1, k2⟩))
          (first
          | (go_at_call 35; (with_reducible refine (HFI.out _).mono ?_); intro e wd hm; obtain ⟨Am, nm, cm, rfl, hsm, hbd⟩ := giveI_out hm; have I2 := I1.next hbd; have HB2 := below_step HB1 hbd; clear hm I1 HB1 hbd HFI k1 k2; obtain ⟨k1, k2⟩ := I2.cells)
          | (go_at_call 19; (with_reducible refine (same_eq _ _ _ _ _ (sl_zi hsm) (sl_zi I2.sl)).mono ?_); rintro e wd ⟨rfl, hbd⟩; have I3 := I2.next hbd; have HB3 := below_step HB2 hbd; clear hsm I2 HB2 hbd k1 k2; obtain ⟨k1, k2⟩ := I3.cells))
        go_wp2_with fail
      rotate_left
      focus
        have hef : (e0 == 0) = false := beq_eq_false_iff_ne.2 he
        clear I1 HB1 k1 k2
        obtain ⟨k1, k2⟩ := I7.cells
        go_wp2
        go_quiet (fail)
        have I3 := I7.next (below_drawn (Below.refl _ _) nq)
        have HB3 := below_drawn HB7 nq
        clear I7 HB7 k1 k2
        obtain ⟨k1, k2⟩ := I3.cells
        go_wp2_with fail
    all_goals
      cases B0
      focus
        by_cases hlen : (digsS base v).length ≤ 4096
        focus
          have HD := Lib.hid (digits_any A0 n0 c0 v base _ I3.sl HVA.out hb1 hb2 (digsS base v) 0 (Lib.hid ⟨fun _ => ⟨rfl, rfl⟩, fun h => absurd h (by omega)⟩))
          have d1 := digsS_ok base v hb1
          have d2 := horn_digsS base v hb1
          obtain ⟨d3, d4⟩ := digsS_head base v hb1
          generalize digsS base v = L at *
          refine HD.out.mono ?_
          rintro e w8 ⟨A8, c8, rfl, hs8, hb8⟩
          have I4 := I3.next hb8
          have HB4 := below_step HB3 hb8
          have HFD := Lib.hid (fromDigits_ok A8 L.length c8 base v L _ hs8 hb1 hb2 hlen d1 d2 HVA.out.2)
          have hs8' := Lib.hid hs8
          have D4 := Lib.hid d4
          clear hb8 hs8 d1 d2 d4 HD I3 HB3 k1 k2
          go_wp2_with fail
          refine HFD.out.mono ?_
          intro e w9 h
          obtain ⟨A9, n9, c9, rfl, hs9, hb9⟩ := giveE_out h
          have Z := Bx.new (neg := false) hs9
          have hnn := below_step hb9 (below_new w9 (.cells #[.bool false, .slice A9 n9 c9] 24))
          have I5 := I4.next hnn
          have HB5 := below_step HB4 hnn
          obtain ⟨k1, k2⟩ := I5.cells
          obtain ⟨k3, k4⟩ := Z.cells
          have hs5 := hs8'.out.next hnn
          clear h hs9 hb9 hnn HFD I4 HB4 hs8'
          go_wp2_with fail
          refine (same_eq _ _ _ _ _ Z.zi (sl_zi I5.sl)).mono ?_
          rintro e wa ⟨rfl, hba⟩
          have hs6 := hs5.next hba
          have HB6 := below_step HB5 hba
          clear hba k1 k2 k3 k4 Z I5 HB5 hs5
          obtain ⟨bb, off, rfl, hbb, hc⟩ := at_nl hs6 d3
          rw [Nat.add_zero] at hc
          rcases D4.out with h0 | h1
          focus
            have hne : (((L.getD 0 0 : Nat) : Int) != 0) = true := by
              rw [bne_iff_ne]
              omega
            generalize L.getD 0 0 = y at *
            generalize L.length = ll at *
            go_wp2_with fail
          rotate_left
          focus
            have hle1 : ((L.length : Nat) : Int) = 1 := by omega
            have hll : (((L.length : Nat) : Int) == 1) = true := by rw [hle1]; rfl
            clear hle1 h1
            generalize L.getD 0 0 = y at *
            generalize L.length = ll at *
            go_wp2_with fail
          all_goals
            refine (examples_any _).mono ?_
            rintro e wb ⟨rfl, hbb2⟩
            go_wp2
            go_ret
            exact ⟨rfl, below_step HB6 hbb2⟩
        rotate_left
        focus
          have HD := Lib.hid (digits_any A0 n0 c0 v base _ I3.sl HVA.out hb1 hb2 [] 4 (Lib.hid ⟨fun h => absurd h hlen, fun _ => ⟨rfl, rfl⟩⟩))
          refine HD.out.mono ?_
          rintro e w8 ⟨A8, c8, rfl, hs8, hb8⟩
          have I4 := I3.next hb8
          have HB4 := below_step HB3 hb8
          clear hb8 hs8 HD I3 HB3 k1 k2
          obtain ⟨k1, k2⟩ := I4.cells
          go_wp2_with fail
          refine (examples_any _).mono ?_
          rintro e wb ⟨rfl, hbb⟩
          go_wp2
          go_ret
          exact ⟨rfl, below_step HB4 hbb⟩
      all_goals
        refine (digits_neg A0 n0 c0 v _ _ I3.sl HVA.out).mono ?_
        rintro e w8 ⟨rfl, hb8⟩
        have I4 := I3.next hb8
        have HB4 := below_step HB3 hb8
        clear hb8 I3 HB3 k1 k2
        obtain ⟨k1, k2⟩ := I4.cells
        go_wp2_with fail
        refine (examples_any _).mono ?_
        rintro e wb ⟨rfl, hbb⟩
        go_wp2
        go_ret
        exact ⟨rfl, below_step HB4 hbb⟩
end Go.Proofs.Ytkcekimgfcdgbaa
