/- The law RunsReturns. -/
import Derived.Test.YtjobcobgmajajaaWf
import Derived.Test.YtjobcobgmajajaaWh
import Derived.Test.YtjobcobgmajajaaWi
import Derived.Test.YtjobcobgmajajaaPure6
set_option linter.unusedVariables false
namespace Go.Proofs.Ytjobcobgmajajaa
open Go.RowKit

theorem rep_repN (l : List Bool) (k : Nat) : rep l k = repN l k := rfl
theorem stretch_of {l : List Bool} {d : Nat} (h1 : 1 ≤ d) (h2 : d ≤ 50) (h3 : l.length ≤ 300) : stretchS l d = (repN l d, 0) := by
  unfold stretchS
  rw [if_neg (by omega)]
  have h4 : 65536 / 50 ≤ 65536 / d := Nat.div_le_div_left h2 (by omega)
  have h5 : ¬ (65536 : Int) / (d : Int) < (l.length : Nat) := by
    have : ((65536 / d : Nat) : Int) = (65536 : Int) / (d : Int) := by simp
    rw [← this]
    omega
  rw [if_neg h5]
  rfl
theorem shrink_rep {l : List Bool} {d : Nat} (h1 : 1 ≤ d) : shrinkS (repN l d) d = (l, 0) := by
  have h2 := (shrink_of (l := repN l d) (d := d) (n := l.length * d) (length_repN l d) h1 (by simp)).1 (uni_repN h1)
  rw [h2, Nat.mul_div_cancel _ h1, samp_repN h1]
theorem core_ends {l : List Bool} (h : lm l < l.length) : (core l).getD 0 false = true ∧ (core l).getD ((core l).length - 1) false = true ∧ (core l).length = l.length - rm l - lm l ∧ lm l + rm l < l.length := by
  have h1 := lm_rm h
  have h2 := length_core h
  refine ⟨?_, ?_, h2, h1⟩
  · rw [getD_core (by omega)]
    simpa using lm_at h
  · rw [getD_core (by omega), h2]
    have := rm_at (l := l) (by omega)
    rw [show lm l + (l.length - rm l - lm l - 1) = l.length - 1 - rm l by omega]
    exact this

set_option maxHeartbeats 2000000 in
set_option maxRecDepth 100000 in
theorem returns_main (A : Option Addr) (n c : Nat) (l : List Bool) (d : Nat) (w : World) (hs : Sl w w.heap.size A n c (bl l)) (h1 : ¬ 300 < n) (h2 : 1 ≤ d) (h3 : d ≤ 50) (hlm : lm l < n) :
    Calls Try.prog 7 #[.slice A n c, .int .i64 d] w fun e w' => e = .returned (.bool true) ∧ Below w.heap.size w w' := by
  have hl : l.length = n := by rw [← length_bl]; exact hs.len
  have hmax := hs.max
  have hle := hs.le
  unfold maxLen at hmax
  have hce := core_ends (l := l) (by omega)
  rw [hl] at hce
  have hw : widthsS l = wds (core l) := by unfold widthsS; rw [if_neg (by omega)]
  have hmo := modules_of (m := core l) (by omega) (by omega) hce.1 hce.2.1
  have hst := stretch_of (l := l) h2 h3 (by omega)
  have hsh := shrink_rep (l := l) h2
  have hwr := widthsS_repN (l := l) (k := d) h2
  rw [hw] at hwr
  -- the numbers of the widths
  have hwx : ∀ i, i < (wds (core l)).length → 1 ≤ (wds (core l)).getD i 0 ∧ (wds (core l)).getD i 0 ≤ 300 := fun i hi => by
    have e : (wds (core l)).getD i 0 = (wds (core l))[i] := by simp [List.getD, hi]
    rw [e]
    obtain ⟨y, hy, he⟩ := List.mem_map.1 (List.getElem_mem hi)
    have := widths_ok (core l) (core l).length y hy
    rw [← he]
    omega
  have HW1 : Hid (∀ w1, Sl w1 w1.heap.size A n c (bl l) → Calls Try.prog 17 #[.slice A n c] w1 fun e w' => ∃ A1 c1, e = .returned (.slice A1 (wds (core l)).length c1) ∧ Sl w' w'.heap.size A1 (wds (core l)).length c1 (il (wds (core l))) ∧ Below w1.heap.size w1 w') := fun w1 h => by
    have := widths_any A n c l w1 h (by omega)
    rw [hw] at this
    exact this.mono fun _ _ h => gives1_out h (length_il _)
  have HM1 : Hid (∀ w1 A1 c1, Sl w1 w1.heap.size A1 (wds (core l)).length c1 (il (wds (core l))) → Calls Try.prog 11 #[.slice A1 (wds (core l)).length c1] w1 fun e w' => ∃ A2 c2, e = .returned (.tuple #[.slice A2 (core l).length c2, .int .i64 0]) ∧ Sl w' w'.heap.size A2 (core l).length c2 (bl (core l)) ∧ Below w1.heap.size w1 w') := fun w1 A1 c1 h => by
    have hwl : (wds (core l)).length ≤ 300 := by
      have := pr_length (core l) (core l).length
      simp only [wds, prs, List.length_map]
      omega
    have := modules_any A1 _ c1 (wds (core l)) w1 h (by omega)
    rw [hmo.1] at this
    exact this.mono fun _ _ h => gives_out h (length_bl _)
  have hnd : (repN l d).length ≤ 15000 := by rw [length_repN, hl]; exact Nat.le_trans (Nat.mul_le_mul (show n ≤ 300 by omega) h3) (by omega)
  have HS1 : Hid (∀ w1, Sl w1 w1.heap.size A n c (bl l) → Calls Try.prog 21 #[.slice A n c, .int .i64 d] w1 fun e w' => ∃ A1 c1, e = .returned (.tuple #[.slice A1 (repN l d).length c1, .int .i64 0]) ∧ Sl w' w'.heap.size A1 (repN l d).length c1 (bl (repN l d)) ∧ Below w1.heap.size w1 w') := fun w1 h => by
    have := stretch_any A n c l d w1 h (by omega) (by omega)
    rw [hst] at this
    exact this.mono fun _ _ h => gives_out h (length_bl _)
  have HK1 : Hid (∀ w1 A1 c1, Sl w1 w1.heap.size A1 (repN l d).length c1 (bl (repN l d)) → Calls Try.prog 23 #[.slice A1 (repN l d).length c1, .int .i64 d] w1 fun e w' => ∃ A2 c2, e = .returned (.tuple #[.slice A2 n c2, .int .i64 0]) ∧ Sl w' w'.heap.size A2 n c2 (bl l) ∧ Below w1.heap.size w1 w') := fun w1 A1 c1 h => by
    have := shrink_any A1 _ c1 (repN l d) d w1 h (by omega) (by omega)
    rw [hsh] at this
    exact this.mono fun _ _ h => gives_out h (by rw [length_bl]; exact hl)
  have HV1 : Hid (∀ w1 A1 c1, Sl w1 w1.heap.size A1 (repN l d).length c1 (bl (repN l d)) → Calls Try.prog 17 #[.slice A1 (repN l d).length c1] w1 fun e w' => ∃ A2 c2, e = .returned (.slice A2 (wds (core l)).length c2) ∧ Sl w' w'.heap.size A2 (wds (core l)).length c2 (il ((wds (core l)).map fun x => (d : Int) * x)) ∧ Below w1.heap.size w1 w') := fun w1 A1 c1 h => by
    have := widths_any A1 _ c1 (repN l d) w1 h (by omega)
    rw [hwr] at this
    exact this.mono fun _ _ h => gives1_out h (by rw [length_il, List.length_map])
  have HMG := Lib.hid (fun w1 (h : Sl w1 w1.heap.size A n c (bl l)) => margins_any A n c _ l w1 h)
  have hcore : ((bl l).drop (lm l)).take (n - rm l - lm l) = bl (core l) := by rw [core, hl, bl, bl, List.map_take, List.map_drop]
  obtain ⟨b, off, rfl, _, _⟩ := hs.at_ hlm (.bool false)
  have HCUT : Hid (∀ w1, Sl w1 w1.heap.size (some ⟨b, off, none⟩) n c (bl l) → Sl w1 w1.heap.size (some ⟨b, off + lm l, none⟩) (n - rm l - lm l) (c - lm l) (bl (core l))) := fun w1 h => by
    have := h.cut (lm l) (n - rm l) (by omega) (by omega)
    rw [hcore, if_neg (by omega), Option.map_some, Nat.mul_one, Addr.add_lit] at this
    exact this
  have hodd := hmo.2
  have HL := Lib.hid hl
  generalize hwn : (wds (core l)).length = wn at *
  generalize hrn : (repN l d).length = rn at *
  clear hw hmo hst hsh hwr hcore hl
  generalize wds (core l) = wl at *
  generalize core l = cl at *
  generalize repN l d = rl at *
  generalize lm l = p at *
  generalize rm l = q at *
  obtain ⟨E, hE⟩ : ∃ E, E = n - q := ⟨_, rfl⟩
  rw [← hE] at HCUT
  have hcl := hce.2.2.1
  rw [← hE] at hcl
  rw [hcl] at HM1
  have hpE : p < E ∧ E ≤ n := by omega
  have hEq : E + q = n := by omega
  clear hce hE
  obtain ⟨m, hm⟩ : ∃ m, m = E - p := ⟨_, rfl⟩
  rw [← hm] at HCUT HM1
  have hpm : (p : Int) + (m : Int) = (E : Int) := by omega
  have hpn : (E : Int) + (q : Int) = (n : Int) := by omega
  have hEp : E - p = m := hm.symm
  clear hm hEq
  have hwi : ((wn : Int) == 0) = false := by rw [beq_eq_false_iff_ne]; omega
  have hwo : ((wn : Int) % 2 == 0) = false := by rw [beq_eq_false_iff_ne]; omega
  have hwnb : wn ≤ 1048576 ∨ True := .inr trivial
  have HPE := Lib.hid hpE
  have hb1 : (p : Int) ≤ (E : Int) := by omega
  have hb2 : (E : Int) ≤ c := by omega
  have hb3 : (E : Int) ≤ n := by omega
  go_enter Try.func7, Try.ntmps7
  go_wp2_with fail
  refine (HW1.out _ hs).mono ?_
  rintro e w1 ⟨A1, c1, rfl, p1, hb⟩
  have hB := hb
  replace hs := hs.next hb
  clear hb HW1
  have hle1 := p1.le
  have hmax1 := p1.max
  unfold maxLen at hmax1
  go_wp2_with fail
  refine (HMG.out _ hs).mono ?_
  rintro e w' ⟨rfl, rfl⟩
  go_wp2_with fail
  refine (HM1.out _ _ _ p1).mono ?_
  rintro e w2 ⟨A2, c2, rfl, p2, hb⟩
  replace hs := hs.next hb
  replace p1 := p1.next hb
  replace hB := below_step hB hb
  clear hb HM1 HMG
  go_wp2_with fail
  refine (same_any _ _ _ _ _ _ _ _ _ p2 (HCUT.out _ hs)).mono ?_
  rintro e w3 ⟨rfl, hb⟩
  replace hs := hs.next hb
  replace p1 := p1.next hb
  replace hB := below_step hB hb
  rw [beq_self_eq_true]
  clear hb p2 HCUT
  go_wp2_with fail
  refine (HS1.out _ hs).mono ?_
  rintro e w4 ⟨A4, c4, rfl, p4, hb⟩
  replace hs := hs.next hb
  replace p1 := p1.next hb
  replace hB := below_step hB hb
  clear hb HS1
  go_wp2_with fail
  refine (HK1.out _ _ _ p4).mono ?_
  rintro e w5 ⟨A5, c5, rfl, p5, hb⟩
  replace hs := hs.next hb
  replace p1 := p1.next hb
  replace p4 := p4.next hb
  replace hB := below_step hB hb
  clear hb HK1
  go_wp2_with fail
  refine (HV1.out _ _ _ p4).mono ?_
  rintro e w6 ⟨A6, c6, rfl, p6, hb⟩
  replace hs := hs.next hb
  replace p1 := p1.next hb
  replace p5 := p5.next hb
  replace hB := below_step hB hb
  clear hb HV1 p4
  go_wp2_with fail
  refine (same_any _ _ _ _ _ _ _ _ _ p5 hs).mono ?_
  rintro e w7 ⟨rfl, hb⟩
  replace p1 := p1.next hb
  replace p6 := p6.next hb
  replace hB := below_step hB hb
  rw [beq_self_eq_true]
  clear hb p5 hs
  have hle6 := p6.le
  have hmax6 := p6.max
  unfold maxLen at hmax6
  have hd1 : (1 : Int) ≤ d := by omega
  have hd50 : (d : Int) ≤ 50 := by omega
  clear hpm hpn hb1 hb2 hb3 hpE HPE hEp hcl
  go_wp2
  go_loopw [130] (fun iv wr => ∃ i : Nat, i ≤ wn ∧ iv = .int .i64 i ∧ Below w7.heap.size w7 wr) (fun iv _ => wn - (intOf iv).toNat)
  case atStart => exact ⟨0, Nat.zero_le _, rfl, Below.refl _ _⟩
  case round =>
    obtain ⟨i, hi, rfl, hbel⟩ := hrel
    by_cases hlt : i < wn
    · have hi0 : (0 : Int) ≤ i := by omega
      have hi1 : (i : Int) < wn := by omega
      obtain ⟨b6, o6, rfl, hb6, hc6⟩ := (p6.below hbel).at_ hlt (.int .i64 0)
      rw [getD_il _ i (by rw [List.length_map]; omega)] at hc6
      obtain ⟨b7, o7, rfl, hb7, hc7⟩ := (p1.below hbel).at_ hlt (.int .i64 0)
      rw [getD_il wl i (by omega)] at hc7
      have hx := hwx i hlt
      rw [show (wl.map fun x => (d : Int) * x).getD i 0 = d * wl.getD i 0 by simp [List.getD, show i < wl.length by omega]] at hc6
      generalize wl.getD i 0 = x at *
      have p1 := mul_bound (a := (d : Int)) (b := x) (p := 50) (q := 300) (by omega) (by omega) (by omega) (by omega) (by omega)
      generalize q1 : (d : Int) * x = y at *
      have w1 : IntKind.i64.wrap y = y := by rw [IntKind.wrap_i64]; omega
      have hyy : (y != y) = false := by simp
      go_wp2
      go_quiet (fail)
      go_wp2
      go_roundw
      case rel => exact ⟨i + 1, by omega, by go_num, below_drawn hbel _⟩
      case measure => simp [intOf]; omega
    · obtain rfl : i = wn := by omega
      replace hB := below_step hB hbel
      clear p6 p1 hbel
      go_wp2_with fail
      refine (alive_any _).mono ?_
      rintro e w8 ⟨rfl, hb⟩
      go_wp2
      go_ret
      exact ⟨rfl, below_step hB hb⟩

set_option maxHeartbeats 1000000 in
set_option maxRecDepth 100000 in
theorem law_returns (A : Option Addr) (n c : Nat) (l : List Bool) (k : Int) (w : World) (hs : Sl w w.heap.size A n c (bl l)) (hk : -9223372036854775808 ≤ k ∧ k ≤ 9223372036854775807) :
    Calls Try.prog 7 #[.slice A n c, .int .i64 k] w fun e w' => e = .returned (.bool true) ∧ Below w.heap.size w w' := by
  have hl : l.length = n := by rw [← length_bl]; exact hs.len
  have hmax := hs.max
  have hle := hs.le
  unfold maxLen at hmax
  by_cases h1 : 300 < n
  · go_enter Try.func7, Try.ntmps7
    go_wp2_with fail
    refine (alive_any _).mono ?_
    rintro e w2 ⟨rfl, hb2⟩
    go_wp2
    go_ret
    exact ⟨rfl, hb2⟩
  by_cases h2 : k < 1
  · go_enter Try.func7, Try.ntmps7
    go_wp2_with fail
    refine (alive_any _).mono ?_
    rintro e w2 ⟨rfl, hb2⟩
    go_wp2
    go_ret
    exact ⟨rfl, hb2⟩
  by_cases h3 : 50 < k
  · go_enter Try.func7, Try.ntmps7
    go_wp2_with fail
    refine (alive_any _).mono ?_
    rintro e w2 ⟨rfl, hb2⟩
    go_wp2
    go_ret
    exact ⟨rfl, hb2⟩
  obtain ⟨d, rfl⟩ := Int.eq_ofNat_of_zero_le (show 0 ≤ k by omega)
  have hlm := lm_le l
  by_cases h4 : lm l < n
  · exact returns_main A n c l d w hs h1 (by omega) (by omega) h4
  · have e1 : lm l = n := by omega
    have e2 := lm_rm_all (l := l) (by omega)
    rw [hl] at e2
    have hw : widthsS l = [] := by unfold widthsS; rw [if_pos (by omega)]
    have HW : Hid (∀ w1, Sl w1 w1.heap.size A n c (bl l) → Calls Try.prog 17 #[.slice A n c] w1 fun e w' => ∃ A1 c1, e = .returned (.slice A1 0 c1) ∧ Sl w' w'.heap.size A1 0 c1 (il []) ∧ Below w1.heap.size w1 w') := fun w1 h => by
      have := widths_any A n c l w1 h (by omega)
      rw [hw] at this
      exact this.mono fun _ _ h => gives1_out h rfl
    have HM := Lib.hid (fun w1 (h : Sl w1 w1.heap.size A n c (bl l)) => margins_any A n c _ l w1 h)
    rw [e1, e2] at HM
    clear e1 e2 hw hlm h4 hl
    go_enter Try.func7, Try.ntmps7
    go_wp2_with fail
    refine (HW.out _ hs).mono ?_
    rintro e w1 ⟨A1, c1, rfl, p1, hb⟩
    replace hs := hs.next hb
    go_wp2_with fail
    refine (HM.out _ hs).mono ?_
    rintro e w' ⟨rfl, rfl⟩
    go_wp2_with fail
    refine (alive_any _).mono ?_
    rintro e w2 ⟨rfl, hb2⟩
    go_wp2
    go_ret
    exact ⟨rfl, below_step hb hb2⟩
end Go.Proofs.Ytjobcobgmajajaa
