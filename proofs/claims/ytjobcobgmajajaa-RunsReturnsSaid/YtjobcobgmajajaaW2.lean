/- Contracts of areWidths, sum, appendRun, Modules. -/
import Derived.Test.YtjobcobgmajajaaW1
set_option linter.unusedVariables false
namespace Go.Proofs.Ytjobcobgmajajaa
open Go.RowKit

theorem areWidths_any (A : Option Addr) (n c B : Nat) (l : List Int) (w : World) (hs : Sl w B A n c (il l)) :
    Calls Try.prog 27 #[.slice A n c] w fun e w' => e = .returned (.bool (okW l)) ∧ w = w' := by
  have hl : l.length = n := by rw [← length_il]; exact hs.len
  have hmax := hs.max
  have hle := hs.le
  unfold maxLen at hmax
  go_enter Try.func27, Try.ntmps27
  go_wp2
  go_loop [7] (fun i => ∃ k : Nat, k ≤ n ∧ i = .int .i64 k ∧ Hid (okW (l.take k) = true)) (fun i => n - (intOf i).toNat)
  case atStart => exact ⟨0, Nat.zero_le _, rfl, rfl⟩
  case round =>
    obtain ⟨k, hk, rfl, HO⟩ := hrel
    by_cases hlt : k < n
    · obtain ⟨b, off, rfl, hb, hc⟩ := hs.at_ hlt (.int .i64 0)
      rw [getD_il l k (by omega)] at hc
      have hk0 : (0 : Int) ≤ k := by omega
      have hk1 : (k : Int) < n := by omega
      have HT := Lib.hid (okW_take (l := l) (k := k) (by omega))
      obtain ⟨x, hx⟩ : ∃ x, x = l.getD k 0 := ⟨_, rfl⟩
      rw [← hx] at hc HT
      clear hx
      by_cases h1 : x < 1
      · have HF : Hid (okW l = false) := okW_of_take (k := k + 1) (by rw [HT.out, HO.out]; simp; omega)
        clear HT HO
        have h2 : ¬ 65536 < x := by omega
        go_wp2
        go_ret
        exact ⟨retB HF.out.symm, rfl⟩
      by_cases h2 : 65536 < x
      · have HF : Hid (okW l = false) := okW_of_take (k := k + 1) (by rw [HT.out, HO.out]; simp; omega)
        clear HT HO
        go_wp2
        go_ret
        exact ⟨retB HF.out.symm, rfl⟩
      go_wp2
      go_round
      case rel => exact ⟨k + 1, by omega, by go_num, by have := HT.out; rw [HO.out] at this; exact this.trans (by simp; omega)⟩
      case measure => simp [intOf]; omega
    · obtain rfl : k = n := by omega
      go_wp2
      go_ret
      exact ⟨retB (by have := HO.out; rwa [List.take_of_length_le (by omega), eq_comm] at this), rfl⟩

theorem sum_any (A : Option Addr) (n c B : Nat) (l : List Int) (w : World) (hs : Sl w B A n c (il l)) (hok : okW l = true) (hn : n ≤ 1048576) :
    Calls Try.prog 28 #[.slice A n c] w fun e w' => e = .returned (.int .i64 (sm l)) ∧ w = w' := by
  have hl : l.length = n := by rw [← length_il]; exact hs.len
  have hmax := hs.max
  have hle := hs.le
  unfold maxLen at hmax
  have HOK := Lib.hid hok
  clear hok
  go_enter Try.func28, Try.ntmps28
  go_wp2
  go_loop [3, 8] (fun v i => ∃ k : Nat, k ≤ n ∧ i = .int .i64 k ∧ v = .int .i64 (sm (l.take k))) (fun _ i => n - (intOf i).toNat)
  case atStart => exact ⟨0, Nat.zero_le _, rfl, rfl⟩
  case round =>
    obtain ⟨k, hk, rfl, rfl⟩ := hrel
    by_cases hlt : k < n
    · obtain ⟨b, off, rfl, hb, hc⟩ := hs.at_ hlt (.int .i64 0)
      rw [getD_il l k (by omega)] at hc
      have hk0 : (0 : Int) ≤ k := by omega
      have hk1 : (k : Int) < n := by omega
      have h3 := okW_getD HOK.out (k := k) (by omega)
      have HT := Lib.hid (sm_take (l := l) (k := k) (by omega))
      have h4 := sm_bound (okW_take_true HOK.out k)
      rw [List.length_take] at h4
      obtain ⟨x, hx⟩ : ∃ x, x = l.getD k 0 := ⟨_, rfl⟩
      rw [← hx] at hc HT h3
      clear hx
      have h5 : 0 ≤ sm (l.take k) ∧ sm (l.take k) ≤ 68719476736 := by omega
      clear h4
      go_wp2
      go_round
      case rel => exact ⟨k + 1, by omega, by go_num, by rw [HT.out]⟩
      case measure => simp [intOf]; omega
    · obtain rfl : k = n := by omega
      go_wp2
      go_ret
      exact ⟨retI (by rw [List.take_of_length_le (by omega)]), rfl⟩

theorem bl_replicate (l : List Bool) (k : Nat) (b : Bool) : bl (l ++ List.replicate k b) = bl l ++ bl (List.replicate k b) := by simp [bl]

theorem appendRun_any (base : Nat) (v0 : Value) (n : Nat) (l : List Bool) (dark : Bool) (m : Nat) (w : World) (hown : w.ownsRow base 4 1 v0 n (bl l)) (hb : base ≤ w.heap.size)
    (hk : m ≤ 70368744177664) (hn : n ≤ 35184372088832) :
    Calls Try.prog 29 #[v0, .bool dark, .int .i64 m] w fun e w' =>
      ∃ v, e = .returned v ∧ w'.ownsRow base 4 1 v (n + m) (bl (l ++ List.replicate m dark)) ∧ Below base w w' := by
  obtain ⟨i0, hi, hz0, hz1, hz2⟩ := info_parts boolInfo
  go_enter Try.func29, Try.ntmps29
  go_wp2
  go_loopw [0, 8] (fun v i wr => ∃ j : Nat, j ≤ m ∧ i = .int .i64 (j : Int) ∧ wr.ownsRow base 4 1 v (n + j) (bl (l ++ List.replicate j dark)) ∧ Below base w wr)
    (fun _ i _ => m - (intOf i).toNat)
  case atStart => exact ⟨0, Nat.zero_le _, by simp, by simpa using hown, Below.refl _ _⟩
  case round =>
    obtain ⟨j, hj, rfl, hownr, hbel⟩ := hrel
    by_cases hlt : j < m
    · have hsz := hbel.size
      go_wp2_with (at_builtin; refine wpList_append_one rfl _ _ 25 rfl base 4 i0 (.bool false) 1 Try.underlying25 hi hz0 hz1 hz2 rfl _ _ _ rfl hownr (.bool dark) 1 rfl rfl ?c1 ?c2 w hbel ?c3 ?_)
      case c1 => unfold maxLen; omega
      case c2 => omega
      case c3 => omega
      intro v' w1 hown' hbel'
      have hown2 : w1.ownsRow base 4 1 v' (n + (j + 1)) (bl (l ++ List.replicate (j + 1) dark)) := by
        rw [List.replicate_succ', ← List.append_assoc]
        simpa [bl, Nat.add_assoc] using hown'
      clear hown' hownr hbel
      go_wp2
      go_roundw
      case rel => exact ⟨j + 1, by omega, by go_num, hown2, hbel'⟩
      case measure => simp [intOf]; omega
    · obtain rfl : j = m := by omega
      go_wp2
      go_ret
      exact ⟨_, rfl, hownr, hbel⟩

theorem modules_any (A : Option Addr) (n c : Nat) (l : List Int) (w : World) (hs : Sl w w.heap.size A n c (il l)) (hn : n ≤ 1048576) :
    Calls Try.prog 11 #[.slice A n c] w (Gives (bl (modulesS l).1) (modulesS l).2 w) := by
  have hl : l.length = n := by rw [← length_il]; exact hs.len
  have hmax := hs.max
  have hle := hs.le
  unfold maxLen at hmax
  by_cases h1 : n = 0
  · have hr : modulesS l = ([], 5) := by unfold modulesS; rw [if_pos (by omega)]
    rw [hr]
    subst h1
    go_enter Try.func11, Try.ntmps11
    go_wp2
    go_ret2
    exact gives_none _ _
  have h1i : ((n : Int) == 0) = false := by rw [beq_eq_false_iff_ne]; omega
  by_cases h2 : n % 2 = 0
  · have hr : modulesS l = ([], 7) := by unfold modulesS; rw [if_neg (by omega), if_pos (by omega)]
    rw [hr]
    have h2i : ((n : Int) % 2 == 0) = true := by rw [beq_iff_eq]; omega
    go_enter Try.func11, Try.ntmps11
    go_wp2
    go_ret2
    exact gives_none _ _
  have h2i : ((n : Int) % 2 == 0) = false := by rw [beq_eq_false_iff_ne]; omega
  by_cases h3 : okW l = false
  · have hr : modulesS l = ([], 3) := by unfold modulesS; rw [if_neg (by omega), if_neg (by omega), if_pos h3]
    rw [hr]
    go_enter Try.func11, Try.ntmps11
    go_wp2_with fail
    refine (areWidths_any _ _ _ _ l _ hs).mono ?_
    rintro e w' ⟨rfl, rfl⟩
    rw [h3]
    go_wp2
    go_ret2
    exact gives_none _ _
  have h3t : okW l = true := by simpa using h3
  clear h3
  by_cases h4 : 65536 < sm l
  · have hr : modulesS l = ([], 4) := by unfold modulesS; rw [if_neg (by omega), if_neg (by omega), if_neg (by rw [h3t]; simp), if_pos h4]
    rw [hr]
    have H3 := Lib.hid h3t
    clear h3t
    go_enter Try.func11, Try.ntmps11
    go_wp2_with fail
    refine (areWidths_any _ _ _ _ l _ hs).mono ?_
    rintro e w' ⟨rfl, rfl⟩
    rw [H3.out]
    go_wp2_with fail
    refine (sum_any _ _ _ _ l _ hs H3.out hn).mono ?_
    rintro e w' ⟨rfl, rfl⟩
    go_wp2
    go_ret2
    exact gives_none _ _
  have hr : modulesS l = (ex 0 l, 0) := by unfold modulesS; rw [if_neg (by omega), if_neg (by omega), if_neg (by rw [h3t]; simp), if_neg h4]
  rw [hr]
  have hsb := sm_bound h3t
  have hn2 : n ≤ 65536 := by omega
  have H3 := Lib.hid h3t
  have H1 := Lib.hid h1
  clear h3t hr h1 hsb
  go_enter Try.func11, Try.ntmps11
  go_wp2_with fail
  refine (areWidths_any _ _ _ _ l _ hs).mono ?_
  rintro e w' ⟨rfl, rfl⟩
  rw [H3.out]
  go_wp2_with fail
  refine (sum_any _ _ _ _ l _ hs H3.out hn).mono ?_
  rintro e w' ⟨rfl, rfl⟩
  go_wp2
  clear h2i h1i
  go_loopw [4, 22] (fun v i wr => ∃ k : Nat, k ≤ n ∧ i = .int .i64 (k : Int) ∧ wr.ownsRow w.heap.size 4 1 v (ex 0 (l.take k)).length (bl (ex 0 (l.take k))) ∧ Below w.heap.size w wr)
    (fun _ i _ => n - (intOf i).toNat)
  case atStart => exact ⟨0, Nat.zero_le _, by simp, World.ownsRow_nil _ _ _ _, Below.refl _ _⟩
  case round =>
    obtain ⟨k, hk, rfl, hownr, hbel⟩ := hrel
    have hsz := hbel.size
    by_cases hlt : k < n
    · obtain ⟨b, off, rfl, hb, hc⟩ := (hs.below hbel).at_ hlt (.int .i64 0)
      rw [getD_il l k (by omega)] at hc
      have hk0 : (0 : Int) ≤ k := by omega
      have hk1 : (k : Int) < n := by omega
      have h5 := okW_getD H3.out (k := k) (by omega)
      have h6 := length_ex 0 _ (okW_take_true H3.out k)
      have h7 := sm_bound (okW_take_true H3.out k)
      rw [List.length_take] at h7
      have HE := Lib.hid (ex_take (l := l) (k := k) (by omega))
      obtain ⟨x, hx⟩ := Int.eq_ofNat_of_zero_le (show 0 ≤ l.getD k 0 by omega)
      rw [hx] at hc HE h5
      have hlen : (ex 0 (l.take k)).length ≤ 4294967296 := by omega
      clear h6 h7 hx
      have HD : Hid (((k : Int) % 2 == 0) = decide (k % 2 = 0)) := by show _ = _; rw [Bool.eq_iff_iff]; simp; omega
      go_wp2_with fail
      rw [HD.out]
      refine (appendRun_any w.heap.size _ _ _ _ x _ hownr (by omega) (by omega) (by omega)).mono ?_
      rintro e w2 ⟨v2, rfl, hown2, hbel2⟩
      rw [show (ex 0 (l.take k)).length + x = (ex 0 (l.take (k + 1))).length by rw [HE.out]; simp, show ex 0 (l.take k) ++ List.replicate x (decide (k % 2 = 0)) = ex 0 (l.take (k + 1)) by rw [HE.out]; simp] at hown2
      have hbel3 := hbel.trans hbel2
      clear hownr hbel hbel2
      go_wp2
      go_roundw
      case rel => exact ⟨k + 1, by omega, by go_num, hown2, hbel3⟩
      case measure => simp [intOf]; omega
    · obtain rfl : k = n := by omega
      obtain ⟨A2, c2, rfl⟩ := own_slice hownr
      go_wp2
      go_ret2
      rw [List.take_of_length_le (by omega)] at *
      exact gives_own (by simp [bl]) hownr hbel
end Go.Proofs.Ytjobcobgmajajaa
