/- Contracts of the specification's Modules, of Stretch and its specification. -/
import Derived.Test.YtjobcobgmajajaaW3
set_option linter.unusedVariables false
namespace Go.Proofs.Ytjobcobgmajajaa
open Go.RowKit

theorem rModules_any (A : Option Addr) (n c : Nat) (l : List Int) (w : World) (hs : Sl w w.heap.size A n c (il l)) (hn : n ≤ 1048576) :
    Calls Try.prog 12 #[.slice A n c] w (Gives (bl (modulesS l).1) (modulesS l).2 w) := by
  have hl : l.length = n := by rw [← length_il]; exact hs.len
  have hmax := hs.max
  have hle := hs.le
  unfold maxLen at hmax
  by_cases h1 : n = 0
  · have hr : modulesS l = ([], 5) := by unfold modulesS; rw [if_pos (by omega)]
    rw [hr]
    subst h1
    go_enter Try.func12, Try.ntmps12
    go_wp2
    go_ret2
    exact gives_none _ _
  have h1i : ((n : Int) == 0) = false := by rw [beq_eq_false_iff_ne]; omega
  by_cases h2 : n % 2 = 0
  · have hr : modulesS l = ([], 7) := by unfold modulesS; rw [if_neg (by omega), if_pos (by omega)]
    rw [hr]
    have h2i : ((n : Int) % 2 == 0) = true := by rw [beq_iff_eq]; omega
    go_enter Try.func12, Try.ntmps12
    go_wp2
    go_ret2
    exact gives_none _ _
  have h2i : ((n : Int) % 2 == 0) = false := by rw [beq_eq_false_iff_ne]; omega
  by_cases h3 : okW l = false
  · have hr : modulesS l = ([], 3) := by unfold modulesS; rw [if_neg (by omega), if_neg (by omega), if_pos h3]
    rw [hr]
    have ht : totS l = -1 := by unfold totS; rw [h3]; rfl
    go_enter Try.func12, Try.ntmps12
    go_wp2_with fail
    refine (rTotal_any _ _ _ _ l _ hs hn).mono ?_
    rintro e w' ⟨rfl, rfl⟩
    rw [ht]
    go_wp2
    go_ret2
    exact gives_none _ _
  have h3t : okW l = true := by simpa using h3
  have ht : totS l = sm l := by unfold totS; rw [if_pos h3t]
  clear h3
  have hsb := sm_bound h3t
  have hs0 : ¬ sm l < 0 := by omega
  by_cases h4 : 65536 < sm l
  · have hr : modulesS l = ([], 4) := by unfold modulesS; rw [if_neg (by omega), if_neg (by omega), if_neg (by rw [h3t]; simp), if_pos h4]
    rw [hr]
    have HT := Lib.hid ht
    clear ht h3t
    go_enter Try.func12, Try.ntmps12
    go_wp2_with fail
    refine (rTotal_any _ _ _ _ l _ hs hn).mono ?_
    rintro e w' ⟨rfl, rfl⟩
    rw [HT.out]
    go_wp2
    go_ret2
    exact gives_none _ _
  have hr : modulesS l = (ex 0 l, 0) := by unfold modulesS; rw [if_neg (by omega), if_neg (by omega), if_neg (by rw [h3t]; simp), if_neg h4]
  rw [hr]
  have hn2 : n ≤ 65536 := by omega
  have H3 := Lib.hid h3t
  have H1 := Lib.hid h1
  have HT := Lib.hid ht
  clear h3t hr h1 hsb ht
  go_enter Try.func12, Try.ntmps12
  go_wp2_with fail
  refine (rTotal_any _ _ _ _ l _ hs hn).mono ?_
  rintro e w' ⟨rfl, rfl⟩
  rw [HT.out]
  go_wp2
  clear h2i h1i
  obtain ⟨i0, hi, hz0, hz1, hz2⟩ := info_parts boolInfo
  go_loopw [5, 6] (fun v i wr => ∃ k : Nat, k ≤ n ∧ i = .int .i64 (k : Int) ∧ wr.ownsRow w.heap.size 4 1 v (ex 0 (l.take k)).length (bl (ex 0 (l.take k))) ∧ Below w.heap.size w wr)
    (fun _ i _ => n - (intOf i).toNat)
  case atStart => exact ⟨0, Nat.zero_le _, rfl, World.ownsRow_nil _ _ _ _, Below.refl _ _⟩
  case round =>
    obtain ⟨k, hk, rfl, hownr, hbel⟩ := hrel
    have hsz := hbel.size
    by_cases hlt : k < n
    · have hk0 : (0 : Int) ≤ k := by omega
      have hk1 : (k : Int) < n := by omega
      have h5 := okW_getD H3.out (k := k) (by omega)
      have h6 := length_ex 0 _ (okW_take_true H3.out k)
      have h7 := sm_bound (okW_take_true H3.out k)
      rw [List.length_take] at h7
      have HE := Lib.hid (ex_take (l := l) (k := k) (by omega))
      obtain ⟨x, hx⟩ := Int.eq_ofNat_of_zero_le (show 0 ≤ l.getD k 0 by omega)
      rw [hx] at HE h5
      have hlen : (ex 0 (l.take k)).length ≤ 4294967296 := by omega
      have HX := Lib.hid hx
      clear h6 h7 hx
      have HD : Hid (((k : Int) % 2 == 0) = decide (k % 2 = 0)) := by show _ = _; rw [Bool.eq_iff_iff]; simp; omega
      generalize hgl : ex 0 (l.take k) = pre at *
      have HP := Lib.hid hgl
      clear hgl
      go_wp2
      obtain ⟨wq, hwq⟩ : ∃ wq, wq = wr := ⟨_, rfl⟩
      subst hwq
      go_loopw [5, 7] (fun v i wr => ∃ j : Nat, j ≤ x ∧ i = .int .i64 (j : Int) ∧ wr.ownsRow w.heap.size 4 1 v (pre.length + j) (bl (pre ++ List.replicate j (decide (k % 2 = 0)))) ∧ Below w.heap.size w wr)
        (fun _ i _ => x - (intOf i).toNat)
      case atStart => exact ⟨0, Nat.zero_le _, rfl, by simpa using hownr, hbel⟩
      case round =>
        clear hownr hbel hsz
        obtain ⟨j, hj, rfl, hownr, hbel⟩ := hrel
        have hsz := hbel.size
        obtain ⟨b, off, rfl, hb, hc⟩ := (hs.below hbel).at_ hlt (.int .i64 0)
        rw [getD_il l k (by omega), HX.out] at hc
        by_cases hlj : j < x
        · have hj1 : (j : Int) < x := by omega
          go_wp2_with (at_builtin; rw [HD.out]; refine wpList_append_one rfl _ _ 25 rfl w.heap.size 4 i0 (.bool false) 1 Try.underlying25 hi hz0 hz1 hz2 rfl _ _ _ rfl hownr (.bool (decide (k % 2 = 0))) 1 rfl rfl ?c1 ?c2 w hbel ?c3 ?_)
          case c1 => unfold maxLen; omega
          case c2 => omega
          case c3 => omega
          intro v' w1 hown' hbel'
          have hown2 : w1.ownsRow w.heap.size 4 1 v' (pre.length + (j + 1)) (bl (pre ++ List.replicate (j + 1) (decide (k % 2 = 0)))) := by
            rw [List.replicate_succ', ← List.append_assoc]
            simpa [bl, Nat.add_assoc] using hown'
          clear hown' hownr hbel
          go_wp2
          go_roundw
          case rel => exact ⟨j + 1, by omega, by go_num, hown2, hbel'⟩
          case measure => simp [intOf]; omega
        · obtain rfl : j = x := by omega
          have hj1 : ¬ (j : Int) < j := by omega
          have h9 : ex 0 (l.take (k + 1)) = pre ++ List.replicate j (decide (k % 2 = 0)) := by rw [HE.out]; simp
          rw [← h9, show pre.length + j = (ex 0 (l.take (k + 1))).length by rw [h9]; simp] at hownr
          clear h9
          go_wp2
          go_roundw
          case rel => exact ⟨k + 1, by omega, by go_num, hownr, hbel⟩
          case measure => simp [intOf]; omega
    · obtain rfl : k = n := by omega
      obtain ⟨A2, c2, rfl⟩ := own_slice hownr
      go_wp2
      go_ret2
      rw [List.take_of_length_le (by omega)] at *
      exact gives_own (by simp [bl]) hownr hbel
end Go.Proofs.Ytjobcobgmajajaa
