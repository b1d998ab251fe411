/- Contracts of the specifications of Words and Bytes, and the whole of Words. -/
import Derived.Test.YtjpfalpengocjaaW6
set_option linter.unusedVariables false
namespace Go.Proofs.Ytjpfalpengocjaa
open Go.RowKit

/-- what Words returns -/
def wordsS (l : List Bool) (s : Int) (fill : Bool) : List Nat × Int := if s < 1 ∨ 62 < s then ([], 3) else (wds l s.toNat fill (cnt l.length s.toNat), 0)

theorem words_full (A : Option Addr) (n c : Nat) (l : List Bool) (s : Int) (fill : Bool) (w : World) (hs : Sl w w.heap.size A n c (bl l)) (hn : n ≤ 1048576) :
    Calls Try.prog 30 #[.slice A n c, .int .i64 s, .bool fill] w (Gives (nl (wordsS l s fill).1) (wordsS l s fill).2 w) := by
  have hl : l.length = n := by rw [← length_bl]; exact hs.len
  by_cases h1 : s < 1
  · have hr : wordsS l s fill = ([], 3) := by unfold wordsS; rw [if_pos (by omega)]
    rw [hr]
    go_enter Try.func30, Try.ntmps30
    go_wp2
    go_ret2
    exact gives_none _ _
  by_cases h2 : 62 < s
  · have hr : wordsS l s fill = ([], 3) := by unfold wordsS; rw [if_pos (by omega)]
    rw [hr]
    go_enter Try.func30, Try.ntmps30
    go_wp2
    go_ret2
    exact gives_none _ _
  have hr : wordsS l s fill = (wds l s.toNat fill (cnt n s.toNat), 0) := by unfold wordsS; rw [if_neg (by omega), hl]
  rw [hr]
  exact words_any A n c l s fill w hs hn (by omega) (by omega)

theorem rWords_any (A : Option Addr) (n c : Nat) (l : List Bool) (s : Int) (fill : Bool) (w : World) (hs : Sl w w.heap.size A n c (bl l)) (hn : n ≤ 1048576) :
    Calls Try.prog 31 #[.slice A n c, .int .i64 s, .bool fill] w (Gives (nl (wordsS l s fill).1) (wordsS l s fill).2 w) := by
  have hl : l.length = n := by rw [← length_bl]; exact hs.len
  have hmax := hs.max
  have hle := hs.le
  unfold maxLen at hmax
  by_cases h1 : s < 1
  · have hr : wordsS l s fill = ([], 3) := by unfold wordsS; rw [if_pos (by omega)]
    rw [hr]
    go_enter Try.func31, Try.ntmps31
    go_wp2
    go_ret2
    exact gives_none _ _
  by_cases h2 : 62 < s
  · have hr : wordsS l s fill = ([], 3) := by unfold wordsS; rw [if_pos (by omega)]
    rw [hr]
    go_enter Try.func31, Try.ntmps31
    go_wp2
    go_ret2
    exact gives_none _ _
  obtain ⟨k, rfl⟩ := Int.eq_ofNat_of_zero_le (show 0 ≤ s by omega)
  have hr : wordsS l k fill = (wds l k fill (cnt n k), 0) := by unfold wordsS; rw [if_neg (by omega), hl]; simp
  rw [hr]
  clear hr
  obtain ⟨i0, hi, hz0, hz1, hz2⟩ := info_parts intInfo
  go_enter Try.func31, Try.ntmps31
  go_wp2
  go_loopw [8, 9] (fun v i wr => ∃ t p : Nat, Hid (p = k * t ∧ (t = 0 ∨ k * (t - 1) < n)) ∧ p < n + k ∧ t ≤ n ∧ i = .int .i64 p ∧ wr.ownsRow w.heap.size 3 1 v t (nl (wds l k fill t)) ∧ Below w.heap.size w wr)
    (fun _ i _ => n + k - (intOf i).toNat)
  case atStart => exact ⟨0, 0, ⟨by simp, .inl rfl⟩, by omega, by omega, rfl, World.ownsRow_nil _ _ _ _, Below.refl _ _⟩
  case round =>
    obtain ⟨t, p, hp, hpn, htn, rfl, hownr, hbel⟩ := hrel
    have hsz := hbel.size
    by_cases hlt : p < n
    · have htn' : t < n := by
        have := hp.out.1
        have h3 : t ≤ k * t := Nat.le_mul_of_pos_left t (by omega)
        omega
      go_wp2
      go_loop [10, 11] (fun v i => ∃ q : Nat, q ≤ k ∧ i = .int .i64 ((p + q : Nat) : Int) ∧ v = .int .i64 ((num ((pw l p k fill).take q) : Nat) : Int)) (fun _ i => p + k - (intOf i).toNat)
      case atStart => exact ⟨0, Nat.zero_le _, rfl, rfl⟩
      case round =>
        obtain ⟨q, hq, rfl, rfl⟩ := hrel
        by_cases hqk : q < k
        · have hb1 := num_take_lt' (pw l p k fill) q
          have hpp : 2 ^ q ≤ 2 ^ 61 := Nat.pow_le_pow_right (by omega) (by omega)
          have h61 : (2 : Nat) ^ 61 = 2305843009213693952 := by decide
          have hb2 : num ((pw l p k fill).take q) < 2305843009213693952 := by omega
          have HS := Lib.hid (show num ((pw l p k fill).take (q + 1)) = 2 * num ((pw l p k fill).take q) + (if p + q < n then l.getD (p + q) false else fill).toNat by
            rw [pw_take l p k fill q hqk, num_snoc, hl])
          clear hb1 hpp h61
          by_cases hin : p + q < n
          · obtain ⟨b, off, rfl, hb, hc⟩ := (hs.below hbel).at_ hin (.bool false)
            rw [getD_bl l (p + q) (by omega)] at hc
            cases hbit : l.getD (p + q) false
            all_goals
              rw [hbit] at hc
              have HB := Lib.hid hbit
              clear hbit
              go_wp2
              go_round
              case rel => exact ⟨q + 1, by omega, by go_num, by rw [HS.out, if_pos hin, HB.out]; simp⟩
              case measure => simp [intOf]; omega
          · cases fill
            all_goals
              go_wp2
              go_round
              case rel => exact ⟨q + 1, by omega, by go_num, by rw [HS.out, if_neg hin]; simp⟩
              case measure => simp [intOf]; omega
        · obtain rfl : q = k := by omega
          have HW := Lib.hid (show (pw l p q fill).take q = pw l p q fill from List.take_of_length_le (by rw [length_pw]; omega))
          rw [HW.out]
          go_wp2_with (at_builtin; refine wpList_append_one rfl _ _ 42 rfl w.heap.size 3 i0 (.int .i64 0) 8 Try.underlying42 hi hz0 hz1 hz2 rfl _ _ _ rfl hownr _ _ rfl rfl (by unfold maxLen; omega) (by omega) w hbel (by omega) ?_)
          intro v' w2 hown' hbel'
          have hown2 : w2.ownsRow w.heap.size 3 1 v' (t + 1) (nl (wds l q fill (t + 1))) := by
            rw [wds_succ, ← hp.out.1]
            simpa [nl] using hown'
          have hp' : Hid (p + q = q * (t + 1) ∧ (t + 1 = 0 ∨ q * (t + 1 - 1) < n)) := ⟨by rw [Nat.mul_succ, hp.out.1], .inr (by rw [Nat.add_sub_cancel, ← hp.out.1]; exact hlt)⟩
          clear hown' hownr hbel hp HW
          go_wp2
          go_roundw
          case rel => exact ⟨t + 1, p + q, hp', by omega, by omega, by go_num, hown2, hbel'⟩
          case measure => simp [intOf]; omega
    · have HC := Lib.hid (cnt_of n k t (by omega) (by rw [← hp.out.1]; omega) hp.out.2)
      obtain ⟨A2, c2, rfl⟩ := own_slice hownr
      clear hp
      go_wp2
      go_ret2
      exact gives_own (by rw [length_nl, length_wds, HC.out]) (by rw [HC.out]; exact hownr) hbel

theorem rBytes_any (A : Option Addr) (n c : Nat) (l : List Bool) (w : World) (hs : Sl w w.heap.size A n c (bl l)) (hn : n ≤ 1048576) :
    Calls Try.prog 21 #[.slice A n c] w (Gives1 (byl (wds l 8 false (cnt n 8))) w) := by
  have hl : l.length = n := by rw [← length_bl]; exact hs.len
  have hmax := hs.max
  have hle := hs.le
  unfold maxLen at hmax
  obtain ⟨i0, hi, hz0, hz1, hz2⟩ := info_parts byteInfo
  go_enter Try.func21, Try.ntmps21
  go_wp2
  go_loopw [3, 4] (fun v i wr => ∃ t p : Nat, Hid (p = 8 * t ∧ (t = 0 ∨ 8 * (t - 1) < n)) ∧ p < n + 8 ∧ t ≤ n ∧ i = .int .i64 p ∧ wr.ownsRow w.heap.size 5 1 v t (byl (wds l 8 false t)) ∧ Below w.heap.size w wr)
    (fun _ i _ => n + 8 - (intOf i).toNat)
  case atStart => exact ⟨0, 0, ⟨by simp, .inl rfl⟩, by omega, by omega, rfl, World.ownsRow_nil _ _ _ _, Below.refl _ _⟩
  case round =>
    obtain ⟨t, p, hp, hpn, htn, rfl, hownr, hbel⟩ := hrel
    have hsz := hbel.size
    by_cases hlt : p < n
    · have htn' : t < n := by
        have := hp.out.1
        have h3 : t ≤ 8 * t := Nat.le_mul_of_pos_left t (by omega)
        omega
      go_wp2
      go_loop [5, 6] (fun v i => ∃ q : Nat, q ≤ 8 ∧ i = .int .i64 ((p + q : Nat) : Int) ∧ v = .int .i64 ((num ((pw l p 8 false).take q) : Nat) : Int)) (fun _ i => p + 8 - (intOf i).toNat)
      case atStart => exact ⟨0, Nat.zero_le _, rfl, rfl⟩
      case round =>
        obtain ⟨q, hq, rfl, rfl⟩ := hrel
        by_cases hqk : q < 8
        · have hb1 := num_take_lt' (pw l p 8 false) q
          have hpp : 2 ^ q ≤ 2 ^ 61 := Nat.pow_le_pow_right (by omega) (by omega)
          have h61 : (2 : Nat) ^ 61 = 2305843009213693952 := by decide
          have hb2 : num ((pw l p 8 false).take q) < 2305843009213693952 := by omega
          have HS := Lib.hid (show num ((pw l p 8 false).take (q + 1)) = 2 * num ((pw l p 8 false).take q) + (if p + q < n then l.getD (p + q) false else false).toNat by
            rw [pw_take l p 8 false q hqk, num_snoc, hl])
          clear hb1 hpp h61
          by_cases hin : p + q < n
          · obtain ⟨b, off, rfl, hb, hc⟩ := (hs.below hbel).at_ hin (.bool false)
            rw [getD_bl l (p + q) (by omega)] at hc
            cases hbit : l.getD (p + q) false
            all_goals
              rw [hbit] at hc
              have HB := Lib.hid hbit
              clear hbit
              go_wp2
              go_round
              case rel => exact ⟨q + 1, by omega, by go_num, by rw [HS.out, if_pos hin, HB.out]; simp⟩
              case measure => simp [intOf]; omega
          · all_goals
              go_wp2
              go_round
              case rel => exact ⟨q + 1, by omega, by go_num, by rw [HS.out, if_neg hin]; simp⟩
              case measure => simp [intOf]; omega
        · obtain rfl : q = 8 := by omega
          have HW := Lib.hid (show (pw l p 8 false).take 8 = pw l p 8 false from List.take_of_length_le (by rw [length_pw]; omega))
          rw [HW.out]
          have h8 := num_pw_lt l p 8 false
          rw [show (2 : Nat) ^ 8 = 256 by decide] at h8
          go_wp2_with (at_builtin; refine wpList_append_one rfl _ _ 33 rfl w.heap.size 5 i0 (.int .u8 0) 1 Try.underlying33 hi hz0 hz1 hz2 rfl _ _ _ rfl hownr _ _ rfl rfl (by unfold maxLen; omega) (by omega) w hbel (by omega) ?_)
          intro v' w2 hown' hbel'
          have hown2 : w2.ownsRow w.heap.size 5 1 v' (t + 1) (byl (wds l 8 false (t + 1))) := by
            rw [wds_succ, ← hp.out.1]
            simpa [byl] using hown'
          have hp' : Hid (p + 8 = 8 * (t + 1) ∧ (t + 1 = 0 ∨ 8 * (t + 1 - 1) < n)) := ⟨by rw [Nat.mul_succ, hp.out.1], .inr (by rw [Nat.add_sub_cancel, ← hp.out.1]; exact hlt)⟩
          clear hown' hownr hbel hp HW
          go_wp2
          go_roundw
          case rel => exact ⟨t + 1, p + 8, hp', by omega, by omega, by go_num, hown2, hbel'⟩
          case measure => simp [intOf]; omega
    · have HC := Lib.hid (cnt_of n 8 t (by omega) (by rw [← hp.out.1]; omega) hp.out.2)
      obtain ⟨A2, c2, rfl⟩ := own_slice hownr
      clear hp
      go_wp2
      go_ret
      exact gives1_own (by rw [length_byl, length_wds, HC.out]) (by rw [HC.out]; exact hownr) hbel
end Go.Proofs.Ytjpfalpengocjaa
