/- Contracts of Index, Margins, and of the specification's total, Modules, Margins. -/
import Derived.Test.YtjobcobgmajajaaW2
set_option linter.unusedVariables false
namespace Go.Proofs.Ytjobcobgmajajaa
open Go.RowKit

def idxS (l : List Bool) : Int := if lm l < l.length then (lm l : Nat) else -1
theorem index_any (A : Option Addr) (n c B : Nat) (l : List Bool) (w : World) (hs : Sl w B A n c (bl l)) :
    Calls Try.prog 31 #[.slice A n c, .bool true] w fun e w' => e = .returned (.int .i64 (idxS l)) ∧ w = w' := by
  have hl : l.length = n := by rw [← length_bl]; exact hs.len
  have hmax := hs.max
  have hle := hs.le
  unfold maxLen at hmax
  go_enter Try.func31, Try.ntmps31
  go_wp2
  go_loop [8] (fun i => ∃ k : Nat, k ≤ n ∧ i = .int .i64 k ∧ Hid (∀ j, j < k → l.getD j false = false)) (fun i => n - (intOf i).toNat)
  case atStart => exact ⟨0, Nat.zero_le _, rfl, fun j hj => absurd hj (Nat.not_lt_zero _)⟩
  case round =>
    obtain ⟨k, hk, rfl, HO⟩ := hrel
    by_cases hlt : k < n
    · obtain ⟨b, off, rfl, hb, hc⟩ := hs.at_ hlt (.bool false)
      rw [getD_bl l k (by omega)] at hc
      have hk0 : (0 : Int) ≤ k := by omega
      have hk1 : (k : Int) < n := by omega
      cases hx : l.getD k false with
      | true =>
        rw [hx] at hc
        have HE : Hid (idxS l = k) := by
          have e := lm_eq (by omega) HO.out hx
          show _ = _
          unfold idxS
          rw [e, if_pos (by omega)]
        clear hx
        go_wp2
        go_ret
        exact ⟨retI HE.out.symm, rfl⟩
      | false =>
        rw [hx] at hc
        have HX := Lib.hid hx
        clear hx
        go_wp2
        go_round
        case rel =>
          refine ⟨k + 1, by omega, by go_num, fun j hj => ?_⟩
          rcases Nat.lt_or_ge j k with h | h
          · exact HO.out j h
          · obtain rfl : j = k := by omega
            exact HX.out
        case measure => simp [intOf]; omega
    · obtain rfl : k = n := by omega
      have HE : Hid (idxS l = -1) := by
        have e := lm_all (l := l) (by rw [hl]; exact HO.out)
        show _ = _
        unfold idxS
        rw [if_neg (by omega)]
      go_wp2
      go_ret
      exact ⟨retI HE.out.symm, rfl⟩

theorem margins_any (A : Option Addr) (n c B : Nat) (l : List Bool) (w : World) (hs : Sl w B A n c (bl l)) :
    Calls Try.prog 14 #[.slice A n c] w fun e w' => e = .returned (.tuple #[.int .i64 (lm l : Nat), .int .i64 (rm l : Nat)]) ∧ w = w' := by
  have hl : l.length = n := by rw [← length_bl]; exact hs.len
  have hmax := hs.max
  have hle := hs.le
  unfold maxLen at hmax
  have hlm := lm_le l
  go_enter Try.func14, Try.ntmps14
  go_wp2_with fail
  refine (index_any _ _ _ _ l _ hs).mono ?_
  rintro e w' ⟨rfl, rfl⟩
  by_cases h1 : lm l < n
  · rw [show idxS l = (lm l : Nat) by unfold idxS; rw [if_pos (by omega)]]
    have hrl := lm_rm (l := l) (by omega)
    have HR := Lib.hid hrl
    have HL := Lib.hid h1
    clear h1 hrl
    generalize hgl : lm l = p at *
    have hp0 : ¬ (p : Int) < 0 := by omega
    go_wp2
    go_loop [3] (fun i => ∃ k : Nat, k ≤ rm l ∧ i = .int .i64 k) (fun i => n - (intOf i).toNat)
    case atStart => exact ⟨0, Nat.zero_le _, rfl⟩
    case round =>
      obtain ⟨k, hk, rfl⟩ := hrel
      have hkn : k < n := by have := HR.out; omega
      obtain ⟨b, off, rfl, hb, hc⟩ := hs.at_ (show n - 1 - k < n by omega) (.bool false)
      rw [getD_bl l (n - 1 - k) (by omega)] at hc
      have hsub : (n : Int) - 1 - (k : Int) = ((n - 1 - k : Nat) : Int) := by omega
      have hk0 : (0 : Int) ≤ ((n - 1 - k : Nat) : Int) := by omega
      have hk1 : ((n - 1 - k : Nat) : Int) < n := by omega
      have hn0 : (1 : Int) ≤ n := by omega
      by_cases hlt : k < rm l
      · have hx := rm_before hlt
        rw [hl] at hx
        rw [hx] at hc
        clear hx
        generalize hq : n - 1 - k = q at *
        go_wp2
        go_round
        case rel => exact ⟨k + 1, by omega, by go_num⟩
        case measure => simp [intOf]; omega
      · obtain rfl : k = rm l := by omega
        have hx := rm_at (l := l) (by omega)
        rw [hl] at hx
        rw [hx] at hc
        clear hx
        generalize hgr : rm l = k at *
        generalize hq : n - 1 - k = q at *
        go_wp2
        go_ret2
        exact ⟨rfl, rfl⟩
  · rw [show idxS l = -1 by unfold idxS; rw [if_neg (by omega)]]
    have h2 : lm l = n := by omega
    have H3 := Lib.hid (lm_rm_all (l := l) (by omega))
    have H2 := Lib.hid h2
    clear h2 h1 hlm
    go_wp2
    go_ret2
    exact ⟨ret2I (by rw [H2.out]) (by rw [H3.out, hl]), rfl⟩

theorem rMargins_any (A : Option Addr) (n c B : Nat) (l : List Bool) (w : World) (hs : Sl w B A n c (bl l)) :
    Calls Try.prog 15 #[.slice A n c] w fun e w' => e = .returned (.tuple #[.int .i64 (lm l : Nat), .int .i64 (rm l : Nat)]) ∧ w = w' := by
  have hl : l.length = n := by rw [← length_bl]; exact hs.len
  have hmax := hs.max
  have hle := hs.le
  unfold maxLen at hmax
  have hlm := lm_le l
  have hrm := rm_le l
  go_enter Try.func15, Try.ntmps15
  go_wp2
  go_loop [4] (fun i => ∃ k : Nat, k ≤ lm l ∧ i = .int .i64 k) (fun i => n - (intOf i).toNat)
  case atStart => exact ⟨0, Nat.zero_le _, rfl⟩
  case round =>
    obtain ⟨k, hk, rfl⟩ := hrel
    by_cases hlt : k < lm l
    · obtain ⟨b, off, rfl, hb, hc⟩ := hs.at_ (show k < n by omega) (.bool false)
      rw [getD_bl l k (by omega), lm_before hlt] at hc
      have hk0 : (0 : Int) ≤ k := by omega
      have hk1 : (k : Int) < n := by omega
      go_wp2
      go_round
      case rel => exact ⟨k + 1, by omega, by go_num⟩
      case measure => simp [intOf]; omega
    · have hkl : k = lm l := by omega
      have HK := Lib.hid hkl
      clear hlt hk
      have second : ∀ (v : Int), True := fun _ => trivial
      by_cases hkn : k < n
      · obtain ⟨b, off, rfl, hb, hc⟩ := hs.at_ hkn (.bool false)
        rw [getD_bl l k (by omega), hkl, lm_at (by omega), ← hkl] at hc
        have hk0 : (0 : Int) ≤ k := by omega
        have hk1 : (k : Int) < n := by omega
        have hRL := lm_rm (l := l) (by omega)
        clear hkl
        go_wp2
        go_loop [5] (fun i => ∃ m : Nat, m ≤ rm l ∧ i = .int .i64 m) (fun i => n - (intOf i).toNat)
        case atStart => exact ⟨0, Nat.zero_le _, rfl⟩
        case round =>
          obtain ⟨m, hm, rfl⟩ := hrel
          obtain ⟨b', off', e1, hb', hc'⟩ := hs.at_ (show n - 1 - m < n by omega) (.bool false)
          simp only [Option.some.injEq, Addr.mk.injEq, and_true] at e1
          obtain ⟨rfl, rfl⟩ := e1
          rw [getD_bl l (n - 1 - m) (by omega)] at hc'
          have hsub : (n : Int) - 1 - (m : Int) = ((n - 1 - m : Nat) : Int) := by omega
          have hq0 : (0 : Int) ≤ ((n - 1 - m : Nat) : Int) := by omega
          have hq1 : ((n - 1 - m : Nat) : Int) < n := by omega
          have hn0 : (1 : Int) ≤ n := by omega
          have hmn : (m : Int) < n := by omega
          clear hc
          by_cases hlt : m < rm l
          · have hx := rm_before hlt
            rw [hl] at hx
            rw [hx] at hc'
            clear hx
            generalize hq : n - 1 - m = q at *
            go_wp2
            go_round
            case rel => exact ⟨m + 1, by omega, by go_num⟩
            case measure => simp [intOf]; omega
          · obtain rfl : m = rm l := by omega
            have hx := rm_at (l := l) (by omega)
            rw [hl] at hx
            rw [hx] at hc'
            clear hx
            generalize hgr : rm l = m at *
            generalize hq : n - 1 - m = q at *
            go_wp2
            go_ret2
            exact ⟨ret2I (by rw [HK.out]) rfl, rfl⟩
      · obtain rfl : k = n := by omega
        have hrk := lm_rm_all (l := l) (by omega)
        clear hkl
        go_wp2
        go_loop [5] (fun i => ∃ m : Nat, m ≤ k ∧ i = .int .i64 m) (fun i => k - (intOf i).toNat)
        case atStart => exact ⟨0, Nat.zero_le _, rfl⟩
        case round =>
          obtain ⟨m, hm, rfl⟩ := hrel
          by_cases hlt : m < k
          · obtain ⟨b, off, rfl, hb, hc⟩ := hs.at_ (show k - 1 - m < k by omega) (.bool false)
            rw [getD_bl l (k - 1 - m) (by omega)] at hc
            have hx := rm_before (l := l) (j := m) (by omega)
            rw [hl] at hx
            rw [hx] at hc
            clear hx
            have hsub : (k : Int) - 1 - (m : Int) = ((k - 1 - m : Nat) : Int) := by omega
            have hq0 : (0 : Int) ≤ ((k - 1 - m : Nat) : Int) := by omega
            have hq1 : ((k - 1 - m : Nat) : Int) < k := by omega
            have hn0 : (1 : Int) ≤ k := by omega
            have hmn : (m : Int) < k := by omega
            generalize hq : k - 1 - m = q at *
            go_wp2
            go_round
            case rel => exact ⟨m + 1, by omega, by go_num⟩
            case measure => simp [intOf]; omega
          · obtain rfl : m = k := by omega
            go_wp2
            go_ret2
            exact ⟨ret2I (by rw [HK.out]) (by first | rfl | rw [hrk, hl]), rfl⟩

def totS (l : List Int) : Int := if okW l = true then sm l else -1
theorem rTotal_any (A : Option Addr) (n c B : Nat) (l : List Int) (w : World) (hs : Sl w B A n c (il l)) (hn : n ≤ 1048576) :
    Calls Try.prog 30 #[.slice A n c] w fun e w' => e = .returned (.int .i64 (totS l)) ∧ w = w' := by
  have hl : l.length = n := by rw [← length_il]; exact hs.len
  have hmax := hs.max
  have hle := hs.le
  unfold maxLen at hmax
  go_enter Try.func30, Try.ntmps30
  go_wp2
  go_loop [3, 4] (fun v i => ∃ k : Nat, k ≤ n ∧ i = .int .i64 k ∧ v = .int .i64 (sm (l.take k)) ∧ Hid (okW (l.take k) = true)) (fun _ i => n - (intOf i).toNat)
  case atStart => exact ⟨0, Nat.zero_le _, rfl, rfl, rfl⟩
  case round =>
    obtain ⟨k, hk, rfl, rfl, HO⟩ := hrel
    by_cases hlt : k < n
    · obtain ⟨b, off, rfl, hb, hc⟩ := hs.at_ hlt (.int .i64 0)
      rw [getD_il l k (by omega)] at hc
      have hk0 : (0 : Int) ≤ k := by omega
      have hk1 : (k : Int) < n := by omega
      have HT := Lib.hid (okW_take (l := l) (k := k) (by omega))
      have HS := Lib.hid (sm_take (l := l) (k := k) (by omega))
      have h4 := sm_bound HO.out
      rw [List.length_take] at h4
      have h5 : 0 ≤ sm (l.take k) ∧ sm (l.take k) ≤ 68719476736 := by omega
      clear h4
      obtain ⟨x, hx⟩ : ∃ x, x = l.getD k 0 := ⟨_, rfl⟩
      rw [← hx] at hc HT HS
      clear hx
      by_cases h1 : x < 1
      · have HF : Hid (okW l = false) := okW_of_take (k := k + 1) (by rw [HT.out, HO.out]; simp; omega)
        clear HT HO
        have h2 : ¬ 65536 < x := by omega
        go_wp2
        go_ret
        exact ⟨retI (by unfold totS; rw [HF.out]; rfl), rfl⟩
      by_cases h2 : 65536 < x
      · have HF : Hid (okW l = false) := okW_of_take (k := k + 1) (by rw [HT.out, HO.out]; simp; omega)
        clear HT HO
        go_wp2
        go_ret
        exact ⟨retI (by unfold totS; rw [HF.out]; rfl), rfl⟩
      go_wp2
      go_round
      case rel => exact ⟨k + 1, by omega, by go_num, by rw [HS.out], by have := HT.out; rw [HO.out] at this; exact this.trans (by simp; omega)⟩
      case measure => simp [intOf]; omega
    · obtain rfl : k = n := by omega
      go_wp2
      go_ret
      have h9 := HO.out
      rw [List.take_of_length_le (by omega)] at *
      exact ⟨retI (by unfold totS; rw [if_pos h9]), rfl⟩
end Go.Proofs.Ytjobcobgmajajaa
