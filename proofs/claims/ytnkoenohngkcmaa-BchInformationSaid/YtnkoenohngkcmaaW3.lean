/- Contracts of package bch: the nearest codeword. -/
import Derived.Test.YtnkoenohngkcmaaW2
import Derived.WalkMore
set_option linter.unusedVariables false
namespace Go.Proofs.Ytnkoenohngkcmaa
open Go.RowKit

/-- the first codeword within the limit -/
def near (g d k word L : Nat) (n v : Nat) : Option Nat := first (fun v => decide (wt (word ^^^ cw g d k v) ≤ L)) n v
/-- what nearest returns -/
def nearV (g d k word L : Nat) : Option Nat → Value
  | some v => .tuple #[.int .i64 (v : Int), .int .i64 ((wt (word ^^^ cw g d k v) : Nat) : Int), .bool true]
  | none => .tuple #[.int .i64 0, .int .i64 0, .bool false]
theorem near_hit {g d k word L n v : Nat} (h : wt (word ^^^ cw g d k v) ≤ L) : near g d k word L (n + 1) v = some v := by
  simp [near, first, h]
theorem near_miss {g d k word L n v : Nat} (h : L < wt (word ^^^ cw g d k v)) : near g d k word L (n + 1) v = near g d k word L n (v + 1) := by
  have h2 : ¬ (wt (word ^^^ cw g d k v) ≤ L) := by omega
  simp [near, first, h2]
set_option maxRecDepth 100000 in
theorem nearest_any (k g d word L : Nat) (h : Deg g d) (hd : d ≤ 18) (hk1 : 1 ≤ k) (hk : k ≤ 12) (hw : word < 2 ^ (k + d)) (hL : L ≤ 64) (w : World) :
    Calls Try.prog 37 #[.agg #[.int .i64 (k : Int), .int .i64 (g : Int)], .int .i64 (word : Int), .int .i64 (L : Int)] w fun e w' => e = .returned (nearV g d k word L (near g d k word L (2 ^ k) 0)) ∧ Below w.heap.size w w' := by
  have HC := Co.new w k g
  have HB := below_new w (.cells #[.int .i64 (k : Int), .int .i64 (g : Int)] 46)
  obtain ⟨c1, c2⟩ := HC.cells
  have HWd := Lib.hid hw
  have HP := Lib.hid (pow2_le k hk1)
  have HP12 := Lib.hid (pow_le_12 k hk)
  have hw30 : word < 1073741824 := Nat.lt_of_lt_of_le hw (Nat.pow_le_pow_right (n := 2) (by omega) (show k + d ≤ 30 by omega))
  clear hw
  obtain ⟨R, hR⟩ : ∃ R, near g d k word L (2 ^ k) 0 = R := ⟨_, rfl⟩
  have HR := Lib.hid hR
  rw [hR]
  clear hR
  go_enter Try.func37, Try.ntmps37
  go_wp2_with fail
  go_step3
  go_wp2_with fail
  go_step3
  go_wp2_with fail
  refine (count_any k g hk _).mono ?_
  rintro e w1 ⟨rfl, hb1⟩
  have hc1 := HC.next hb1
  have hB1 := below_step HB hb1
  clear c1 c2 HC HB hb1
  obtain ⟨N, hN⟩ : ∃ N : Nat, 2 ^ k = N := ⟨_, rfl⟩
  rw [hN] at HP12 HR ⊢
  have HN := Lib.hid hN
  clear hN HP
  have hN12 := HP12.out
  go_wp2
  go_loopw [6, 7, 8, 14] (fun r1 r2 r3 c wr => ∃ n : Nat, c = .int .i64 (n : Int) ∧ r1 = .int .i64 0 ∧ r2 = .int .i64 0 ∧ r3 = .bool false ∧ Hid (n ≤ N ∧ near g d k word L (N - n) n = R) ∧ Co wr w.heap.size k g ∧ Below w.heap.size w wr) (fun _ _ _ c _ => N - (intOf c).toNat)
  case atStart => exact ⟨0, rfl, rfl, rfl, rfl, Lib.hid ⟨by omega, HR.out⟩, hc1, hB1⟩
  case round =>
    obtain ⟨n, rfl, rfl, rfl, rfl, hn, hco, hbel⟩ := hrel
    clear hc1 hB1
    obtain ⟨c1, c2⟩ := hco.cells
    by_cases hlt : n < N
    · have hv : Hid (n < 2 ^ k) := Lib.hid (by rw [HN.out]; exact hlt)
      have HW := Lib.hid (cw_lt h k n hv.out)
      have hx := i64_xor word (cw g d k n) (k + d) HWd.out HW.out (by omega)
      have HX := Lib.hid (Nat.lt_of_lt_of_le (xor_lt' word (cw g d k n) (k + d) HWd.out HW.out) (Nat.pow_le_pow_right (n := 2) (by omega) (show k + d ≤ 30 by omega)))
      go_wp2_with fail
      refine (codeword_any k g d n h hd hk1 hk hv.out _).mono ?_
      rintro e w2 ⟨rfl, hb2⟩
      have hco2 := hco.next hb2
      have hB2 := below_step hbel hb2
      clear c1 c2 hb2
      obtain ⟨c1, c2⟩ := hco2.cells
      obtain ⟨X, hX⟩ : ∃ X, word ^^^ cw g d k n = X := ⟨_, rfl⟩
      rw [hX] at hx HX
      have HXX := Lib.hid hX
      clear hX
      go_wp2
      clear hx
      go_loopw [10, 11] (fun a b wr => ∃ x y : Nat, a = .int .i64 (x : Int) ∧ b = .int .i64 (y : Int) ∧ Hid (wt y + x = wt X ∧ x ≤ L ∧ y < 2 ^ 30) ∧ Co wr w.heap.size k g ∧ Below w.heap.size w wr) (fun a _ _ => L + 1 - (intOf a).toNat)
      case atStart => exact ⟨0, X, rfl, rfl, Lib.hid ⟨Nat.add_zero _, Nat.zero_le _, HX.out⟩, hco2, hB2⟩
      case round =>
        obtain ⟨x, y, rfl, rfl, hxy, hco3, hB3⟩ := hrel
        clear c1 c2 hco2 hB2
        have hxL0 : x ≤ L := hxy.out.2.1
        have hy30 : y < 1073741824 := hxy.out.2.2
        have hwt : Hid (wt y + x = wt X) := Lib.hid hxy.out.1
        by_cases h0 : y = 0
        · subst h0
          go_wp2
          simp only [Exit.noGoto]
          have h1 := hn.out.2
          have h2 := hwt.out
          rw [wt_zero, Nat.zero_add] at h2
          rw [show N - n = (N - (n + 1)) + 1 by omega, near_hit (by rw [HXX.out]; omega)] at h1
          refine bodyPost_ret (v := .tuple #[.int .i64 (n : Int), .int .i64 (x : Int), .bool true]) (by simp [results, Try.results37, go_sem]) rfl ⟨?_, hB3⟩
          rw [← h1, h2, ← HXX.out]
          rfl
        · by_cases hxL : x = L
          · subst hxL
            go_wp2
            go_roundw
            case rel =>
              have h1 := hn.out.2
              have h2 := hwt.out
              have h3 := wt_pos y (by omega) (by omega)
              rw [show N - n = (N - (n + 1)) + 1 by omega, near_miss (by rw [HXX.out]; omega)] at h1
              exact ⟨n + 1, by go_num, rfl, rfl, rfl, Lib.hid ⟨by omega, h1⟩, hco3, hB3⟩
            case measure => simp [intOf]; omega
          · go_wp2
            have h2 := hwt.out
            have h3 := wt_clear y (by omega) (by omega)
            have hle : y &&& (y - 1) ≤ y := Nat.and_le_left
            have ha := i64_and y (y - 1) 40 (by omega) (by omega) (by omega)
            have hy1 : ((y : Int) - 1) = ((y - 1 : Nat) : Int) := by omega
            refine ⟨⟨x + 1, y &&& (y - 1), by go_num, valI (by rw [hy1]; exact ha), Lib.hid ⟨by omega, by omega, by omega⟩, hco3, hB3⟩, by simp [intOf]; omega⟩
    · go_wp2
      simp only [Exit.noGoto]
      have hN0 : N - n = 0 := by omega
      have h1 := hn.out.2
      rw [hN0] at h1
      refine bodyPost_ret (v := .tuple #[.int .i64 0, .int .i64 0, .bool false]) (by simp [results, Try.results37, go_sem]) rfl ⟨?_, hbel⟩
      rw [← h1]
      rfl
end Go.Proofs.Ytnkoenohngkcmaa
