/- Contracts of the specification of galois: sums, differences, products, powers. -/
import Derived.Test.YtjbaleadahefoaaDoorWo
set_option linter.unusedVariables false
namespace Go.Proofs.YtjbaleadahefoaaDoor
open Go.RowKit

theorem rIs_any (c n q x : Int) (b : Bool) (hb : b = true ↔ (0 ≤ x ∧ x < n)) (w : World) :
    Calls Tryd.prog 37 #[.agg #[.int .i64 c, .int .i64 n, .int .i64 q], .int .i64 x] w fun e w' => e = .returned (.bool b) ∧ Below w.heap.size w w' := by
  obtain ⟨c1, c2, c3⟩ := (Fd.new w c n q).cells
  have hb0 := below_new w (.cells #[.int .i64 c, .int .i64 n, .int .i64 q] 23)
  by_cases h1 : 0 ≤ x
  · by_cases h2 : x < n
    · obtain rfl : b = true := hb.2 ⟨h1, h2⟩
      clear hb
      go_enter Tryd.func37, Tryd.ntmps37
      go_wp2
      go_ret
      exact ⟨rfl, hb0⟩
    · obtain rfl : b = false := by
        cases b
        · rfl
        · exact absurd (hb.1 rfl).2 h2
      clear hb
      go_enter Tryd.func37, Tryd.ntmps37
      go_wp2
      go_ret
      exact ⟨rfl, hb0⟩
  · obtain rfl : b = false := by
      cases b
      · rfl
      · exact absurd (hb.1 rfl).1 h1
    clear hb
    go_enter Tryd.func37, Tryd.ntmps37
    go_wp2
    go_ret
    exact ⟨rfl, hb0⟩

theorem rPlusP_any (c n q x y z : Int) (hc : ¬ c = 2) (hz : (x + y) % n = z) (hx : 0 ≤ x ∧ x ≤ 4096) (hy : 0 ≤ y ∧ y ≤ 4096) (hn : 1 ≤ n) (hn2 : n ≤ 4096) (w : World) :
    Calls Tryd.prog 49 #[.agg #[.int .i64 c, .int .i64 n, .int .i64 q], .int .i64 x, .int .i64 y] w fun e w' => e = .returned (.int .i64 z) ∧ Below w.heap.size w w' := by
  obtain ⟨c1, c2, c3⟩ := (Fd.new w c n q).cells
  have hb0 := below_new w (.cells #[.int .i64 c, .int .i64 n, .int .i64 q] 23)
  obtain ⟨s, hs⟩ : ∃ s, x + y = s := ⟨_, rfl⟩
  rw [hs] at hz
  have hs0 : 0 ≤ s ∧ s ≤ 8192 := by omega
  have hn0 : ¬ n = 0 := by omega
  have hz0 : 0 ≤ z := by rw [← hz]; exact Int.emod_nonneg _ hn0
  have hz1 : z < n := by rw [← hz]; exact Int.emod_lt_of_pos _ (by omega)
  have hm : s.tmod n = z := by rw [Int.tmod_eq_emod_of_nonneg (by omega)]; exact hz
  clear hz hx hy
  go_enter Tryd.func49, Tryd.ntmps49
  go_wp2
  go_ret
  exact ⟨rfl, hb0⟩
theorem rPlusB_any (n q : Int) (x y : Nat) (hx : x < 4096) (hy : y < 4096) (w : World) :
    Calls Tryd.prog 49 #[.agg #[.int .i64 2, .int .i64 n, .int .i64 q], .int .i64 x, .int .i64 y] w fun e w' => e = .returned (.int .i64 ((x ^^^ y : Nat) : Int)) ∧ Below w.heap.size w w' := by
  obtain ⟨c1, c2, c3⟩ := (Fd.new w 2 n q).cells
  have hb0 := below_new w (.cells #[.int .i64 2, .int .i64 n, .int .i64 q] 23)
  have hxy := i64_xor x y 12 hx hy (by omega)
  obtain ⟨z, hz⟩ : ∃ z : Nat, x ^^^ y = z := ⟨_, rfl⟩
  rw [hz] at hxy ⊢
  clear hz hx hy
  generalize (x : Int) = xi at *
  generalize (y : Int) = yi at *
  go_enter Tryd.func49, Tryd.ntmps49
  go_wp2
  go_ret
  exact ⟨rfl, hb0⟩
theorem rMinusP_any (c n q x y z : Int) (hc : ¬ c = 2) (hz : (x - y + n) % n = z) (hx : 0 ≤ x ∧ x ≤ 4096) (hy : 0 ≤ y ∧ y ≤ n) (hn : 1 ≤ n) (hn2 : n ≤ 4096) (w : World) :
    Calls Tryd.prog 51 #[.agg #[.int .i64 c, .int .i64 n, .int .i64 q], .int .i64 x, .int .i64 y] w fun e w' => e = .returned (.int .i64 z) ∧ Below w.heap.size w w' := by
  obtain ⟨c1, c2, c3⟩ := (Fd.new w c n q).cells
  have hb0 := below_new w (.cells #[.int .i64 c, .int .i64 n, .int .i64 q] 23)
  obtain ⟨d, hd⟩ : ∃ d, x + n = d := ⟨_, rfl⟩
  obtain ⟨s, hs⟩ : ∃ s, d - y = s := ⟨_, rfl⟩
  rw [show x - y + n = s by omega] at hz
  have hd0 : 0 ≤ d ∧ d ≤ 8192 := by omega
  have hs0 : 0 ≤ s ∧ s ≤ 8192 := by omega
  have hn0 : ¬ n = 0 := by omega
  have hz0 : 0 ≤ z := by rw [← hz]; exact Int.emod_nonneg _ hn0
  have hz1 : z < n := by rw [← hz]; exact Int.emod_lt_of_pos _ (by omega)
  have hm : s.tmod n = z := by rw [Int.tmod_eq_emod_of_nonneg (by omega)]; exact hz
  clear hz hx hy
  go_enter Tryd.func51, Tryd.ntmps51
  go_wp2
  go_ret
  exact ⟨rfl, hb0⟩
theorem rMinusB_any (n q : Int) (x y : Nat) (hx : x < 4096) (hy : y < 4096) (w : World) :
    Calls Tryd.prog 51 #[.agg #[.int .i64 2, .int .i64 n, .int .i64 q], .int .i64 x, .int .i64 y] w fun e w' => e = .returned (.int .i64 ((x ^^^ y : Nat) : Int)) ∧ Below w.heap.size w w' := by
  obtain ⟨c1, c2, c3⟩ := (Fd.new w 2 n q).cells
  have hb0 := below_new w (.cells #[.int .i64 2, .int .i64 n, .int .i64 q] 23)
  have hxy := i64_xor x y 12 hx hy (by omega)
  obtain ⟨z, hz⟩ : ∃ z : Nat, x ^^^ y = z := ⟨_, rfl⟩
  rw [hz] at hxy ⊢
  clear hz hx hy
  generalize (x : Int) = xi at *
  generalize (y : Int) = yi at *
  go_enter Tryd.func51, Tryd.ntmps51
  go_wp2
  go_ret
  exact ⟨rfl, hb0⟩
theorem rTimesP_any (c n q x y z : Int) (hc : ¬ c = 2) (hz : (x * y) % n = z) (hxy0 : 0 ≤ x * y) (hxy1 : x * y ≤ 16777216) (hn : 1 ≤ n) (hn2 : n ≤ 4096) (w : World) :
    Calls Tryd.prog 53 #[.agg #[.int .i64 c, .int .i64 n, .int .i64 q], .int .i64 x, .int .i64 y] w fun e w' => e = .returned (.int .i64 z) ∧ Below w.heap.size w w' := by
  obtain ⟨c1, c2, c3⟩ := (Fd.new w c n q).cells
  have hb0 := below_new w (.cells #[.int .i64 c, .int .i64 n, .int .i64 q] 23)
  obtain ⟨s, hs⟩ : ∃ s, x * y = s := ⟨_, rfl⟩
  rw [hs] at hz hxy0 hxy1
  have hn0 : ¬ n = 0 := by omega
  have hz0 : 0 ≤ z := by rw [← hz]; exact Int.emod_nonneg _ hn0
  have hz1 : z < n := by rw [← hz]; exact Int.emod_lt_of_pos _ (by omega)
  have hm : s.tmod n = z := by rw [Int.tmod_eq_emod_of_nonneg (by omega)]; exact hz
  have hcc : (c != 2) = true := by rw [bne_iff_ne]; exact hc
  clear hz
  go_enter Tryd.func53, Tryd.ntmps53
  go_wp2
  go_ret
  exact ⟨rfl, hb0⟩

theorem clm_succ (a b n : Nat) : clm a b (n + 1) = if b.testBit n then clm a b n ^^^ a <<< n else clm a b n := by
  simp only [clm]
  split <;> simp
theorem clm_done (a b k : Nat) (hk : b < 2 ^ k) (h12 : b < 4096) : clm a b k = clm a b 12 := by
  rcases Nat.lt_or_ge k 12 with h | h
  · obtain ⟨m, hm⟩ : ∃ m, 12 = k + m := ⟨12 - k, by omega⟩
    rw [hm, clm_high a b k m hk]
  · obtain ⟨m, hm⟩ : ∃ m, k = 12 + m := ⟨k - 12, by omega⟩
    rw [hm, clm_high a b 12 m (by omega)]
set_option maxRecDepth 100000 in
theorem rTimesB_any (n : Int) (p D x y : Nat) (hdeg : Deg p D) (hD : D ≤ 12) (hx : x < 4096) (hy : y < 4096) (w : World) :
    Calls Tryd.prog 53 #[.agg #[.int .i64 2, .int .i64 n, .int .i64 p], .int .i64 x, .int .i64 y] w fun e w' => e = .returned (.int .i64 ((rm (clm x y 12) p : Nat) : Int)) ∧ Below w.heap.size w w' := by
  obtain ⟨c1, c2, c3⟩ := (Fd.new w 2 n p).cells
  have hb0 := below_new w (.cells #[.int .i64 2, .int .i64 n, .int .i64 (p : Int)] 23)
  have hcl : clm x y 12 < 1073741824 := Nat.lt_of_lt_of_le (clm_lt x y 12 12 hx) (by decide)
  have HR := Lib.hid (rest_any (clm x y 12) p D hdeg hD hcl)
  have HX := Lib.hid hx
  have HY := Lib.hid hy
  clear hdeg hcl
  generalize hpi : (p : Int) = pi at *
  go_enter Tryd.func53, Tryd.ntmps53
  go_wp2
  go_loop [7, 8] (fun pv kv => ∃ k : Nat, k ≤ 12 ∧ kv = .int .i64 k ∧ pv = .int .i64 (clm x y k : Nat)) (fun _ kv => 12 - (intOf kv).toNat)
  case atStart => exact ⟨0, by omega, rfl, rfl⟩
  case round =>
    obtain ⟨k, hk, rfl, rfl⟩ := hrel
    have hsr := shr64 y k
    have hb := bit_one y k HY.out
    have hYl : y / 2 ^ k ≤ y := Nat.div_le_self _ _
    have HYE : Hid (y / 2 ^ k = 0 → clm x y k = clm x y 12) := fun h0 => by
      refine clm_done x y k ?_ HY.out
      rcases Nat.lt_or_ge y (2 ^ k) with h | h
      · exact h
      · have := Nat.div_pos h (Nat.pow_pos (by omega)); omega
    have HK : Hid (¬ y / 2 ^ k = 0 → k < 12) := fun h0 => by
      rcases Nat.lt_or_ge k 12 with h | h
      · exact h
      · have : k = 12 := by omega
        subst this
        have := HY.out
        omega
    have HC := Lib.hid (clm_succ x y k)
    rw [Nat.shiftLeft_eq] at HC
    generalize hgY : y / 2 ^ k = Y at *
    have hki : (k : Int) ≤ 12 := by omega
    by_cases h0 : Y = 0
    · have HZ := Lib.hid (HYE.out h0)
      subst h0
      generalize clm x y k = z at *
      clear hb HC hgY HK HYE
      go_wp2_with fail
      rw [HZ.out]
      refine (HR.out _).mono ?_
      rintro e w' ⟨rfl, rfl⟩
      go_wp2
      go_ret
      exact ⟨rfl, hb0⟩
    · have hk12 := HK.out h0
      have hYI : (0 : Int) < (Y : Int) := by omega
      have hZb : clm x y k < 2 ^ 24 := Nat.lt_of_lt_of_le (clm_lt x y k 12 HX.out) (Nat.pow_le_pow_right (by omega) (by omega))
      have hXb : x * 2 ^ k < 2 ^ 24 := by
        have := shl_lt x 12 k HX.out
        exact Nat.lt_of_lt_of_le this (Nat.pow_le_pow_right (by omega) (by omega))
      have hx := i64_xor (clm x y k) (x * 2 ^ k) 24 hZb hXb (by omega)
      have hsh := shl64 x k 24 hXb (by omega)
      generalize clm x y k = z at *
      obtain ⟨X, hX⟩ : ∃ X, x * 2 ^ k = X := ⟨_, rfl⟩
      rw [hX] at hx hsh HC
      obtain ⟨V, hV⟩ : ∃ V, z ^^^ X = V := ⟨_, rfl⟩
      rw [hV] at hx HC
      clear hX hV hZb hXb hgY HK HYE
      cases htb : y.testBit k
      · rw [htb] at hb HC
        clear htb
        go_wp2
        go_round
        case rel => exact ⟨k + 1, by omega, by go_num, by rw [HC.out]; rfl⟩
        case measure => simp [intOf]; omega
      · rw [htb] at hb HC
        clear htb
        go_wp2
        go_round
        case rel => exact ⟨k + 1, by omega, by go_num, by rw [HC.out]; rfl⟩
        case measure => simp [intOf]; omega

set_option maxRecDepth 100000 in
theorem rPower_any (T : Nat → Nat → Nat) (c q : Int) (n : Nat) (hn : 2 ≤ n) (hn2 : n ≤ 4096)
    (HT : ∀ a b, a < n → b < n → T a b < n ∧ ∀ w, Calls Tryd.prog 53 #[.agg #[.int .i64 c, .int .i64 n, .int .i64 q], .int .i64 a, .int .i64 b] w fun e w' => e = .returned (.int .i64 (T a b : Nat)) ∧ Below w.heap.size w w')
    (x : Nat) (hx : x < n) (E : Nat) (hE2 : E < 4096) (w : World) :
    Calls Tryd.prog 67 #[.agg #[.int .i64 c, .int .i64 n, .int .i64 q], .int .i64 x, .int .i64 E] w fun r w' => r = .returned (.int .i64 (pwr T 12 E 1 x : Nat)) ∧ Below w.heap.size w w' := by
  obtain ⟨R, hR⟩ : ∃ R, pwr T 12 E 1 x = R := ⟨_, rfl⟩
  have HR := Lib.hid hR
  rw [hR]
  clear hR
  have HX := Lib.hid hx
  have HN := Lib.hid (And.intro hn hn2)
  have HE2 := Lib.hid hE2
  have HTT := Lib.hid HT
  clear HT hx hn hn2
  have hEI : (E : Int) ≤ 4096 := by omega
  have F0 := Fd.new w c n q
  have hb0 := below_new w (.cells #[.int .i64 c, .int .i64 n, .int .i64 q] 23)
  go_enter Tryd.func67, Tryd.ntmps67
  go_wp2
  go_loopw [1, 2, 7] (fun av ev pv wr => ∃ E r a f : Nat, ev = .int .i64 (E : Int) ∧ av = .int .i64 (a : Int) ∧ pv = .int .i64 (r : Int) ∧ (E : Int) ≤ 4096 ∧ Hid (E < 2 ^ f ∧ r < n ∧ a < n ∧ pwr T f E r a = R) ∧ Fd wr w.heap.size c n q ∧ Below w.heap.size w wr) (fun _ ev _ _ => (intOf ev).toNat)
  case atStart => exact ⟨E, 1, x, 12, rfl, rfl, rfl, hEI, Lib.hid ⟨HE2.out, by have := HN.out.1; omega, HX.out, HR.out⟩, F0, hb0⟩
  case round =>
    obtain ⟨E, r, a, f, rfl, rfl, rfl, hE4, hf, F, hB⟩ := hrel
    clear F0 hb0
    by_cases h0 : E = 0
    · have hR : Hid (r = R) := Lib.hid (by rw [← hf.out.2.2.2, h0, pwr_zero])
      subst h0
      go_wp2
      go_ret
      exact ⟨retI (by rw [hR.out]), hB⟩
    · have hE1 : (0 : Int) < (E : Int) := by omega
      have hr := hf.out.2.1
      have ha := hf.out.2.2.1
      obtain ⟨f', hf'⟩ : ∃ f', f = f' + 1 := by
        cases f with
        | zero => have := hf.out.1; simp at this; omega
        | succ f' => exact ⟨f', rfl⟩
      have haa := HTT.out a a ha ha
      have HAA := Lib.hid haa.2
      obtain ⟨c1, c2, c3⟩ := F.cells
      by_cases hodd : E % 2 = 1
      · have hodI : (E : Int) % 2 = 1 := by omega
        have hra := HTT.out r a hr ha
        have HRA := Lib.hid hra.2
        have HS : Hid (E / 2 < 2 ^ f' ∧ T r a < n ∧ T a a < n ∧ pwr T f' (E / 2) (T r a) (T a a) = R) := by
          have h4 := hf.out.2.2.2
          have h1 := hf.out.1
          subst hf'
          simp only [pwr] at h4
          rw [if_neg h0, if_pos hodd] at h4
          rw [Nat.pow_succ] at h1
          exact Lib.hid ⟨by omega, hra.1, haa.1, h4⟩
        clear hra haa hr ha hodd hf hf'
        go_wp2_with fail
        refine (HRA.out _).mono ?_
        rintro e w3 ⟨rfl, hb⟩
        have F3 := F.next hb
        have hB3 := below_step hB hb
        clear F hB hb c1 c2 c3
        obtain ⟨c1, c2, c3⟩ := F3.cells
        go_wp2_with fail
        refine (HAA.out _).mono ?_
        rintro e w4 ⟨rfl, hb⟩
        have F4 := F3.next hb
        have hB4 := below_step hB3 hb
        clear F3 hB3 hb c1 c2 c3
        go_wp2
        go_roundw
        case rel => exact ⟨E / 2, T r a, T a a, f', by go_num, rfl, rfl, by omega, HS, F4, hB4⟩
        case measure => simp [intOf]; omega
      · have hodI : (E : Int) % 2 = 0 := by omega
        have HS : Hid (E / 2 < 2 ^ f' ∧ r < n ∧ T a a < n ∧ pwr T f' (E / 2) r (T a a) = R) := by
          have h4 := hf.out.2.2.2
          have h1 := hf.out.1
          subst hf'
          simp only [pwr] at h4
          rw [if_neg h0, if_neg hodd] at h4
          rw [Nat.pow_succ] at h1
          exact Lib.hid ⟨by omega, hr, haa.1, h4⟩
        clear haa hr ha hodd hf hf'
        go_wp2_with fail
        refine (HAA.out _).mono ?_
        rintro e w4 ⟨rfl, hb⟩
        have F4 := F.next hb
        have hB4 := below_step hB hb
        clear F hB hb c1 c2 c3
        go_wp2
        go_roundw
        case rel => exact ⟨E / 2, r, T a a, f', by go_num, rfl, rfl, by omega, HS, F4, hB4⟩
        case measure => simp [intOf]; omega
theorem rInverse_of (c q x z : Int) (n : Int) (hn : 2 ≤ n ∧ n ≤ 4096) (HP : ∀ w, Calls Tryd.prog 67 #[.agg #[.int .i64 c, .int .i64 n, .int .i64 q], .int .i64 x, .int .i64 (n - 2)] w fun e w' => e = .returned (.int .i64 z) ∧ Below w.heap.size w w') (w : World) :
    Calls Tryd.prog 55 #[.agg #[.int .i64 c, .int .i64 n, .int .i64 q], .int .i64 x] w fun e w' => e = .returned (.int .i64 z) ∧ Below w.heap.size w w' := by
  obtain ⟨c1, c2, c3⟩ := (Fd.new w c n q).cells
  have hb0 := below_new w (.cells #[.int .i64 c, .int .i64 n, .int .i64 q] 23)
  go_enter Tryd.func55, Tryd.ntmps55
  go_wp2_with fail
  refine (HP _).mono ?_
  rintro e w2 ⟨rfl, hb⟩
  go_wp2
  go_ret
  exact ⟨rfl, below_step hb0 hb⟩
end Go.Proofs.YtjbaleadahefoaaDoor
