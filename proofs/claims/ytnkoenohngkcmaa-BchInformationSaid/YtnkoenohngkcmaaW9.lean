/- Contracts of the specification of bch: Encode, Distance, Decode. -/
import Derived.Test.YtnkoenohngkcmaaW8
import Derived.Test.YtnkoenohngkcmaaW5
import Derived.WalkMore
set_option linter.unusedVariables false
namespace Go.Proofs.Ytnkoenohngkcmaa
open Go.RowKit

set_option maxRecDepth 100000 in
theorem right_yes (k gen : Int) (h : OkC k gen) (w : World) : Calls Try.prog 31 #[.int .i64 k, .int .i64 gen] w fun e w' => e = .returned (.bool true) ∧ w = w' := by
  obtain ⟨h1, h2, h3, h4, h5⟩ := h
  go_enter Try.func31, Try.ntmps31
  go_wp2
  go_ret
  exact ⟨rfl, rfl⟩
set_option maxRecDepth 100000 in
theorem right_no (k gen : Int) (h : ¬ OkC k gen) (w : World) : Calls Try.prog 31 #[.int .i64 k, .int .i64 gen] w fun e w' => e = .returned (.bool false) ∧ w = w' := by
  unfold OkC at h
  by_cases h1 : 1 ≤ k
  · by_cases h2 : k ≤ 12
    · by_cases h3 : 3 ≤ gen
      · by_cases h4 : gen < 524288
        · have h5 : gen % 2 = 0 := by omega
          clear h
          go_enter Try.func31, Try.ntmps31
          go_wp2
          go_ret
          exact ⟨rfl, rfl⟩
        · clear h
          go_enter Try.func31, Try.ntmps31
          go_wp2
          go_ret
          exact ⟨rfl, rfl⟩
      · clear h
        go_enter Try.func31, Try.ntmps31
        go_wp2
        go_ret
        exact ⟨rfl, rfl⟩
    · clear h
      go_enter Try.func31, Try.ntmps31
      go_wp2
      go_ret
      exact ⟨rfl, rfl⟩
  · clear h
    go_enter Try.func31, Try.ntmps31
    go_wp2
    go_ret
    exact ⟨rfl, rfl⟩

theorem rEncode_bad (v k gen : Int) (h : ¬ OkC k gen) (w : World) : Calls Try.prog 12 #[.int .i64 v, .int .i64 k, .int .i64 gen] w fun e w' => e = .returned (.tuple #[.int .i64 0, .int .i64 1]) ∧ w = w' := by
  go_enter Try.func12, Try.ntmps12
  go_wp2_with fail
  refine (right_no k gen h _).mono ?_
  rintro e w1 ⟨rfl, rfl⟩
  go_wp2
  exact bodyPost_ret (v := .tuple #[.int .i64 0, .int .i64 1]) (by simp [results, Try.results12, go_sem]) rfl ⟨rfl, rfl⟩
theorem rEncode_out (v : Int) (k g : Nat) (h : OkC k g) (hv : v < 0 ∨ ((2 ^ k : Nat) : Int) ≤ v) (w : World) : Calls Try.prog 12 #[.int .i64 v, .int .i64 (k : Int), .int .i64 (g : Int)] w fun e w' => e = .returned (.tuple #[.int .i64 0, .int .i64 3]) ∧ w = w' := by
  have hk : k ≤ 12 := by have := h.2.1; omega
  have HP := rPower_any k (by omega)
  obtain ⟨N, hN⟩ : ∃ N : Nat, 2 ^ k = N := ⟨_, rfl⟩
  rw [hN] at HP hv
  clear hN
  go_enter Try.func12, Try.ntmps12
  go_wp2_with fail
  refine (right_yes k g h _).mono ?_
  rintro e w1 ⟨rfl, rfl⟩
  by_cases h0 : v < 0
  · clear hv
    go_wp2
    exact bodyPost_ret (v := .tuple #[.int .i64 0, .int .i64 3]) (by simp [results, Try.results12, go_sem]) rfl ⟨rfl, rfl⟩
  · have hv2 : (N : Int) ≤ v := by omega
    clear hv
    go_wp2_with fail
    refine (HP _).mono ?_
    rintro e w1 ⟨rfl, rfl⟩
    go_wp2
    exact bodyPost_ret (v := .tuple #[.int .i64 0, .int .i64 3]) (by simp [results, Try.results12, go_sem]) rfl ⟨rfl, rfl⟩
theorem rEncode_ok (v k g d : Nat) (h : OkC k g) (hd : Deg g d) (hd18 : d ≤ 18) (hv : v < 2 ^ k) (w : World) : Calls Try.prog 12 #[.int .i64 (v : Int), .int .i64 (k : Int), .int .i64 (g : Int)] w fun e w' => e = .returned (.tuple #[.int .i64 ((cw g d k v : Nat) : Int), .int .i64 0]) ∧ w = w' := by
  have hk : k ≤ 12 := by have := h.2.1; omega
  have HP := rPower_any k (by omega)
  have HC := rCodeword_any k g d v hd hd18 hk hv
  obtain ⟨N, hN⟩ : ∃ N : Nat, 2 ^ k = N := ⟨_, rfl⟩
  rw [hN] at HP hv
  have hv2 : (v : Int) < N := by omega
  clear hN
  go_enter Try.func12, Try.ntmps12
  go_wp2_with fail
  refine (right_yes k g h _).mono ?_
  rintro e w1 ⟨rfl, rfl⟩
  go_wp2_with fail
  refine (HP _).mono ?_
  rintro e w1 ⟨rfl, rfl⟩
  go_wp2_with fail
  refine (HC _).mono ?_
  rintro e w1 ⟨rfl, rfl⟩
  go_wp2
  exact bodyPost_ret (v := .tuple #[.int .i64 ((cw g d k v : Nat) : Int), .int .i64 0]) (by simp [results, Try.results12, go_sem]) rfl ⟨rfl, rfl⟩

theorem rDistance_bad (k gen : Int) (h : ¬ OkC k gen) (w : World) : Calls Try.prog 14 #[.int .i64 k, .int .i64 gen] w fun e w' => e = .returned (.tuple #[.int .i64 0, .int .i64 1]) ∧ w = w' := by
  go_enter Try.func14, Try.ntmps14
  go_wp2_with fail
  refine (right_no k gen h _).mono ?_
  rintro e w1 ⟨rfl, rfl⟩
  go_wp2
  exact bodyPost_ret (v := .tuple #[.int .i64 0, .int .i64 1]) (by simp [results, Try.results14, go_sem]) rfl ⟨rfl, rfl⟩
theorem rDistance_ok (k g d : Nat) (h : OkC k g) (hd : Deg g d) (hd18 : d ≤ 18) (w : World) : Calls Try.prog 14 #[.int .i64 (k : Int), .int .i64 (g : Int)] w fun e w' => e = .returned (.tuple #[.int .i64 ((dist g d k : Nat) : Int), .int .i64 0]) ∧ w = w' := by
  have hk : k ≤ 12 := by have := h.2.1; omega
  have hk1 : 1 ≤ k := by have := h.1; omega
  have HP := rPower_any k (by omega)
  have HC := fun v (hv : v < 2 ^ k) => rCodeword_any k g d v hd hd18 hk hv
  have HC30 := fun v (hv : v < 2 ^ k) => Nat.lt_of_lt_of_le (cw_lt hd k v hv) (Nat.pow_le_pow_right (n := 2) (by omega) (show k + d ≤ 30 by omega))
  have hN0 := pow2_le k hk1
  have hN1 := pow_le_12 k hk
  obtain ⟨D, hD⟩ : ∃ D, dist g d k = D := ⟨_, rfl⟩
  have HD : Hid (least (fun v => wt (cw g d k v)) 31 (2 ^ k) = D) := Lib.hid (by rw [dist_top hd k hk1 (by omega)]; exact hD)
  rw [hD]
  clear hD
  obtain ⟨N, hN⟩ : ∃ N : Nat, 2 ^ k = N := ⟨_, rfl⟩
  rw [hN] at HP HC HC30 hN0 hN1 HD
  clear hN
  go_enter Try.func14, Try.ntmps14
  go_wp2_with fail
  refine (right_yes k g h _).mono ?_
  rintro e w1 ⟨rfl, rfl⟩
  go_wp2_with fail
  go_loop [6, 7] (fun x y => ∃ m n : Nat, x = .int .i64 (m : Int) ∧ y = .int .i64 (n : Int) ∧ n ≤ N ∧ Hid (1 ≤ n ∧ least (fun v => wt (cw g d k v)) 31 n = m)) (fun _ y => N - (intOf y).toNat)
  case atStart => exact ⟨31, 1, rfl, rfl, by omega, Lib.hid ⟨by omega, rfl⟩⟩
  case round =>
    obtain ⟨m, n, rfl, rfl, hn, hm⟩ := hrel
    by_cases hlt : n < N
    · have HCn := HC n hlt
      have hc30 := HC30 n hlt
      have HS := least_succ (fun v => wt (cw g d k v)) 31 n hm.out.1
      have h1 := hm.out.1
      rw [hm.out.2] at HS
      have HS2 := Lib.hid HS
      clear HS hm HC HC30
      obtain ⟨C, hC⟩ : ∃ C, cw g d k n = C := ⟨_, rfl⟩
      rw [hC] at HCn hc30 HS2
      clear hC
      go_wp2_with fail
      refine (HP _).mono ?_
      rintro e w1 ⟨rfl, rfl⟩
      go_wp2_with fail
      refine (HCn _).mono ?_
      rintro e w1 ⟨rfl, rfl⟩
      go_wp2_with fail
      refine (rWeight_any C (by omega) _).mono ?_
      rintro e w1 ⟨rfl, rfl⟩
      go_wp2
      go_round
      case rel => exact ⟨min m (wt C), n + 1, valI (by omega), by go_num, hlt, Lib.hid ⟨by omega, HS2.out⟩⟩
      case measure => simp [intOf]; omega
    · obtain rfl : n = N := by omega
      have HE : Hid (m = D) := Lib.hid (by rw [← hm.out.2, HD.out])
      clear hm
      go_wp2_with fail
      refine (HP _).mono ?_
      rintro e w1 ⟨rfl, rfl⟩
      go_wp2
      exact bodyPost_ret (v := .tuple #[.int .i64 (m : Int), .int .i64 0]) (by simp [results, Try.results14, go_sem]) rfl ⟨by rw [HE.out], rfl⟩

theorem rDecode_bad (word k gen : Int) (h : ¬ OkC k gen) (w : World) : Calls Try.prog 17 #[.int .i64 word, .int .i64 k, .int .i64 gen] w fun e w' => e = .returned (.tuple #[.int .i64 0, .int .i64 0, .int .i64 1]) ∧ w = w' := by
  go_enter Try.func17, Try.ntmps17
  go_wp2_with fail
  refine (right_no k gen h _).mono ?_
  rintro e w1 ⟨rfl, rfl⟩
  go_wp2
  exact bodyPost_ret (v := .tuple #[.int .i64 0, .int .i64 0, .int .i64 1]) (by simp [results, Try.results17, go_sem]) rfl ⟨rfl, rfl⟩
theorem rDecode_out (word : Int) (k g d : Nat) (h : OkC k g) (hd : Deg g d) (hd18 : d ≤ 18) (hv : word < 0 ∨ ((2 ^ (k + d) : Nat) : Int) ≤ word) (w : World) : Calls Try.prog 17 #[.int .i64 word, .int .i64 (k : Int), .int .i64 (g : Int)] w fun e w' => e = .returned (.tuple #[.int .i64 0, .int .i64 0, .int .i64 3]) ∧ w = w' := by
  have hk : k ≤ 12 := by have := h.2.1; omega
  have HP := rPower_any (k + d) (by omega)
  obtain ⟨N, hN⟩ : ∃ N : Nat, 2 ^ (k + d) = N := ⟨_, rfl⟩
  rw [hN] at HP hv
  clear hN
  obtain ⟨S, hS⟩ : ∃ S : Nat, k + d = S := ⟨_, rfl⟩
  rw [hS] at HP
  have hkd : (k : Int) + (d : Int) = (S : Int) := by omega
  have hS30 : S ≤ 30 := by omega
  clear hS
  go_enter Try.func17, Try.ntmps17
  go_wp2_with fail
  refine (right_yes k g h _).mono ?_
  rintro e w1 ⟨rfl, rfl⟩
  by_cases h0 : word < 0
  · clear hv
    go_wp2
    exact bodyPost_ret (v := .tuple #[.int .i64 0, .int .i64 0, .int .i64 3]) (by simp [results, Try.results17, go_sem]) rfl ⟨rfl, rfl⟩
  · have hv2 : (N : Int) ≤ word := by omega
    clear hv
    go_wp2_with fail
    refine (rDegree_any g d hd hd18 _).mono ?_
    rintro e w1 ⟨rfl, rfl⟩
    go_wp2_with fail
    refine (HP _).mono ?_
    rintro e w1 ⟨rfl, rfl⟩
    go_wp2
    exact bodyPost_ret (v := .tuple #[.int .i64 0, .int .i64 0, .int .i64 3]) (by simp [results, Try.results17, go_sem]) rfl ⟨rfl, rfl⟩

theorem near_end {g d k word L v : Nat} : near g d k word L 0 v = none := rfl
theorem rDecode_ok (word k g d : Nat) (h : OkC k g) (hd : Deg g d) (hd18 : d ≤ 18) (hv : word < 2 ^ (k + d)) (w : World) : Calls Try.prog 17 #[.int .i64 (word : Int), .int .i64 (k : Int), .int .i64 (g : Int)] w fun e w' =>
    e = .returned (decV g d k word ((dist g d k - 1) / 2) (near g d k word ((dist g d k - 1) / 2) (2 ^ k) 0)) ∧ w = w' := by
  have hk : k ≤ 12 := by have := h.2.1; omega
  have hk1 : 1 ≤ k := by have := h.1; omega
  have HP := rPower_any (k + d) (by omega)
  have HPk := rPower_any k (by omega)
  have HC := fun v (hv : v < 2 ^ k) => rCodeword_any k g d v hd hd18 hk hv
  have HXC : ∀ v, v < 2 ^ k → Go.bits .xor .i64 ((cw g d k v : Nat) : Int) (word : Int) = ((word ^^^ cw g d k v : Nat) : Int) ∧ word ^^^ cw g d k v < 1073741824 := by
    intro v hvk
    have hc := cw_lt hd k v hvk
    rw [i64_xor _ _ (k + d) hc hv (by omega), Nat.xor_comm]
    exact ⟨rfl, Nat.lt_of_lt_of_le (Nat.xor_lt_two_pow hv hc) (Nat.pow_le_pow_right (n := 2) (by omega) (show k + d ≤ 30 by omega))⟩
  have hN1 := pow_le_12 k hk
  have hD1 := dist_pos hd k hk1 (by omega)
  have hD2 : dist g d k ≤ k + d := least_top _ _ _
  have HDI := rDistance_ok k g d h hd hd18
  obtain ⟨D, hD⟩ : ∃ D, dist g d k = D := ⟨_, rfl⟩
  rw [hD] at HDI hD1 hD2 ⊢
  clear hD
  obtain ⟨L, hL⟩ : ∃ L, (D - 1) / 2 = L := ⟨_, rfl⟩
  rw [hL]
  have hLI : ((D : Int) - 1) / 2 = (L : Int) := by omega
  have hD1i : (1 : Int) ≤ (D : Int) := by omega
  have hD2i : (D : Int) ≤ 30 := by omega
  clear hL hD1 hD2
  obtain ⟨R, hR⟩ : ∃ R, near g d k word L (2 ^ k) 0 = R := ⟨_, rfl⟩
  have HR := Lib.hid hR
  rw [hR]
  clear hR
  obtain ⟨M, hM⟩ : ∃ M : Nat, 2 ^ (k + d) = M := ⟨_, rfl⟩
  rw [hM] at HP hv
  have hv2 : (word : Int) < M := by omega
  clear hM
  obtain ⟨S, hS⟩ : ∃ S : Nat, k + d = S := ⟨_, rfl⟩
  rw [hS] at HP
  have hkd : (k : Int) + (d : Int) = (S : Int) := by omega
  have hS30 : S ≤ 30 := by omega
  clear hS
  obtain ⟨N, hN⟩ : ∃ N : Nat, 2 ^ k = N := ⟨_, rfl⟩
  rw [hN] at HPk HC HXC hN1 HR
  clear hN
  go_enter Try.func17, Try.ntmps17
  go_wp2_with fail
  refine (right_yes k g h _).mono ?_
  rintro e w1 ⟨rfl, rfl⟩
  go_wp2_with fail
  refine (rDegree_any g d hd hd18 _).mono ?_
  rintro e w1 ⟨rfl, rfl⟩
  go_wp2_with fail
  refine (HP _).mono ?_
  rintro e w1 ⟨rfl, rfl⟩
  go_wp2_with fail
  refine (HDI _).mono ?_
  rintro e w1 ⟨rfl, rfl⟩
  go_wp2_with fail
  go_loop [11] (fun y => ∃ n : Nat, y = .int .i64 (n : Int) ∧ n ≤ N ∧ Hid (near g d k word L (N - n) n = R)) (fun y => N - (intOf y).toNat)
  case atStart => exact ⟨0, rfl, by omega, Lib.hid HR.out⟩
  case round =>
    obtain ⟨n, rfl, hn, hm⟩ := hrel
    by_cases hlt : n < N
    · have HCn := HC n hlt
      obtain ⟨hx, hx30⟩ := HXC n hlt
      have h2 : Hid ((wt (word ^^^ cw g d k n) ≤ L → R = some n) ∧ (L < wt (word ^^^ cw g d k n) → near g d k word L (N - (n + 1)) (n + 1) = R)) := by
        have h1 := hm.out
        rw [show N - n = (N - (n + 1)) + 1 by omega] at h1
        refine Lib.hid ⟨fun h => ?_, fun h => ?_⟩
        · rw [near_hit h] at h1; exact h1.symm
        · rw [near_miss h] at h1; exact h1
      obtain ⟨X, hX⟩ : ∃ X, word ^^^ cw g d k n = X := ⟨_, rfl⟩
      have HX := Lib.hid hX
      rw [hX] at hx hx30 h2
      clear HC HXC hX hm
      obtain ⟨C, hC⟩ : ∃ C, cw g d k n = C := ⟨_, rfl⟩
      rw [hC] at HCn hx
      clear hC
      obtain ⟨T, hT⟩ : ∃ T, wt X = T := ⟨_, rfl⟩
      have HW := rWeight_any X (by omega)
      have HT := Lib.hid hT
      rw [hT] at HW h2
      clear hT
      go_wp2_with fail
      refine (HPk _).mono ?_
      rintro e w1 ⟨rfl, rfl⟩
      go_wp2_with fail
      refine (HCn _).mono ?_
      rintro e w1 ⟨rfl, rfl⟩
      go_wp2_with fail
      refine (HW _).mono ?_
      rintro e w1 ⟨rfl, rfl⟩
      by_cases hTL : T ≤ L
      · have HE := Lib.hid (h2.out.1 hTL)
        have hTL2 : (T : Int) ≤ (L : Int) := by omega
        go_wp2
        exact bodyPost_ret (v := .tuple #[.int .i64 (n : Int), .int .i64 (T : Int), .int .i64 0]) (by simp [results, Try.results17, go_sem]) rfl ⟨by rw [HE.out, ← HT.out, ← HX.out]; rfl, rfl⟩
      · have HE := Lib.hid (h2.out.2 (by omega))
        have hTL2 : ¬ (T : Int) ≤ (L : Int) := by omega
        go_wp2
        go_round
        case rel => exact ⟨n + 1, by go_num, hlt, HE⟩
        case measure => simp [intOf]; omega
    · obtain rfl : n = N := by omega
      have HE : Hid (R = none) := Lib.hid (by rw [← hm.out, Nat.sub_self]; rfl)
      clear hm HC HXC
      go_wp2_with fail
      refine (HPk _).mono ?_
      rintro e w1 ⟨rfl, rfl⟩
      go_wp2
      exact bodyPost_ret (v := .tuple #[.int .i64 0, .int .i64 0, .int .i64 17]) (by simp [results, Try.results17, go_sem]) rfl ⟨by rw [HE.out]; rfl, rfl⟩
end Go.Proofs.Ytnkoenohngkcmaa
