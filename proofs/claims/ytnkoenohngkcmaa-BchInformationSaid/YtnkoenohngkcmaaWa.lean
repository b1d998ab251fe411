/- Contracts of the specification of bch: Format, Version and their parsers. -/
import Derived.Test.YtnkoenohngkcmaaW9
import Derived.Test.YtnkoenohngkcmaaW7
set_option linter.unusedVariables false
namespace Go.Proofs.Ytnkoenohngkcmaa
open Go.RowKit

theorem lvI_cases (level : Int) : (level = 1 ∧ lvI level = 1) ∨ (level = 2 ∧ lvI level = 0) ∨ (level = 3 ∧ lvI level = 3) ∨ (level = 4 ∧ lvI level = 2) ∨ (level ≠ 1 ∧ level ≠ 2 ∧ level ≠ 3 ∧ level ≠ 4 ∧ lvI level = -1) := by
  unfold lvI
  by_cases h1 : level = 1
  · subst h1; left; exact ⟨rfl, rfl⟩
  by_cases h2 : level = 2
  · subst h2; right; left; exact ⟨rfl, rfl⟩
  by_cases h3 : level = 3
  · subst h3; right; right; left; exact ⟨rfl, rfl⟩
  by_cases h4 : level = 4
  · subst h4; right; right; right; left; exact ⟨rfl, rfl⟩
  · right; right; right; right
    exact ⟨h1, h2, h3, h4, by simp [h1, h2, h3, h4]⟩
set_option maxRecDepth 100000 in
theorem rFormat_level (level mask : Int) (h : lvI level = -1) (w : World) : Calls Try.prog 19 #[.int .i64 level, .int .i64 mask] w fun e w' => e = .returned (.tuple #[.int .i64 0, .int .i64 15]) ∧ w = w' := by
  rcases lvI_cases level with ⟨_, h2⟩ | ⟨_, h2⟩ | ⟨_, h2⟩ | ⟨_, h2⟩ | ⟨h1, h2, h3, h4, _⟩
  · omega
  · omega
  · omega
  · omega
  · clear h
    go_enter Try.func19, Try.ntmps19
    go_wp2
    exact bodyPost_ret (v := .tuple #[.int .i64 0, .int .i64 15]) (by simp [results, Try.results19, go_sem]) rfl ⟨rfl, rfl⟩
set_option maxRecDepth 100000 in
theorem rFormat_mask (level mask : Int) (b : Nat) (h : lvI level = (b : Int)) (hm : mask < 0 ∨ 8 ≤ mask) (w : World) : Calls Try.prog 19 #[.int .i64 level, .int .i64 mask] w fun e w' => e = .returned (.tuple #[.int .i64 0, .int .i64 3]) ∧ w = w' := by
  have hm2 : mask < 0 ∨ (¬ mask < 0 ∧ 7 < mask) := by omega
  clear hm
  rcases lvI_cases level with ⟨rfl, h2⟩ | ⟨rfl, h2⟩ | ⟨rfl, h2⟩ | ⟨rfl, h2⟩ | ⟨h1, h2, h3, h4, h5⟩
  case inr.inr.inr.inr => omega
  all_goals
    clear h h2
    rcases hm2 with h0 | ⟨h0, h8⟩
  all_goals
    go_enter Try.func19, Try.ntmps19
    go_wp2
    exact bodyPost_ret (v := .tuple #[.int .i64 0, .int .i64 3]) (by simp [results, Try.results19, go_sem]) rfl ⟨rfl, rfl⟩
set_option maxRecDepth 100000 in
theorem rFormat_ok (level : Int) (mask b : Nat) (h : lvI level = (b : Int)) (hb4 : b < 4) (hm : mask < 8) (w : World) : Calls Try.prog 19 #[.int .i64 level, .int .i64 (mask : Int)] w fun e w' => e = .returned (.tuple #[.int .i64 ((cw 1335 10 5 (b * 8 + mask) ^^^ 21522 : Nat) : Int), .int .i64 0]) ∧ w = w' := by
  obtain ⟨V, hV⟩ : ∃ V, b * 8 + mask = V := ⟨_, rfl⟩
  have hV32 : V < 32 := by omega
  have hbm : 8 * (b : Int) + (mask : Int) = (V : Int) := by omega
  rw [hV]
  have HE := rCodeword_any 5 1335 10 V degF (by omega) (by omega) hV32
  have HX := i64_xor (cw 1335 10 5 V) 21522 15 (cwF_lt V hV32) (by omega) (by omega)
  obtain ⟨X, hX⟩ : ∃ X, cw 1335 10 5 V ^^^ 21522 = X := ⟨_, rfl⟩
  rw [hX] at HX ⊢
  clear hX
  obtain ⟨C, hC⟩ : ∃ C, cw 1335 10 5 V = C := ⟨_, rfl⟩
  rw [hC] at HX HE
  clear hC
  have HX2 : bits BinOp.xor IntKind.i64 (C : Int) 21522 = (X : Int) := HX
  clear HX
  rcases lvI_cases level with ⟨rfl, h2⟩ | ⟨rfl, h2⟩ | ⟨rfl, h2⟩ | ⟨rfl, h2⟩ | ⟨h1, h2, h3, h4, h5⟩
  case inr.inr.inr.inr => omega
  · have hb : (b : Int) = 1 := by omega
    rw [hb] at hbm
    have hbm2 : 8 + (mask : Int) = (V : Int) := by omega
    clear h h2 hb hV hbm hb4
    go_enter Try.func19, Try.ntmps19
    go_wp2_with fail
    refine (HE _).mono ?_
    rintro e w2 ⟨rfl, rfl⟩
    go_wp2
    exact bodyPost_ret (v := .tuple #[.int .i64 (X : Int), .int .i64 0]) (by simp [results, Try.results19, go_sem]) rfl ⟨rfl, rfl⟩
  · have hb : (b : Int) = 0 := by omega
    have hbm2 : mask = V := by omega
    subst hbm2
    clear h h2 hb hV hbm hb4
    go_enter Try.func19, Try.ntmps19
    go_wp2_with fail
    refine (HE _).mono ?_
    rintro e w2 ⟨rfl, rfl⟩
    go_wp2
    exact bodyPost_ret (v := .tuple #[.int .i64 (X : Int), .int .i64 0]) (by simp [results, Try.results19, go_sem]) rfl ⟨rfl, rfl⟩
  · have hb : (b : Int) = 3 := by omega
    have hbm2 : 24 + (mask : Int) = (V : Int) := by omega
    clear h h2 hb hV hbm hb4
    go_enter Try.func19, Try.ntmps19
    go_wp2_with fail
    refine (HE _).mono ?_
    rintro e w2 ⟨rfl, rfl⟩
    go_wp2
    exact bodyPost_ret (v := .tuple #[.int .i64 (X : Int), .int .i64 0]) (by simp [results, Try.results19, go_sem]) rfl ⟨rfl, rfl⟩
  · have hb : (b : Int) = 2 := by omega
    have hbm2 : 16 + (mask : Int) = (V : Int) := by omega
    clear h h2 hb hV hbm hb4
    go_enter Try.func19, Try.ntmps19
    go_wp2_with fail
    refine (HE _).mono ?_
    rintro e w2 ⟨rfl, rfl⟩
    go_wp2
    exact bodyPost_ret (v := .tuple #[.int .i64 (X : Int), .int .i64 0]) (by simp [results, Try.results19, go_sem]) rfl ⟨rfl, rfl⟩

theorem rVersion_no (n : Int) (h : n < 7 ∨ 40 < n) (w : World) : Calls Try.prog 23 #[.int .i64 n] w fun e w' => e = .returned (.tuple #[.int .i64 0, .int .i64 14]) ∧ w = w' := by
  by_cases h1 : n < 7
  · clear h
    go_enter Try.func23, Try.ntmps23
    go_wp2
    exact bodyPost_ret (v := .tuple #[.int .i64 0, .int .i64 14]) (by simp [results, Try.results23, go_sem]) rfl ⟨rfl, rfl⟩
  · have h2 : 40 < n := by omega
    clear h
    go_enter Try.func23, Try.ntmps23
    go_wp2
    exact bodyPost_ret (v := .tuple #[.int .i64 0, .int .i64 14]) (by simp [results, Try.results23, go_sem]) rfl ⟨rfl, rfl⟩
theorem rVersion_yes (n : Nat) (h1 : 7 ≤ n) (h2 : n ≤ 40) (w : World) : Calls Try.prog 23 #[.int .i64 (n : Int)] w fun e w' => e = .returned (.tuple #[.int .i64 ((cw 7973 12 6 n : Nat) : Int), .int .i64 0]) ∧ w = w' := by
  have HE := rCodeword_any 6 7973 12 n degV (by omega) (by omega) (by omega)
  go_enter Try.func23, Try.ntmps23
  go_wp2_with fail
  refine (HE _).mono ?_
  rintro e w1 ⟨rfl, rfl⟩
  go_wp2
  exact bodyPost_ret (v := .tuple #[.int .i64 ((cw 7973 12 6 n : Nat) : Int), .int .i64 0]) (by simp [results, Try.results23, go_sem]) rfl ⟨rfl, rfl⟩

theorem rParseVersion_out (word : Int) (h : word < 0 ∨ 262144 ≤ word) (w : World) : Calls Try.prog 25 #[.int .i64 word] w fun e w' =>
    e = .returned (.tuple #[.int .i64 0, .int .i64 0, .int .i64 3]) ∧ w = w' := by
  by_cases h1 : word < 0
  · clear h
    go_enter Try.func25, Try.ntmps25
    go_wp2
    exact bodyPost_ret (v := .tuple #[.int .i64 0, .int .i64 0, .int .i64 3]) (by simp [results, Try.results25, go_sem]) rfl ⟨rfl, rfl⟩
  · have h2 : 262144 ≤ word := by omega
    clear h
    go_enter Try.func25, Try.ntmps25
    go_wp2
    exact bodyPost_ret (v := .tuple #[.int .i64 0, .int .i64 0, .int .i64 3]) (by simp [results, Try.results25, go_sem]) rfl ⟨rfl, rfl⟩
theorem pvV_no (word v : Nat) (h : v < 7 ∨ 40 < v) : pvV word (some v) = .tuple #[.int .i64 0, .int .i64 0, .int .i64 14] := by
  unfold pvV
  simp only
  rw [if_neg (by omega)]
theorem pvV_yes (word v X T : Nat) (h1 : 7 ≤ v) (h2 : v ≤ 40) (hX : word ^^^ cw 7973 12 6 v = X) (hT : wt X = T) : pvV word (some v) = .tuple #[.int .i64 (v : Int), .int .i64 (T : Int), .int .i64 0] := by
  unfold pvV
  simp only
  rw [if_pos ⟨h1, h2⟩, hX, hT]
set_option maxRecDepth 100000 in
theorem rParseVersion_ok (word : Nat) (hw : word < 262144) (w : World) : Calls Try.prog 25 #[.int .i64 (word : Int)] w fun e w' =>
    e = .returned (pvV word (near 7973 12 6 word 3 64 0)) ∧ w = w' := by
  have HC := fun v (hv : v < 64) => rCodeword_any 6 7973 12 v degV (by omega) (by omega) hv
  have HXC : ∀ v, v < 64 → Go.bits .xor .i64 ((cw 7973 12 6 v : Nat) : Int) (word : Int) = ((word ^^^ cw 7973 12 6 v : Nat) : Int) ∧ word ^^^ cw 7973 12 6 v < 1073741824 := by
    intro v hvk
    have hc := cw_lt degV 6 v hvk
    rw [i64_xor _ _ 18 hc hw (by omega), Nat.xor_comm]
    exact ⟨rfl, Nat.lt_of_lt_of_le (Nat.xor_lt_two_pow hw hc) (by decide)⟩
  obtain ⟨R, hR⟩ : ∃ R, near 7973 12 6 word 3 64 0 = R := ⟨_, rfl⟩
  have HR := Lib.hid hR
  rw [hR]
  clear hR
  obtain ⟨N, hN⟩ : ∃ N : Nat, 64 = N := ⟨_, rfl⟩
  have hNI : (N : Int) = 64 := by omega
  rw [hN] at HC HXC HR
  clear hN
  go_enter Try.func25, Try.ntmps25
  go_wp2_with fail
  go_loop [5] (fun y => ∃ n : Nat, y = .int .i64 (n : Int) ∧ n ≤ N ∧ Hid (near 7973 12 6 word 3 (N - n) n = R)) (fun y => N - (intOf y).toNat)
  case atStart => exact ⟨0, rfl, by omega, Lib.hid HR.out⟩
  case round =>
    obtain ⟨n, rfl, hn, hm⟩ := hrel
    by_cases hlt : n < N
    · have HCn := HC n hlt
      have hlt64 : (n : Int) < 64 := by omega
      obtain ⟨hx, hx30⟩ := HXC n hlt
      have h2 : Hid ((wt (word ^^^ cw 7973 12 6 n) ≤ 3 → R = some n) ∧ (3 < wt (word ^^^ cw 7973 12 6 n) → near 7973 12 6 word 3 (N - (n + 1)) (n + 1) = R)) := by
        have h1 := hm.out
        rw [show N - n = (N - (n + 1)) + 1 by omega] at h1
        refine Lib.hid ⟨fun h => ?_, fun h => ?_⟩
        · rw [near_hit h] at h1; exact h1.symm
        · rw [near_miss h] at h1; exact h1
      obtain ⟨X, hX⟩ : ∃ X, word ^^^ cw 7973 12 6 n = X := ⟨_, rfl⟩
      have HX := Lib.hid hX
      rw [hX] at hx hx30 h2
      clear HC HXC hX hm
      obtain ⟨C, hC⟩ : ∃ C, cw 7973 12 6 n = C := ⟨_, rfl⟩
      rw [hC] at HCn hx
      clear hC
      obtain ⟨T, hT⟩ : ∃ T, wt X = T := ⟨_, rfl⟩
      have HW := rWeight_any X (by omega)
      have HT := Lib.hid hT
      rw [hT] at HW h2
      clear hT
      go_wp2_with fail
      refine (HCn _).mono ?_
      rintro e w1 ⟨rfl, rfl⟩
      go_wp2_with fail
      refine (HW _).mono ?_
      rintro e w1 ⟨rfl, rfl⟩
      by_cases hTL : T ≤ 3
      · have HE := Lib.hid (h2.out.1 hTL)
        have hTL2 : (T : Int) ≤ 3 := by omega
        by_cases h7 : n < 7
        · have h7i : (n : Int) < 7 := by omega
          go_wp2
          exact bodyPost_ret (v := .tuple #[.int .i64 0, .int .i64 0, .int .i64 14]) (by simp [results, Try.results25, go_sem]) rfl ⟨by rw [HE.out, pvV_no _ _ (by omega)], rfl⟩
        · have h7i : ¬ (n : Int) < 7 := by omega
          by_cases h40 : 40 < n
          · have h40i : 40 < (n : Int) := by omega
            go_wp2
            exact bodyPost_ret (v := .tuple #[.int .i64 0, .int .i64 0, .int .i64 14]) (by simp [results, Try.results25, go_sem]) rfl ⟨by rw [HE.out, pvV_no _ _ (by omega)], rfl⟩
          · have h40i : (n : Int) ≤ 40 := by omega
            have HF := Lib.hid (pvV_yes word n X T (by omega) (by omega) HX.out HT.out)
            rw [← HE.out] at HF
            clear h40 h7 HE h2 hlt hn
            generalize (n : Int) = z at *
            clear hlt64 hTL HW HCn hx hx30
            generalize (T : Int) = t at *
            have hd1 : decide (z < 7) = false := decide_eq_false h7i
            have hd2 : decide (40 < z) = false := decide_eq_false (by omega)
            have hd3 : decide (t ≤ 3) = true := decide_eq_true hTL2
            clear h7i h40i hTL2
            go_wp2
            exact bodyPost_ret (v := .tuple #[.int .i64 z, .int .i64 t, .int .i64 0]) (by simp [results, Try.results25, go_sem]) rfl ⟨by rw [HF.out], rfl⟩
      · have HE := Lib.hid (h2.out.2 (by omega))
        have hTL2 : decide ((T : Int) ≤ 3) = false := decide_eq_false (by omega)
        clear hTL HW HCn hx hx30 h2
        generalize (T : Int) = t at *
        go_wp2
        go_round
        case rel => exact ⟨n + 1, by go_num, hlt, HE⟩
        case measure => simp [intOf]; omega
    · obtain rfl : n = N := by omega
      have HE : Hid (R = none) := Lib.hid (by rw [← hm.out, Nat.sub_self]; rfl)
      clear hm HC HXC
      go_wp2
      exact bodyPost_ret (v := .tuple #[.int .i64 0, .int .i64 0, .int .i64 21]) (by simp [results, Try.results25, go_sem]) rfl ⟨by rw [HE.out]; rfl, rfl⟩
end Go.Proofs.Ytnkoenohngkcmaa
