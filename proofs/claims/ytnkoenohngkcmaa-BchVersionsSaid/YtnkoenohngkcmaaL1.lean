/- BchEncodes, BchDecodes, BchFormats and BchVersions return true for every argument. No condition. -/
import Derived.Test.YtnkoenohngkcmaaWc
set_option linter.unusedVariables false
namespace Go.Proofs.Ytnkoenohngkcmaa
open Go.RowKit

theorem encode_pair (v k gen : Int) : ∃ a e : Int, (∀ w, Calls Try.prog 11 #[.int .i64 v, .int .i64 k, .int .i64 gen] w fun r w' => r = .returned (.tuple #[.int .i64 a, .int .i64 e]) ∧ Below w.heap.size w w') ∧
    (∀ w, Calls Try.prog 12 #[.int .i64 v, .int .i64 k, .int .i64 gen] w fun r w' => r = .returned (.tuple #[.int .i64 a, .int .i64 e]) ∧ w = w') := by
  by_cases h : OkC k gen
  · obtain ⟨k', g, d, rfl, rfl, hk1, hk, hd, hd1, hd18⟩ := ok_nat h
    by_cases hv : v < 0 ∨ ((2 ^ k' : Nat) : Int) ≤ v
    · exact ⟨0, 3, fun w => encode_out v k' g h hv w, fun w => rEncode_out v k' g h hv w⟩
    · obtain ⟨u, rfl⟩ : ∃ u : Nat, v = u := ⟨v.toNat, by omega⟩
      have hu : u < 2 ^ k' := by omega
      exact ⟨_, 0, fun w => encode_ok u k' g d h hd hd18 hu w, fun w => rEncode_ok u k' g d h hd hd18 hu w⟩
  · exact ⟨0, 1, fun w => encode_bad v k gen h w, fun w => rEncode_bad v k gen h w⟩
theorem distance_pair (k gen : Int) : ∃ a e : Int, (∀ w, Calls Try.prog 13 #[.int .i64 k, .int .i64 gen] w fun r w' => r = .returned (.tuple #[.int .i64 a, .int .i64 e]) ∧ Below w.heap.size w w') ∧
    (∀ w, Calls Try.prog 14 #[.int .i64 k, .int .i64 gen] w fun r w' => r = .returned (.tuple #[.int .i64 a, .int .i64 e]) ∧ w = w') := by
  by_cases h : OkC k gen
  · obtain ⟨k', g, d, rfl, rfl, hk1, hk, hd, hd1, hd18⟩ := ok_nat h
    exact ⟨_, 0, fun w => distanceE_ok k' g d h hd hd18 w, fun w => rDistance_ok k' g d h hd hd18 w⟩
  · exact ⟨0, 1, fun w => distanceE_bad k gen h w, fun w => rDistance_bad k gen h w⟩
theorem decode_pair (word k gen : Int) : ∃ a b e : Int, (∀ w, Calls Try.prog 16 #[.int .i64 word, .int .i64 k, .int .i64 gen] w fun r w' => r = .returned (.tuple #[.int .i64 a, .int .i64 b, .int .i64 e]) ∧ Below w.heap.size w w') ∧
    (∀ w, Calls Try.prog 17 #[.int .i64 word, .int .i64 k, .int .i64 gen] w fun r w' => r = .returned (.tuple #[.int .i64 a, .int .i64 b, .int .i64 e]) ∧ w = w') := by
  by_cases h : OkC k gen
  · obtain ⟨k', g, d, rfl, rfl, hk1, hk, hd, hd1, hd18⟩ := ok_nat h
    by_cases hv : word < 0 ∨ ((2 ^ (k' + d) : Nat) : Int) ≤ word
    · exact ⟨0, 0, 3, fun w => decode_out word k' g d h hd hd18 hv w, fun w => rDecode_out word k' g d h hd hd18 hv w⟩
    · obtain ⟨u, rfl⟩ : ∃ u : Nat, word = u := ⟨word.toNat, by omega⟩
      have hu : u < 2 ^ (k' + d) := by omega
      have H1 := fun w => decode_ok u k' g d h hd hd18 hd1 hu w
      have H2 := fun w => rDecode_ok u k' g d h hd hd18 hu w
      generalize near g d k' u ((dist g d k' - 1) / 2) (2 ^ k') 0 = R at H1 H2
      cases R with
      | none => exact ⟨0, 0, 17, H1, H2⟩
      | some v => exact ⟨_, _, 0, H1, H2⟩
  · exact ⟨0, 0, 1, fun w => decode_bad word k gen h w, fun w => rDecode_bad word k gen h w⟩
theorem format_pair (level mask : Int) : ∃ a e : Int, (∀ w, Calls Try.prog 18 #[.int .i64 level, .int .i64 mask] w fun r w' => r = .returned (.tuple #[.int .i64 a, .int .i64 e]) ∧ Below w.heap.size w w') ∧
    (∀ w, Calls Try.prog 19 #[.int .i64 level, .int .i64 mask] w fun r w' => r = .returned (.tuple #[.int .i64 a, .int .i64 e]) ∧ w = w') := by
  have hl : lvI level = -1 ∨ ∃ b : Nat, b < 4 ∧ lvI level = (b : Int) := by
    rcases lvI_cases level with ⟨_, h⟩ | ⟨_, h⟩ | ⟨_, h⟩ | ⟨_, h⟩ | ⟨_, _, _, _, h⟩
    · exact Or.inr ⟨1, by omega, h⟩
    · exact Or.inr ⟨0, by omega, h⟩
    · exact Or.inr ⟨3, by omega, h⟩
    · exact Or.inr ⟨2, by omega, h⟩
    · exact Or.inl h
  rcases hl with hl | ⟨b, hb, hl⟩
  · exact ⟨0, 15, fun w => format_level level mask hl w, fun w => rFormat_level level mask hl w⟩
  · by_cases hm : mask < 0 ∨ 8 ≤ mask
    · exact ⟨0, 3, fun w => format_mask level mask b hl hm w, fun w => rFormat_mask level mask b hl hm w⟩
    · obtain ⟨m, rfl⟩ : ∃ m : Nat, mask = m := ⟨mask.toNat, by omega⟩
      have hm8 : m < 8 := by omega
      exact ⟨_, 0, fun w => format_ok level m b hl hb hm8 w, fun w => rFormat_ok level m b hl hb hm8 w⟩
theorem version_pair (n : Int) : ∃ a e : Int, (∀ w, Calls Try.prog 22 #[.int .i64 n] w fun r w' => r = .returned (.tuple #[.int .i64 a, .int .i64 e]) ∧ Below w.heap.size w w') ∧
    (∀ w, Calls Try.prog 23 #[.int .i64 n] w fun r w' => r = .returned (.tuple #[.int .i64 a, .int .i64 e]) ∧ w = w') := by
  by_cases hm : n < 7 ∨ 40 < n
  · exact ⟨0, 14, fun w => version_no n hm w, fun w => rVersion_no n hm w⟩
  · obtain ⟨m, rfl⟩ : ∃ m : Nat, n = m := ⟨n.toNat, by omega⟩
    have h1 : 7 ≤ m := by omega
    have h2 : m ≤ 40 := by omega
    exact ⟨_, 0, fun w => version_yes m h1 h2 w, fun w => rVersion_yes m h1 h2 w⟩
theorem parseFormat_pair (word : Int) (hb : -9223372036854775808 ≤ word ∧ word ≤ 9223372036854775807) : ∃ l m n e : Int, (∀ w, Calls Try.prog 20 #[.int .i64 word] w fun r w' => r = .returned (.tuple #[.int .i64 l, .int .i64 m, .int .i64 n, .int .i64 e]) ∧ Below w.heap.size w w') ∧
    (∀ w, Calls Try.prog 21 #[.int .i64 word] w fun r w' => r = .returned (.tuple #[.int .i64 l, .int .i64 m, .int .i64 n, .int .i64 e]) ∧ w = w') := by
  by_cases hm : word < 0 ∨ 32768 ≤ word
  · exact ⟨0, 0, 0, 3, fun w => parseFormat_out word hb.1 hb.2 hm w, fun w => rParseFormat_out word hm w⟩
  · obtain ⟨m, rfl⟩ : ∃ m : Nat, word = m := ⟨word.toNat, by omega⟩
    have h1 : m < 32768 := by omega
    have H1 := fun w => parseFormat_ok m h1 w
    have H2 := fun w => rParseFormat_ok m h1 w
    rw [parse_same m] at H2
    generalize near 1335 10 5 (m ^^^ 21522) 3 32 0 = R at H1 H2
    cases R with
    | none => exact ⟨0, 0, 0, 21, H1, H2⟩
    | some v => exact ⟨_, _, _, 0, H1, H2⟩
theorem parseVersion_pair (word : Int) : ∃ m n e : Int, (∀ w, Calls Try.prog 24 #[.int .i64 word] w fun r w' => r = .returned (.tuple #[.int .i64 m, .int .i64 n, .int .i64 e]) ∧ Below w.heap.size w w') ∧
    (∀ w, Calls Try.prog 25 #[.int .i64 word] w fun r w' => r = .returned (.tuple #[.int .i64 m, .int .i64 n, .int .i64 e]) ∧ w = w') := by
  by_cases hm : word < 0 ∨ 262144 ≤ word
  · exact ⟨0, 0, 3, fun w => parseVersion_out word hm w, fun w => rParseVersion_out word hm w⟩
  · obtain ⟨m, rfl⟩ : ∃ m : Nat, word = m := ⟨word.toNat, by omega⟩
    have h1 : m < 262144 := by omega
    have H1 := fun w => parseVersion_ok m h1 w
    have H2 := fun w => rParseVersion_ok m h1 w
    generalize near 7973 12 6 m 3 64 0 = R at H1 H2
    cases R with
    | none => exact ⟨0, 0, 21, H1, H2⟩
    | some v =>
      by_cases hv : 7 ≤ v ∧ v ≤ 40
      · simp only [pvV] at H1 H2
        rw [if_pos hv] at H1 H2
        exact ⟨_, _, 0, H1, H2⟩
      · simp only [pvV] at H1 H2
        rw [if_neg hv] at H1 H2
        exact ⟨0, 0, 14, H1, H2⟩

set_option maxRecDepth 100000 in
theorem law_encodes (v k gen : Int) (w : World) (hv : -9223372036854775808 ≤ v ∧ v ≤ 9223372036854775807) (hk : -9223372036854775808 ≤ k ∧ k ≤ 9223372036854775807) (hg : -9223372036854775808 ≤ gen ∧ gen ≤ 9223372036854775807) :
    Calls Try.prog 3 #[.int .i64 v, .int .i64 k, .int .i64 gen] w fun e w' => e = .returned (.bool true) ∧ Below w.heap.size w w' := by
  obtain ⟨a, e0, H1, H2⟩ := encode_pair v k gen
  obtain ⟨b, e1, H3, H4⟩ := distance_pair k gen
  clear hv hk hg
  go_enter Try.func3, Try.ntmps3
  go_wp2_with fail
  refine (H1 _).mono ?_
  rintro e w1 ⟨rfl, h1⟩
  go_wp2_with fail
  refine (H2 _).mono ?_
  rintro e w2 ⟨rfl, rfl⟩
  go_wp2_with fail
  refine (H3 _).mono ?_
  rintro e w2 ⟨rfl, h2⟩
  go_wp2_with fail
  refine (H4 _).mono ?_
  rintro e w3 ⟨rfl, rfl⟩
  go_wp2_with fail
  refine (examples_any _).mono ?_
  rintro e w3 ⟨rfl, h3⟩
  go_wp2
  go_ret
  exact ⟨rfl, below_step (below_step h1 h2) h3⟩
set_option maxRecDepth 100000 in
theorem law_decodes (word k gen : Int) (w : World) (hv : -9223372036854775808 ≤ word ∧ word ≤ 9223372036854775807) (hk : -9223372036854775808 ≤ k ∧ k ≤ 9223372036854775807) (hg : -9223372036854775808 ≤ gen ∧ gen ≤ 9223372036854775807) :
    Calls Try.prog 4 #[.int .i64 word, .int .i64 k, .int .i64 gen] w fun e w' => e = .returned (.bool true) ∧ Below w.heap.size w w' := by
  obtain ⟨a, b, e0, H1, H2⟩ := decode_pair word k gen
  clear hv hk hg
  go_enter Try.func4, Try.ntmps4
  go_wp2_with fail
  refine (H1 _).mono ?_
  rintro e w1 ⟨rfl, h1⟩
  go_wp2_with fail
  refine (H2 _).mono ?_
  rintro e w2 ⟨rfl, rfl⟩
  go_wp2_with fail
  refine (examples_any _).mono ?_
  rintro e w3 ⟨rfl, h3⟩
  go_wp2
  go_ret
  exact ⟨rfl, below_step h1 h3⟩
set_option maxRecDepth 100000 in
theorem law_formats (level mask word : Int) (w : World) (hv : -9223372036854775808 ≤ level ∧ level ≤ 9223372036854775807) (hk : -9223372036854775808 ≤ mask ∧ mask ≤ 9223372036854775807) (hg : -9223372036854775808 ≤ word ∧ word ≤ 9223372036854775807) :
    Calls Try.prog 5 #[.int .i64 level, .int .i64 mask, .int .i64 word] w fun e w' => e = .returned (.bool true) ∧ Below w.heap.size w w' := by
  obtain ⟨a, e0, H1, H2⟩ := format_pair level mask
  obtain ⟨l, m, n, e1, H3, H4⟩ := parseFormat_pair word hg
  clear hv hk hg
  go_enter Try.func5, Try.ntmps5
  go_wp2_with fail
  refine (H1 _).mono ?_
  rintro e w1 ⟨rfl, h1⟩
  go_wp2_with fail
  refine (H2 _).mono ?_
  rintro e w2 ⟨rfl, rfl⟩
  go_wp2_with fail
  refine (H3 _).mono ?_
  rintro e w2 ⟨rfl, h2⟩
  go_wp2_with fail
  refine (H4 _).mono ?_
  rintro e w3 ⟨rfl, rfl⟩
  go_wp2_with fail
  refine (examples_any _).mono ?_
  rintro e w3 ⟨rfl, h3⟩
  go_wp2
  go_ret
  exact ⟨rfl, below_step (below_step h1 h2) h3⟩
set_option maxRecDepth 100000 in
theorem law_versions (n word : Int) (w : World) (hv : -9223372036854775808 ≤ n ∧ n ≤ 9223372036854775807) (hg : -9223372036854775808 ≤ word ∧ word ≤ 9223372036854775807) :
    Calls Try.prog 6 #[.int .i64 n, .int .i64 word] w fun e w' => e = .returned (.bool true) ∧ Below w.heap.size w w' := by
  obtain ⟨a, e0, H1, H2⟩ := version_pair n
  obtain ⟨m, z, e1, H3, H4⟩ := parseVersion_pair word
  clear hv hg
  go_enter Try.func6, Try.ntmps6
  go_wp2_with fail
  refine (H1 _).mono ?_
  rintro e w1 ⟨rfl, h1⟩
  go_wp2_with fail
  refine (H2 _).mono ?_
  rintro e w2 ⟨rfl, rfl⟩
  go_wp2_with fail
  refine (H3 _).mono ?_
  rintro e w2 ⟨rfl, h2⟩
  go_wp2_with fail
  refine (H4 _).mono ?_
  rintro e w3 ⟨rfl, rfl⟩
  go_wp2_with fail
  refine (examples_any _).mono ?_
  rintro e w3 ⟨rfl, h3⟩
  go_wp2
  go_ret
  exact ⟨rfl, below_step (below_step h1 h2) h3⟩
end Go.Proofs.Ytnkoenohngkcmaa
