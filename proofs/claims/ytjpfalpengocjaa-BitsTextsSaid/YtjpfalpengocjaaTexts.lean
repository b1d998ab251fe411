/- BitsTexts returns true for every two bit strings and every string. -/
import Derived.Test.YtjpfalpengocjaaWd
set_option linter.unusedVariables false
namespace Go.Proofs.Ytjpfalpengocjaa
open Go.RowKit

theorem law_texts (A : Option Addr) (n c : Nat) (l : List Bool) (A' : Option Addr) (n' c' : Nat) (l' : List Bool) (s : ByteArray) (w : World) (hs : Sl w w.heap.size A n c (bl l)) (hs' : Sl w w.heap.size A' n' c' (bl l')) (hsm : s.size ≤ maxLen) :
    Calls Try.prog 5 #[.slice A n c, .slice A' n' c', .string s] w fun e w' => e = .returned (.bool true) ∧ Below w.heap.size w w' := by
  have hmax := hs.max
  have hle := hs.le
  have hmax' := hs'.max
  have hle' := hs'.le
  unfold maxLen at hmax hmax' hsm
  have halive : ∀ (h : 2000 < n ∨ 2000 < n' ∨ 2000 < s.size), Calls Try.prog 5 #[.slice A n c, .slice A' n' c', .string s] w fun e w' => e = .returned (.bool true) ∧ Below w.heap.size w w' := by
    intro h
    by_cases h1 : 2000 < n
    · go_enter Try.func5, Try.ntmps5
      go_wp2_with fail
      refine (alive_any _).mono ?_
      rintro e w2 ⟨rfl, hb2⟩
      go_wp2
      go_ret
      exact ⟨rfl, hb2⟩
    by_cases h2 : 2000 < n'
    · go_enter Try.func5, Try.ntmps5
      go_wp2_with fail
      refine (alive_any _).mono ?_
      rintro e w2 ⟨rfl, hb2⟩
      go_wp2
      go_ret
      exact ⟨rfl, hb2⟩
    · have h3 : 2000 < s.size := by omega
      go_enter Try.func5, Try.ntmps5
      go_wp2_with fail
      refine (alive_any _).mono ?_
      rintro e w2 ⟨rfl, hb2⟩
      go_wp2
      go_ret
      exact ⟨rfl, hb2⟩
  by_cases h0 : 2000 < n ∨ 2000 < n' ∨ 2000 < s.size
  · exact halive h0
  clear halive
  have h1 : n ≤ 2000 := by omega
  have h2 : n' ≤ 2000 := by omega
  have h3 : s.size ≤ 2000 := by omega
  obtain ⟨r, hr⟩ : ∃ r, r = parseS s := ⟨_, rfl⟩
  obtain ⟨q, hq⟩ : ∃ q, q = distS l l' := ⟨_, rfl⟩
  obtain ⟨t, ht⟩ : ∃ t, t = str (chs l) := ⟨_, rfl⟩
  have HR := Lib.hid hr
  have HQ := Lib.hid hq
  have HT := Lib.hid ht
  clear hr hq ht h0
  go_enter Try.func5, Try.ntmps5
  go_wp2_with fail
  refine (parse_any s _ (by omega)).mono ?_
  rw [← HR.out]
  rintro e w2 ⟨A2, c2, rfl, hs2, hB⟩
  replace hs := hs.next hB
  replace hs' := hs'.next hB
  go_wp2_with fail
  refine (rParse_any s _ (by omega)).mono ?_
  rw [← HR.out]
  rintro e w3 ⟨A3, c3, rfl, hs3, hb3⟩
  replace hs := hs.next hb3
  replace hs' := hs'.next hb3
  replace hs2 := hs2.next hb3
  replace hB := below_step hB hb3
  clear hb3
  go_wp2_with fail
  refine (distance_any _ _ _ _ _ _ l l' _ hs hs').mono ?_
  rw [← HQ.out]
  rintro e w4 ⟨rfl, hb3⟩
  replace hs := hs.next hb3
  replace hs' := hs'.next hb3
  replace hs2 := hs2.next hb3
  replace hs3 := hs3.next hb3
  replace hB := below_step hB hb3
  clear hb3
  go_wp2_with fail
  refine (rDistance_any _ _ _ _ _ _ l l' _ hs hs').mono ?_
  rw [← HQ.out]
  rintro e w5 ⟨rfl, hb3⟩
  replace hs := hs.next hb3
  replace hs' := hs'.next hb3
  replace hs2 := hs2.next hb3
  replace hs3 := hs3.next hb3
  replace hB := below_step hB hb3
  clear hb3
  go_wp2_with fail
  refine (format_any _ _ _ l _ hs (by omega)).mono ?_
  rw [← HT.out]
  rintro e w6 ⟨rfl, hb3⟩
  replace hs := hs.next hb3
  replace hs' := hs'.next hb3
  replace hs2 := hs2.next hb3
  replace hs3 := hs3.next hb3
  replace hB := below_step hB hb3
  clear hb3
  go_wp2_with fail
  refine (rFormat_any _ _ _ l _ hs (by omega)).mono ?_
  rw [← HT.out]
  rintro e w7 ⟨rfl, hb3⟩
  replace hs := hs.next hb3
  replace hs' := hs'.next hb3
  replace hs2 := hs2.next hb3
  replace hs3 := hs3.next hb3
  replace hB := below_step hB hb3
  clear hb3
  go_wp2_with fail
  refine (same_any _ _ _ _ _ _ r.1 r.1 _ (by rw [length_bl] at hs2; rw [length_bl]; exact hs2) (by rw [length_bl] at hs3; rw [length_bl]; exact hs3)).mono ?_
  rw [beq_self_eq_true r.1]
  rintro e w8 ⟨rfl, hb3⟩
  replace hs := hs.next hb3
  replace hs' := hs'.next hb3
  replace hB := below_step hB hb3
  clear hb3 hs2 hs3
  go_wp2_with fail
  refine (weight_any _ _ _ _ l _ hs).mono ?_
  rintro e w' ⟨rfl, rfl⟩
  go_wp2_with fail
  refine (rWeight_any _ _ _ _ l _ hs).mono ?_
  rintro e w' ⟨rfl, rfl⟩
  go_wp2_with fail
  refine (alive_any _).mono ?_
  rintro e w9 ⟨rfl, hb5⟩
  go_wp2
  go_ret
  exact ⟨rfl, below_step hB hb5⟩
end Go.Proofs.Ytjpfalpengocjaa
