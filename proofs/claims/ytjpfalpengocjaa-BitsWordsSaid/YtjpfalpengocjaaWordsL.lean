/- BitsWords returns true for every case. -/
import Derived.Test.YtjpfalpengocjaaWd
set_option linter.unusedVariables false
namespace Go.Proofs.Ytjpfalpengocjaa
open Go.RowKit

theorem law_words (A : Option Addr) (n c : Nat) (l : List Bool) (A' : Option Addr) (n' c' : Nat) (l' : List Int) (z : Int) (fill : Bool) (w : World) (hs : Sl w w.heap.size A n c (bl l)) (hs' : Sl w w.heap.size A' n' c' (il l')) (_ : ∀ y ∈ l', -9223372036854775808 ≤ y ∧ y ≤ 9223372036854775807)
    (_ : -9223372036854775808 ≤ z ∧ z ≤ 9223372036854775807) :
    Calls Try.prog 6 #[.agg #[.slice A n c, .slice A' n' c', .int .i64 z, .bool fill]] w fun e w' => e = .returned (.bool true) ∧ Below w.heap.size w w' := by
  have hb1 := below_new w (.cells #[.slice A n c, .slice A' n' c', .int .i64 z, .bool fill] 44)
  have hmax := hs.max
  have hle := hs.le
  have hmax' := hs'.max
  have hle' := hs'.le
  unfold maxLen at hmax hmax'
  by_cases h1 : 2000 < n
  · go_enter Try.func6, Try.ntmps6
    go_wp2_with fail
    refine (alive_any _).mono ?_
    rintro e w2 ⟨rfl, hb2⟩
    go_wp2
    go_ret
    exact ⟨rfl, below_step hb1 hb2⟩
  by_cases h2 : 300 < n'
  · go_enter Try.func6, Try.ntmps6
    go_wp2_with fail
    refine (alive_any _).mono ?_
    rintro e w2 ⟨rfl, hb2⟩
    go_wp2
    go_ret
    exact ⟨rfl, below_step hb1 hb2⟩
  have hB := hb1
  replace hs := hs.next hb1
  replace hs' := hs'.next hb1
  obtain ⟨r, hr⟩ : ∃ r, r = wordsS l z fill := ⟨_, rfl⟩
  obtain ⟨q, hq⟩ : ∃ q, q = fromWordsS l' z := ⟨_, rfl⟩
  have HR := Lib.hid hr
  have HQ := Lib.hid hq
  clear hb1 hr hq
  have hcells : ∀ W : World, Below (w.heap.size + 1) (w.alloc (.cells #[.slice A n c, .slice A' n' c', .int .i64 z, .bool fill] 44)) W →
      W.cell? ⟨w.heap.size, 0, none⟩ = some (.slice A n c) ∧ W.cell? ⟨w.heap.size, 1, none⟩ = some (.slice A' n' c') ∧ W.cell? ⟨w.heap.size, 2, none⟩ = some (.int .i64 z) ∧ W.cell? ⟨w.heap.size, 3, none⟩ = some (.bool fill) := by
    intro W hW
    refine ⟨?_, ?_, ?_, ?_⟩
    · rw [hW.cell (p := ⟨w.heap.size, 0, none⟩) (by simp)]; simp
    · rw [hW.cell (p := ⟨w.heap.size, 1, none⟩) (by simp)]; simp
    · rw [hW.cell (p := ⟨w.heap.size, 2, none⟩) (by simp)]; simp
    · rw [hW.cell (p := ⟨w.heap.size, 3, none⟩) (by simp)]; simp
  have HCe := Lib.hid hcells
  clear hcells
  go_enter Try.func6, Try.ntmps6
  go_wp2_with fail
  refine (words_full _ _ _ l z fill _ hs (by omega)).mono ?_
  rw [← HR.out]
  rintro e w2 ⟨A2, c2, rfl, hs2, hb2⟩
  have hC := hb2
  rw [show (w.alloc (.cells #[.slice A n c, .slice A' n' c', .int .i64 z, .bool fill] 44)).heap.size = w.heap.size + 1 by simp] at hC
  obtain ⟨k0, k1, k2, k3⟩ := HCe.out _ hC
  replace hs := hs.next hb2
  replace hs' := hs'.next hb2
  replace hB := below_step hB hb2
  clear hb2
  go_wp2_with fail
  refine (rWords_any _ _ _ l z fill _ hs (by omega)).mono ?_
  rw [← HR.out]
  rintro e w3 ⟨A3, c3, rfl, hs3, hb3⟩
  replace hC := hC.trans (hb3.mono (by have := hC.size; simp at this; omega))
  clear k0 k1 k2 k3
  obtain ⟨k0, k1, k2, k3⟩ := HCe.out _ hC
  replace hs' := hs'.next hb3
  replace hs2 := hs2.next hb3
  replace hB := below_step hB hb3
  clear hb3 hs k0
  go_wp2_with fail
  refine (fromWords_any _ _ _ l' z _ hs').mono ?_
  rw [← HQ.out]
  rintro e w4 ⟨A4, c4, rfl, hs4, hb4⟩
  replace hC := hC.trans (hb4.mono (by have := hC.size; simp at this; omega))
  clear k1 k2 k3
  obtain ⟨k0, k1, k2, k3⟩ := HCe.out _ hC
  replace hs' := hs'.next hb4
  replace hs2 := hs2.next hb4
  replace hs3 := hs3.next hb4
  replace hB := below_step hB hb4
  clear hb4 k0
  go_wp2_with fail
  refine (rFromWords_any _ _ _ l' z _ hs').mono ?_
  rw [← HQ.out]
  rintro e w5 ⟨A5, c5, rfl, hs5, hb5⟩
  replace hs2 := hs2.next hb5
  replace hs3 := hs3.next hb5
  replace hs4 := hs4.next hb5
  replace hB := below_step hB hb5
  clear hb5 hs' hC k1 k2 k3
  have en : nl r.1 = il (r.1.map fun (x : Nat) => (x : Int)) := by simp [nl, il]
  rw [length_nl] at hs2 hs3
  go_wp2_with fail
  refine (ints_any _ _ _ _ _ _ (r.1.map fun (x : Nat) => (x : Int)) (r.1.map fun (x : Nat) => (x : Int)) _ (by rw [← en, length_nl]; exact hs2) (by rw [← en, length_nl]; exact hs3)).mono ?_
  rw [beq_self_eq_true (r.1.map fun (x : Nat) => (x : Int))]
  rintro e w6 ⟨rfl, hb6⟩
  replace hs4 := hs4.next hb6
  replace hs5 := hs5.next hb6
  replace hB := below_step hB hb6
  clear hb6 hs2 hs3 en
  go_wp2_with fail
  refine (same_any _ _ _ _ _ _ q.1 q.1 _ (by rw [length_bl] at hs4; rw [length_bl]; exact hs4) (by rw [length_bl] at hs5; rw [length_bl]; exact hs5)).mono ?_
  rw [beq_self_eq_true q.1]
  rintro e w7 ⟨rfl, hb7⟩
  replace hB := below_step hB hb7
  clear hb7 hs4 hs5
  go_wp2_with fail
  refine (alive_any _).mono ?_
  rintro e w8 ⟨rfl, hb8⟩
  go_wp2
  go_ret
  exact ⟨rfl, below_step hB hb8⟩
end Go.Proofs.Ytjpfalpengocjaa
