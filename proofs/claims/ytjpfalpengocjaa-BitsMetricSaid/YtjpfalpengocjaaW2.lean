/- Contracts of package bits: what appends. -/
import Derived.Test.YtjpfalpengocjaaW1
namespace Go.Proofs.Ytjpfalpengocjaa
open Go.RowKit

theorem boolInfo : (Try.prog.info? 4).map (fun i => (i.zero, i.size, i.bytes)) = some (some (.bool false), 1, 1) := by kernel_rfl

/-- what the append of one element leaves -/
theorem appendLow_any (base : Nat) (v0 : Value) (n : Nat) (xs : List Value) (x : Int) (k : Nat) (w : World) (hown : w.ownsRow base 4 1 v0 n xs) (hb : base ≤ w.heap.size)
    (hk : k ≤ 62) (hn : n ≤ 70368744177664) :
    Calls Try.prog 38 #[v0, .int .i64 x, .int .i64 k] w fun e w' =>
      ∃ v, e = .returned v ∧ w'.ownsRow base 4 1 v (n + k) (xs ++ bl (lowI x k)) ∧ Below base w w' := by
  obtain ⟨i0, hi, hz0, hz1, hz2⟩ := info_parts boolInfo
  go_enter Try.func38, Try.ntmps38
  go_wp2
  go_loopw [0, 7] (fun v i wr => ∃ j : Nat, j ≤ k ∧ i = .int .i64 ((k : Int) - 1 - j) ∧ wr.ownsRow base 4 1 v (n + j) (xs ++ bl ((lowI x k).take j)) ∧ Below base w wr)
    (fun _ i _ => (intOf i + 1).toNat)
  case atStart => exact ⟨0, Nat.zero_le _, by simp, by simpa [bl] using hown, Below.refl _ _⟩
  case round =>
    obtain ⟨j, hj, rfl, hownr, hbel⟩ := hrel
    by_cases hlt : j < k
    · have hsz := hbel.size
      go_wp2_with (at_builtin; refine wpList_append_own _ rfl _ _ 22 rfl base 4 i0 (.bool false) 1 1 Try.underlying22 hi hz0 hz1 hz2 rfl (by decide) _ _ _ rfl (hownr.alloc _) ⟨wr.heap.size, 0, none⟩ 1 1 [.bool (bits BinOp.and IntKind.i64 (x / 2 ^ (k - 1 - j)) 1 == 1)] rfl rfl ?c1 ?c2 ?c3 ?c4 ?c5 ?_)
      case c1 => exact one_cell_news _
      case c2 => intro u hu; simp at hu; subst hu; rfl
      case c3 => unfold maxLen; omega
      case c4 => omega
      case c5 => simp; omega
      intro v' w1 hown' hgrow _
      have hbel' := below_app hbel hownr hgrow (by omega)
      have hown2 : w1.ownsRow base 4 1 v' (n + (j + 1)) (xs ++ bl ((lowI x k).take (j + 1))) := by
        rw [take_lowI x k j hlt, ← and_bit]
        simpa [bl, Nat.add_assoc] using hown'
      clear hown' hgrow hownr hbel
      go_wp2
      go_roundw
      case rel => exact ⟨j + 1, by omega, by congr 1; omega, hown2, hbel'⟩
      case measure => simp [intOf]; omega
    · obtain rfl : j = k := by omega
      go_wp2
      go_ret
      exact ⟨_, rfl, by rw [List.take_of_length_le (by rw [length_lowI]; omega)] at hownr; exact hownr, hbel⟩
end Go.Proofs.Ytjpfalpengocjaa
