/- Contracts of the CRC-32: the table, the feeding of bytes, the specification. -/
import Derived.Test.YtkpnihapcoiepaaW2
import Derived.Laws.Tables
namespace Go.Proofs.Ytkpnihapcoiepaa
open Go.RowKit

def tv32 (i : Nat) : Value := .int .u32 ((sts st 4 (BitVec.ofNat 32 i)).toNat : Int)
def tk32 (k i : Nat) : Value := if i < k then tv32 i else .int .u32 0
def tab32 (k : Nat) : Array Value := #[tk32 k 0, tk32 k 1, tk32 k 2, tk32 k 3, tk32 k 4, tk32 k 5, tk32 k 6, tk32 k 7, tk32 k 8, tk32 k 9, tk32 k 10, tk32 k 11, tk32 k 12, tk32 k 13, tk32 k 14, tk32 k 15]
theorem tab32_zero : tab32 0 = #[.int .u32 0, .int .u32 0, .int .u32 0, .int .u32 0, .int .u32 0, .int .u32 0, .int .u32 0, .int .u32 0, .int .u32 0, .int .u32 0, .int .u32 0, .int .u32 0, .int .u32 0, .int .u32 0, .int .u32 0, .int .u32 0] := rfl
theorem toNat_small (k : Nat) (h : k < 16) : (k : Int) = ((BitVec.ofNat 32 k).toNat : Int) := by
  rw [BitVec.toNat_ofNat, Nat.mod_eq_of_lt (by omega)]

theorem tab32_set (k : Nat) (h : k < 16) : (tab32 k).setIfInBounds k (tv32 k) = tab32 (k + 1) := by
  have : k = 0 ∨ k = 1 ∨ k = 2 ∨ k = 3 ∨ k = 4 ∨ k = 5 ∨ k = 6 ∨ k = 7 ∨ k = 8 ∨ k = 9 ∨ k = 10 ∨ k = 11 ∨ k = 12 ∨ k = 13 ∨ k = 14 ∨ k = 15 := by omega
  rcases this with rfl | rfl | rfl | rfl | rfl | rfl | rfl | rfl | rfl | rfl | rfl | rfl | rfl | rfl | rfl | rfl <;> rfl
theorem tab32_at (k : Nat) (h : k < 16) : (tab32 k)[k]? = some (.int .u32 0) := by
  have : k = 0 ∨ k = 1 ∨ k = 2 ∨ k = 3 ∨ k = 4 ∨ k = 5 ∨ k = 6 ∨ k = 7 ∨ k = 8 ∨ k = 9 ∨ k = 10 ∨ k = 11 ∨ k = 12 ∨ k = 13 ∨ k = 14 ∨ k = 15 := by omega
  rcases this with rfl | rfl | rfl | rfl | rfl | rfl | rfl | rfl | rfl | rfl | rfl | rfl | rfl | rfl | rfl | rfl <;> rfl
theorem tab32_get (k : Nat) (h : k < 16) : (tab32 16)[k]? = some (tv32 k) := by
  have : k = 0 ∨ k = 1 ∨ k = 2 ∨ k = 3 ∨ k = 4 ∨ k = 5 ∨ k = 6 ∨ k = 7 ∨ k = 8 ∨ k = 9 ∨ k = 10 ∨ k = 11 ∨ k = 12 ∨ k = 13 ∨ k = 14 ∨ k = 15 := by omega
  rcases this with rfl | rfl | rfl | rfl | rfl | rfl | rfl | rfl | rfl | rfl | rfl | rfl | rfl | rfl | rfl | rfl <;> rfl
theorem tk32_one (k i : Nat) : (tk32 k i).oneCell' = true := by
  unfold tk32; split <;> rfl
theorem tab32_one : (tab32 16).all (·.oneCell') = true := by simp [tab32, tk32_one]
theorem tab32_size (k : Nat) : (tab32 k).size = 16 := rfl
theorem arr32 : (Try.prog.info? 58).map (·.size) = some 16 := by kernel_rfl

set_option maxRecDepth 100000 in
theorem table32_any (w : World) : Calls Try.prog 36 #[] w fun e w' => e = .returned (.agg (tab32 16)) ∧ Below w.heap.size w w' := by
  go_enter Try.func36, Try.ntmps36
  go_wp2
  go_loopw [4] (fun i wr => ∃ k : Nat, k ≤ 16 ∧ i = .int .i64 k ∧ wr.heap[w.heap.size]? = some (.cells (tab32 0) 58 (0, 0)) ∧ wr.heap[w.heap.size + 1]? = some (.cells (tab32 k) 58 (0, 0)) ∧ Below w.heap.size w wr) (fun i _ => 16 - (intOf i).toNat)
  case atStart => exact ⟨0, by omega, rfl, heap_alloc2_old _ _ _, heap_alloc2_new _ _ _, (below_new _ _).alloc (by simp) _⟩
  case round =>
    obtain ⟨k, hk, rfl, h0, h1, hbel⟩ := hrel
    by_cases hlt : k < 16
    · have HK := Lib.hid (toNat_small k hlt)
      have hdk : decide ((k : Int) < 16) = true := by simp; omega
      have H0 := Lib.hid h0
      have H1 := Lib.hid h1
      have hc : wr.cell? ⟨w.heap.size + 1, k, none⟩ = some (.int .u32 0) := by rw [cell_of_row _ _ _ _ _ _ h1, tab32_at k hlt]
      have hf : wr.frozen? ⟨w.heap.size + 1, k, none⟩ = false := frozen_of_row _ _ _ _ _ h1
      clear h0 h1
      go_wp2
      go_loop [3, 9] (fun a t => ∃ j : Nat, j ≤ 4 ∧ t = .int .i64 j ∧ a = .int .u32 ((sts st j (BitVec.ofNat 32 k)).toNat : Int)) (fun _ t => 4 - (intOf t).toNat)
      case atStart => exact ⟨0, by omega, rfl, valI HK.out⟩
      case round =>
        obtain ⟨j, hj, rfl, rfl⟩ := hrel
        by_cases hlt' : j < 4
        · go_wp2_with fail
          refine (step32_any _ _).mono ?_
          rintro e w' ⟨rfl, rfl⟩
          go_wp2_with fail
          go_round
          case rel => exact ⟨j + 1, by omega, by go_num, rfl⟩
          case measure => simp [intOf]; omega
        · obtain rfl : j = 4 := by omega
          go_wp2
          go_roundw
          case rel =>
            refine ⟨k + 1, by omega, by go_num, ?_, ?_, hbel.setCell (by simp) _⟩
            · rw [heap_setCell_other _ _ _ _ (by simp)]; exact H0.out
            · rw [heap_setCell_same _ _ _ _ _ _ H1.out]
              exact congrArg (fun c => some (Obj.cells c 58 (0, 0))) (tab32_set k hlt)
          case measure => simp [intOf]; omega
    · obtain rfl : k = 16 := by omega
      go_wp2_with (first
        | (refine wpList_load_row rfl 58 (.tmp 1) (by rfl) _ (by rfl) 58 (tab32 16) (0, 0) _ h1 Try.underlying58 rfl arr32 ?_)
        | (refine wpList_store_row rfl 58 (.tmp 0) (.tmp 18) (by rfl) _ (tab32 16) (by rfl) (by rfl) 58 _ h0 arr32 rfl tab32_one ?_))
      exact bodyPost_ret (results_cell_row rfl _ _ _ 58 (tab32 16) (0, 0) _ rfl (setRow_heap _ _ _ _ _ _ h0) Try.underlying58 rfl arr32) rfl ⟨rfl, below_setRow hbel (Nat.le_refl _) _⟩

/-- the table of a call that was made: a block -/
def Tab32 (w : World) (g : Nat) : Prop := w.heap[g]? = some (.cells (tab32 16) 58 (0, 0))
theorem Tab32.at_ {w : World} {g : Nat} (h : Tab32 w g) {k : Nat} (hk : k < 16) : w.cell? ⟨g, k, none⟩ = some (tv32 k) := by
  rw [cell_of_row _ _ _ _ _ _ h, tab32_get k hk]
end Go.Proofs.Ytkpnihapcoiepaa
