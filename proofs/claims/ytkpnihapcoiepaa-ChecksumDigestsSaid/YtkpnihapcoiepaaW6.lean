/- Contracts of the CRC-16. -/
import Derived.Test.YtkpnihapcoiepaaW5
namespace Go.Proofs.Ytkpnihapcoiepaa
open Go.RowKit

theorem xor16 (x y : BitVec 16) : Go.bits .xor .u16 (x.toNat : Int) (y.toNat : Int) = ((x ^^^ y).toNat : Int) := by
  rw [u16_xor_nat _ _ x.isLt y.isLt, BitVec.toNat_xor]
theorem top16 (x : BitVec 16) : ((x.toNat : Int) / (32768 : Int) == 1) = x.getLsbD 15 := by
  have hx := x.isLt
  rw [BitVec.getLsbD, Nat.testBit_eq_decide_div_mod_eq]
  by_cases h : x.toNat / 32768 = 1
  · have h1 : (x.toNat : Int) / 32768 = 1 := by omega
    have h2 : x.toNat / 2 ^ 15 % 2 = 1 := by omega
    simp only [h1, h2]
    rfl
  · have h1 : (x.toNat : Int) / 32768 = 0 := by omega
    have h2 : x.toNat / 2 ^ 15 % 2 = 0 := by omega
    simp only [h1, h2]
    rfl
theorem geq16 (x : BitVec 16) : decide ((32768 : Int) ≤ (x.toNat : Int)) = x.getLsbD 15 := by
  have hx := x.isLt
  rw [BitVec.getLsbD, Nat.testBit_eq_decide_div_mod_eq]
  by_cases h : 32768 ≤ x.toNat
  · have h1 : (32768 : Int) ≤ (x.toNat : Int) := by omega
    have h2 : x.toNat / 2 ^ 15 % 2 = 1 := by omega
    simp only [h1, h2]
  · have h1 : ¬ (32768 : Int) ≤ (x.toNat : Int) := by omega
    have h2 : x.toNat / 2 ^ 15 % 2 = 0 := by omega
    simp only [h1, h2]
    rfl
theorem shl16_1 (x : BitVec 16) : (x.toNat : Int) * (2 : Int) % (65536 : Int) = ((x <<< 1).toNat : Int) := by
  rw [BitVec.toNat_shiftLeft, Nat.shiftLeft_eq]; omega
theorem shl16_4 (x : BitVec 16) : (x.toNat : Int) * (16 : Int) % (65536 : Int) = ((x <<< 4).toNat : Int) := by
  rw [BitVec.toNat_shiftLeft, Nat.shiftLeft_eq]; omega
theorem su_lo (x : BitVec 16) (h : x.getLsbD 15 = false) : (x.toNat : Int) * 2 % 65536 = ((su x).toNat : Int) := by rw [su_low x h, shl16_1]
theorem su_hi (x : BitVec 16) (h : x.getLsbD 15 = true) : Go.bits .xor .u16 ((x.toNat : Int) * 2 % 65536) 4129 = ((su x).toNat : Int) := by
  rw [su_high x h, shl16_1, show (4129 : Int) = (P16.toNat : Int) from by decide, xor16]

set_option maxRecDepth 100000 in
theorem step16_any (x : BitVec 16) (w : World) : Calls Try.prog 41 #[.int .u16 (x.toNat : Int)] w fun e w' => e = .returned (.int .u16 ((su x).toNat : Int)) ∧ w = w' := by
  have h1 := top16 x
  have h0 : (0 : Int) ≤ (x.toNat : Int) := by omega
  have h2 : (x.toNat : Int) < 65536 := by have := x.isLt; omega
  cases h : x.getLsbD 15
  · have hr := Lib.hid (su_lo x h)
    rw [h] at h1
    clear h
    generalize (x.toNat : Int) = X at *
    go_enter Try.func41, Try.ntmps41
    go_wp2
    go_ret
    exact ⟨retI hr.out, rfl⟩
  · have hr := Lib.hid (su_hi x h)
    rw [h] at h1
    clear h
    generalize (x.toNat : Int) = X at *
    go_enter Try.func41, Try.ntmps41
    go_wp2
    go_ret
    exact ⟨retI hr.out, rfl⟩

def tv16 (i : Nat) : Value := .int .u16 ((sts su 4 (BitVec.ofNat 16 (i * 4096))).toNat : Int)
def tk16 (k i : Nat) : Value := if i < k then tv16 i else .int .u16 0
def tab16 (k : Nat) : Array Value := #[tk16 k 0, tk16 k 1, tk16 k 2, tk16 k 3, tk16 k 4, tk16 k 5, tk16 k 6, tk16 k 7, tk16 k 8, tk16 k 9, tk16 k 10, tk16 k 11, tk16 k 12, tk16 k 13, tk16 k 14, tk16 k 15]
theorem tab16_zero : tab16 0 = #[.int .u16 0, .int .u16 0, .int .u16 0, .int .u16 0, .int .u16 0, .int .u16 0, .int .u16 0, .int .u16 0, .int .u16 0, .int .u16 0, .int .u16 0, .int .u16 0, .int .u16 0, .int .u16 0, .int .u16 0, .int .u16 0] := rfl
theorem toNat_small16 (k : Nat) (h : k < 16) : (k : Int) * 4096 = ((BitVec.ofNat 16 (k * 4096)).toNat : Int) := by
  rw [BitVec.toNat_ofNat, Nat.mod_eq_of_lt (by omega)]; omega
theorem tab16_set (k : Nat) (h : k < 16) : (tab16 k).setIfInBounds k (tv16 k) = tab16 (k + 1) := by
  have : k = 0 ∨ k = 1 ∨ k = 2 ∨ k = 3 ∨ k = 4 ∨ k = 5 ∨ k = 6 ∨ k = 7 ∨ k = 8 ∨ k = 9 ∨ k = 10 ∨ k = 11 ∨ k = 12 ∨ k = 13 ∨ k = 14 ∨ k = 15 := by omega
  rcases this with rfl | rfl | rfl | rfl | rfl | rfl | rfl | rfl | rfl | rfl | rfl | rfl | rfl | rfl | rfl | rfl <;> rfl
theorem tab16_at (k : Nat) (h : k < 16) : (tab16 k)[k]? = some (.int .u16 0) := by
  have : k = 0 ∨ k = 1 ∨ k = 2 ∨ k = 3 ∨ k = 4 ∨ k = 5 ∨ k = 6 ∨ k = 7 ∨ k = 8 ∨ k = 9 ∨ k = 10 ∨ k = 11 ∨ k = 12 ∨ k = 13 ∨ k = 14 ∨ k = 15 := by omega
  rcases this with rfl | rfl | rfl | rfl | rfl | rfl | rfl | rfl | rfl | rfl | rfl | rfl | rfl | rfl | rfl | rfl <;> rfl
theorem tab16_get (k : Nat) (h : k < 16) : (tab16 16)[k]? = some (tv16 k) := by
  have : k = 0 ∨ k = 1 ∨ k = 2 ∨ k = 3 ∨ k = 4 ∨ k = 5 ∨ k = 6 ∨ k = 7 ∨ k = 8 ∨ k = 9 ∨ k = 10 ∨ k = 11 ∨ k = 12 ∨ k = 13 ∨ k = 14 ∨ k = 15 := by omega
  rcases this with rfl | rfl | rfl | rfl | rfl | rfl | rfl | rfl | rfl | rfl | rfl | rfl | rfl | rfl | rfl | rfl <;> rfl
theorem tk16_one (k i : Nat) : (tk16 k i).oneCell' = true := by
  unfold tk16; split <;> rfl
theorem tab16_one : (tab16 16).all (·.oneCell') = true := by simp [tab16, tk16_one]
theorem arr16 : (Try.prog.info? 60).map (·.size) = some 16 := by kernel_rfl

set_option maxRecDepth 100000 in
theorem table16_any (w : World) : Calls Try.prog 37 #[] w fun e w' => e = .returned (.agg (tab16 16)) ∧ Below w.heap.size w w' := by
  go_enter Try.func37, Try.ntmps37
  go_wp2
  go_loopw [4] (fun i wr => ∃ k : Nat, k ≤ 16 ∧ i = .int .i64 k ∧ wr.heap[w.heap.size]? = some (.cells (tab16 0) 60 (0, 0)) ∧ wr.heap[w.heap.size + 1]? = some (.cells (tab16 k) 60 (0, 0)) ∧ Below w.heap.size w wr) (fun i _ => 16 - (intOf i).toNat)
  case atStart => exact ⟨0, by omega, rfl, heap_alloc2_old _ _ _, heap_alloc2_new _ _ _, (below_new _ _).alloc (by simp) _⟩
  case round =>
    obtain ⟨k, hk, rfl, h0, h1, hbel⟩ := hrel
    by_cases hlt : k < 16
    · have HK := Lib.hid (toNat_small16 k hlt)
      have hdk : decide ((k : Int) < 16) = true := by simp; omega
      have H0 := Lib.hid h0
      have H1 := Lib.hid h1
      have hc : wr.cell? ⟨w.heap.size + 1, k, none⟩ = some (.int .u16 0) := by rw [cell_of_row _ _ _ _ _ _ h1, tab16_at k hlt]
      have hf : wr.frozen? ⟨w.heap.size + 1, k, none⟩ = false := frozen_of_row _ _ _ _ _ h1
      clear h0 h1
      go_wp2
      go_loop [3, 10] (fun a t => ∃ j : Nat, j ≤ 4 ∧ t = .int .i64 j ∧ a = .int .u16 ((sts su j (BitVec.ofNat 16 (k * 4096))).toNat : Int)) (fun _ t => 4 - (intOf t).toNat)
      case atStart => exact ⟨0, by omega, rfl, valI HK.out⟩
      case round =>
        obtain ⟨j, hj, rfl, rfl⟩ := hrel
        by_cases hlt' : j < 4
        · go_wp2_with fail
          refine (step16_any _ _).mono ?_
          rintro e w' ⟨rfl, rfl⟩
          go_wp2_with fail
          go_round
          case rel => exact ⟨j + 1, by omega, by go_num, rfl⟩
          case measure => simp [intOf]; omega
        · obtain rfl : j = 4 := by omega
          go_wp2
          go_roundw
          case rel =>
            refine ⟨k + 1, by omega, by go_num, ?_, ?_, hbel.setCell (by simp) _⟩
            · rw [heap_setCell_other _ _ _ _ (by simp)]; exact H0.out
            · rw [heap_setCell_same _ _ _ _ _ _ H1.out]
              exact congrArg (fun c => some (Obj.cells c 60 (0, 0))) (tab16_set k hlt)
          case measure => simp [intOf]; omega
    · obtain rfl : k = 16 := by omega
      go_wp2_with (first
        | (refine wpList_load_row rfl 60 (.tmp 1) (by rfl) _ (by rfl) 60 (tab16 16) (0, 0) _ h1 Try.underlying60 rfl arr16 ?_)
        | (refine wpList_store_row rfl 60 (.tmp 0) (.tmp 19) (by rfl) _ (tab16 16) (by rfl) (by rfl) 60 _ h0 arr16 rfl tab16_one ?_))
      exact bodyPost_ret (results_cell_row rfl _ _ _ 60 (tab16 16) (0, 0) _ rfl (setRow_heap _ _ _ _ _ _ h0) Try.underlying60 rfl arr16) rfl ⟨rfl, below_setRow hbel (Nat.le_refl _) _⟩

/-- the table of a call that was made: a block -/
def Tab16 (w : World) (g : Nat) : Prop := w.heap[g]? = some (.cells (tab16 16) 60 (0, 0))
theorem Tab16.at_ {w : World} {g : Nat} (h : Tab16 w g) {k : Nat} (hk : k < 16) : w.cell? ⟨g, k, none⟩ = some (tv16 k) := by
  rw [cell_of_row _ _ _ _ _ _ h, tab16_get k hk]

/-- one look-up -/
theorem look16 (Y : BitVec 16) : ∃ i : Nat, i < 16 ∧ (Y.toNat : Int) / (4096 : Int) = (i : Int) ∧ Go.bits .xor .u16 (IntKind.u16.wrap ((Y.toNat : Int) * 16)) ((sts su 4 (BitVec.ofNat 16 (i * 4096))).toNat : Int) = ((sts su 4 Y).toNat : Int) := by
  have hY := Y.isLt
  refine ⟨Y.toNat / 4096, by omega, by omega, ?_⟩
  rw [IntKind.wrap_u16, shl16_4, xor16, sus4 Y]
  congr 4
  apply BitVec.eq_of_toNat_eq
  rw [BitVec.toNat_ofNat, BitVec.toNat_shiftLeft, Nat.shiftLeft_eq, BitVec.toNat_ushiftRight, Nat.shiftRight_eq_div_pow]
theorem byte16 (X : BitVec 16) (c : Nat) (hc : c < 256) : Go.bits .xor .u16 (X.toNat : Int) ((c : Int) * 256) = ((X ^^^ BitVec.ofNat 16 (c * 256)).toNat : Int) := by
  rw [← xor16, BitVec.toNat_ofNat, Nat.mod_eq_of_lt (by omega), Int.natCast_mul]; rfl
end Go.Proofs.Ytkpnihapcoiepaa
