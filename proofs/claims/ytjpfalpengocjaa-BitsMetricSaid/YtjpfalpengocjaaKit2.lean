/- More helpers: single bits of bytes, rows that are filled from their head on. -/
import Derived.Test.YtjpfalpengocjaaKit
set_option linter.unusedVariables false
namespace Go.Proofs.Ytjpfalpengocjaa
open Go.RowKit

theorem ofInt8_one : (BitVec.ofInt 8 1).toNat = 1 := by decide
theorem and_one_u8 (y : Int) : (bits BinOp.and IntKind.u8 y 1 == 1) = decide (y % 2 = 1) := by
  have h : bits BinOp.and IntKind.u8 y 1 = y % 2 := by
    show IntKind.u8.wrap ((BitVec.ofInt 8 y &&& BitVec.ofInt 8 1).toNat : Int) = _
    rw [BitVec.toNat_and, ofInt8_one, Nat.and_one_is_mod, BitVec.toNat_ofInt, IntKind.wrap_u8]
    omega
  rw [h]
  by_cases h1 : y % 2 = 1 <;> simp [h1]
theorem and_bit_u8 (x : Int) (i : Nat) : (bits BinOp.and IntKind.u8 (x / 2 ^ i) 1 == 1) = bitI x i := and_one_u8 _
/-- a row that is filled from its head on: the next place, and what a store there makes of it -/
theorem fill_at {α : Type} (a : List α) (t k : Nat) (ha : a.length = t) (h : t < k) (x : α) (f : α → Value) : ((a ++ List.replicate (k - t) x).map f)[t]? = some (f x) := by
  subst ha
  rw [List.map_append, List.getElem?_append_right (by simp), List.map_replicate, List.getElem?_replicate, if_pos (by simp; omega)]
theorem fill_set {α : Type} (a : List α) (t k : Nat) (ha : a.length = t) (h : t < k) (x y : α) (f : α → Value) :
    ((a ++ List.replicate (k - t) x).map f).set t (f y) = ((a ++ [y]) ++ List.replicate (k - (t + 1)) x).map f := by
  subst ha
  obtain ⟨d, hd⟩ : ∃ d, k - a.length = d + 1 := ⟨k - a.length - 1, by omega⟩
  rw [show k - (a.length + 1) = d by omega, hd, List.replicate_succ]
  simp
theorem made_replicate (z : Value) (hz : z.cells = #[z]) (n : Nat) : (madeCells z.cells (n * 1)).toList = List.replicate n z := by
  rw [hz, Nat.mul_one, toList_madeCells_one]

end Go.Proofs.Ytjpfalpengocjaa
