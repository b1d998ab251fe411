/- Contracts of Digest. -/
import Derived.Test.YtkpnihapcoiepaaW7
namespace Go.Proofs.Ytkpnihapcoiepaa
open Go.RowKit

/-- a digest that the package made lies at block g: its register, its length -/
def Dg (w : World) (g : Nat) (r : BitVec 32) (m : Nat) : Prop := w.heap[g]? = some (.cells #[.bool true, .int .u32 (r.toNat : Int), .int .i64 (m : Int)] 48 (0, 0))
theorem Dg.lt {w : World} {g : Nat} {r : BitVec 32} {m : Nat} (h : Dg w g r m) : g < w.heap.size := (Array.getElem?_eq_some_iff.1 h).1
theorem Dg.keep {w w' : World} {g : Nat} {r : BitVec 32} {m : Nat} (h : Dg w g r m) (hk : w'.heap[g]? = w.heap[g]?) : Dg w' g r m := by
  unfold Dg; rw [hk]; exact h
theorem Dg.below {w w' : World} {B g : Nat} {r : BitVec 32} {m : Nat} (h : Dg w g r m) (hb : Below B w w') (hg : g < B) : Dg w' g r m := h.keep (hb.block g hg)
theorem Dg.next {w w' : World} {g : Nat} {r : BitVec 32} {m : Nat} (h : Dg w g r m) (hb : Below w.heap.size w w') : Dg w' g r m := h.below hb h.lt
theorem Dg.cells {w : World} {g : Nat} {r : BitVec 32} {m : Nat} (h : Dg w g r m) : w.cell? ⟨g, 0, none⟩ = some (.bool true) ∧ w.cell? ⟨g, 1, none⟩ = some (.int .u32 (r.toNat : Int)) ∧ w.cell? ⟨g, 2, none⟩ = some (.int .i64 (m : Int)) := by
  refine ⟨?_, ?_, ?_⟩ <;> rw [cell_of_row _ _ _ _ _ _ h] <;> rfl
theorem Dg.frozen {w : World} {g : Nat} {r : BitVec 32} {m : Nat} (h : Dg w g r m) : w.frozen? ⟨g, 1, none⟩ = false ∧ w.frozen? ⟨g, 2, none⟩ = false := ⟨frozen_of_row _ _ _ _ _ h, frozen_of_row _ _ _ _ _ h⟩

theorem newDigest_any (w : World) : Calls Try.prog 24 #[] w fun e w' => e = .returned (.pointer (some ⟨w.heap.size, 0, none⟩)) ∧ Dg w' w.heap.size ones32 0 ∧ Below w.heap.size w w' ∧ w'.heap.size = w.heap.size + 1 := by
  go_enter Try.func24, Try.ntmps24
  go_wp2
  go_ret
  exact ⟨rfl, heap_alloc_new _ _, below_new _ _, by simp⟩

theorem isMade_yes (g : Nat) (w : World) (h : w.cell? ⟨g, 0, none⟩ = some (.bool true)) : Calls Try.prog 35 #[.pointer (some ⟨g, 0, none⟩)] w fun e w' => e = .returned (.bool true) ∧ w = w' := by
  go_enter Try.func35, Try.ntmps35
  go_wp2
  go_ret
  exact ⟨rfl, rfl⟩
theorem isMade_zero (g : Nat) (w : World) (h : w.cell? ⟨g, 0, none⟩ = some (.bool false)) : Calls Try.prog 35 #[.pointer (some ⟨g, 0, none⟩)] w fun e w' => e = .returned (.bool false) ∧ w = w' := by
  go_enter Try.func35, Try.ntmps35
  go_wp2
  go_ret
  exact ⟨rfl, rfl⟩
theorem isMade_nil (w : World) : Calls Try.prog 35 #[.pointer none] w fun e w' => e = .returned (.bool false) ∧ w = w' := by
  go_enter Try.func35, Try.ntmps35
  go_wp2
  go_ret
  exact ⟨rfl, rfl⟩

/-- a pointer to no digest of the package: nil, or a zero struct -/
def NoDg (w : World) (p : Option Addr) : Prop := p = none ∨ ∃ g, p = some ⟨g, 0, none⟩ ∧ w.cell? ⟨g, 0, none⟩ = some (.bool false)
theorem isMade_no (p : Option Addr) (w : World) (h : NoDg w p) : Calls Try.prog 35 #[.pointer p] w fun e w' => e = .returned (.bool false) ∧ w = w' := by
  rcases h with rfl | ⟨g, rfl, h⟩
  · exact isMade_nil w
  · exact isMade_zero g w h
theorem write_no (p : Option Addr) (A : Option Addr) (n c : Nat) (w : World) (h : NoDg w p) : Calls Try.prog 25 #[.pointer p, .slice A n c] w fun e w' => e = .returned (.int .i64 2) ∧ w = w' := by
  go_enter Try.func25, Try.ntmps25
  go_wp2_with fail
  refine (isMade_no p _ h).mono ?_
  rintro e w' ⟨rfl, rfl⟩
  go_wp2
  go_ret
  exact ⟨rfl, rfl⟩
theorem sum_no (p : Option Addr) (w : World) (h : NoDg w p) : Calls Try.prog 27 #[.pointer p] w fun e w' => e = .returned (.int .u32 0) ∧ w = w' := by
  go_enter Try.func27, Try.ntmps27
  go_wp2_with fail
  refine (isMade_no p _ h).mono ?_
  rintro e w' ⟨rfl, rfl⟩
  go_wp2
  go_ret
  exact ⟨rfl, rfl⟩
theorem len_no (p : Option Addr) (w : World) (h : NoDg w p) : Calls Try.prog 28 #[.pointer p] w fun e w' => e = .returned (.int .i64 0) ∧ w = w' := by
  go_enter Try.func28, Try.ntmps28
  go_wp2_with fail
  refine (isMade_no p _ h).mono ?_
  rintro e w' ⟨rfl, rfl⟩
  go_wp2
  go_ret
  exact ⟨rfl, rfl⟩
theorem clone_no (p : Option Addr) (w : World) (h : NoDg w p) : Calls Try.prog 26 #[.pointer p] w fun e w' => e = .returned (.pointer none) ∧ w = w' := by
  go_enter Try.func26, Try.ntmps26
  go_wp2_with fail
  refine (isMade_no p _ h).mono ?_
  rintro e w' ⟨rfl, rfl⟩
  go_wp2
  go_ret
  exact ⟨rfl, rfl⟩

theorem sum_any (g : Nat) (r : BitVec 32) (m : Nat) (w : World) (h : Dg w g r m) : Calls Try.prog 27 #[.pointer (some ⟨g, 0, none⟩)] w fun e w' => e = .returned (.int .u32 ((r ^^^ ones32).toNat : Int)) ∧ w = w' := by
  obtain ⟨h0, h1, h2⟩ := h.cells
  go_enter Try.func27, Try.ntmps27
  go_wp2_with fail
  refine (isMade_yes g _ h0).mono ?_
  rintro e w' ⟨rfl, rfl⟩
  go_wp2
  go_ret
  exact ⟨retI (not32 _), rfl⟩
theorem len_any (g : Nat) (r : BitVec 32) (m : Nat) (w : World) (h : Dg w g r m) : Calls Try.prog 28 #[.pointer (some ⟨g, 0, none⟩)] w fun e w' => e = .returned (.int .i64 (m : Int)) ∧ w = w' := by
  obtain ⟨h0, h1, h2⟩ := h.cells
  go_enter Try.func28, Try.ntmps28
  go_wp2_with fail
  refine (isMade_yes g _ h0).mono ?_
  rintro e w' ⟨rfl, rfl⟩
  go_wp2
  go_ret
  exact ⟨rfl, rfl⟩
theorem clone_any (g : Nat) (r : BitVec 32) (m : Nat) (w : World) (h : Dg w g r m) : Calls Try.prog 26 #[.pointer (some ⟨g, 0, none⟩)] w fun e w' =>
    ∃ g', e = .returned (.pointer (some ⟨g', 0, none⟩)) ∧ w.heap.size ≤ g' ∧ Dg w' g' r m ∧ Below w.heap.size w w' := by
  obtain ⟨h0, h1, h2⟩ := h.cells
  have hlt := h.lt
  go_enter Try.func26, Try.ntmps26
  go_wp2_with fail
  refine (isMade_yes g _ h0).mono ?_
  rintro e w' ⟨rfl, rfl⟩
  go_wp2
  go_ret
  exact ⟨_, rfl, Nat.le_refl _, heap_alloc_new _ _, below_new _ _⟩
theorem write_any (g : Nat) (r : BitVec 32) (m : Nat) (A : Option Addr) (n c : Nat) (l : List Nat) (w : World) (h : Dg w g r m) (hs : Sl w w.heap.size A n c (byl l)) (hb : Byt l) (hm : m + n ≤ 9223372036854775807) :
    Calls Try.prog 25 #[.pointer (some ⟨g, 0, none⟩), .slice A n c] w fun e w' => e = .returned (.int .i64 0) ∧ Dg w' g (f32 r l) (m + n) ∧ w.grownBy w' (some g) := by
  obtain ⟨h0, h1, h2⟩ := h.cells
  have hlt := h.lt
  go_enter Try.func25, Try.ntmps25
  go_wp2_with fail
  refine (isMade_yes g _ h0).mono ?_
  rintro e w' ⟨rfl, rfl⟩
  go_wp2_with fail
  refine (feed32_any r A n c l _ hs hb).mono ?_
  rintro e w1 ⟨rfl, hb1⟩
  have hd1 := h.next hb1
  obtain ⟨k0, k1, k2⟩ := hd1.cells
  obtain ⟨f1, f2⟩ := hd1.frozen
  have HD := Lib.hid hd1
  clear h h0 h1 h2 hd1
  go_wp2
  go_ret
  refine ⟨rfl, ?_, ?_⟩
  · unfold Dg
    rw [heap_setCell_same _ _ _ _ _ _ (heap_setCell_same _ _ _ _ _ _ HD.out)]
    simp
  · exact ⟨hb1.os, hb1.tape, hb1.output, by simpa [World.setCell] using hb1.size, fun k hk hne => by
      rw [heap_setCell_other _ _ _ _ (fun e => hne (by rw [e])), heap_setCell_other _ _ _ _ (fun e => hne (by rw [e]))]
      exact hb1.block k hk⟩
end Go.Proofs.Ytkpnihapcoiepaa
