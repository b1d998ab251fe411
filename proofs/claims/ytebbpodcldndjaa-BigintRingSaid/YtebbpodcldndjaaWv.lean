/- Contracts: slices.Reverse of a row of the call's own; clone into a row of the call's own. -/
import Derived.Test.YtebbpodcldndjaaWu
import Derived.Test.YtebbpodcldndjaaShelf
import Derived.Lib.OwnBridge
set_option linter.unusedVariables false
namespace Go.Proofs.Ytebbpodcldndjaa
open Go.RowKit Go.Lib Go.Sort

theorem one_u8 : Go.Proofs.OneCell (fun x : Nat => Value.int .u8 (x : Int)) := fun _ => rfl
theorem one_i64 : Go.Proofs.OneCell (fun x : Nat => Value.int .i64 (x : Int)) := fun _ => rfl
/-- naturals as ints -/
def nl (l : List Nat) : List Value := l.map fun x : Nat => Value.int .i64 (x : Int)
theorem length_nl (l : List Nat) : (nl l).length = l.length := by simp [nl]

theorem reverseB_own (base : Nat) (A : Option Addr) (n c : Nat) (L : List Nat) (w : World) (hown : w.ownsRow base 5 1 (.slice A n c) n (byl L)) (hn : n ≤ 1048576) :
    Calls Try.prog 80 #[.slice A n c] w fun e w' => e = .returned (.tuple #[]) ∧ w'.ownsRow base 5 1 (.slice A n c) n (byl L.reverse) ∧ Below base w w' := by
  have hl : L.length = n := by have := hown.1; rw [length_byl] at this; omega
  by_cases h0 : n = 0
  · subst h0
    obtain rfl : L = [] := List.eq_nil_of_length_eq_zero hl
    refine (Try.slices_ReverseB_empty (α := Nat) A c w).mono ?_
    rintro e w' ⟨rfl, rfl⟩
    exact ⟨rfl, hown, Below.refl _ _⟩
  · have hv : (Value.slice A n c) ≠ .slice none 0 0 := by intro e; injection e; omega
    obtain ⟨g, cap, e1, hb, hg, hnc, hcm, hlen, hH⟩ := holds_of_ownsRow (enc := fun x : Nat => Value.int .u8 (x : Int)) hown hv
    injection e1 with e1 _ e3
    subst e1
    subst e3
    subst hl
    refine (Try.slices_ReverseB (fun x : Nat => Value.int .u8 (x : Int)) one_u8 g 0 c L w hH (by omega)).mono ?_
    rintro e w' ⟨rfl, q, rfl⟩
    refine ⟨rfl, ?_, below_putRow (Below.refl _ _) hb⟩
    have := ownsRow_putRow (enc := fun x : Nat => Value.int .u8 (x : Int)) (q := q) (k := L.length) (ys := L.reverse) hown (by simp) (Nat.le_refl _)
    rwa [List.take_of_length_le (by simp)] at this

theorem reverseI_own (base : Nat) (A : Option Addr) (n c : Nat) (L : List Nat) (w : World) (hown : w.ownsRow base 3 1 (.slice A n c) n (nl L)) (hn : n ≤ 1048576) :
    Calls Try.prog 83 #[.slice A n c] w fun e w' => e = .returned (.tuple #[]) ∧ w'.ownsRow base 3 1 (.slice A n c) n (nl L.reverse) ∧ Below base w w' := by
  have hl : L.length = n := by have := hown.1; rw [length_nl] at this; omega
  by_cases h0 : n = 0
  · subst h0
    obtain rfl : L = [] := List.eq_nil_of_length_eq_zero hl
    refine (Try.slices_Reverse_empty (α := Nat) A c w).mono ?_
    rintro e w' ⟨rfl, rfl⟩
    exact ⟨rfl, hown, Below.refl _ _⟩
  · have hv : (Value.slice A n c) ≠ .slice none 0 0 := by intro e; injection e; omega
    obtain ⟨g, cap, e1, hb, hg, hnc, hcm, hlen, hH⟩ := holds_of_ownsRow (enc := fun x : Nat => Value.int .i64 (x : Int)) hown hv
    injection e1 with e1 _ e3
    subst e1
    subst e3
    subst hl
    refine (Try.slices_Reverse (fun x : Nat => Value.int .i64 (x : Int)) one_i64 g 0 c L w hH (by omega)).mono ?_
    rintro e w' ⟨rfl, q, rfl⟩
    refine ⟨rfl, ?_, below_putRow (Below.refl _ _) hb⟩
    have := ownsRow_putRow (enc := fun x : Nat => Value.int .i64 (x : Int)) (q := q) (k := L.length) (ys := L.reverse) hown (by simp) (Nat.le_refl _)
    rwa [List.take_of_length_le (by simp)] at this

set_option maxRecDepth 100000 in
theorem clone_own (A : Option Addr) (n c : Nat) (l : List Nat) (w : World) (hs : Sl w w.heap.size A n c (ml l)) (hn : n ≤ 1048576) :
    Calls Try.prog 59 #[.slice A n c] w (OwnM w.heap.size l w) := by
  have hl : l.length = n := by rw [← length_ml]; exact hs.len
  have hmax := hs.max
  have hle := hs.le
  unfold maxLen at hmax
  by_cases h0 : n = 0
  · subst h0
    obtain rfl : l = [] := List.eq_nil_of_length_eq_zero hl
    go_enter Try.func59, Try.ntmps59
    go_wp2
    go_ret
    exact ⟨none, 0, rfl, World.ownsRow_nil _ _ _ _, Below.refl _ _⟩
  obtain ⟨i0, hi, hz0, hz1, hz2⟩ := info_parts limbInfo
  obtain ⟨cur, hcur⟩ : ∃ cur : Array Value, cur = madeCells (Value.int .u32 0).cells (n * i0.size) := ⟨_, rfl⟩
  have hcsz : cur.size = n := by rw [hcur, size_madeCells, hz1, Nat.mul_one]
  have hmk : (Instr.makeSlice 22 (.int .i64 (n : Int)) (.int .i64 (n : Int))).run Try.prog w = .ok (.slice (some ⟨w.heap.size, 0, none⟩) n n) (w.alloc (.cells cur 63)) := by
    have h := run_make (P := Try.prog) w 22 63 i0 (.int .u32 0) Try.underlying22 hi hz0 .i64 .i64 (n : Int) (n : Int) (by omega) (by omega) (by rw [hz2]; omega) (by omega)
    rw [Int.toNat_natCast] at h
    rw [hcur]
    exact h
  have HC := Lib.hid hcsz
  clear hcsz hcur
  go_enter Try.func59, Try.ntmps59
  go_wp2_with (with_reducible refine wpList_copy_splice rfl (.tmp 10) (.tmp 11) 22 22 rfl 63 Try.underlying22 (by kernel_rfl) _ _ _ _ _ _ rfl rfl w.heap.size 0 cur.toList 63 ?c1 (ml l) ?c2 ?c3 ?c4 (one_ml l) w.heap.size w ?c5 (Nat.le_refl _) ?_)
  case c1 => simpa using heap_alloc_new w _
  case c2 => rw [length_ml]; simp [hl]
  case c3 =>
    intro hp
    rw [length_ml] at hp
    obtain ⟨b, off, e, hb, hc⟩ := hs.read (by omega)
    refine ⟨_, e, fun i u hu => ?_⟩
    have := hc i u hu
    rw [Addr.add_lit]
    rw [World.cell?_alloc_lt w _ _ hb]
    exact this
  case c4 =>
    have e1 : cur.toList.length = n := by rw [Array.length_toList]; exact HC.out
    rw [e1, length_ml]; omega
  case c5 => exact (Below.refl _ _).alloc (Nat.le_refl _) _
  intro w1 hg1 hbel1
  have hg := hg1.out
  have hlt : w.heap.size < w1.heap.size := (Array.getElem?_eq_some_iff.1 hg).1
  have hown : w1.ownsRow w.heap.size 63 1 (.slice (some ⟨w.heap.size, 0, none⟩) n n) n (ml l) := by
    refine ⟨by rw [length_ml]; omega, .inr ⟨w.heap.size, n, _, rfl, Nat.le_refl _, hg, by omega, by unfold maxLen; omega, ?_, ?_⟩⟩
    · rw [List.size_toArray, length_splice _ _ _ (by rw [length_ml, Array.length_toList (xs := cur), HC.out]; omega), Array.length_toList (xs := cur), HC.out]; omega
    · simp [splice, ← hl, ← length_ml]
  clear hg1 hg hmk
  go_wp2
  go_ret
  subst hl
  exact ⟨_, _, rfl, hown, hbel1⟩
end Go.Proofs.Ytebbpodcldndjaa
