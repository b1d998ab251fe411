/- Contracts of the reader. -/
import Derived.Test.YtjpfalpengocjaaW5
import Derived.Test.YtjpfalpengocjaaW3
set_option linter.unusedVariables false
namespace Go.Proofs.Ytjpfalpengocjaa
open Go.RowKit

theorem clone_any (A : Option Addr) (n c : Nat) (l : List Bool) (w : World) (hs : Sl w w.heap.size A n c (bl l)) (hn : n ≤ 1073741824) :
    Calls Try.prog 41 #[.slice A n c] w fun e w' => ∃ A' c', e = .returned (.slice A' n c') ∧ Sl w' w'.heap.size A' n c' (bl l) ∧ Below w.heap.size w w' := by
  obtain ⟨i0, hi, hz0, hz1, hz2⟩ := info_parts boolInfo
  cases A with
  | none =>
    have hc := hs.nil rfl
    have hle := hs.le
    subst hc
    obtain rfl : n = 0 := by omega
    have hnil := fun W => Lib.run_eql_slice_nil (P := Try.prog) W
    go_enter Try.func41, Try.ntmps41
    go_wp2
    go_ret
    exact ⟨none, 0, rfl, hs, Below.refl _ _⟩
  | some a =>
    have hnil := fun W => Lib.run_eql_slice_nil (P := Try.prog) W
    go_enter Try.func41, Try.ntmps41
    have hbel0 : Below w.heap.size w (w.alloc (.cells #[] 4)) := (Below.refl _ _).alloc (Nat.le_refl _) _
    have hown0 : (w.alloc (.cells #[] 4)).ownsRow w.heap.size 4 1 (.slice (some ⟨w.heap.size, 0, none⟩) 0 0) 0 [] := World.ownsRow_lit w #[] 0 (Nat.le_refl _) (by unfold maxLen; omega) rfl
    go_wp2_with (at_builtin; refine wpList_append_slice rfl _ _ 22 rfl w.heap.size 4 i0 (.bool false) 1 Try.underlying22 hi hz0 hz1 hz2 rfl _ 0 [] rfl hown0 w.heap.size (some a) n c (bl l) rfl (hs.below hbel0) (one_bl l) (by unfold maxLen; omega) (by omega) (by simp) ?_)
    intro v1 w1 hown1 hgrow1
    have hbel1 : Below w.heap.size w w1 := hbel0.grown hgrow1 (by simp) (fun k hk => (hown0.lt k hk).1)
    obtain ⟨A2, c2, rfl⟩ := own_slice hown1
    clear hgrow1
    go_wp2
    go_ret
    exact ⟨A2, c2, rfl, Sl.of_own hown1, hbel1⟩

/-- at block g lies a reader that has still to read l -/
def Rd (w : World) (g : Nat) (l : List Bool) : Prop :=
  ∃ A c, w.heap[g]? = some (.cells #[.slice A l.length c, .bool true] 63 (0, 0)) ∧ Sl w g A l.length c (bl l)
theorem Rd.lt {w : World} {g : Nat} {l : List Bool} (h : Rd w g l) : g < w.heap.size := by
  obtain ⟨A, c, hg, _⟩ := h
  exact (Array.getElem?_eq_some_iff.1 hg).1
theorem Rd.below {w w' : World} {g B : Nat} {l : List Bool} (h : Rd w g l) (hb : Below B w w') (hB : g < B) : Rd w' g l := by
  obtain ⟨A, c, hg, hs⟩ := h
  exact ⟨A, c, (hb.block g hB).trans hg, hs.below (hb.mono (by omega))⟩

theorem newReader_any (A : Option Addr) (n c : Nat) (l : List Bool) (w : World) (hs : Sl w w.heap.size A n c (bl l)) (hn : n ≤ 1073741824) :
    Calls Try.prog 35 #[.slice A n c] w fun e w' => ∃ g, e = .returned (.pointer (some ⟨g, 0, none⟩)) ∧ Rd w' g l ∧ w.heap.size ≤ g ∧ Below w.heap.size w w' := by
  have hl : l.length = n := by rw [← length_bl]; exact hs.len
  go_enter Try.func35, Try.ntmps35
  go_wp2_with fail
  refine (clone_any A n c l _ hs hn).mono ?_
  rintro e w1 ⟨A', c', rfl, hs1, hbel1⟩
  go_wp2
  go_ret
  subst hl
  refine ⟨w1.heap.size, rfl, ⟨A', c', by simpa using heap_alloc_new w1 _, ?_⟩, hbel1.size, hbel1.alloc hbel1.size _⟩
  exact hs1.below ((Below.refl _ _).alloc (Nat.le_refl _) _)

theorem count_any (g : Nat) (l : List Bool) (w : World) (h : Rd w g l) :
    Calls Try.prog 43 #[.pointer (some ⟨g, 0, none⟩)] w fun e w' => e = .returned (.int .i64 (l.length : Nat)) ∧ w = w' := by
  obtain ⟨A, c, hg, hs⟩ := h
  have hc0 : w.cell? ⟨g, 0, none⟩ = some (.slice A l.length c) := by rw [cell_of_row w g 0 _ _ _ hg]; rfl
  have hmax := hs.max
  have hle := hs.le
  unfold maxLen at hmax
  clear hg hs
  go_enter Try.func43, Try.ntmps43
  go_wp2
  go_ret
  exact ⟨rfl, rfl⟩

theorem left_any (g : Nat) (l : List Bool) (w : World) (h : Rd w g l) :
    Calls Try.prog 37 #[.pointer (some ⟨g, 0, none⟩)] w fun e w' => e = .returned (.int .i64 (l.length : Nat)) ∧ w = w' := by
  have H := Lib.hid h
  obtain ⟨A, c, hg, hs⟩ := h
  have hc1 : w.cell? ⟨g, 1, none⟩ = some (.bool true) := by rw [cell_of_row w g 1 _ _ _ hg]; rfl
  clear hg hs
  go_enter Try.func37, Try.ntmps37
  go_wp2_with fail
  refine (count_any g l _ H.out).mono ?_
  rintro e w' ⟨rfl, rfl⟩
  go_wp2
  go_ret
  exact ⟨rfl, rfl⟩

/-- what is left behind Take of n -/
def leftS (l : List Bool) (n : Int) : List Bool := if (takeS l 0 n).2 = 0 then l.drop n.toNat else l

theorem below_set0 (w : World) (g : Nat) (v : Value) : Below g w (w.setCell ⟨g, 0, none⟩ v) := (Below.refl g w).setCell (p := ⟨g, 0, none⟩) (Nat.le_refl g) v

theorem read_any (g : Nat) (l : List Bool) (n : Int) (w : World) (h : Rd w g l) :
    Calls Try.prog 42 #[.pointer (some ⟨g, 0, none⟩), .int .i64 n] w fun e w' =>
      e = .returned (.tuple #[.int .i64 (takeS l 0 n).1, .int .i64 (takeS l 0 n).2]) ∧ Rd w' g (leftS l n) ∧ Below g w w' := by
  have H := Lib.hid h
  obtain ⟨A, c, hg, hs⟩ := h
  have hc0 : w.cell? ⟨g, 0, none⟩ = some (.slice A l.length c) := by rw [cell_of_row w g 0 _ _ _ hg]; rfl
  have hf0 : w.frozen? ⟨g, 0, none⟩ = false := frozen_of_row w g 0 _ _ hg
  have hmax := hs.max
  have hle := hs.le
  unfold maxLen at hmax
  have HG := Lib.hid hg
  clear hg
  by_cases he : (takeS l 0 n).2 = 0
  · have hn : 0 ≤ n ∧ n ≤ 62 ∧ n ≤ l.length := by
      unfold takeS at he
      split at he
      · simp at he
      · split at he
        · simp at he
        · omega
    obtain ⟨k, rfl⟩ := Int.eq_ofNat_of_zero_le hn.1
    have hleft : leftS l k = l.drop k := by unfold leftS; rw [if_pos he]; simp
    have hrest := hs.rest (show k ≤ l.length by omega)
    rw [show (bl l).drop k = bl (l.drop k) by simp [bl]] at hrest
    have HR := Lib.hid hrest
    have HL := Lib.hid hleft
    obtain ⟨x, hx⟩ : ∃ x, x = takeS l 0 k := ⟨_, rfl⟩
    have HT := Lib.hid (take_any A l.length c g l 0 k w hs)
    rw [← hx] at he HT ⊢
    have hx1 : x = (x.1, 0) := by rw [← he]
    generalize x.1 = v at hx1
    subst hx1
    clear hx he hleft hrest
    by_cases hck : c = k
    · subst hck
      go_enter Try.func42, Try.ntmps42
      go_wp2_with fail
      refine HT.out.mono ?_
      rintro e w' ⟨rfl, rfl⟩
      go_wp2
      go_ret2
      have hr := HR.out
      rw [if_pos trivial, Nat.sub_self] at hr
      have hl0 : l.length - c = 0 := by omega
      refine ⟨rfl, ?_, below_set0 w g _⟩
      rw [HL.out]
      refine ⟨A, 0, ?_, ?_⟩
      · rw [List.length_drop, hl0]
        have := heap_setCell_same w g 0 _ _ (.slice A 0 0) HG.out
        simpa using this
      · rw [List.length_drop]
        exact hr.below (below_set0 w g _)
    · go_enter Try.func42, Try.ntmps42
      go_wp2_with fail
      refine HT.out.mono ?_
      rintro e w' ⟨rfl, rfl⟩
      go_wp2
      go_ret2
      have hr := HR.out
      rw [if_neg hck] at hr
      refine ⟨rfl, ?_, below_set0 w g _⟩
      rw [HL.out]
      refine ⟨A.map (·.add k), c - k, ?_, ?_⟩
      · rw [List.length_drop]
        have := heap_setCell_same w g 0 _ _ (.slice (A.map (·.add k)) (l.length - k) (c - k)) HG.out
        simpa using this
      · rw [List.length_drop]
        exact hr.below (below_set0 w g _)
  · have hleft : leftS l n = l := by unfold leftS; rw [if_neg he]
    have hv : (takeS l 0 n).1 = 0 := by
      unfold takeS at he ⊢
      split
      · rfl
      · rename_i h1
        rw [if_neg h1] at he
        split
        · rfl
        · rename_i h2
          rw [if_neg h2] at he
          exact absurd rfl he
    rw [hleft]
    have HT := Lib.hid (take_any A l.length c g l 0 n w hs)
    obtain ⟨x, hx⟩ : ∃ x, x = takeS l 0 n := ⟨_, rfl⟩
    rw [← hx] at he hv HT ⊢
    have hx1 : x = (0, x.2) := by rw [← hv]
    generalize x.2 = y at hx1 he
    subst hx1
    have hy : (y != 0) = true := by rw [bne_iff_ne]; exact he
    have hy2 : (y == 0) = false := by rw [beq_eq_false_iff_ne]; exact he
    clear hx hv hleft he
    go_enter Try.func42, Try.ntmps42
    go_wp2_with fail
    refine HT.out.mono ?_
    rintro e w' ⟨rfl, rfl⟩
    go_wp2
    go_ret2
    exact ⟨rfl, H.out, Below.refl _ _⟩

theorem rtake_any (g : Nat) (l : List Bool) (n : Int) (w : World) (h : Rd w g l) :
    Calls Try.prog 36 #[.pointer (some ⟨g, 0, none⟩), .int .i64 n] w fun e w' =>
      e = .returned (.tuple #[.int .i64 (takeS l 0 n).1, .int .i64 (takeS l 0 n).2]) ∧ Rd w' g (leftS l n) ∧ Below g w w' := by
  have H := Lib.hid (read_any g l n w h)
  obtain ⟨A, c, hg, hs⟩ := h
  have hc1 : w.cell? ⟨g, 1, none⟩ = some (.bool true) := by rw [cell_of_row w g 1 _ _ _ hg]; rfl
  obtain ⟨x, hx⟩ : ∃ x, x = takeS l 0 n := ⟨_, rfl⟩
  rw [← hx] at H ⊢
  obtain ⟨y, hy⟩ : ∃ y, y = leftS l n := ⟨_, rfl⟩
  rw [← hy] at H ⊢
  clear hg hs hx hy
  go_enter Try.func36, Try.ntmps36
  go_wp2_with fail
  refine H.out.mono ?_
  rintro e w' ⟨rfl, hrd, hbel⟩
  go_wp2
  go_ret2
  exact ⟨rfl, hrd, hbel⟩
end Go.Proofs.Ytjpfalpengocjaa
