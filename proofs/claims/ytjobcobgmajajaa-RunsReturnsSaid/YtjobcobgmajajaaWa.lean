/- Wide at the chapter's example. -/
import Derived.Test.YtjobcobgmajajaaW8
set_option linter.unusedVariables false
namespace Go.Proofs.Ytjobcobgmajajaa
open Go.RowKit

def resW : List Bool := [false, true, false, true]
set_option maxHeartbeats 1000000 in
theorem wide_ex (A : Option Addr) (c : Nat) (w : World) (hs : Sl w w.heap.size A 4 c (il exW)) :
    Calls Try.prog 25 #[.slice A 4 c] w (Gives (bl resW) 0 w) := by
  have hle := hs.le
  have hmax := hs.max
  unfold maxLen at hmax
  obtain ⟨i0, hi, hz0, hz1, hz2⟩ := info_parts boolInfo
  go_enter Try.func25, Try.ntmps25
  go_wp2_with fail
  refine (areWidths_any _ _ _ _ exW _ hs).mono ?_
  rintro e w' ⟨rfl, rfl⟩
  rw [show okW exW = true from rfl]
  go_wp2_with (at_make; refine wpList_make_full _ rfl _ _ 25 rfl w.heap.size 4 i0 (.bool false) 1 Try.underlying25 hi hz0 hz1 _ _ (4 : Int) (4 : Int) 4 rfl rfl rfl rfl (by rw [hz2]; omega) (by unfold maxLen; omega) (Nat.le_refl _) ?_)
  intro w1 hown1 hgrow1
  have hbel1 : Below w.heap.size w w1 := (Below.refl _ _).grown hgrow1 (Nat.le_refl _) (by simp)
  rw [toList_madeCells_one] at hown1
  clear hgrow1
  have hs1 := hs.next hbel1
  go_wp2_with fail
  refine (min_ex _ _ _ hs1).mono ?_
  rintro e w' ⟨rfl, rfl⟩
  go_wp2_with fail
  refine (max_ex _ _ _ hs1).mono ?_
  rintro e w' ⟨rfl, rfl⟩
  go_wp2_with fail
  refine (isClearlyWider_any 5 2 _ (by omega) (by omega)).mono ?_
  rintro e w' ⟨rfl, rfl⟩
  rw [show decide ((3 : Int) * 2 ≤ 2 * 5) = true from rfl]
  go_wp2
  go_loopw [7, 8, 33] (fun lw gn i wr => ∃ k : Nat, k ≤ 4 ∧ i = .int .i64 k ∧ lw = .int .i64 (([5, 5, 4, 4, 4] : List Int).getD k 0) ∧ gn = .int .i64 2 ∧ wr.ownsRow w.heap.size 4 1 (.slice (some ⟨w.heap.size, 0, none⟩) 4 4) 4 (bl (resW.take k ++ List.replicate (4 - k) false)) ∧ Below w.heap.size w wr)
    (fun _ _ i _ => 4 - (intOf i).toNat)
  case atStart => exact ⟨0, by omega, rfl, rfl, rfl, hown1, hbel1⟩
  case round =>
    obtain ⟨k, hk, rfl, rfl, rfl, hownr, hbel⟩ := hrel
    clear hown1 hs1
    rcases (show k = 0 ∨ k = 1 ∨ k = 2 ∨ k = 3 ∨ k = 4 by omega) with rfl | rfl | rfl | rfl | rfl
    · obtain ⟨b, off, rfl, hb, hc⟩ := (hs.below hbel).at_ (show 0 < 4 by omega) (.int .i64 0)
      rw [show (il exW).getD 0 (.int .i64 0) = .int .i64 2 from rfl, Nat.add_zero] at hc
      have hcell := hownr.cellAt 0 (by omega)
      rw [show (bl (resW.take 0 ++ List.replicate (4 - 0) false))[0]? = some (.bool false) from rfl] at hcell
      have hfr := hownr.frozenAt 0
      have h2 := (hownr.stored 0 (.bool false)).1
      have H2 := Lib.hid h2
      have HB := Lib.hid (hbel.setCell (p := ⟨w.heap.size, 0, none⟩) (Nat.le_refl _) (.bool false))
      have hc2 := h2.cellAt 0 (by omega)
      rw [show ((bl (resW.take 0 ++ List.replicate (4 - 0) false)).set 0 (.bool false))[0]? = some (.bool false) from rfl] at hc2
      clear h2 hownr
      go_wp2
      go_roundw
      case rel => exact ⟨1, by omega, rfl, rfl, rfl, H2.out, HB.out⟩
      case measure => simp [intOf]
    · obtain ⟨b, off, rfl, hb, hc⟩ := (hs.below hbel).at_ (show 1 < 4 by omega) (.int .i64 0)
      rw [show (il exW).getD 1 (.int .i64 0) = .int .i64 4 from rfl] at hc
      have hcell := hownr.cellAt 1 (by omega)
      rw [show (bl (resW.take 1 ++ List.replicate (4 - 1) false))[1]? = some (.bool false) from rfl] at hcell
      have hfr := hownr.frozenAt 1
      have h2 := (hownr.stored 1 (.bool true)).1
      have H2 := Lib.hid h2
      have HB := Lib.hid (hbel.setCell (p := ⟨w.heap.size, 1, none⟩) (Nat.le_refl _) (.bool true))
      have hc2 := h2.cellAt 1 (by omega)
      rw [show ((bl (resW.take 1 ++ List.replicate (4 - 1) false)).set 1 (.bool true))[1]? = some (.bool true) from rfl] at hc2
      clear h2 hownr
      go_wp2
      go_roundw
      case rel => exact ⟨2, by omega, rfl, rfl, rfl, H2.out, HB.out⟩
      case measure => simp [intOf]
    · obtain ⟨b, off, rfl, hb, hc⟩ := (hs.below hbel).at_ (show 2 < 4 by omega) (.int .i64 0)
      rw [show (il exW).getD 2 (.int .i64 0) = .int .i64 2 from rfl] at hc
      have hcell := hownr.cellAt 2 (by omega)
      rw [show (bl (resW.take 2 ++ List.replicate (4 - 2) false))[2]? = some (.bool false) from rfl] at hcell
      have hfr := hownr.frozenAt 2
      have h2 := (hownr.stored 2 (.bool false)).1
      have H2 := Lib.hid h2
      have HB := Lib.hid (hbel.setCell (p := ⟨w.heap.size, 2, none⟩) (Nat.le_refl _) (.bool false))
      have hc2 := h2.cellAt 2 (by omega)
      rw [show ((bl (resW.take 2 ++ List.replicate (4 - 2) false)).set 2 (.bool false))[2]? = some (.bool false) from rfl] at hc2
      clear h2 hownr
      go_wp2
      go_roundw
      case rel => exact ⟨3, by omega, rfl, rfl, rfl, H2.out, HB.out⟩
      case measure => simp [intOf]
    · obtain ⟨b, off, rfl, hb, hc⟩ := (hs.below hbel).at_ (show 3 < 4 by omega) (.int .i64 0)
      rw [show (il exW).getD 3 (.int .i64 0) = .int .i64 5 from rfl] at hc
      have hcell := hownr.cellAt 3 (by omega)
      rw [show (bl (resW.take 3 ++ List.replicate (4 - 3) false))[3]? = some (.bool false) from rfl] at hcell
      have hfr := hownr.frozenAt 3
      have h2 := (hownr.stored 3 (.bool true)).1
      have H2 := Lib.hid h2
      have HB := Lib.hid (hbel.setCell (p := ⟨w.heap.size, 3, none⟩) (Nat.le_refl _) (.bool true))
      have hc2 := h2.cellAt 3 (by omega)
      rw [show ((bl (resW.take 3 ++ List.replicate (4 - 3) false)).set 3 (.bool true))[3]? = some (.bool true) from rfl] at hc2
      clear h2 hownr
      go_wp2
      go_roundw
      case rel => exact ⟨4, by omega, rfl, rfl, rfl, H2.out, HB.out⟩
      case measure => simp [intOf]
    · go_wp2_with fail
      refine (isClearlyWider_any 4 2 _ (by omega) (by omega)).mono ?_
      rintro e w' ⟨rfl, rfl⟩
      rw [show decide ((3 : Int) * 2 ≤ 2 * 4) = true from rfl]
      go_wp2
      go_ret2
      exact gives_own rfl hownr hbel
end Go.Proofs.Ytjobcobgmajajaa
