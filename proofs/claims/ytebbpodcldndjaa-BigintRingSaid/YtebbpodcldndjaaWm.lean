/- Contracts: products of limbs in the specification. -/
import Derived.Test.YtebbpodcldndjaaWl
set_option linter.unusedVariables false
namespace Go.Proofs.Ytebbpodcldndjaa
open Go.RowKit

set_option maxRecDepth 100000 in
set_option maxHeartbeats 4000000 in
theorem times_any (A A' : Option Addr) (n c n' c' : Nat) (l l' : List Nat) (w : World) (hs : Sl w w.heap.size A n c (ml l)) (hs' : Sl w w.heap.size A' n' c' (ml l')) (hok : Ok l) (hok' : Ok l') (hn : n ≤ 524288) (hn' : n' ≤ 524288) :
    Calls Try.prog 63 #[.slice A n c, .slice A' n' c'] w (Mag (enc (val l * val l')) w) := by
  have hl : l.length = n := by rw [← length_ml]; exact hs.len
  have hl' : l'.length = n' := by rw [← length_ml]; exact hs'.len
  have hmax := hs.max
  have hle := hs.le
  have hle' := hs'.le
  have hmax' := hs'.max
  unfold maxLen at hmax hmax'
  obtain ⟨i0, hi, hz0, hz1, hz2⟩ := info_parts limbInfo
  go_enter Try.func63, Try.ntmps63
  go_wp2_with (at_make; refine wpList_make_full _ rfl _ _ 22 rfl w.heap.size 63 i0 (.int .u32 0) 1 Try.underlying22 hi hz0 hz1 _ _ ((n : Int) + (n' : Int)) ((n : Int) + (n' : Int)) (n + n') rfl rfl (by omega) (by omega) (by rw [hz2]; omega) (by unfold maxLen; omega) (Nat.le_refl _) ?_)
  intro w1 hown1 hgrow1
  have hbel1 : Below w.heap.size w w1 := (Below.refl _ _).grown hgrow1 (Nat.le_refl _) (by simp)
  rw [toList_madeCells_one, ml_zeros] at hown1
  clear hgrow1
  go_wp2
  go_loopw [6] (fun i wr => ∃ (t : Nat) (L : List Nat), t ≤ n ∧ i = .int .i64 t ∧ L.length = n + n' ∧ Hid (Prod L t n' (val (l.take t) * val l')) ∧ wr.ownsRow w.heap.size 63 1 (.slice (some ⟨w.heap.size, 0, none⟩) (n + n') (n + n')) (n + n') (ml L) ∧ Below w.heap.size w wr)
    (fun i _ => n - (intOf i).toNat)
  case atStart =>
    refine ⟨0, List.replicate (n + n') 0, Nat.zero_le _, rfl, by simp, Lib.hid ⟨ok_zeros _, by rw [val_zeros]; simp [val_nil], fun k _ => ?_⟩, hown1, hbel1⟩
    rw [List.getD_eq_getElem?_getD, List.getElem?_replicate]
    split <;> rfl
  case round =>
    obtain ⟨t, L, ht, rfl, hL, hv, hownr, hbel⟩ := hrel
    clear hown1 hbel1
    have hsz := hbel.size
    by_cases hlt : t < n
    · obtain ⟨x, hx⟩ : ∃ x, l.getD t 0 = x := ⟨_, rfl⟩
      have hxl : x < 4294967296 := by rw [← hx]; exact hok.getD t
      have HX := Lib.hid hx
      clear hx
      go_wp2
      go_loopw [7, 8] (fun cr i wr => ∃ (q C : Nat) (L2 : List Nat), q ≤ n' ∧ i = .int .i64 q ∧ cr = .int .u64 (C : Int) ∧ C < 4294967296 ∧ L2.length = n + n' ∧ Hid (Prod2 L2 t q n' C (val L) (4294967296 ^ t * x) (val (l'.take q))) ∧ wr.ownsRow w.heap.size 63 1 (.slice (some ⟨w.heap.size, 0, none⟩) (n + n') (n + n')) (n + n') (ml L2) ∧ Below w.heap.size w wr)
        (fun _ i _ => n' - (intOf i).toNat)
      case atStart => exact ⟨0, 0, L, Nat.zero_le _, rfl, rfl, by omega, hL, Lib.hid ⟨hv.out.1, by rw [List.take_zero, val_nil, Nat.mul_zero, Nat.mul_zero], hv.out.2.2⟩, hownr, hbel⟩
      case round =>
        rename_i wr0
        obtain ⟨q, C, L2, hq, rfl, rfl, hC, hL2, hv2, hownr2, hbel2⟩ := hrel
        clear hownr hbel hsz
        have hsz := hbel2.size
        by_cases hlq : q < n'
        · obtain ⟨b, off, rfl, hb, hc⟩ := (hs.below hbel2).at_ hlt (.int .u32 0)
          rw [getD_ml l t (by omega), HX.out] at hc
          obtain ⟨y, hy⟩ : ∃ y, l'.getD q 0 = y := ⟨_, rfl⟩
          obtain ⟨o, ho⟩ : ∃ o, L2.getD (t + q) 0 = o := ⟨_, rfl⟩
          have hyl : y < 4294967296 := by rw [← hy]; exact hok'.getD q
          have hol : o < 4294967296 := by rw [← ho]; exact hv2.out.1.getD _
          obtain ⟨b', off', rfl, hb', hc'⟩ := (hs'.below hbel2).at_ hlq (.int .u32 0)
          rw [getD_ml l' q (by omega), hy] at hc'
          have hcell := hownr2.cellAt (t + q) (by omega)
          have hfr := hownr2.frozenAt (t + q)
          rw [ml_at L2 (t + q) (by omega), ho] at hcell
          obtain ⟨s, hs0⟩ : ∃ s, s = C + x * y + o := ⟨_, rfl⟩
          have hq0 : (0 : Int) ≤ q := by omega
          have hq1 : (q : Int) < n' := by omega
          have ht0 : (0 : Int) ≤ t := by omega
          have ht1 : (t : Int) < n := by omega
          have htq : (t : Int) + q < n + n' := by omega
          have hxy := mul_lt_of x y hxl hyl
          have HV := Lib.hid (prod_step hv2.out hlq (by omega) ho hy hs0)
          have hxyI : (x : Int) * (y : Int) ≤ 18446744065119617025 := by rw [← Int.natCast_mul]; omega
          have hxy0 : (0 : Int) ≤ (x : Int) * (y : Int) := by rw [← Int.natCast_mul]; omega
          have hsI : (s : Int) = C + (x : Int) * (y : Int) + o := by rw [← Int.natCast_mul]; omega
          clear hv2 hy ho hs0 hxy
          go_wp2
          go_quiet (fail)
          have HO : (wr.drewN nq).ownsRow w.heap.size 63 1 (.slice (some ⟨w.heap.size, 0, none⟩) (n + n') (n + n')) (n + n') (ml L2) := hownr2
          have h2 := (HO.stored (t + q) (.int .u32 ((s % 4294967296 : Nat) : Int))).1
          rw [ml_set] at h2
          have H2 := Lib.hid h2
          have HB := Lib.hid ((below_drawn hbel2 nq).setCell (p := ⟨w.heap.size, t + q, none⟩) (Nat.le_refl _) (.int .u32 ((s % 4294967296 : Nat) : Int)))
          clear h2 HO hownr2
          go_wp2
          go_roundw
          case rel =>
            have e1 : ((x : Int) * (y : Int) + o + C) / 4294967296 = ((s / 4294967296 : Nat) : Int) := by omega
            have e2 : ((x : Int) * (y : Int) + o + C) % 4294967296 = ((s % 4294967296 : Nat) : Int) := by omega
            rw [e1, e2]
            exact ⟨q + 1, s / 4294967296, L2.set (t + q) (s % 4294967296), by omega, by go_num, rfl, by omega, by simp [hL2], HV, H2.out, HB.out⟩
          case measure => simp [intOf]; omega
        · obtain rfl : q = n' := by omega
          have hv3 := hv2.out
          rw [List.take_of_length_le (l := l') (by omega)] at hv3
          have HV := Lib.hid (prod_end hv.out hv3 (by omega) hC HX.out)
          have hcell := hownr2.cellAt (t + q) (by omega)
          have hfr := hownr2.frozenAt (t + q)
          rw [ml_at L2 (t + q) (by omega)] at hcell
          generalize L2.getD (t + q) 0 = o at hcell
          have h2 := (hownr2.stored (t + q) (.int .u32 (C : Int))).1
          rw [ml_set] at h2
          have H2 := Lib.hid h2
          have HB := Lib.hid (hbel2.setCell (p := ⟨w.heap.size, t + q, none⟩) (Nat.le_refl _) (.int .u32 (C : Int)))
          have hcl : (C : Int) % 4294967296 = C := by omega
          clear h2 hv2 hv3 hv hownr2
          go_wp2
          go_roundw
          case rel => exact ⟨t + 1, L2.set (t + q) C, by omega, by go_num, by simp [hL2], HV, H2.out, HB.out⟩
          case measure => simp [intOf]; omega
    · obtain rfl : t = n := by omega
      have hv1 := hv.out
      rw [List.take_of_length_le (l := l) (by omega)] at hv1
      have H2 := Lib.hid (Sl.of_own hownr)
      have HV := Lib.hid (show Ok L ∧ val L = val l * val l' from ⟨hv1.1, hv1.2.1⟩)
      clear hv hv1 hownr
      go_wp2_with fail
      refine (rTrim_any _ _ _ L _ H2.out HV.out.1 (by omega)).mono ?_
      rw [HV.out.2]
      rintro e w' hm
      obtain ⟨A2, c2, rfl, hs2, hb2⟩ := hm.of hbel
      go_wp2
      go_ret
      exact ⟨A2, c2, rfl, hs2, hb2⟩
end Go.Proofs.Ytebbpodcldndjaa
