/- Contracts of share and needed. -/
import Derived.Test.YtjobcobgmajajaaW3
import Derived.Deep.RegionHeld3
set_option linter.unusedVariables false
namespace Go.Proofs.Ytjobcobgmajajaa
open Go.RowKit

/-- a division lies at block g -/
structure Dv (W : World) (g : Nat) (s T : Int) : Prop where
  lt : g < W.heap.size
  c0 : W.cell? ⟨g, 0, none⟩ = some (.int .i64 s)
  c1 : W.cell? ⟨g, 1, none⟩ = some (.int .i64 T)
theorem Dv.new (W : World) (s T : Int) (t : TypeId) : Dv (W.alloc (.cells #[.int .i64 s, .int .i64 T] t)) W.heap.size s T :=
  ⟨by simp, by rw [cell_of_row _ W.heap.size 0 _ t (0, 0) (heap_alloc_new W _)]; rfl, by rw [cell_of_row _ W.heap.size 1 _ t (0, 0) (heap_alloc_new W _)]; rfl⟩
theorem Dv.next {W W' : World} {g : Nat} {s T : Int} (h : Dv W g s T) (hb : Below W.heap.size W W') : Dv W' g s T :=
  ⟨Nat.lt_of_lt_of_le h.lt hb.size, (hb.cell (p := ⟨g, 0, none⟩) h.lt).trans h.c0, (hb.cell (p := ⟨g, 1, none⟩) h.lt).trans h.c1⟩
theorem Dv.below {W W' : World} {g B : Nat} {s T : Int} (h : Dv W g s T) (hb : Below B W W') (hg : g < B) : Dv W' g s T :=
  ⟨Nat.lt_of_lt_of_le h.lt hb.size, (hb.cell (p := ⟨g, 0, none⟩) hg).trans h.c0, (hb.cell (p := ⟨g, 1, none⟩) hg).trans h.c1⟩
theorem Dv.drew {W : World} {g : Nat} {s T : Int} (h : Dv W g s T) : Dv W.drew g s T := ⟨h.lt, h.c0, h.c1⟩
theorem below_drew {B : Nat} {a w : World} (h : Below B a w) : Below B a w.drew := ⟨h.os, h.tape, h.output, h.size, h.block⟩

/-- the modules of a width, if those are taken whose cost is at most lim -/
def shareS (s T w lim : Int) : Int := max 1 ((2 * T * w + s + lim).tdiv (2 * s))
/-- how much the numbers of a division may be -/
structure Nums (s T : Int) : Prop where
  s1 : 1 ≤ s
  s2 : s ≤ 4294967296
  t1 : 1 ≤ T
  t2 : T ≤ 65536

theorem prod_bound {T w : Int} (h1 : 1 ≤ T) (h2 : T ≤ 65536) (h3 : 1 ≤ w) (h4 : w ≤ 65536) : 0 ≤ 2 * T * w ∧ 2 * T * w ≤ 8589934592 := by
  have h5 : 0 ≤ 2 * T * w := Int.mul_nonneg (by omega) (by omega)
  have h6 : 2 * T * w ≤ 131072 * 65536 := Int.mul_le_mul (by omega) h4 (by omega) (by omega)
  omega
theorem tdiv_bound {x y : Int} (hx : -4611686018427387904 ≤ x ∧ x ≤ 4611686018427387904) (hy : 1 ≤ y) : -4611686018427387904 ≤ x.tdiv y ∧ x.tdiv y ≤ 4611686018427387904 := by
  rcases Int.le_total 0 x with h | h
  · rw [Int.tdiv_eq_ediv_of_nonneg h]
    have h1 := Int.ediv_nonneg h (show 0 ≤ y by omega)
    have h2 := Int.ediv_le_self y h
    omega
  · have h0 : 0 ≤ -x := by omega
    rw [show x = -(-x) by omega, Int.neg_tdiv, Int.tdiv_eq_ediv_of_nonneg h0]
    have h1 := Int.ediv_nonneg h0 (show 0 ≤ y by omega)
    have h2 := Int.ediv_le_self y h0
    omega

theorem share_any (s T x lim : Int) (w : World) (hN : Nums s T) (hx : 1 ≤ x ∧ x ≤ 65536) (hl : -1152921504606846976 ≤ lim ∧ lim ≤ 1152921504606846976) :
    Calls Try.prog 41 #[.agg #[.int .i64 s, .int .i64 T], .int .i64 x, .int .i64 lim] w fun e w' => e = .returned (.int .i64 (shareS s T x lim)) ∧ Below w.heap.size w w' := by
  obtain ⟨h1, h2, h3, h4⟩ := hN
  have hp := prod_bound h3 h4 hx.1 hx.2
  have hD := Dv.new w s T 48
  obtain ⟨_, hc0, hc1⟩ := hD
  have hs0 : ¬ 2 * s = 0 := by omega
  have hq := tdiv_bound (x := 2 * T * x + s + lim) (y := 2 * s) (by omega) (by omega)
  have HW : Hid (wrap64 ((wrap64 (wrap64 (wrap64 (2 * T * x) + s) + lim)).tdiv (2 * s)) = (2 * T * x + s + lim).tdiv (2 * s)) := by
    show _ = _
    rw [IntWalk.wrap64_in (2 * T * x) (by omega), IntWalk.wrap64_in (2 * T * x + s) (by omega), IntWalk.wrap64_in (2 * T * x + s + lim) (by omega), IntWalk.wrap64_in _ (by omega)]
  clear hp hq
  go_enter Try.func41, Try.ntmps41
  go_wp2
  all_goals
    go_ret
    refine ⟨retI ?_, below_new _ _⟩
    rw [HW.out] at *
    unfold shareS
    omega

/-- how many modules all widths have -/
def neededS (s T : Int) (l : List Int) (lim : Int) : Int := sm (l.map fun x => shareS s T x lim)
theorem tdiv_nonpos {x y : Int} (hx : x ≤ 0) (hy : 1 ≤ y) : x.tdiv y ≤ 0 := by
  rw [show x = -(-x) by omega, Int.neg_tdiv, Int.tdiv_eq_ediv_of_nonneg (by omega)]
  have := Int.ediv_nonneg (show 0 ≤ -x by omega) (show 0 ≤ y by omega)
  omega
theorem shareS_bound {s T x lim : Int} (hN : Nums s T) (hx : 1 ≤ x ∧ x ≤ 65536) (hl : lim ≤ s) : 1 ≤ shareS s T x lim ∧ shareS s T x lim ≤ 8589934592 := by
  obtain ⟨h1, h2, h3, h4⟩ := hN
  have hp := prod_bound h3 h4 hx.1 hx.2
  refine ⟨Int.le_max_left _ _, ?_⟩
  unfold shareS
  rcases Int.le_total 0 (2 * T * x + s + lim) with h | h
  · rw [Int.tdiv_eq_ediv_of_nonneg h]
    have h5 : (2 * T * x + s + lim) / (2 * s) ≤ (2 * T * x) / (2 * s) + 1 := by
      have h6 : 2 * T * x + s + lim ≤ 2 * T * x + 1 * (2 * s) := by omega
      have h7 := Int.ediv_le_ediv (show 0 < 2 * s by omega) h6
      rw [Int.add_mul_ediv_right _ _ (by omega)] at h7
      exact h7
    have h8 : (2 * T * x) / (2 * s) ≤ (2 * T * x) / 2 := by
      rw [← Int.ediv_ediv_of_nonneg (by omega)]
      exact Int.ediv_le_self _ (Int.ediv_nonneg hp.1 (by omega))
    omega
  · have h5 : (2 * T * x + s + lim).tdiv (2 * s) ≤ 0 := tdiv_nonpos h (by omega)
    omega
theorem needed_take {s T : Int} {l : List Int} {k : Nat} (h : k < l.length) (lim : Int) : neededS s T (l.take (k + 1)) lim = neededS s T (l.take k) lim + shareS s T (l.getD k 0) lim := by
  unfold neededS
  rw [List.map_take, sm_take (by simpa using h), ← List.map_take]
  simp [List.getD, h]
theorem needed_bound {s T lim : Int} (hN : Nums s T) (hl : lim ≤ s) (l : List Int) (hok : okW l = true) : (l.length : Int) ≤ neededS s T l lim ∧ neededS s T l lim ≤ 8589934592 * l.length := by
  induction l with
  | nil => simp [neededS, sm]
  | cons x l ih =>
    have hx := okW_mem hok (List.mem_cons_self ..)
    have h2 : okW l = true := by
      simp only [okW, List.all_cons, Bool.and_eq_true] at hok
      exact hok.2
    have h3 := ih h2
    have h4 := shareS_bound hN hx hl
    have e : neededS s T (x :: l) lim = shareS s T x lim + neededS s T l lim := rfl
    rw [e, List.length_cons]
    omega

theorem needed_any (A : Option Addr) (n c : Nat) (l : List Int) (s T lim : Int) (w : World) (hs : Sl w w.heap.size A n c (il l)) (hok : okW l = true) (hn : n ≤ 65536) (hN : Nums s T) (hl1 : -1152921504606846976 ≤ lim ∧ lim ≤ s) :
    Calls Try.prog 40 #[.agg #[.int .i64 s, .int .i64 T], .slice A n c, .int .i64 lim] w fun e w' => e = .returned (.int .i64 (neededS s T l lim)) ∧ Below w.heap.size w w' := by
  have hl : l.length = n := by rw [← length_il]; exact hs.len
  have hmax := hs.max
  have hle := hs.le
  unfold maxLen at hmax
  have HOK := Lib.hid hok
  have hs2 := hN.s2
  have hD := Dv.new w s T 48
  have hb0 := below_new w (.cells #[.int .i64 s, .int .i64 T] 48)
  have hs1 := hs.next hb0
  clear hok
  go_enter Try.func40, Try.ntmps40
  go_wp2
  go_loopw [7, 12] (fun v i wr => ∃ k : Nat, k ≤ n ∧ i = .int .i64 k ∧ v = .int .i64 (neededS s T (l.take k) lim) ∧ Dv wr w.heap.size s T ∧ Below w.heap.size w wr) (fun _ i _ => n - (intOf i).toNat)
  case atStart => exact ⟨0, Nat.zero_le _, rfl, rfl, hD, hb0⟩
  case round =>
    obtain ⟨k, hk, rfl, rfl, hDr, hbel⟩ := hrel
    clear hD hb0 hs1
    by_cases hlt : k < n
    · obtain ⟨b, off, rfl, hb, hc⟩ := (hs.below hbel).at_ hlt (.int .i64 0)
      rw [getD_il l k (by omega)] at hc
      have hk0 : (0 : Int) ≤ k := by omega
      have hk1 : (k : Int) < n := by omega
      have h3 := okW_getD HOK.out (k := k) (by omega)
      have HT := Lib.hid (needed_take (s := s) (T := T) (l := l) (k := k) (by omega) lim)
      have h4 := needed_bound hN hl1.2 (l.take k) (okW_take_true HOK.out k)
      rw [List.length_take] at h4
      obtain ⟨x, hx⟩ : ∃ x, x = l.getD k 0 := ⟨_, rfl⟩
      rw [← hx] at hc HT h3
      clear hx
      have h5 : 0 ≤ neededS s T (l.take k) lim ∧ neededS s T (l.take k) lim ≤ 562949953421312 := by omega
      have h6 := shareS_bound hN h3 hl1.2
      have hc0 := hDr.c0
      have hc1 := hDr.c1
      clear h4
      go_wp2_with fail
      refine (share_any s T x lim _ hN h3 (by omega)).mono ?_
      rintro e w2 ⟨rfl, hb2⟩
      have hDr2 := hDr.next hb2
      have hbel2 := below_step hbel hb2
      clear hDr hbel hb2 hc0 hc1 hc
      go_wp2
      go_roundw
      case rel => exact ⟨k + 1, by omega, by go_num, by rw [HT.out], hDr2, hbel2⟩
      case measure => simp [intOf]; omega
    · obtain rfl : k = n := by omega
      go_wp2
      go_ret
      exact ⟨retI (by rw [List.take_of_length_le (by omega)]), hbel⟩
end Go.Proofs.Ytjobcobgmajajaa
