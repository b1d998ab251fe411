/- Contract of divide. -/
import Derived.Test.YtjobcobgmajajaaWc
import Derived.Test.YtjobcobgmajajaaPure4
set_option linter.unusedVariables false
namespace Go.Proofs.Ytjobcobgmajajaa
open Go.RowKit

theorem il_fill (o : List Int) (t n : Nat) (x : Int) (ho : o.length = t) (h : t < n) : (il (o ++ List.replicate (n - t) 0)).set t (.int .i64 x) = il ((o ++ [x]) ++ List.replicate (n - (t + 1)) 0) := fill_set o t n ho h 0 x (Value.int .i64)
theorem il_fill_at (o : List Int) (t n : Nat) (ho : o.length = t) (h : t < n) : (il (o ++ List.replicate (n - t) 0))[t]? = some (.int .i64 0) := fill_at o t n ho h 0 (Value.int .i64)
theorem il_done_at (o : List Int) (t n : Nat) (x : Int) (ho : o.length = t) : (il ((o ++ [x]) ++ List.replicate (n - (t + 1)) 0))[t]? = some (.int .i64 x) := by
  subst ho
  simp [il]
theorem il_done_set (o : List Int) (t n : Nat) (x y : Int) (ho : o.length = t) : (il ((o ++ [x]) ++ List.replicate (n - (t + 1)) 0)).set t (.int .i64 y) = il ((o ++ [y]) ++ List.replicate (n - (t + 1)) 0) := by
  subst ho
  simp [il]
theorem below_set {B : Nat} {a w : World} (h : Below B a w) (g t : Nat) (hg : B ≤ g) (v : Value) : Below B a (w.setCell ⟨g, t, none⟩ v) := h.setCell (p := ⟨g, t, none⟩) hg v

set_option maxHeartbeats 2000000 in
set_option maxRecDepth 100000 in
theorem divide_any (A : Option Addr) (n c : Nat) (l : List Int) (s T : Int) (w : World) (hs : Sl w w.heap.size A n c (il l)) (hok : okW l = true) (hn : n ≤ 65536) (hn0 : 0 < n) (hT : (n : Int) ≤ T) (hse : s = sm l) (hN : Nums s T) :
    Calls Try.prog 33 #[.agg #[.int .i64 s, .int .i64 T], .slice A n c] w (Gives1 (il (gr s T l (T - n).toNat)) w) := by
  have hl : l.length = n := by rw [← length_il]; exact hs.len
  have hmax := hs.max
  have hle := hs.le
  unfold maxLen at hmax
  have hfb := first_bound hN
  have hs1 := hN.s1
  have hs2 := hN.s2
  have ht2 := hN.t2
  obtain ⟨i0, hi, hz0, hz1, hz2⟩ := info_parts intInfo
  have HSE := Lib.hid hse
  clear hse
  obtain ⟨res, hres⟩ : ∃ res, res = il (gr s T l (T - n).toNat) := ⟨_, rfl⟩
  rw [← hres]
  have HRES := Lib.hid hres
  clear hres
  have D0 := Dv.new w s T 48
  have hb0 := below_new w (.cells #[.int .i64 s, .int .i64 T] 48)
  have hsA := hs.next hb0
  have HLL := Lib.hid (leastLimit_any A n c l s T _ hsA hok hn hN)
  have HN := Lib.hid hN
  have HOK := Lib.hid hok
  have HS := Lib.hid hs
  clear hs hsA hok hN
  have hc0 := D0.c0
  have hc1 := D0.c1
  go_enter Try.func33, Try.ntmps33
  go_wp2_with fail
  refine HLL.out.mono ?_
  rintro e w2 ⟨r, rfl, hr1, hr2, hr3, hb2⟩
  clear HLL
  have HLim : Hid (Lim s T l (-2 * T * s + r)) := by
    have hse := HSE.out
    rw [hse] at hr2 hr3 ⊢
    rw [hse] at hr1
    exact lim_of HOK.out (by omega) (by omega) hr2 hr3
  have hLb : -562949953421312 ≤ -2 * T * s + r ∧ -2 * T * s + (r : Int) ≤ s := by omega
  generalize -2 * T * s + (r : Int) = L at *
  clear hr1 hr2 hr3 hfb r
  have D2 := D0.next hb2
  have hB2 := below_step hb0 hb2
  have hgB : w.heap.size + 1 ≤ w2.heap.size := by have := hb2.size; simp at this; omega
  clear D0 hb0 hb2 hc0 hc1
  have d0 := D2.drew.c0
  have d1 := D2.drew.c1
  have hsD : Sl w2.drew w2.drew.heap.size A n c (il l) := HS.out.next (below_drew hB2)
  have hnb := needed_bound (lim := L - 1) HN.out (by omega) l HOK.out
  rw [hl] at hnb
  have HND := Lib.hid (needed_any A n c l s T (L - 1) w2.drew hsD HOK.out hn HN.out (by omega))
  clear hsD
  obtain ⟨N, hNe⟩ : ∃ N, N = neededS s T l (L - 1) := ⟨_, rfl⟩
  rw [← hNe] at HND hnb
  have HNE := Lib.hid hNe
  clear hNe
  have hw1 : IntKind.i64.wrap (L - 1) = L - 1 := by rw [IntKind.wrap_i64]; omega
  have hw2 : IntKind.i64.wrap (T - N) = T - N := by rw [IntKind.wrap_i64]; omega
  go_wp2
  go_region_held3 (fun V => V.cell? ⟨w.heap.size, 0, none⟩ = some (.int .i64 s) ∧ V.cell? ⟨w.heap.size, 1, none⟩ = some (.int .i64 T))
    (first | (with_reducible exact D3) | go_keep)
    (first
    | (go_at_call 40; (with_reducible refine HND.out.mono ?_); rintro e w3 ⟨rfl, hb3⟩; have D3 : w3.cell? ⟨w.heap.size, 0, none⟩ = some (.int .i64 s) ∧ w3.cell? ⟨w.heap.size, 1, none⟩ = some (.int .i64 T) := ⟨(D2.drew.next hb3).c0, (D2.drew.next hb3).c1⟩; clear d0 d1; obtain ⟨d0, d1⟩ := D3))
  all_goals
    have D4 := D2.drew.next hb3
    have hB4 : Below w.heap.size w w3 := (below_drew hB2).trans (hb3.mono hB2.size)
    have hgC : w.heap.size + 1 ≤ w3.heap.size := Nat.le_trans hgB hb3.size
    clear HND D2 hB2 hb3 hw1 hw2 d0 d1
  have hN0 : N ≤ T := by rw [HNE.out]; exact HLim.out.low
  obtain ⟨R, hR⟩ : ∃ R, R = T - N := ⟨_, rfl⟩
  rw [← hR]
  have hR1 : 0 ≤ R ∧ R ≤ 65536 := by omega
  have HR := Lib.hid hR
  clear hR hN0 hnb
  go_wp2_with (at_make; refine wpList_make_full _ rfl _ _ 22 rfl w3.heap.size 3 i0 (.int .i64 0) 1 Try.underlying22 hi hz0 hz1 _ _ (n : Int) (n : Int) n rfl rfl rfl rfl (by rw [hz2]; omega) (by unfold maxLen; omega) (Nat.le_refl _) ?_)
  intro w5 hown5 hgrow5
  have hb5 : Below w3.heap.size w3 w5 := (Below.refl _ _).grown hgrow5 (Nat.le_refl _) (by simp)
  rw [toList_madeCells_one] at hown5
  have D5 := D4.next hb5
  have hB5 := below_step hB4 hb5
  have hgD := hb5.size
  clear hgrow5 hb5 D4 hB4
  generalize w3.heap.size = g at *
  go_wp2
  go_loopw [6, 26] (fun rv i wr => ∃ t : Nat, t ≤ n ∧ i = .int .i64 t ∧ rv = .int .i64 (restAt s T L (l.take t) R) ∧ wr.ownsRow g 3 1 (.slice (some ⟨g, 0, none⟩) n n) n (il (divS s T L (l.take t) R ++ List.replicate (n - t) 0)) ∧ Dv wr w.heap.size s T ∧ Below w.heap.size w wr ∧ g < wr.heap.size)
    (fun _ i _ => n - (intOf i).toNat)
  case atStart =>
    have hgl : g < w5.heap.size := by
      rcases hown5.2 with ⟨h, _⟩ | ⟨g', cap, cur, h, _, hg, _⟩
      · cases h
      · simp only [Value.slice.injEq, Option.some.injEq, Addr.mk.injEq, and_true] at h
        rw [h.1]
        exact (Array.getElem?_eq_some_iff.1 hg).1
    refine ⟨0, Nat.zero_le _, rfl, rfl, ?_, D5, hB5, hgl⟩
    have e : il (divS s T L (l.take 0) R ++ List.replicate (n - 0) 0) = List.replicate n (.int .i64 0) := by simp [il, divS]
    rw [e]
    exact hown5
  case round =>
    obtain ⟨t, ht, rfl, rfl, hown, D, hbel, hgr⟩ := hrel
    clear hown5 D5 hB5
    by_cases hlt : t < n
    · obtain ⟨b, off, rfl, hb, hc⟩ := (HS.out.below hbel).at_ hlt (.int .i64 0)
      rw [getD_il l t (by omega)] at hc
      have hk0 : (0 : Int) ≤ t := by omega
      have hk1 : (t : Int) < n := by omega
      have h3 := okW_getD HOK.out (k := t) (by omega)
      have hot : (divS s T L (l.take t) R).length = t := by rw [length_divS, List.length_take]; omega
      have HTK := Lib.hid (take_snoc (l := l) (k := t) (by omega))
      have HDS := Lib.hid (divS_snoc s T L (l.take t) (l.getD t 0) R)
      have HRS := Lib.hid (restAt_snoc s T L (l.take t) (l.getD t 0) R)
      have hrl := restAt_le s T L l R 0 t (Nat.zero_le _) (by omega)
      rw [List.take_zero, show restAt s T L [] R = R from rfl] at hrl
      rw [← HTK.out] at HDS HRS
      clear HTK
      generalize divS s T L (l.take t) R = o at *
      generalize restAt s T L (l.take t) R = q at *
      obtain ⟨x, hx⟩ : ∃ x, x = l.getD t 0 := ⟨_, rfl⟩
      rw [← hx] at hc HDS HRS h3
      clear hx
      have hc0 := D.c0
      have hc1 := D.c1
      go_wp2_with fail
      refine (share_any s T x (L - 1) _ HN.out h3 (by omega)).mono ?_
      rintro e w6 ⟨rfl, hb6⟩
      have D6 := D.next hb6
      have hown6 := own_kept hown hb6 (fun k hk => by simp [Value.ownBlock] at hk; omega)
      have hgr6 := Nat.lt_of_lt_of_le hgr hb6.size
      have hbel6 := below_step hbel hb6
      have hnx := share_next (s := s) (T := T) (x := x) (L := L) (by omega)
      have hsb := shareS_bound (lim := L) HN.out h3 (by omega)
      have ho1 := share_one s T x (L - 1)
      have HSH := fun W => share_any s T x L W HN.out h3 (by omega)
      have HMO : Hid (more s T L q x ↔ (0 < q ∧ shareS s T x (L - 1) < shareS s T x L)) := Iff.rfl
      generalize shareS s T x (L - 1) = bs at *
      generalize shareS s T x L = tp at *
      clear hown D hb6 hbel hgr hc0 hc1
      have hcell := hown6.cellAt t (by omega)
      rw [il_fill_at o t n hot hlt] at hcell
      have hfr := hown6.frozenAt t
      have hst := (hown6.stored t (.int .i64 bs)).1
      rw [il_fill o t n bs hot hlt] at hst
      have D7 := D6.below (below_set (Below.refl (w.heap.size + 1) w6) g t hgC (.int .i64 bs)) (by omega)
      have hbel7 := below_set hbel6 g t (by omega) (.int .i64 bs)
      have hgr7 : g < (w6.setCell ⟨g, t, none⟩ (.int .i64 bs)).heap.size := Nat.lt_of_lt_of_le hgr6 (below_set (Below.refl g w6) g t (Nat.le_refl _) (.int .i64 bs)).size
      have H7 := Lib.hid (And.intro hst (And.intro D7 (And.intro hbel7 hgr7)))
      clear hst D7 hbel7 hgr7 hown6 D6 hbel6 hgr6
      have hHS := Lib.hid HSH
      clear HSH
      go_wp2
      obtain ⟨hst, D7, hbel7, hgr7⟩ := H7.out
      clear H7 hcell hfr
      generalize w6.setCell ⟨g, t, none⟩ (.int .i64 bs) = w7 at *
      by_cases hq : 0 < q
      · have hc7 := hst.cellAt t (by omega)
        rw [il_done_at o t n bs hot] at hc7
        have d0 := D7.drew.c0
        have d1 := D7.drew.c1
        have d2 : w7.drew.cell? ⟨g, t, none⟩ = some (.int .i64 bs) := hc7
        by_cases hbt : bs < tp
        · have hbt1 : decide (bs < tp) = true := by simpa using hbt
          have HM : Hid (more s T L q x) := HMO.out.2 ⟨hq, hbt⟩
          go_region_held3 (fun V => V.cell? ⟨w.heap.size, 0, none⟩ = some (.int .i64 s) ∧ V.cell? ⟨w.heap.size, 1, none⟩ = some (.int .i64 T) ∧ V.cell? ⟨g, t, none⟩ = some (.int .i64 bs))
            (first | (with_reducible exact F8) | go_keep)
            (first
            | (go_at_call 41; (with_reducible refine (hHS.out _).mono ?_); rintro e w8 ⟨rfl, hb8⟩; have F8 : w8.cell? ⟨w.heap.size, 0, none⟩ = some (.int .i64 s) ∧ w8.cell? ⟨w.heap.size, 1, none⟩ = some (.int .i64 T) ∧ w8.cell? ⟨g, t, none⟩ = some (.int .i64 bs) := ⟨(D7.drew.next hb8).c0, (D7.drew.next hb8).c1, (hb8.cell (p := ⟨g, t, none⟩) hgr7).trans d2⟩; clear d0 d1 d2; obtain ⟨d0, d1, d2⟩ := F8))
          all_goals
            have D8 := D7.drew.next hb8
            have hst8 := own_kept (own_drew hst) hb8 (fun k hk => by simp [Value.ownBlock] at hk; subst hk; exact hgr7)
            have hbel8 : Below w.heap.size w w8 := (below_drew hbel7).trans (hb8.mono hbel7.size)
            have hgr8 : g < w8.heap.size := Nat.lt_of_lt_of_le hgr7 hb8.size
            clear D7 hst hbel7 hgr7 hb8 d0 d1 hHS
          all_goals
            have hfr8 := hst8.frozenAt t
            have hstZ := (hst8.stored t (.int .i64 (bs + 1))).1
            rw [il_done_set o t n bs (bs + 1) hot] at hstZ
            have D9 := D8.below (below_set (Below.refl (w.heap.size + 1) w8) g t hgC (.int .i64 (bs + 1))) (by omega)
            have hbel9 := below_set hbel8 g t (by omega) (.int .i64 (bs + 1))
            have hgr9 : g < (w8.setCell ⟨g, t, none⟩ (.int .i64 (bs + 1))).heap.size := Nat.lt_of_lt_of_le hgr8 (below_set (Below.refl g w8) g t (Nat.le_refl _) (.int .i64 (bs + 1))).size
            have H9 := Lib.hid (And.intro hstZ (And.intro D9 (And.intro hbel9 hgr9)))
            clear hstZ D9 hbel9 hgr9 hst8 D8 hbel8 hgr8
            go_wp2
            go_roundw
            case rel =>
              refine ⟨t + 1, by omega, by go_num, by rw [HRS.out, if_pos HM.out], ?_, H9.out.2.1, H9.out.2.2.1, H9.out.2.2.2⟩
              rw [HDS.out, if_pos HM.out]
              exact H9.out.1
            case measure => simp [intOf]; omega
        · have hbt1 : decide (bs < tp) = false := by simpa using hbt
          have hbt2 : tp ≤ bs := by omega
          have HM : Hid (¬ more s T L q x) := fun h => hbt (HMO.out.1 h).2
          clear hbt
          go_region_held3 (fun V => V.cell? ⟨w.heap.size, 0, none⟩ = some (.int .i64 s) ∧ V.cell? ⟨w.heap.size, 1, none⟩ = some (.int .i64 T) ∧ V.cell? ⟨g, t, none⟩ = some (.int .i64 bs))
            (first | (with_reducible exact F8) | go_keep)
            (first
            | (go_at_call 41; (with_reducible refine (hHS.out _).mono ?_); rintro e w8 ⟨rfl, hb8⟩; have F8 : w8.cell? ⟨w.heap.size, 0, none⟩ = some (.int .i64 s) ∧ w8.cell? ⟨w.heap.size, 1, none⟩ = some (.int .i64 T) ∧ w8.cell? ⟨g, t, none⟩ = some (.int .i64 bs) := ⟨(D7.drew.next hb8).c0, (D7.drew.next hb8).c1, (hb8.cell (p := ⟨g, t, none⟩) hgr7).trans d2⟩; clear d0 d1 d2; obtain ⟨d0, d1, d2⟩ := F8))
          all_goals
            have D8 := D7.drew.next hb8
            have hst8 := own_kept (own_drew hst) hb8 (fun k hk => by simp [Value.ownBlock] at hk; subst hk; exact hgr7)
            have hbel8 : Below w.heap.size w w8 := (below_drew hbel7).trans (hb8.mono hbel7.size)
            have hgr8 : g < w8.heap.size := Nat.lt_of_lt_of_le hgr7 hb8.size
            clear D7 hst hbel7 hgr7 hb8 d0 d1 hHS
          all_goals
            clear d2
            go_wp2
            go_roundw
            case rel =>
              refine ⟨t + 1, by omega, by go_num, by rw [HRS.out, if_neg HM.out], ?_, D8, hbel8, hgr8⟩
              rw [HDS.out, if_neg HM.out]
              exact hst8
            case measure => simp [intOf]; omega
      · have hq2 : decide (0 < q) = false := by simpa using hq
        have HM : Hid (¬ more s T L q x) := fun h => hq (HMO.out.1 h).1
        clear hHS
        go_quiet (fail)
        go_wp2
        go_roundw
        case rel =>
          refine ⟨t + 1, by omega, by go_num, by rw [HRS.out, if_neg HM.out], ?_, ⟨D7.lt, D7.c0, D7.c1⟩, below_drawn hbel7 _, hgr7⟩
          rw [HDS.out, if_neg HM.out]
          exact hst
        case measure => simp [intOf]; omega
    · obtain rfl : t = n := by omega
      have HRQ : Hid (divS s T L l R = gr s T l (T - t).toNat) := by
        have hse := HSE.out
        have h1 := div_eq_gr (T := T) (L := L) HOK.out (by omega) (by omega) (by rw [← hse]; exact HLim.out)
        rw [← hse, hl, ← HNE.out, ← HR.out] at h1
        exact h1
      have hrn : restAt s T L (l.take t) R = restAt s T L (l.take t) R := rfl
      generalize restAt s T L (l.take t) R = q at *
      go_wp2
      go_ret
      rw [List.take_of_length_le (by omega), Nat.sub_self, List.replicate_zero, List.append_nil, HRQ.out] at hown
      rw [HRES.out]
      exact gives1_own (by rw [length_il, ← HRQ.out, length_divS]; exact hl) hown hbel
end Go.Proofs.Ytjobcobgmajajaa
