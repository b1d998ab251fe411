/- Contracts: sums of limbs. -/
import Derived.Test.YtebbpodcldndjaaW2
set_option linter.unusedVariables false
namespace Go.Proofs.Ytebbpodcldndjaa
open Go.RowKit

theorem getD_end (l : List Nat) (k : Nat) (h : l.length ≤ k) : l.getD k 0 = 0 := by rw [List.getD_eq_getElem?_getD, List.getElem?_eq_none h]; rfl
theorem ml_zeros (n : Nat) : List.replicate n (Value.int .u32 0) = ml (List.replicate n 0) := by simp [ml]
/-- limbs under way: those that are written, then zeros -/
theorem ok_zeros (k : Nat) : Ok (List.replicate k 0) := fun y hy => by rw [List.eq_of_mem_replicate hy]; decide

set_option maxRecDepth 100000 in
theorem add_core (sw : Bool) (A A' : Option Addr) (n c n' c' : Nat) (l l' : List Nat) (w : World) (hs : Sl w w.heap.size A n c (ml l)) (hs' : Sl w w.heap.size A' n' c' (ml l')) (hok : Ok l) (hok' : Ok l')
    (hn : n ≤ 1048576) (hnn : n' ≤ n) (hsw : sw = true → n' < n) :
    Calls Try.prog 65 (if sw then #[.slice A' n' c', .slice A n c] else #[.slice A n c, .slice A' n' c']) w (Mag (enc (val l + val l')) w) := by
  have hl : l.length = n := by rw [← length_ml]; exact hs.len
  have hl' : l'.length = n' := by rw [← length_ml]; exact hs'.len
  have hmax := hs.max
  have hle := hs.le
  have hle' := hs'.le
  have hmax' := hs'.max
  unfold maxLen at hmax hmax'
  have hi1 : (n' : Int) ≤ n := by omega
  obtain ⟨i0, hi, hz0, hz1, hz2⟩ := info_parts limbInfo
  have hsw' : sw = true → (n' : Int) < n := fun h => by have := hsw h; omega
  cases sw
  all_goals
    first
      | (have hlt := hsw' rfl; rw [if_pos rfl])
      | (rw [if_neg (by simp)])
    clear hsw' hsw
    go_enter Try.func65, Try.ntmps65
    go_wp2_with (at_make; refine wpList_make_full _ rfl _ _ 22 rfl w.heap.size 63 i0 (.int .u32 0) 1 Try.underlying22 hi hz0 hz1 _ _ ((n : Int) + 1) ((n : Int) + 1) (n + 1) rfl rfl (by omega) (by omega) (by rw [hz2]; omega) (by unfold maxLen; omega) (Nat.le_refl _) ?_)
    intro w1 hown1 hgrow1
    have hbel1 : Below w.heap.size w w1 := (Below.refl _ _).grown hgrow1 (Nat.le_refl _) (by simp)
    rw [toList_madeCells_one, ml_zeros] at hown1
    clear hgrow1
    go_wp2
    go_loopw [6, 22] (fun cr i wr => ∃ (t C : Nat) (o : List Nat), t ≤ n ∧ i = .int .i64 t ∧ cr = .int .u64 (C : Int) ∧ C ≤ 1 ∧ o.length = t ∧ Hid (Ok o ∧ val o + 4294967296 ^ t * C = val (l.take t) + val (l'.take t)) ∧ wr.ownsRow w.heap.size 63 1 (.slice (some ⟨w.heap.size, 0, none⟩) (n + 1) (n + 1)) (n + 1) (ml (o ++ List.replicate (n + 1 - t) 0)) ∧ Below w.heap.size w wr)
      (fun _ i _ => n - (intOf i).toNat)
    case atStart => exact ⟨0, 0, [], Nat.zero_le _, rfl, rfl, by omega, rfl, Lib.hid ⟨Ok.nil, by simp [val_nil]⟩, hown1, hbel1⟩
    case round =>
      obtain ⟨t, C, o, ht, rfl, rfl, hC, hot, hv, hownr, hbel⟩ := hrel
      clear hown1 hbel1
      have hsz := hbel.size
      by_cases hlt : t < n
      · obtain ⟨x, hx⟩ : ∃ x, l.getD t 0 = x := ⟨_, rfl⟩
        obtain ⟨y, hy⟩ : ∃ y, l'.getD t 0 = y := ⟨_, rfl⟩
        have hxl : x < 4294967296 := by rw [← hx]; exact hok.getD t
        have hyl : y < 4294967296 := by rw [← hy]; exact hok'.getD t
        obtain ⟨b, off, rfl, hb, hc⟩ := (hs.below hbel).at_ hlt (.int .u32 0)
        rw [getD_ml l t (by omega), hx] at hc
        have hcell := hownr.cellAt t (by omega)
        have hfr := hownr.frozenAt t
        rw [show (ml (o ++ List.replicate (n + 1 - t) 0))[t]? = some (.int .u32 0) from fill_at _ t (n + 1) hot (by omega) 0 fun (x : Nat) => Value.int .u32 (x : Int)] at hcell
        obtain ⟨s, hs0⟩ : ∃ s, s = x + y + C := ⟨_, rfl⟩
        have hsl : s < 8589934592 := by omega
        have h2 := (hownr.stored t (.int .u32 ((s % 4294967296 : Nat) : Int))).1
        rw [show (ml (o ++ List.replicate (n + 1 - t) 0)).set t (.int .u32 ((s % 4294967296 : Nat) : Int)) = ml ((o ++ [s % 4294967296]) ++ List.replicate (n + 1 - (t + 1)) 0) from fill_set _ t (n + 1) hot (by omega) 0 (s % 4294967296) fun (x : Nat) => Value.int .u32 (x : Int)] at h2
        have H2 := Lib.hid h2
        have HB := Lib.hid (hbel.setCell (p := ⟨w.heap.size, t, none⟩) (Nat.le_refl _) (.int .u32 ((s % 4294967296 : Nat) : Int)))
        have HV : Hid (Ok (o ++ [s % 4294967296]) ∧ val (o ++ [s % 4294967296]) + 4294967296 ^ (t + 1) * (s / 4294967296) = val (l.take (t + 1)) + val (l'.take (t + 1))) :=
          Lib.hid ⟨hv.out.1.snoc (by omega), by rw [val_snoc, val_take, val_take, hx, hy, hot, Nat.pow_succ]; exact step_add hv.out.2 hs0⟩
        have hw : (C : Int) + x + y = s := by omega
        clear h2 hv hx
        by_cases hlt' : t < n'
        · obtain ⟨b', off', rfl, hb', hc'⟩ := (hs'.below hbel).at_ hlt' (.int .u32 0)
          rw [getD_ml l' t (by omega), hy] at hc'
          clear hy
          go_wp2
          go_roundw
          case rel =>
            have e1 : ((x : Int) + y + C) / 4294967296 = ((s / 4294967296 : Nat) : Int) := by omega
            have e2 : ((x : Int) + y + C) % 4294967296 = ((s % 4294967296 : Nat) : Int) := by omega
            rw [e1, e2]
            exact ⟨t + 1, s / 4294967296, o ++ [s % 4294967296], by omega, by go_num, rfl, by omega, by simp [hot], HV, H2.out, HB.out⟩
          case measure => simp [intOf]; omega
        · obtain rfl : y = 0 := by rw [← hy]; exact getD_end l' t (by omega)
          clear hy
          go_wp2
          go_roundw
          case rel =>
            have e1 : ((C : Int) + x) / 4294967296 = ((s / 4294967296 : Nat) : Int) := by omega
            have e2 : ((C : Int) + x) % 4294967296 = ((s % 4294967296 : Nat) : Int) := by omega
            rw [e1, e2]
            exact ⟨t + 1, s / 4294967296, o ++ [s % 4294967296], by omega, by go_num, rfl, by omega, by simp [hot], HV, H2.out, HB.out⟩
          case measure => simp [intOf]; omega
      · obtain rfl : t = n := by omega
        have hv1 := hv.out
        rw [List.take_of_length_le (l := l) (by omega), List.take_of_length_le (l := l') (by omega)] at hv1
        have hcell := hownr.cellAt t (by omega)
        have hfr := hownr.frozenAt t
        rw [show (ml (o ++ List.replicate (t + 1 - t) 0))[t]? = some (.int .u32 0) from fill_at _ t (t + 1) hot (by omega) 0 fun (x : Nat) => Value.int .u32 (x : Int)] at hcell
        have h2 := (hownr.stored t (.int .u32 (C : Int))).1
        rw [show (ml (o ++ List.replicate (t + 1 - t) 0)).set t (.int .u32 (C : Int)) = ml ((o ++ [C]) ++ List.replicate (t + 1 - (t + 1)) 0) from fill_set _ t (t + 1) hot (by omega) 0 C fun (x : Nat) => Value.int .u32 (x : Int)] at h2
        rw [Nat.sub_self, List.replicate_zero, List.append_nil] at h2
        have H2 := Lib.hid (Sl.of_own h2)
        have HB := Lib.hid (hbel.setCell (p := ⟨w.heap.size, t, none⟩) (Nat.le_refl _) (.int .u32 (C : Int)))
        have HV := Lib.hid (show Ok (o ++ [C]) ∧ val (o ++ [C]) = val l + val l' from ⟨hv1.1.snoc (by omega), by rw [val_snoc, hot]; exact hv1.2⟩)
        have hcl : (C : Int) % 4294967296 = C := by omega
        clear h2 hv hv1
        go_wp2_with fail
        refine (trim_any _ _ _ (o ++ [C]) _ H2.out HV.out.1).mono ?_
        rw [HV.out.2]
        rintro e w' ⟨hm, rfl⟩
        obtain ⟨A2, c2, rfl, hs2, _⟩ := hm
        go_wp2
        go_ret
        exact ⟨A2, c2, rfl, hs2, HB.out⟩

theorem add_any (A A' : Option Addr) (n c n' c' : Nat) (l l' : List Nat) (w : World) (hs : Sl w w.heap.size A n c (ml l)) (hs' : Sl w w.heap.size A' n' c' (ml l')) (hok : Ok l) (hok' : Ok l') (hn : n ≤ 1048576) (hn' : n' ≤ 1048576) :
    Calls Try.prog 65 #[.slice A n c, .slice A' n' c'] w (Mag (enc (val l + val l')) w) := by
  by_cases h : n < n'
  · have := add_core true A' A n' c' n c l' l w hs' hs hok' hok hn' (by omega) (fun _ => h)
    rw [Nat.add_comm, if_pos rfl] at this
    exact this
  · have := add_core false A A' n c n' c' l l' w hs hs' hok hok' hn (by omega) (fun h => by cases h)
    rw [if_neg (by simp)] at this
    exact this

/-- the limb of a difference, and what is borrowed -/
theorem borrow_of (x y C : Nat) (hx : x < 4294967296) (hy : y < 4294967296) (hC : C ≤ 1) : ∃ s d, s + y + C = x + 4294967296 * d ∧ d ≤ 1 ∧ s < 4294967296 := by
  by_cases h : x < y + C
  · exact ⟨x + 4294967296 - y - C, 1, by omega, by omega, by omega⟩
  · exact ⟨x - y - C, 0, by omega, by omega, by omega⟩
theorem borrow_end {O a b P C : Nat} (h : O + b = a + P * C) (hO : O < P) (hb : b ≤ a) (hC : C ≤ 1) : O = a - b := by
  obtain rfl | rfl : C = 0 ∨ C = 1 := by omega
  · omega
  · omega

set_option maxRecDepth 100000 in
theorem subtract_any (A A' : Option Addr) (n c n' c' : Nat) (l l' : List Nat) (w : World) (hs : Sl w w.heap.size A n c (ml l)) (hs' : Sl w w.heap.size A' n' c' (ml l')) (hok : Ok l) (hok' : Ok l')
    (hn : n ≤ 1048576) (hnn : n' ≤ n) (hle0 : val l' ≤ val l) :
    Calls Try.prog 66 #[.slice A n c, .slice A' n' c'] w (Mag (enc (val l - val l')) w) := by
  have hl : l.length = n := by rw [← length_ml]; exact hs.len
  have hl' : l'.length = n' := by rw [← length_ml]; exact hs'.len
  have hmax := hs.max
  have hle := hs.le
  have hle' := hs'.le
  have hmax' := hs'.max
  unfold maxLen at hmax hmax'
  have HL := Lib.hid hle0
  clear hle0
  obtain ⟨i0, hi, hz0, hz1, hz2⟩ := info_parts limbInfo
  go_enter Try.func66, Try.ntmps66
  go_wp2_with (at_make; refine wpList_make_full _ rfl _ _ 22 rfl w.heap.size 63 i0 (.int .u32 0) 1 Try.underlying22 hi hz0 hz1 _ _ (n : Int) (n : Int) n rfl rfl rfl rfl (by rw [hz2]; omega) (by unfold maxLen; omega) (Nat.le_refl _) ?_)
  intro w1 hown1 hgrow1
  have hbel1 : Below w.heap.size w w1 := (Below.refl _ _).grown hgrow1 (Nat.le_refl _) (by simp)
  rw [toList_madeCells_one, ml_zeros] at hown1
  clear hgrow1
  go_wp2
  go_loopw [6, 15] (fun cr i wr => ∃ (t C : Nat) (o : List Nat), t ≤ n ∧ i = .int .i64 t ∧ cr = .int .u64 (C : Int) ∧ C ≤ 1 ∧ o.length = t ∧ Hid (Ok o ∧ val o + val (l'.take t) = val (l.take t) + 4294967296 ^ t * C) ∧ wr.ownsRow w.heap.size 63 1 (.slice (some ⟨w.heap.size, 0, none⟩) n n) n (ml (o ++ List.replicate (n - t) 0)) ∧ Below w.heap.size w wr)
    (fun _ i _ => n - (intOf i).toNat)
  case atStart => exact ⟨0, 0, [], Nat.zero_le _, rfl, rfl, by omega, rfl, Lib.hid ⟨Ok.nil, by simp [val_nil]⟩, hown1, hbel1⟩
  case round =>
    obtain ⟨t, C, o, ht, rfl, rfl, hC, hot, hv, hownr, hbel⟩ := hrel
    clear hown1 hbel1
    have hsz := hbel.size
    by_cases hlt : t < n
    · obtain ⟨x, hx⟩ : ∃ x, l.getD t 0 = x := ⟨_, rfl⟩
      obtain ⟨y, hy⟩ : ∃ y, l'.getD t 0 = y := ⟨_, rfl⟩
      have hxl : x < 4294967296 := by rw [← hx]; exact hok.getD t
      have hyl : y < 4294967296 := by rw [← hy]; exact hok'.getD t
      obtain ⟨b, off, rfl, hb, hc⟩ := (hs.below hbel).at_ hlt (.int .u32 0)
      rw [getD_ml l t (by omega), hx] at hc
      have hcell := hownr.cellAt t (by omega)
      have hfr := hownr.frozenAt t
      rw [show (ml (o ++ List.replicate (n - t) 0))[t]? = some (.int .u32 0) from fill_at _ t n hot (by omega) 0 fun (x : Nat) => Value.int .u32 (x : Int)] at hcell
      obtain ⟨s, d, hs0, hd, hsl⟩ := borrow_of x y C hxl hyl hC
      have h2 := (hownr.stored t (.int .u32 (s : Int))).1
      rw [show (ml (o ++ List.replicate (n - t) 0)).set t (.int .u32 (s : Int)) = ml ((o ++ [s]) ++ List.replicate (n - (t + 1)) 0) from fill_set _ t n hot (by omega) 0 s fun (x : Nat) => Value.int .u32 (x : Int)] at h2
      have H2 := Lib.hid h2
      have HB := Lib.hid (hbel.setCell (p := ⟨w.heap.size, t, none⟩) (Nat.le_refl _) (.int .u32 (s : Int)))
      have HV : Hid (Ok (o ++ [s]) ∧ val (o ++ [s]) + val (l'.take (t + 1)) = val (l.take (t + 1)) + 4294967296 ^ (t + 1) * d) :=
        Lib.hid ⟨hv.out.1.snoc hsl, by rw [val_snoc, val_take, val_take, hx, hy, hot, Nat.pow_succ]; exact step_sub hv.out.2 hC hxl hyl hs0⟩
      have HS := Lib.hid hs0
      clear h2 hv hx hs0
      by_cases hlt' : t < n'
      · obtain ⟨b', off', rfl, hb', hc'⟩ := (hs'.below hbel).at_ hlt' (.int .u32 0)
        rw [getD_ml l' t (by omega), hy] at hc'
        clear hy
        go_wp2
        have e0 : IntKind.u64.wrap (IntKind.u64.wrap ((x : Int) - C) - y) = (s : Int) + d * 18446744069414584320 := by
          have := HS.out
          simp only [IntKind.wrap_u64]
          omega
        go_roundw
        case rel =>
          rw [e0]
          have e1 : ((s : Int) + d * 18446744069414584320) / 9223372036854775808 = (d : Int) := by omega
          have e2 : ((s : Int) + d * 18446744069414584320) % 4294967296 = (s : Int) := by omega
          rw [e1, e2]
          exact ⟨t + 1, d, o ++ [s], by omega, by go_num, rfl, by omega, by simp [hot], HV, H2.out, HB.out⟩
        case measure => simp [intOf]; omega
      · obtain rfl : y = 0 := by rw [← hy]; exact getD_end l' t (by omega)
        clear hy
        go_wp2
        have e0 : IntKind.u64.wrap ((x : Int) - C) = (s : Int) + d * 18446744069414584320 := by
          have := HS.out
          simp only [IntKind.wrap_u64]
          omega
        go_roundw
        case rel =>
          rw [e0]
          have e1 : ((s : Int) + d * 18446744069414584320) / 9223372036854775808 = (d : Int) := by omega
          have e2 : ((s : Int) + d * 18446744069414584320) % 4294967296 = (s : Int) := by omega
          rw [e1, e2]
          exact ⟨t + 1, d, o ++ [s], by omega, by go_num, rfl, by omega, by simp [hot], HV, H2.out, HB.out⟩
        case measure => simp [intOf]; omega
    · obtain rfl : t = n := by omega
      have hv1 := hv.out
      rw [List.take_of_length_le (l := l) (by omega), List.take_of_length_le (l := l') (by omega)] at hv1
      have h2 := hownr
      rw [Nat.sub_self, List.replicate_zero, List.append_nil] at h2
      have H2 := Lib.hid (Sl.of_own h2)
      have HV := Lib.hid (show Ok o ∧ val o = val l - val l' from ⟨hv1.1, borrow_end hv1.2 (by have := val_lt o hv1.1; rwa [hot] at this) HL.out hC⟩)
      clear h2 hv hv1 hownr
      go_wp2_with fail
      refine (trim_any _ _ _ o _ H2.out HV.out.1).mono ?_
      rw [HV.out.2]
      rintro e w' ⟨hm, rfl⟩
      obtain ⟨A2, c2, rfl, hs2, _⟩ := hm
      go_wp2
      go_ret
      exact ⟨A2, c2, rfl, hs2, hbel⟩
end Go.Proofs.Ytebbpodcldndjaa
