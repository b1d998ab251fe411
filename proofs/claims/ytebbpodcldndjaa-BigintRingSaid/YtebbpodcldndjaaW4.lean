/- Contracts: Trim, plus and minus of the specification. -/
import Derived.Test.YtebbpodcldndjaaW3
set_option linter.unusedVariables false
namespace Go.Proofs.Ytebbpodcldndjaa
open Go.RowKit

theorem Mag.of {l : List Nat} {w wk w' : World} {e : Ending} (h : Mag l wk e w') (hb : Below w.heap.size w wk) : Mag l w e w' := by
  obtain ⟨A, c, he, hs, hbel⟩ := h
  exact ⟨A, c, he, hs, hb.trans (hbel.mono hb.size)⟩
theorem ml_append (a b : List Nat) : ml (a ++ b) = ml a ++ ml b := by simp [ml]

set_option maxRecDepth 100000 in
theorem rTrim_any (A : Option Addr) (n c : Nat) (l : List Nat) (w : World) (hs : Sl w w.heap.size A n c (ml l)) (hok : Ok l) (hn : n ≤ 1048577) :
    Calls Try.prog 84 #[.slice A n c] w (Mag (enc (val l)) w) := by
  have hl : l.length = n := by rw [← length_ml]; exact hs.len
  have hmax := hs.max
  have hle := hs.le
  unfold maxLen at hmax
  obtain ⟨i0, hi, hz0, hz1, hz2⟩ := info_parts limbInfo
  have hbel0 : Below w.heap.size w (w.alloc (.cells #[] 63)) := (Below.refl _ _).alloc (Nat.le_refl _) _
  have hown0 : (w.alloc (.cells #[] 63)).ownsRow w.heap.size 63 1 (.slice (some ⟨w.heap.size, 0, none⟩) 0 0) 0 [] := World.ownsRow_lit w #[] 0 (Nat.le_refl _) (by unfold maxLen; omega) rfl
  go_enter Try.func84, Try.ntmps84
  go_wp2
  go_loop [3] (fun i => ∃ k : Nat, k ≤ n ∧ i = .int .i64 k ∧ Hid (val (l.take k) = val l)) (fun i => (intOf i).toNat)
  case atStart => exact ⟨n, Nat.le_refl _, rfl, Lib.hid (by rw [List.take_of_length_le (by omega)])⟩
  case round =>
    obtain ⟨k, hk, rfl, hv⟩ := hrel
    by_cases h0 : k = 0
    · subst h0
      have he := Lib.hid (enc_cut l 0 hok (by omega) hv.out (.inl rfl))
      have HP := Lib.hid (hs.pre hk)
      go_wp2_with (at_builtin; refine wpList_append_slice rfl _ _ 22 rfl w.heap.size 63 i0 (.int .u32 0) 4 Try.underlying22 hi hz0 hz1 hz2 rfl _ 0 [] rfl hown0 w.heap.size _ _ _ (ml (l.take 0)) rfl ?c0 (one_ml _) (by unfold maxLen; omega) (by omega) (by simp) ?_)
      case c0 => exact Sl.below (by have := HP.out; rw [take_ml] at this; exact this) hbel0
      intro v1 w2 hown2 hgrow2
      have hbel2 : Below w.heap.size w w2 := hbel0.grown hgrow2 (by simp) (fun k hk => (hown0.lt k hk).1)
      obtain ⟨A2, c2, rfl⟩ := own_slice hown2
      clear hgrow2
      go_wp2
      go_ret
      refine ⟨A2, c2, ?_, ?_, hbel2⟩
      · rw [he.out]; rfl
      · rw [he.out]; exact Sl.of_own hown2
    obtain ⟨k, rfl⟩ : ∃ j, k = j + 1 := ⟨k - 1, by omega⟩
    have HP := Lib.hid (hs.pre hk)
    obtain ⟨b, off, rfl, hb, hc⟩ := hs.at_ (show k < n by omega) (.int .u32 0)
    rw [getD_ml l k (by omega)] at hc
    by_cases hx : l.getD k 0 = 0
    · have hv' : Hid (val (l.take k) = val l) := Lib.hid (by rw [← hv.out, val_take, hx]; simp)
      rw [hx] at hc
      clear hv
      go_wp2
      go_round
      case rel => exact ⟨k, by omega, by go_num, hv'⟩
      case measure => simp [intOf]
    · have he := Lib.hid (enc_cut l (k + 1) hok (by omega) hv.out (.inr (by rw [Nat.add_sub_cancel]; exact hx)))
      have hx' : (((l.getD k 0 : Nat) : Int) == 0) = false := natB (b := 0) hx
      generalize l.getD k 0 = x at *
      clear hv
      go_wp2_with (at_builtin; refine wpList_append_slice rfl _ _ 22 rfl w.heap.size 63 i0 (.int .u32 0) 4 Try.underlying22 hi hz0 hz1 hz2 rfl _ 0 [] rfl hown0 w.heap.size _ _ _ (ml (l.take (k + 1))) rfl ?c0 (one_ml _) (by unfold maxLen; omega) (by omega) (by simp) ?_)
      case c0 => exact Sl.below (by have := HP.out; rw [take_ml] at this; exact this) hbel0
      intro v1 w2 hown2 hgrow2
      have hbel2 : Below w.heap.size w w2 := hbel0.grown hgrow2 (by simp) (fun k hk => (hown0.lt k hk).1)
      obtain ⟨A2, c2, rfl⟩ := own_slice hown2
      clear hgrow2
      go_wp2
      go_ret
      have hlen : (enc (val l)).length = k + 1 := by rw [he.out, List.length_take]; omega
      refine ⟨A2, c2, by rw [hlen]; rfl, ?_, hbel2⟩
      rw [hlen, he.out]
      exact Sl.of_own hown2

set_option maxRecDepth 100000 in
theorem plus_any (A A' : Option Addr) (n c n' c' : Nat) (l l' : List Nat) (w : World) (hs : Sl w w.heap.size A n c (ml l)) (hs' : Sl w w.heap.size A' n' c' (ml l')) (hok : Ok l) (hok' : Ok l')
    (hn : n ≤ 1048576) (hn' : n' ≤ 1048576) :
    Calls Try.prog 54 #[.slice A n c, .slice A' n' c'] w (Mag (enc (val l + val l')) w) := by
  have hl : l.length = n := by rw [← length_ml]; exact hs.len
  have hl' : l'.length = n' := by rw [← length_ml]; exact hs'.len
  have hmax := hs.max
  have hle := hs.le
  have hle' := hs'.le
  have hmax' := hs'.max
  unfold maxLen at hmax hmax'
  obtain ⟨i0, hi, hz0, hz1, hz2⟩ := info_parts limbInfo
  obtain ⟨M, hM, hM1, hM2, hM3⟩ : ∃ M : Nat, Hid (((n : Int) < n' ∧ (M : Int) = n') ∨ ((n' : Int) ≤ n ∧ (M : Int) = n)) ∧ n ≤ M ∧ n' ≤ M ∧ M ≤ 1048576 := by
    by_cases h : n < n'
    · exact ⟨n', Lib.hid (.inl ⟨by omega, rfl⟩), by omega, by omega, by omega⟩
    · exact ⟨n, Lib.hid (.inr ⟨by omega, rfl⟩), by omega, by omega, by omega⟩
  have hmx : ∀ (ts : Array TypeId) (t : TypeId) (w : World), (Builtin.max_ ts t #[.int .i64 (n : Int), .int .i64 (n' : Int)]).run Try.prog w = .ok (.int .i64 (M : Int)) w := by
    intro ts t w
    rw [run_max_int2]
    rcases hM.out with ⟨h, e⟩ | ⟨h, e⟩
    · rw [if_pos (by omega), e]
    · rw [if_neg (by omega), e]
  go_enter Try.func54, Try.ntmps54
  go_wp2
  go_loopw [5, 6, 7, 8] (fun v cr i sv wr => ∃ (t C : Nat) (o : List Nat), t ≤ M ∧ i = .int .i64 t ∧ cr = .int .u64 (C : Int) ∧ C ≤ 1 ∧ o.length = t ∧ Hid (Ok o ∧ val o + 4294967296 ^ t * C = val (l.take t) + val (l'.take t)) ∧ wr.ownsRow w.heap.size 63 1 v t (ml o) ∧ Below w.heap.size w wr)
    (fun _ _ i _ _ => M - (intOf i).toNat)
  case atStart => exact ⟨0, 0, [], Nat.zero_le _, rfl, rfl, by omega, rfl, Lib.hid ⟨Ok.nil, by simp [val_nil]⟩, World.ownsRow_nil _ _ _ _, Below.refl _ _⟩
  case round =>
    obtain ⟨t, C, o, ht, rfl, rfl, hC, hot, hv, hownr, hbel⟩ := hrel
    have hsz := hbel.size
    by_cases hlt : t < M
    · obtain ⟨x, hx⟩ : ∃ x, l.getD t 0 = x := ⟨_, rfl⟩
      obtain ⟨y, hy⟩ : ∃ y, l'.getD t 0 = y := ⟨_, rfl⟩
      have hxl : x < 4294967296 := by rw [← hx]; exact hok.getD t
      have hyl : y < 4294967296 := by rw [← hy]; exact hok'.getD t
      obtain ⟨s, hs0⟩ : ∃ s, s = x + y + C := ⟨_, rfl⟩
      have hsl : s < 8589934592 := by omega
      have HV : Hid (Ok (o ++ [s % 4294967296]) ∧ val (o ++ [s % 4294967296]) + 4294967296 ^ (t + 1) * (s / 4294967296) = val (l.take (t + 1)) + val (l'.take (t + 1))) :=
        Lib.hid ⟨hv.out.1.snoc (by omega), by rw [val_snoc, val_take, val_take, hx, hy, hot, Nat.pow_succ]; exact step_add hv.out.2 hs0⟩
      have HX := Lib.hid hx
      have HY := Lib.hid hy
      have e1 : ((x : Int) + y + C) / 4294967296 = ((s / 4294967296 : Nat) : Int) := by omega
      have e2 : ((x : Int) + y + C) % 4294967296 = ((s % 4294967296 : Nat) : Int) := by omega
      have E2 := Lib.hid e2
      have E1 := Lib.hid e1
      clear hv hx hy e1 e2
      go_wp2_with fail
      refine (limb_is _ _ _ l t x wr (hs.below hbel |>.more hsz) hok HX.out).mono ?_
      rintro e w' ⟨rfl, rfl⟩
      go_wp2_with fail
      refine (limb_is _ _ _ l' t y wr (hs'.below hbel |>.more hsz) hok' HY.out).mono ?_
      rintro e w' ⟨rfl, rfl⟩
      go_wp2_with (at_builtin; refine wpList_append_one rfl _ _ 22 rfl w.heap.size 63 i0 (.int .u32 0) 4 Try.underlying22 hi hz0 hz1 hz2 rfl _ _ _ rfl hownr _ _ rfl rfl (by unfold maxLen; omega) (by omega) w hbel (by omega) ?_)
      intro v' w2 hown' hbel'
      have hown2 : w2.ownsRow w.heap.size 63 1 v' (t + 1) (ml (o ++ [s % 4294967296])) := by
        rw [E2.out] at hown'
        rw [ml_append]
        exact hown'
      clear hown' hownr hbel
      go_wp2
      rw [E1.out]
      go_roundw
      case rel => exact ⟨t + 1, s / 4294967296, o ++ [s % 4294967296], by omega, by go_num, rfl, by omega, by simp [hot], HV, hown2, hbel'⟩
      case measure => simp [intOf]; omega
    · obtain rfl : t = M := by omega
      have hv1 := hv.out
      rw [List.take_of_length_le (l := l) (by omega), List.take_of_length_le (l := l') (by omega)] at hv1
      have HV := Lib.hid (show Ok (o ++ [C]) ∧ val (o ++ [C]) = val l + val l' from ⟨hv1.1.snoc (by omega), by rw [val_snoc, hot]; exact hv1.2⟩)
      have hcl : (C : Int) % 4294967296 = C := by omega
      clear hv hv1
      go_wp2_with (at_builtin; refine wpList_append_one rfl _ _ 22 rfl w.heap.size 63 i0 (.int .u32 0) 4 Try.underlying22 hi hz0 hz1 hz2 rfl _ _ _ rfl hownr _ _ rfl rfl (by unfold maxLen; omega) (by omega) w hbel (by omega) ?_)
      intro v' w2 hown' hbel'
      have hown2 : w2.ownsRow w.heap.size 63 1 v' (t + 1) (ml (o ++ [C])) := by
        rw [ml_append]
        exact hown'
      obtain ⟨A2, c2, rfl⟩ := own_slice hown2
      clear hown' hownr hbel
      have H2 := Lib.hid (Sl.of_own hown2)
      go_wp2_with fail
      refine (rTrim_any _ _ _ (o ++ [C]) _ H2.out HV.out.1 (by omega)).mono ?_
      rw [HV.out.2]
      rintro e w' hm
      replace hm := hm.of hbel'
      obtain ⟨A3, c3, rfl, hs3, hbel3⟩ := hm
      go_wp2
      go_ret
      exact ⟨A3, c3, rfl, hs3, hbel3⟩

set_option maxRecDepth 100000 in
theorem minus_any (A A' : Option Addr) (n c n' c' : Nat) (l l' : List Nat) (w : World) (hs : Sl w w.heap.size A n c (ml l)) (hs' : Sl w w.heap.size A' n' c' (ml l')) (hok : Ok l) (hok' : Ok l')
    (hn : n ≤ 1048576) (hnn : n' ≤ n) (hle0 : val l' ≤ val l) :
    Calls Try.prog 56 #[.slice A n c, .slice A' n' c'] w (Mag (enc (val l - val l')) w) := by
  have hl : l.length = n := by rw [← length_ml]; exact hs.len
  have hl' : l'.length = n' := by rw [← length_ml]; exact hs'.len
  have hmax := hs.max
  have hle := hs.le
  have hle' := hs'.le
  have hmax' := hs'.max
  unfold maxLen at hmax hmax'
  have HL := Lib.hid hle0
  clear hle0
  obtain ⟨i0, hi, hz0, hz1, hz2⟩ := info_parts limbInfo
  go_enter Try.func56, Try.ntmps56
  go_wp2
  go_loopw [5, 6, 7, 8] (fun v cr i sv wr => ∃ (t C : Nat) (o : List Nat), t ≤ n ∧ i = .int .i64 t ∧ cr = .int .u64 (C : Int) ∧ C ≤ 1 ∧ o.length = t ∧ Hid (Ok o ∧ val o + val (l'.take t) = val (l.take t) + 4294967296 ^ t * C) ∧ wr.ownsRow w.heap.size 63 1 v t (ml o) ∧ Below w.heap.size w wr)
    (fun _ _ i _ _ => n - (intOf i).toNat)
  case atStart => exact ⟨0, 0, [], Nat.zero_le _, rfl, rfl, by omega, rfl, Lib.hid ⟨Ok.nil, by simp [val_nil]⟩, World.ownsRow_nil _ _ _ _, Below.refl _ _⟩
  case round =>
    obtain ⟨t, C, o, ht, rfl, rfl, hC, hot, hv, hownr, hbel⟩ := hrel
    have hsz := hbel.size
    by_cases hlt : t < n
    · obtain ⟨x, hx⟩ : ∃ x, l.getD t 0 = x := ⟨_, rfl⟩
      obtain ⟨y, hy⟩ : ∃ y, l'.getD t 0 = y := ⟨_, rfl⟩
      have hxl : x < 4294967296 := by rw [← hx]; exact hok.getD t
      have hyl : y < 4294967296 := by rw [← hy]; exact hok'.getD t
      obtain ⟨s, d, hs0, hd, hsl⟩ := borrow_of x y C hxl hyl hC
      have HV : Hid (Ok (o ++ [s]) ∧ val (o ++ [s]) + val (l'.take (t + 1)) = val (l.take (t + 1)) + 4294967296 ^ (t + 1) * d) :=
        Lib.hid ⟨hv.out.1.snoc hsl, by rw [val_snoc, val_take, val_take, hx, hy, hot, Nat.pow_succ]; exact step_sub hv.out.2 hC hxl hyl hs0⟩
      have HX := Lib.hid hx
      have HY := Lib.hid hy
      have E1 := Lib.hid (show 1 - ((4294967296 : Int) + x - y - C) / 4294967296 = (d : Int) by omega)
      have E2 := Lib.hid (show ((4294967296 : Int) + x - y - C) % 4294967296 = (s : Int) by omega)
      clear hv hx hy hs0
      go_wp2_with fail
      refine (limb_is _ _ _ l t x wr (hs.below hbel |>.more hsz) hok HX.out).mono ?_
      rintro e w' ⟨rfl, rfl⟩
      go_wp2_with fail
      refine (limb_is _ _ _ l' t y wr (hs'.below hbel |>.more hsz) hok' HY.out).mono ?_
      rintro e w' ⟨rfl, rfl⟩
      go_wp2_with (at_builtin; refine wpList_append_one rfl _ _ 22 rfl w.heap.size 63 i0 (.int .u32 0) 4 Try.underlying22 hi hz0 hz1 hz2 rfl _ _ _ rfl hownr _ _ rfl rfl (by unfold maxLen; omega) (by omega) w hbel (by omega) ?_)
      intro v' w2 hown' hbel'
      have hown2 : w2.ownsRow w.heap.size 63 1 v' (t + 1) (ml (o ++ [s])) := by
        rw [E2.out] at hown'
        rw [ml_append]
        exact hown'
      clear hown' hownr hbel
      go_wp2
      rw [E1.out]
      go_roundw
      case rel => exact ⟨t + 1, d, o ++ [s], by omega, by go_num, rfl, by omega, by simp [hot], HV, hown2, hbel'⟩
      case measure => simp [intOf]; omega
    · obtain rfl : t = n := by omega
      have hv1 := hv.out
      rw [List.take_of_length_le (l := l) (by omega), List.take_of_length_le (l := l') (by omega)] at hv1
      have HV := Lib.hid (show Ok o ∧ val o = val l - val l' from ⟨hv1.1, borrow_end hv1.2 (by have := val_lt o hv1.1; rwa [hot] at this) HL.out hC⟩)
      obtain ⟨A2, c2, rfl⟩ := own_slice hownr
      have H2 := Lib.hid (Sl.of_own hownr)
      clear hv hv1 hownr
      go_wp2_with fail
      refine (rTrim_any _ _ _ o _ H2.out HV.out.1 (by omega)).mono ?_
      rw [HV.out.2]
      rintro e w' hm
      replace hm := hm.of hbel
      obtain ⟨A3, c3, rfl, hs3, hbel3⟩ := hm
      go_wp2
      go_ret
      exact ⟨A3, c3, rfl, hs3, hbel3⟩
end Go.Proofs.Ytebbpodcldndjaa
