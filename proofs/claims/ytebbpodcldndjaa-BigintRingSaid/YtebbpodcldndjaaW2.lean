/- Contracts: the comparisons of limbs. -/
import Derived.Test.YtebbpodcldndjaaW1
import Derived.Laws.Small
set_option linter.unusedVariables false
namespace Go.Proofs.Ytebbpodcldndjaa
open Go.RowKit

/-- -1, 0 or 1 -/
def sgn (a b : Nat) : Int := if a < b then -1 else if b < a then 1 else 0
theorem sgn_lt {a b : Nat} (h : a < b) : sgn a b = -1 := by unfold sgn; rw [if_pos h]
theorem sgn_gt {a b : Nat} (h : b < a) : sgn a b = 1 := by unfold sgn; rw [if_neg (by omega), if_pos h]
theorem sgn_eq (a : Nat) : sgn a a = 0 := by unfold sgn; rw [if_neg (by omega), if_neg (by omega)]
theorem sgn_cases (a b : Nat) : (a < b ∧ sgn a b = -1) ∨ (a = b ∧ sgn a b = 0) ∨ (b < a ∧ sgn a b = 1) := by
  rcases Nat.lt_trichotomy a b with h | h | h
  · exact .inl ⟨h, sgn_lt h⟩
  · subst h; exact .inr (.inl ⟨rfl, sgn_eq a⟩)
  · exact .inr (.inr ⟨h, sgn_gt h⟩)

theorem isNaN_int (a : Int) (w : World) : Calls Try.prog 99 #[.int .i64 a] w fun e w' => e = .returned (.bool false) ∧ w = w' := by
  have h : (a != a) = false := by simp
  go_enter Try.func99, Try.ntmps99
  go_wp2
  go_ret
  exact ⟨retB (by simp), rfl⟩
theorem isNaN_u32 (a : Int) (w : World) : Calls Try.prog 100 #[.int .u32 a] w fun e w' => e = .returned (.bool false) ∧ w = w' := by
  have h : (a != a) = false := by simp
  go_enter Try.func100, Try.ntmps100
  go_wp2
  go_ret
  exact ⟨retB (by simp), rfl⟩

set_option maxRecDepth 100000 in
theorem cmpInt_any (a b : Nat) (w : World) : Calls Try.prog 85 #[.int .i64 (a : Int), .int .i64 (b : Int)] w fun e w' => e = .returned (.int .i64 (sgn a b)) ∧ w = w' := by
  rcases sgn_cases a b with ⟨h, e⟩ | ⟨rfl, e⟩ | ⟨h, e⟩
  all_goals
    rw [e]
    clear e
    first | (have h' : (a : Int) < b := by omega) | (have h' : (b : Int) < a := by omega) | skip
    go_enter Try.func85, Try.ntmps85
    go_wp2_with fail
    refine (isNaN_int _ w).mono ?_
    rintro e w' ⟨rfl, rfl⟩
    go_wp2_with fail
    refine (isNaN_int _ w).mono ?_
    rintro e w' ⟨rfl, rfl⟩
    go_wp2
    go_ret
    exact ⟨rfl, rfl⟩
set_option maxRecDepth 100000 in
theorem cmpU32_any (a b : Nat) (w : World) : Calls Try.prog 86 #[.int .u32 (a : Int), .int .u32 (b : Int)] w fun e w' => e = .returned (.int .i64 (sgn a b)) ∧ w = w' := by
  rcases sgn_cases a b with ⟨h, e⟩ | ⟨rfl, e⟩ | ⟨h, e⟩
  all_goals
    rw [e]
    clear e
    first | (have h' : (a : Int) < b := by omega) | (have h' : (b : Int) < a := by omega) | skip
    go_enter Try.func86, Try.ntmps86
    go_wp2_with fail
    refine (isNaN_u32 _ w).mono ?_
    rintro e w' ⟨rfl, rfl⟩
    go_wp2_with fail
    refine (isNaN_u32 _ w).mono ?_
    rintro e w' ⟨rfl, rfl⟩
    go_wp2
    go_ret
    exact ⟨rfl, rfl⟩

theorem cmpU32_same (a b : Nat) (w : World) : Calls Try.prog 86 #[.int .u32 (a : Int), .int .u32 (b : Int)] w fun e w' => e = .returned (.int .i64 (sgn a b)) ∧ w' = w :=
  (cmpU32_any a b w).mono fun _ _ h => ⟨h.1, h.2.symm⟩

theorem limb_any (A : Option Addr) (n c : Nat) (l : List Nat) (k : Nat) (w : World) (hs : Sl w w.heap.size A n c (ml l)) (hok : Ok l) :
    Calls Try.prog 72 #[.slice A n c, .int .i64 (k : Int)] w fun e w' => e = .returned (.int .u64 ((l.getD k 0 : Nat) : Int)) ∧ w = w' := by
  have hl : l.length = n := by rw [← length_ml]; exact hs.len
  have hmax := hs.max
  have hle := hs.le
  unfold maxLen at hmax
  by_cases h : k < n
  · obtain ⟨b, off, rfl, hb, hc⟩ := hs.at_ h (.int .u32 0)
    rw [getD_ml l k (by omega)] at hc
    have hlt := hok.getD k
    generalize l.getD k 0 = x at *
    go_enter Try.func72, Try.ntmps72
    go_wp2
    go_ret
    exact ⟨rfl, rfl⟩
  · have hx : l.getD k 0 = 0 := by rw [List.getD_eq_getElem?_getD, List.getElem?_eq_none (by omega)]; rfl
    rw [hx]
    go_enter Try.func72, Try.ntmps72
    go_wp2
    go_ret
    exact ⟨rfl, rfl⟩

theorem limb_is (A : Option Addr) (n c : Nat) (l : List Nat) (k x : Nat) (w : World) (hs : Sl w w.heap.size A n c (ml l)) (hok : Ok l) (hx : l.getD k 0 = x) :
    Calls Try.prog 72 #[.slice A n c, .int .i64 (k : Int)] w fun e w' => e = .returned (.int .u64 (x : Int)) ∧ w = w' := by
  rw [← hx]
  exact limb_any A n c l k w hs hok

/-- limbs from place k on are the same -/
def Same (a b : List Nat) (k : Nat) : Prop := ∀ i, k ≤ i → a.getD i 0 = b.getD i 0
theorem same_end (a b : List Nat) (k : Nat) (ha : a.length ≤ k) (hb : b.length ≤ k) : Same a b k := fun i hi => by
  rw [List.getD_eq_getElem?_getD, List.getD_eq_getElem?_getD, List.getElem?_eq_none (by omega), List.getElem?_eq_none (by omega)]
theorem same_step {a b : List Nat} {k : Nat} (h : Same a b (k + 1)) (e : a.getD k 0 = b.getD k 0) : Same a b k := fun i hi => by
  by_cases hk : i = k
  · rw [hk]; exact e
  · exact h i (by omega)
theorem val_same {a b : List Nat} {k : Nat} (h : Same a b k) (m : Nat) : val (a.take (k + m)) + val (b.take k) = val (b.take (k + m)) + val (a.take k) := by
  induction m with
  | zero => rw [Nat.add_zero]; omega
  | succ m ih =>
    rw [← Nat.add_assoc, val_take, val_take, h (k + m) (by omega)]
    omega
theorem val_all {a b : List Nat} {k : Nat} (h : Same a b k) : val a + val (b.take k) = val b + val (a.take k) := by
  have := val_same h (a.length + b.length)
  rwa [List.take_of_length_le (l := a) (i := k + (a.length + b.length)) (by omega), List.take_of_length_le (l := b) (i := k + (a.length + b.length)) (by omega)] at this
theorem same_zero {a b : List Nat} (h : Same a b 0) : val a = val b := by have := val_all h; simpa using this
theorem val_take_lt (a : List Nat) (h : Ok a) (k : Nat) : val (a.take k) < 4294967296 ^ k := by
  have h1 := val_lt (a.take k) (h.take k)
  have h2 : (a.take k).length ≤ k := List.length_take_le _ _
  exact Nat.lt_of_lt_of_le h1 (Nat.pow_le_pow_right (by omega) h2)
theorem val_less {a b : List Nat} {k : Nat} (ha : Ok a) (hb : Ok b) (h : Same a b (k + 1)) (hlt : a.getD k 0 < b.getD k 0) : val a < val b := by
  have h1 := val_all h
  rw [val_take, val_take] at h1
  have h2 := val_take_lt a ha k
  have h3 : 4294967296 ^ k * (a.getD k 0 + 1) ≤ 4294967296 ^ k * b.getD k 0 := Nat.mul_le_mul_left _ hlt
  rw [Nat.mul_add] at h3
  omega
theorem Same.symm {a b : List Nat} {k : Nat} (h : Same a b k) : Same b a k := fun i hi => (h i hi).symm

set_option maxRecDepth 100000 in
theorem order_any (A A' : Option Addr) (n c n' c' : Nat) (l l' : List Nat) (w : World) (hs : Sl w w.heap.size A n c (ml l)) (hs' : Sl w w.heap.size A' n' c' (ml l')) (hok : Ok l) (hok' : Ok l') :
    Calls Try.prog 55 #[.slice A n c, .slice A' n' c'] w fun e w' => e = .returned (.int .i64 (sgn (val l) (val l'))) ∧ w = w' := by
  have hl : l.length = n := by rw [← length_ml]; exact hs.len
  have hl' : l'.length = n' := by rw [← length_ml]; exact hs'.len
  have hmax := hs.max
  have hle := hs.le
  have hle' := hs'.le
  have hmax' := hs'.max
  unfold maxLen at hmax hmax'
  obtain ⟨M, hM, hM1, hM2, hM3⟩ : ∃ M : Nat, Hid (((n : Int) < n' ∧ (M : Int) = n') ∨ ((n' : Int) ≤ n ∧ (M : Int) = n)) ∧ n ≤ M ∧ n' ≤ M ∧ (M : Int) ≤ 9223372036854775807 := by
    by_cases h : n < n'
    · exact ⟨n', Lib.hid (.inl ⟨by omega, rfl⟩), by omega, by omega, by omega⟩
    · exact ⟨n, Lib.hid (.inr ⟨by omega, rfl⟩), by omega, by omega, by omega⟩
  have hmx : ∀ (ts : Array TypeId) (t : TypeId) (w : World), (Builtin.max_ ts t #[.int .i64 (n : Int), .int .i64 (n' : Int)]).run Try.prog w = .ok (.int .i64 (M : Int)) w := by
    intro ts t w
    rw [run_max_int2]
    rcases hM.out with ⟨h, e⟩ | ⟨h, e⟩
    · rw [if_pos (by omega), e]
    · rw [if_neg (by omega), e]
  go_enter Try.func55, Try.ntmps55
  go_wp2
  go_loop [6] (fun i => ∃ k : Nat, k ≤ M ∧ i = .int .i64 ((k : Int) - 1) ∧ Hid (Same l l' k)) (fun i => (intOf i + 1).toNat)
  case atStart => exact ⟨M, Nat.le_refl _, rfl, Lib.hid (same_end l l' M (by omega) (by omega))⟩
  case round =>
    obtain ⟨k, hk, rfl, hv⟩ := hrel
    by_cases h0 : k = 0
    · subst h0
      have he := Lib.hid (show sgn (val l) (val l') = 0 by rw [same_zero hv.out, sgn_eq])
      go_wp2
      go_ret
      exact ⟨retI he.out.symm, rfl⟩
    obtain ⟨k, rfl⟩ : ∃ j, k = j + 1 := ⟨k - 1, by omega⟩
    have hk1 : (((k + 1 : Nat) : Int) - 1) = (k : Int) := by omega
    rw [hk1]
    obtain ⟨x, hx⟩ : ∃ x, l.getD k 0 = x := ⟨_, rfl⟩
    obtain ⟨y, hy⟩ : ∃ y, l'.getD k 0 = y := ⟨_, rfl⟩
    have HX := Lib.hid hx
    have HY := Lib.hid hy
    clear hx hy
    rcases Nat.lt_trichotomy x y with h | h | h
    · have he := Lib.hid (sgn_lt (val_less hok hok' hv.out (by rw [HX.out, HY.out]; exact h)))
      have hi : (x : Int) < (y : Int) := by omega
      go_wp2_with fail
      refine (limb_is _ _ _ l k x w hs hok HX.out).mono ?_
      rintro e w' ⟨rfl, rfl⟩
      go_wp2_with fail
      refine (limb_is _ _ _ l' k y w hs' hok' HY.out).mono ?_
      rintro e w' ⟨rfl, rfl⟩
      go_wp2
      go_ret
      exact ⟨retI he.out.symm, rfl⟩
    · have hv' : Hid (Same l l' k) := Lib.hid (same_step hv.out (by rw [HX.out, HY.out]; exact h))
      clear hv
      subst h
      go_wp2_with fail
      refine (limb_is _ _ _ l k x w hs hok HX.out).mono ?_
      rintro e w' ⟨rfl, rfl⟩
      go_wp2_with fail
      refine (limb_is _ _ _ l' k x w hs' hok' HY.out).mono ?_
      rintro e w' ⟨rfl, rfl⟩
      go_wp2_with fail
      refine (limb_is _ _ _ l k x w hs hok HX.out).mono ?_
      rintro e w' ⟨rfl, rfl⟩
      go_wp2_with fail
      refine (limb_is _ _ _ l' k x w hs' hok' HY.out).mono ?_
      rintro e w' ⟨rfl, rfl⟩
      go_wp2
      go_round
      case rel => exact ⟨k, by omega, rfl, hv'⟩
      case measure => simp [intOf]
    · have he := Lib.hid (sgn_gt (val_less hok' hok hv.out.symm (by rw [HX.out, HY.out]; exact h)))
      have hi : (y : Int) < (x : Int) := by omega
      go_wp2_with fail
      refine (limb_is _ _ _ l k x w hs hok HX.out).mono ?_
      rintro e w' ⟨rfl, rfl⟩
      go_wp2_with fail
      refine (limb_is _ _ _ l' k y w hs' hok' HY.out).mono ?_
      rintro e w' ⟨rfl, rfl⟩
      go_wp2_with fail
      refine (limb_is _ _ _ l k x w hs hok HX.out).mono ?_
      rintro e w' ⟨rfl, rfl⟩
      go_wp2_with fail
      refine (limb_is _ _ _ l' k y w hs' hok' HY.out).mono ?_
      rintro e w' ⟨rfl, rfl⟩
      go_wp2
      go_ret
      exact ⟨retI he.out.symm, rfl⟩

theorem val_longer {a b : List Nat} (ha : Ok a) (ht : Top b) (hb : Ok b) (h : a.length < b.length) : val a < val b := by
  obtain ⟨k, hk⟩ : ∃ k, b.length = k + 1 := ⟨b.length - 1, by omega⟩
  refine val_less (k := k) ha hb (same_end a b (k + 1) (by omega) (by omega)) ?_
  rcases ht with ht | ht
  · subst ht; simp at hk
  · rw [hk, Nat.add_sub_cancel] at ht
    rw [show a.getD k 0 = 0 by rw [List.getD_eq_getElem?_getD, List.getElem?_eq_none (by omega)]; rfl]
    omega

set_option maxRecDepth 100000 in
theorem compare_any (A A' : Option Addr) (n c n' c' : Nat) (l l' : List Nat) (w : World) (hs : Sl w w.heap.size A n c (ml l)) (hs' : Sl w w.heap.size A' n' c' (ml l')) (hok : Ok l) (hok' : Ok l') (ht : Top l) (ht' : Top l') :
    Calls Try.prog 61 #[.slice A n c, .slice A' n' c'] w fun e w' => e = .returned (.int .i64 (sgn (val l) (val l'))) ∧ Below w.heap.size w w' := by
  have hl : l.length = n := by rw [← length_ml]; exact hs.len
  have hl' : l'.length = n' := by rw [← length_ml]; exact hs'.len
  have hmax := hs.max
  have hle := hs.le
  have hle' := hs'.le
  have hmax' := hs'.max
  unfold maxLen at hmax hmax'
  by_cases hnn : n = n'
  · subst hnn
    go_enter Try.func61, Try.ntmps61
    go_wp2
    go_loopw [5] (fun i wr => ∃ k : Nat, k ≤ n ∧ i = .int .i64 ((k : Int) - 1) ∧ Hid (Same l l' k) ∧ Below w.heap.size w wr) (fun i _ => (intOf i + 1).toNat)
    case atStart => exact ⟨n, Nat.le_refl _, rfl, Lib.hid (same_end l l' n (by omega) (by omega)), Below.refl _ _⟩
    case round =>
      obtain ⟨k, hk, rfl, hv, hbel⟩ := hrel
      by_cases h0 : k = 0
      · subst h0
        have he := Lib.hid (show sgn (val l) (val l') = 0 by rw [same_zero hv.out, sgn_eq])
        go_wp2
        go_ret
        exact ⟨retI he.out.symm, hbel⟩
      obtain ⟨k, rfl⟩ : ∃ j, k = j + 1 := ⟨k - 1, by omega⟩
      have hk1 : (((k + 1 : Nat) : Int) - 1) = (k : Int) := by omega
      rw [hk1]
      have hi0 : (0 : Int) ≤ k := by omega
      have hi1 : (k : Int) < n := by omega
      obtain ⟨b, off, rfl, hb, hc⟩ := (hs.below hbel).at_ (show k < n by omega) (.int .u32 0)
      obtain ⟨b', off', rfl, hb', hc'⟩ := (hs'.below hbel).at_ (show k < n by omega) (.int .u32 0)
      rw [getD_ml l k (by omega)] at hc
      rw [getD_ml l' k (by omega)] at hc'
      by_cases h : l.getD k 0 = l'.getD k 0
      · have hv' : Hid (Same l l' k) := Lib.hid (same_step hv.out h)
        rw [← h] at hc'
        clear hv h
        generalize l.getD k 0 = x at *
        go_wp2
        go_quiet (fail)
        go_wp2
        go_roundw
        case rel => exact ⟨k, by omega, rfl, hv', below_drawn hbel _⟩
        case measure => simp [intOf]
      · have he := Lib.hid (show sgn (l.getD k 0) (l'.getD k 0) = sgn (val l) (val l') by
          rcases Nat.lt_or_gt_of_ne h with h | h
          · rw [sgn_lt h, sgn_lt (val_less hok hok' hv.out h)]
          · rw [sgn_gt h, sgn_gt (val_less hok' hok hv.out.symm h)])
        clear hv
        have hx1 := natB h
        generalize l.getD k 0 = x at *
        generalize l'.getD k 0 = y at *
        have hx2 : ((x : Int) != (y : Int)) = true := by simp; omega
        go_wp2
        go_quiet (fail)
        go_wp2
        go_quiet ((go_at_call 86; exact (cmpU32_same x y _).mono fun _ _ h => ⟨h.1, _, h.2⟩))
        go_wp2
        go_ret
        exact ⟨retI he.out, below_drawn (below_drawn hbel _) _⟩
  · have he : sgn (val l) (val l') = sgn n n' := by
      rcases Nat.lt_or_gt_of_ne hnn with h | h
      · rw [sgn_lt h, sgn_lt (val_longer hok ht' hok' (by omega))]
      · rw [sgn_gt h, sgn_gt (val_longer hok' ht hok (by omega))]
    rw [he]
    have hx1 := natB hnn
    go_enter Try.func61, Try.ntmps61
    go_wp2_with fail
    refine (cmpInt_any n n' w).mono ?_
    rintro e w' ⟨rfl, rfl⟩
    go_wp2
    go_ret
    exact ⟨rfl, Below.refl _ _⟩
end Go.Proofs.Ytebbpodcldndjaa
