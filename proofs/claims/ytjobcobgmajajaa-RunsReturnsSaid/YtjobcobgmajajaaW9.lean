/- Contracts of Stretch and its specification. -/
import Derived.Test.YtjobcobgmajajaaW4
set_option linter.unusedVariables false
namespace Go.Proofs.Ytjobcobgmajajaa
open Go.RowKit

/-- each module k times -/
def rep (l : List Bool) (k : Nat) : List Bool := l.flatMap fun b => List.replicate k b
theorem rep_take {l : List Bool} {j : Nat} (h : j < l.length) (k : Nat) : rep (l.take (j + 1)) k = rep (l.take j) k ++ List.replicate k (l.getD j false) := by
  rw [take_bl l j h]
  simp [rep]
theorem length_rep (l : List Bool) (k : Nat) : (rep l k).length = l.length * k := by
  induction l with
  | nil => simp [rep]
  | cons b l ih =>
    have : rep (b :: l) k = List.replicate k b ++ rep l k := rfl
    rw [this, List.length_append, List.length_replicate, ih, List.length_cons, Nat.add_mul]
    omega
/-- what Stretch returns -/
def stretchS (l : List Bool) (k : Int) : List Bool × Int :=
  if k < 1 then ([], 3) else if 65536 / k < l.length then ([], 4) else (rep l k.toNat, 0)

theorem stretch_any (A : Option Addr) (n c : Nat) (l : List Bool) (k : Int) (w : World) (hs : Sl w w.heap.size A n c (bl l)) (hn : n ≤ 1048576) (hk : k ≤ 9223372036854775807) :
    Calls Try.prog 21 #[.slice A n c, .int .i64 k] w (Gives (bl (stretchS l k).1) (stretchS l k).2 w) := by
  have hl : l.length = n := by rw [← length_bl]; exact hs.len
  have hmax := hs.max
  have hle := hs.le
  unfold maxLen at hmax
  by_cases h1 : k < 1
  · have hr : stretchS l k = ([], 3) := by unfold stretchS; rw [if_pos h1]
    rw [hr]
    go_enter Try.func21, Try.ntmps21
    go_wp2
    go_ret2
    exact gives_none _ _
  obtain ⟨d, rfl⟩ := Int.eq_ofNat_of_zero_le (show 0 ≤ k by omega)
  have hd : Int.tdiv 65536 (d : Int) = ((65536 / d : Nat) : Int) := by rw [Int.tdiv_eq_ediv_of_nonneg (by omega)]; rfl
  have hdz : ¬ (d : Int) = 0 := by omega
  have hdz2 : ((d : Int) == 0) = false := by rw [beq_eq_false_iff_ne]; omega
  have hql : 65536 / d ≤ 65536 := Nat.div_le_self _ _
  by_cases h2 : 65536 / d < n
  · have hr : stretchS l d = ([], 4) := by unfold stretchS; rw [if_neg h1, if_pos (by rw [hl]; have : ((65536 / d : Nat) : Int) < n := by omega
                                                                                      simpa using this)]
    rw [hr]
    have h2i : ((65536 / d : Nat) : Int) < n := by omega
    generalize hq : 65536 / d = q at *
    go_enter Try.func21, Try.ntmps21
    go_wp2
    go_ret2
    exact gives_none _ _
  have hr : stretchS l d = (rep l d, 0) := by unfold stretchS; rw [if_neg h1, if_neg (by rw [hl]; have : ¬ ((65536 / d : Nat) : Int) < n := by omega
                                                                                         simpa using this)]; rfl
  rw [hr]
  have h2i : ¬ ((65536 / d : Nat) : Int) < n := by omega
  have hnd : n * d ≤ 65536 := by
    have h3 : n ≤ 65536 / d := by omega
    have := Nat.mul_le_mul_right d h3
    have h4 := Nat.div_mul_le_self 65536 d
    omega
  have HND := Lib.hid hnd
  have hd2 : d ≤ 65536 ∨ n = 0 := by
    rcases Nat.eq_zero_or_pos n with h | h
    · exact .inr h
    · have := Nat.le_mul_of_pos_left d h
      exact .inl (by omega)
  clear hnd hr
  generalize hq : 65536 / d = q at *
  go_enter Try.func21, Try.ntmps21
  go_wp2
  go_loopw [6, 18] (fun v i wr => ∃ j : Nat, j ≤ n ∧ i = .int .i64 (j : Int) ∧ wr.ownsRow w.heap.size 4 1 v (rep (l.take j) d).length (bl (rep (l.take j) d)) ∧ Below w.heap.size w wr)
    (fun _ i _ => n - (intOf i).toNat)
  case atStart => exact ⟨0, Nat.zero_le _, by simp, World.ownsRow_nil _ _ _ _, Below.refl _ _⟩
  case round =>
    obtain ⟨j, hj, rfl, hownr, hbel⟩ := hrel
    have hsz := hbel.size
    by_cases hlt : j < n
    · obtain ⟨b, off, rfl, hb, hc⟩ := (hs.below hbel).at_ hlt (.bool false)
      rw [getD_bl l j (by omega)] at hc
      have hk0 : (0 : Int) ≤ j := by omega
      have hk1 : (j : Int) < n := by omega
      have HE := Lib.hid (rep_take (l := l) (j := j) (by omega) d)
      have hlen : (rep (l.take j) d).length ≤ 65536 := by
        rw [length_rep, List.length_take, Nat.min_eq_left (by omega)]
        exact Nat.le_trans (Nat.mul_le_mul_right d hj) HND.out
      generalize l.getD j false = x at *
      go_wp2_with fail
      refine (appendRun_any w.heap.size _ _ _ _ d _ hownr (by omega) (by omega) (by omega)).mono ?_
      rintro e w2 ⟨v2, rfl, hown2, hbel2⟩
      rw [← HE.out, show (rep (l.take j) d).length + d = (rep (l.take (j + 1)) d).length by rw [HE.out]; simp] at hown2
      have hbel3 := hbel.trans hbel2
      clear hownr hbel hbel2
      go_wp2
      go_roundw
      case rel => exact ⟨j + 1, by omega, by go_num, hown2, hbel3⟩
      case measure => simp [intOf]; omega
    · obtain rfl : j = n := by omega
      obtain ⟨A2, c2, rfl⟩ := own_slice hownr
      go_wp2
      go_ret2
      rw [List.take_of_length_le (by omega)] at *
      exact gives_own (by simp [bl]) hownr hbel

theorem rStretch_any (A : Option Addr) (n c : Nat) (l : List Bool) (k : Int) (w : World) (hs : Sl w w.heap.size A n c (bl l)) (hn : n ≤ 1048576) (hk : k ≤ 9223372036854775807) :
    Calls Try.prog 22 #[.slice A n c, .int .i64 k] w (Gives (bl (stretchS l k).1) (stretchS l k).2 w) := by
  have hl : l.length = n := by rw [← length_bl]; exact hs.len
  have hmax := hs.max
  have hle := hs.le
  unfold maxLen at hmax
  by_cases h1 : k < 1
  · have hr : stretchS l k = ([], 3) := by unfold stretchS; rw [if_pos h1]
    rw [hr]
    go_enter Try.func22, Try.ntmps22
    go_wp2
    go_ret2
    exact gives_none _ _
  obtain ⟨d, rfl⟩ := Int.eq_ofNat_of_zero_le (show 0 ≤ k by omega)
  have hswap : 0 < n → (65536 / d < n ↔ 65536 / n < d) := fun h0 => by
    rw [Nat.div_lt_iff_lt_mul (by omega), Nat.div_lt_iff_lt_mul h0, Nat.mul_comm]
  by_cases h2 : 65536 / d < n
  · have hr : stretchS l d = ([], 4) := by unfold stretchS; rw [if_neg h1, if_pos (by rw [hl]; have : ((65536 / d : Nat) : Int) < n := by omega
                                                                                      simpa using this)]
    rw [hr]
    have h0n : 0 < n := Nat.lt_of_le_of_lt (Nat.zero_le _) h2
    have hd : Int.tdiv 65536 (n : Int) = ((65536 / n : Nat) : Int) := by rw [Int.tdiv_eq_ediv_of_nonneg (by omega)]; rfl
    have hdz : ¬ (n : Int) = 0 := by omega
    have hn0 : (0 : Int) < n := by omega
    have hql : 65536 / n ≤ 65536 := Nat.div_le_self _ _
    have h2i : ((65536 / n : Nat) : Int) < d := by have := (hswap (by omega)).1 h2; omega
    clear hswap h2
    generalize hq : 65536 / n = q at *
    go_enter Try.func22, Try.ntmps22
    go_wp2
    go_ret2
    exact gives_none _ _
  have hr : stretchS l d = (rep l d, 0) := by unfold stretchS; rw [if_neg h1, if_neg (by rw [hl]; have : ¬ ((65536 / d : Nat) : Int) < n := by omega
                                                                                         simpa using this)]; rfl
  rw [hr]
  have hnd : n * d ≤ 65536 := by
    have h3 : n ≤ 65536 / d := by omega
    have := Nat.mul_le_mul_right d h3
    have h4 := Nat.div_mul_le_self 65536 d
    omega
  have HND := Lib.hid hnd
  clear hnd hr
  obtain ⟨i0, hi, hz0, hz1, hz2⟩ := info_parts boolInfo
  rcases Nat.eq_zero_or_pos n with h0 | h0
  · subst h0
    obtain rfl : l = [] := List.eq_nil_of_length_eq_zero hl
    go_enter Try.func22, Try.ntmps22
    go_wp2
    go_loop [6, 7] (fun v i => v = .slice none 0 0 ∧ i = .int .i64 0) (fun _ _ => 0)
    case atStart => exact ⟨rfl, rfl⟩
    case round =>
      obtain ⟨rfl, rfl⟩ := hrel
      go_wp2
      go_ret2
      exact gives_none _ _
  have hd2 : d ≤ 65536 := by
    have h6 := Nat.le_mul_of_pos_left d h0
    have := HND.out
    omega
  have hd : Int.tdiv 65536 (n : Int) = ((65536 / n : Nat) : Int) := by rw [Int.tdiv_eq_ediv_of_nonneg (by omega)]; rfl
  have hdz : ¬ (n : Int) = 0 := by omega
  have hn0 : (0 : Int) < n := by omega
  have hql : 65536 / n ≤ 65536 := Nat.div_le_self _ _
  have h2i : ¬ ((65536 / n : Nat) : Int) < d := by have := (hswap h0).2; omega
  clear hswap h2
  generalize hq : 65536 / n = q at *
  go_enter Try.func22, Try.ntmps22
  go_wp2
  go_loopw [6, 7] (fun v i wr => ∃ j : Nat, j ≤ n ∧ i = .int .i64 (j : Int) ∧ wr.ownsRow w.heap.size 4 1 v (rep (l.take j) d).length (bl (rep (l.take j) d)) ∧ Below w.heap.size w wr)
    (fun _ i _ => n - (intOf i).toNat)
  case atStart => exact ⟨0, Nat.zero_le _, rfl, World.ownsRow_nil _ _ _ _, Below.refl _ _⟩
  case round =>
    obtain ⟨j, hj, rfl, hownr, hbel⟩ := hrel
    have hsz := hbel.size
    by_cases hlt : j < n
    · have hk0 : (0 : Int) ≤ j := by omega
      have hk1 : (j : Int) < n := by omega
      have HE := Lib.hid (rep_take (l := l) (j := j) (by omega) d)
      have hlen : (rep (l.take j) d).length ≤ 65536 := by
        rw [length_rep, List.length_take, Nat.min_eq_left (by omega)]
        exact Nat.le_trans (Nat.mul_le_mul_right d hj) HND.out
      generalize hgl : rep (l.take j) d = pre at *
      have HP := Lib.hid hgl
      clear hgl
      obtain ⟨x, hx⟩ : ∃ x, x = l.getD j false := ⟨_, rfl⟩
      have HX := Lib.hid hx
      rw [← hx] at HE
      clear hx
      go_wp2
      obtain ⟨wq, hwq⟩ : ∃ wq, wq = wr := ⟨_, rfl⟩
      subst hwq
      go_loopw [6, 8] (fun v i wr => ∃ m : Nat, m ≤ d ∧ i = .int .i64 (m : Int) ∧ wr.ownsRow w.heap.size 4 1 v (pre.length + m) (bl (pre ++ List.replicate m x)) ∧ Below w.heap.size w wr)
        (fun _ i _ => d - (intOf i).toNat)
      case atStart => exact ⟨0, Nat.zero_le _, rfl, by simpa using hownr, hbel⟩
      case round =>
        clear hownr hbel hsz
        obtain ⟨m, hm, rfl, hownr, hbel⟩ := hrel
        have hsz := hbel.size
        by_cases hlm : m < d
        · obtain ⟨b, off, rfl, hb, hc⟩ := (hs.below hbel).at_ hlt (.bool false)
          rw [getD_bl l j (by omega), ← HX.out] at hc
          have hm1 : (m : Int) < d := by omega
          go_wp2_with (at_builtin; refine wpList_append_one rfl _ _ 25 rfl w.heap.size 4 i0 (.bool false) 1 Try.underlying25 hi hz0 hz1 hz2 rfl _ _ _ rfl hownr (.bool x) 1 rfl rfl ?c1 ?c2 w hbel ?c3 ?_)
          case c1 => unfold maxLen; omega
          case c2 => omega
          case c3 => omega
          intro v' w1 hown' hbel'
          have hown2 : w1.ownsRow w.heap.size 4 1 v' (pre.length + (m + 1)) (bl (pre ++ List.replicate (m + 1) x)) := by
            rw [List.replicate_succ', ← List.append_assoc]
            simpa [bl, Nat.add_assoc] using hown'
          clear hown' hownr hbel
          go_wp2
          go_roundw
          case rel => exact ⟨m + 1, by omega, by go_num, hown2, hbel'⟩
          case measure => simp [intOf]; omega
        · obtain rfl : m = d := by omega
          have hj1 : ¬ (m : Int) < m := by omega
          rw [← HE.out, show pre.length + m = (rep (l.take (j + 1)) m).length by rw [HE.out]; simp] at hownr
          go_wp2
          go_roundw
          case rel => exact ⟨j + 1, by omega, by go_num, hownr, hbel⟩
          case measure => simp [intOf]; omega
    · obtain rfl : j = n := by omega
      obtain ⟨A2, c2, rfl⟩ := own_slice hownr
      go_wp2
      go_ret2
      rw [List.take_of_length_le (by omega)] at *
      exact gives_own (by simp [bl]) hownr hbel
end Go.Proofs.Ytjobcobgmajajaa
