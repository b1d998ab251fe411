/- Contracts of FromWords and of its specification. -/
import Derived.Test.YtjpfalpengocjaaW6
import Derived.Test.YtjpfalpengocjaaKit2
set_option linter.unusedVariables false
namespace Go.Proofs.Ytjpfalpengocjaa
open Go.RowKit

def fits (k : Nat) (x : Int) : Bool := decide (0 ≤ x ∧ x < 2 ^ k)
/-- what FromWords returns -/
def fromWordsS (l : List Int) (s : Int) : List Bool × Int :=
  if s < 1 ∨ 62 < s then ([], 3) else if 1048576 / s < (l.length : Int) then ([], 4)
  else if l.all (fits s.toNat) then (l.flatMap fun x => lowI x s.toNat, 0) else ([], 3)
theorem all_take_succ {α : Type} (d : α) (p : α → Bool) (l : List α) (t : Nat) (h : t < l.length) : (l.take (t + 1)).all p = ((l.take t).all p && p (l.getD t d)) := by
  rw [List.take_add_one, List.getElem?_eq_getElem h, List.all_append]
  simp [List.getD, h]
theorem all_false {α : Type} (d : α) (p : α → Bool) (l : List α) (t : Nat) (h : t < l.length) (hb : p (l.getD t d) = false) : l.all p = false := by
  rw [List.all_eq_false]
  refine ⟨l.getD t d, ?_, by rw [hb]; decide⟩
  rw [show l.getD t d = l[t] by simp [List.getD, h]]
  exact List.getElem_mem _
def cat (k : Nat) (l : List Int) : List Bool := l.flatMap fun x => lowI x k
theorem cat_take_succ (k : Nat) (l : List Int) (t : Nat) (h : t < l.length) : cat k (l.take (t + 1)) = cat k (l.take t) ++ lowI (l.getD t 0) k := by
  unfold cat
  rw [List.take_add_one, List.getElem?_eq_getElem h, List.flatMap_append]
  simp [List.getD, h]
theorem length_cat (k : Nat) (l : List Int) : (cat k l).length = k * l.length := by
  unfold cat
  induction l with
  | nil => simp
  | cons x l ih => rw [List.flatMap_cons, List.length_append, ih, length_lowI, List.length_cons, Nat.mul_succ]; omega
theorem bl_append (a b : List Bool) : bl (a ++ b) = bl a ++ bl b := by simp [bl]

theorem pow62 (k : Nat) (hk : k ≤ 62) : (0 : Int) < 2 ^ k ∧ (2 : Int) ^ k ≤ 4611686018427387904 := by
  refine ⟨Int.pow_pos (by omega), ?_⟩
  have : (2 : Nat) ^ k ≤ 2 ^ 62 := Nat.pow_le_pow_right (by omega) hk
  have h62 : (2 : Nat) ^ 62 = 4611686018427387904 := by decide
  have h7 : ((2 ^ k : Nat) : Int) ≤ 4611686018427387904 := by omega
  rw [Int.natCast_pow] at h7
  exact h7

theorem fromWords_ok (A : Option Addr) (m c k M : Nat) (l : List Int) (w : World) (hs : Sl w w.heap.size A m c (il l)) (hl : l.length = m) (hk1 : 1 ≤ k) (hk2 : k ≤ 62) (HM : Hid (M = m * k)) (hM : M ≤ 1048576)
    (h3 : (m : Int) ≤ 1048576 / (k : Int)) (r : List Bool) (err : Int) (Hr : Hid ((l.all (fits k) = true → r = cat k l ∧ err = 0) ∧ (l.all (fits k) = false → r = [] ∧ err = 3))) :
    Calls Try.prog 32 #[.slice A m c, .int .i64 (k : Int)] w (Gives (bl r) err w) := by
  have hmax := hs.max
  have hle := hs.le
  unfold maxLen at hmax
  obtain ⟨i0, hi, hz0, hz1, hz2⟩ := info_parts boolInfo
  have hmul : (m : Int) * (k : Int) = (M : Int) := by rw [HM.out, Int.natCast_mul]
  have hmk : m ≤ 1048576 := by
    have h1 : m * 1 ≤ m * k := Nat.mul_le_mul_left m hk1
    have := HM.out
    omega
  obtain ⟨Q, hQ⟩ : ∃ Q : Int, Q = 1048576 / (k : Int) := ⟨_, rfl⟩
  have hQ1 : (1048576 : Int).tdiv (k : Int) = Q := by rw [hQ, Int.tdiv_eq_ediv_of_nonneg (by omega)]
  have hQ2 : Q ≤ 1048576 := by rw [hQ]; exact Int.ediv_le_self _ (by omega)
  rw [← hQ] at h3
  clear hQ
  go_enter Try.func32, Try.ntmps32
  go_wp2_with (at_make; refine wpList_make_own _ rfl _ _ 22 rfl w.heap.size 4 i0 (.bool false) 1 Try.underlying22 hi hz0 hz1 _ _ (M : Int) M rfl rfl rfl (by rw [hz2]; omega) (by unfold maxLen; omega) (Nat.le_refl _) ?_)
  intro w1 hown1 hgrow1
  have hbel1 : Below w.heap.size w w1 := (Below.refl _ _).grown hgrow1 (Nat.le_refl _) (by simp)
  clear hgrow1 hmul hQ1 hQ2 h3
  have hP := pow62 k hk2
  go_wp2
  go_loopw [6, 27] (fun v i wr => ∃ t p : Nat, t ≤ m ∧ p ≤ M ∧ Hid (p = k * t ∧ (l.take t).all (fits k) = true) ∧ i = .int .i64 t ∧ wr.ownsRow w.heap.size 4 1 v p (bl (cat k (l.take t))) ∧ Below w.heap.size w wr)
    (fun _ i _ => m - (intOf i).toNat)
  case atStart => exact ⟨0, 0, Nat.zero_le _, Nat.zero_le _, ⟨rfl, rfl⟩, rfl, hown1, hbel1⟩
  case round =>
    obtain ⟨t, p, ht, hpM, hp, rfl, hownr, hbel⟩ := hrel
    clear hown1 hbel1
    have hsz := hbel.size
    by_cases hlt : t < m
    · obtain ⟨b, off, rfl, hb, hc⟩ := (hs.below hbel).at_ hlt (.int .i64 0)
      rw [getD_il l t (by omega)] at hc
      have HA := Lib.hid (all_take_succ 0 (fits k) l t (by omega))
      have HF := Lib.hid (fun hb => all_false 0 (fits k) l t (by omega) hb)
      have HS := Lib.hid (cat_take_succ k l t (by omega))
      obtain ⟨x, hx⟩ : ∃ x, x = l.getD t 0 := ⟨_, rfl⟩
      rw [← hx] at hc HA HF HS
      clear hx
      have hpk : Hid (p + k = k * (t + 1)) := by
        have := hp.out.1
        show p + k = k * (t + 1)
        rw [Nat.mul_succ]; omega
      have hpM' : p + k ≤ M := by
        have h1 : k * (t + 1) ≤ k * m := Nat.mul_le_mul_left k (by omega)
        have h2 : k * m = m * k := Nat.mul_comm _ _
        have := hpk.out
        have := HM.out
        omega
      by_cases hx0 : x < 0
      · go_wp2
        go_ret2
        have e : l.all (fits k) = false := HF.out (by unfold fits; rw [decide_eq_false_iff_not]; omega)
        obtain ⟨er, ee⟩ := Hr.out.2 e
        rw [er, ee]
        exact ⟨none, 0, rfl, Sl.none_ _ _, hbel⟩
      by_cases hx1 : 2 ^ k ≤ x
      · go_wp2
        go_ret2
        have e : l.all (fits k) = false := HF.out (by unfold fits; rw [decide_eq_false_iff_not]; omega)
        obtain ⟨er, ee⟩ := Hr.out.2 e
        rw [er, ee]
        exact ⟨none, 0, rfl, Sl.none_ _ _, hbel⟩
      go_wp2_with (go_at_call 38; refine (appendLow_any w.heap.size _ p _ x k _ hownr (by omega) hk2 (by omega)).mono ?_; rintro e w2 ⟨v2, rfl, hown2, hbel2⟩)
      have hfit : fits k x = true := by unfold fits; rw [decide_eq_true_iff]; omega
      have hall : Hid (p + k = k * (t + 1) ∧ (l.take (t + 1)).all (fits k) = true) := ⟨hpk.out, by rw [HA.out, hp.out.2, hfit]; rfl⟩
      have hown3 : w2.ownsRow w.heap.size 4 1 v2 (p + k) (bl (cat k (l.take (t + 1)))) := by rw [HS.out, bl_append]; exact hown2
      have hbel3 := hbel.trans hbel2
      clear hown2 hbel2 hownr hbel hc hfit
      go_roundw
      case rel => exact ⟨t + 1, p + k, by omega, hpM', hall, by go_num, hown3, hbel3⟩
      case measure => simp [intOf]; omega
    · obtain rfl : t = m := by omega
      have HA := Lib.hid (show l.all (fits k) = true by have h := hp.out.2; rwa [List.take_of_length_le (by omega)] at h)
      have HC := Lib.hid (show (bl (cat k l)).length = p by rw [length_bl, length_cat, hl]; exact hp.out.1.symm)
      rw [List.take_of_length_le (by omega)] at hownr
      obtain ⟨A2, c2, rfl⟩ := own_slice hownr
      clear hp
      go_wp2
      go_ret2
      obtain ⟨er, ee⟩ := Hr.out.1 HA.out
      rw [er, ee]
      exact gives_own HC.out hownr hbel

theorem fromWords_any (A : Option Addr) (m c : Nat) (l : List Int) (s : Int) (w : World) (hs : Sl w w.heap.size A m c (il l)) :
    Calls Try.prog 32 #[.slice A m c, .int .i64 s] w (Gives (bl (fromWordsS l s).1) (fromWordsS l s).2 w) := by
  have hl : l.length = m := by rw [← length_il]; exact hs.len
  have hmax := hs.max
  have hle := hs.le
  unfold maxLen at hmax
  by_cases h1 : s < 1
  · have hr : fromWordsS l s = ([], 3) := by unfold fromWordsS; rw [if_pos (by omega)]
    rw [hr]
    go_enter Try.func32, Try.ntmps32
    go_wp2
    go_ret2
    exact gives_none _ _
  by_cases h2 : 62 < s
  · have hr : fromWordsS l s = ([], 3) := by unfold fromWordsS; rw [if_pos (by omega)]
    rw [hr]
    go_enter Try.func32, Try.ntmps32
    go_wp2
    go_ret2
    exact gives_none _ _
  by_cases h3 : 1048576 / s < (m : Int)
  · have hr : fromWordsS l s = ([], 4) := by unfold fromWordsS; rw [if_neg (by omega), hl, if_pos h3]
    rw [hr]
    go_enter Try.func32, Try.ntmps32
    go_wp2
    go_ret2
    exact gives_none _ _
  obtain ⟨k, rfl⟩ := Int.eq_ofNat_of_zero_le (show 0 ≤ s by omega)
  have hmk : m * k ≤ 1048576 := by
    have h4 : (m : Int) ≤ 1048576 / (k : Int) := by omega
    have h5 := (Int.le_ediv_iff_mul_le (show (0 : Int) < k by omega)).1 h4
    rw [← Int.natCast_mul] at h5
    omega
  have hr : fromWordsS l k = if l.all (fits k) then (cat k l, 0) else ([], 3) := by unfold fromWordsS; rw [if_neg (by omega), hl, if_neg h3]; simp [cat]
  rw [hr]
  refine fromWords_ok A m c k (m * k) l w hs hl (by omega) (by omega) rfl hmk (by omega) _ _ ⟨fun h => ?_, fun h => ?_⟩
  · rw [h]; exact ⟨rfl, rfl⟩
  · rw [h]; exact ⟨rfl, rfl⟩

theorem rFromWords_ok (A : Option Addr) (m c k M : Nat) (l : List Int) (w : World) (hs : Sl w w.heap.size A m c (il l)) (hl : l.length = m) (hk1 : 1 ≤ k) (hk2 : k ≤ 62) (HM : Hid (M = m * k)) (hM : M ≤ 1048576)
    (h3 : (m : Int) ≤ 1048576 / (k : Int)) (r : List Bool) (err : Int) (Hr : Hid ((l.all (fits k) = true → r = cat k l ∧ err = 0) ∧ (l.all (fits k) = false → r = [] ∧ err = 3))) :
    Calls Try.prog 33 #[.slice A m c, .int .i64 (k : Int)] w (Gives (bl r) err w) := by
  have hmax := hs.max
  have hle := hs.le
  unfold maxLen at hmax
  obtain ⟨i0, hi, hz0, hz1, hz2⟩ := info_parts boolInfo
  have hmk : m ≤ 1048576 := by
    have h1 : m * 1 ≤ m * k := Nat.mul_le_mul_left m hk1
    have := HM.out
    omega
  obtain ⟨Q, hQ⟩ : ∃ Q : Int, Q = 1048576 / (k : Int) := ⟨_, rfl⟩
  have hQ1 : (1048576 : Int).tdiv (k : Int) = Q := by rw [hQ, Int.tdiv_eq_ediv_of_nonneg (by omega)]
  have hQ2 : Q ≤ 1048576 := by rw [hQ]; exact Int.ediv_le_self _ (by omega)
  rw [← hQ] at h3
  clear hQ
  have hP := pow62 k hk2
  go_enter Try.func33, Try.ntmps33
  go_wp2
  clear hQ1 hQ2 h3
  go_loopw [6, 7] (fun v i wr => ∃ t p : Nat, t ≤ m ∧ p ≤ M ∧ Hid (p = k * t ∧ (l.take t).all (fits k) = true) ∧ i = .int .i64 t ∧ wr.ownsRow w.heap.size 4 1 v p (bl (cat k (l.take t))) ∧ Below w.heap.size w wr)
    (fun _ i _ => m - (intOf i).toNat)
  case atStart => exact ⟨0, 0, Nat.zero_le _, Nat.zero_le _, ⟨rfl, rfl⟩, rfl, World.ownsRow_nil _ _ _ _, Below.refl _ _⟩
  case round =>
    obtain ⟨t, p, ht, hpM, hp, rfl, hownr, hbel⟩ := hrel
    have hsz := hbel.size
    by_cases hlt : t < m
    · obtain ⟨b, off, rfl, hb, hc⟩ := (hs.below hbel).at_ hlt (.int .i64 0)
      rw [getD_il l t (by omega)] at hc
      have HA := Lib.hid (all_take_succ 0 (fits k) l t (by omega))
      have HF := Lib.hid (fun hb => all_false 0 (fits k) l t (by omega) hb)
      have HS := Lib.hid (cat_take_succ k l t (by omega))
      have hcc : ∀ wq : World, Below w.heap.size w wq → wq.cell? ⟨b, off + t, none⟩ = some (.int .i64 (l.getD t 0)) := by
        intro wq hq
        rw [hq.cell (p := ⟨b, off + t, none⟩) hb, ← hbel.cell (p := ⟨b, off + t, none⟩) hb]
        exact hc
      obtain ⟨x, hx⟩ : ∃ x, x = l.getD t 0 := ⟨_, rfl⟩
      rw [← hx] at hc HA HF HS hcc
      clear hx
      have HCC := Lib.hid hcc
      clear hcc
      have hpk : Hid (p + k = k * (t + 1)) := by
        have := hp.out.1
        show p + k = k * (t + 1)
        rw [Nat.mul_succ]; omega
      have hpM' : p + k ≤ M := by
        have h1 : k * (t + 1) ≤ k * m := Nat.mul_le_mul_left k (by omega)
        have h2 : k * m = m * k := Nat.mul_comm _ _
        have := hpk.out
        have := HM.out
        omega
      by_cases hx0 : x < 0
      · go_wp2
        go_ret2
        have e : l.all (fits k) = false := HF.out (by unfold fits; rw [decide_eq_false_iff_not]; omega)
        obtain ⟨er, ee⟩ := Hr.out.2 e
        rw [er, ee]
        exact ⟨none, 0, rfl, Sl.none_ _ _, hbel⟩
      by_cases hx1 : 2 ^ k - 1 < x
      · go_wp2
        go_ret2
        have e : l.all (fits k) = false := HF.out (by unfold fits; rw [decide_eq_false_iff_not]; omega)
        obtain ⟨er, ee⟩ := Hr.out.2 e
        rw [er, ee]
        exact ⟨none, 0, rfl, Sl.none_ _ _, hbel⟩
      have hfit : fits k x = true := by unfold fits; rw [decide_eq_true_iff]; omega
      have hall : Hid (p + k = k * (t + 1) ∧ (l.take (t + 1)).all (fits k) = true) := ⟨hpk.out, by rw [HA.out, hp.out.2, hfit]; rfl⟩
      clear hfit hp HA HF hpk
      go_wp2
      clear hc
      obtain ⟨wo, rfl⟩ : ∃ wo : World, wo = wr := ⟨_, rfl⟩
      go_loopw [6, 8] (fun v i wr => ∃ j : Nat, j ≤ k ∧ i = .int .i64 ((k : Int) - 1 - j) ∧ wr.ownsRow w.heap.size 4 1 v (p + j) (bl (cat k (l.take t)) ++ bl ((lowI x k).take j)) ∧ Below w.heap.size w wr)
        (fun _ i _ => (intOf i + 1).toNat)
      case atStart => exact ⟨0, Nat.zero_le _, by simp, by simpa [bl] using hownr, hbel⟩
      case round =>
        obtain ⟨j, hj, rfl, hownr2, hbel2⟩ := hrel
        clear hownr hbel hsz
        have hsz2 := hbel2.size
        by_cases hjk : j < k
        · have hc2 := HCC.out wr hbel2
          go_wp2_with (at_builtin; refine wpList_append_one rfl _ _ 22 rfl w.heap.size 4 i0 (.bool false) 1 Try.underlying22 hi hz0 hz1 hz2 rfl _ _ _ rfl hownr2 _ _ rfl rfl (by unfold maxLen; omega) (by omega) w hbel2 (by omega) ?_)
          intro v' w2 hown' hbel'
          have hown2 : w2.ownsRow w.heap.size 4 1 v' (p + (j + 1)) (bl (cat k (l.take t)) ++ bl ((lowI x k).take (j + 1))) := by
            rw [take_lowI x k j hjk, ← and_bit]
            simpa [bl, Nat.add_assoc] using hown'
          clear hown' hownr2 hbel2 hc2
          go_wp2
          go_roundw
          case rel => exact ⟨j + 1, by omega, by congr 1; omega, hown2, hbel'⟩
          case measure => simp [intOf]; omega
        · obtain rfl : j = k := by omega
          have hown3 : wr.ownsRow w.heap.size 4 1 u6 (p + j) (bl (cat j (l.take (t + 1)))) := by
            rw [HS.out, bl_append]
            rw [show (lowI x j).take j = lowI x j from List.take_of_length_le (by rw [length_lowI]; omega)] at hownr2
            exact hownr2
          clear hownr2
          go_wp2
          go_roundw
          case rel => exact ⟨t + 1, p + j, by omega, hpM', hall, by go_num, hown3, hbel2⟩
          case measure => simp [intOf]; omega
    · obtain rfl : t = m := by omega
      have HA := Lib.hid (show l.all (fits k) = true by have h := hp.out.2; rwa [List.take_of_length_le (by omega)] at h)
      have HC := Lib.hid (show (bl (cat k l)).length = p by rw [length_bl, length_cat, hl]; exact hp.out.1.symm)
      rw [List.take_of_length_le (by omega)] at hownr
      obtain ⟨A2, c2, rfl⟩ := own_slice hownr
      clear hp
      go_wp2
      go_ret2
      obtain ⟨er, ee⟩ := Hr.out.1 HA.out
      rw [er, ee]
      exact gives_own HC.out hownr hbel

theorem rFromWords_any (A : Option Addr) (m c : Nat) (l : List Int) (s : Int) (w : World) (hs : Sl w w.heap.size A m c (il l)) :
    Calls Try.prog 33 #[.slice A m c, .int .i64 s] w (Gives (bl (fromWordsS l s).1) (fromWordsS l s).2 w) := by
  have hl : l.length = m := by rw [← length_il]; exact hs.len
  have hmax := hs.max
  have hle := hs.le
  unfold maxLen at hmax
  by_cases h1 : s < 1
  · have hr : fromWordsS l s = ([], 3) := by unfold fromWordsS; rw [if_pos (by omega)]
    rw [hr]
    go_enter Try.func33, Try.ntmps33
    go_wp2
    go_ret2
    exact gives_none _ _
  by_cases h2 : 62 < s
  · have hr : fromWordsS l s = ([], 3) := by unfold fromWordsS; rw [if_pos (by omega)]
    rw [hr]
    go_enter Try.func33, Try.ntmps33
    go_wp2
    go_ret2
    exact gives_none _ _
  by_cases h3 : 1048576 / s < (m : Int)
  · have hr : fromWordsS l s = ([], 4) := by unfold fromWordsS; rw [if_neg (by omega), hl, if_pos h3]
    rw [hr]
    go_enter Try.func33, Try.ntmps33
    go_wp2
    go_ret2
    exact gives_none _ _
  obtain ⟨k, rfl⟩ := Int.eq_ofNat_of_zero_le (show 0 ≤ s by omega)
  have hmk : m * k ≤ 1048576 := by
    have h4 : (m : Int) ≤ 1048576 / (k : Int) := by omega
    have h5 := (Int.le_ediv_iff_mul_le (show (0 : Int) < k by omega)).1 h4
    rw [← Int.natCast_mul] at h5
    omega
  have hr : fromWordsS l k = if l.all (fits k) then (cat k l, 0) else ([], 3) := by unfold fromWordsS; rw [if_neg (by omega), hl, if_neg h3]; simp [cat]
  rw [hr]
  refine rFromWords_ok A m c k (m * k) l w hs hl (by omega) (by omega) rfl hmk (by omega) _ _ ⟨fun h => ?_, fun h => ?_⟩
  · rw [h]; exact ⟨rfl, rfl⟩
  · rw [h]; exact ⟨rfl, rfl⟩
end Go.Proofs.Ytjpfalpengocjaa
