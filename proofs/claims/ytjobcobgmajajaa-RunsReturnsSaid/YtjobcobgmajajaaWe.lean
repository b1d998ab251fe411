/- Contracts of Quantize and its specification. -/
import Derived.Test.YtjobcobgmajajaaWd
set_option linter.unusedVariables false
namespace Go.Proofs.Ytjobcobgmajajaa
open Go.RowKit

theorem quantize_any (A : Option Addr) (n c : Nat) (l : List Int) (T : Int) (w : World) (hs : Sl w w.heap.size A n c (il l)) (hn : n ≤ 1048576) :
    Calls Try.prog 19 #[.slice A n c, .int .i64 T] w (Gives (il (quantS l T).1) (quantS l T).2 w) := by
  have hl : l.length = n := by rw [← length_il]; exact hs.len
  have hmax := hs.max
  have hle := hs.le
  unfold maxLen at hmax
  by_cases h1 : n = 0
  · have hr : quantS l T = ([], 5) := by unfold quantS; rw [if_pos (by omega)]
    rw [hr]
    subst h1
    go_enter Try.func19, Try.ntmps19
    go_wp2
    go_ret2
    exact gives_none _ _
  have h1i : ((n : Int) == 0) = false := by rw [beq_eq_false_iff_ne]; omega
  by_cases h2 : 65536 < n
  · have hr : quantS l T = ([], 4) := by unfold quantS; rw [if_neg (by omega), if_pos (by omega)]
    rw [hr]
    go_enter Try.func19, Try.ntmps19
    go_wp2
    go_ret2
    exact gives_none _ _
  by_cases h3 : okW l = false
  · have hr : quantS l T = ([], 3) := by unfold quantS; rw [if_neg (by omega), if_neg (by omega), if_pos (.inl h3)]
    rw [hr]
    go_enter Try.func19, Try.ntmps19
    go_wp2_with fail
    refine (areWidths_any _ _ _ _ l _ hs).mono ?_
    rintro e w' ⟨rfl, rfl⟩
    rw [h3]
    go_wp2
    go_ret2
    exact gives_none _ _
  have h3t : okW l = true := by simpa using h3
  have H3 := Lib.hid h3t
  clear h3
  by_cases h4 : T < n
  · have hr : quantS l T = ([], 3) := by unfold quantS; rw [if_neg (by omega), if_neg (by omega), if_pos (.inr (.inl (by omega)))]
    rw [hr]
    clear h3t
    go_enter Try.func19, Try.ntmps19
    go_wp2_with fail
    refine (areWidths_any _ _ _ _ l _ hs).mono ?_
    rintro e w' ⟨rfl, rfl⟩
    rw [H3.out]
    go_wp2
    go_ret2
    exact gives_none _ _
  by_cases h5 : 65536 < T
  · have hr : quantS l T = ([], 3) := by unfold quantS; rw [if_neg (by omega), if_neg (by omega), if_pos (.inr (.inr (by omega)))]
    rw [hr]
    clear h3t
    go_enter Try.func19, Try.ntmps19
    go_wp2_with fail
    refine (areWidths_any _ _ _ _ l _ hs).mono ?_
    rintro e w' ⟨rfl, rfl⟩
    rw [H3.out]
    go_wp2
    go_ret2
    exact gives_none _ _
  have hr : quantS l T = (gr (sm l) T l (T - n).toNat, 0) := by unfold quantS; rw [if_neg (by omega), if_neg (by omega), if_neg (by rw [h3t]; simp; omega), hl]
  rw [hr]
  have hsb := sm_bound h3t
  have HN : Hid (Nums (sm l) T) := ⟨by omega, by omega, by omega, by omega⟩
  have HG : Hid ((gr (sm l) T l (T - n).toNat).length = n) := by
    have := (gr_opt (s := sm l) (T := T) (l := l) (by omega) (by omega) (T - n).toNat).1.len
    exact this.trans hl
  have HD := Lib.hid (divide_any A n c l (sm l) T w hs H3.out (by omega) (by omega) (by omega) rfl HN.out)
  generalize gr (sm l) T l (T - n).toNat = res at *
  clear h3t hr hsb
  go_enter Try.func19, Try.ntmps19
  go_wp2_with fail
  refine (areWidths_any _ _ _ _ l _ hs).mono ?_
  rintro e w' ⟨rfl, rfl⟩
  rw [H3.out]
  go_wp2_with fail
  refine (sum_any _ _ _ _ l _ hs H3.out hn).mono ?_
  rintro e w' ⟨rfl, rfl⟩
  go_wp2_with fail
  refine HD.out.mono ?_
  rintro e w2 ⟨A2, c2, rfl, hs2, hb2⟩
  go_wp2
  go_ret2
  exact ⟨A2, c2, rfl, hs2, hb2⟩

theorem one_le_sm {o : List Int} (h : ∀ i, i < o.length → 1 ≤ o.getD i 0) : 0 ≤ sm o ∧ ∀ i, i < o.length → o.getD i 0 ≤ sm o := by
  induction o with
  | nil => simp [sm]
  | cons x o ih =>
    have h0 : 1 ≤ x := by simpa using h 0 (by simp)
    have h1 := ih (fun i hi => by simpa using h (i + 1) (by simpa using hi))
    simp only [sm]
    refine ⟨by omega, fun i hi => ?_⟩
    cases i with
    | zero => simp; omega
    | succ i =>
      have := h1.2 i (by simpa using hi)
      rw [List.getD_cons_succ]
      omega
theorem gr_bound {s T : Int} {l : List Int} (hs : 0 < s) (hl : 0 < l.length) (m i : Nat) (hi : i < l.length) : 1 ≤ (gr s T l m).getD i 0 ∧ (gr s T l m).getD i 0 ≤ l.length + m := by
  have h := gr_opt (T := T) hs hl m
  have h1 := one_le_sm (o := gr s T l m) (by rw [h.1.len]; exact h.1.one)
  have h2 := h1.2 i (by rw [h.1.len]; exact hi)
  rw [h.2] at h2
  exact ⟨h.1.one i hi, h2⟩
theorem mul_bound {a b p q : Int} (h1 : 0 ≤ a) (h2 : a ≤ p) (h3 : 0 ≤ b) (h4 : b ≤ q) (hp : 0 ≤ p) : 0 ≤ a * b ∧ a * b ≤ p * q := ⟨Int.mul_nonneg h1 h3, Int.mul_le_mul h2 h4 h3 hp⟩

set_option maxHeartbeats 2000000 in
set_option maxRecDepth 100000 in
theorem rQuantize_any (A : Option Addr) (n c : Nat) (l : List Int) (T : Int) (w : World) (hs : Sl w w.heap.size A n c (il l)) (hn : n ≤ 1048576) :
    Calls Try.prog 20 #[.slice A n c, .int .i64 T] w (Gives (il (quantS l T).1) (quantS l T).2 w) := by
  have hl : l.length = n := by rw [← length_il]; exact hs.len
  have hmax := hs.max
  have hle := hs.le
  unfold maxLen at hmax
  by_cases h1 : n = 0
  · have hr : quantS l T = ([], 5) := by unfold quantS; rw [if_pos (by omega)]
    rw [hr]
    subst h1
    go_enter Try.func20, Try.ntmps20
    go_wp2
    go_ret2
    exact gives_none _ _
  have h1i : ((n : Int) == 0) = false := by rw [beq_eq_false_iff_ne]; omega
  by_cases h2 : 65536 < n
  · have hr : quantS l T = ([], 4) := by unfold quantS; rw [if_neg (by omega), if_pos (by omega)]
    rw [hr]
    go_enter Try.func20, Try.ntmps20
    go_wp2
    go_ret2
    exact gives_none _ _
  by_cases h3 : okW l = false
  · have hr : quantS l T = ([], 3) := by unfold quantS; rw [if_neg (by omega), if_neg (by omega), if_pos (.inl h3)]
    rw [hr]
    have ht : totS l = -1 := by unfold totS; rw [h3]; rfl
    go_enter Try.func20, Try.ntmps20
    go_wp2_with fail
    refine (rTotal_any _ _ _ _ l _ hs hn).mono ?_
    rintro e w' ⟨rfl, rfl⟩
    rw [ht]
    go_wp2
    go_ret2
    exact gives_none _ _
  have h3t : okW l = true := by simpa using h3
  have H3 := Lib.hid h3t
  have ht : totS l = sm l := by unfold totS; rw [if_pos h3t]
  have hsb := sm_bound h3t
  have hr0 : okW l = true := h3t
  clear h3
  by_cases h4 : T < n
  · have hr : quantS l T = ([], 3) := by unfold quantS; rw [if_neg (by omega), if_neg (by omega), if_pos (.inr (.inl (by omega)))]
    rw [hr]
    have HT := Lib.hid ht
    have hs0 : 0 ≤ sm l := by omega
    clear h3t hr0 ht hsb
    generalize sm l = s at *
    go_enter Try.func20, Try.ntmps20
    go_wp2_with fail
    refine (rTotal_any _ _ _ _ l _ hs hn).mono ?_
    rintro e w' ⟨rfl, rfl⟩
    rw [HT.out]
    go_wp2
    go_ret2
    exact gives_none _ _
  by_cases h5 : 65536 < T
  · have hr : quantS l T = ([], 3) := by unfold quantS; rw [if_neg (by omega), if_neg (by omega), if_pos (.inr (.inr (by omega)))]
    rw [hr]
    have HT := Lib.hid ht
    have hs0 : 0 ≤ sm l := by omega
    clear h3t hr0 ht hsb
    generalize sm l = s at *
    go_enter Try.func20, Try.ntmps20
    go_wp2_with fail
    refine (rTotal_any _ _ _ _ l _ hs hn).mono ?_
    rintro e w' ⟨rfl, rfl⟩
    rw [HT.out]
    go_wp2
    go_ret2
    exact gives_none _ _
  have hr : quantS l T = (gr (sm l) T l (T - n).toNat, 0) := by unfold quantS; rw [if_neg (by omega), if_neg (by omega), if_neg (by rw [h3t]; simp; omega), hl]
  rw [hr]
  have HT := Lib.hid ht
  have hs0 : 1 ≤ sm l ∧ sm l ≤ 4294967296 := by omega
  clear h3t hr0 ht hsb hr
  generalize sm l = s at *
  obtain ⟨i0, hi, hz0, hz1, hz2⟩ := info_parts intInfo
  obtain ⟨M, hM⟩ : ∃ M : Nat, M = (T - n).toNat := ⟨_, rfl⟩
  rw [← hM]
  have hTM : T = ((n + M : Nat) : Int) := by omega
  have hMb : n + M ≤ 65536 := by omega
  clear hM
  go_enter Try.func20, Try.ntmps20
  have HTM := Lib.hid hTM
  clear hTM
  go_wp2_with fail
  refine (rTotal_any _ _ _ _ l _ hs hn).mono ?_
  rintro e w' ⟨rfl, rfl⟩
  rw [HT.out]
  go_wp2
  go_loopw [7, 8] (fun v i wr => ∃ k : Nat, k ≤ n ∧ i = .int .i64 k ∧ wr.ownsRow w.heap.size 3 1 v k (il (List.replicate k 1)) ∧ Below w.heap.size w wr) (fun _ i _ => n - (intOf i).toNat)
  case atStart => exact ⟨0, Nat.zero_le _, rfl, World.ownsRow_nil _ _ _ _, Below.refl _ _⟩
  case round =>
    obtain ⟨k, hk, rfl, hown, hbel⟩ := hrel
    have hsz := hbel.size
    by_cases hlt : k < n
    · have hk1 : (k : Int) < n := by omega
      go_wp2_with (at_builtin; refine wpList_append_one rfl _ _ 22 rfl w.heap.size 3 i0 (.int .i64 0) 8 Try.underlying22 hi hz0 hz1 hz2 rfl _ _ _ rfl hown (.int .i64 1) 1 rfl rfl ?c1 ?c2 w hbel ?c3 ?_)
      case c1 => unfold maxLen; omega
      case c2 => omega
      case c3 => omega
      intro v' w1 hown' hbel'
      have hown2 : w1.ownsRow w.heap.size 3 1 v' (k + 1) (il (List.replicate (k + 1) 1)) := by
        rw [List.replicate_succ']
        simpa [il] using hown'
      clear hown' hown hbel
      go_wp2
      go_roundw
      case rel => exact ⟨k + 1, by omega, by go_num, hown2, hbel'⟩
      case measure => simp [intOf]; omega
    · obtain rfl : k = n := by omega
      obtain ⟨g, cap, rfl, hg, hgl⟩ := hown.form (by omega)
      have hown0 : wr.ownsRow w.heap.size 3 1 (.slice (some ⟨g, 0, none⟩) k cap) k (il (gr s T l 0)) := by
        rw [gr, hl]; exact hown
      have hbel0 := hbel
      clear hown hbel hsz
      go_wp2
      obtain ⟨wq, hwq⟩ : ∃ wq : World, wq = wr := ⟨_, rfl⟩
      subst hwq
      go_loopw [9] (fun iv wr => ∃ m : Nat, m ≤ M ∧ iv = .int .i64 ((k + m : Nat) : Int) ∧ wr.ownsRow w.heap.size 3 1 (.slice (some ⟨g, 0, none⟩) k cap) k (il (gr s T l m)) ∧ Below w.heap.size w wr ∧ g < wr.heap.size)
        (fun iv _ => k + M - (intOf iv).toNat)
      case atStart => exact ⟨0, Nat.zero_le _, rfl, hown0, hbel0, hgl⟩
      case round =>
        obtain ⟨m, hm, rfl, hown, hbel, hgr⟩ := hrel
        clear hown0 hbel0 hgl
        have HB := fun i (hi : i < k) => gr_bound (s := s) (T := T) (l := l) (by omega) (by omega) m i (by omega)
        have HGL : Hid ((gr s T l m).length = k) := ((gr_opt (s := s) (T := T) (l := l) (by omega) (by omega) m).1.len).trans hl
        by_cases hlt : m < M
        · have hgs : Hid (gr s T l (m + 1) = stepS s T l (gr s T l m)) := rfl
          have hi1 : ((k + m : Nat) : Int) < T := by have := HTM.out; omega
          generalize gr s T l m = o at *
          obtain ⟨E, hE⟩ : ∃ E, E = k + m := ⟨_, rfl⟩
          rw [← hE] at hi1 ⊢
          have HE := Lib.hid hE
          have hEb : E ≤ 65536 := by omega
          clear hE
          have HBB := Lib.hid HB
          clear HB
          go_wp2
          obtain ⟨wz, hwz⟩ : ∃ wz : World, wz = wr := ⟨_, rfl⟩
          subst hwz
          go_loopw [10, 11] (fun bv iv wr => ∃ j : Nat, 1 ≤ j ∧ j ≤ k ∧ iv = .int .i64 (j : Int) ∧ bv = .int .i64 (bestTo s T l o (j - 1) : Nat) ∧ wr.ownsRow w.heap.size 3 1 (.slice (some ⟨g, 0, none⟩) k cap) k (il o) ∧ Below w.heap.size w wr ∧ g < wr.heap.size)
            (fun _ iv _ => k - (intOf iv).toNat)
          case atStart => exact ⟨1, by omega, by omega, rfl, rfl, hown, hbel, hgr⟩
          case round =>
            clear hown hbel hgr
            obtain ⟨j, hj1, hj, rfl, rfl, hown, hbel, hgr⟩ := hrel
            have hbl := bestTo_le s T l o (j - 1)
            by_cases hjk : j < k
            · have HBT : Hid (bestTo s T l o j = if key s T l j (o.getD j 0) < key s T l (bestTo s T l o (j - 1)) (o.getD (bestTo s T l o (j - 1)) 0) then j else bestTo s T l o (j - 1)) := by
                obtain ⟨j', rfl⟩ : ∃ j', j = j' + 1 := ⟨j - 1, by omega⟩
                rfl
              generalize bestTo s T l o (j - 1) = b at *
              obtain ⟨bb, off, rfl, hb, hc⟩ := (hs.below hbel).at_ hjk (.int .i64 0)
              rw [getD_il l j (by omega)] at hc
              obtain ⟨bb', off', e1, hb', hc'⟩ := (hs.below hbel).at_ (show b < k by omega) (.int .i64 0)
              rw [getD_il l b (by omega)] at hc'
              simp only [Option.some.injEq, Addr.mk.injEq, and_true] at e1
              obtain ⟨rfl, rfl⟩ := e1
              have hoc := hown.cellAt j (by omega)
              have hoc' := hown.cellAt b (by omega)
              have hol := HGL.out
              rw [show (il o)[j]? = some (.int .i64 (o.getD j 0)) by simp [il, List.getD, show j < o.length by omega]] at hoc
              rw [show (il o)[b]? = some (.int .i64 (o.getD b 0)) by simp [il, List.getD, show b < o.length by omega]] at hoc'
              have b1 := HBB.out j hjk
              have b2 := HBB.out b (by omega)
              have b3 := okW_getD H3.out (k := j) (by omega)
              have b4 := okW_getD H3.out (k := b) (by omega)
              have hTb : 1 ≤ T ∧ T ≤ 65536 := by have := HTM.out; omega
              unfold key at HBT
              generalize o.getD j 0 = o1 at *
              generalize o.getD b 0 = o2 at *
              generalize l.getD j 0 = y1 at *
              generalize l.getD b 0 = y2 at *
              have p1 := mul_bound (a := s) (b := o1) (p := 4294967296) (q := 65536) (by omega) (by omega) (by omega) (by omega) (by omega)
              have p2 := mul_bound (a := s) (b := o2) (p := 4294967296) (q := 65536) (by omega) (by omega) (by omega) (by omega) (by omega)
              have p3 := mul_bound (a := T) (b := y1) (p := 65536) (q := 65536) (by omega) (by omega) (by omega) (by omega) (by omega)
              have p4 := mul_bound (a := T) (b := y2) (p := 65536) (q := 65536) (by omega) (by omega) (by omega) (by omega) (by omega)
              generalize e1 : s * o1 = a1 at *
              generalize e2 : s * o2 = a2 at *
              generalize e3 : T * y1 = a3 at *
              generalize e4 : T * y2 = a4 at *
              have w1 : IntKind.i64.wrap a1 = a1 := by rw [IntKind.wrap_i64]; omega
              have w2 : IntKind.i64.wrap a2 = a2 := by rw [IntKind.wrap_i64]; omega
              have w3 : IntKind.i64.wrap a3 = a3 := by rw [IntKind.wrap_i64]; omega
              have w4 : IntKind.i64.wrap a4 = a4 := by rw [IntKind.wrap_i64]; omega
              have w5 : IntKind.i64.wrap (a1 - a3) = a1 - a3 := by rw [IntKind.wrap_i64]; omega
              have w6 : IntKind.i64.wrap (a2 - a4) = a2 - a4 := by rw [IntKind.wrap_i64]; omega
              have hj0 : (0 : Int) ≤ j := by omega
              have hjn : (j : Int) < k := by omega
              have hb0 : (0 : Int) ≤ b := by omega
              have hbn : (b : Int) < k := by omega
              clear p1 p2 p3 p4 b1 b2 b3 b4
              have HHS := Lib.hid hs
              have HOW := Lib.hid hown
              clear hs hown
              by_cases hkk : a1 - a3 < a2 - a4
              · have HBQ : Hid (bestTo s T l o j = j) := by have := HBT.out; rwa [if_pos hkk] at this
                have hkd : decide (a1 - a3 < a2 - a4) = true := by simpa using hkk
                clear HBT
                go_wp2
                go_quiet (fail)
                go_wp2
                go_roundw
                case rel => exact ⟨j + 1, by omega, by omega, by go_num, by rw [Nat.add_sub_cancel, HBQ.out], HOW.out, below_drawn hbel _, hgr⟩
                case measure => simp [intOf]; omega
              · have HBQ : Hid (bestTo s T l o j = b) := by have := HBT.out; rwa [if_neg hkk] at this
                have hkd : decide (a1 - a3 < a2 - a4) = false := by simpa using hkk
                clear HBT
                go_wp2
                go_quiet (fail)
                go_wp2
                go_roundw
                case rel => exact ⟨j + 1, by omega, by omega, by go_num, by rw [Nat.add_sub_cancel, HBQ.out], HOW.out, below_drawn hbel _, hgr⟩
                case measure => simp [intOf]; omega
            · obtain rfl : j = k := by omega
              have HST : Hid (gr s T l (m + 1) = o.set (bestTo s T l o (j - 1)) (o.getD (bestTo s T l o (j - 1)) 0 + 1)) := by
                have := hgs.out
                rw [stepS, hl] at this
                exact this
              generalize bestTo s T l o (j - 1) = b at *
              have hol := HGL.out
              have hoc := hown.cellAt b (by omega)
              rw [show (il o)[b]? = some (.int .i64 (o.getD b 0)) by simp [il, List.getD, show b < o.length by omega]] at hoc
              have hfr := hown.frozenAt b
              have b1 := HBB.out b (by omega)
              have hst := (hown.stored b (.int .i64 (o.getD b 0 + 1))).1
              rw [show (il o).set b (.int .i64 (o.getD b 0 + 1)) = il (o.set b (o.getD b 0 + 1)) by simp [il, List.map_set], ← HST.out] at hst
              have hbel2 := below_set hbel g b hg (.int .i64 (o.getD b 0 + 1))
              have hgr2 : g < (wr.setCell ⟨g, b, none⟩ (.int .i64 (o.getD b 0 + 1))).heap.size := Nat.lt_of_lt_of_le hgr (below_set (Below.refl g wr) g b (Nat.le_refl _) _).size
              have H2 := Lib.hid (And.intro hst (And.intro hbel2 hgr2))
              have hb0 : (0 : Int) ≤ b := by omega
              have hbn : (b : Int) < j := by omega
              clear hst hbel2 hgr2 HST hown hbel
              generalize o.getD b 0 = o1 at *
              go_wp2
              go_roundw
              case rel => exact ⟨m + 1, by omega, by rw [HE.out]; go_num, H2.out.1, H2.out.2.1, H2.out.2.2⟩
              case measure => have := HE.out; simp [intOf]; omega
        · obtain rfl : m = M := by omega
          have hi1 : ¬ ((k + m : Nat) : Int) < T := by have := HTM.out; omega
          generalize gr s T l m = o at *
          generalize k + m = E at *
          go_wp2
          go_ret2
          exact gives_own (by rw [length_il]; exact HGL.out) hown hbel
end Go.Proofs.Ytjobcobgmajajaa
