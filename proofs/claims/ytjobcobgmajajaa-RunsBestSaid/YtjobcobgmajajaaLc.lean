/- The law RunsBest: the walk. -/
import Derived.Test.YtjobcobgmajajaaLb
set_option linter.unusedVariables false
namespace Go.Proofs.Ytjobcobgmajajaa
open Go.RowKit

theorem al_quick {P : World → World → Prop} (w : World) : True := trivial

set_option maxHeartbeats 4000000 in
set_option maxRecDepth 100000 in
theorem best_ok (A : Option Addr) (n c : Nat) (l : List Int) (T k : Int) (w : World) (hs : Sl w w.heap.size A n c (il l)) (h1 : ¬ 60 < n) (h2 : ¬ 500 < T) (h3 : ¬ k < 1) (h4 : ¬ 100 < k)
    (hq : quantS l T = (gr (sm l) T l (T - l.length).toNat, 0)) (h0 : 0 < l.length) (hok : okW l = true) (hTn : (l.length : Int) ≤ T) :
    Calls Try.prog 8 #[.slice A n c, .int .i64 T, .int .i64 k] w fun e w' => e = .returned (.bool true) ∧ Below w.heap.size w w' := by
  have hl : l.length = n := by rw [← length_il]; exact hs.len
  have hmax := hs.max
  have hle := hs.le
  unfold maxLen at hmax
  have hF := fine_of h0 hok hTn (by omega)
  have HQ := quantize_any A n c l T w hs (by omega)
  rw [hq] at HQ
  have hsb := sm_bound hok
  generalize gr (sm l) T l (T - l.length).toNat = r at *
  obtain ⟨s, hse⟩ : ∃ s, s = sm l := ⟨_, rfl⟩
  rw [← hse] at hF hsb
  have HSE := Lib.hid hse
  have hrl : r.length = n := hF.len.trans hl
  have HQ2 : Hid (Calls Try.prog 19 #[.slice A n c, .int .i64 T] w fun e w' => ∃ A1 c1, e = .returned (.tuple #[.slice A1 n c1, .int .i64 0]) ∧ Sl w' w'.heap.size A1 n c1 (il r) ∧ Below w.heap.size w w') :=
    HQ.mono fun _ _ h => gives_out h (by rw [length_il]; exact hrl)
  have HMU : Hid (quantS (mul_ k r) T = (r, 0)) := quant_mul (by omega) (by omega) (by omega) (fun i hi => (hF.one i (by omega)).1) hF.sum
  have HFF := Lib.hid hF
  have HOK := Lib.hid hok
  clear HQ hq hF hok hse
  go_enter Try.func8, Try.ntmps8
  go_wp2_with fail
  refine HQ2.out.mono ?_
  rintro e w1 ⟨A1, c1, rfl, hr1, hb1⟩
  have hs1 := hs.next hb1
  clear HQ2
  have hle1 := hr1.le
  have hmax1 := hr1.max
  unfold maxLen at hmax1
  go_wp2
  go_loop [9, 10, 55] (fun sv tv iv => ∃ t : Nat, t ≤ n ∧ iv = .int .i64 t ∧ sv = .int .i64 (sm (l.take t)) ∧ tv = .int .i64 (sm (r.take t))) (fun _ _ iv => n - (intOf iv).toNat)
  case atStart => exact ⟨0, Nat.zero_le _, rfl, rfl, rfl⟩
  case round =>
    obtain ⟨t, ht, rfl, rfl, rfl⟩ := hrel
    by_cases hlt : t < n
    · have ht0 : (0 : Int) ≤ t := by omega
      have ht1 : (t : Int) < n := by omega
      obtain ⟨b, off, rfl, hb, hc⟩ := hs1.at_ hlt (.int .i64 0)
      rw [getD_il l t (by omega)] at hc
      obtain ⟨b2, off2, rfl, hb2, hc2⟩ := hr1.at_ hlt (.int .i64 0)
      rw [getD_il r t (by omega)] at hc2
      have HT := Lib.hid (sm_take (l := l) (k := t) (by omega))
      have HR := Lib.hid (sm_take (l := r) (k := t) (by omega))
      have e1 := sm_bound (okW_take_true HOK.out t)
      have e2 := sm_bound (okW_take_true HFF.out.ok t)
      rw [List.length_take] at e1 e2
      have e3 := okW_getD HOK.out (k := t) (by omega)
      have e4 := HFF.out.one t (by omega)
      generalize l.getD t 0 = x at *
      generalize r.getD t 0 = y at *
      have f1 : 0 ≤ sm (l.take t) ∧ sm (l.take t) ≤ 3932160 := by omega
      have f2 : 0 ≤ sm (r.take t) ∧ sm (r.take t) ≤ 3932160 := by omega
      have f3 : ¬ y < 1 := by omega
      clear e1 e2
      go_wp2
      go_round
      case rel => exact ⟨t + 1, by omega, by go_num, by rw [HT.out], by rw [HR.out]⟩
      case measure => simp [intOf]; omega
    · obtain rfl : t = n := by omega
      rw [List.take_of_length_le (show l.length ≤ t by omega), List.take_of_length_le (show r.length ≤ t by omega), ← HSE.out, HFF.out.sum]
      have hs0 : 1 ≤ s ∧ s ≤ 3932160 := by omega
      have hT0 : 1 ≤ T ∧ T ≤ 500 := by omega
      have hB1 := hb1
      clear hsb HSE h0 hTn h2 ht hs hb1
      go_wp2
      go_loopw [78] (fun iv wr => ∃ i : Nat, i ≤ t ∧ iv = .int .i64 i ∧ Below w1.heap.size w1 wr) (fun iv _ => t - (intOf iv).toNat)
      case atStart => exact ⟨0, Nat.zero_le _, rfl, Below.refl _ _⟩
      case round =>
        obtain ⟨i, hi, rfl, hbel⟩ := hrel
        by_cases hit : i < t
        · have hit1 : (i : Int) < t := by omega
          have hi0 : (0 : Int) ≤ i := by omega
          go_wp2
          obtain ⟨wz, hwz⟩ : ∃ wz : World, wz = wr := ⟨_, rfl⟩
          subst hwz
          go_loopw [83] (fun iv wr => ∃ j : Nat, j ≤ t ∧ iv = .int .i64 j ∧ Below w1.heap.size w1 wr) (fun iv _ => t - (intOf iv).toNat)
          case atStart => exact ⟨0, Nat.zero_le _, rfl, hbel⟩
          case round =>
            clear hbel
            obtain ⟨j, hj, rfl, hbel⟩ := hrel
            by_cases hjt : j < t
            · have hjt1 : (j : Int) < t := by omega
              have hj0 : (0 : Int) ≤ j := by omega
              obtain ⟨b, off, rfl, hb, hci⟩ := (hs1.below hbel).at_ hit (.int .i64 0)
              rw [getD_il l i (by omega)] at hci
              obtain ⟨b', off', e1, hb', hcj⟩ := (hs1.below hbel).at_ hjt (.int .i64 0)
              rw [getD_il l j (by omega)] at hcj
              simp only [Option.some.injEq, Addr.mk.injEq, and_true] at e1
              obtain ⟨rfl, rfl⟩ := e1
              obtain ⟨d, od, rfl, hd, hri⟩ := (hr1.below hbel).at_ hit (.int .i64 0)
              rw [getD_il r i (by omega)] at hri
              obtain ⟨d', od', e1, hd', hrj⟩ := (hr1.below hbel).at_ hjt (.int .i64 0)
              rw [getD_il r j (by omega)] at hrj
              simp only [Option.some.injEq, Addr.mk.injEq, and_true] at e1
              obtain ⟨rfl, rfl⟩ := e1
              have hbest := HFF.out.best i j (by omega) (by omega)
              have b1 := HFF.out.one i (by omega)
              have b2 := HFF.out.one j (by omega)
              have b3 := okW_getD HOK.out (k := i) (by omega)
              have b4 := okW_getD HOK.out (k := j) (by omega)
              generalize r.getD i 0 = ri at *
              generalize r.getD j 0 = rj at *
              generalize l.getD i 0 = li at *
              generalize l.getD j 0 = lj at *
              have p1 := mul_bound (a := s) (b := rj) (p := 3932160) (q := 500) (by omega) (by omega) (by omega) (by omega) (by omega)
              have p2 := mul_bound (a := s) (b := ri - 1) (p := 3932160) (q := 500) (by omega) (by omega) (by omega) (by omega) (by omega)
              have p3 := mul_bound (a := T) (b := lj) (p := 500) (q := 65536) (by omega) (by omega) (by omega) (by omega) (by omega)
              have p4 := mul_bound (a := T) (b := li) (p := 500) (q := 65536) (by omega) (by omega) (by omega) (by omega) (by omega)
              have w0 : IntKind.i64.wrap (ri - 1) = ri - 1 := by rw [IntKind.wrap_i64]; omega
              obtain ⟨rm, hrm⟩ : ∃ rm, rm = ri - 1 := ⟨_, rfl⟩
              rw [← hrm] at p2 w0 hbest
              have hrm2 : ri - 1 = rm := hrm.symm
              generalize q1 : s * rj = a1 at *
              generalize q2 : s * rm = a2 at *
              generalize q3 : T * lj = a3 at *
              generalize q4 : T * li = a4 at *
              have w1 : IntKind.i64.wrap a1 = a1 := by rw [IntKind.wrap_i64]; omega
              have w2 : IntKind.i64.wrap a2 = a2 := by rw [IntKind.wrap_i64]; omega
              have w3 : IntKind.i64.wrap a3 = a3 := by rw [IntKind.wrap_i64]; omega
              have w4 : IntKind.i64.wrap a4 = a4 := by rw [IntKind.wrap_i64]; omega
              have w5 : IntKind.i64.wrap (a1 - a3) = a1 - a3 := by rw [IntKind.wrap_i64]; omega
              have w6 : IntKind.i64.wrap (a2 - a4) = a2 - a4 := by rw [IntKind.wrap_i64]; omega
              clear p1 p2 p3 p4 hrm
              by_cases hr : 1 < ri
              · have hd1 : decide (1 < ri) = true := by simpa using hr
                have hd2 : decide (a1 - a3 < a2 - a4) = false := by
                  rcases hbest with h | h
                  · simpa using h
                  · exact absurd hr h
                have hd3 : ¬ a1 - a3 < a2 - a4 := by simpa using hd2
                clear hbest b1 b2 b3 b4
                go_wp2
                go_quiet (fail)
                go_wp2
                go_roundw
                case rel => exact ⟨j + 1, by omega, by go_num, below_drawn hbel _⟩
                case measure => simp [intOf]; omega
              · have hd1 : decide (1 < ri) = false := by simpa using hr
                have hd3 : ri ≤ 1 := by omega
                clear hbest b1 b2 b3 b4 hr
                go_wp2
                go_quiet (fail)
                go_wp2
                go_roundw
                case rel => exact ⟨j + 1, by omega, by go_num, below_drawn hbel _⟩
                case measure => simp [intOf]; omega
            · obtain rfl : j = t := by omega
              go_wp2
              go_roundw
              case rel => exact ⟨i + 1, by omega, by go_num, hbel⟩
              case measure => simp [intOf]; omega
        · obtain rfl : i = t := by omega
          have hr2 := hr1.next hbel
          have hB2 := below_step hB1 hbel
          clear hr1 hs1 hbel hB1
          obtain ⟨i0, hi, hz0, hz1, hz2⟩ := info_parts intInfo
          have HRL := Lib.hid hrl
          have HR2 := Lib.hid hr2
          have HB2 := Lib.hid hB2
          clear hrl hB2
          go_wp2
          obtain ⟨wz, hwz⟩ : ∃ wz : World, wz = wr := ⟨_, rfl⟩
          subst hwz
          go_loopw [14, 125] (fun v iv wq => ∃ m : Nat, m ≤ i ∧ iv = .int .i64 m ∧ wq.ownsRow wz.heap.size 3 1 v m (il (mul_ k (r.take m))) ∧ Below wz.heap.size wz wq) (fun _ iv _ => i - (intOf iv).toNat)
          case atStart => exact ⟨0, Nat.zero_le _, rfl, World.ownsRow_nil _ _ _ _, Below.refl _ _⟩
          case round =>
            obtain ⟨m, hm, rfl, hown, hbel⟩ := hrel
            have hsz := hbel.size
            by_cases hmi : m < i
            · have hm1 : (m : Int) < i := by omega
              have hm0 : (0 : Int) ≤ m := by omega
              obtain ⟨d, od, rfl, hd, hri⟩ := (HR2.out.below hbel).at_ hmi (.int .i64 0)
              rw [getD_il r m (by have := HRL.out; omega)] at hri
              have b1 := HFF.out.one m (by omega)
              have HT : Hid (mul_ k (r.take (m + 1)) = mul_ k (r.take m) ++ [k * r.getD m 0]) := by
                have := take_snoc (l := r) (k := m) (by have := HRL.out; omega)
                show _ = _
                rw [this]
                simp [mul_]
              generalize r.getD m 0 = x at *
              have p1 := mul_bound (a := k) (b := x) (p := 100) (q := 500) (by omega) (by omega) (by omega) (by omega) (by omega)
              generalize q1 : k * x = y at *
              clear hr2
              go_wp2_with (at_builtin; refine wpList_append_one rfl _ _ 22 rfl wz.heap.size 3 i0 (.int .i64 0) 8 Try.underlying22 hi hz0 hz1 hz2 rfl _ _ _ rfl hown (.int .i64 y) 1 rfl rfl ?c1 ?c2 wz hbel ?c3 ?_)
              case c1 => unfold maxLen; omega
              case c2 => omega
              case c3 => omega
              intro v' wy hown' hbel'
              have hown2 : wy.ownsRow wz.heap.size 3 1 v' (m + 1) (il (mul_ k (r.take (m + 1)))) := by
                rw [HT.out]
                simpa [il] using hown'
              clear hown' hown hbel
              go_wp2
              go_roundw
              case rel => exact ⟨m + 1, by omega, by go_num, hown2, hbel'⟩
              case measure => simp [intOf]; omega
            · obtain rfl : m = i := by omega
              rw [List.take_of_length_le (by have := HRL.out; omega)] at hown
              obtain ⟨A2, c2, rfl⟩ := own_slice hown
              have hm2 := Sl.of_own hown
              have hr3 := HR2.out.next hbel
              have hB3 := below_step HB2.out hbel
              have HQ3 := quantize_any A2 m c2 (mul_ k r) T _ hm2 (by omega)
              rw [HMU.out] at HQ3
              have HQ4 : Hid (Calls Try.prog 19 #[.slice A2 m c2, .int .i64 T] _ fun e w' => ∃ A1 c1, e = .returned (.tuple #[.slice A1 m c1, .int .i64 0]) ∧ Sl w' w'.heap.size A1 m c1 (il r) ∧ Below _ _ w') :=
                HQ3.mono fun _ _ h => gives_out h (by rw [length_il]; exact HRL.out)
              clear HQ3 hown hbel hm2 HB2 HR2 hr2 HFF HOK HMU hsz
              go_wp2_with fail
              refine HQ4.out.mono ?_
              rintro e w5 ⟨A5, c5, rfl, hs5, hb5⟩
              have hr5 := hr3.next hb5
              have hB5 := below_step hB3 hb5
              clear hr3 hb5 hB3 HQ4
              go_wp2_with fail
              refine (ints_any _ _ _ _ _ _ _ _ _ hs5 hr5).mono ?_
              rintro e w6 ⟨rfl, hb6⟩
              have hB6 := below_step hB5 hb6
              rw [beq_self_eq_true]
              clear hB5 hb6 hs5 hr5
              go_wp2_with fail
              refine (alive_any _).mono ?_
              rintro e w7 ⟨rfl, hb7⟩
              go_wp2
              go_ret
              exact ⟨rfl, below_step hB6 hb7⟩

set_option maxHeartbeats 1000000 in
set_option maxRecDepth 100000 in
theorem law_best (A : Option Addr) (n c : Nat) (l : List Int) (T k : Int) (w : World) (hs : Sl w w.heap.size A n c (il l)) (_ : ∀ y ∈ l, -9223372036854775808 ≤ y ∧ y ≤ 9223372036854775807) (hT : -9223372036854775808 ≤ T ∧ T ≤ 9223372036854775807) (hk : -9223372036854775808 ≤ k ∧ k ≤ 9223372036854775807) :
    Calls Try.prog 8 #[.slice A n c, .int .i64 T, .int .i64 k] w fun e w' => e = .returned (.bool true) ∧ Below w.heap.size w w' := by
  have hl : l.length = n := by rw [← length_il]; exact hs.len
  have hmax := hs.max
  have hle := hs.le
  unfold maxLen at hmax
  by_cases h1 : 60 < n
  · go_enter Try.func8, Try.ntmps8
    go_wp2_with fail
    refine (alive_any _).mono ?_
    rintro e w2 ⟨rfl, hb2⟩
    go_wp2
    go_ret
    exact ⟨rfl, hb2⟩
  by_cases h2 : 500 < T
  · go_enter Try.func8, Try.ntmps8
    go_wp2_with fail
    refine (alive_any _).mono ?_
    rintro e w2 ⟨rfl, hb2⟩
    go_wp2
    go_ret
    exact ⟨rfl, hb2⟩
  by_cases h3 : k < 1
  · go_enter Try.func8, Try.ntmps8
    go_wp2_with fail
    refine (alive_any _).mono ?_
    rintro e w2 ⟨rfl, hb2⟩
    go_wp2
    go_ret
    exact ⟨rfl, hb2⟩
  by_cases h4 : 100 < k
  · go_enter Try.func8, Try.ntmps8
    go_wp2_with fail
    refine (alive_any _).mono ?_
    rintro e w2 ⟨rfl, hb2⟩
    go_wp2
    go_ret
    exact ⟨rfl, hb2⟩
  rcases quant_cases l T with ⟨e1, e2⟩ | ⟨e1, e2, e3, e4, e5⟩
  · have HQ := quantize_any A n c l T w hs (by omega)
    rw [e1] at HQ
    have hne : ((quantS l T).2 != 0) = true := by simpa using e2
    generalize (quantS l T).2 = er at *
    have HQ2 : Hid (Calls Try.prog 19 #[.slice A n c, .int .i64 T] w fun e w' => ∃ A1 c1, e = .returned (.tuple #[.slice A1 0 c1, .int .i64 er]) ∧ Sl w' w'.heap.size A1 0 c1 (il []) ∧ Below w.heap.size w w') :=
      HQ.mono fun _ _ h => gives_out h rfl
    clear HQ e1 e2
    go_enter Try.func8, Try.ntmps8
    go_wp2_with fail
    refine HQ2.out.mono ?_
    rintro e w1 ⟨A1, c1, rfl, hr1, hb1⟩
    go_wp2_with fail
    refine (alive_any _).mono ?_
    rintro e w2 ⟨rfl, hb2⟩
    go_wp2
    go_ret
    exact ⟨rfl, below_step hb1 hb2⟩
  · exact best_ok A n c l T k w hs h1 h2 h3 h4 e1 e2 e3 e4
end Go.Proofs.Ytjobcobgmajajaa
