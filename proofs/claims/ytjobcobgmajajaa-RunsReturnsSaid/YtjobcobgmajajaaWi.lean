/- Contract of the specification's Shrink. -/
import Derived.Test.YtjobcobgmajajaaW3
import Derived.Test.YtjobcobgmajajaaPure5
set_option linter.unusedVariables false
namespace Go.Proofs.Ytjobcobgmajajaa
open Go.RowKit

theorem grp0 {i d : Nat} (hd : 0 < d) (h : i % d = 0) : (i + d - 1) / d = i / d := by
  have e := Nat.div_add_mod i d
  rw [h] at e
  generalize i / d = q at *
  rw [show i + d - 1 = d * q + (d - 1) by omega, Nat.mul_add_div hd, Nat.div_eq_of_lt (by omega), Nat.add_zero]
theorem grp1 {i d : Nat} (hd : 0 < d) (h : i % d ≠ 0) : (i + d - 1) / d = i / d + 1 := by
  have e := Nat.div_add_mod i d
  have h2 := Nat.mod_lt i hd
  generalize i / d = q at *
  generalize i % d = r at *
  rw [show i + d - 1 = d * (q + 1) + (r - 1) by rw [Nat.mul_add]; omega, Nat.mul_add_div hd, Nat.div_eq_of_lt (by omega), Nat.add_zero]
theorem grp2 {i d : Nat} (hd : 0 < d) : (i + 1 + d - 1) / d = i / d + 1 := by
  rw [show i + 1 + d - 1 = i + d by omega, Nat.add_div_right _ hd]
theorem shrink_of {l : List Bool} {d n : Nat} (hl : l.length = n) (hd : 0 < d) (hn : n % d = 0) : (uni l d → shrinkS l d = (samp l d (n / d), 0)) ∧ (¬ uni l d → shrinkS l d = ([], 9)) := by
  have h1 := good_iff (l := l) hd (by rw [hl]; exact Nat.dvd_of_mod_eq_zero hn)
  unfold shrinkS
  rw [if_neg (by omega), if_neg (by rw [Int.toNat_natCast, hl]; omega), Int.toNat_natCast]
  refine ⟨fun h => ?_, fun h => ?_⟩
  · rw [if_pos (h1.1.2 h), h1.2 (h1.1.2 h), hl]
  · rw [if_neg (fun h2 => h (h1.1.1 h2))]

set_option maxHeartbeats 1000000 in
theorem rShrink_any (A : Option Addr) (n c : Nat) (l : List Bool) (k : Int) (w : World) (hs : Sl w w.heap.size A n c (bl l)) (hn : n ≤ 1048576) (hk : k ≤ 9223372036854775807) :
    Calls Try.prog 24 #[.slice A n c, .int .i64 k] w (Gives (bl (shrinkS l k).1) (shrinkS l k).2 w) := by
  have hl : l.length = n := by rw [← length_bl]; exact hs.len
  have hmax := hs.max
  have hle := hs.le
  unfold maxLen at hmax
  by_cases h1 : k < 1
  · have hr : shrinkS l k = ([], 3) := by unfold shrinkS; rw [if_pos h1]
    rw [hr]
    go_enter Try.func24, Try.ntmps24
    go_wp2
    go_ret2
    exact gives_none _ _
  obtain ⟨d, rfl⟩ := Int.eq_ofNat_of_zero_le (show 0 ≤ k by omega)
  have hd0 : ¬ (d : Int) = 0 := by omega
  have hd1 : ((d : Int) == 0) = false := by rw [beq_eq_false_iff_ne]; omega
  by_cases h2 : n % d = 0
  · have hm : Int.tmod (n : Int) (d : Int) = 0 := by
      rw [Int.tmod_eq_emod_of_nonneg (by omega)]
      exact_mod_cast h2
    have HSH := Lib.hid (shrink_of hl (d := d) (by omega) h2)
    have H2 := Lib.hid h2
    obtain ⟨i0, hi, hz0, hz1, hz2⟩ := info_parts boolInfo
    clear h2
    obtain ⟨res, hres⟩ : ∃ res, res = shrinkS l d := ⟨_, rfl⟩
    rw [← hres]
    rw [← hres] at HSH
    clear hres
    go_enter Try.func24, Try.ntmps24
    go_wp2
    go_loopw [6, 7] (fun v iv wr => ∃ i : Nat, i ≤ n ∧ iv = .int .i64 i ∧ wr.ownsRow w.heap.size 4 1 v ((i + d - 1) / d) (bl (samp l d ((i + d - 1) / d))) ∧ Hid (∀ j, j < i → l.getD j false = l.getD (j / d * d) false) ∧ Below w.heap.size w wr)
      (fun _ iv _ => n - (intOf iv).toNat)
    case atStart =>
      refine ⟨0, Nat.zero_le _, rfl, ?_, fun j hj => absurd hj (Nat.not_lt_zero _), Below.refl _ _⟩
      rw [grp0 (by omega) (Nat.zero_mod _), Nat.zero_div]
      exact World.ownsRow_nil _ _ _ _
    case round =>
      obtain ⟨i, hin, rfl, hown, HU, hbel⟩ := hrel
      have hsz := hbel.size
      by_cases hlt : i < n
      · have hi0 : (0 : Int) ≤ i := by omega
        have hi1 : (i : Int) < n := by omega
        have HG2 := Lib.hid (grp2 (i := i) (d := d) (by omega))
        have hgl : i / d ≤ i := Nat.div_le_self _ _
        obtain ⟨b, off, rfl, hb, hc⟩ := (hs.below hbel).at_ hlt (.bool false)
        rw [getD_bl l i (by omega)] at hc
        -- behind the append, if any
        by_cases hmd : i % d = 0
        · have hmm : Int.tmod (i : Int) (d : Int) = 0 := by rw [Int.tmod_eq_emod_of_nonneg (by omega)]; exact_mod_cast hmd
          rw [grp0 (by omega) hmd] at hown
          have hix : i / d * d = i := by have := Nat.div_add_mod i d; rw [hmd, Nat.mul_comm] at this; omega
          have HSP := Lib.hid (samp_succ l d (i / d))
          rw [hix] at HSP
          have HIX : Hid (l.getD i false = l.getD (i / d * d) false) := by show _ = _; rw [hix]
          obtain ⟨g, hg⟩ : ∃ g, g = i / d := ⟨_, rfl⟩
          rw [← hg] at hown HSP HIX HG2 hgl
          have HGE := Lib.hid hg
          clear hix hmd hg
          obtain ⟨x, hx⟩ : ∃ x, x = l.getD i false := ⟨_, rfl⟩
          rw [← hx] at hc HSP
          clear hx
          go_wp2_with (at_builtin; refine wpList_append_one rfl _ _ 25 rfl w.heap.size 4 i0 (.bool false) 1 Try.underlying25 hi hz0 hz1 hz2 rfl _ _ _ rfl hown (.bool x) 1 rfl rfl ?c1 ?c2 w hbel ?c3 ?_)
          case c1 => unfold maxLen; omega
          case c2 => omega
          case c3 => omega
          intro v' w1 hown' hbel'
          have hown2 : w1.ownsRow w.heap.size 4 1 v' (g + 1) (bl (samp l d (g + 1))) := by
            rw [HSP.out]
            simpa [bl] using hown'
          have hc3 := (World.cell?_of_block (hbel'.block b hb) : w1.cell? ⟨b, off + i, none⟩ = w.cell? ⟨b, off + i, none⟩).trans ((World.cell?_of_block (hbel.block b hb) : wr.cell? ⟨b, off + i, none⟩ = w.cell? ⟨b, off + i, none⟩).symm.trans hc)
          clear hown' hown hbel hc
          obtain ⟨m', hm'⟩ : ∃ m', m' = g + 1 := ⟨_, rfl⟩
          rw [← hm'] at hown2
          obtain ⟨gg, cap, rfl, hg1, hg2⟩ := hown2.form (by omega)
          have hcl := hown2.cellAt g (by omega)
          rw [show (bl (samp l d m'))[g]? = some (.bool x) by rw [hm', HSP.out]; simp [bl, length_samp]] at hcl
          have hsub : (m' : Int) - 1 = (g : Int) := by omega
          have hw1 : IntKind.i64.wrap ((m' : Int) - 1) = (g : Int) := by rw [IntKind.wrap_i64]; omega
          have hw2 : IntKind.i64.wrap (g : Int) = (g : Int) := by rw [IntKind.wrap_i64]; omega
          have hgm : (g : Int) < m' := by omega
          have hgm0 : (0 : Int) ≤ g := by omega
          have hne : (x != x) = false := by simp
          have hee : (x == x) = true := by simp
          have HM := Lib.hid hm'
          have HOW := Lib.hid hown2
          clear hown2 hm'
          go_wp2
          go_quiet (fail)
          go_wp2
          go_roundw
          case rel =>
            refine ⟨i + 1, by omega, by go_num, ?_, fun j hj => ?_, below_drawn hbel' _⟩
            · rw [HG2.out, ← HM.out]
              exact HOW.out
            · rcases Nat.lt_or_ge j i with h | h
              · exact HU.out j h
              · obtain rfl : j = i := by omega
                have := HIX.out
                rw [HGE.out] at this
                exact this
          case measure => simp [intOf]; omega
        · have hmm : Int.tmod (i : Int) (d : Int) = ((i % d : Nat) : Int) := by rw [Int.tmod_eq_emod_of_nonneg (by omega)]; rfl
          have hmm2 : (((i % d : Nat) : Int) == 0) = false := by rw [beq_eq_false_iff_ne]; omega
          have hml : i % d ≤ i := Nat.mod_le _ _
          have HG1 := Lib.hid (grp1 (i := i) (d := d) (by omega) hmd)
          rw [HG1.out] at hown
          obtain ⟨g, hg⟩ : ∃ g, g = i / d := ⟨_, rfl⟩
          have HGE := Lib.hid hg
          rw [← hg] at hown hgl
          generalize i % d = md at *
          obtain ⟨m', hm'⟩ : ∃ m', m' = g + 1 := ⟨_, rfl⟩
          rw [← hm'] at hown
          obtain ⟨gg, cap, rfl, hg1, hg2⟩ := hown.form (by omega)
          have hcl := hown.cellAt g (by omega)
          rw [show (bl (samp l d m'))[g]? = some (.bool (l.getD (g * d) false)) by rw [hm', samp_succ]; simp [bl, length_samp]] at hcl
          have hsub : (m' : Int) - 1 = (g : Int) := by omega
          have hw1 : IntKind.i64.wrap ((m' : Int) - 1) = (g : Int) := by rw [IntKind.wrap_i64]; omega
          have hw2 : IntKind.i64.wrap (g : Int) = (g : Int) := by rw [IntKind.wrap_i64]; omega
          have hgm : (g : Int) < m' := by omega
          have hgm0 : (0 : Int) ≤ g := by omega
          have HM := Lib.hid hm'
          have HOW := Lib.hid hown
          clear hown hm' hg hmd
          by_cases hxy : l.getD i false = l.getD (g * d) false
          · have HIX : Hid (l.getD i false = l.getD (i / d * d) false) := by show _ = _; rw [← HGE.out]; exact hxy
            rw [← hxy] at hcl
            clear hxy
            generalize l.getD i false = x at hc hcl
            have hne : (x != x) = false := by simp
            have hee : (x == x) = true := by simp
            go_wp2
            go_quiet (fail)
            go_wp2
            go_roundw
            case rel =>
              refine ⟨i + 1, by omega, by go_num, ?_, fun j hj => ?_, below_drawn hbel _⟩
              · rw [HG2.out, ← HGE.out, ← HM.out]
                exact HOW.out
              · rcases Nat.lt_or_ge j i with h | h
                · exact HU.out j h
                · obtain rfl : j = i := by omega
                  exact HIX.out
            case measure => simp [intOf]; omega
          · have HR : Hid (res = ([], 9)) := HSH.out.2 (fun hu => hxy (by rw [HGE.out]; exact hu i (by omega)))
            generalize l.getD i false = x at *
            generalize l.getD (g * d) false = y at *
            have hne : (x != y) = true := by simpa using hxy
            have hee : (x == y) = false := by simpa using hxy
            clear hxy
            go_wp2
            go_quiet (fail)
            go_wp2
            go_ret2
            rw [HR.out]
            exact ⟨none, 0, rfl, Sl.none_ _ _, below_drawn hbel _⟩
      · obtain rfl : i = n := by omega
        rw [grp0 (by omega) H2.out] at hown
        have hr := HSH.out.1 (fun j hj => HU.out j (by omega))
        have HR := Lib.hid hr
        clear hr
        generalize i / d = g at *
        obtain ⟨A2, c2, rfl⟩ := own_slice hown
        go_wp2
        go_ret2
        rw [HR.out]
        exact gives_own (by rw [length_bl, length_samp]) hown hbel
  · have hr : shrinkS l d = ([], 7) := by unfold shrinkS; rw [if_neg h1, if_pos (by rw [Int.toNat_natCast, hl]; exact h2)]
    rw [hr]
    have hm : Int.tmod (n : Int) (d : Int) = ((n % d : Nat) : Int) := by rw [Int.tmod_eq_emod_of_nonneg (by omega)]; rfl
    have hm2 : (((n % d : Nat) : Int) != 0) = true := by rw [bne_iff_ne]; omega
    have hml : n % d ≤ n := Nat.mod_le _ _
    generalize n % d = md at *
    go_enter Try.func24, Try.ntmps24
    go_wp2
    go_ret2
    exact gives_none _ _
end Go.Proofs.Ytjobcobgmajajaa
