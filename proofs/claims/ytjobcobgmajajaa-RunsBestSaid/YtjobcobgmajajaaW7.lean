/- Contract of the specification's Widths. -/
import Derived.Test.YtjobcobgmajajaaW3
import Derived.Test.YtjobcobgmajajaaPure2
set_option linter.unusedVariables false
namespace Go.Proofs.Ytjobcobgmajajaa
open Go.RowKit

theorem il_snoc (a : List Int) (x : Int) : il (a ++ [x]) = il a ++ [.int .i64 x] := by simp [il]
theorem cont_case2 (l : List Bool) (k n : Nat) (h : l.length = n) (hk : k < n) : (k + 1 < n ∧ cont l k = (l.getD (k + 1) false == l.getD k false)) ∨ (k + 1 = n ∧ cont l k = false) := by
  unfold cont
  rw [h]
  by_cases h1 : k + 1 < n
  · simp [h1]
  · exact .inr ⟨by omega, by simp [h1]⟩
/-- the widths of the runs that have ended -/
def wpr (l : List Bool) (k : Nat) : List Int := (pr l k).map fun x => (x.2 : Int)
theorem wpr_length (l : List Bool) (k : Nat) : (wpr l k).length ≤ k := by
  have := pr_length l k
  simpa [wpr] using this
theorem wpr_go {l : List Bool} {k : Nat} (h : cont l k = true) : wpr l (k + 1) = wpr l k ∧ st l (k + 1) = st l k := by
  have := pr_go h
  exact ⟨by rw [wpr, this.1]; rfl, this.2⟩
theorem wpr_end {l : List Bool} {k : Nat} (h : cont l k = false) : wpr l (k + 1) = wpr l k ++ [((k + 1 - st l k : Nat) : Int)] ∧ st l (k + 1) = k + 1 := by
  have := pr_end h
  exact ⟨by rw [wpr, this.1]; simp [wpr], this.2⟩

theorem own_drewN {w : World} {base : Nat} {e : TypeId} {v : Value} {n : Nat} {xs : List Value} (h : w.ownsRow base e 1 v n xs) (q : Nat) : (w.drewN q).ownsRow base e 1 v n xs := h
set_option maxHeartbeats 1000000 in
theorem rWidths_any (A : Option Addr) (n c : Nat) (l : List Bool) (w : World) (hs : Sl w w.heap.size A n c (bl l)) (hn : n ≤ 1048576) :
    Calls Try.prog 18 #[.slice A n c] w (Gives1 (il (widthsS l)) w) := by
  have hl : l.length = n := by rw [← length_bl]; exact hs.len
  have hmax := hs.max
  have hle := hs.le
  unfold maxLen at hmax
  have hlm := lm_le l
  have hrm := rm_le l
  by_cases h1 : lm l = n
  · have hr : widthsS l = [] := by unfold widthsS; rw [if_pos (by omega)]
    have h3 := lm_rm_all (l := l) (by omega)
    rw [hr]
    have H1 := Lib.hid h1
    have H3 := Lib.hid h3
    clear h1 h3
    go_enter Try.func18, Try.ntmps18
    go_wp2_with fail
    refine (rMargins_any _ _ _ _ l _ hs).mono ?_
    rintro e w' ⟨rfl, rfl⟩
    rw [H1.out, H3.out, hl]
    have h9 : ¬ (n : Int) < (n : Int) - (n : Int) := by omega
    have h8 : (n : Int) - (n : Int) = 0 := by omega
    have h7 : ¬ (n : Int) < 0 := by omega
    go_wp2
    go_loop [5, 6, 7] (fun v m i => i = .int .i64 n ∧ v = .slice none 0 0 ∧ m = .int .i64 0) (fun _ _ _ => 0)
    case atStart => exact ⟨rfl, rfl, rfl⟩
    case round =>
      obtain ⟨rfl, rfl, rfl⟩ := hrel
      go_wp2
      go_ret
      exact ⟨none, 0, rfl, Sl.none_ _ _, Below.refl _ _⟩
  have hr : widthsS l = wpr (core l) (n - rm l - lm l) := by
    unfold widthsS
    rw [if_neg (by omega), wds, prs, length_core (by omega), hl]
    rfl
  rw [hr]
  clear hr
  obtain ⟨b, off, rfl, hb, hcs⟩ := hs.read (by omega)
  have hrl := lm_rm (l := l) (by omega)
  have hcl := length_core (l := l) (by omega)
  have hcg := fun k hk => getD_core (l := l) (k := k) hk
  have hR : ∀ k, k < n - rm l - lm l → w.cell? ⟨b, off + (lm l + k), none⟩ = some (.bool ((core l).getD k false)) := fun k hk => by
    rw [hcg k (by omega)]
    refine hcs _ _ ?_
    have hk2 : lm l + k < l.length := by omega
    simp [bl, List.getD, hk2]
  have HR := Lib.hid hR
  have HS := Lib.hid hs
  rw [hl] at hcl
  clear hR hcg hcs hs
  generalize hgp : lm l = p at *
  generalize hgq : rm l = q at *
  generalize hgc : core l = cl at *
  have HP := Lib.hid hgp
  have HQ := Lib.hid hgq
  clear hgp hgq hgc
  obtain ⟨m, hm⟩ : ∃ m, m = n - q - p := ⟨_, rfl⟩
  rw [← hm] at HR hcl ⊢
  obtain ⟨E, hE⟩ : ∃ E, E = p + m := ⟨_, rfl⟩
  have hnm : (n : Int) - (q : Int) = (E : Int) := by omega
  have hpm : E ≤ n := by omega
  have hm0 : 0 < m := by omega
  clear hm
  obtain ⟨i0, hi, hz0, hz1, hz2⟩ := info_parts intInfo
  go_enter Try.func18, Try.ntmps18
  go_wp2_with fail
  refine (rMargins_any _ _ _ _ l _ HS.out).mono ?_
  rintro e w' ⟨rfl, rfl⟩
  rw [HP.out, HQ.out]
  go_wp2
  go_loopw [5, 6, 7] (fun v s i wr => ∃ k : Nat, k ≤ m ∧ i = .int .i64 ((p + k : Nat) : Int) ∧ s = .int .i64 ((k - st cl k : Nat) : Int) ∧ wr.ownsRow w.heap.size 3 1 v (wpr cl k).length (il (wpr cl k)) ∧ Below w.heap.size w wr)
    (fun _ _ i _ => p + m - (intOf i).toNat)
  case atStart => exact ⟨0, Nat.zero_le _, rfl, rfl, World.ownsRow_nil _ _ _ _, Below.refl _ _⟩
  case round =>
    obtain ⟨k, hk, rfl, rfl, hown, hbel⟩ := hrel
    have hsz := hbel.size
    by_cases hlt : k < m
    · have hcs := fun j hj => (hbel.cell (p := ⟨b, off + (p + j), none⟩) hb).trans (HR.out j hj)
      have hc0 := hcs k hlt
      have hst := st_le cl k
      have hwl := wpr_length cl k
      generalize hgs : st cl k = s at *
      have HSS := Lib.hid hgs
      clear hgs
      obtain ⟨i, hi'⟩ : ∃ i, i = p + k := ⟨_, rfl⟩
      rw [← hi'] at hc0 ⊢
      obtain ⟨g, hg⟩ : ∃ g, g = k - s := ⟨_, rfl⟩
      rw [← hg]
      have hin : i < n := by omega
      have hi0 : (0 : Int) ≤ i := by omega
      have hi1 : (i : Int) < n := by omega
      have hi2 : (i : Int) < (E : Int) := by omega
      have hnat : ((i : Int) + 1).toNat = i + 1 := by omega
      have hgb : g ≤ n := by omega
      have hkn : k ≤ n := by omega
      have hw1 : IntKind.i64.wrap ((i : Int) + 1) = (i : Int) + 1 := by rw [IntKind.wrap_i64]; omega
      have hw2 : IntKind.i64.wrap (E : Int) = (E : Int) := by rw [IntKind.wrap_i64]; omega
      have HE := Lib.hid hE
      rcases cont_case2 cl k m hcl hlt with ⟨h1, h2⟩ | ⟨h1, h2⟩
      · have hc1 := hcs (k + 1) h1
        rw [show p + (k + 1) = i + 1 by omega] at hc1
        have hi3 : (i : Int) + 1 < n := by omega
        have hi4 : (((i : Int) + 1) == (E : Int)) = false := by rw [beq_eq_false_iff_ne]; omega
        clear hcs
        generalize hga : cl.getD (k + 1) false = x1 at *
        generalize hgb : cl.getD k false = x0 at *
        clear hga hgb
        have HI := Lib.hid hi'
        have HG := Lib.hid hg
        by_cases hx : x1 = x0
        · subst hx
          have HP := Lib.hid (wpr_go (h2.trans (by simp)))
          clear h2 hi' hg hE
          cases x1
          all_goals
            go_wp2
            go_quiet (fail)
            go_wp2
            go_roundw
            case rel => exact ⟨k + 1, by omega, by rw [HI.out]; go_num, by rw [HP.out.2, HSS.out, HG.out]; congr 1; omega, by rw [HP.out.1]; exact hown, below_drawn hbel _⟩
            case measure => have := HI.out; have := HE.out; simp [intOf]; omega
        · have HP := Lib.hid (wpr_end (h2.trans (by simpa using hx)))
          have hxx : (x1 != x0) = true := by simpa using hx
          have hxe : (x1 == x0) = false := by simpa using hx
          clear h2 hx hi' hg hE
          go_wp2
          go_quiet (fail)
          have hown0 := own_drewN hown nq
          go_wp2_with (at_builtin; refine wpList_append_one rfl _ _ 22 rfl w.heap.size 3 i0 (.int .i64 0) 8 Try.underlying22 hi hz0 hz1 hz2 rfl _ _ _ rfl hown0 (.int .i64 ((g : Int) + 1)) 1 rfl rfl ?c1 ?c2 w (below_drawn hbel nq) ?c3 ?_)
          case c1 => unfold maxLen; omega
          case c2 => omega
          case c3 => exact hsz
          intro v' w1 hown' hbel'
          have hown2 : w1.ownsRow w.heap.size 3 1 v' (wpr cl (k + 1)).length (il (wpr cl (k + 1))) := by
            rw [HP.out.1, il_snoc, HSS.out, show ((k + 1 - s : Nat) : Int) = (g : Int) + 1 by have := HG.out; omega]
            simpa using hown'
          clear hown' hown hown0 hbel
          go_wp2
          go_roundw
          case rel => exact ⟨k + 1, by omega, by rw [HI.out]; go_num, by rw [HP.out.2]; simp, hown2, hbel'⟩
          case measure => have := HI.out; have := HE.out; simp [intOf]; omega
      · have hi4 : (((i : Int) + 1) == (E : Int)) = true := by rw [beq_iff_eq]; omega
        clear hcs
        have HI := Lib.hid hi'
        have HG := Lib.hid hg
        have HP := Lib.hid (wpr_end h2)
        have HM := Lib.hid h1
        clear h2 hi' hg hE h1 hc0
        go_wp2
        go_quiet (fail)
        have hown0 := own_drewN hown nq
        go_wp2_with (at_builtin; refine wpList_append_one rfl _ _ 22 rfl w.heap.size 3 i0 (.int .i64 0) 8 Try.underlying22 hi hz0 hz1 hz2 rfl _ _ _ rfl hown0 (.int .i64 ((g : Int) + 1)) 1 rfl rfl ?c1 ?c2 w (below_drawn hbel nq) ?c3 ?_)
        case c1 => unfold maxLen; omega
        case c2 => omega
        case c3 => exact hsz
        intro v' w1 hown' hbel'
        have hown2 : w1.ownsRow w.heap.size 3 1 v' (wpr cl (k + 1)).length (il (wpr cl (k + 1))) := by
          rw [HP.out.1, il_snoc, HSS.out, show ((k + 1 - s : Nat) : Int) = (g : Int) + 1 by have := HG.out; omega]
          simpa using hown'
        clear hown' hown hown0 hbel
        go_wp2
        go_roundw
        case rel => exact ⟨k + 1, by omega, by rw [HI.out]; go_num, by rw [HP.out.2]; simp, hown2, hbel'⟩
        case measure => have := HI.out; have := HE.out; simp [intOf]; omega
    · obtain rfl : k = m := by omega
      obtain ⟨A2, c2, rfl⟩ := own_slice hown
      rw [← hE]
      clear hE
      have h9 : ¬ (E : Int) < (E : Int) := by omega
      go_wp2
      go_ret
      exact gives1_own (by simp [il]) hown hbel
end Go.Proofs.Ytjobcobgmajajaa
