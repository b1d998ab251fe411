/- The iterator over the runs of a row, with widths that are bounded; the contract of Shrink. -/
import Derived.Test.YtjobcobgmajajaaW6
import Derived.Test.YtjobcobgmajajaaPure5
set_option linter.unusedVariables false
namespace Go.Proofs.Ytjobcobgmajajaa
open Go.RowKit Go.Shelf
attribute [local go_sem] Oper.semAt_some

set_option maxRecDepth 100000 in
set_option maxHeartbeats 2000000 in
theorem all1b_in (g2 : Nat → Nat) (f : Nat) (hf : 1 ≤ f) (lp Bs Bw n₀ : Nat) (A : Option Addr) (n c : Nat) (l : List Bool) (hg2 : ∀ m, m ≤ n → g2 m = m) (hBs : Bs < n₀) (hBw : Bs ≠ Bw) (J Jx : List (Bool × Nat) → World → Prop)
    (W : World) (hJ : AbidesFrom W.heap.size J)
    (hY : ∀ pre x W, J pre W → pre.length < n → YieldAt Fence.wide (f - 1) Try.prog lp #[.bool x.1, .int .i64 (g2 x.2 : Nat)] W fun e W' =>
      (e = .returned (.bool true) ∧ J (pre ++ [x]) W' ∧ KeepX Bw n₀ W W') ∨ (e = .returned (.bool false) ∧ Jx (pre ++ [x]) W'))
    (hB : W.cell? ⟨Bs, 0, none⟩ = some (.slice A n c)) (hR : RowAt Bw n₀ W A n c l) (h0 : J [] W) :
    CallsIn Fence.wide f Try.prog 38 #[.func (.yield lp) #[] #[], .pointer (some ⟨Bs, 0, none⟩)] W fun e W' => (∃ v, e = .returned v) ∧
      ((∃ ys, ys = pr l n ∧ J ys W') ∨ (∃ pre, pre <+: pr l n ∧ Jx pre W')) := by
  have hl := hR.1
  have hle := hR.2.1
  have hmax := hR.2.2.1
  unfold maxLen at hmax
  refine callsIn_of_wp Try.func38 rfl trivial ?_ rfl
  simp only [Try.ntmps38, List.size_toArray, List.length_cons, List.length_nil, Nat.reduceAdd, Nat.reduceSub, Array.replicate_succ, Array.replicate_zero, List.push_toArray, List.append_toArray, List.nil_append, List.cons_append]
  gi_wp2
  gi_loopw [3, 7] (fun s i wr => ∃ k : Nat, k ≤ n ∧ i = .int .i64 k ∧ s = .int .i64 (st l k : Nat) ∧ J (pr l k) wr ∧ KeepX Bw n₀ W wr)
    (fun _ i _ => n - (intOf i).toNat)
  case atStart => exact ⟨0, Nat.zero_le _, rfl, rfl, h0, KeepX.refl _ _ _⟩
  case round =>
    obtain ⟨k, hk, rfl, rfl, hJs, hnx⟩ := hrel
    by_cases hlt : k < n
    · obtain ⟨b, off, rfl, hb1, hb2, hcs⟩ := (hR.keep hnx).2.2.2 (by omega)
      have hbx := (hnx.cell (p := ⟨Bs, 0, none⟩) hBs hBw).trans hB
      have hk0 : (0 : Int) ≤ k := by omega
      have hk1 : (k : Int) < n := by omega
      have hc0 := hcs k hlt
      have hst := st_le l k
      generalize hgs : st l k = s at *
      have HS := Lib.hid hgs
      clear hgs
      have hsub : (k : Int) + 1 - (s : Int) = ((k + 1 - s : Nat) : Int) := by omega
      have hpl := pr_length l k
      have HJ : Hid (∀ q, J (pr l k) (wr.drewN q)) := fun q => hJ _ _ _ none hJs ⟨rfl, rfl, rfl, Nat.le_refl _, fun _ _ _ => rfl⟩ (fun r e => by cases e)
      rcases cont_case l k n hl with ⟨h1, h2⟩ | ⟨h1, h2⟩
      · have hc1 := hcs (k + 1) h1
        have hi1 : (k : Int) + 1 < n := by omega
        have hi0 : (0 : Int) ≤ (k : Int) + 1 := by omega
        rw [show off + (k + 1) = off + (k + 1) from rfl] at hc1
        generalize hga : l.getD (k + 1) false = x1 at *
        generalize hgb : l.getD k false = x0 at *
        have HB := Lib.hid hgb
        clear hga hgb
        have hnat : ((k : Int) + 1).toNat = k + 1 := by omega
        clear hcs hR
        by_cases hx : x1 = x0
        · subst hx
          have HP := Lib.hid (pr_go (h2.trans (by simp)))
          clear h2
          cases x1
          all_goals
            gi_wp2
            gi_quiet (fail)
            gi_wp2
            go_roundw
            case rel => exact ⟨k + 1, by omega, by go_num, by rw [HP.out.2, HS.out], by rw [HP.out.1]; exact HJ.out _, hnx.drewN _⟩
            case measure => simp [intOf]; omega
        · have HP := Lib.hid (pr_end (h2.trans (by simpa using hx)))
          clear h2
          have hxx : (x1 == x0) = false := by simpa using hx
          clear hx
          gi_wp2
          gi_quiet (fail)
          obtain ⟨fn, tmps, assign, body, hy, hYR⟩ := hY (pr l k) (x0, k + 1 - s) (wr.drewN nq) (HJ.out nq) (by omega)
          have hnq := hnx.drewN nq
          dsimp only at hy
          rw [hg2 (k + 1 - s) (by omega)] at hy
          gi_wp2
          refine hYR.mono ?_
          have hle1 : (pr l (k + 1)) <+: pr l n := pr_prefix l (k + 1) n (by omega)
          rw [HP.out.1, HB.out, HS.out] at hle1
          rintro e W3 (⟨rfl, hJ3, hk3⟩ | ⟨rfl, hJx3⟩)
          · gi_wp2
            go_roundw
            case rel => exact ⟨k + 1, by omega, by go_num, by rw [HP.out.2]; simp, by rw [HP.out.1, HB.out, HS.out]; exact hJ3, hnq.trans hk3⟩
            case measure => simp [intOf]; omega
          · gi_wp2
            refine bodyPost_ret (results_none rfl _ _ _) rfl ?_
            exact ⟨⟨_, rfl⟩, .inr ⟨_, hle1, hJx3⟩⟩
      · have hi1 : decide ((k : Int) + 1 < n) = false := by simp; omega
        have hi2 : (k : Int) + 1 = n := by omega
        have hi3 : (n : Int) ≤ (k : Int) + 1 := by omega
        clear hi2
        have hnat : ((k : Int) + 1).toNat = k + 1 := by omega
        clear hcs hR
        generalize hgb : l.getD k false = x0 at *
        have HB := Lib.hid hgb
        clear hgb
        have HP := Lib.hid (pr_end h2)
        clear h2
        gi_wp2
        gi_quiet (fail)
        obtain ⟨fn, tmps, assign, body, hy, hYR⟩ := hY (pr l k) (x0, k + 1 - s) (wr.drewN nq) (HJ.out nq) (by omega)
        have hnq := hnx.drewN nq
        dsimp only at hy
        rw [hg2 (k + 1 - s) (by omega)] at hy
        gi_wp2
        refine hYR.mono ?_
        have hle1 : (pr l (k + 1)) <+: pr l n := pr_prefix l (k + 1) n (by omega)
        rw [HP.out.1, HB.out, HS.out] at hle1
        rintro e W3 (⟨rfl, hJ3, hk3⟩ | ⟨rfl, hJx3⟩)
        · gi_wp2
          go_roundw
          case rel => exact ⟨k + 1, by omega, by go_num, by rw [HP.out.2]; simp, by rw [HP.out.1, HB.out, HS.out]; exact hJ3, hnq.trans hk3⟩
          case measure => simp [intOf]; omega
        · gi_wp2
          refine bodyPost_ret (results_none rfl _ _ _) rfl ?_
          exact ⟨⟨_, rfl⟩, .inr ⟨_, hle1, hJx3⟩⟩
    · obtain rfl : k = n := by omega
      gi_wp2
      go_end0
      exact ⟨⟨_, rfl⟩, .inl ⟨_, rfl, hJs⟩⟩

theorem allb_stops (g2 : Nat → Nat) (f : Nat) (hf : 1 ≤ f) (Bs Bw n₀ : Nat) (A : Option Addr) (n c : Nat) (l : List Bool) (hg2 : ∀ m, m ≤ n → g2 m = m) (hBs : Bs < n₀) (hBw : Bs ≠ Bw) (w : World) (hn₀ : n₀ ≤ w.heap.size)
    (hc : w.cell? ⟨Bs, 0, none⟩ = some (.slice A n c)) (hR : RowAt Bw n₀ w A n c l) :
    SeqStopsK Fence.wide f Try.prog 38 #[.pointer (some ⟨Bs, 0, none⟩)] (fun x : Bool × Nat => #[.bool x.1, .int .i64 (g2 x.2 : Nat)]) (KeepX Bw n₀) (fun ys => ys = prs l) (fun pre => pre <+: prs l) n w := fun lp J Jx W hW hJ _ hY h0 => by
  have hX : KeepX Bw n₀ w W := ⟨hW.size, fun k hk _ => hW.block k (by omega)⟩
  have hl := hR.1
  have := all1b_in g2 f hf lp Bs Bw n₀ A n c l hg2 hBs hBw J Jx W hJ hY ((hX.cell (p := ⟨Bs, 0, none⟩) hBs hBw).trans hc) (hR.keep hX) h0
  rw [show pr l n = prs l by rw [prs, hl]] at this
  exact this
theorem ownFrom_keepX {β : Type} {Bw n₀ B : Nat} {W0 : World} (hn : n₀ ≤ W0.heap.size) (hB : n₀ ≤ B) : OwnFrom B (fun (_ : β) W => KeepX Bw n₀ W0 W) :=
  fun _ W W' row hs hg hr => ⟨Nat.le_trans hs.size hg.size, fun k hk hne => (hg.block k (Nat.lt_of_lt_of_le hk (Nat.le_trans hn hs.size)) (fun e => by have := (hr k e.symm).1; omega)).trans (hs.block k hk hne)⟩
end Go.Proofs.Ytjobcobgmajajaa
