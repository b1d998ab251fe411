/- The iterator over the runs of a row: its contract. -/
import Derived.Test.YtjobcobgmajajaaW3
import Derived.Test.YtjobcobgmajajaaPure2
import Derived.RangeFuncNested
import Derived.RangeFuncBound
import Derived.RangeFuncCalls
import Derived.RangeFuncLeaves
import Derived.Shelf.Abstract
import Derived.Shelf.RegionOpen
import Derived.OwnWalkIn
import Derived.TacticsInMore
import Derived.LoopNIn
import Derived.LoopIn
set_option linter.unusedVariables false
namespace Go.Proofs.Ytjobcobgmajajaa
open Go.RowKit Go.Shelf
attribute [local go_sem] Oper.semAt_some

/-- what lies below n₀ lies as it lay, but for block Bw -/
structure KeepX (Bw n₀ : Nat) (W W' : World) : Prop where
  size : W.heap.size ≤ W'.heap.size
  block : ∀ k, k < n₀ → k ≠ Bw → W'.heap[k]? = W.heap[k]?
theorem KeepX.refl (Bw n₀ : Nat) (W : World) : KeepX Bw n₀ W W := ⟨Nat.le_refl _, fun _ _ _ => rfl⟩
theorem KeepX.trans {Bw n₀ : Nat} {A B C : World} (h : KeepX Bw n₀ A B) (k : KeepX Bw n₀ B C) : KeepX Bw n₀ A C := ⟨Nat.le_trans h.size k.size, fun i h1 h2 => (k.block i h1 h2).trans (h.block i h1 h2)⟩
theorem KeepX.drewN {Bw n₀ : Nat} {A B : World} (h : KeepX Bw n₀ A B) (q : Nat) : KeepX Bw n₀ A (B.drewN q) := ⟨h.size, h.block⟩
theorem KeepX.cell {Bw n₀ : Nat} {A B : World} (h : KeepX Bw n₀ A B) {p : Addr} (h1 : p.block < n₀) (h2 : p.block ≠ Bw) : B.cell? p = A.cell? p := World.cell?_of_block (h.block _ h1 h2)
theorem keepX_b {Bw n₀ : Nat} {w : World} (hn : n₀ ≤ w.heap.size) : ∀ (W : World) (l : Nat) (o o' : Obj), w.heap.size ≤ l → W.heap[l]? = some o → o.isCells = false → o.isWalk = false → KeepX Bw n₀ W (W.putObj l o') :=
  fun W l o o' hl _ _ _ => ⟨(grownBy_putObj' W l o').size, fun k hk _ => World.putObj_heap_other (by omega)⟩

/-- the module k of a row that lies in a block other than Bw, below n₀ -/
def RowAt (Bw n₀ : Nat) (W : World) (A : Option Addr) (n c : Nat) (l : List Bool) : Prop :=
  l.length = n ∧ n ≤ c ∧ c ≤ maxLen ∧ (0 < n → ∃ b off, A = some ⟨b, off, none⟩ ∧ b < n₀ ∧ b ≠ Bw ∧ ∀ k, k < n → W.cell? ⟨b, off + k, none⟩ = some (.bool (l.getD k false)))
theorem RowAt.keep {Bw n₀ : Nat} {W W' : World} {A : Option Addr} {n c : Nat} {l : List Bool} (h : RowAt Bw n₀ W A n c l) (hk : KeepX Bw n₀ W W') : RowAt Bw n₀ W' A n c l :=
  ⟨h.1, h.2.1, h.2.2.1, fun hn => by
    obtain ⟨b, off, e, h1, h2, h3⟩ := h.2.2.2 hn
    exact ⟨b, off, e, h1, h2, fun k hk' => (hk.cell (p := ⟨b, off + k, none⟩) h1 h2).trans (h3 k hk')⟩⟩

theorem cont_case (l : List Bool) (k n : Nat) (h : l.length = n) : (k + 1 < n ∧ cont l k = (l.getD (k + 1) false == l.getD k false)) ∨ (¬ k + 1 < n ∧ cont l k = false) := by
  unfold cont
  rw [h]
  by_cases h1 : k + 1 < n <;> simp [h1]

set_option maxRecDepth 100000 in
set_option maxHeartbeats 2000000 in
theorem all1_in (f : Nat) (hf : 1 ≤ f) (lp Bs Bw n₀ : Nat) (A : Option Addr) (n c : Nat) (l : List Bool) (hBs : Bs < n₀) (hBw : Bs ≠ Bw) (J Jx : List (Bool × Nat) → World → Prop)
    (W : World) (hJ : AbidesFrom W.heap.size J)
    (hY : ∀ pre x W, J pre W → pre.length < n → YieldAt Fence.wide (f - 1) Try.prog lp #[.bool x.1, .int .i64 (x.2 : Nat)] W fun e W' =>
      (e = .returned (.bool true) ∧ J (pre ++ [x]) W' ∧ KeepX Bw n₀ W W') ∨ (e = .returned (.bool false) ∧ Jx (pre ++ [x]) W'))
    (hB : W.cell? ⟨Bs, 0, none⟩ = some (.slice A n c)) (hR : RowAt Bw n₀ W A n c l) (h0 : J [] W) :
    CallsIn Fence.wide f Try.prog 38 #[.func (.yield lp) #[] #[], .pointer (some ⟨Bs, 0, none⟩)] W fun e W' => (∃ v, e = .returned v) ∧
      ((∃ ys, ys = pr l n ∧ J ys W') ∨ (∃ pre, pre <+: pr l n ∧ Jx pre W')) := by
  have hl := hR.1
  have hle := hR.2.1
  have hmax := hR.2.2.1
  unfold maxLen at hmax
  refine callsIn_of_wp Try.func38 rfl trivial ?_ rfl
  simp only [Try.ntmps38, List.size_toArray, List.length_cons, List.length_nil, Nat.reduceAdd, Nat.reduceSub, Array.replicate_succ, Array.replicate_zero, List.push_toArray, List.append_toArray, List.nil_append, List.cons_append]
  gi_wp2
  gi_loopw [3, 7] (fun s i wr => ∃ k : Nat, k ≤ n ∧ i = .int .i64 k ∧ s = .int .i64 (st l k : Nat) ∧ J (pr l k) wr ∧ KeepX Bw n₀ W wr)
    (fun _ i _ => n - (intOf i).toNat)
  case atStart => exact ⟨0, Nat.zero_le _, rfl, rfl, h0, KeepX.refl _ _ _⟩
  case round =>
    obtain ⟨k, hk, rfl, rfl, hJs, hnx⟩ := hrel
    by_cases hlt : k < n
    · obtain ⟨b, off, rfl, hb1, hb2, hcs⟩ := (hR.keep hnx).2.2.2 (by omega)
      have hbx := (hnx.cell (p := ⟨Bs, 0, none⟩) hBs hBw).trans hB
      have hk0 : (0 : Int) ≤ k := by omega
      have hk1 : (k : Int) < n := by omega
      have hc0 := hcs k hlt
      have hst := st_le l k
      generalize hgs : st l k = s at *
      have HS := Lib.hid hgs
      clear hgs
      have hsub : (k : Int) + 1 - (s : Int) = ((k + 1 - s : Nat) : Int) := by omega
      have hpl := pr_length l k
      have HJ : Hid (∀ q, J (pr l k) (wr.drewN q)) := fun q => hJ _ _ _ none hJs ⟨rfl, rfl, rfl, Nat.le_refl _, fun _ _ _ => rfl⟩ (fun r e => by cases e)
      rcases cont_case l k n hl with ⟨h1, h2⟩ | ⟨h1, h2⟩
      · have hc1 := hcs (k + 1) h1
        have hi1 : (k : Int) + 1 < n := by omega
        have hi0 : (0 : Int) ≤ (k : Int) + 1 := by omega
        rw [show off + (k + 1) = off + (k + 1) from rfl] at hc1
        generalize hga : l.getD (k + 1) false = x1 at *
        generalize hgb : l.getD k false = x0 at *
        have HB := Lib.hid hgb
        clear hga hgb
        have hnat : ((k : Int) + 1).toNat = k + 1 := by omega
        clear hcs hR
        by_cases hx : x1 = x0
        · subst hx
          have HP := Lib.hid (pr_go (h2.trans (by simp)))
          clear h2
          cases x1
          all_goals
            gi_wp2
            gi_quiet (fail)
            gi_wp2
            go_roundw
            case rel => exact ⟨k + 1, by omega, by go_num, by rw [HP.out.2, HS.out], by rw [HP.out.1]; exact HJ.out _, hnx.drewN _⟩
            case measure => simp [intOf]; omega
        · have HP := Lib.hid (pr_end (h2.trans (by simpa using hx)))
          clear h2
          have hxx : (x1 == x0) = false := by simpa using hx
          clear hx
          gi_wp2
          gi_quiet (fail)
          obtain ⟨fn, tmps, assign, body, hy, hYR⟩ := hY (pr l k) (x0, k + 1 - s) (wr.drewN nq) (HJ.out nq) (by omega)
          have hnq := hnx.drewN nq
          dsimp only at hy
          gi_wp2
          refine hYR.mono ?_
          have hle1 : (pr l (k + 1)) <+: pr l n := pr_prefix l (k + 1) n (by omega)
          rw [HP.out.1, HB.out, HS.out] at hle1
          rintro e W3 (⟨rfl, hJ3, hk3⟩ | ⟨rfl, hJx3⟩)
          · gi_wp2
            go_roundw
            case rel => exact ⟨k + 1, by omega, by go_num, by rw [HP.out.2]; simp, by rw [HP.out.1, HB.out, HS.out]; exact hJ3, hnq.trans hk3⟩
            case measure => simp [intOf]; omega
          · gi_wp2
            refine bodyPost_ret (results_none rfl _ _ _) rfl ?_
            exact ⟨⟨_, rfl⟩, .inr ⟨_, hle1, hJx3⟩⟩
      · have hi1 : decide ((k : Int) + 1 < n) = false := by simp; omega
        have hi2 : (k : Int) + 1 = n := by omega
        have hi3 : (n : Int) ≤ (k : Int) + 1 := by omega
        clear hi2
        have hnat : ((k : Int) + 1).toNat = k + 1 := by omega
        clear hcs hR
        generalize hgb : l.getD k false = x0 at *
        have HB := Lib.hid hgb
        clear hgb
        have HP := Lib.hid (pr_end h2)
        clear h2
        gi_wp2
        gi_quiet (fail)
        obtain ⟨fn, tmps, assign, body, hy, hYR⟩ := hY (pr l k) (x0, k + 1 - s) (wr.drewN nq) (HJ.out nq) (by omega)
        have hnq := hnx.drewN nq
        dsimp only at hy
        gi_wp2
        refine hYR.mono ?_
        have hle1 : (pr l (k + 1)) <+: pr l n := pr_prefix l (k + 1) n (by omega)
        rw [HP.out.1, HB.out, HS.out] at hle1
        rintro e W3 (⟨rfl, hJ3, hk3⟩ | ⟨rfl, hJx3⟩)
        · gi_wp2
          go_roundw
          case rel => exact ⟨k + 1, by omega, by go_num, by rw [HP.out.2]; simp, by rw [HP.out.1, HB.out, HS.out]; exact hJ3, hnq.trans hk3⟩
          case measure => simp [intOf]; omega
        · gi_wp2
          refine bodyPost_ret (results_none rfl _ _ _) rfl ?_
          exact ⟨⟨_, rfl⟩, .inr ⟨_, hle1, hJx3⟩⟩
    · obtain rfl : k = n := by omega
      gi_wp2
      go_end0
      exact ⟨⟨_, rfl⟩, .inl ⟨_, rfl, hJs⟩⟩
end Go.Proofs.Ytjobcobgmajajaa
