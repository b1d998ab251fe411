/- Runs of equal modules: what has come when the first k modules are passed. -/
import Derived.Test.YtjobcobgmajajaaPure
namespace Go.Proofs.Ytjobcobgmajajaa
/-- whether the run goes on behind module k -/
def cont (l : List Bool) (k : Nat) : Bool := decide (k + 1 < l.length) && (l.getD (k + 1) false == l.getD k false)
/-- where the run of module k begins -/
def st (l : List Bool) : Nat → Nat
  | 0 => 0
  | k + 1 => if cont l k then st l k else k + 1
/-- the runs that have ended ahead of module k -/
def pr (l : List Bool) : Nat → List (Bool × Nat)
  | 0 => []
  | k + 1 => if cont l k then pr l k else pr l k ++ [(l.getD k false, k + 1 - st l k)]
theorem st_le (l : List Bool) (k : Nat) : st l k ≤ k := by
  induction k with
  | zero => simp [st]
  | succ k ih => rw [st]; split <;> omega
theorem pr_length (l : List Bool) (k : Nat) : (pr l k).length ≤ k := by
  induction k with
  | zero => simp [pr]
  | succ k ih =>
    rw [pr]
    split
    · omega
    · rw [List.length_append, List.length_singleton]
      omega
theorem pr_prefix (l : List Bool) (k m : Nat) (h : k ≤ m) : pr l k <+: pr l m := by
  induction m with
  | zero => obtain rfl : k = 0 := by omega
            exact List.prefix_refl _
  | succ m ih =>
    rcases Nat.lt_or_ge m k with h1 | h1
    · obtain rfl : k = m + 1 := by omega
      exact List.prefix_refl _
    · refine (ih h1).trans ?_
      rw [pr]
      split
      · exact List.prefix_refl _
      · exact List.prefix_append _ _
theorem pr_go {l : List Bool} {k : Nat} (h : cont l k = true) : pr l (k + 1) = pr l k ∧ st l (k + 1) = st l k := by
  simp [pr, st, h]
theorem pr_end {l : List Bool} {k : Nat} (h : cont l k = false) : pr l (k + 1) = pr l k ++ [(l.getD k false, k + 1 - st l k)] ∧ st l (k + 1) = k + 1 := by
  simp [pr, st, h]
/-- all runs -/
def prs (l : List Bool) : List (Bool × Nat) := pr l l.length
/-- the widths of the runs -/
def wds (l : List Bool) : List Int := (prs l).map fun x => (x.2 : Int)
/-- from the first to the last dark module -/
def core (l : List Bool) : List Bool := (l.drop (lm l)).take (l.length - rm l - lm l)
/-- what Widths returns -/
def widthsS (l : List Bool) : List Int := if lm l = l.length then [] else wds (core l)
theorem length_core {l : List Bool} (h : lm l < l.length) : (core l).length = l.length - rm l - lm l := by
  have := lm_rm h
  simp [core]
  omega
theorem getD_core {l : List Bool} {k : Nat} (hk : k < l.length - rm l - lm l) : (core l).getD k false = l.getD (lm l + k) false := by
  simp only [core, List.getD, List.getElem?_take, if_pos hk, List.getElem?_drop]
end Go.Proofs.Ytjobcobgmajajaa
