/- The plain mathematics of words: a bit string cut into pieces of one size, the last one filled. -/
import Derived.Test.YtjpfalpengocjaaPure
namespace Go.Proofs.Ytjpfalpengocjaa

/-- the s bits from place p on; behind the end: fill -/
def pw (l : List Bool) (p s : Nat) (fill : Bool) : List Bool := (l.drop p).take s ++ List.replicate (s - (l.length - p)) fill
theorem length_pw (l : List Bool) (p s : Nat) (fill : Bool) : (pw l p s fill).length = s := by
  simp [pw]; omega
theorem pw_at (l : List Bool) (p s : Nat) (fill : Bool) (t : Nat) (ht : t < s) : (pw l p s fill)[t]? = some (if p + t < l.length then l.getD (p + t) false else fill) := by
  unfold pw
  by_cases h : p + t < l.length
  · rw [if_pos h, List.getElem?_append_left (by simp; omega), List.getElem?_take, if_pos ht, List.getElem?_drop, List.getElem?_eq_getElem h]
    simp [List.getD, h]
  · rw [if_neg h, List.getElem?_append_right (by simp; omega), List.getElem?_replicate, if_pos (by simp; omega)]
theorem pw_take (l : List Bool) (p s : Nat) (fill : Bool) (t : Nat) (ht : t < s) : (pw l p s fill).take (t + 1) = (pw l p s fill).take t ++ [if p + t < l.length then l.getD (p + t) false else fill] := by
  rw [List.take_add_one, pw_at l p s fill t ht]
  rfl
theorem num_take_lt' (l : List Bool) (k : Nat) : num (l.take k) < 2 ^ k := by
  have h := num_lt (l.take k)
  have h2 : (l.take k).length ≤ k := List.length_take_le _ _
  exact Nat.lt_of_lt_of_le h (Nat.pow_le_pow_right (by omega) h2)
theorem num_pw_lt (l : List Bool) (p s : Nat) (fill : Bool) : num (pw l p s fill) < 2 ^ s := by
  have := num_lt (pw l p s fill)
  rwa [length_pw] at this

/-- the first k words -/
def wds (l : List Bool) (s : Nat) (fill : Bool) (k : Nat) : List Nat := (List.range k).map fun i => num (pw l (s * i) s fill)
theorem wds_succ (l : List Bool) (s : Nat) (fill : Bool) (k : Nat) : wds l s fill (k + 1) = wds l s fill k ++ [num (pw l (s * k) s fill)] := by
  simp [wds, List.range_succ]
theorem length_wds (l : List Bool) (s : Nat) (fill : Bool) (k : Nat) : (wds l s fill k).length = k := by simp [wds]
/-- how many words there are -/
def cnt (n s : Nat) : Nat := (n + s - 1) / s
theorem cnt_of (n s k : Nat) (hs : 0 < s) (h1 : n ≤ s * k) (h2 : k = 0 ∨ s * (k - 1) < n) : cnt n s = k := by
  unfold cnt
  rcases Nat.eq_zero_or_pos k with h0 | h0
  · subst h0
    have : n = 0 := by simpa using h1
    subst this
    rw [Nat.zero_add]
    exact Nat.div_eq_of_lt (by omega)
  · have h2' : s * (k - 1) < n := by
      rcases h2 with h2 | h2
      · omega
      · exact h2
    obtain ⟨j, rfl⟩ : ∃ j, k = j + 1 := ⟨k - 1, by omega⟩
    rw [Nat.add_sub_cancel] at h2'
    rw [Nat.mul_succ] at h1
    rw [show n + s - 1 = s * (j + 1) + (n - 1 - s * j) by rw [Nat.mul_succ]; omega, Nat.mul_add_div hs, Nat.div_eq_of_lt (by omega)]
theorem cnt_le (n s : Nat) (hs : 0 < s) : cnt n s ≤ n := by
  unfold cnt
  rcases Nat.eq_zero_or_pos n with h0 | h0
  · subst h0
    rw [Nat.zero_add]
    exact Nat.le_of_eq (Nat.div_eq_of_lt (by omega))
  · apply Nat.le_of_lt_succ
    rw [Nat.div_lt_iff_lt_mul hs, Nat.succ_mul]
    have := Nat.le_mul_of_pos_right n hs
    omega

end Go.Proofs.Ytjpfalpengocjaa
