/- Plain mathematics of bursts: bits inverted one after the other. -/
import Derived.Test.YtkpnihapcoiepaaKit
namespace Go.Proofs.Ytkpnihapcoiepaa

/-- the sum of the unit vectors that a condition picks -/
def acc {n : Nat} (u : Nat → BitVec n) (cond : Nat → Bool) : Nat → BitVec n
  | 0 => 0#n
  | i + 1 => acc u cond i ^^^ sel (cond i) (u i)
theorem acc_bit {n : Nat} (u : Nat → BitVec n) (cond : Nat → Bool) (p : Nat → Nat) (W : Nat) (hp : ∀ i, i < W → ∀ j, j < W → (u j).getLsbD (p i) = decide (i = j)) :
    ∀ i, i ≤ W → ∀ j, j < W → (acc u cond i).getLsbD (p j) = (decide (j < i) && cond j) := by
  intro i
  induction i with
  | zero => intro _ j _; simp [acc]
  | succ i ih =>
    intro hi j hj
    simp only [acc, BitVec.getLsbD_xor]
    rw [ih (by omega) j hj]
    have h := hp j hj i (by omega)
    cases hc : cond i
    · simp only [sel]
      by_cases hji : j = i
      · subst hji; simp [hc]
      · have e : (j < i + 1) = (j < i) := propext ⟨by omega, by omega⟩
        simp [e]
    · simp only [sel, if_true, h]
      by_cases hji : j = i
      · subst hji; simp [hc]
      · have e : (j < i + 1) = (j < i) := propext ⟨by omega, by omega⟩
        simp [e, hji]
theorem acc_zero {n : Nat} (u : Nat → BitVec n) (cond : Nat → Bool) (p : Nat → Nat) (W : Nat) (hp : ∀ i, i < W → ∀ j, j < W → (u j).getLsbD (p i) = decide (i = j)) (i : Nat) (hi : i ≤ W) :
    acc u cond i = 0#n ↔ ∀ j, j < i → cond j = false := by
  constructor
  · intro h j hj
    have := acc_bit u cond p W hp i hi j (by omega)
    rw [h] at this
    simpa [hj] using this.symm
  · intro h
    induction i with
    | zero => rfl
    | succ i ih =>
      simp only [acc]
      rw [ih (by omega) (fun j hj => h j (by omega)), h i (by omega)]
      simp [sel]

def u32v (j : Nat) : BitVec 32 := 1#32 <<< j
def u16v (j : Nat) : BitVec 16 := 1#16 <<< (15 - j)
theorem u32v_step : ∀ j, j < 32 → sts st j (u32v j) = 1#32 := by decide
theorem u16v_step : ∀ j, j < 16 → sts su j (u16v j) = 1#16 <<< 15 := by decide
theorem u32v_bit : ∀ i, i < 32 → ∀ j, j < 32 → (u32v j).getLsbD i = decide (i = j) := by decide +kernel
theorem u16v_bit : ∀ i, i < 16 → ∀ j, j < 16 → (u16v j).getLsbD (15 - i) = decide (i = j) := by decide +kernel

/-- the mask of one bit of a byte -/
def bitv (high : Bool) (r : Nat) : Nat := if high then 128 / 2 ^ r else 2 ^ r
theorem bitv_lt (high : Bool) (r : Nat) (h : r < 8) : bitv high r < 256 := by
  have : r = 0 ∨ r = 1 ∨ r = 2 ∨ r = 3 ∨ r = 4 ∨ r = 5 ∨ r = 6 ∨ r = 7 := by omega
  rcases this with rfl | rfl | rfl | rfl | rfl | rfl | rfl | rfl <;> cases high <;> decide
def flip1 (high : Bool) (l : List Nat) (k : Nat) : List Nat := l.set (k / 8) (l.getD (k / 8) 0 ^^^ bitv high (k % 8))
theorem flip1_length (high : Bool) (l : List Nat) (k : Nat) : (flip1 high l k).length = l.length := by simp [flip1]
theorem flip1_byt (high : Bool) {l : List Nat} (h : Byt l) (k : Nat) : Byt (flip1 high l k) := by
  intro y hy
  rcases List.mem_or_eq_of_mem_set hy with hk | rfl
  · exact h _ hk
  · exact Nat.xor_lt_two_pow (n := 8) (h.getD _) (bitv_lt high _ (by omega))
theorem set_split (l : List Nat) (m d : Nat) (h : m < l.length) : l.set m d = l.take m ++ d :: l.drop (m + 1) := by
  rw [List.set_eq_take_append_cons_drop, if_pos h]
theorem self_split (l : List Nat) (m : Nat) (h : m < l.length) : l = l.take m ++ l.getD m 0 :: l.drop (m + 1) := by
  have := set_split l m (l.getD m 0) h
  rw [← this]
  apply List.ext_getElem (by simp)
  intro i h1 h2
  rw [List.getElem_set]
  split
  · subst_vars; simp [List.getD, h]
  · rfl
theorem flip32 (x : BitVec 32) (l : List Nat) (k : Nat) (h : k < 8 * l.length) : f32 x (flip1 false l k) = f32 x l ^^^ sts st (8 * l.length - k) 1#32 := by
  have hm : k / 8 < l.length := by omega
  have hr : k % 8 < 8 := by omega
  unfold flip1 f32
  rw [set_split _ _ _ hm]
  conv => rhs; rw [self_split l (k / 8) hm]
  unfold b32
  rw [List.map_append, List.map_cons, List.map_append, List.map_cons, BitVec.ofNat_xor, fe_flip st_lin]
  congr 1
  rw [← u32v_step (k % 8) (by omega), ← sts_add]
  have e1 : BitVec.ofNat 32 (bitv false (k % 8)) = u32v (k % 8) := by
    generalize k % 8 = r at hr
    have : r = 0 ∨ r = 1 ∨ r = 2 ∨ r = 3 ∨ r = 4 ∨ r = 5 ∨ r = 6 ∨ r = 7 := by omega
    rcases this with rfl | rfl | rfl | rfl | rfl | rfl | rfl | rfl <;> decide
  rw [e1]
  congr 1
  simp only [List.length_map, List.length_drop, List.length_append, List.length_take, List.length_cons]
  omega
theorem ofNat_xor16' (a b : Nat) : BitVec.ofNat 16 ((a ^^^ b) * 256) = BitVec.ofNat 16 (a * 256) ^^^ BitVec.ofNat 16 (b * 256) := by
  rw [show (a ^^^ b) * 256 = a * 256 ^^^ b * 256 by
    rw [show (256 : Nat) = 2 ^ 8 from rfl, ← Nat.shiftLeft_eq, ← Nat.shiftLeft_eq, ← Nat.shiftLeft_eq, Nat.shiftLeft_xor_distrib]]
  exact BitVec.ofNat_xor ..
theorem flip16 (x : BitVec 16) (l : List Nat) (k : Nat) (h : k < 8 * l.length) : f16 x (flip1 true l k) = f16 x l ^^^ sts su (8 * l.length - k) (1#16 <<< 15) := by
  have hm : k / 8 < l.length := by omega
  have hr : k % 8 < 8 := by omega
  unfold flip1 f16
  rw [set_split _ _ _ hm]
  conv => rhs; rw [self_split l (k / 8) hm]
  unfold b16
  rw [List.map_append, List.map_cons, List.map_append, List.map_cons, ofNat_xor16', fe_flip su_lin]
  congr 1
  rw [← u16v_step (k % 8) (by omega), ← sts_add]
  have e1 : BitVec.ofNat 16 (bitv true (k % 8) * 256) = u16v (k % 8) := by
    generalize k % 8 = r at hr
    have : r = 0 ∨ r = 1 ∨ r = 2 ∨ r = 3 ∨ r = 4 ∨ r = 5 ∨ r = 6 ∨ r = 7 := by omega
    rcases this with rfl | rfl | rfl | rfl | rfl | rfl | rfl | rfl <;> decide
  rw [e1]
  congr 1
  simp only [List.length_map, List.length_drop, List.length_append, List.length_take, List.length_cons]
  omega

/-- is bit j of the mask set, and does it lie within the input? -/
def cnd (a mask N : Nat) (j : Nat) : Bool := decide (mask / 2 ^ j % 2 = 1) && decide (a + j < N)
/-- the input after i rounds, and whether a bit was inverted -/
def flips (high : Bool) (l : List Nat) (a mask : Nat) : Nat → List Nat × Bool
  | 0 => (l, false)
  | i + 1 => if cnd a mask (8 * l.length) i then (flip1 high (flips high l a mask i).1 (a + i), true) else flips high l a mask i
theorem flips_length (high : Bool) (l : List Nat) (a mask i : Nat) : (flips high l a mask i).1.length = l.length := by
  induction i with
  | zero => rfl
  | succ i ih => simp only [flips]; split <;> simp [flip1_length, ih]
theorem flips_byt (high : Bool) {l : List Nat} (h : Byt l) (a mask i : Nat) : Byt (flips high l a mask i).1 := by
  induction i with
  | zero => exact h
  | succ i ih =>
    simp only [flips]
    split
    · exact flip1_byt high ih _
    · exact ih
theorem flips_any (high : Bool) (l : List Nat) (a mask i : Nat) : (flips high l a mask i).2 = false ↔ ∀ j, j < i → cnd a mask (8 * l.length) j = false := by
  induction i with
  | zero => simp [flips]
  | succ i ih =>
    simp only [flips]
    split
    · rename_i h
      simp only [Bool.true_eq_false, false_iff]
      intro hh
      rw [hh i (by omega)] at h
      cases h
    · rename_i h
      rw [ih]
      constructor
      · intro hh j hj
        rcases Nat.lt_succ_iff_lt_or_eq.1 hj with hj | rfl
        · exact hh j hj
        · simpa using h
      · intro hh j hj
        exact hh j (by omega)
theorem flips_crc32 (x : BitVec 32) (l : List Nat) (a mask : Nat) (ha : a < 8 * l.length) (i : Nat) (hi : i ≤ 32) :
    f32 x (flips false l a mask i).1 = f32 x l ^^^ sts st (8 * l.length - a) (acc u32v (cnd a mask (8 * l.length)) i) := by
  induction i with
  | zero => simp [flips, acc, sts_zero st_lin]
  | succ i ih =>
    simp only [flips, acc]
    split
    · rename_i h
      have hN : a + i < 8 * l.length := by simp [cnd] at h; exact h.2
      rw [flip32 _ _ _ (by rw [flips_length]; exact hN), ih (by omega), h, flips_length, sts_lin st_lin, BitVec.xor_assoc]
      congr 2
      simp only [sel, if_true]
      rw [← u32v_step i (by omega), ← sts_add]
      congr 1
      omega
    · rename_i h
      have h' : cnd a mask (8 * l.length) i = false := by simpa using h
      rw [ih (by omega), h']
      simp [sel]
theorem flips_crc16 (x : BitVec 16) (l : List Nat) (a mask : Nat) (ha : a < 8 * l.length) (i : Nat) (hi : i ≤ 16) :
    f16 x (flips true l a mask i).1 = f16 x l ^^^ sts su (8 * l.length - a) (acc u16v (cnd a mask (8 * l.length)) i) := by
  induction i with
  | zero => simp [flips, acc, sts_zero su_lin]
  | succ i ih =>
    simp only [flips, acc]
    split
    · rename_i h
      have hN : a + i < 8 * l.length := by simp [cnd] at h; exact h.2
      rw [flip16 _ _ _ (by rw [flips_length]; exact hN), ih (by omega), h, flips_length, sts_lin su_lin, BitVec.xor_assoc]
      congr 2
      simp only [sel, if_true]
      rw [← u16v_step i (by omega), ← sts_add]
      congr 1
      omega
    · rename_i h
      have h' : cnd a mask (8 * l.length) i = false := by simpa using h
      rw [ih (by omega), h']
      simp [sel]
theorem xor_eq_self {n : Nat} (a b : BitVec n) : a ^^^ b = a ↔ b = 0#n := by
  constructor
  · intro h
    have := congrArg (a ^^^ ·) h
    simpa [← BitVec.xor_assoc] using this
  · rintro rfl; simp
theorem burst32 (l : List Nat) (a mask : Nat) (ha : a < 8 * l.length) : crc32 (flips false l a mask 32).1 = crc32 l ↔ (flips false l a mask 32).2 = false := by
  rw [flips_any, ← acc_zero u32v (cnd a mask (8 * l.length)) (fun i => i) 32 u32v_bit 32 (by omega)]
  unfold crc32
  rw [flips_crc32 _ l a mask ha 32 (by omega)]
  constructor
  · intro h
    refine sts_inj st_inj (8 * l.length - a) _ ?_
    rw [← xor_eq_self (f32 ones32 l)]
    have := congrArg (· ^^^ ones32) h
    simpa [BitVec.xor_assoc] using this
  · intro h
    rw [h, sts_zero st_lin]
    simp
theorem burst16 (l : List Nat) (a mask : Nat) (ha : a < 8 * l.length) : crc16 (flips true l a mask 16).1 = crc16 l ↔ (flips true l a mask 16).2 = false := by
  rw [flips_any, ← acc_zero u16v (cnd a mask (8 * l.length)) (fun i => 15 - i) 16 u16v_bit 16 (by omega)]
  unfold crc16
  rw [flips_crc16 _ l a mask ha 16 (by omega), xor_eq_self]
  constructor
  · exact sts_inj su_inj (8 * l.length - a) _
  · intro h
    rw [h, sts_zero su_lin]
end Go.Proofs.Ytkpnihapcoiepaa
