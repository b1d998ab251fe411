/- Plain mathematics of the checksums: registers as bit vectors, linear steps, products of polynomials as steps. -/
import Derived.Laws.BitsAllLaws
namespace Go.Proofs.Ytkpnihapcoiepaa

theorem x4 {n : Nat} (a b c d : BitVec n) : (a ^^^ b) ^^^ (c ^^^ d) = (a ^^^ c) ^^^ (b ^^^ d) := by ac_rfl
def sel {n : Nat} (b : Bool) (p : BitVec n) : BitVec n := if b then p else 0#n
theorem sel_xor {n : Nat} (b c : Bool) (p : BitVec n) : sel (b ^^ c) p = sel b p ^^^ sel c p := by
  cases b <;> cases c <;> simp [sel]

/-- a step that is linear -/
def Lin {n : Nat} (s : BitVec n → BitVec n) : Prop := ∀ x y, s (x ^^^ y) = s x ^^^ s y
theorem Lin.zero {n : Nat} {s : BitVec n → BitVec n} (h : Lin s) : s 0#n = 0#n := by
  have := h 0#n 0#n
  rw [BitVec.xor_self, BitVec.xor_self] at this
  exact this
/-- k steps -/
def sts {n : Nat} (s : BitVec n → BitVec n) : Nat → BitVec n → BitVec n
  | 0, x => x
  | k + 1, x => s (sts s k x)
theorem sts_add {n : Nat} (s : BitVec n → BitVec n) (a b : Nat) (x : BitVec n) : sts s (a + b) x = sts s a (sts s b x) := by
  induction a with
  | zero => simp [sts]
  | succ a ih => rw [Nat.add_right_comm]; simp [sts, ih]
theorem sts_lin {n : Nat} {s : BitVec n → BitVec n} (h : Lin s) (k : Nat) : Lin (sts s k) := by
  intro x y
  induction k with
  | zero => rfl
  | succ k ih => simp only [sts]; rw [ih, h]
theorem sts_zero {n : Nat} {s : BitVec n → BitVec n} (h : Lin s) (k : Nat) : sts s k 0#n = 0#n := (sts_lin h k).zero
/-- a step under which only zero becomes zero -/
def Inj {n : Nat} (s : BitVec n → BitVec n) : Prop := ∀ x, s x = 0#n → x = 0#n
theorem sts_inj {n : Nat} {s : BitVec n → BitVec n} (h : Inj s) (k : Nat) : Inj (sts s k) := by
  intro x hx
  induction k with
  | zero => exact hx
  | succ k ih => exact ih (h _ hx)

/-- a byte's word into the register, then eight steps -/
def feed1 {n : Nat} (s : BitVec n → BitVec n) (x c : BitVec n) : BitVec n := sts s 8 (x ^^^ c)
def fe {n : Nat} (s : BitVec n → BitVec n) (x : BitVec n) (l : List (BitVec n)) : BitVec n := l.foldl (feed1 s) x
theorem fe_nil {n : Nat} (s : BitVec n → BitVec n) (x : BitVec n) : fe s x [] = x := rfl
theorem fe_append {n : Nat} (s : BitVec n → BitVec n) (x : BitVec n) (l m : List (BitVec n)) : fe s x (l ++ m) = fe s (fe s x l) m := List.foldl_append
theorem fe_snoc {n : Nat} (s : BitVec n → BitVec n) (x : BitVec n) (l : List (BitVec n)) (c : BitVec n) : fe s x (l ++ [c]) = sts s 8 (fe s x l ^^^ c) := by
  rw [fe_append]; rfl
theorem fe_cons {n : Nat} (s : BitVec n → BitVec n) (x c : BitVec n) (l : List (BitVec n)) : fe s x (c :: l) = fe s (sts s 8 (x ^^^ c)) l := rfl
theorem fe_xor {n : Nat} {s : BitVec n → BitVec n} (h : Lin s) (l : List (BitVec n)) : ∀ (x y : BitVec n), fe s (x ^^^ y) l = fe s x l ^^^ sts s (8 * l.length) y := by
  induction l with
  | nil => intro x y; rfl
  | cons c l ih =>
    intro x y
    rw [fe_cons, fe_cons, List.length_cons, show 8 * (l.length + 1) = 8 * l.length + 8 by omega, sts_add, ← ih]
    congr 1
    rw [← sts_lin h]
    congr 1
    ac_rfl
/-- a change of one byte's word -/
theorem fe_flip {n : Nat} {s : BitVec n → BitVec n} (h : Lin s) (a b : List (BitVec n)) (x c d : BitVec n) :
    fe s x (a ++ (c ^^^ d) :: b) = fe s x (a ++ c :: b) ^^^ sts s (8 * (b.length + 1)) d := by
  rw [fe_append, fe_append, fe_cons, fe_cons, show fe s x a ^^^ (c ^^^ d) = (fe s x a ^^^ c) ^^^ d by ac_rfl, sts_lin h, fe_xor h, show 8 * (b.length + 1) = 8 * b.length + 8 by omega, sts_add]
/-- two inputs of one length, xored -/
theorem fe_zip {n : Nat} {s : BitVec n → BitVec n} (h : Lin s) : ∀ (l m : List (BitVec n)) (_ : l.length = m.length) (x y : BitVec n),
    fe s (x ^^^ y) (List.zipWith (· ^^^ ·) l m) = fe s x l ^^^ fe s y m
  | [], [], _, x, y => rfl
  | c :: l, d :: m, hl, x, y => by
    rw [List.zipWith_cons_cons, fe_cons, fe_cons, fe_cons, x4, sts_lin h]
    exact fe_zip h l m (by simpa using hl) _ _

/- the CRC-32 -/
def P32 : BitVec 32 := 0xedb88320#32
def st (x : BitVec 32) : BitVec 32 := (x >>> 1) ^^^ sel (x.getLsbD 0) P32
theorem st_lin : Lin st := by
  intro x y
  unfold st
  rw [BitVec.ushiftRight_xor_distrib, BitVec.getLsbD_xor, sel_xor, x4]
theorem st_inj : Inj st := by
  intro x hx
  have h31 : (st x).getLsbD 31 = x.getLsbD 0 := by
    unfold st sel P32
    cases h : x.getLsbD 0 <;> simp
  rw [hx] at h31
  have h0 : x.getLsbD 0 = false := by simpa using h31.symm
  unfold st at hx
  rw [h0] at hx
  have hx' : x >>> 1 = 0#32 := by simpa [sel] using hx
  apply BitVec.eq_of_getLsbD_eq
  intro i hi
  rcases Nat.eq_zero_or_pos i with rfl | hp
  · rw [h0]; simp
  · have := congrArg (fun v => v.getLsbD (i - 1)) hx'
    simp only [BitVec.getLsbD_ushiftRight] at this
    rw [show 1 + (i - 1) = i by omega] at this
    simpa using this
theorem st_even (x : BitVec 32) (h : x.getLsbD 0 = false) : st x = x >>> 1 := by
  unfold st
  rw [h]
  simp [sel]
theorem st_odd (x : BitVec 32) (h : x.getLsbD 0 = true) : st x = x >>> 1 ^^^ P32 := by
  unfold st
  rw [h]
  simp [sel]
theorem sts4 (x : BitVec 32) : sts st 4 x = (x >>> 4) ^^^ sts st 4 (x &&& 15#32) := by
  have hx : x = (x &&& ~~~15#32) ^^^ (x &&& 15#32) := by
    apply BitVec.eq_of_getLsbD_eq
    intro i hi
    simp only [BitVec.getLsbD_xor, BitVec.getLsbD_and, BitVec.getLsbD_not]
    cases x.getLsbD i <;> cases (15#32).getLsbD i <;> simp [hi]
  have hy : sts st 4 (x &&& ~~~15#32) = x >>> 4 := by
    have e : ∀ k : Nat, k < 4 → ((x &&& ~~~15#32) >>> k).getLsbD 0 = false := by
      intro k hk
      have : k = 0 ∨ k = 1 ∨ k = 2 ∨ k = 3 := by omega
      rcases this with rfl | rfl | rfl | rfl <;> simp
    have step : ∀ k : Nat, k < 4 → st ((x &&& ~~~15#32) >>> k) = (x &&& ~~~15#32) >>> (k + 1) := by
      intro k hk
      rw [st_even _ (e k hk), BitVec.shiftRight_add]
    have h0 : x &&& ~~~15#32 = (x &&& ~~~15#32) >>> 0 := by simp
    simp only [sts]
    rw [h0, step 0 (by omega), step 1 (by omega), step 2 (by omega), step 3 (by omega)]
    apply BitVec.eq_of_getLsbD_eq
    intro i hi
    simp only [BitVec.getLsbD_ushiftRight, BitVec.getLsbD_and, BitVec.getLsbD_not]
    by_cases h : 4 + i < 32
    · have : (15#32).getLsbD (4 + i) = false := by
        rw [BitVec.getLsbD_ofNat]
        have : Nat.testBit 15 (4 + i) = false := Nat.testBit_lt_two_pow (by
          have : (2:Nat) ^ 4 ≤ 2 ^ (4 + i) := Nat.pow_le_pow_right (by omega) (by omega)
          omega)
        simp [this]
      rw [this]; simp [h]
    · rw [BitVec.getLsbD_of_ge x _ (by omega)]; simp
  conv => lhs; rw [hx]
  rw [sts_lin st_lin, hy]

/-- the products of polynomials -/
def mulS (x y : BitVec 32) : Nat → BitVec 32
  | 0 => 0#32
  | i + 1 => mulS x y i ^^^ sel (x.getLsbD (31 - i)) (sts st i y)
def mul (x y : BitVec 32) : BitVec 32 := mulS x y 32
theorem sel_st (b : Bool) (y : BitVec 32) : sel b (st y) = st (sel b y) := by cases b <;> simp [sel, st_lin.zero]
theorem sts_comm {n : Nat} (s : BitVec n → BitVec n) (k : Nat) (y : BitVec n) : sts s k (s y) = s (sts s k y) := by
  induction k with
  | zero => rfl
  | succ k ih => simp only [sts]; rw [ih]
theorem mulS_st (x y : BitVec 32) (i : Nat) : mulS x (st y) i = st (mulS x y i) := by
  induction i with
  | zero => exact (st_lin.zero).symm
  | succ i ih => simp only [mulS]; rw [ih, sts_comm, sel_st, st_lin]
def one32 : BitVec 32 := 0x80000000#32
theorem sts_one : ∀ i : Nat, i < 32 → sts st i one32 = 1#32 <<< (31 - i) := by decide
theorem mulS_one (x : BitVec 32) (i : Nat) (hi : i ≤ 32) : ∀ j, j < 32 → (mulS x one32 i).getLsbD j = (x.getLsbD j && decide (32 - i ≤ j)) := by
  induction i with
  | zero => intro j hj; simp [mulS]; intros; omega
  | succ i ih =>
    intro j hj
    simp only [mulS, BitVec.getLsbD_xor]
    rw [ih (by omega) j hj, sts_one i (by omega)]
    by_cases h1 : j = 31 - i
    · subst h1
      have e1 : decide (32 - i ≤ 31 - i) = false := by simp; omega
      have e2 : decide (32 - (i + 1) ≤ 31 - i) = true := by simp
      rw [e1, e2]
      cases hx : x.getLsbD (31 - i)
      · simp [sel]
      · have : (1#32 <<< (31 - i)).getLsbD (31 - i) = true := by
          rw [BitVec.getLsbD_shiftLeft]
          simp; omega
        simp [sel, this]
    · have e0 : (sel (x.getLsbD (31 - i)) (1#32 <<< (31 - i))).getLsbD j = false := by
        cases x.getLsbD (31 - i)
        · simp [sel]
        · simp only [sel, if_true]
          rw [BitVec.getLsbD_shiftLeft]
          by_cases h2 : j < 31 - i
          · simp [h2]
          · have : (1#32).getLsbD (j - (31 - i)) = false := by
              rw [BitVec.getLsbD_ofNat]
              have : Nat.testBit 1 (j - (31 - i)) = false := Nat.testBit_lt_two_pow (by
                have : (2:Nat) ^ 1 ≤ 2 ^ (j - (31 - i)) := Nat.pow_le_pow_right (by omega) (by omega)
                omega)
              simp [this]
            simp [this]
      rw [e0]
      have e3 : decide (32 - (i + 1) ≤ j) = decide (32 - i ≤ j) := by
        have : (32 - (i + 1) ≤ j) = (32 - i ≤ j) := propext ⟨by omega, by omega⟩
        simp only [this]
      rw [e3]
      simp
theorem mul_one (x : BitVec 32) : mul x one32 = x := by
  apply BitVec.eq_of_getLsbD_eq
  intro j hj
  rw [mul, mulS_one x 32 (by omega) j hj]
  simp
theorem mul_sts (x : BitVec 32) (k : Nat) : mul x (sts st k one32) = sts st k x := by
  induction k with
  | zero => exact mul_one x
  | succ k ih => simp only [sts]; rw [mul, mulS_st]; congr 1
theorem start_power : 0x00800000#32 = sts st 8 one32 := by decide

/- the CRC-16 -/
def P16 : BitVec 16 := 0x1021#16
def su (x : BitVec 16) : BitVec 16 := (x <<< 1) ^^^ sel (x.getLsbD 15) P16
theorem su_lin : Lin su := by
  intro x y
  unfold su
  rw [BitVec.shiftLeft_xor_distrib, BitVec.getLsbD_xor, sel_xor, x4]
theorem su_inj : Inj su := by
  intro x hx
  have h15 : (su x).getLsbD 0 = x.getLsbD 15 := by
    unfold su sel P16
    cases h : x.getLsbD 15 <;> simp
  rw [hx] at h15
  have h0 : x.getLsbD 15 = false := by simpa using h15.symm
  unfold su at hx
  rw [h0] at hx
  have hx' : x <<< 1 = 0#16 := by simpa [sel] using hx
  apply BitVec.eq_of_getLsbD_eq
  intro i hi
  by_cases h : i = 15
  · subst h; rw [h0]; simp
  · have := congrArg (fun v => v.getLsbD (i + 1)) hx'
    simp only [BitVec.getLsbD_shiftLeft] at this
    have hi' : i + 1 < 16 := by omega
    simpa [hi'] using this
theorem su_low (x : BitVec 16) (h : x.getLsbD 15 = false) : su x = x <<< 1 := by
  unfold su
  rw [h]
  simp [sel]
theorem su_high (x : BitVec 16) (h : x.getLsbD 15 = true) : su x = x <<< 1 ^^^ P16 := by
  unfold su
  rw [h]
  simp [sel]
theorem sus4 (x : BitVec 16) : sts su 4 x = (x <<< 4) ^^^ sts su 4 ((x >>> 12) <<< 12) := by
  have hx : x = (x &&& 0xfff#16) ^^^ ((x >>> 12) <<< 12) := by
    apply BitVec.eq_of_getLsbD_eq
    intro i hi
    simp only [BitVec.getLsbD_xor, BitVec.getLsbD_and, BitVec.getLsbD_shiftLeft, BitVec.getLsbD_ushiftRight]
    have : i = 0 ∨ i = 1 ∨ i = 2 ∨ i = 3 ∨ i = 4 ∨ i = 5 ∨ i = 6 ∨ i = 7 ∨ i = 8 ∨ i = 9 ∨ i = 10 ∨ i = 11 ∨ i = 12 ∨ i = 13 ∨ i = 14 ∨ i = 15 := by omega
    rcases this with rfl | rfl | rfl | rfl | rfl | rfl | rfl | rfl | rfl | rfl | rfl | rfl | rfl | rfl | rfl | rfl <;> simp
  have hy : sts su 4 (x &&& 0xfff#16) = x <<< 4 := by
    have e : ∀ k : Nat, k < 4 → ((x &&& 0xfff#16) <<< k).getLsbD 15 = false := by
      intro k hk
      have : k = 0 ∨ k = 1 ∨ k = 2 ∨ k = 3 := by omega
      rcases this with rfl | rfl | rfl | rfl <;> simp
    have step : ∀ k : Nat, k < 4 → su ((x &&& 0xfff#16) <<< k) = (x &&& 0xfff#16) <<< (k + 1) := by
      intro k hk
      rw [su_low _ (e k hk), BitVec.shiftLeft_add]
    have h0 : x &&& 0xfff#16 = (x &&& 0xfff#16) <<< 0 := by simp
    simp only [sts]
    rw [h0, step 0 (by omega), step 1 (by omega), step 2 (by omega), step 3 (by omega)]
    apply BitVec.eq_of_getLsbD_eq
    intro i hi
    simp only [BitVec.getLsbD_shiftLeft, BitVec.getLsbD_and]
    have : i = 0 ∨ i = 1 ∨ i = 2 ∨ i = 3 ∨ i = 4 ∨ i = 5 ∨ i = 6 ∨ i = 7 ∨ i = 8 ∨ i = 9 ∨ i = 10 ∨ i = 11 ∨ i = 12 ∨ i = 13 ∨ i = 14 ∨ i = 15 := by omega
    rcases this with rfl | rfl | rfl | rfl | rfl | rfl | rfl | rfl | rfl | rfl | rfl | rfl | rfl | rfl | rfl | rfl <;> simp
  conv => lhs; rw [hx]
  rw [sts_lin su_lin, hy]

/- the inputs -/
def b32 (l : List Nat) : List (BitVec 32) := l.map fun c => BitVec.ofNat 32 c
def b16 (l : List Nat) : List (BitVec 16) := l.map fun c => BitVec.ofNat 16 (c * 256)
def f32 (x : BitVec 32) (l : List Nat) : BitVec 32 := fe st x (b32 l)
def f16 (x : BitVec 16) (l : List Nat) : BitVec 16 := fe su x (b16 l)
def ones32 : BitVec 32 := 0xffffffff#32
def ones16 : BitVec 16 := 0xffff#16
def crc32 (l : List Nat) : BitVec 32 := f32 ones32 l ^^^ ones32
def crc16 (l : List Nat) : BitVec 16 := f16 ones16 l
theorem f32_nil (x : BitVec 32) : f32 x [] = x := rfl
theorem f16_nil (x : BitVec 16) : f16 x [] = x := rfl
theorem f32_take (x : BitVec 32) (l : List Nat) (k : Nat) (h : k < l.length) : f32 x (l.take (k + 1)) = sts st 8 (f32 x (l.take k) ^^^ BitVec.ofNat 32 (l.getD k 0)) := by
  unfold f32 b32
  rw [List.take_succ_eq_append_getElem h, List.map_append, List.map_singleton, fe_snoc]
  simp [List.getD, h]
theorem f16_take (x : BitVec 16) (l : List Nat) (k : Nat) (h : k < l.length) : f16 x (l.take (k + 1)) = sts su 8 (f16 x (l.take k) ^^^ BitVec.ofNat 16 (l.getD k 0 * 256)) := by
  unfold f16 b16
  rw [List.take_succ_eq_append_getElem h, List.map_append, List.map_singleton, fe_snoc]
  simp [List.getD, h]
theorem f32_append (x : BitVec 32) (l m : List Nat) : f32 x (l ++ m) = f32 (f32 x l) m := by
  unfold f32 b32; rw [List.map_append, fe_append]
/-- two inputs one after the other -/
theorem crc32_append (l m : List Nat) : crc32 (l ++ m) = crc32 m ^^^ sts st (8 * m.length) (crc32 l) := by
  unfold crc32
  rw [f32_append]
  have h := fe_xor st_lin (b32 m) ones32 (f32 ones32 l ^^^ ones32)
  rw [show ones32 ^^^ (f32 ones32 l ^^^ ones32) = f32 ones32 l by
    rw [BitVec.xor_comm, BitVec.xor_assoc, BitVec.xor_self, BitVec.xor_zero]] at h
  unfold f32 at h ⊢
  rw [h, show (b32 m).length = m.length by simp [b32]]
  ac_rfl

/- Adler-32 -/
def adStep (s : Nat × Nat) (c : Nat) : Nat × Nat := ((s.1 + c) % 65521, (s.2 + (s.1 + c) % 65521) % 65521)
def ad (l : List Nat) : Nat × Nat := l.foldl adStep (1, 0)
def adler (l : List Nat) : Nat := (ad l).2 * 65536 + (ad l).1
theorem ad_nil : ad [] = (1, 0) := rfl
theorem ad_snoc (l : List Nat) (c : Nat) : ad (l ++ [c]) = adStep (ad l) c := by simp [ad]
theorem ad_take (l : List Nat) (k : Nat) (h : k < l.length) : ad (l.take (k + 1)) = adStep (ad (l.take k)) (l.getD k 0) := by
  rw [List.take_succ_eq_append_getElem h, ad_snoc]
  simp [List.getD, h]
theorem ad_fold (l : List Nat) : ∀ s : Nat × Nat, s.1 < 65521 → s.2 < 65521 → (l.foldl adStep s).1 = (s.1 + l.sum) % 65521 ∧ (l.foldl adStep s).1 < 65521 ∧ (l.foldl adStep s).2 < 65521 := by
  induction l with
  | nil => intro s h1 h2; simp [Nat.mod_eq_of_lt h1, h1, h2]
  | cons c l ih =>
    intro s h1 h2
    have := ih (adStep s c) (by simp [adStep]; omega) (by simp [adStep]; omega)
    rw [List.foldl_cons, List.sum_cons]
    refine ⟨?_, this.2⟩
    rw [this.1]
    simp only [adStep]
    omega
theorem ad_lt (l : List Nat) : (ad l).1 < 65521 ∧ (ad l).2 < 65521 := (ad_fold l (1, 0) (by decide) (by decide)).2
theorem ad_sum (l : List Nat) : (ad l).1 = (1 + l.sum) % 65521 := (ad_fold l (1, 0) (by decide) (by decide)).1
theorem sum_set (l : List Nat) : ∀ (i t : Nat), i < l.length → (l.set i t).sum + l.getD i 0 = l.sum + t := by
  induction l with
  | nil => intro i t h; simp at h
  | cons c l ih =>
    intro i t h
    cases i with
    | zero => simp; omega
    | succ i =>
      have := ih i t (by simpa using h)
      simp only [List.set_cons_succ, List.sum_cons, List.getD_cons_succ] at this ⊢
      omega
theorem adler_set (l : List Nat) (i t : Nat) (h : i < l.length) (ht : t < 256) (hl : l.getD i 0 < 256) : adler (l.set i t) = adler l ↔ t = l.getD i 0 := by
  constructor
  · intro e
    have h1 := ad_lt l
    have h2 := ad_lt (l.set i t)
    have h3 := ad_sum l
    have h4 := ad_sum (l.set i t)
    have h5 := sum_set l i t h
    unfold adler at e
    omega
  · rintro rfl
    congr 1
    apply List.ext_getElem (by simp)
    intro n h1 h2
    rw [List.getElem_set]
    split
    · subst_vars; simp [List.getD, h]
    · rfl
end Go.Proofs.Ytkpnihapcoiepaa
