/- Contracts: products of limbs. -/
import Derived.Test.YtebbpodcldndjaaW4
set_option linter.unusedVariables false
namespace Go.Proofs.Ytebbpodcldndjaa
open Go.RowKit

theorem val_set (l : List Nat) (k y : Nat) (hk : k < l.length) : val (l.set k y) + 4294967296 ^ k * l.getD k 0 = val l + 4294967296 ^ k * y := by
  induction l generalizing k with
  | nil => simp at hk
  | cons x l ih =>
    cases k with
    | zero => simp [val_cons]; omega
    | succ k =>
      have := ih k (by simpa using hk)
      rw [List.set_cons_succ, val_cons, val_cons, List.getD_cons_succ, Nat.pow_succ]
      rw [Nat.mul_comm (4294967296 ^ k) 4294967296, Nat.mul_assoc, Nat.mul_assoc]
      omega
theorem Ok.set {l : List Nat} (h : Ok l) (k y : Nat) (hy : y < 4294967296) : Ok (l.set k y) := fun z hz => by
  rcases List.mem_or_eq_of_mem_set hz with h1 | h1
  · exact h z h1
  · rw [h1]; exact hy
theorem getD_set_ne (l : List Nat) (k j y : Nat) (h : k ≠ j) : (l.set k y).getD j 0 = l.getD j 0 := by
  rw [List.getD_eq_getElem?_getD, List.getD_eq_getElem?_getD, List.getElem?_set_ne h]
theorem ml_set (l : List Nat) (k y : Nat) : (ml l).set k (.int .u32 (y : Int)) = ml (l.set k y) := by simp [ml, List.map_set]
theorem ml_at (l : List Nat) (k : Nat) (h : k < l.length) : (ml l)[k]? = some (.int .u32 ((l.getD k 0 : Nat) : Int)) := by simp [ml, List.getD, h]
theorem mul_lt_of (x y : Nat) (hx : x < 4294967296) (hy : y < 4294967296) : x * y ≤ 18446744065119617025 := by
  have : x * y ≤ 4294967295 * 4294967295 := Nat.mul_le_mul (by omega) (by omega)
  omega
theorem step_mul {V1 V2 P C V Q R T x y o s : Nat} (h : V1 + P * C = V + Q * R) (hset : V2 + P * o = V1 + P * (s % 4294967296)) (hs : s = C + x * y + o) (hq : Q * T = P * (x * y)) :
    V2 + P * 4294967296 * (s / 4294967296) = V + Q * (R + T) := by
  have e : P * (s % 4294967296) + P * 4294967296 * (s / 4294967296) = P * s := by
    rw [Nat.mul_assoc, ← Nat.mul_add, Nat.mod_add_div]
  have e2 : P * s = P * C + P * (x * y) + P * o := by rw [hs, Nat.mul_add, Nat.mul_add]
  rw [Nat.mul_add]
  omega

/-- what a round of the product has made -/
def Prod (L : List Nat) (t n' V : Nat) : Prop := Ok L ∧ val L = V ∧ ∀ k, t + n' ≤ k → L.getD k 0 = 0
/-- what a step of a round has made -/
def Prod2 (L2 : List Nat) (t q n' C V Q R : Nat) : Prop := Ok L2 ∧ val L2 + 4294967296 ^ (t + q) * C = V + Q * R ∧ ∀ k, t + n' ≤ k → L2.getD k 0 = 0
theorem prod_step {L2 l' : List Nat} {t q n' C V x y o s : Nat} (h : Prod2 L2 t q n' C V (4294967296 ^ t * x) (val (l'.take q))) (hq : q < n') (hlen : t + q < L2.length) (ho : L2.getD (t + q) 0 = o) (hy : l'.getD q 0 = y) (hs : s = C + x * y + o) :
    Prod2 (L2.set (t + q) (s % 4294967296)) t (q + 1) n' (s / 4294967296) V (4294967296 ^ t * x) (val (l'.take (q + 1))) := by
  refine ⟨h.1.set _ _ (by omega), ?_, fun k hk => by rw [getD_set_ne _ _ _ _ (by omega)]; exact h.2.2 k hk⟩
  have hset := val_set L2 (t + q) (s % 4294967296) hlen
  rw [ho] at hset
  rw [val_take, hy, ← Nat.add_assoc, Nat.pow_succ]
  refine step_mul h.2.1 hset hs ?_
  rw [Nat.pow_add]
  simp only [Nat.mul_assoc, Nat.mul_left_comm, Nat.mul_comm]
theorem prod_end {L L2 l l' : List Nat} {t n' C x : Nat} (h0 : Prod L t n' (val (l.take t) * val l')) (h : Prod2 L2 t n' n' C (val L) (4294967296 ^ t * x) (val l')) (hlen : t + n' < L2.length) (hC : C < 4294967296) (hx : l.getD t 0 = x) :
    Prod (L2.set (t + n') C) (t + 1) n' (val (l.take (t + 1)) * val l') := by
  refine ⟨h.1.set _ _ hC, ?_, fun k hk => by rw [getD_set_ne _ _ _ _ (by omega)]; exact h.2.2 k (by omega)⟩
  have hset := val_set L2 (t + n') C hlen
  rw [h.2.2 _ (Nat.le_refl _), Nat.mul_zero, Nat.add_zero] at hset
  rw [hset, h.2.1, h0.2.1, val_take, hx, Nat.add_mul]

set_option maxRecDepth 100000 in
set_option maxHeartbeats 4000000 in
theorem multiply_any (A A' : Option Addr) (n c n' c' : Nat) (l l' : List Nat) (w : World) (hs : Sl w w.heap.size A n c (ml l)) (hs' : Sl w w.heap.size A' n' c' (ml l')) (hok : Ok l) (hok' : Ok l') (hn : n ≤ 524288) (hn' : n' ≤ 524288) :
    Calls Try.prog 62 #[.slice A n c, .slice A' n' c'] w (Mag (enc (val l * val l')) w) := by
  have hl : l.length = n := by rw [← length_ml]; exact hs.len
  have hl' : l'.length = n' := by rw [← length_ml]; exact hs'.len
  have hmax := hs.max
  have hle := hs.le
  have hle' := hs'.le
  have hmax' := hs'.max
  unfold maxLen at hmax hmax'
  obtain ⟨i0, hi, hz0, hz1, hz2⟩ := info_parts limbInfo
  go_enter Try.func62, Try.ntmps62
  go_wp2_with (at_make; refine wpList_make_full _ rfl _ _ 22 rfl w.heap.size 63 i0 (.int .u32 0) 1 Try.underlying22 hi hz0 hz1 _ _ ((n : Int) + (n' : Int)) ((n : Int) + (n' : Int)) (n + n') rfl rfl (by omega) (by omega) (by rw [hz2]; omega) (by unfold maxLen; omega) (Nat.le_refl _) ?_)
  intro w1 hown1 hgrow1
  have hbel1 : Below w.heap.size w w1 := (Below.refl _ _).grown hgrow1 (Nat.le_refl _) (by simp)
  rw [toList_madeCells_one, ml_zeros] at hown1
  clear hgrow1
  go_wp2
  go_loopw [19] (fun i wr => ∃ (t : Nat) (L : List Nat), t ≤ n ∧ i = .int .i64 t ∧ L.length = n + n' ∧ Hid (Prod L t n' (val (l.take t) * val l')) ∧ wr.ownsRow w.heap.size 63 1 (.slice (some ⟨w.heap.size, 0, none⟩) (n + n') (n + n')) (n + n') (ml L) ∧ Below w.heap.size w wr)
    (fun i _ => n - (intOf i).toNat)
  case atStart =>
    refine ⟨0, List.replicate (n + n') 0, Nat.zero_le _, rfl, by simp, Lib.hid ⟨ok_zeros _, by rw [val_zeros]; simp [val_nil], fun k _ => ?_⟩, hown1, hbel1⟩
    rw [List.getD_eq_getElem?_getD, List.getElem?_replicate]
    split <;> rfl
  case round =>
    obtain ⟨t, L, ht, rfl, hL, hv, hownr, hbel⟩ := hrel
    clear hown1 hbel1
    have hsz := hbel.size
    by_cases hlt : t < n
    · obtain ⟨x, hx⟩ : ∃ x, l.getD t 0 = x := ⟨_, rfl⟩
      have hxl : x < 4294967296 := by rw [← hx]; exact hok.getD t
      obtain ⟨b, off, rfl, hb, hc⟩ := (hs.below hbel).at_ hlt (.int .u32 0)
      rw [getD_ml l t (by omega), hx] at hc
      have HX := Lib.hid hx
      clear hx
      go_wp2
      go_loopw [8, 26] (fun cr i wr => ∃ (q C : Nat) (L2 : List Nat), q ≤ n' ∧ i = .int .i64 q ∧ cr = .int .u64 (C : Int) ∧ C < 4294967296 ∧ L2.length = n + n' ∧ Hid (Prod2 L2 t q n' C (val L) (4294967296 ^ t * x) (val (l'.take q))) ∧ wr.ownsRow w.heap.size 63 1 (.slice (some ⟨w.heap.size, 0, none⟩) (n + n') (n + n')) (n + n') (ml L2) ∧ Below w.heap.size w wr)
        (fun _ i _ => n' - (intOf i).toNat)
      case atStart => exact ⟨0, 0, L, Nat.zero_le _, rfl, rfl, by omega, hL, Lib.hid ⟨hv.out.1, by rw [List.take_zero, val_nil, Nat.mul_zero, Nat.mul_zero], hv.out.2.2⟩, hownr, hbel⟩
      case round =>
        rename_i wr0
        obtain ⟨q, C, L2, hq, rfl, rfl, hC, hL2, hv2, hownr2, hbel2⟩ := hrel
        clear hownr hbel hc hsz
        have hsz := hbel2.size
        by_cases hlq : q < n'
        · obtain ⟨y, hy⟩ : ∃ y, l'.getD q 0 = y := ⟨_, rfl⟩
          obtain ⟨o, ho⟩ : ∃ o, L2.getD (t + q) 0 = o := ⟨_, rfl⟩
          have hyl : y < 4294967296 := by rw [← hy]; exact hok'.getD q
          have hol : o < 4294967296 := by rw [← ho]; exact hv2.out.1.getD _
          obtain ⟨b', off', rfl, hb', hc'⟩ := (hs'.below hbel2).at_ hlq (.int .u32 0)
          rw [getD_ml l' q (by omega), hy] at hc'
          have hcell := hownr2.cellAt (t + q) (by omega)
          have hfr := hownr2.frozenAt (t + q)
          rw [ml_at L2 (t + q) (by omega), ho] at hcell
          obtain ⟨s, hs0⟩ : ∃ s, s = C + x * y + o := ⟨_, rfl⟩
          have hxy := mul_lt_of x y hxl hyl
          have h2 := (hownr2.stored (t + q) (.int .u32 ((s % 4294967296 : Nat) : Int))).1
          rw [ml_set] at h2
          have H2 := Lib.hid h2
          have HB := Lib.hid (hbel2.setCell (p := ⟨w.heap.size, t + q, none⟩) (Nat.le_refl _) (.int .u32 ((s % 4294967296 : Nat) : Int)))
          have HV := Lib.hid (prod_step hv2.out hlq (by omega) ho hy hs0)
          have hxyI : (x : Int) * (y : Int) ≤ 18446744065119617025 := by rw [← Int.natCast_mul]; omega
          have hxy0 : (0 : Int) ≤ (x : Int) * (y : Int) := by rw [← Int.natCast_mul]; omega
          have hsI : (s : Int) = C + (x : Int) * (y : Int) + o := by rw [← Int.natCast_mul]; omega
          clear h2 hv2 hy ho hs0 hxy hownr2
          go_wp2
          go_roundw
          case rel =>
            have e1 : ((C : Int) + ((x : Int) * (y : Int) + o)) / 4294967296 = ((s / 4294967296 : Nat) : Int) := by omega
            have e2 : ((C : Int) + ((x : Int) * (y : Int) + o)) % 4294967296 = ((s % 4294967296 : Nat) : Int) := by omega
            rw [e1, e2]
            exact ⟨q + 1, s / 4294967296, L2.set (t + q) (s % 4294967296), by omega, by go_num, rfl, by omega, by simp [hL2], HV, H2.out, HB.out⟩
          case measure => simp [intOf]; omega
        · obtain rfl : q = n' := by omega
          have hv3 := hv2.out
          rw [List.take_of_length_le (l := l') (by omega)] at hv3
          have HV := Lib.hid (prod_end hv.out hv3 (by omega) hC HX.out)
          have hcell := hownr2.cellAt (t + q) (by omega)
          have hfr := hownr2.frozenAt (t + q)
          rw [ml_at L2 (t + q) (by omega)] at hcell
          generalize L2.getD (t + q) 0 = o at hcell
          have h2 := (hownr2.stored (t + q) (.int .u32 (C : Int))).1
          rw [ml_set] at h2
          have H2 := Lib.hid h2
          have HB := Lib.hid (hbel2.setCell (p := ⟨w.heap.size, t + q, none⟩) (Nat.le_refl _) (.int .u32 (C : Int)))
          have hcl : (C : Int) % 4294967296 = C := by omega
          clear h2 hv2 hv3 hv hownr2
          go_wp2
          go_roundw
          case rel => exact ⟨t + 1, L2.set (t + q) C, by omega, by go_num, by simp [hL2], HV, H2.out, HB.out⟩
          case measure => simp [intOf]; omega
    · obtain rfl : t = n := by omega
      have hv1 := hv.out
      rw [List.take_of_length_le (l := l) (by omega)] at hv1
      have H2 := Lib.hid (Sl.of_own hownr)
      have HV := Lib.hid (show Ok L ∧ val L = val l * val l' from ⟨hv1.1, hv1.2.1⟩)
      clear hv hv1 hownr
      go_wp2_with fail
      refine (trim_any _ _ _ L _ H2.out HV.out.1).mono ?_
      rw [HV.out.2]
      rintro e w' ⟨hm, rfl⟩
      obtain ⟨A2, c2, rfl, hs2, _⟩ := hm
      go_wp2
      go_ret
      exact ⟨A2, c2, rfl, hs2, hbel⟩
end Go.Proofs.Ytebbpodcldndjaa
