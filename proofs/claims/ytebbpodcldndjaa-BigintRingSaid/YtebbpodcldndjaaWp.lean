/- Contracts: join, limbAt, lowPair; a limb's division. -/
import Derived.Test.YtebbpodcldndjaaWk
import Derived.Laws.Bits64b
set_option linter.unusedVariables false
namespace Go.Proofs.Ytebbpodcldndjaa
open Go.RowKit

theorem or_high (h lo : Nat) (hh : h < 4294967296) (hl : lo < 4294967296) : bits BinOp.or IntKind.u64 ((h : Int) * 4294967296) (lo : Int) = ((lo + 4294967296 * h : Nat) : Int) := by
  have e : ((h : Int) * 4294967296) = ((4294967296 * h : Nat) : Int) := by omega
  rw [e, bits_or_u64_nat _ _ (by omega) (by omega)]
  congr 1
  have := Nat.two_pow_add_eq_or_of_lt (i := 32) (b := lo) hl h
  rw [show (2 : Nat) ^ 32 = 4294967296 by decide] at this
  omega

set_option maxRecDepth 100000 in
theorem join_any (lo h : Nat) (w : World) (hl : lo < 4294967296) (hh : h < 4294967296) :
    Calls Try.prog 71 #[.agg #[.int .u32 (lo : Int), .int .u32 (h : Int)]] w fun e w' => e = .returned (.int .u64 ((lo + 4294967296 * h : Nat) : Int)) ∧ Below w.heap.size w w' := by
  have ho := or_high h lo hh hl
  have hb1 : (h : Int) * 4294967296 < 18446744073709551616 := by omega
  go_enter Try.func71, Try.ntmps71
  go_wp2
  go_ret
  exact ⟨retI (by omega), below_new _ _⟩

set_option maxRecDepth 100000 in
theorem limbAt_any (A : Option Addr) (n c : Nat) (l : List Nat) (k : Nat) (w : World) (hs : Sl w w.heap.size A n c (ml l)) (hok : Ok l) :
    Calls Try.prog 105 #[.slice A n c, .int .i64 (k : Int)] w fun e w' => e = .returned (.int .u32 ((l.getD k 0 : Nat) : Int)) ∧ w = w' := by
  have hl : l.length = n := by rw [← length_ml]; exact hs.len
  have hmax := hs.max
  have hle := hs.le
  unfold maxLen at hmax
  by_cases h : k < n
  · obtain ⟨b, off, rfl, hb, hc⟩ := hs.at_ h (.int .u32 0)
    rw [getD_ml l k (by omega)] at hc
    generalize l.getD k 0 = x at *
    go_enter Try.func105, Try.ntmps105
    go_wp2
    go_ret
    exact ⟨rfl, rfl⟩
  · have hx : l.getD k 0 = 0 := getD_end l k (by omega)
    rw [hx]
    go_enter Try.func105, Try.ntmps105
    go_wp2
    go_ret
    exact ⟨rfl, rfl⟩

/-- the prefix of a row of the call's own -/
theorem own_pre {w : World} {base : Nat} {e : TypeId} {A : Option Addr} {n c k : Nat} {xs : List Value} (h : w.ownsRow base e 1 (.slice A n c) n xs) (hk : k ≤ n) (h0 : 0 < k) : w.ownsRow base e 1 (.slice A k c) k (xs.take k) := by
  obtain ⟨hl, h2⟩ := h
  rcases h2 with ⟨hv, rfl⟩ | ⟨g, cap, cur, hv, hb, hg, hnc, hcm, hcs, ht⟩
  · simp at hl; omega
  · injection hv with h1 h2 h3
    subst h1 h3
    refine ⟨by rw [List.length_take]; omega, .inr ⟨g, _, cur, rfl, hb, hg, by omega, hcm, hcs, ?_⟩⟩
    rw [Nat.mul_one] at ht ⊢
    rw [← ht, List.take_take, Nat.min_eq_left hk]

/-- trim, of limbs of the call's own -/
theorem trim_own (base : Nat) (A : Option Addr) (n c : Nat) (l : List Nat) (w : World) (hown : w.ownsRow base 63 1 (.slice A n c) n (ml l)) (hok : Ok l) :
    Calls Try.prog 74 #[.slice A n c] w (fun e w' => ∃ A' c', e = .returned (.slice A' (enc (val l)).length c') ∧ w'.ownsRow base 63 1 (.slice A' (enc (val l)).length c') (enc (val l)).length (ml (enc (val l))) ∧ w = w' ∧ (A' = none ∨ A' = A)) := by
  have hs := Sl.of_own hown
  have hl : l.length = n := by rw [← length_ml]; exact hs.len
  have hmax := hs.max
  have hle := hs.le
  unfold maxLen at hmax
  have HO := Lib.hid hown
  clear hown
  go_enter Try.func74, Try.ntmps74
  go_wp2
  go_loop [3] (fun i => ∃ k : Nat, k ≤ n ∧ i = .int .i64 k ∧ Hid (val (l.take k) = val l)) (fun i => (intOf i).toNat)
  case atStart => exact ⟨n, Nat.le_refl _, rfl, Lib.hid (by rw [List.take_of_length_le (by omega)])⟩
  case round =>
    obtain ⟨k, hk, rfl, hv⟩ := hrel
    by_cases h0 : k = 0
    · subst h0
      have he := Lib.hid (enc_cut l 0 hok (by omega) hv.out (.inl rfl))
      go_wp2
      go_ret
      have hlen : (enc (val l)).length = 0 := by rw [he.out]; rfl
      refine ⟨none, 0, ?_, ?_, rfl, .inl rfl⟩
      · rw [hlen]; rfl
      · rw [hlen, he.out]; exact World.ownsRow_nil _ _ _ _
    obtain ⟨k, rfl⟩ : ∃ j, k = j + 1 := ⟨k - 1, by omega⟩
    have HP := Lib.hid (own_pre HO.out hk (by omega))
    obtain ⟨b, off, rfl, hb, hc⟩ := hs.at_ (show k < n by omega) (.int .u32 0)
    rw [getD_ml l k (by omega)] at hc
    by_cases hx : l.getD k 0 = 0
    · have hv' : Hid (val (l.take k) = val l) := Lib.hid (by rw [← hv.out, val_take, hx]; simp)
      rw [hx] at hc
      clear hv
      go_wp2
      go_round
      case rel => exact ⟨k, by omega, by go_num, hv'⟩
      case measure => simp [intOf]
    · have he := Lib.hid (enc_cut l (k + 1) hok (by omega) hv.out (.inr (by rw [Nat.add_sub_cancel]; exact hx)))
      have hx' : (((l.getD k 0 : Nat) : Int) == 0) = false := natB (b := 0) hx
      generalize l.getD k 0 = x at *
      clear hv
      go_wp2
      go_ret
      have hlen : (enc (val l)).length = k + 1 := by rw [he.out, List.length_take]; omega
      have hP := HP.out
      rw [take_ml, ← he.out] at hP
      refine ⟨_, _, by rw [hlen]; rfl, by rw [hlen]; exact hP, rfl, .inr rfl⟩
end Go.Proofs.Ytebbpodcldndjaa
