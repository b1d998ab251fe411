/- Contracts: multiplyAdd. -/
import Derived.Test.YtebbpodcldndjaaWq
import Derived.Test.YtebbpodcldndjaaPure2
set_option linter.unusedVariables false
namespace Go.Proofs.Ytebbpodcldndjaa
open Go.RowKit

/-- what a product by a limb has made: the low limbs are the product's, the others as they were -/
def Ma (l Q : List Nat) (t C by_ plus : Nat) : Prop := Ok Q ∧ Q.length = t ∧ C < 4294967296 ∧ val Q + 4294967296 ^ t * C = val (l.take t) * by_ + plus
theorem ma_step {l Q : List Nat} {t C by_ plus x s : Nat} (h : Ma l Q t C by_ plus) (hx : l.getD t 0 = x) (hxl : x < 4294967296) (hb : by_ < 4294967296) (hs : s = C + x * by_) : Ma l (Q ++ [s % 4294967296]) (t + 1) (s / 4294967296) by_ plus := by
  have hxy := mul_lt_of x by_ hxl hb
  refine ⟨h.1.snoc (Nat.mod_lt _ (by decide)), by rw [List.length_append, h.2.1]; rfl, by have := h.2.2.1; omega, ?_⟩
  rw [val_snoc, h.2.1, val_take, hx, Nat.pow_succ]
  exact step_lin h.2.2.2 hs
theorem set_low (l Q : List Nat) (t y : Nat) (hq : Q.length = t) (h : t < l.length) : (Q ++ l.drop t).set t y = (Q ++ [y]) ++ l.drop (t + 1) := by
  rw [drop_cons l t h, List.set_append_right _ _ (by omega), hq, Nat.sub_self]
  simp
theorem getD_low (l Q : List Nat) (t : Nat) (hq : Q.length = t) (h : t < l.length) : (Q ++ l.drop t).getD t 0 = l.getD t 0 := by
  rw [drop_cons l t h, List.getD_eq_getElem?_getD, List.getElem?_append_right (by omega), hq, Nat.sub_self]
  simp
theorem enc_full (L : List Nat) (h : Ok L) (ht : L.length = 0 ∨ 4294967296 ^ (L.length - 1) ≤ val L) : enc (val L) = L := by
  refine enc_val L h ?_
  rcases ht with ht | ht
  · exact .inl (List.eq_nil_of_length_eq_zero ht)
  · by_cases h0 : L.length = 0
    · exact .inl (List.eq_nil_of_length_eq_zero h0)
    refine .inr fun e => ?_
    obtain ⟨k, hk⟩ : ∃ k, L.length = k + 1 := ⟨L.length - 1, by omega⟩
    rw [hk, Nat.add_sub_cancel] at ht e
    have h1 := val_take L k
    rw [e, List.take_of_length_le (by omega), Nat.mul_zero, Nat.add_zero] at h1
    have h2 := val_lt (L.take k) (h.take k)
    rw [List.length_take, Nat.min_eq_left (by omega)] at h2
    omega
theorem enc_ge {v n : Nat} (h : (enc v).length = n) (h0 : n ≠ 0) : 4294967296 ^ (n - 1) ≤ v := by
  have := (length_enc_le v (n - 1))
  have h1 : ¬ (enc v).length ≤ n - 1 := by omega
  rw [this] at h1
  omega
theorem ma_end {v : Nat} {Q : List Nat} {n C by_ plus : Nat} (h : Ma (enc v) Q n C by_ plus) (hn : (enc v).length = n) (hb : 1 ≤ by_) :
    (C = 0 → enc (v * by_ + plus) = Q) ∧ (C ≠ 0 → enc (v * by_ + plus) = Q ++ [C]) := by
  obtain ⟨h1, h2, h3, h4⟩ := h
  rw [List.take_of_length_le (by omega), val_enc] at h4
  constructor
  · rintro rfl
    rw [Nat.mul_zero, Nat.add_zero] at h4
    rw [← h4]
    refine enc_full Q h1 ?_
    by_cases h0 : n = 0
    · exact .inl (by omega)
    · refine .inr ?_
      rw [h2, h4]
      have := enc_ge hn h0
      have h5 : v * 1 ≤ v * by_ := Nat.mul_le_mul_left _ hb
      omega
  · intro hC
    rw [← h4]
    have := enc_val (Q ++ [C]) (h1.snoc h3) (.inr (by simp [hC]))
    rwa [val_snoc, h2] at this

/-- a call that returns limbs in memory of the call's own -/
def OwnM (base : Nat) (l : List Nat) (w : World) (e : Ending) (w' : World) : Prop :=
  ∃ A c, e = .returned (.slice A l.length c) ∧ w'.ownsRow base 63 1 (.slice A l.length c) l.length (ml l) ∧ Below base w w'
theorem own_some {w : World} {base : Nat} {e : TypeId} {A : Option Addr} {n c : Nat} {xs : List Value} (h : w.ownsRow base e 1 (.slice A n c) n xs) (h0 : 0 < n) : ∃ g, A = some ⟨g, 0, none⟩ ∧ base ≤ g ∧ g < w.heap.size := by
  rcases h.2 with ⟨hv, hx⟩ | ⟨g, cap, cur, hv, hb, hg, _⟩
  · injection hv with _ h2 _; omega
  · injection hv with h1 _ _
    exact ⟨g, h1, hb, (Array.getElem?_eq_some_iff.1 hg).1⟩

set_option maxRecDepth 100000 in
set_option maxHeartbeats 1000000 in
theorem multiplyAdd_own (base : Nat) (A : Option Addr) (n c by_ plus v : Nat) (w : World) (hown : w.ownsRow base 63 1 (.slice A n c) n (ml (enc v))) (hb0 : 1 ≤ by_) (hb1 : by_ < 4294967296) (hp : plus < 4294967296) (hbase : base ≤ w.heap.size) (hn : n ≤ 1048576) :
    Calls Try.prog 76 #[.slice A n c, .int .u32 (by_ : Int), .int .u32 (plus : Int)] w (OwnM base (enc (v * by_ + plus)) w) := by
  have hs := Sl.of_own hown
  have hl : (enc v).length = n := by rw [← length_ml]; exact hs.len
  have hmax := hs.max
  have hle := hs.le
  unfold maxLen at hmax
  obtain ⟨i0, hi, hz0, hz1, hz2⟩ := info_parts limbInfo
  obtain ⟨r, hr⟩ : ∃ r, enc (v * by_ + plus) = r := ⟨_, rfl⟩
  have HRR := Lib.hid hr
  rw [hr]
  clear hr hs
  have HL := Lib.hid hl
  clear hl
  go_enter Try.func76, Try.ntmps76
  go_wp2
  go_loopw [7, 14] (fun cr i wr => ∃ (t C : Nat) (Q : List Nat), t ≤ n ∧ i = .int .i64 t ∧ cr = .int .u64 (C : Int) ∧ C < 4294967296 ∧ Hid (Ma (enc v) Q t C by_ plus) ∧ wr.ownsRow base 63 1 (.slice A n c) n (ml (Q ++ (enc v).drop t)) ∧ Below base w wr)
    (fun _ i _ => n - (intOf i).toNat)
  case atStart => exact ⟨0, plus, [], Nat.zero_le _, rfl, rfl, hp, Lib.hid ⟨Ok.nil, rfl, hp, by simp [val_nil]⟩, by simpa using hown, Below.refl _ _⟩
  case round =>
    obtain ⟨t, C, Q, ht, rfl, rfl, hC, hma, hownr, hbel⟩ := hrel
    clear hown
    have hsz := hbel.size
    by_cases hlt : t < n
    · obtain ⟨g, rfl, hbg, hgl⟩ := own_some hownr (by omega)
      obtain ⟨x, hx⟩ : ∃ x, (enc v).getD t 0 = x := ⟨_, rfl⟩
      have hxl : x < 4294967296 := by rw [← hx]; exact (ok_enc v).getD t
      obtain ⟨s, hs0⟩ : ∃ s, s = C + x * by_ := ⟨_, rfl⟩
      have hq := hma.out.2.1
      have hll := HL.out
      have HM := Lib.hid (ma_step hma.out hx hxl hb1 hs0)
      have hcell := hownr.cellAt t (by omega)
      have hfr := hownr.frozenAt t
      rw [ml_at _ t (by rw [List.length_append, List.length_drop]; omega), getD_low _ Q t hq (by omega), hx] at hcell
      have hxy := mul_lt_of x by_ hxl hb1
      have h2 := (hownr.stored t (.int .u32 ((s % 4294967296 : Nat) : Int))).1
      rw [ml_set, set_low _ Q t _ hq (by omega)] at h2
      have H2 := Lib.hid h2
      have HB := Lib.hid (hbel.setCell (p := ⟨g, t, none⟩) hbg (.int .u32 ((s % 4294967296 : Nat) : Int)))
      have hxyI : (x : Int) * (by_ : Int) ≤ 18446744065119617025 := by rw [← Int.natCast_mul]; omega
      have hxy0 : (0 : Int) ≤ (x : Int) * (by_ : Int) := by rw [← Int.natCast_mul]; omega
      have hsI : (s : Int) = C + (x : Int) * (by_ : Int) := by rw [← Int.natCast_mul]; omega
      have hsl : s < 18446744073709551616 := by omega
      clear h2 hma hq hll hx hs0 hxy hownr hbel
      go_wp2
      go_roundw
      case rel =>
        have e1 : ((C : Int) + (x : Int) * (by_ : Int)) / 4294967296 = ((s / 4294967296 : Nat) : Int) := by omega
        have e2 : ((C : Int) + (x : Int) * (by_ : Int)) % 4294967296 = ((s % 4294967296 : Nat) : Int) := by omega
        rw [e1, e2]
        exact ⟨t + 1, s / 4294967296, Q ++ [s % 4294967296], by omega, by go_num, rfl, by omega, HM, H2.out, HB.out⟩
      case measure => simp [intOf]; omega
    · obtain rfl : t = n := by omega
      have he := ma_end hma.out HL.out hb0
      have hq := hma.out.2.1
      rw [HRR.out] at he
      rw [List.drop_of_length_le (by rw [HL.out]; omega), List.append_nil] at hownr
      clear hma HRR
      by_cases h0 : C = 0
      · have HE := Lib.hid (he.1 h0)
        have hC0 : (C : Int) ≤ 0 := by omega
        clear h0
        have HO := Lib.hid hownr
        have HQ := Lib.hid hq
        clear hownr he hq
        go_wp2
        go_ret
        have hlen : r.length = t := by rw [HE.out]; exact HQ.out
        exact ⟨A, c, by rw [hlen]; rfl, by rw [hlen, HE.out]; exact HO.out, hbel⟩
      · have HE := Lib.hid (he.2 h0)
        have hCp : (0 : Int) < (C : Int) := by omega
        have HQ := Lib.hid hq
        clear he hq
        go_wp2_with (at_builtin; refine wpList_append_one rfl _ _ 22 rfl base 63 i0 (.int .u32 0) 4 Try.underlying22 hi hz0 hz1 hz2 rfl _ _ _ rfl hownr _ _ rfl rfl (by unfold maxLen; omega) (by omega) w hbel (by omega) ?_)
        intro v' w2 hown' hbel'
        obtain ⟨A2, c2, rfl⟩ := own_slice hown'
        have HO := Lib.hid hown'
        clear hown' hownr hbel
        go_wp2
        go_ret
        have hlen : r.length = t + 1 := by rw [HE.out, List.length_append, HQ.out]; rfl
        have hC1 : (C : Int) % 4294967296 = C := by omega
        have hO := HO.out
        refine ⟨A2, c2, by rw [hlen]; rfl, ?_, hbel'⟩
        rw [hlen, HE.out]
        simpa [ml, hC1] using hO
end Go.Proofs.Ytebbpodcldndjaa
