/- Contracts: the specification's arithmetic with small numbers. -/
import Derived.Test.YtkcekimgfcdgbaaVk
set_option linter.unusedVariables false
namespace Go.Proofs.Ytkcekimgfcdgbaa
open Go.RowKit

set_option maxRecDepth 100000 in
set_option maxHeartbeats 1000000 in
theorem rLonger_any (A : Option Addr) (n c by_ more : Nat) (l : List Nat) (w : World) (hs : Sl w w.heap.size A n c (ml l)) (hok : Ok l) (hn : n ≤ 1048576) (hb : by_ ≤ 65536) (hm : more < 4294967296) :
    Calls Try.prog 77 #[.slice A n c, .int .u64 (by_ : Int), .int .u64 (more : Int)] w (Mag (enc (val l * by_ + more)) w) := by
  have hl : l.length = n := by rw [← length_ml]; exact hs.len
  have hmax := hs.max
  have hle := hs.le
  unfold maxLen at hmax
  have HL := Lib.hid hl
  clear hl
  obtain ⟨i0, hi, hz0, hz1, hz2⟩ := info_parts limbInfo
  go_enter Try.func77, Try.ntmps77
  go_wp2
  go_loopw [7, 8, 9] (fun v cr i wr => ∃ (t C : Nat) (o : List Nat), t ≤ n ∧ i = .int .i64 t ∧ cr = .int .u64 (C : Int) ∧ C < 4294967296 ∧ Hid (o.length = t) ∧ Hid (Ok o ∧ val o + 4294967296 ^ t * C = val (l.take t) * by_ + more) ∧ wr.ownsRow w.heap.size 63 1 v t (ml o) ∧ Below w.heap.size w wr)
    (fun _ _ i _ => n - (intOf i).toNat)
  case atStart => exact ⟨0, more, [], Nat.zero_le _, rfl, rfl, hm, Lib.hid rfl, Lib.hid ⟨Ok.nil, by simp [val_nil]⟩, World.ownsRow_nil _ _ _ _, Below.refl _ _⟩
  case round =>
    obtain ⟨t, C, o, ht, rfl, rfl, hC, hot, hv, hownr, hbel⟩ := hrel
    have hsz := hbel.size
    by_cases hlt : t < n
    · obtain ⟨x, hx⟩ : ∃ x, l.getD t 0 = x := ⟨_, rfl⟩
      have hxl : x < 4294967296 := by rw [← hx]; exact hok.getD t
      obtain ⟨bb, off, rfl, hbb, hc⟩ := (hs.below hbel).at_ hlt (.int .u32 0)
      rw [getD_ml l t (by rw [HL.out]; exact hlt), hx] at hc
      obtain ⟨p, hp0⟩ : ∃ p, x * by_ = p := ⟨_, rfl⟩
      have hpl : p ≤ 281474976710656 := by
        rw [← hp0]
        have : x * by_ ≤ 4294967296 * 65536 := Nat.mul_le_mul (by omega) hb
        omega
      have hpI : (x : Int) * (by_ : Int) = (p : Int) := by rw [← Int.natCast_mul, hp0]
      obtain ⟨s, hs0⟩ : ∃ s, s = C + p := ⟨_, rfl⟩
      have hsl : s < 18446744073709551616 := by omega
      have HV : Hid (Ok (o ++ [s % 4294967296]) ∧ val (o ++ [s % 4294967296]) + 4294967296 ^ (t + 1) * (s / 4294967296) = val (l.take (t + 1)) * by_ + more) :=
        Lib.hid ⟨hv.out.1.snoc (by omega), by rw [val_snoc, val_take, hx, hot.out, Nat.pow_succ]; exact step_lin hv.out.2 (by rw [hs0, hp0])⟩
      have E1 := Lib.hid (show ((p : Int) + C) / 4294967296 = ((s / 4294967296 : Nat) : Int) by omega)
      have E2 := Lib.hid (show ((p : Int) + C) % 4294967296 = ((s % 4294967296 : Nat) : Int) by omega)
      have HO := Lib.hid (show (o ++ [s % 4294967296]).length = t + 1 by rw [List.length_append, hot.out]; rfl)
      have hsC : s / 4294967296 < 4294967296 := by omega
      clear hv hx hp0 hs0 hot
      go_wp2_with (at_builtin; refine wpList_append_one rfl _ _ 22 rfl w.heap.size 63 i0 (.int .u32 0) 4 Try.underlying22 hi hz0 hz1 hz2 rfl _ _ _ rfl hownr _ _ rfl rfl (by unfold maxLen; omega) (by omega) w hbel (by omega) ?_)
      intro v' w2 hown' hbel'
      have hown2 : w2.ownsRow w.heap.size 63 1 v' (t + 1) (ml (o ++ [s % 4294967296])) := by
        rw [E2.out] at hown'
        rw [ml_append]
        exact hown'
      clear hown' hownr hbel
      go_wp2
      rw [E1.out]
      go_roundw
      case rel => exact ⟨t + 1, s / 4294967296, o ++ [s % 4294967296], by omega, by go_num, rfl, hsC, HO, HV, hown2, hbel'⟩
      case measure => simp [intOf]; omega
    · obtain rfl : n = t := by omega
      have hvl : val (o ++ [C]) = val l * by_ + more := by
        have h2 := hv.out.2
        rw [List.take_of_length_le (by rw [HL.out]; omega)] at h2
        rw [val_snoc, hot.out]
        exact h2
      have HOK := Lib.hid (hv.out.1.snoc hC)
      have HVL := Lib.hid hvl
      clear hv hvl
      go_wp2_with (at_builtin; refine wpList_append_one rfl _ _ 22 rfl w.heap.size 63 i0 (.int .u32 0) 4 Try.underlying22 hi hz0 hz1 hz2 rfl _ _ _ rfl hownr _ _ rfl rfl (by unfold maxLen; omega) (by omega) w hbel (by omega) ?_)
      intro v' w2 hown' hbel'
      have hown2 : w2.ownsRow w.heap.size 63 1 v' (n + 1) (ml (o ++ [C])) := by
        rw [ml_append]
        exact hown'
      obtain ⟨A2, c2, rfl⟩ := own_slice hown2
      have HT := Lib.hid (rTrim_any A2 (n + 1) c2 (o ++ [C]) w2 (Sl.of_own hown2) HOK.out (by omega))
      rw [HVL.out] at HT
      clear hown' hownr hbel hown2
      go_wp2_with fail
      refine HT.out.mono ?_
      rintro e w3 ⟨A3, c3, rfl, hs3, hb3⟩
      go_wp2
      go_ret
      exact ⟨A3, c3, rfl, hs3, below_step hbel' hb3⟩

/-- a call that returns limbs in new memory, and a number -/
def Mag2 (l : List Nat) (r : Nat) (w : World) (e : Ending) (w' : World) : Prop :=
  ∃ A c, e = .returned (.tuple #[.slice A l.length c, .int .u64 (r : Int)]) ∧ Sl w' w'.heap.size A l.length c (ml l) ∧ Below w.heap.size w w'
set_option maxRecDepth 100000 in
set_option maxHeartbeats 1000000 in
theorem rShort_any (A : Option Addr) (n c by_ : Nat) (l : List Nat) (w : World) (hs : Sl w w.heap.size A n c (ml l)) (hok : Ok l) (hn : n ≤ 1048576) (hb0 : 0 < by_) (hb : by_ ≤ 65536) :
    Calls Try.prog 81 #[.slice A n c, .int .u64 (by_ : Int)] w (Mag2 (enc (val l / by_)) (val l % by_) w) := by
  have hl : l.length = n := by rw [← length_ml]; exact hs.len
  have hmax := hs.max
  have hle := hs.le
  unfold maxLen at hmax
  obtain ⟨vq, hvq⟩ : ∃ v, val l / by_ = v := ⟨_, rfl⟩
  obtain ⟨vr, hvr⟩ : ∃ v, val l % by_ = v := ⟨_, rfl⟩
  rw [hvq, hvr]
  have HVQ := Lib.hid hvq
  have HVR := Lib.hid hvr
  have HL := Lib.hid hl
  have hz : (List.replicate n 0).length = n := List.length_replicate ..
  have HZ := Lib.hid hz
  clear hvq hvr hl hz
  have hbI0 : (0 : Int) < (by_ : Int) := by omega
  have hbI : (by_ : Int) ≤ 65536 := by omega
  have hbz : ((by_ : Int) == 0) = false := beq_eq_false_iff_ne.2 (by omega)
  obtain ⟨i0, hi, hz0, hz1, hz2⟩ := info_parts limbInfo
  go_enter Try.func81, Try.ntmps81
  go_wp2_with (at_make; refine wpList_make_full _ rfl _ _ 22 rfl w.heap.size 63 i0 (.int .u32 0) 1 Try.underlying22 hi hz0 hz1 _ _ (n : Int) (n : Int) n rfl rfl rfl rfl (by rw [hz2]; omega) (by unfold maxLen; omega) (Nat.le_refl _) ?_)
  intro w1 hown1 hgrow1
  have hbel1 : Below w.heap.size w w1 := (Below.refl _ _).grown hgrow1 (Nat.le_refl _) (by simp)
  rw [toList_madeCells_one, ml_zeros] at hown1
  clear hgrow1
  go_wp2
  go_loopw [7, 8] (fun r i wr => ∃ (k rest : Nat) (Q : List Nat), k ≤ n ∧ i = .int .i64 ((k : Int) - 1) ∧ r = .int .u64 (rest : Int) ∧ rest < by_ ∧ Hid (Dv l Q k by_ rest) ∧ wr.ownsRow w.heap.size 63 1 (.slice (some ⟨w.heap.size, 0, none⟩) n n) n (ml ((List.replicate n 0).take k ++ Q)) ∧ Below w.heap.size w wr)
    (fun _ i _ => (intOf i + 1).toNat)
  case atStart => exact ⟨n, 0, [], Nat.le_refl _, rfl, rfl, hb0, Lib.hid ⟨Ok.nil, by rw [HL.out]; simp, by rw [List.drop_of_length_le (by rw [HL.out]; omega)]; simp [val_nil]⟩, by rw [List.append_nil, List.take_of_length_le (by simp)]; exact hown1, hbel1⟩
  case round =>
    obtain ⟨k, rest, Q, hk, rfl, rfl, hr, hdv, hownr, hbel⟩ := hrel
    have hsz := hbel.size
    clear hown1 hbel1
    by_cases h0 : k = 0
    · subst h0
      have hd := hdv.out
      have hval : val Q * by_ + rest = val l := by simpa using hd.2.2
      have hq : val l / by_ = val Q := by
        rw [← hval, Nat.add_comm, Nat.add_mul_div_right _ _ hb0, Nat.div_eq_of_lt hr, Nat.zero_add]
      have hm : val l % by_ = rest := by
        rw [← hval, Nat.add_comm, Nat.add_mul_mod_self_right, Nat.mod_eq_of_lt hr]
      obtain rfl : vq = val Q := HVQ.out.symm.trans hq
      obtain rfl : vr = rest := HVR.out.symm.trans hm
      rw [List.take_zero, List.nil_append] at hownr
      have HT := Lib.hid (rTrim_any _ n n Q wr (Sl.of_own hownr) hd.1 (by omega))
      clear hd hval hq hm hdv hownr
      go_wp2_with fail
      refine HT.out.mono ?_
      rintro e w3 ⟨A3, c3, rfl, hs3, hb3⟩
      go_wp2
      go_ret2
      exact ⟨A3, c3, rfl, hs3, below_step hbel hb3⟩
    · obtain ⟨k, rfl⟩ : ∃ j, k = j + 1 := ⟨k - 1, by omega⟩
      have hk1 : (((k + 1 : Nat) : Int) - 1) = (k : Int) := by omega
      rw [hk1]
      obtain ⟨x, hx⟩ : ∃ x, l.getD k 0 = x := ⟨_, rfl⟩
      have hxl : x < 4294967296 := by rw [← hx]; exact hok.getD k
      obtain ⟨v, hv0⟩ : ∃ v, v = x + 4294967296 * rest := ⟨_, rfl⟩
      have hrl : rest < 65536 := by omega
      obtain ⟨hq1, hdv'⟩ := div_step hdv.out (by rw [HL.out]; omega) hx hxl hr hv0
      have HD := Lib.hid hdv'
      have hr2 : v % by_ < by_ := Nat.mod_lt _ hb0
      obtain ⟨bb, off, rfl, hbb, hc⟩ := (hs.below hbel).at_ (show k < n by omega) (.int .u32 0)
      rw [getD_ml l k (by rw [HL.out]; omega), hx] at hc
      have hcell2 := hownr.cellAt k (by omega)
      have hfr2 := hownr.frozenAt k
      rw [ml_at _ k (by rw [List.length_append, List.length_take, List.length_replicate]; omega)] at hcell2
      generalize ((List.replicate n 0).take (k + 1) ++ Q).getD k 0 = xx at hcell2
      have h2 := (hownr.stored k (.int .u32 ((v / by_ : Nat) : Int))).1
      rw [ml_set, set_mid (List.replicate n 0) Q k _ (by rw [List.length_replicate]; omega)] at h2
      have H2 := Lib.hid h2
      have HB := Lib.hid (hbel.setCell (p := ⟨w.heap.size, k, none⟩) (Nat.le_refl _) (.int .u32 ((v / by_ : Nat) : Int)))
      have hvI : (rest : Int) * 4294967296 + (x : Int) = (v : Int) := by omega
      have e1 : (v : Int) % (by_ : Int) = ((v % by_ : Nat) : Int) := by rw [← Int.natCast_emod]
      have e2 : (v : Int) / (by_ : Int) = ((v / by_ : Nat) : Int) := by rw [← Int.natCast_ediv]
      have HX := Lib.hid hx
      clear h2 hownr hbel hdv hdv' hx hv0
      generalize v % by_ = vm at *
      generalize v / by_ = vd at *
      go_wp2
      have e3 : (v : Int) / (by_ : Int) % 4294967296 = (vd : Int) := by rw [e2]; omega
      go_roundw
      case rel =>
        rw [e1]
        refine ⟨k, vm, vd :: Q, by omega, rfl, rfl, hr2, HD, ?_, ?_⟩
        · first | exact H2.out | (rw [e3]; exact H2.out) | (rw [e2]; exact H2.out)
        · first | exact HB.out | (rw [e3]; exact HB.out) | (rw [e2]; exact HB.out)
      case measure => simp [intOf]
end Go.Proofs.Ytkcekimgfcdgbaa
