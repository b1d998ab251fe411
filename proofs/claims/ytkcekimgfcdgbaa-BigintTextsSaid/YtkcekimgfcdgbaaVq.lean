/- Contracts: the specification's Format. -/
import Derived.Test.YtkcekimgfcdgbaaVm
set_option linter.unusedVariables false
namespace Go.Proofs.Ytkcekimgfcdgbaa
open Go.RowKit

theorem at_byl {w : World} {B : Nat} {A : Option Addr} {n c : Nat} {l : List Nat} (h : Sl w B A n c (byl l)) {k : Nat} (hk : k < n) : ∃ b off, A = some ⟨b, off, none⟩ ∧ b < B ∧ w.cell? ⟨b, off + k, none⟩ = some (.int .u8 ((l.getD k 0 : Nat) : Int)) := by
  have hl : l.length = n := by have := h.len; simpa [byl] using this
  obtain ⟨b, off, e, hb, hc⟩ := h.at_ hk (.int .u8 0)
  refine ⟨b, off, e, hb, ?_⟩
  rw [hc]
  simp [byl, List.getD, show k < l.length by omega]
theorem byl_append (a b : List Nat) : byl (a ++ b) = byl a ++ byl b := by simp [byl]
theorem chs_len (l : List Nat) : (chs l).length = l.length := by simp [chs]

set_option maxRecDepth 100000 in
set_option maxHeartbeats 4000000 in
theorem rFormat_any (neg : Bool) (A : Option Addr) (n c v : Nat) (w : World) (hs : Sl w w.heap.size A n c (ml (enc v))) (hva : Vd neg v) :
    Calls Try.prog 42 #[.agg #[.bool neg, .slice A n c]] w fun e w' => e = .returned (.string (str (fmtS neg v))) ∧ Below w.heap.size w w' := by
  have hl : (enc v).length = n := by rw [← length_ml]; exact hs.len
  have hn : n ≤ 512 := by rw [← hl]; exact hva.2
  obtain ⟨i0, hi, hz0, hz1, hz2⟩ := info_parts byteInfo
  have HA := At.new w (.bool neg) (.slice A n c)
  have hb0 := below_new w (.cells #[.bool neg, .slice A n c] 24)
  have h1 := hs.next hb0
  have HNL := Lib.hid hl
  have HDB := Lib.hid (digs_bound 10 v (by omega) hva.2)
  have HV := Lib.hid hva
  obtain ⟨K, hK⟩ : ∃ K, (digs 10 v).length = K := ⟨_, rfl⟩
  rw [hK] at HDB
  have HK := Lib.hid hK
  have hKb := HDB.out
  clear hs hl hK HDB
  go_enter Try.func42, Try.ntmps42
  go_wp2_with fail
  refine (rValid_true hva h1).mono ?_
  rintro e w1 ⟨rfl, hb1⟩
  have HA1 := HA.next hb1
  obtain ⟨a1, a2, _, _⟩ := HA1.facts
  have HB1 := below_step hb0 hb1
  have hs1 := h1.next hb1
  have hg1 := HA1.lt
  obtain ⟨B1, hB1⟩ : ∃ B1, w1.heap.size = B1 := ⟨_, rfl⟩
  have hwB1 : w.heap.size < B1 := by omega
  have hB11 : B1 ≤ w1.heap.size := by omega
  clear h1 hb1 hb0 HA hva hB1 hg1
  go_wp2
  go_loopw [3, 4, 5, 6] (fun out mag q9 d9 wr => ∃ (t m nm co cm : Nat) (Ao Am : Option Addr) (L : List Nat), out = .slice Ao t co ∧ mag = .slice Am nm cm ∧ t ≤ K ∧ nm ≤ 512 ∧ Hid ((enc m).length = nm) ∧ Hid (L.length = t ∧ L = (digs 10 v).take t ∧ m = v / 10 ^ t) ∧
      wr.ownsRow B1 5 1 (.slice Ao t co) t (byl (chs L)) ∧ Sl wr wr.heap.size Am nm cm (ml (enc m)) ∧ Hid (0 < nm → Apart Am (.slice Ao t co)) ∧ Below B1 w1 wr ∧ B1 ≤ wr.heap.size)
    (fun out _ _ _ _ => K + 1 - lenOf out)
  case atStart => exact ⟨0, v, n, 0, c, none, A, [], rfl, rfl, by omega, by omega, HNL, Lib.hid ⟨rfl, by simp, by simp⟩, World.ownsRow_nil _ _ _ _, hs1, Lib.hid fun _ => Apart.nil _, Below.refl _ _, hB11⟩
  case round =>
    obtain ⟨t, m, nm, co, cm, Ao, Am, L, rfl, rfl, ht, hnm, hem, hL, hoo, hsm, hap, hbel, hB1r⟩ := hrel
    clear hs1 a1 a2
    have hsz := hbel.size
    by_cases hz : nm = 0
    · subst hz
      have hm0 := enc_eq_nil hem.out
      have hLd := digs_done (by omega) hL.out.2.1 (by rw [← hm0]; exact hL.out.2.2)
      have hlen := hL.out.1
      have HBr := HB1.trans (hbel.mono (by omega))
      by_cases ht0 : t = 0
      · subst ht0
        have hL0 := List.eq_nil_of_length_eq_zero hlen
        have hv0 : v = 0 := digs_eq_nil (b := 10) (by omega) (by rw [← hLd, hL0])
        have hng : neg = false := by cases neg with | false => rfl | true => exact absurd hv0 (HV.out.1 rfl)
        have HD : Hid (str (fmtS neg v) = { data := #[48] }) := by show _ = _; subst hv0 hng; rfl
        clear hLd hlen hm0 hL hem hsm hap hoo hL0 hv0 hng hbel HB1
        go_wp2
        go_ret
        rw [HD.out]
        exact ⟨rfl, HBr⟩
      · have hv0 : v ≠ 0 := by
          rintro rfl
          rw [digs_zero] at hLd
          rw [hLd] at hlen
          exact ht0 hlen.symm
        have htI : (0 : Int) < (t : Int) := by omega
        have htB : ((t : Int) == 0) = false := by rw [beq_eq_false_iff_ne]; omega
        have HF : Hid (fmtS neg v = (if neg then [45] else []) ++ (chs L).reverse) := by show _ = _; unfold fmtS; rw [if_neg hv0, ← hLd, chs_reverse]
        have hcl : (chs L).length = t := by rw [chs_len, hlen]
        have HCL := Lib.hid hcl
        obtain ⟨a1, a2, _, _⟩ := (HA1.below hbel hwB1).facts
        clear hLd hlen hm0 hL hem hsm hap hv0 hcl HA1
        cases neg
        case false =>
          have HP : Hid ((chs L).reverse = fmtS false v) := by show _ = _; rw [HF.out]; rfl
          generalize chs L = P at *
          have hst := Sl.of_own hoo
          obtain ⟨wL, hwL⟩ : ∃ wL, wL = wr := ⟨_, rfl⟩
          subst hwL
          obtain ⟨B3, hB3⟩ : ∃ B3, wL.heap.size = B3 := ⟨_, rfl⟩
          rw [hB3] at hst
          have hB3s : w.heap.size ≤ B3 := by omega
          have hB3L : B3 ≤ wL.heap.size := by omega
          clear hB3 hoo
          go_wp2
          go_loopw [7, 8] (fun o i W => ∃ (k co2 : Nat) (A2 : Option Addr), k ≤ t ∧ i = .int .i64 ((k : Int) - 1) ∧ o = .slice A2 (t - k) co2 ∧ W.ownsRow B3 5 1 (.slice A2 (t - k) co2) (t - k) (byl (P.drop k).reverse) ∧ Below B3 wL W ∧ B3 ≤ W.heap.size)
            (fun _ i _ => (intOf i + 1).toNat)
          case atStart => exact ⟨t, 0, none, Nat.le_refl _, by first | rfl | go_num, by rw [Nat.sub_self], by rw [Nat.sub_self, List.drop_of_length_le (by rw [HCL.out]; omega)]; exact World.ownsRow_nil _ _ _ _, Below.refl _ _, hB3L⟩
          case round =>
            obtain ⟨k, co2, A2, hk, rfl, rfl, ho2, hb2', hB2W⟩ := hrel
            by_cases hk0 : k = 0
            · subst hk0
              rw [List.drop_zero, Nat.sub_zero] at ho2
              have hconv := conv_sl _ (Sl.of_own ho2)
              have HBE := HBr.trans (hb2'.mono hB3s)
              clear ho2
              go_wp2
              go_ret
              exact ⟨by rw [← HP.out]; rfl, HBE⟩
            · obtain ⟨k, rfl⟩ : ∃ j, k = j + 1 := ⟨k - 1, by omega⟩
              have hk1 : (((k + 1 : Nat) : Int) - 1) = (k : Int) := by omega
              rw [hk1]
              obtain ⟨bb, off, rfl, hbb, hc⟩ := at_byl (hst.below hb2') (show k < t by omega)
              have hrs := rev_step P k (by rw [HCL.out]; omega)
              obtain ⟨d, hd⟩ : ∃ d, P.getD k 0 = d := ⟨_, rfl⟩
              rw [hd] at hrs hc
              have HRS := Lib.hid hrs
              have htk : t - (k + 1) + 1 = t - k := by omega
              clear hrs hd
              go_wp2_with (at_builtin; refine wpList_append_one rfl _ _ 76 rfl B3 5 i0 (.int .u8 0) 1 Try.underlying76 hi hz0 hz1 hz2 rfl _ _ _ rfl ho2 _ _ rfl rfl (by unfold maxLen; omega) (by omega) wL hb2' (by omega) ?_)
              intro v' w2 hown' hbel'
              obtain ⟨A4, c4, rfl⟩ := own_slice hown'
              try rw [htk] at hown'
              have hown2 : Hid (w2.ownsRow B3 5 1 (.slice A4 (t - k) c4) (t - k) (byl (P.drop k).reverse)) := by
                show World.ownsRow _ _ _ _ _ _ _
                rw [← HRS.out, byl_append]
                exact hown'
              have hB24 : B3 ≤ w2.heap.size := by have := hbel'.size; omega
              try rw [htk]
              clear hown' ho2 hb2'
              go_wp2
              go_roundw
              case rel => exact ⟨k, c4, A4, by omega, rfl, rfl, hown2.out, hbel', hB24⟩
              case measure => simp [intOf]
        case true =>
          have HP : Hid ((chs L ++ [45]).reverse = fmtS true v) := by show _ = _; rw [HF.out]; simp
          have HCM : Hid ((chs L ++ [45]).length = t + 1) := by show _ = _; rw [List.length_append, HCL.out]; rfl
          go_wp2_with (at_builtin; refine wpList_append_one rfl _ _ 76 rfl B1 5 i0 (.int .u8 0) 1 Try.underlying76 hi hz0 hz1 hz2 rfl _ _ _ rfl hoo _ _ rfl rfl (by unfold maxLen; omega) (by omega) _ (Below.refl _ _) (by omega) ?_)
          intro v' w5 hown' hbel5
          obtain ⟨A5, c5, rfl⟩ := own_slice hown'
          have ho5 : w5.ownsRow B1 5 1 (.slice A5 (t + 1) c5) (t + 1) (byl (chs L ++ [45])) := by
            rw [byl_append]
            exact hown'
          have HB5 := HBr.trans (hbel5.mono (by omega))
          have hB5s : B1 ≤ w5.heap.size := by have := hbel5.size; omega
          clear hown' hoo HBr hbel hbel5 HCL HF a1 a2
          have HCL := HCM
          generalize chs L ++ [45] = P at *
          obtain ⟨T, hT⟩ : ∃ T, t + 1 = T := ⟨_, rfl⟩
          have hTK : T ≤ 16385 := by omega
          rw [hT] at ho5 HCL ⊢
          have hst := Sl.of_own ho5
          have HBr := HB5
          clear hT HCM
          obtain ⟨B3, hB3⟩ : ∃ B3, w5.heap.size = B3 := ⟨_, rfl⟩
          rw [hB3] at hst
          have hB3s : w.heap.size ≤ B3 := by omega
          have hB3L : B3 ≤ w5.heap.size := by omega
          clear hB3 ho5
          go_wp2
          go_loopw [7, 8] (fun o i W => ∃ (k co2 : Nat) (A2 : Option Addr), k ≤ T ∧ i = .int .i64 ((k : Int) - 1) ∧ o = .slice A2 (T - k) co2 ∧ W.ownsRow B3 5 1 (.slice A2 (T - k) co2) (T - k) (byl (P.drop k).reverse) ∧ Below B3 w5 W ∧ B3 ≤ W.heap.size)
            (fun _ i _ => (intOf i + 1).toNat)
          case atStart => exact ⟨T, 0, none, Nat.le_refl _, by first | rfl | go_num, by rw [Nat.sub_self], by rw [Nat.sub_self, List.drop_of_length_le (by rw [HCL.out]; omega)]; exact World.ownsRow_nil _ _ _ _, Below.refl _ _, hB3L⟩
          case round =>
            obtain ⟨k, co2, A2, hk, rfl, rfl, ho2, hb2', hB2W⟩ := hrel
            by_cases hk0 : k = 0
            · subst hk0
              rw [List.drop_zero, Nat.sub_zero] at ho2
              have hconv := conv_sl _ (Sl.of_own ho2)
              have HBE := HBr.trans (hb2'.mono hB3s)
              clear ho2
              go_wp2
              go_ret
              exact ⟨by rw [← HP.out]; rfl, HBE⟩
            · obtain ⟨k, rfl⟩ : ∃ j, k = j + 1 := ⟨k - 1, by omega⟩
              have hk1 : (((k + 1 : Nat) : Int) - 1) = (k : Int) := by omega
              rw [hk1]
              obtain ⟨bb, off, rfl, hbb, hc⟩ := at_byl (hst.below hb2') (show k < T by omega)
              have hrs := rev_step P k (by rw [HCL.out]; omega)
              obtain ⟨d, hd⟩ : ∃ d, P.getD k 0 = d := ⟨_, rfl⟩
              rw [hd] at hrs hc
              have HRS := Lib.hid hrs
              have htk : T - (k + 1) + 1 = T - k := by omega
              clear hrs hd
              go_wp2_with (at_builtin; refine wpList_append_one rfl _ _ 76 rfl B3 5 i0 (.int .u8 0) 1 Try.underlying76 hi hz0 hz1 hz2 rfl _ _ _ rfl ho2 _ _ rfl rfl (by unfold maxLen; omega) (by omega) w5 hb2' (by omega) ?_)
              intro v' w2 hown' hbel'
              obtain ⟨A4, c4, rfl⟩ := own_slice hown'
              try rw [htk] at hown'
              have hown2 : Hid (w2.ownsRow B3 5 1 (.slice A4 (T - k) c4) (T - k) (byl (P.drop k).reverse)) := by
                show World.ownsRow _ _ _ _ _ _ _
                rw [← HRS.out, byl_append]
                exact hown'
              have hB24 : B3 ≤ w2.heap.size := by have := hbel'.size; omega
              try rw [htk]
              clear hown' ho2 hb2'
              go_wp2
              go_roundw
              case rel => exact ⟨k, c4, A4, by omega, rfl, rfl, hown2.out, hbel', hB24⟩
              case measure => simp [intOf]
    · have hm0 : m ≠ 0 := by rintro rfl; have := hem.out; rw [enc_zero] at this; exact hz this.symm
      have hmore := digs_more (by omega) hL.out.2.1 hL.out.1 hL.out.2.2 hm0
      rw [HK.out] at hmore
      have hnmI : (0 : Int) < (nm : Int) := by omega
      obtain ⟨q, hq⟩ : ∃ q, m / 10 = q := ⟨_, rfl⟩
      obtain ⟨d, hd⟩ : ∃ d, m % 10 = d := ⟨_, rfl⟩
      have hdl : d < 10 := by have := Nat.mod_lt m (show 0 < 10 by omega); omega
      obtain ⟨nq, hnq⟩ : ∃ nq, (enc q).length = nq := ⟨_, rfl⟩
      have hnql : nq ≤ 512 := by rw [← hnq]; exact length_le_of (show q ≤ m by rw [← hq]; exact Nat.div_le_self _ _) (by rw [hem.out]; exact hnm)
      have HDL := Lib.hid (rShort_own Am nm cm 10 (enc m) wr hsm (ok_enc m) (by omega) (by omega) (by omega))
      rw [val_enc, hq, hd] at HDL
      have hgrow := digs_grow (by omega) hL.out.2.1 hL.out.1 hL.out.2.2 hm0
      rw [hd, hq] at hgrow
      have HG := Lib.hid (show (L ++ [d]).length = t + 1 ∧ L ++ [d] = (digs 10 v).take (t + 1) ∧ q = v / 10 ^ (t + 1) from ⟨by rw [List.length_append, hL.out.1]; rfl, hgrow.1, hgrow.2⟩)
      have HNQ := Lib.hid hnq
      have ht2 : t + 1 ≤ K := by omega
      clear hq hd hnq hgrow hL hm0 hem hz hsm hap
      go_wp2_with fail
      refine HDL.out.mono ?_
      rintro e w4 ⟨A4, c4, rfl, ho4, hb4⟩
      rw [HNQ.out] at ho4 ⊢
      have hap4 := Apart.own ho4 hoo
      have hoo4 := own_kept hoo hb4 (fun k hk => (hoo.lt k hk).2)
      have hs4 := Sl.of_own ho4
      have HB4 := hbel.trans (hb4.mono hB1r)
      have hsz4 : B1 ≤ w4.heap.size := by have := hb4.size; omega
      have hdI : (d : Int) < 10 := by omega
      have hd0 : (0 : Int) ≤ (d : Int) := by omega
      clear hoo hb4 hbel HDL ho4
      go_wp2_with (at_builtin; refine wpList_append_one_apart rfl _ _ 76 rfl B1 5 i0 (.int .u8 0) 1 Try.underlying76 hi hz0 hz1 hz2 rfl _ _ _ rfl hoo4 _ _ rfl rfl (by unfold maxLen; omega) (by omega) w1 HB4 (by omega) ?_)
      intro v' w5 hown' hbel5 hfar
      obtain ⟨A5, c5, rfl⟩ := own_slice hown'
      obtain ⟨hs5, hap5⟩ := hfar _ _ _ _ hs4 hap4
      have HAP := Lib.hid hap5
      have HO5 : Hid (w5.ownsRow B1 5 1 (.slice A5 (t + 1) c5) (t + 1) (byl (chs (L ++ [d])))) := by
        show World.ownsRow _ _ _ _ _ _ _
        rw [chs_append, byl_append]
        simpa [byl, chs] using hown'
      have hB5s : B1 ≤ w5.heap.size := by have := hbel5.size; omega
      clear hown' hfar hs4 hap4 hap5 hoo4 HB4
      go_wp2
      go_roundw
      case rel => exact ⟨t + 1, q, nq, c5, c4, A5, A4, L ++ [d], rfl, rfl, ht2, hnql, HNQ, HG, HO5.out, hs5, HAP, hbel5, hB5s⟩
      case measure => simp [lenOf]; omega
end Go.Proofs.Ytkcekimgfcdgbaa
