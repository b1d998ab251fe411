/- Contracts: Format. -/
import Derived.Test.YtebbpodcldndjaaV3
import Derived.Laws.BytesArg
set_option linter.unusedVariables false
namespace Go.Proofs.Ytebbpodcldndjaa
open Go.RowKit

/-- bytes as a string -/
def str (p : List Nat) : ByteArray := strOfNums (p.map fun (x : Nat) => (x : Int))
theorem conv_sl {w : World} {B : Nat} {A : Option Addr} {n c : Nat} (p : List Nat) (h : Sl w B A n c (byl p)) :
    (convert 76 9 (.slice A n c)).run Try.prog w = .ok (.string (str p)) w := by
  have hl := h.len
  rw [length_byl] at hl
  rcases Nat.eq_zero_or_pos n with h0 | h0
  · subst h0
    obtain rfl : p = [] := List.eq_nil_of_length_eq_zero hl
    cases A with
    | none => exact run_convert_bytes_nil (P := Try.prog) w 76 5 Try.underlying76 Try.underlying5 0 c 9 Try.underlying9
    | some a =>
      rw [run_convert_bytes_string w 76 9 5 _ 0 c Try.underlying76 Try.underlying5 Try.underlying9]
      rw [run_bytesToString w a 0 c [] (by simp [loadCells, loadCellsFrom, Sem.run_pure])]
      rfl
  · obtain ⟨b, off, rfl, hb, hc⟩ := h.read h0
    refine run_convert_bytes_arg (P := Try.prog) w 76 5 Try.underlying76 Try.underlying5 b off n c (p.map fun (x : Nat) => (x : Int)) (by simpa using hl) (fun i hi => hc i _ ?_) 9 Try.underlying9
    simp [byl, List.getD, show i < p.length by omega]

/-- the decimal digits of an integer -/
def fmtS (neg : Bool) (v : Nat) : List Nat := (if neg then [45] else []) ++ (if v = 0 then [48] else chs (digs 10 v).reverse)
theorem chs_append (l m : List Nat) : chs (l ++ m) = chs l ++ chs m := by simp [chs]
theorem chs_take (l : List Nat) (k : Nat) : (chs l).take k = chs (l.take k) := by simp [chs, List.map_take]
theorem chs_reverse (l : List Nat) : (chs l).reverse = chs l.reverse := by simp [chs]
theorem getD_chs (l : List Nat) (k : Nat) (h : k < l.length) : (chs l).getD k 0 = 48 + l.getD k 0 := by simp [chs, List.getD, h]
theorem byl_take (l : List Nat) (k : Nat) : (byl l).take k = byl (l.take k) := by simp [byl, List.map_take]
theorem byl_at (l : List Nat) (k : Nat) (h : k < l.length) : (byl l)[k]? = some (.int .u8 ((l.getD k 0 : Nat) : Int)) := by simp [byl, List.getD, h]
theorem fmt_bound {v k m : Nat} (hv : (enc v).length ≤ 512) (h : 10 ^ k * m ≤ v) (hm : m ≠ 0) : k < 16384 := by
  rcases Nat.lt_or_ge k 16384 with h0 | h0
  · exact h0
  exfalso
  have h1 := (length_enc_le _ _).1 hv
  obtain ⟨z, hz⟩ : ∃ z, z = 512 := ⟨_, rfl⟩
  rw [← hz, pow_limb] at h1
  have h2 : (2 : Nat) ^ (32 * z) ≤ 10 ^ k := Nat.le_trans (Nat.pow_le_pow_right (by omega) (by omega)) (Nat.pow_le_pow_left (by omega) k)
  have h3 : 10 ^ k * 1 ≤ 10 ^ k * m := Nat.mul_le_mul_left _ (by omega)
  omega
/-- what the groups of digits have made -/
def Fm (v m no : Nat) (L : List Nat) : Prop := L.length = no ∧ OkD 10 L ∧ valD 10 L + 10 ^ no * m = v
theorem fm_step {v m no q g : Nat} {L : List Nat} (h : Fm v m no L) (hq : m / 1000000000 = q) (hg : m % 1000000000 = g) : Fm v q (no + 9) (L ++ low10 9 g) := by
  refine ⟨by rw [List.length_append, length_low10, h.1], h.2.1.append (okD_low10 _ _), ?_⟩
  have hgl : g < 1000000000 := by rw [← hg]; exact Nat.mod_lt _ (by decide)
  have e : valD 10 (low10 9 g) = g := by rw [valD_low10]; exact Nat.mod_eq_of_lt (by simpa using hgl)
  have e2 : g + 1000000000 * q = m := by rw [← hg, ← hq]; exact Nat.mod_add_div _ _
  have e3 : 10 ^ no * m = 10 ^ no * g + 10 ^ no * 1000000000 * q := by rw [← e2, Nat.mul_add, Nat.mul_assoc]
  have h3 := h.2.2
  rw [valD_append, e, h.1, Nat.pow_add, show (10 : Nat) ^ 9 = 1000000000 from rfl]
  omega

set_option maxRecDepth 100000 in
set_option maxHeartbeats 4000000 in
theorem format_any (neg : Bool) (A : Option Addr) (n c v : Nat) (w : World) (hs : Sl w w.heap.size A n c (ml (enc v))) (hva : Vd neg v) :
    Calls Try.prog 41 #[.agg #[.bool neg, .slice A n c]] w fun e w' => e = .returned (.string (str (fmtS neg v))) ∧ Below w.heap.size w w' := by
  have hl : (enc v).length = n := by rw [← length_ml]; exact hs.len
  have hn : n ≤ 512 := by rw [← hl]; exact hva.2
  obtain ⟨i0, hi, hz0, hz1, hz2⟩ := info_parts byteInfo
  have HA := At.new w (.bool neg) (.slice A n c)
  have hb0 := below_new w (.cells #[.bool neg, .slice A n c] 24)
  have h1 := hs.next hb0
  clear hs
  by_cases h0 : n = 0
  · subst h0
    have hv0 := enc_eq_nil hl
    have hng : neg = false := by cases neg with | false => rfl | true => exact absurd hv0 (hva.1 rfl)
    subst hng
    have HD : Hid (str (fmtS false v) = { data := #[48] }) := by show _ = _; subst hv0; rfl
    clear hv0 hl
    go_enter Try.func41, Try.ntmps41
    go_wp2_with fail
    refine (valid_true hva h1).mono ?_
    rintro e w1 ⟨rfl, hb1⟩
    obtain ⟨a1, a2, _, _⟩ := (HA.next hb1).facts
    have HB1 := below_step hb0 hb1
    clear h1
    go_wp2
    go_ret
    rw [HD.out]
    exact ⟨rfl, HB1⟩
  · have hv0 : v ≠ 0 := by rintro rfl; rw [enc_zero] at hl; exact h0 hl.symm
    have HF : Hid (fmtS neg v = (if neg then [45] else []) ++ chs (digs 10 v).reverse) := by show _ = _; unfold fmtS; rw [if_neg hv0]
    have HV0 := Lib.hid hv0
    have HVL := Lib.hid (show (enc v).length ≤ 512 by omega)
    have HNL := Lib.hid hl
    clear hv0 hl
    go_enter Try.func41, Try.ntmps41
    go_wp2_with fail
    refine (valid_true hva h1).mono ?_
    rintro e w1 ⟨rfl, hb1⟩
    obtain ⟨a1, a2, _, _⟩ := (HA.next hb1).facts
    have HB1 := below_step hb0 hb1
    have hs1 := h1.next hb1
    have HA1 := HA.next hb1
    have hn0 : (0 : Int) < (n : Int) := by omega
    clear h1 HA hb0 hb1
    go_wp2_with fail
    refine (clone_own A n c (enc v) _ hs1 (by omega)).mono ?_
    rintro e w3 ⟨A3, c3, rfl, ho3, hb3⟩
    rw [HNL.out] at ho3 ⊢
    have hlt3 := Lib.hid (fun k hk => (ho3.lt k hk).2)
    have HB3 : Below w.heap.size w w3 := below_step HB1 hb3
    have HA3 := HA1.next hb3
    obtain ⟨B1, hB1⟩ : ∃ B1, w1.heap.size = B1 := ⟨_, rfl⟩
    have ho3' : w3.ownsRow B1 63 1 (.slice A3 n c3) n (ml (enc v)) := by rw [← hB1]; exact ho3
    have hB13 : B1 ≤ w3.heap.size := by rw [← hB1]; exact hb3.size
    have hwB1 : w.heap.size < B1 := by rw [← hB1]; exact HA1.lt
    obtain ⟨B2, hB2⟩ : ∃ B2, w3.heap.size = B2 := ⟨_, rfl⟩
    rw [hB2] at hlt3 hB13
    have hB2' : B2 ≤ w3.heap.size := by omega
    clear ho3 hb3 hB1 hs1 a1 a2 HB1 hB2 HA1
    go_wp2
    go_loopw [3, 4, 5] (fun out mag gr wr => ∃ (m nm no co cm : Nat) (gg : Int) (Ao Am : Option Addr) (L : List Nat), out = .slice Ao no co ∧ mag = .slice Am nm cm ∧ gr = .int .u32 gg ∧ no ≤ 16393 ∧ nm ≤ 512 ∧ Hid ((enc m).length = nm) ∧ Hid (Fm v m no L) ∧
        wr.ownsRow B2 5 1 (.slice Ao no co) no (byl (chs L)) ∧ wr.ownsRow B1 63 1 (.slice Am nm cm) nm (ml (enc m)) ∧ Hid (∀ k, (Value.slice Am nm cm).ownBlock = some k → k < B2) ∧ Below w.heap.size w wr ∧ B2 ≤ wr.heap.size ∧ At wr w.heap.size (.bool neg) (.slice A n c))
      (fun out _ _ _ => 16400 - lenOf out)
    case atStart => exact ⟨v, n, 0, 0, c3, 0, none, A3, [], rfl, rfl, rfl, by omega, by omega, HNL, Lib.hid ⟨rfl, OkD.nil _, by simp [valD_nil]⟩, World.ownsRow_nil _ _ _ _, ho3', hlt3, HB3, hB2', HA3⟩
    case round =>
      obtain ⟨m, nm, no, co, cm, gg, Ao, Am, L, rfl, rfl, rfl, hno, hnm, hem, hL, hoo, hom, hin, hbel, hB2r, HAr⟩ := hrel
      clear ho3' HB3 hB2' HA3
      by_cases hz : nm = 0
      · subst hz
        have hm0 := enc_eq_nil hem.out
        subst hm0
        have hLl := hL.out.1
        have HL1 := Lib.hid (show OkD 10 L ∧ valD 10 L = v from ⟨hL.out.2.1, by have := hL.out.2.2; omega⟩)
        clear hem hL hom hin
        go_wp2
        go_loopw [3] (fun out wr => ∃ (k co : Nat) (Ao : Option Addr), out = .slice Ao k co ∧ k ≤ no ∧ Hid (valD 10 (L.take k) = v) ∧ wr.ownsRow B2 5 1 (.slice Ao k co) k (byl (chs (L.take k))) ∧ Below w.heap.size w wr ∧ B2 ≤ wr.heap.size ∧ At wr w.heap.size (.bool neg) (.slice A n c))
          (fun out _ => lenOf out)
        case atStart => exact ⟨no, co, Ao, rfl, Nat.le_refl _, Lib.hid (by rw [List.take_of_length_le (by omega)]; exact HL1.out.2), by rw [List.take_of_length_le (by omega)]; exact hoo, hbel, hB2r, HAr⟩
        case round =>
          obtain ⟨k, co2, Ao2, rfl, hk, hvk, hok, hbel2, hB2k, HAk⟩ := hrel
          clear hoo hbel hB2r HAr
          have hk0 : 0 < k := by
            rcases Nat.eq_zero_or_pos k with h | h
            · subst h; have := hvk.out; rw [List.take_zero, valD_nil] at this; exact absurd this.symm HV0.out
            · exact h
          obtain ⟨k, rfl⟩ : ∃ j, k = j + 1 := ⟨k - 1, by omega⟩
          obtain ⟨g, rfl, hbg, hgl⟩ := own_some hok (by omega)
          have hco := (Sl.of_own hok).le
          have hcm := (Sl.of_own hok).max
          unfold maxLen at hcm
          obtain ⟨d, hd⟩ : ∃ d, L.getD k 0 = d := ⟨_, rfl⟩
          have hcell := hok.cellAt k (by omega)
          have hdt : (L.take (k + 1)).getD k 0 = d := by rw [← hd, List.getD_eq_getElem?_getD, List.getElem?_take, if_pos (by omega), ← List.getD_eq_getElem?_getD]
          rw [byl_at _ k (by rw [length_chs, List.length_take]; omega), getD_chs _ _ (by rw [List.length_take]; omega), hdt] at hcell
          by_cases hd0 : d = 0
          · have hv2 : valD 10 (L.take k) = v := by rw [← hvk.out, valD_take, hd, hd0]; simp
            have hk1 : 0 < k := by
              rcases Nat.eq_zero_or_pos k with h | h
              · subst h; rw [List.take_zero, valD_nil] at hv2; exact absurd hv2.symm HV0.out
              · exact h
            have HV2 := Lib.hid hv2
            have hp := own_pre hok (show k ≤ k + 1 by omega) hk1
            rw [byl_take, chs_take, List.take_take, Nat.min_eq_left (by omega)] at hp
            have HP := Lib.hid hp
            have hcell2 : wr.cell? ⟨g, k, none⟩ = some (Value.int .u8 48) := by rw [hd0] at hcell; exact hcell
            have hkI : (0 : Int) ≤ (k : Int) := by omega
            have hkI2 : (k : Int) ≤ (co2 : Int) := by omega
            clear hd0 hd hdt hcell hv2 hp hok hvk
            go_wp2
            go_roundw
            case rel => exact ⟨k, co2, _, rfl, by omega, HV2, HP.out, hbel2, hB2k, HAk⟩
            case measure => simp [lenOf]
          · have HD := Lib.hid (digs_cut 10 (by omega) L (k + 1) v HL1.out.1 (by omega) hvk.out (.inr (by rw [Nat.add_sub_cancel, hd]; exact hd0)))
            have hx' : (((48 + d : Nat) : Int) == 48) = false := by rw [beq_eq_false_iff_ne]; omega
            obtain ⟨x, hx⟩ : ∃ x, 48 + d = x := ⟨_, rfl⟩
            rw [hx] at hcell hx'
            obtain ⟨a1, a2, _, _⟩ := HAk.facts
            clear hd0 hd hdt hx hvk
            have hkI : (0 : Int) ≤ (k : Int) := by omega
            cases neg
            · have HRv := Lib.hid (reverseB_own B2 _ _ co2 _ _ hok (by omega))
              clear hok
              go_wp2_with fail
              refine HRv.out.mono ?_
              rintro e w6 ⟨rfl, ho6, hb6⟩
              have hconv := conv_sl _ (Sl.of_own ho6)
              have HB6 := hbel2.trans (hb6.mono (by omega))
              clear ho6 hb6
              go_wp2
              go_ret
              exact ⟨by rw [HF.out, HD.out, chs_reverse]; rfl, HB6⟩
            · go_wp2_with (at_builtin; refine wpList_append_one rfl _ _ 76 rfl B2 5 i0 (.int .u8 0) 1 Try.underlying76 hi hz0 hz1 hz2 rfl _ _ _ rfl hok _ _ rfl rfl (by unfold maxLen; omega) (by omega) _ (Below.refl _ _) (by omega) ?_)
              intro v' w5 hown' hbel5
              obtain ⟨A5, c5, rfl⟩ := own_slice hown'
              have HB5 := hbel2.trans (hbel5.mono (by omega))
              have ho5 : w5.ownsRow B2 5 1 (.slice A5 (k + 1 + 1) c5) (k + 1 + 1) (byl (chs (L.take (k + 1)) ++ [45])) := by
                simpa [byl] using hown'
              have HRv := Lib.hid (reverseB_own B2 _ _ c5 _ _ ho5 (by omega))
              have hB5 := hbel5.size
              clear hok ho5 hown' hbel5
              go_wp2_with fail
              refine HRv.out.mono ?_
              rintro e w6 ⟨rfl, ho6, hb6⟩
              have hconv := conv_sl _ (Sl.of_own ho6)
              have HB6 := HB5.trans (hb6.mono (by omega))
              clear ho6 hb6
              go_wp2
              go_ret
              have e0 : 45 :: (chs (L.take (k + 1))).reverse = fmtS true v := by rw [HF.out, HD.out, chs_reverse]; rfl
              exact ⟨by rw [← e0]; rfl, HB6⟩
      · have hm0 : m ≠ 0 := by rintro rfl; have := hem.out; rw [enc_zero] at this; exact hz this.symm
        have hno2 := fmt_bound HVL.out (show 10 ^ no * m ≤ v by have := hL.out.2.2; omega) hm0
        have hnmI : (0 : Int) < (nm : Int) := by omega
        obtain ⟨q, hq⟩ : ∃ q, m / 1000000000 = q := ⟨_, rfl⟩
        obtain ⟨g, hg⟩ : ∃ g, m % 1000000000 = g := ⟨_, rfl⟩
        have hgl : g < 1000000000 := by rw [← hg]; exact Nat.mod_lt _ (by decide)
        obtain ⟨nq, hnq⟩ : ∃ nq, (enc q).length = nq := ⟨_, rfl⟩
        have hnql : nq ≤ 512 := by rw [← hnq]; exact length_le_of (show q ≤ m by rw [← hq]; exact Nat.div_le_self _ _) (by rw [hem.out]; exact hnm)
        have HDL := Lib.hid (divideLimb_own B1 Am nm cm 1000000000 (enc m) wr hom (ok_enc m) (by omega) (by omega) (by omega))
        rw [val_enc, hq, hg, hnq] at HDL
        have HG := Lib.hid (fm_step hL.out hq hg)
        have HNQ := Lib.hid hnq
        clear hq hg hnq hL hm0 hem hz
        go_wp2_with fail
        refine HDL.out.mono ?_
        rintro e w4 ⟨A4, c4, rfl, ho4, hb4, hA4, hg4⟩
        have hoo4 := hoo.kept hg4 (own_apart hoo hin.out)
        have HIN4 := Lib.hid (own_in (n' := nq) (c' := c4) hA4 hin.out)
        have HB4 := hbel.trans (hb4.mono (by omega))
        have HA4 := HAr.below hb4 (by omega)
        have hB24 : B2 ≤ w4.heap.size := by have := hb4.size; omega
        have HAG := Lib.hid (appendGroup_own B2 _ no (chs L) g w4 hoo4 hB24 (by omega) (by omega))
        clear hoo hom hin hg4 hb4 hbel hA4 HDL HAr hoo4
        go_wp2_with fail
        refine HAG.out.mono ?_
        rintro e w5 ⟨v5, rfl, hown', hbel5⟩
        obtain ⟨A5, c5, rfl⟩ := own_slice hown'
        have ho5m := own_kept ho4 hbel5 HIN4.out
        have HB5 := HB4.trans (hbel5.mono (by omega))
        have HA5 := HA4.below hbel5 (by omega)
        have hB25 : B2 ≤ w5.heap.size := by have := hbel5.size; omega
        have HO5 : Hid (w5.ownsRow B2 5 1 (.slice A5 (no + 9) c5) (no + 9) (byl (chs (L ++ low10 9 g)))) := by
          show World.ownsRow _ _ _ _ _ _ _
          rw [chs_append]; exact hown'
        clear hown' hbel5 ho4 HB4 HA4 HAG
        go_wp2
        go_roundw
        case rel => exact ⟨q, nq, no + 9, c5, c4, _, A5, A4, L ++ low10 9 g, rfl, rfl, rfl, by omega, hnql, HNQ, HG, HO5.out, ho5m, HIN4, HB5, hB25, HA5⟩
        case measure => simp [lenOf]; omega
end Go.Proofs.Ytebbpodcldndjaa
