/- Contracts of galois: logarithm. -/
import Derived.Test.YtjbaleadahefoaaDoorWh
set_option linter.unusedVariables false
namespace Go.Proofs.YtjbaleadahefoaaDoor
open Go.RowKit Go.Maps

theorem wrap_kk (k kk : Nat) (h : k * k = kk) (hk : kk ≤ 4096) : wrap64 ((k : Int) * (k : Int)) = (kk : Int) := by
  rw [← Int.natCast_mul, h]
  unfold wrap64
  omega
theorem dec_lt (kk n : Nat) (h : kk < n - 1) : decide ((kk : Int) < (n : Int) - 1) = true := decide_eq_true (by omega)
theorem dec_ge (kk n : Nat) (hn : 2 ≤ n) (h : n - 1 ≤ kk) : decide ((kk : Int) < (n : Int) - 1) = false := decide_eq_false (by omega)
theorem lit_eq {D : DataW Unit} {k : Lit} {z : DataW Unit} {c' : Int} {j : Nat} (h1 : D.atKey k z = .lit (.int .i64 (j : Nat))) (h2 : D.atKey k z = .lit (.int .i64 c')) : c' = (j : Int) := by
  rw [h1] at h2
  injection h2 with h3
  injection h3 with h4 h5
  exact h5.symm
theorem wrap_sm (s m sm : Nat) (h : s * m = sm) (hk : sm ≤ 4096) : wrap64 ((s : Int) * (m : Int)) = (sm : Int) := by
  rw [← Int.natCast_mul, h]
  unfold wrap64
  omega
theorem sum_8192 (sm j m R : Nat) (h1 : sm ≤ 4096) (h2 : j < m) (h3 : m ≤ 64) (h4 : sm + j = R) : R ≤ 8192 := by omega
theorem el_I64 (v n : Nat) (h : v < n) (h2 : n ≤ 4096) : I64 (v : Int) := by unfold I64; omega
theorem wrap_sum (sm j R : Nat) (c' : Int) (h : sm + j = R) (hk : R ≤ 8192) (hc : c' = (j : Int)) : wrap64 ((sm : Int) + c') = (R : Int) := by
  subst hc h
  unfold wrap64
  omega
set_option maxRecDepth 100000 in
theorem logarithm_any (c q : Int) (n : Nat) (hcI : I64 c) (hqI : I64 q) (hn : 2 ≤ n) (hn2 : n ≤ 4096) (T : Nat → Nat → Nat)
    (HT : ∀ a b, a < n → b < n → T a b < n ∧ ∀ w, Calls Tryd.prog 52 #[elV c n q a, elV c n q b] w fun e w' => e = .returned (elV c n q (T a b : Nat)) ∧ Below w.heap.size w w')
    (L : Nat) (hL1 : 1 ≤ L) (hL2 : L ≤ 64) (hL3 : n - 1 ≤ L * L) (hL4 : ∀ k, k < L → k * k < n - 1)
    (g : Nat) (hg : g < n) (Tp : Nat → Nat) (hT0 : Tp 0 = 1) (hTs : ∀ k, Tp (k + 1) = T (Tp k) g) (hTn : ∀ k, Tp k < n) (hinj : ∀ i j, i < L → j < L → Tp i = Tp j → i = j)
    (b : Nat) (hb : b < n) (HP : ∀ w, Calls Tryd.prog 54 #[elV c n q (Tp L : Nat), .int .i64 (-1)] w fun e w' => e = .returned (elV c n q (b : Nat)) ∧ Below w.heap.size w w')
    (a : Nat) (Ap : Nat → Nat) (hA0 : Ap 0 = a) (hAs : ∀ k, Ap (k + 1) = T (Ap k) b) (hAn : ∀ k, Ap k < n)
    (S j : Nat) (hS : S ≤ 64) (hj : j < L) (hSj : Tp j = Ap S) (hmiss : ∀ s, s < S → ∀ i, i < L → ¬ Tp i = Ap s) (w : World) :
    Calls Tryd.prog 61 #[elV c n q a, elV c n q g] w fun e w' => e = .returned (.int .i64 (S * L + j : Nat)) ∧ Below w.heap.size w w' := by
  obtain ⟨R, hR⟩ : ∃ R, S * L + j = R := ⟨_, rfl⟩
  have HR := Lib.hid hR
  rw [hR]
  clear hR
  have H1 := one_any c n q
  unfold elV at HT HP H1 ⊢
  have hnI : I64 (n : Int) := by unfold I64; omega
  have HTT := Lib.hid HT
  have HPP := Lib.hid HP
  have HL := Lib.hid (And.intro hL3 hL4)
  have HTp := Lib.hid (And.intro hT0 (And.intro hTs (And.intro hTn hinj)))
  have HAp := Lib.hid (And.intro hA0 (And.intro hAs hAn))
  have HSj := Lib.hid (And.intro hSj hmiss)
  have HN := Lib.hid (And.intro hn hn2)
  have HI := Lib.hid (And.intro hcI (And.intro hnI hqI))
  have Hg := Lib.hid hg
  have Hb := Lib.hid hb
  clear HT HP hL3 hL4 hT0 hTs hTn hinj hA0 hAs hAn hSj hmiss hcI hqI hg hb hnI
  have hw : IntKind.i64.wrap ((n : Int) - 1) = (n : Int) - 1 := by rw [IntKind.wrap_i64]; omega
  have hn1 : (n : Int) ≤ 4096 := by omega
  have hn0 : (2 : Int) ≤ n := by omega
  have E2 := ((El.new w c n q a).next (below_new _ (.cells #[.int .i64 c, .int .i64 n, .int .i64 q, .int .i64 (g : Int)] 52))).ec
  have E3 := (El.new (w.alloc (.cells #[.int .i64 c, .int .i64 n, .int .i64 q, .int .i64 (a : Int)] 52)) c n q g).ec
  have hs : (w.alloc (.cells #[.int .i64 c, .int .i64 n, .int .i64 q, .int .i64 (a : Int)] 52)).heap.size = w.heap.size + 1 := by simp
  rw [hs] at E3
  have hs2 : ((w.alloc (.cells #[.int .i64 c, .int .i64 n, .int .i64 q, .int .i64 (a : Int)] 52)).alloc (.cells #[.int .i64 c, .int .i64 n, .int .i64 q, .int .i64 (g : Int)] 52)).heap.size = w.heap.size + 1 + 1 := by simp
  have hb0 := below_step (below_new w (.cells #[.int .i64 c, .int .i64 n, .int .i64 q, .int .i64 (a : Int)] 52)) (below_new _ (.cells #[.int .i64 c, .int .i64 n, .int .i64 q, .int .i64 (g : Int)] 52))
  clear hs hn2
  obtain ⟨c0, c1, c2, c3, c4, c5, c6, c7, c8⟩ := E2
  have E2 := ((El.new w c n q a).next (below_new _ (.cells #[.int .i64 c, .int .i64 n, .int .i64 q, .int .i64 (g : Int)] 52))).ec
  have hmm := @run_makeMap Tryd.prog
  go_enter Tryd.func61, Tryd.ntmps61
  go_wp2
  go_loop [5] (fun y => ∃ k : Nat, y = .int .i64 (k : Int) ∧ 1 ≤ k ∧ k ≤ L) (fun y => L - (intOf y).toNat)
  case atStart => exact ⟨1, rfl, Nat.le_refl _, hL1⟩
  case round =>
    obtain ⟨k, rfl, hk1, hk2⟩ := hrel
    have hkk4 : k * k ≤ 4096 := Nat.mul_le_mul (show k ≤ 64 by omega) (show k ≤ 64 by omega)
    obtain ⟨kk, hkk⟩ : ∃ kk, k * k = kk := ⟨_, rfl⟩
    rw [hkk] at hkk4
    have hwk := wrap_kk k kk hkk hkk4
    by_cases hlt : k < L
    · have hc := HL.out.2 k hlt
      rw [hkk] at hc
      have hcond := dec_lt kk n hc
      clear hkk4 hc hkk
      go_wp2
      go_round
      case rel => exact ⟨k + 1, by go_num, by omega, by omega⟩
      case measure => simp [intOf]; omega
    · obtain rfl : k = L := by omega
      have hc := HL.out.1
      rw [hkk] at hc
      have hcond := dec_ge kk n hn hc
      clear hkk4 hc hkk hlt hk2
      go_wp2_with fail
      generalize hW2 : ((w.alloc (.cells #[.int .i64 c, .int .i64 n, .int .i64 q, .int .i64 (a : Int)] 52)).alloc (.cells #[.int .i64 c, .int .i64 n, .int .i64 q, .int .i64 (g : Int)] 52)) = W2 at *
      have M0 := World.ownsMap_made (H := Unit) W2 Tryd.prog 52 (plainElem Tryd.prog 3)
      rw [hs2] at M0
      have hb1 := below_new W2 (.map #[] 0)
      have D2 := E2.next hb1
      have D3 := E3.next hb1
      have hbB := below_step hb0 hb1
      refine (H1 _).mono ?_
      rintro e w1 ⟨rfl, hb2⟩
      have G2 := D2.next hb2
      have G3 := D3.next hb2
      have M1 := Below.ownsMap M0 hb2
      have hbC := below_step hbB hb2
      have hltB := M1.lt
      clear E2 E3 hb0 hb1 M0 D2 D3 hbB hb2 c0 c1 c2 c3 c4 c5 c6 c7 c8 hW2
      go_wp2
      have hb3 := below_new w1 (.cells #[.int .i64 c, .int .i64 n, .int .i64 q, .int .i64 1] 52)
      have K7 : Ec (w1.alloc (.cells #[.int .i64 c, .int .i64 n, .int .i64 q, .int .i64 1] 52)) w1.heap.size c n q ((1 : Nat) : Int) := (El.new w1 c n q 1).ec
      have K2 := G2.next hb3
      have K3 := G3.next hb3
      have M2 := Below.ownsMap M1 hb3
      have hB := below_step hbC hb3
      clear G2 G3 M1 hbC hb3
      have n37 : ¬ w.heap.size + 1 = w1.heap.size := by omega
      have n27 : ¬ w.heap.size = w1.heap.size := by omega
      have n7B : ¬ w1.heap.size = w.heap.size + 1 + 1 := by omega
      have g2B : w.heap.size ≤ w.heap.size + 1 + 1 := by omega
      have n2B : ¬ w.heap.size = w.heap.size + 1 + 1 := by omega
      have n3B : ¬ w.heap.size + 1 = w.heap.size + 1 + 1 := by omega
      have n32 : ¬ w.heap.size + 1 = w.heap.size := by omega
      have g7lt : w.heap.size ≤ w1.heap.size := by omega
      clear hltB
      generalize w1.heap.size = g7 at *
      generalize w.heap.size + 1 + 1 = B at *
      generalize w.heap.size + 1 = g3 at *
      generalize (w1.alloc (.cells #[.int .i64 c, .int .i64 n, .int .i64 q, .int .i64 1] 52)) = w2 at *
      go_loopw [28] (fun y wr => ∃ m : Nat, y = .int .i64 (m : Int) ∧ m ≤ k ∧ wr.ownsMap Tryd.prog 52 (plainElem Tryd.prog 3) B m (TD c n q Tp m) ∧ Ec wr g7 c n q (Tp m : Nat) ∧ Ec wr w.heap.size c n q a ∧ Ec wr g3 c n q g ∧ Below w.heap.size w wr) (fun y _ => k - (intOf y).toNat)
      case atStart => exact ⟨0, rfl, Nat.zero_le _, M2, by rw [HTp.out.1]; exact K7, K2, K3, hB⟩
      case round =>
        obtain ⟨m, rfl, hm, M, J7, J2, J3, hB'⟩ := hrel
        clear M2 K7 K2 K3 hB
        obtain ⟨d0, d1, d2, d3, d4, d5, d6, d7, d8⟩ := J7
        have J7 : Ec wr g7 c n q (Tp m : Nat) := ⟨d0, d1, d2, d3, d4, d5, d6, d7, d8⟩
        have hTm := HTp.out.2.2.1 m
        by_cases hlt : m < k
        · have hkey := key_el c n q (Tp m : Nat) HI.out.1 HI.out.2.1 HI.out.2.2 (el_I64 _ n hTm HN.out.2)
          have hTg := (HTT.out (Tp m) g hTm Hg.out).2
          rw [← HTp.out.2.1 m] at hTg
          have hmx : m < maxLen := by unfold maxLen; omega
          have hwf : (Lit.int .i64 (m : Int)).wf = true := WalkArith.wf_i64 (by omega)
          have hmI : (m : Int) < (k : Int) := by omega
          unfold elV at hkey
          clear hTm
          go_wp2_with (first
            | (at_mapUpdate; refine wpList_mapUpdate_own _ rfl _ _ _ 65 rfl 52 3 law_el Tryd.underlying65 _ B m _ rfl M hmx _ _ _ rfl rfl hkey _ [] (plainElem_int Tryd.underlying3 hwf) ?_; intro w3 hown1 hgrow1; have P7 := J7.grown hgrow1 n7B; have P2 := J2.grown hgrow1 n2B; have P3 := J3.grown hgrow1 n3B; have hBg := Below.grown hB' hgrow1 g2B (Nat.le_of_lt J2.lt); clear J7 J2 J3 M hgrow1 hB' d0 d1 d2 d3 d4 d5 d6 d7 d8; obtain ⟨d0, d1, d2, d3, d4, d5, d6, d7, d8⟩ := P7; obtain ⟨e0, e1, e2, e3, e4, e5, e6, e7, e8⟩ := P3)
            | fail)
          have P7 : Ec w3 g7 c n q (Tp m : Nat) := ⟨d0, d1, d2, d3, d4, d5, d6, d7, d8⟩
          have P3 : Ec w3 g3 c n q g := ⟨e0, e1, e2, e3, e4, e5, e6, e7, e8⟩
          refine (hTg _).mono ?_
          rintro e w4 ⟨rfl, hb4⟩
          clear d0 d1 d2 d3 d4 d5 d6 d7 d8 e0 e1 e2 e3 e4 e5 e6 e7 e8
          have Q7 := P7.next hb4
          have Q2 := P2.next hb4
          have Q3 := P3.next hb4
          have QM := Below.ownsMap hown1 hb4
          have hB4 := below_step hBg hb4
          have R7 := Q7.store c n q (Tp (m + 1) : Nat)
          have R2 := Q2.other (g' := g7) (fun h => n27 h.symm) (.int .i64 c) (.int .i64 (n : Int)) (.int .i64 q) (.int .i64 (Tp (m + 1) : Nat))
          have R3 := Q3.other (g' := g7) (fun h => n37 h.symm) (.int .i64 c) (.int .i64 (n : Int)) (.int .i64 q) (.int .i64 (Tp (m + 1) : Nat))
          have RM := (((QM.setCell (a := ⟨g7, 0, none⟩) (fun h => n7B h.symm) (.int .i64 c)).setCell (a := ⟨g7, 1, none⟩) (fun h => n7B h.symm) (.int .i64 (n : Int))).setCell (a := ⟨g7, 2, none⟩) (fun h => n7B h.symm) (.int .i64 q)).setCell (a := ⟨g7, 3, none⟩) (fun h => n7B h.symm) (.int .i64 (Tp (m + 1) : Nat))
          have hB5 := below_four hB4 g7lt (.int .i64 c) (.int .i64 (n : Int)) (.int .i64 q) (.int .i64 (Tp (m + 1) : Nat))
          obtain ⟨d0, d1, d2, d3, d4, d5, d6, d7, d8⟩ := Q7
          clear P7 P2 P3 hown1 hBg hb4 Q2 Q3 QM hB4
          go_wp2
          go_roundw
          case rel => exact ⟨m + 1, by go_num, hlt, RM, R7, R2, R3, hB5⟩
          case measure => simp [intOf]; omega
        · obtain rfl : m = k := by omega
          clear hlt hm
          go_wp2_with fail
          refine (HPP.out _).mono ?_
          rintro e w4 ⟨rfl, hb4⟩
          have P2 := J2.next hb4
          have QM := Below.ownsMap M hb4
          have hB4 := below_step hB' hb4
          clear J7 J2 J3 M hB' hb4 d0 d1 d2 d3 d4 d5 d6 d7 d8
          go_wp2
          have hb5 := below_new w4 (.cells #[.int .i64 c, .int .i64 n, .int .i64 q, .int .i64 b] 52)
          have K9 : Ec (w4.alloc (.cells #[.int .i64 c, .int .i64 n, .int .i64 q, .int .i64 b] 52)) w4.heap.size c n q b := (El.new w4 c n q b).ec
          have K2 := P2.next hb5
          have KM := Below.ownsMap QM hb5
          have hB5 := below_step hB4 hb5
          have n29 : ¬ w.heap.size = w4.heap.size := by have := P2.lt; omega
          clear P2 QM hB4 hb5
          generalize w4.heap.size = g9 at *
          generalize (w4.alloc (.cells #[.int .i64 c, .int .i64 n, .int .i64 q, .int .i64 (b : Int)] 52)) = w5 at *
          go_loopw [10] (fun y wr => ∃ s : Nat, y = .int .i64 (s : Int) ∧ s ≤ S ∧ wr.ownsMap Tryd.prog 52 (plainElem Tryd.prog 3) B m (TD c n q Tp m) ∧ Ec wr w.heap.size c n q (Ap s : Nat) ∧ Ec wr g9 c n q b ∧ Below w.heap.size w wr) (fun y _ => S + 1 - (intOf y).toNat)
          case atStart => exact ⟨0, rfl, Nat.zero_le _, KM, by rw [HAp.out.1]; exact K2, K9, hB5⟩
          case round =>
            obtain ⟨s, rfl, hs, M, J2, J9, hB'⟩ := hrel
            clear KM K2 K9 hB5
            obtain ⟨d0, d1, d2, d3, d4, d5, d6, d7, d8⟩ := J2
            have J2 : Ec wr w.heap.size c n q (Ap s : Nat) := ⟨d0, d1, d2, d3, d4, d5, d6, d7, d8⟩
            have hkey := key_el c n q (Ap s : Nat) HI.out.1 HI.out.2.1 HI.out.2.2 (el_I64 _ n (HAp.out.2.2 s) HN.out.2)
            unfold elV at hkey
            have hTp4 : ∀ k, Tp k ≤ 4096 := fun k => Nat.le_trans (Nat.le_of_lt (HTp.out.2.2.1 k)) HN.out.2
            by_cases hsS : s = S
            · subst hsS
              have hit := TD.hit HI.out.1 HI.out.2.1 HI.out.2.2 hTp4 (.lit (.int .i64 0)) j m hj fun i hi h => HTp.out.2.2.2 i j hi hj h
              rw [HSj.out.1] at hit
              obtain ⟨hhas, hat0⟩ := hit
              have HAT := Lib.hid hat0
              obtain ⟨sm, hsm⟩ : ∃ sm, s * m = sm := ⟨_, rfl⟩
              have hsm4 : sm ≤ 4096 := by rw [← hsm]; exact Nat.mul_le_mul hS hL2
              have hwm := wrap_sm s m sm hsm hsm4
              have hRR : sm + j = R := by rw [← hsm]; exact HR.out
              have hR8 : R ≤ 8192 := sum_8192 sm j m R hsm4 hj hL2 hRR
              have HRR := Lib.hid hRR
              clear hat0 hTp4 hsm hRR
              go_wp2_with (first
                | (at_lookup; refine wpList_lookup_own_ok_int _ rfl _ _ 65 rfl 52 3 .i64 law_el Tryd.underlying65 Tryd.underlying3 (zero3 _) B m _ rfl M _ _ rfl hkey ?_; intro c' hat hwc; have hsum := wrap_sum sm j R c' HRR.out hR8 (lit_eq HAT.out hat); clear hat hwc)
                | fail)
              go_ret
              exact ⟨by rw [hsum]; rfl, hB'⟩
            · have hlt : s < S := Nat.lt_of_le_of_ne hs hsS
              have hhas := TD.miss HI.out.1 HI.out.2.1 HI.out.2.2 hTp4 (Ap s) (Nat.le_trans (Nat.le_of_lt (HAp.out.2.2 s)) HN.out.2) m fun i hi h => HSj.out.2 s hlt i hi h
              have hTg := (HTT.out (Ap s) b (HAp.out.2.2 s) Hb.out).2
              rw [← HAp.out.2.1 s] at hTg
              obtain ⟨e0, e1, e2, e3, e4, e5, e6, e7, e8⟩ := J9
              have J9 : Ec wr g9 c n q b := ⟨e0, e1, e2, e3, e4, e5, e6, e7, e8⟩
              clear hTp4 hsS hs
              go_wp2_with (first
                | (at_lookup; refine wpList_lookup_own_ok_int _ rfl _ _ 65 rfl 52 3 .i64 law_el Tryd.underlying65 Tryd.underlying3 (zero3 _) B m _ rfl M _ _ rfl hkey ?_; intro c' hat hwc; clear hat hwc)
                | fail)
              refine (hTg _).mono ?_
              rintro e w6 ⟨rfl, hb6⟩
              have Q2 := J2.next hb6
              have Q9 := J9.next hb6
              have QM := Below.ownsMap M hb6
              have hB6 := below_step hB' hb6
              clear J2 J9 M hb6 hB' d0 d1 d2 d3 d4 d5 d6 d7 d8 e0 e1 e2 e3 e4 e5 e6 e7 e8
              have R2 := Q2.store c n q (Ap (s + 1) : Nat)
              have R9 := Q9.other n29 (.int .i64 c) (.int .i64 (n : Int)) (.int .i64 q) (.int .i64 (Ap (s + 1) : Nat))
              have RM := (((QM.setCell (a := ⟨w.heap.size, 0, none⟩) (fun h => n2B h.symm) (.int .i64 c)).setCell (a := ⟨w.heap.size, 1, none⟩) (fun h => n2B h.symm) (.int .i64 (n : Int))).setCell (a := ⟨w.heap.size, 2, none⟩) (fun h => n2B h.symm) (.int .i64 q)).setCell (a := ⟨w.heap.size, 3, none⟩) (fun h => n2B h.symm) (.int .i64 (Ap (s + 1) : Nat))
              have hB7 := below_four hB6 (Nat.le_refl _) (.int .i64 c) (.int .i64 (n : Int)) (.int .i64 q) (.int .i64 (Ap (s + 1) : Nat))
              obtain ⟨d0, d1, d2, d3, d4, d5, d6, d7, d8⟩ := Q2
              have hsI : (s : Int) ≤ 64 := Int.ofNat_le.2 (Nat.le_of_lt (Nat.lt_of_lt_of_le hlt hS))
              clear Q9 QM hB6
              go_wp2
              go_roundw
              case rel => exact ⟨s + 1, by go_num, hlt, RM, R2, R9, hB7⟩
              case measure => simp [intOf]; omega
end Go.Proofs.YtjbaleadahefoaaDoor
