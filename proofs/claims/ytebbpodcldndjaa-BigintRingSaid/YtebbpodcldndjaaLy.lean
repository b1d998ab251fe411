/- BigintRing returns true for any three integers. -/
import Derived.Test.YtebbpodcldndjaaLo
import Derived.Test.YtebbpodcldndjaaLxM
import Derived.Deep.RegionHeld3
import Derived.Deep.DrawnRows
set_option linter.unusedVariables false
namespace Go.Proofs.Ytebbpodcldndjaa
open Go.RowKit
attribute [local go_sem ↓] Go.wp_at_zero Go.wp_at_succ

theorem limZ_zero_y : limZ 0 = (false, 0, 0) := by
  rw [limZ_of (by unfold Vz; show (enc 0).length ≤ 512; rw [enc_zero]; exact Nat.zero_le _)]
  rfl
theorem vz_zero_y : Vz 0 := by unfold Vz; show (enc 0).length ≤ 512; rw [enc_zero]; exact Nat.zero_le _
theorem Zb.drew_y {W w : World} {g : Nat} {L : List Bxe} (h : Zb W w g L) : Zb W.drew w g L := ⟨h.at_.drew, h.lt, h.base⟩
theorem ex_from0_y (W : World) : Calls Try.prog 35 #[.int .i64 0] W (GiveI false 0 W) := fromInt_any 0 W (by omega) (by omega)
theorem vz_one_y : Vz 1 := Nat.le_trans ((length_enc_le 1 1).2 (by decide)) (by omega)

set_option maxRecDepth 100000 in
set_option maxHeartbeats 4000000 in
theorem ring_good2 (B0 : Bool) (A0 : Option Addr) (n0 c0 a : Nat) (B1 : Bool) (A1 : Option Addr) (n1 c1 b : Nat) (B2 : Bool) (A2 : Option Addr) (n2 c2 c : Nat) (w : World) (s0 : Sl w w.heap.size A0 n0 c0 (ml (enc a))) (s1 : Sl w w.heap.size A1 n1 c1 (ml (enc b))) (s2 : Sl w w.heap.size A2 n2 c2 (ml (enc c))) (hva : Vd B0 a) (hvb : Vd B1 b) (hvc : Vd B2 c) :
    Calls Try.prog 10 #[.agg #[.bool B0, .slice A0 n0 c0], .agg #[.bool B1, .slice A1 n1 c1], .agg #[.bool B2, .slice A2 n2 c2]] w fun e w' => e = .returned (.bool true) ∧ Below w.heap.size w w' := by
  have I := three_in w B0 A0 n0 c0 _ B1 A1 n1 c1 _ B2 A2 n2 c2 _ s0 s1 s2
  clear s0 s1 s2
  obtain ⟨p, eB0, ea⟩ : ∃ p : Int, B0 = decide (p < 0) ∧ a = p.natAbs := ⟨zi B0 a, norm_zi _ _ hva.1⟩
  obtain ⟨q, eB1, eb⟩ : ∃ p : Int, B1 = decide (p < 0) ∧ b = p.natAbs := ⟨zi B1 b, norm_zi _ _ hvb.1⟩
  obtain ⟨r, eB2, ec⟩ : ∃ p : Int, B2 = decide (p < 0) ∧ c = p.natAbs := ⟨zi B2 c, norm_zi _ _ hvc.1⟩
  have hp : Vz p := by unfold Vz; rw [← ea]; exact hva.2
  have hq : Vz q := by unfold Vz; rw [← eb]; exact hvb.2
  have hr : Vz r := by unfold Vz; rw [← ec]; exact hvc.2
  obtain ⟨⟨sab, vab, eab⟩, hab⟩ : ∃ t, limZ (p + q) = t := ⟨_, rfl⟩
  obtain ⟨⟨sbc, vbc, ebc⟩, hbc⟩ : ∃ t, limZ (q + r) = t := ⟨_, rfl⟩
  obtain ⟨⟨sp, vp, ep⟩, hpq⟩ : ∃ t, limZ (p * q) = t := ⟨_, rfl⟩
  obtain ⟨⟨sr, vr, er⟩, hqr⟩ : ∃ t, limZ (q * r) = t := ⟨_, rfl⟩
  obtain ⟨⟨sac, vac, eac⟩, hac⟩ : ∃ t, limZ (p * r) = t := ⟨_, rfl⟩
  obtain ⟨⟨sd, vd, ed⟩, hd⟩ : ∃ t, limZ (p - q) = t := ⟨_, rfl⟩
  obtain ⟨snb, hsnb⟩ : ∃ t, decide (-q < 0) = t := ⟨_, rfl⟩
  obtain ⟨vnb, hvnb⟩ : ∃ t, (-q).natAbs = t := ⟨_, rfl⟩
  obtain ⟨sna, hsna⟩ : ∃ t, decide (-p < 0) = t := ⟨_, rfl⟩
  obtain ⟨vna, hvna⟩ : ∃ t, (-p).natAbs = t := ⟨_, rfl⟩
  have Cab : Hid (C2 15 B0 a B1 b (GiveE sab vab eab)) := by show C2 _ _ _ _ _ _; rw [eB0, ea, eB1, eb]; exact addC hp hq hab
  have Cba : Hid (C2 15 B1 b B0 a (GiveE sab vab eab)) := by show C2 _ _ _ _ _ _; rw [eB0, ea, eB1, eb]; exact addC hq hp (by rw [Int.add_comm]; exact hab)
  have Cbc : Hid (C2 15 B1 b B2 c (GiveE sbc vbc ebc)) := by show C2 _ _ _ _ _ _; rw [eB1, eb, eB2, ec]; exact addC hq hr hbc
  have Cp : Hid (C2 25 B0 a B1 b (GiveE sp vp ep)) := by show C2 _ _ _ _ _ _; rw [eB0, ea, eB1, eb]; exact mulC hp hq hpq
  have Cq : Hid (C2 25 B1 b B0 a (GiveE sp vp ep)) := by show C2 _ _ _ _ _ _; rw [eB0, ea, eB1, eb]; exact mulC hq hp (by rw [Int.mul_comm]; exact hpq)
  have Cr : Hid (C2 25 B1 b B2 c (GiveE sr vr er)) := by show C2 _ _ _ _ _ _; rw [eB1, eb, eB2, ec]; exact mulC hq hr hqr
  have Cac : Hid (C2 25 B0 a B2 c (GiveE sac vac eac)) := by show C2 _ _ _ _ _ _; rw [eB0, ea, eB2, ec]; exact mulC hp hr hac
  have F1 : Hid (eab = 0 → ebc = 0 → ∃ s1 v1 e1, C2 15 sab vab B2 c (GiveE s1 v1 e1) ∧ C2 15 B0 a sbc vbc (GiveE s1 v1 e1)) := by
    intro h1 h2
    rw [h1] at hab
    rw [h2] at hbc
    obtain ⟨f1, f2, f3⟩ := lim_fits hab
    obtain ⟨g1, g2, g3⟩ := lim_fits hbc
    obtain ⟨⟨s1, v1, e1⟩, h⟩ : ∃ t, limZ (p + q + r) = t := ⟨_, rfl⟩
    refine ⟨s1, v1, e1, ?_, ?_⟩
    · rw [f2, f3, eB2, ec]; exact addC f1 hr h
    · rw [eB0, ea, g2, g3]; exact addC hp g1 (by rw [← Int.add_assoc]; exact h)
  have F2 : Hid (ep = 0 → er = 0 → ∃ s1 v1 e1, C2 25 sp vp B2 c (GiveE s1 v1 e1) ∧ C2 25 B0 a sr vr (GiveE s1 v1 e1)) := by
    intro h1 h2
    rw [h1] at hpq
    rw [h2] at hqr
    obtain ⟨f1, f2, f3⟩ := lim_fits hpq
    obtain ⟨g1, g2, g3⟩ := lim_fits hqr
    obtain ⟨⟨s1, v1, e1⟩, h⟩ : ∃ t, limZ (p * q * r) = t := ⟨_, rfl⟩
    refine ⟨s1, v1, e1, ?_, ?_⟩
    · rw [f2, f3, eB2, ec]; exact mulC f1 hr h
    · rw [eB0, ea, g2, g3]; exact mulC hp g1 (by rw [← Int.mul_assoc]; exact h)
  have F3 : Hid (ep = 0 → ebc = 0 → eac = 0 → ∃ s1 v1 e1, C2 25 B0 a sbc vbc (GiveE s1 v1 e1) ∧ C2 15 sp vp sac vac (GiveE s1 v1 e1)) := by
    intro h1 h2 h3
    rw [h1] at hpq
    rw [h2] at hbc
    rw [h3] at hac
    obtain ⟨f1, f2, f3⟩ := lim_fits hpq
    obtain ⟨g1, g2, g3⟩ := lim_fits hbc
    obtain ⟨i1, i2, i3⟩ := lim_fits hac
    obtain ⟨⟨s1, v1, e1⟩, h⟩ : ∃ t, limZ (p * (q + r)) = t := ⟨_, rfl⟩
    refine ⟨s1, v1, e1, ?_, ?_⟩
    · rw [eB0, ea, g2, g3]; exact mulC hp g1 h
    · rw [f2, f3, i2, i3]; exact addC f1 i1 (by rw [← Int.mul_add]; exact h)
  have Cd : Hid (C2 17 B0 a B1 b (GiveE sd vd ed)) := by show C2 _ _ _ _ _ _; rw [eB0, ea, eB1, eb]; exact subC hp hq hd
  have Cnb : Hid (C1 20 B1 b (GiveI snb vnb)) := by show C1 _ _ _ _; rw [eB1, eb, ← hsnb, ← hvnb]; exact negC hq
  have Cs : Hid (C2 15 B0 a snb vnb (GiveE sd vd ed)) := by show C2 _ _ _ _ _ _; rw [eB0, ea, ← hsnb, ← hvnb]; exact addC hp (vz_neg hq) (by rw [← Int.sub_eq_add_neg]; exact hd)
  have Cna : Hid (C1 20 B0 a (GiveI sna vna)) := by show C1 _ _ _ _; rw [eB0, ea, ← hsna, ← hvna]; exact negC hp
  have Cz : Hid (C2 15 B0 a sna vna (GiveE false 0 0)) := by show C2 _ _ _ _ _ _; rw [eB0, ea, ← hsna, ← hvna]; exact addC hp (vz_neg hp) (by rw [Int.add_right_neg]; exact limZ_zero_y)
  have Cu : Hid (C2 25 B0 a false 1 (GiveE B0 a 0)) := by show C2 _ _ _ _ _ _; rw [eB0, ea]; exact mulC (q := 1) hp vz_one_y (by rw [Int.mul_one]; exact limZ_of hp)
  have Cw : Hid (C2 15 B0 a false 0 (GiveE B0 a 0)) := by show C2 _ _ _ _ _ _; rw [eB0, ea]; exact addC (q := 0) hp vz_zero_y (by rw [Int.add_zero]; exact limZ_of hp)
  clear hab hbc hpq hqr hac hd hsnb hvnb hsna hvna hp hq hr eB0 ea eB1 eb eB2 ec
  have HV := Lib.hid (And.intro hva (And.intro hvb hvc))
  have H := ((((Bs.mk (fun x hx => absurd hx (by simp)) I.bel) : Bs _ w []).cons ⟨I.c.at_, I.c.sl⟩).cons ⟨I.b.at_, I.b.sl⟩).cons ⟨I.a.at_, I.a.sl⟩
  clear I hva hvb hvc
  go_enter Try.func10, Try.ntmps10
  go_wp2_with fail
  refine (valid_true HV.out.1 H.hd.sl).mono ?_
  rintro e wv1 ⟨rfl, hb⟩
  replace H := H.next hb
  clear hb
  obtain ⟨k1, k2⟩ := H.tl.hd.cells
  go_wp2_with fail
  refine (valid_true HV.out.2.1 H.tl.hd.sl).mono ?_
  rintro e wv2 ⟨rfl, hb⟩
  replace H := H.next hb
  clear hb k1 k2
  obtain ⟨k1, k2⟩ := H.tl.tl.hd.cells
  go_wp2_with fail
  refine (valid_true HV.out.2.2 H.tl.tl.hd.sl).mono ?_
  rintro e wv3 ⟨rfl, hb⟩
  replace H := H.next hb
  clear hb k1 k2
  obtain ⟨k1, k2⟩ := H.hd.cells
  obtain ⟨k3, k4⟩ := H.tl.hd.cells
  go_wp2_with fail
  refine (Cab.out _ _ _ _ _ _ _ H.hd.sl H.tl.hd.sl).mono ?_
  intro e wc4 h
  obtain ⟨Ar4, nr4, cr4, rfl, hsr, hbr⟩ := giveE_out h
  replace H := H.add (s := sab) hbr hsr
  clear h hsr hbr k1 k2 k3 k4
  obtain ⟨k1, k2⟩ := H.tl.tl.hd.cells
  obtain ⟨k3, k4⟩ := H.tl.hd.cells
  go_wp2_with fail
  refine (Cba.out _ _ _ _ _ _ _ H.tl.tl.hd.sl H.tl.hd.sl).mono ?_
  intro e wc5 h
  obtain ⟨Ar5, nr5, cr5, rfl, hsr, hbr⟩ := giveE_out h
  replace H := H.add (s := sab) hbr hsr
  clear h hsr hbr k1 k2 k3 k4
  obtain ⟨k1, k2⟩ := H.tl.tl.tl.hd.cells
  obtain ⟨k3, k4⟩ := H.tl.tl.tl.tl.hd.cells
  go_wp2_with fail
  refine (Cbc.out _ _ _ _ _ _ _ H.tl.tl.tl.hd.sl H.tl.tl.tl.tl.hd.sl).mono ?_
  intro e wc6 h
  obtain ⟨Ar6, nr6, cr6, rfl, hsr, hbr⟩ := giveE_out h
  replace H := H.add (s := sbc) hbr hsr
  clear h hsr hbr k1 k2 k3 k4
  obtain ⟨k1, k2⟩ := H.tl.tl.tl.hd.cells
  obtain ⟨k3, k4⟩ := H.tl.tl.tl.tl.hd.cells
  go_wp2_with fail
  refine (Cp.out _ _ _ _ _ _ _ H.tl.tl.tl.hd.sl H.tl.tl.tl.tl.hd.sl).mono ?_
  intro e wc7 h
  obtain ⟨Ar7, nr7, cr7, rfl, hsr, hbr⟩ := giveE_out h
  replace H := H.add (s := sp) hbr hsr
  clear h hsr hbr k1 k2 k3 k4
  obtain ⟨k1, k2⟩ := H.tl.tl.tl.tl.tl.hd.cells
  obtain ⟨k3, k4⟩ := H.tl.tl.tl.tl.hd.cells
  go_wp2_with fail
  refine (Cq.out _ _ _ _ _ _ _ H.tl.tl.tl.tl.tl.hd.sl H.tl.tl.tl.tl.hd.sl).mono ?_
  intro e wc8 h
  obtain ⟨Ar8, nr8, cr8, rfl, hsr, hbr⟩ := giveE_out h
  replace H := H.add (s := sp) hbr hsr
  clear h hsr hbr k1 k2 k3 k4
  obtain ⟨k1, k2⟩ := H.tl.tl.tl.tl.tl.tl.hd.cells
  obtain ⟨k3, k4⟩ := H.tl.tl.tl.tl.tl.tl.tl.hd.cells
  go_wp2_with fail
  refine (Cr.out _ _ _ _ _ _ _ H.tl.tl.tl.tl.tl.tl.hd.sl H.tl.tl.tl.tl.tl.tl.tl.hd.sl).mono ?_
  intro e wc9 h
  obtain ⟨Ar9, nr9, cr9, rfl, hsr, hbr⟩ := giveE_out h
  replace H := H.add (s := sr) hbr hsr
  clear h hsr hbr k1 k2 k3 k4
  obtain ⟨k1, k2⟩ := H.tl.tl.tl.tl.tl.hd.cells
  obtain ⟨k3, k4⟩ := H.tl.tl.tl.tl.hd.cells
  go_wp2_with fail
  refine (same_eq _ _ _ _ _ H.tl.tl.tl.tl.tl.hd.zi H.tl.tl.tl.tl.hd.zi).mono ?_
  rintro e ws10 ⟨rfl, hb⟩
  replace H := H.next hb
  clear hb k1 k2 k3 k4
  obtain ⟨k1, k2⟩ := H.tl.tl.hd.cells
  obtain ⟨k3, k4⟩ := H.tl.hd.cells
  go_wp2_with fail
  refine (same_eq _ _ _ _ _ H.tl.tl.hd.zi H.tl.hd.zi).mono ?_
  rintro e ws11 ⟨rfl, hb⟩
  replace H := H.next hb
  clear hb k1 k2 k3 k4
  go_upto_region 11 with fail
  go_cut [118] (fun s118 wx => s118 = .bool (decide (eab = 0 ∧ ebc = 0)) ∧ Bs wx w ((wc9.heap.size, sr, vr, Ar9, nr9, cr9) :: (wc8.heap.size, sp, vp, Ar8, nr8, cr8) :: (wc7.heap.size, sp, vp, Ar7, nr7, cr7) :: (wc6.heap.size, sbc, vbc, Ar6, nr6, cr6) :: (wc5.heap.size, sab, vab, Ar5, nr5, cr5) :: (wc4.heap.size, sab, vab, Ar4, nr4, cr4) :: (w.heap.size, B0, a, A0, n0, c0) :: (w.heap.size + 1, B1, b, A1, n1, c1) :: (w.heap.size + 2, B2, c, A2, n2, c2) :: []))
  case first => as_aux_lemma =>
    by_cases h0 : eab = 0
    · have hh0 : (eab == 0) = true := by rw [h0]; rfl
      by_cases h1 : ebc = 0
      · have hh : (ebc == 0) = true := by rw [h1]; rfl
        have hd : decide (eab = 0 ∧ ebc = 0) = true := decide_eq_true ⟨h0, h1⟩
        have HD := Lib.hid hd
        clear hd h0 h1
        go_wp2_with fail
        go_meet
        exact ⟨congrArg Value.bool HD.out.symm, H⟩
      · have hh : (ebc == 0) = false := beq_eq_false_iff_ne.2 h1
        have hd : decide (eab = 0 ∧ ebc = 0) = false := decide_eq_false (fun h => h1 h.2)
        have HD := Lib.hid hd
        clear hd h0 h1
        go_wp2_with fail
        go_meet
        exact ⟨congrArg Value.bool HD.out.symm, H⟩
    · have hh : (eab == 0) = false := beq_eq_false_iff_ne.2 h0
      have hd : decide (eab = 0 ∧ ebc = 0) = false := decide_eq_false (fun h => h0 h.1)
      have HD := Lib.hid hd
      clear hd h0
      go_wp2_with fail
      go_meet
      exact ⟨congrArg Value.bool HD.out.symm, H⟩
  case rest => as_aux_lemma =>
    obtain ⟨rfl, K⟩ := hcut
    clear H
    obtain ⟨b1, hb1⟩ : ∃ b1, decide (eab = 0 ∧ ebc = 0) = b1 := ⟨_, rfl⟩
    rw [hb1]
    have HB1 := Lib.hid hb1
    clear hb1
    go_upto_if 118 with fail
    go_cut [] (fun wx => Bs wx w ((wc9.heap.size, sr, vr, Ar9, nr9, cr9) :: (wc8.heap.size, sp, vp, Ar8, nr8, cr8) :: (wc7.heap.size, sp, vp, Ar7, nr7, cr7) :: (wc6.heap.size, sbc, vbc, Ar6, nr6, cr6) :: (wc5.heap.size, sab, vab, Ar5, nr5, cr5) :: (wc4.heap.size, sab, vab, Ar4, nr4, cr4) :: (w.heap.size, B0, a, A0, n0, c0) :: (w.heap.size + 1, B1, b, A1, n1, c1) :: (w.heap.size + 2, B2, c, A2, n2, c2) :: []))
    case first => as_aux_lemma =>
      cases b1
      · go_wp2_with fail
        go_meet
        exact K
      · have hh := of_decide_eq_true HB1.out
        obtain ⟨s1, v1, e1, C, C'⟩ := F1.out hh.1 hh.2
        have HC := Lib.hid C
        have HC' := Lib.hid C'
        clear C C' hh
        obtain ⟨k1, k2⟩ := K.tl.tl.tl.tl.tl.hd.cells
        obtain ⟨k3, k4⟩ := K.tl.tl.tl.tl.tl.tl.tl.tl.hd.cells
        go_wp2_with fail
        refine (HC.out _ _ _ _ _ _ _ K.tl.tl.tl.tl.tl.hd.sl K.tl.tl.tl.tl.tl.tl.tl.tl.hd.sl).mono ?_
        intro e wc12 h
        obtain ⟨Ar12, nr12, cr12, rfl, hsr, hbr⟩ := giveE_out h
        replace K := K.add (s := s1) hbr hsr
        clear h hsr hbr k1 k2 k3 k4
        obtain ⟨k1, k2⟩ := K.tl.tl.tl.tl.tl.tl.tl.hd.cells
        obtain ⟨k3, k4⟩ := K.tl.tl.tl.tl.hd.cells
        go_wp2_with fail
        refine (HC'.out _ _ _ _ _ _ _ K.tl.tl.tl.tl.tl.tl.tl.hd.sl K.tl.tl.tl.tl.hd.sl).mono ?_
        intro e wc13 h
        obtain ⟨Ar13, nr13, cr13, rfl, hsr, hbr⟩ := giveE_out h
        replace K := K.add (s := s1) hbr hsr
        clear h hsr hbr k1 k2 k3 k4
        obtain ⟨k1, k2⟩ := K.tl.hd.cells
        obtain ⟨k3, k4⟩ := K.hd.cells
        go_wp2_with fail
        refine (equal_eq s1 v1 e1 _ _ _ _ _ _ _ K.tl.hd.sl K.hd.sl).mono ?_
        rintro e we ⟨rfl, hb⟩
        replace K := K.next hb
        clear hb k1 k2 k3 k4
        go_wp2_with fail
        go_meet
        exact K.tl.tl
    case rest => as_aux_lemma =>
      have H := hcut
      clear hcut K HB1 F1
      go_upto_region 16 with fail
      go_cut [142] (fun s142 wx => s142 = .bool (decide (ep = 0 ∧ er = 0)) ∧ Bs wx w ((wc9.heap.size, sr, vr, Ar9, nr9, cr9) :: (wc8.heap.size, sp, vp, Ar8, nr8, cr8) :: (wc7.heap.size, sp, vp, Ar7, nr7, cr7) :: (wc6.heap.size, sbc, vbc, Ar6, nr6, cr6) :: (wc5.heap.size, sab, vab, Ar5, nr5, cr5) :: (wc4.heap.size, sab, vab, Ar4, nr4, cr4) :: (w.heap.size, B0, a, A0, n0, c0) :: (w.heap.size + 1, B1, b, A1, n1, c1) :: (w.heap.size + 2, B2, c, A2, n2, c2) :: []))
      case first => as_aux_lemma =>
        by_cases h0 : ep = 0
        · have hh0 : (ep == 0) = true := by rw [h0]; rfl
          by_cases h1 : er = 0
          · have hh : (er == 0) = true := by rw [h1]; rfl
            have hd : decide (ep = 0 ∧ er = 0) = true := decide_eq_true ⟨h0, h1⟩
            have HD := Lib.hid hd
            clear hd h0 h1
            go_wp2_with fail
            go_meet
            exact ⟨congrArg Value.bool HD.out.symm, H⟩
          · have hh : (er == 0) = false := beq_eq_false_iff_ne.2 h1
            have hd : decide (ep = 0 ∧ er = 0) = false := decide_eq_false (fun h => h1 h.2)
            have HD := Lib.hid hd
            clear hd h0 h1
            go_wp2_with fail
            go_meet
            exact ⟨congrArg Value.bool HD.out.symm, H⟩
        · have hh : (ep == 0) = false := beq_eq_false_iff_ne.2 h0
          have hd : decide (ep = 0 ∧ er = 0) = false := decide_eq_false (fun h => h0 h.1)
          have HD := Lib.hid hd
          clear hd h0
          go_wp2_with fail
          go_meet
          exact ⟨congrArg Value.bool HD.out.symm, H⟩
      case rest => as_aux_lemma =>
        obtain ⟨rfl, K⟩ := hcut
        clear H
        obtain ⟨b1, hb1⟩ : ∃ b1, decide (ep = 0 ∧ er = 0) = b1 := ⟨_, rfl⟩
        rw [hb1]
        have HB1 := Lib.hid hb1
        clear hb1
        go_upto_if 142 with fail
        go_cut [] (fun wx => Bs wx w ((wc9.heap.size, sr, vr, Ar9, nr9, cr9) :: (wc8.heap.size, sp, vp, Ar8, nr8, cr8) :: (wc7.heap.size, sp, vp, Ar7, nr7, cr7) :: (wc6.heap.size, sbc, vbc, Ar6, nr6, cr6) :: (wc5.heap.size, sab, vab, Ar5, nr5, cr5) :: (wc4.heap.size, sab, vab, Ar4, nr4, cr4) :: (w.heap.size, B0, a, A0, n0, c0) :: (w.heap.size + 1, B1, b, A1, n1, c1) :: (w.heap.size + 2, B2, c, A2, n2, c2) :: []))
        case first => as_aux_lemma =>
          cases b1
          · go_wp2_with fail
            go_meet
            exact K
          · have hh := of_decide_eq_true HB1.out
            obtain ⟨s1, v1, e1, C, C'⟩ := F2.out hh.1 hh.2
            have HC := Lib.hid C
            have HC' := Lib.hid C'
            clear C C' hh
            obtain ⟨k1, k2⟩ := K.tl.tl.hd.cells
            obtain ⟨k3, k4⟩ := K.tl.tl.tl.tl.tl.tl.tl.tl.hd.cells
            go_wp2_with fail
            refine (HC.out _ _ _ _ _ _ _ K.tl.tl.hd.sl K.tl.tl.tl.tl.tl.tl.tl.tl.hd.sl).mono ?_
            intro e wc14 h
            obtain ⟨Ar14, nr14, cr14, rfl, hsr, hbr⟩ := giveE_out h
            replace K := K.add (s := s1) hbr hsr
            clear h hsr hbr k1 k2 k3 k4
            obtain ⟨k1, k2⟩ := K.tl.tl.tl.tl.tl.tl.tl.hd.cells
            obtain ⟨k3, k4⟩ := K.tl.hd.cells
            go_wp2_with fail
            refine (HC'.out _ _ _ _ _ _ _ K.tl.tl.tl.tl.tl.tl.tl.hd.sl K.tl.hd.sl).mono ?_
            intro e wc15 h
            obtain ⟨Ar15, nr15, cr15, rfl, hsr, hbr⟩ := giveE_out h
            replace K := K.add (s := s1) hbr hsr
            clear h hsr hbr k1 k2 k3 k4
            obtain ⟨k1, k2⟩ := K.tl.hd.cells
            obtain ⟨k3, k4⟩ := K.hd.cells
            go_wp2_with fail
            refine (equal_eq s1 v1 e1 _ _ _ _ _ _ _ K.tl.hd.sl K.hd.sl).mono ?_
            rintro e we ⟨rfl, hb⟩
            replace K := K.next hb
            clear hb k1 k2 k3 k4
            go_wp2_with fail
            go_meet
            exact K.tl.tl
        case rest => as_aux_lemma =>
          have H := hcut
          clear hcut K HB1 F2
          obtain ⟨k1, k2⟩ := H.tl.tl.tl.tl.tl.tl.hd.cells
          obtain ⟨k3, k4⟩ := H.tl.tl.tl.tl.tl.tl.tl.tl.hd.cells
          go_wp2_with fail
          refine (Cac.out _ _ _ _ _ _ _ H.tl.tl.tl.tl.tl.tl.hd.sl H.tl.tl.tl.tl.tl.tl.tl.tl.hd.sl).mono ?_
          intro e wc16 h
          obtain ⟨Ar16, nr16, cr16, rfl, hsr, hbr⟩ := giveE_out h
          replace H := H.add (s := sac) hbr hsr
          clear h hsr hbr k1 k2 k3 k4
          go_upto_region 22 with fail
          go_cut [176] (fun s176 wx => s176 = .bool (decide (ep = 0 ∧ ebc = 0 ∧ eac = 0)) ∧ Bs wx w ((wc16.heap.size, sac, vac, Ar16, nr16, cr16) :: (wc9.heap.size, sr, vr, Ar9, nr9, cr9) :: (wc8.heap.size, sp, vp, Ar8, nr8, cr8) :: (wc7.heap.size, sp, vp, Ar7, nr7, cr7) :: (wc6.heap.size, sbc, vbc, Ar6, nr6, cr6) :: (wc5.heap.size, sab, vab, Ar5, nr5, cr5) :: (wc4.heap.size, sab, vab, Ar4, nr4, cr4) :: (w.heap.size, B0, a, A0, n0, c0) :: (w.heap.size + 1, B1, b, A1, n1, c1) :: (w.heap.size + 2, B2, c, A2, n2, c2) :: []))
          case first => as_aux_lemma =>
            by_cases h0 : ep = 0
            · have hh0 : (ep == 0) = true := by rw [h0]; rfl
              by_cases h1 : ebc = 0
              · have hh1 : (ebc == 0) = true := by rw [h1]; rfl
                by_cases h2 : eac = 0
                · have hh : (eac == 0) = true := by rw [h2]; rfl
                  have hd : decide (ep = 0 ∧ ebc = 0 ∧ eac = 0) = true := decide_eq_true ⟨h0, h1, h2⟩
                  have HD := Lib.hid hd
                  clear hd h0 h1 h2
                  go_wp2_with fail
                  go_meet
                  exact ⟨congrArg Value.bool HD.out.symm, H⟩
                · have hh : (eac == 0) = false := beq_eq_false_iff_ne.2 h2
                  have hd : decide (ep = 0 ∧ ebc = 0 ∧ eac = 0) = false := decide_eq_false (fun h => h2 h.2.2)
                  have HD := Lib.hid hd
                  clear hd h0 h1 h2
                  go_wp2_with fail
                  go_meet
                  exact ⟨congrArg Value.bool HD.out.symm, H⟩
              · have hh : (ebc == 0) = false := beq_eq_false_iff_ne.2 h1
                have hd : decide (ep = 0 ∧ ebc = 0 ∧ eac = 0) = false := decide_eq_false (fun h => h1 h.2.1)
                have HD := Lib.hid hd
                clear hd h0 h1
                go_wp2_with fail
                go_meet
                exact ⟨congrArg Value.bool HD.out.symm, H⟩
            · have hh : (ep == 0) = false := beq_eq_false_iff_ne.2 h0
              have hd : decide (ep = 0 ∧ ebc = 0 ∧ eac = 0) = false := decide_eq_false (fun h => h0 h.1)
              have HD := Lib.hid hd
              clear hd h0
              go_wp2_with fail
              go_meet
              exact ⟨congrArg Value.bool HD.out.symm, H⟩
          case rest => as_aux_lemma =>
            obtain ⟨rfl, K⟩ := hcut
            clear H
            obtain ⟨b1, hb1⟩ : ∃ b1, decide (ep = 0 ∧ ebc = 0 ∧ eac = 0) = b1 := ⟨_, rfl⟩
            rw [hb1]
            have HB1 := Lib.hid hb1
            clear hb1
            go_upto_if 176 with fail
            go_cut [] (fun wx => Bs wx w ((wc16.heap.size, sac, vac, Ar16, nr16, cr16) :: (wc9.heap.size, sr, vr, Ar9, nr9, cr9) :: (wc8.heap.size, sp, vp, Ar8, nr8, cr8) :: (wc7.heap.size, sp, vp, Ar7, nr7, cr7) :: (wc6.heap.size, sbc, vbc, Ar6, nr6, cr6) :: (wc5.heap.size, sab, vab, Ar5, nr5, cr5) :: (wc4.heap.size, sab, vab, Ar4, nr4, cr4) :: (w.heap.size, B0, a, A0, n0, c0) :: (w.heap.size + 1, B1, b, A1, n1, c1) :: (w.heap.size + 2, B2, c, A2, n2, c2) :: []))
            case first => as_aux_lemma =>
              cases b1
              · go_wp2_with fail
                go_meet
                exact K
              · have hh := of_decide_eq_true HB1.out
                obtain ⟨s1, v1, e1, C, C'⟩ := F3.out hh.1 hh.2.1 hh.2.2
                have HC := Lib.hid C
                have HC' := Lib.hid C'
                clear C C' hh
                obtain ⟨k1, k2⟩ := K.tl.tl.tl.tl.tl.tl.tl.hd.cells
                obtain ⟨k3, k4⟩ := K.tl.tl.tl.tl.hd.cells
                go_wp2_with fail
                refine (HC.out _ _ _ _ _ _ _ K.tl.tl.tl.tl.tl.tl.tl.hd.sl K.tl.tl.tl.tl.hd.sl).mono ?_
                intro e wc17 h
                obtain ⟨Ar17, nr17, cr17, rfl, hsr, hbr⟩ := giveE_out h
                replace K := K.add (s := s1) hbr hsr
                clear h hsr hbr k1 k2 k3 k4
                obtain ⟨k1, k2⟩ := K.tl.tl.tl.tl.hd.cells
                obtain ⟨k3, k4⟩ := K.tl.hd.cells
                go_wp2_with fail
                refine (HC'.out _ _ _ _ _ _ _ K.tl.tl.tl.tl.hd.sl K.tl.hd.sl).mono ?_
                intro e wc18 h
                obtain ⟨Ar18, nr18, cr18, rfl, hsr, hbr⟩ := giveE_out h
                replace K := K.add (s := s1) hbr hsr
                clear h hsr hbr k1 k2 k3 k4
                obtain ⟨k1, k2⟩ := K.tl.hd.cells
                obtain ⟨k3, k4⟩ := K.hd.cells
                go_wp2_with fail
                refine (equal_eq s1 v1 e1 _ _ _ _ _ _ _ K.tl.hd.sl K.hd.sl).mono ?_
                rintro e we ⟨rfl, hb⟩
                replace K := K.next hb
                clear hb k1 k2 k3 k4
                go_wp2_with fail
                go_meet
                exact K.tl.tl
            case rest => as_aux_lemma =>
              have H := hcut
              clear hcut K HB1 F3
              obtain ⟨k1, k2⟩ := H.tl.tl.tl.tl.tl.tl.tl.hd.cells
              obtain ⟨k3, k4⟩ := H.tl.tl.tl.tl.tl.tl.tl.tl.hd.cells
              go_wp2_with fail
              refine (Cd.out _ _ _ _ _ _ _ H.tl.tl.tl.tl.tl.tl.tl.hd.sl H.tl.tl.tl.tl.tl.tl.tl.tl.hd.sl).mono ?_
              intro e wc19 h
              obtain ⟨Ar19, nr19, cr19, rfl, hsr, hbr⟩ := giveE_out h
              replace H := H.add (s := sd) hbr hsr
              clear h hsr hbr k1 k2 k3 k4
              have hga := H.tl.tl.tl.tl.tl.tl.tl.tl.hd.at_.lt
              have hgb := H.tl.tl.tl.tl.tl.tl.tl.tl.tl.hd.at_.lt
              obtain ⟨k1, k2⟩ := H.tl.tl.tl.tl.tl.tl.tl.tl.hd.cells
              obtain ⟨k3, k4⟩ := H.tl.tl.tl.tl.tl.tl.tl.tl.tl.hd.cells
              go_upto_region 28 with fail
              generalize (wc19.alloc (.cells #[.bool sd, .slice Ar19 nr19 cr19] 24)) = WX at H k1 k2 k3 k4 hga hgb ⊢
              go_cut [35, 36] (fun sx sy wx => ∃ (gg : Nat) (AA : Option Addr) (nn cc : Nat), sx = .pointer (some ⟨gg, 0, none⟩) ∧ sy = .int .i64 ed ∧ Bs wx w ((gg, sd, vd, AA, nn, cc) :: ((wc19.heap.size, sd, vd, Ar19, nr19, cr19) :: (wc16.heap.size, sac, vac, Ar16, nr16, cr16) :: (wc9.heap.size, sr, vr, Ar9, nr9, cr9) :: (wc8.heap.size, sp, vp, Ar8, nr8, cr8) :: (wc7.heap.size, sp, vp, Ar7, nr7, cr7) :: (wc6.heap.size, sbc, vbc, Ar6, nr6, cr6) :: (wc5.heap.size, sab, vab, Ar5, nr5, cr5) :: (wc4.heap.size, sab, vab, Ar4, nr4, cr4) :: (w.heap.size, B0, a, A0, n0, c0) :: (w.heap.size + 1, B1, b, A1, n1, c1) :: (w.heap.size + 2, B2, c, A2, n2, c2) :: [])))
              case first => as_aux_lemma =>
                go_region_held3 (fun W => (W.cell? ⟨w.heap.size, 0, none⟩ = some (.bool B0) ∧ W.cell? ⟨w.heap.size, 1, none⟩ = some (.slice A0 n0 c0)) ∧ (W.cell? ⟨w.heap.size + 1, 0, none⟩ = some (.bool B1) ∧ W.cell? ⟨w.heap.size + 1, 1, none⟩ = some (.slice A1 n1 c1)))
                  (first | (with_reducible exact ⟨⟨k1, k2⟩, ⟨k3, k4⟩⟩) | (with_reducible exact ⟨keepA ⟨k1, k2⟩ _, keepA ⟨k3, k4⟩ _⟩) | (with_reducible exact ⟨keepD ⟨k1, k2⟩, keepD ⟨k3, k4⟩⟩) | (with_reducible exact ⟨keepD (keepA ⟨k1, k2⟩ _), keepD (keepA ⟨k3, k4⟩ _)⟩) | (with_reducible exact ⟨keep2 ⟨k1, k2⟩ (by omega) _ _, keep2 ⟨k3, k4⟩ (by omega) _ _⟩) | (with_reducible exact ⟨keepA (keep2 ⟨k1, k2⟩ (by omega) _ _) _, keepA (keep2 ⟨k3, k4⟩ (by omega) _ _) _⟩) | (with_reducible exact ⟨keep2 (keepA ⟨k1, k2⟩ _) (by omega) _ _, keep2 (keepA ⟨k3, k4⟩ _) (by omega) _ _⟩) | (with_reducible exact ⟨keepD (keep2 ⟨k1, k2⟩ (by omega) _ _), keepD (keep2 ⟨k3, k4⟩ (by omega) _ _)⟩))
                  (first
                  | (go_at_call 20; (first | (with_reducible refine (Cnb.out _ _ _ _ H.drew.tl.tl.tl.tl.tl.tl.tl.tl.tl.hd.sl).mono ?_) | (with_reducible refine (Cnb.out _ _ _ _ (H.next (below_new _ _)).drew.tl.tl.tl.tl.tl.tl.tl.tl.tl.hd.sl).mono ?_)); intro e wa h; obtain ⟨Aq, nq, cq, rfl, hsq, hbq⟩ := giveI_out h; clear h k1 k2 k3 k4
                     (first
                      | (have J : Bs wa w ((wc19.heap.size, sd, vd, Ar19, nr19, cr19) :: (wc16.heap.size, sac, vac, Ar16, nr16, cr16) :: (wc9.heap.size, sr, vr, Ar9, nr9, cr9) :: (wc8.heap.size, sp, vp, Ar8, nr8, cr8) :: (wc7.heap.size, sp, vp, Ar7, nr7, cr7) :: (wc6.heap.size, sbc, vbc, Ar6, nr6, cr6) :: (wc5.heap.size, sab, vab, Ar5, nr5, cr5) :: (wc4.heap.size, sab, vab, Ar4, nr4, cr4) :: (w.heap.size, B0, a, A0, n0, c0) :: (w.heap.size + 1, B1, b, A1, n1, c1) :: (w.heap.size + 2, B2, c, A2, n2, c2) :: []) := by with_reducible exact H.drew.next hbq)
                      | (have J : Bs wa w ((wc19.heap.size, sd, vd, Ar19, nr19, cr19) :: (wc16.heap.size, sac, vac, Ar16, nr16, cr16) :: (wc9.heap.size, sr, vr, Ar9, nr9, cr9) :: (wc8.heap.size, sp, vp, Ar8, nr8, cr8) :: (wc7.heap.size, sp, vp, Ar7, nr7, cr7) :: (wc6.heap.size, sbc, vbc, Ar6, nr6, cr6) :: (wc5.heap.size, sab, vab, Ar5, nr5, cr5) :: (wc4.heap.size, sab, vab, Ar4, nr4, cr4) :: (w.heap.size, B0, a, A0, n0, c0) :: (w.heap.size + 1, B1, b, A1, n1, c1) :: (w.heap.size + 2, B2, c, A2, n2, c2) :: []) := (by with_reducible exact (H.next (below_new _ _)).drew.next hbq); have z1 := (Zb.drew_y (Zb.new H)).next hbq))
                     clear H hbq; (try (have lz := z1.at_.lt)); have hga := J.tl.tl.tl.tl.tl.tl.tl.tl.hd.at_.lt; have hgb := J.tl.tl.tl.tl.tl.tl.tl.tl.tl.hd.at_.lt; obtain ⟨k1, k2⟩ := J.tl.tl.tl.tl.tl.tl.tl.tl.hd.cells; obtain ⟨k3, k4⟩ := J.tl.tl.tl.tl.tl.tl.tl.tl.tl.hd.cells)
                  | (go_at_call 15; (first | (with_reducible refine (Cs.out _ _ _ _ _ _ _ J.tl.tl.tl.tl.tl.tl.tl.tl.hd.sl hsq).mono ?_) | (with_reducible refine (Cs.out _ _ _ _ _ _ _ (J.tl.tl.tl.tl.tl.tl.tl.tl.hd.next (below_new _ _)).sl (hsq.next (below_new _ _))).mono ?_)); intro e wb h; obtain ⟨Ap, np, cp, rfl, hsp, hbp⟩ := giveE_out h; clear h k1 k2 k3 k4
                     (first
                      | (have J2 : Bs wb w ((wc19.heap.size, sd, vd, Ar19, nr19, cr19) :: (wc16.heap.size, sac, vac, Ar16, nr16, cr16) :: (wc9.heap.size, sr, vr, Ar9, nr9, cr9) :: (wc8.heap.size, sp, vp, Ar8, nr8, cr8) :: (wc7.heap.size, sp, vp, Ar7, nr7, cr7) :: (wc6.heap.size, sbc, vbc, Ar6, nr6, cr6) :: (wc5.heap.size, sab, vab, Ar5, nr5, cr5) :: (wc4.heap.size, sab, vab, Ar4, nr4, cr4) :: (w.heap.size, B0, a, A0, n0, c0) :: (w.heap.size + 1, B1, b, A1, n1, c1) :: (w.heap.size + 2, B2, c, A2, n2, c2) :: []) := (by with_reducible exact J.next hbp); (try (have z2 := z1.next hbp)))
                      | (have J2 : Bs wb w ((wc19.heap.size, sd, vd, Ar19, nr19, cr19) :: (wc16.heap.size, sac, vac, Ar16, nr16, cr16) :: (wc9.heap.size, sr, vr, Ar9, nr9, cr9) :: (wc8.heap.size, sp, vp, Ar8, nr8, cr8) :: (wc7.heap.size, sp, vp, Ar7, nr7, cr7) :: (wc6.heap.size, sbc, vbc, Ar6, nr6, cr6) :: (wc5.heap.size, sab, vab, Ar5, nr5, cr5) :: (wc4.heap.size, sab, vab, Ar4, nr4, cr4) :: (w.heap.size, B0, a, A0, n0, c0) :: (w.heap.size + 1, B1, b, A1, n1, c1) :: (w.heap.size + 2, B2, c, A2, n2, c2) :: []) := (by with_reducible exact (J.next (below_new _ _)).next hbp); have z2 := (Zb.new J).next hbp))
                     (try clear z1); clear J hbp hsq; (try (have lz2 := z2.at_.lt)); have hga := J2.tl.tl.tl.tl.tl.tl.tl.tl.hd.at_.lt; have hgb := J2.tl.tl.tl.tl.tl.tl.tl.tl.tl.hd.at_.lt; (try (obtain ⟨f1, f2, f3, f4⟩ := z2.at_.facts)); obtain ⟨k1, k2⟩ := J2.tl.tl.tl.tl.tl.tl.tl.tl.hd.cells; obtain ⟨k3, k4⟩ := J2.tl.tl.tl.tl.tl.tl.tl.tl.tl.hd.cells))
                all_goals
                  go_wp2_with fail
                  go_meet
                  first
                    | exact ⟨_, Ap, np, cp, rfl, rfl, J2.put z2 hsp⟩
                    | exact ⟨_, Ap, np, cp, rfl, rfl, J2.add (Below.refl _ _) hsp⟩
              case rest => as_aux_lemma =>
                obtain ⟨g20, Ag20, ng20, cg20, rfl, rfl, K⟩ := hcut
                clear H k1 k2 k3 k4 hga hgb
                have H := K
                clear K
                have hga := H.tl.tl.tl.tl.tl.tl.tl.tl.tl.hd.at_.lt
                have hgb := H.tl.tl.tl.tl.tl.tl.tl.tl.tl.hd.at_.lt
                obtain ⟨k1, k2⟩ := H.tl.tl.tl.tl.tl.tl.tl.tl.tl.hd.cells
                obtain ⟨k3, k4⟩ := H.tl.tl.tl.tl.tl.tl.tl.tl.tl.hd.cells
                go_upto_region 29 with fail
                go_cut [37, 38] (fun sx sy wx => ∃ (gg : Nat) (AA : Option Addr) (nn cc : Nat), sx = .pointer (some ⟨gg, 0, none⟩) ∧ sy = .int .i64 0 ∧ Bs wx w ((gg, false, 0, AA, nn, cc) :: ((g20, sd, vd, Ag20, ng20, cg20) :: (wc19.heap.size, sd, vd, Ar19, nr19, cr19) :: (wc16.heap.size, sac, vac, Ar16, nr16, cr16) :: (wc9.heap.size, sr, vr, Ar9, nr9, cr9) :: (wc8.heap.size, sp, vp, Ar8, nr8, cr8) :: (wc7.heap.size, sp, vp, Ar7, nr7, cr7) :: (wc6.heap.size, sbc, vbc, Ar6, nr6, cr6) :: (wc5.heap.size, sab, vab, Ar5, nr5, cr5) :: (wc4.heap.size, sab, vab, Ar4, nr4, cr4) :: (w.heap.size, B0, a, A0, n0, c0) :: (w.heap.size + 1, B1, b, A1, n1, c1) :: (w.heap.size + 2, B2, c, A2, n2, c2) :: [])))
                case first => as_aux_lemma =>
                  go_region_held3 (fun W => (W.cell? ⟨w.heap.size, 0, none⟩ = some (.bool B0) ∧ W.cell? ⟨w.heap.size, 1, none⟩ = some (.slice A0 n0 c0)) ∧ (W.cell? ⟨w.heap.size, 0, none⟩ = some (.bool B0) ∧ W.cell? ⟨w.heap.size, 1, none⟩ = some (.slice A0 n0 c0)))
                    (first | (with_reducible exact ⟨⟨k1, k2⟩, ⟨k3, k4⟩⟩) | (with_reducible exact ⟨keepA ⟨k1, k2⟩ _, keepA ⟨k3, k4⟩ _⟩) | (with_reducible exact ⟨keepD ⟨k1, k2⟩, keepD ⟨k3, k4⟩⟩) | (with_reducible exact ⟨keepD (keepA ⟨k1, k2⟩ _), keepD (keepA ⟨k3, k4⟩ _)⟩) | (with_reducible exact ⟨keep2 ⟨k1, k2⟩ (by omega) _ _, keep2 ⟨k3, k4⟩ (by omega) _ _⟩) | (with_reducible exact ⟨keepA (keep2 ⟨k1, k2⟩ (by omega) _ _) _, keepA (keep2 ⟨k3, k4⟩ (by omega) _ _) _⟩) | (with_reducible exact ⟨keep2 (keepA ⟨k1, k2⟩ _) (by omega) _ _, keep2 (keepA ⟨k3, k4⟩ _) (by omega) _ _⟩) | (with_reducible exact ⟨keepD (keep2 ⟨k1, k2⟩ (by omega) _ _), keepD (keep2 ⟨k3, k4⟩ (by omega) _ _)⟩))
                    (first
                    | (go_at_call 20; (first | (with_reducible refine (Cna.out _ _ _ _ H.drew.tl.tl.tl.tl.tl.tl.tl.tl.tl.hd.sl).mono ?_) | (with_reducible refine (Cna.out _ _ _ _ (H.next (below_new _ _)).drew.tl.tl.tl.tl.tl.tl.tl.tl.tl.hd.sl).mono ?_)); intro e wa h; obtain ⟨Aq, nq, cq, rfl, hsq, hbq⟩ := giveI_out h; clear h k1 k2 k3 k4
                       (first
                        | (have J : Bs wa w ((g20, sd, vd, Ag20, ng20, cg20) :: (wc19.heap.size, sd, vd, Ar19, nr19, cr19) :: (wc16.heap.size, sac, vac, Ar16, nr16, cr16) :: (wc9.heap.size, sr, vr, Ar9, nr9, cr9) :: (wc8.heap.size, sp, vp, Ar8, nr8, cr8) :: (wc7.heap.size, sp, vp, Ar7, nr7, cr7) :: (wc6.heap.size, sbc, vbc, Ar6, nr6, cr6) :: (wc5.heap.size, sab, vab, Ar5, nr5, cr5) :: (wc4.heap.size, sab, vab, Ar4, nr4, cr4) :: (w.heap.size, B0, a, A0, n0, c0) :: (w.heap.size + 1, B1, b, A1, n1, c1) :: (w.heap.size + 2, B2, c, A2, n2, c2) :: []) := by with_reducible exact H.drew.next hbq)
                        | (have J : Bs wa w ((g20, sd, vd, Ag20, ng20, cg20) :: (wc19.heap.size, sd, vd, Ar19, nr19, cr19) :: (wc16.heap.size, sac, vac, Ar16, nr16, cr16) :: (wc9.heap.size, sr, vr, Ar9, nr9, cr9) :: (wc8.heap.size, sp, vp, Ar8, nr8, cr8) :: (wc7.heap.size, sp, vp, Ar7, nr7, cr7) :: (wc6.heap.size, sbc, vbc, Ar6, nr6, cr6) :: (wc5.heap.size, sab, vab, Ar5, nr5, cr5) :: (wc4.heap.size, sab, vab, Ar4, nr4, cr4) :: (w.heap.size, B0, a, A0, n0, c0) :: (w.heap.size + 1, B1, b, A1, n1, c1) :: (w.heap.size + 2, B2, c, A2, n2, c2) :: []) := (by with_reducible exact (H.next (below_new _ _)).drew.next hbq); have z1 := (Zb.drew_y (Zb.new H)).next hbq))
                       clear H hbq; (try (have lz := z1.at_.lt)); have hga := J.tl.tl.tl.tl.tl.tl.tl.tl.tl.hd.at_.lt; have hgb := J.tl.tl.tl.tl.tl.tl.tl.tl.tl.hd.at_.lt; obtain ⟨k1, k2⟩ := J.tl.tl.tl.tl.tl.tl.tl.tl.tl.hd.cells; obtain ⟨k3, k4⟩ := J.tl.tl.tl.tl.tl.tl.tl.tl.tl.hd.cells)
                    | (go_at_call 15; (first | (with_reducible refine (Cz.out _ _ _ _ _ _ _ J.tl.tl.tl.tl.tl.tl.tl.tl.tl.hd.sl hsq).mono ?_) | (with_reducible refine (Cz.out _ _ _ _ _ _ _ (J.tl.tl.tl.tl.tl.tl.tl.tl.tl.hd.next (below_new _ _)).sl (hsq.next (below_new _ _))).mono ?_)); intro e wb h; obtain ⟨Ap, np, cp, rfl, hsp, hbp⟩ := giveE_out h; clear h k1 k2 k3 k4
                       (first
                        | (have J2 : Bs wb w ((g20, sd, vd, Ag20, ng20, cg20) :: (wc19.heap.size, sd, vd, Ar19, nr19, cr19) :: (wc16.heap.size, sac, vac, Ar16, nr16, cr16) :: (wc9.heap.size, sr, vr, Ar9, nr9, cr9) :: (wc8.heap.size, sp, vp, Ar8, nr8, cr8) :: (wc7.heap.size, sp, vp, Ar7, nr7, cr7) :: (wc6.heap.size, sbc, vbc, Ar6, nr6, cr6) :: (wc5.heap.size, sab, vab, Ar5, nr5, cr5) :: (wc4.heap.size, sab, vab, Ar4, nr4, cr4) :: (w.heap.size, B0, a, A0, n0, c0) :: (w.heap.size + 1, B1, b, A1, n1, c1) :: (w.heap.size + 2, B2, c, A2, n2, c2) :: []) := (by with_reducible exact J.next hbp); (try (have z2 := z1.next hbp)))
                        | (have J2 : Bs wb w ((g20, sd, vd, Ag20, ng20, cg20) :: (wc19.heap.size, sd, vd, Ar19, nr19, cr19) :: (wc16.heap.size, sac, vac, Ar16, nr16, cr16) :: (wc9.heap.size, sr, vr, Ar9, nr9, cr9) :: (wc8.heap.size, sp, vp, Ar8, nr8, cr8) :: (wc7.heap.size, sp, vp, Ar7, nr7, cr7) :: (wc6.heap.size, sbc, vbc, Ar6, nr6, cr6) :: (wc5.heap.size, sab, vab, Ar5, nr5, cr5) :: (wc4.heap.size, sab, vab, Ar4, nr4, cr4) :: (w.heap.size, B0, a, A0, n0, c0) :: (w.heap.size + 1, B1, b, A1, n1, c1) :: (w.heap.size + 2, B2, c, A2, n2, c2) :: []) := (by with_reducible exact (J.next (below_new _ _)).next hbp); have z2 := (Zb.new J).next hbp))
                       (try clear z1); clear J hbp hsq; (try (have lz2 := z2.at_.lt)); have hga := J2.tl.tl.tl.tl.tl.tl.tl.tl.tl.hd.at_.lt; have hgb := J2.tl.tl.tl.tl.tl.tl.tl.tl.tl.hd.at_.lt; (try (obtain ⟨f1, f2, f3, f4⟩ := z2.at_.facts)); obtain ⟨k1, k2⟩ := J2.tl.tl.tl.tl.tl.tl.tl.tl.tl.hd.cells; obtain ⟨k3, k4⟩ := J2.tl.tl.tl.tl.tl.tl.tl.tl.tl.hd.cells))
                  all_goals
                    go_wp2_with fail
                    go_meet
                    first
                      | exact ⟨_, Ap, np, cp, rfl, rfl, J2.put z2 hsp⟩
                      | exact ⟨_, Ap, np, cp, rfl, rfl, J2.add (Below.refl _ _) hsp⟩
                case rest => as_aux_lemma =>
                  obtain ⟨g21, Ag21, ng21, cg21, rfl, rfl, K⟩ := hcut
                  clear H k1 k2 k3 k4 hga hgb
                  have H := K
                  clear K
                  have hga := H.tl.tl.tl.tl.tl.tl.tl.tl.tl.tl.hd.at_.lt
                  obtain ⟨k1, k2⟩ := H.tl.tl.tl.tl.tl.tl.tl.tl.tl.tl.hd.cells
                  obtain ⟨k3, k4⟩ := H.tl.tl.tl.tl.tl.tl.tl.tl.tl.tl.hd.cells
                  go_upto_region 30 with fail
                  go_cut [39, 40] (fun sx sy wx => ∃ (gg : Nat) (AA : Option Addr) (nn cc : Nat), sx = .pointer (some ⟨gg, 0, none⟩) ∧ sy = .int .i64 0 ∧ Bs wx w ((gg, B0, a, AA, nn, cc) :: ((g21, false, 0, Ag21, ng21, cg21) :: (g20, sd, vd, Ag20, ng20, cg20) :: (wc19.heap.size, sd, vd, Ar19, nr19, cr19) :: (wc16.heap.size, sac, vac, Ar16, nr16, cr16) :: (wc9.heap.size, sr, vr, Ar9, nr9, cr9) :: (wc8.heap.size, sp, vp, Ar8, nr8, cr8) :: (wc7.heap.size, sp, vp, Ar7, nr7, cr7) :: (wc6.heap.size, sbc, vbc, Ar6, nr6, cr6) :: (wc5.heap.size, sab, vab, Ar5, nr5, cr5) :: (wc4.heap.size, sab, vab, Ar4, nr4, cr4) :: (w.heap.size, B0, a, A0, n0, c0) :: (w.heap.size + 1, B1, b, A1, n1, c1) :: (w.heap.size + 2, B2, c, A2, n2, c2) :: [])))
                  case first => as_aux_lemma =>
                    go_region_held3 (fun W => (W.cell? ⟨w.heap.size, 0, none⟩ = some (.bool B0) ∧ W.cell? ⟨w.heap.size, 1, none⟩ = some (.slice A0 n0 c0)) ∧ (W.cell? ⟨w.heap.size, 0, none⟩ = some (.bool B0) ∧ W.cell? ⟨w.heap.size, 1, none⟩ = some (.slice A0 n0 c0)))
                      (first | (with_reducible exact ⟨⟨k1, k2⟩, ⟨k3, k4⟩⟩) | (with_reducible exact ⟨keepA ⟨k1, k2⟩ _, keepA ⟨k3, k4⟩ _⟩) | (with_reducible exact ⟨keepD ⟨k1, k2⟩, keepD ⟨k3, k4⟩⟩) | (with_reducible exact ⟨keepD (keepA ⟨k1, k2⟩ _), keepD (keepA ⟨k3, k4⟩ _)⟩) | (with_reducible exact ⟨keep2 ⟨k1, k2⟩ (by omega) _ _, keep2 ⟨k3, k4⟩ (by omega) _ _⟩) | (with_reducible exact ⟨keepA (keep2 ⟨k1, k2⟩ (by omega) _ _) _, keepA (keep2 ⟨k3, k4⟩ (by omega) _ _) _⟩) | (with_reducible exact ⟨keep2 (keepA ⟨k1, k2⟩ _) (by omega) _ _, keep2 (keepA ⟨k3, k4⟩ _) (by omega) _ _⟩) | (with_reducible exact ⟨keepD (keep2 ⟨k1, k2⟩ (by omega) _ _), keepD (keep2 ⟨k3, k4⟩ (by omega) _ _)⟩))
                      (first
                      | (go_at_call 35; (with_reducible refine (ex_from1 _).mono ?_); intro e wa h; obtain ⟨Aq, nq, cq, rfl, hsq, hbq⟩ := giveI_out h; clear h k1 k2 k3 k4
                         (first
                          | (have J : Bs wa w ((g21, false, 0, Ag21, ng21, cg21) :: (g20, sd, vd, Ag20, ng20, cg20) :: (wc19.heap.size, sd, vd, Ar19, nr19, cr19) :: (wc16.heap.size, sac, vac, Ar16, nr16, cr16) :: (wc9.heap.size, sr, vr, Ar9, nr9, cr9) :: (wc8.heap.size, sp, vp, Ar8, nr8, cr8) :: (wc7.heap.size, sp, vp, Ar7, nr7, cr7) :: (wc6.heap.size, sbc, vbc, Ar6, nr6, cr6) :: (wc5.heap.size, sab, vab, Ar5, nr5, cr5) :: (wc4.heap.size, sab, vab, Ar4, nr4, cr4) :: (w.heap.size, B0, a, A0, n0, c0) :: (w.heap.size + 1, B1, b, A1, n1, c1) :: (w.heap.size + 2, B2, c, A2, n2, c2) :: []) := by with_reducible exact H.drew.next hbq)
                          | (have J : Bs wa w ((g21, false, 0, Ag21, ng21, cg21) :: (g20, sd, vd, Ag20, ng20, cg20) :: (wc19.heap.size, sd, vd, Ar19, nr19, cr19) :: (wc16.heap.size, sac, vac, Ar16, nr16, cr16) :: (wc9.heap.size, sr, vr, Ar9, nr9, cr9) :: (wc8.heap.size, sp, vp, Ar8, nr8, cr8) :: (wc7.heap.size, sp, vp, Ar7, nr7, cr7) :: (wc6.heap.size, sbc, vbc, Ar6, nr6, cr6) :: (wc5.heap.size, sab, vab, Ar5, nr5, cr5) :: (wc4.heap.size, sab, vab, Ar4, nr4, cr4) :: (w.heap.size, B0, a, A0, n0, c0) :: (w.heap.size + 1, B1, b, A1, n1, c1) :: (w.heap.size + 2, B2, c, A2, n2, c2) :: []) := (by with_reducible exact (H.next (below_new _ _)).drew.next hbq); have z1 := (Zb.drew_y (Zb.new H)).next hbq))
                         clear H hbq; (try (have lz := z1.at_.lt)); have hga := J.tl.tl.tl.tl.tl.tl.tl.tl.tl.tl.hd.at_.lt; have hgb := J.tl.tl.tl.tl.tl.tl.tl.tl.tl.tl.hd.at_.lt; obtain ⟨k1, k2⟩ := J.tl.tl.tl.tl.tl.tl.tl.tl.tl.tl.hd.cells; obtain ⟨k3, k4⟩ := J.tl.tl.tl.tl.tl.tl.tl.tl.tl.tl.hd.cells)
                      | (go_at_call 25; (first | (with_reducible refine (Cu.out _ _ _ _ _ _ _ J.tl.tl.tl.tl.tl.tl.tl.tl.tl.tl.hd.sl hsq).mono ?_) | (with_reducible refine (Cu.out _ _ _ _ _ _ _ (J.tl.tl.tl.tl.tl.tl.tl.tl.tl.tl.hd.next (below_new _ _)).sl (hsq.next (below_new _ _))).mono ?_)); intro e wb h; obtain ⟨Ap, np, cp, rfl, hsp, hbp⟩ := giveE_out h; clear h k1 k2 k3 k4
                         (first
                          | (have J2 : Bs wb w ((g21, false, 0, Ag21, ng21, cg21) :: (g20, sd, vd, Ag20, ng20, cg20) :: (wc19.heap.size, sd, vd, Ar19, nr19, cr19) :: (wc16.heap.size, sac, vac, Ar16, nr16, cr16) :: (wc9.heap.size, sr, vr, Ar9, nr9, cr9) :: (wc8.heap.size, sp, vp, Ar8, nr8, cr8) :: (wc7.heap.size, sp, vp, Ar7, nr7, cr7) :: (wc6.heap.size, sbc, vbc, Ar6, nr6, cr6) :: (wc5.heap.size, sab, vab, Ar5, nr5, cr5) :: (wc4.heap.size, sab, vab, Ar4, nr4, cr4) :: (w.heap.size, B0, a, A0, n0, c0) :: (w.heap.size + 1, B1, b, A1, n1, c1) :: (w.heap.size + 2, B2, c, A2, n2, c2) :: []) := (by with_reducible exact J.next hbp); (try (have z2 := z1.next hbp)))
                          | (have J2 : Bs wb w ((g21, false, 0, Ag21, ng21, cg21) :: (g20, sd, vd, Ag20, ng20, cg20) :: (wc19.heap.size, sd, vd, Ar19, nr19, cr19) :: (wc16.heap.size, sac, vac, Ar16, nr16, cr16) :: (wc9.heap.size, sr, vr, Ar9, nr9, cr9) :: (wc8.heap.size, sp, vp, Ar8, nr8, cr8) :: (wc7.heap.size, sp, vp, Ar7, nr7, cr7) :: (wc6.heap.size, sbc, vbc, Ar6, nr6, cr6) :: (wc5.heap.size, sab, vab, Ar5, nr5, cr5) :: (wc4.heap.size, sab, vab, Ar4, nr4, cr4) :: (w.heap.size, B0, a, A0, n0, c0) :: (w.heap.size + 1, B1, b, A1, n1, c1) :: (w.heap.size + 2, B2, c, A2, n2, c2) :: []) := (by with_reducible exact (J.next (below_new _ _)).next hbp); have z2 := (Zb.new J).next hbp))
                         (try clear z1); clear J hbp hsq; (try (have lz2 := z2.at_.lt)); have hga := J2.tl.tl.tl.tl.tl.tl.tl.tl.tl.tl.hd.at_.lt; have hgb := J2.tl.tl.tl.tl.tl.tl.tl.tl.tl.tl.hd.at_.lt; (try (obtain ⟨f1, f2, f3, f4⟩ := z2.at_.facts)); obtain ⟨k1, k2⟩ := J2.tl.tl.tl.tl.tl.tl.tl.tl.tl.tl.hd.cells; obtain ⟨k3, k4⟩ := J2.tl.tl.tl.tl.tl.tl.tl.tl.tl.tl.hd.cells))
                    all_goals
                      go_wp2_with fail
                      go_meet
                      first
                        | exact ⟨_, Ap, np, cp, rfl, rfl, J2.put z2 hsp⟩
                        | exact ⟨_, Ap, np, cp, rfl, rfl, J2.add (Below.refl _ _) hsp⟩
                  case rest => as_aux_lemma =>
                    obtain ⟨g22, Ag22, ng22, cg22, rfl, rfl, K⟩ := hcut
                    clear H k1 k2 k3 k4 hga
                    have H := K
                    clear K
                    have hga := H.tl.tl.tl.tl.tl.tl.tl.tl.tl.tl.tl.hd.at_.lt
                    obtain ⟨k1, k2⟩ := H.tl.tl.tl.tl.tl.tl.tl.tl.tl.tl.tl.hd.cells
                    obtain ⟨k3, k4⟩ := H.tl.tl.tl.tl.tl.tl.tl.tl.tl.tl.tl.hd.cells
                    go_upto_region 31 with fail
                    go_cut [41, 42] (fun sx sy wx => ∃ (gg : Nat) (AA : Option Addr) (nn cc : Nat), sx = .pointer (some ⟨gg, 0, none⟩) ∧ sy = .int .i64 0 ∧ Bs wx w ((gg, B0, a, AA, nn, cc) :: ((g22, B0, a, Ag22, ng22, cg22) :: (g21, false, 0, Ag21, ng21, cg21) :: (g20, sd, vd, Ag20, ng20, cg20) :: (wc19.heap.size, sd, vd, Ar19, nr19, cr19) :: (wc16.heap.size, sac, vac, Ar16, nr16, cr16) :: (wc9.heap.size, sr, vr, Ar9, nr9, cr9) :: (wc8.heap.size, sp, vp, Ar8, nr8, cr8) :: (wc7.heap.size, sp, vp, Ar7, nr7, cr7) :: (wc6.heap.size, sbc, vbc, Ar6, nr6, cr6) :: (wc5.heap.size, sab, vab, Ar5, nr5, cr5) :: (wc4.heap.size, sab, vab, Ar4, nr4, cr4) :: (w.heap.size, B0, a, A0, n0, c0) :: (w.heap.size + 1, B1, b, A1, n1, c1) :: (w.heap.size + 2, B2, c, A2, n2, c2) :: [])))
                    case first => as_aux_lemma =>
                      go_region_held3 (fun W => (W.cell? ⟨w.heap.size, 0, none⟩ = some (.bool B0) ∧ W.cell? ⟨w.heap.size, 1, none⟩ = some (.slice A0 n0 c0)) ∧ (W.cell? ⟨w.heap.size, 0, none⟩ = some (.bool B0) ∧ W.cell? ⟨w.heap.size, 1, none⟩ = some (.slice A0 n0 c0)))
                        (first | (with_reducible exact ⟨⟨k1, k2⟩, ⟨k3, k4⟩⟩) | (with_reducible exact ⟨keepA ⟨k1, k2⟩ _, keepA ⟨k3, k4⟩ _⟩) | (with_reducible exact ⟨keepD ⟨k1, k2⟩, keepD ⟨k3, k4⟩⟩) | (with_reducible exact ⟨keepD (keepA ⟨k1, k2⟩ _), keepD (keepA ⟨k3, k4⟩ _)⟩) | (with_reducible exact ⟨keep2 ⟨k1, k2⟩ (by omega) _ _, keep2 ⟨k3, k4⟩ (by omega) _ _⟩) | (with_reducible exact ⟨keepA (keep2 ⟨k1, k2⟩ (by omega) _ _) _, keepA (keep2 ⟨k3, k4⟩ (by omega) _ _) _⟩) | (with_reducible exact ⟨keep2 (keepA ⟨k1, k2⟩ _) (by omega) _ _, keep2 (keepA ⟨k3, k4⟩ _) (by omega) _ _⟩) | (with_reducible exact ⟨keepD (keep2 ⟨k1, k2⟩ (by omega) _ _), keepD (keep2 ⟨k3, k4⟩ (by omega) _ _)⟩))
                        (first
                        | (go_at_call 35; (with_reducible refine (ex_from0_y _).mono ?_); intro e wa h; obtain ⟨Aq, nq, cq, rfl, hsq, hbq⟩ := giveI_out h; clear h k1 k2 k3 k4
                           (first
                            | (have J : Bs wa w ((g22, B0, a, Ag22, ng22, cg22) :: (g21, false, 0, Ag21, ng21, cg21) :: (g20, sd, vd, Ag20, ng20, cg20) :: (wc19.heap.size, sd, vd, Ar19, nr19, cr19) :: (wc16.heap.size, sac, vac, Ar16, nr16, cr16) :: (wc9.heap.size, sr, vr, Ar9, nr9, cr9) :: (wc8.heap.size, sp, vp, Ar8, nr8, cr8) :: (wc7.heap.size, sp, vp, Ar7, nr7, cr7) :: (wc6.heap.size, sbc, vbc, Ar6, nr6, cr6) :: (wc5.heap.size, sab, vab, Ar5, nr5, cr5) :: (wc4.heap.size, sab, vab, Ar4, nr4, cr4) :: (w.heap.size, B0, a, A0, n0, c0) :: (w.heap.size + 1, B1, b, A1, n1, c1) :: (w.heap.size + 2, B2, c, A2, n2, c2) :: []) := by with_reducible exact H.drew.next hbq)
                            | (have J : Bs wa w ((g22, B0, a, Ag22, ng22, cg22) :: (g21, false, 0, Ag21, ng21, cg21) :: (g20, sd, vd, Ag20, ng20, cg20) :: (wc19.heap.size, sd, vd, Ar19, nr19, cr19) :: (wc16.heap.size, sac, vac, Ar16, nr16, cr16) :: (wc9.heap.size, sr, vr, Ar9, nr9, cr9) :: (wc8.heap.size, sp, vp, Ar8, nr8, cr8) :: (wc7.heap.size, sp, vp, Ar7, nr7, cr7) :: (wc6.heap.size, sbc, vbc, Ar6, nr6, cr6) :: (wc5.heap.size, sab, vab, Ar5, nr5, cr5) :: (wc4.heap.size, sab, vab, Ar4, nr4, cr4) :: (w.heap.size, B0, a, A0, n0, c0) :: (w.heap.size + 1, B1, b, A1, n1, c1) :: (w.heap.size + 2, B2, c, A2, n2, c2) :: []) := (by with_reducible exact (H.next (below_new _ _)).drew.next hbq); have z1 := (Zb.drew_y (Zb.new H)).next hbq))
                           clear H hbq; (try (have lz := z1.at_.lt)); have hga := J.tl.tl.tl.tl.tl.tl.tl.tl.tl.tl.tl.hd.at_.lt; have hgb := J.tl.tl.tl.tl.tl.tl.tl.tl.tl.tl.tl.hd.at_.lt; obtain ⟨k1, k2⟩ := J.tl.tl.tl.tl.tl.tl.tl.tl.tl.tl.tl.hd.cells; obtain ⟨k3, k4⟩ := J.tl.tl.tl.tl.tl.tl.tl.tl.tl.tl.tl.hd.cells)
                        | (go_at_call 15; (first | (with_reducible refine (Cw.out _ _ _ _ _ _ _ J.tl.tl.tl.tl.tl.tl.tl.tl.tl.tl.tl.hd.sl hsq).mono ?_) | (with_reducible refine (Cw.out _ _ _ _ _ _ _ (J.tl.tl.tl.tl.tl.tl.tl.tl.tl.tl.tl.hd.next (below_new _ _)).sl (hsq.next (below_new _ _))).mono ?_)); intro e wb h; obtain ⟨Ap, np, cp, rfl, hsp, hbp⟩ := giveE_out h; clear h k1 k2 k3 k4
                           (first
                            | (have J2 : Bs wb w ((g22, B0, a, Ag22, ng22, cg22) :: (g21, false, 0, Ag21, ng21, cg21) :: (g20, sd, vd, Ag20, ng20, cg20) :: (wc19.heap.size, sd, vd, Ar19, nr19, cr19) :: (wc16.heap.size, sac, vac, Ar16, nr16, cr16) :: (wc9.heap.size, sr, vr, Ar9, nr9, cr9) :: (wc8.heap.size, sp, vp, Ar8, nr8, cr8) :: (wc7.heap.size, sp, vp, Ar7, nr7, cr7) :: (wc6.heap.size, sbc, vbc, Ar6, nr6, cr6) :: (wc5.heap.size, sab, vab, Ar5, nr5, cr5) :: (wc4.heap.size, sab, vab, Ar4, nr4, cr4) :: (w.heap.size, B0, a, A0, n0, c0) :: (w.heap.size + 1, B1, b, A1, n1, c1) :: (w.heap.size + 2, B2, c, A2, n2, c2) :: []) := (by with_reducible exact J.next hbp); (try (have z2 := z1.next hbp)))
                            | (have J2 : Bs wb w ((g22, B0, a, Ag22, ng22, cg22) :: (g21, false, 0, Ag21, ng21, cg21) :: (g20, sd, vd, Ag20, ng20, cg20) :: (wc19.heap.size, sd, vd, Ar19, nr19, cr19) :: (wc16.heap.size, sac, vac, Ar16, nr16, cr16) :: (wc9.heap.size, sr, vr, Ar9, nr9, cr9) :: (wc8.heap.size, sp, vp, Ar8, nr8, cr8) :: (wc7.heap.size, sp, vp, Ar7, nr7, cr7) :: (wc6.heap.size, sbc, vbc, Ar6, nr6, cr6) :: (wc5.heap.size, sab, vab, Ar5, nr5, cr5) :: (wc4.heap.size, sab, vab, Ar4, nr4, cr4) :: (w.heap.size, B0, a, A0, n0, c0) :: (w.heap.size + 1, B1, b, A1, n1, c1) :: (w.heap.size + 2, B2, c, A2, n2, c2) :: []) := (by with_reducible exact (J.next (below_new _ _)).next hbp); have z2 := (Zb.new J).next hbp))
                           (try clear z1); clear J hbp hsq; (try (have lz2 := z2.at_.lt)); have hga := J2.tl.tl.tl.tl.tl.tl.tl.tl.tl.tl.tl.hd.at_.lt; have hgb := J2.tl.tl.tl.tl.tl.tl.tl.tl.tl.tl.tl.hd.at_.lt; (try (obtain ⟨f1, f2, f3, f4⟩ := z2.at_.facts)); obtain ⟨k1, k2⟩ := J2.tl.tl.tl.tl.tl.tl.tl.tl.tl.tl.tl.hd.cells; obtain ⟨k3, k4⟩ := J2.tl.tl.tl.tl.tl.tl.tl.tl.tl.tl.tl.hd.cells))
                      all_goals
                        go_wp2_with fail
                        go_meet
                        first
                          | exact ⟨_, Ap, np, cp, rfl, rfl, J2.put z2 hsp⟩
                          | exact ⟨_, Ap, np, cp, rfl, rfl, J2.add (Below.refl _ _) hsp⟩
                    case rest => as_aux_lemma =>
                      obtain ⟨g23, Ag23, ng23, cg23, rfl, rfl, K⟩ := hcut
                      clear H k1 k2 k3 k4 hga
                      have H := K
                      clear K
                      obtain rfl : ng21 = 0 := by
                        have h := H.tl.tl.hd.sl.len
                        rw [enc_zero] at h
                        exact h.symm
                      obtain ⟨k1, k2⟩ := H.tl.tl.tl.tl.hd.cells
                      obtain ⟨k3, k4⟩ := H.tl.tl.tl.hd.cells
                      go_wp2_with fail
                      refine (same_eq _ _ _ _ _ H.tl.tl.tl.tl.hd.zi H.tl.tl.tl.hd.zi).mono ?_
                      rintro e ws24 ⟨rfl, hb⟩
                      replace H := H.next hb
                      clear hb k1 k2 k3 k4
                      obtain ⟨k1, k2⟩ := H.tl.hd.cells
                      obtain ⟨k3, k4⟩ := H.tl.tl.tl.tl.tl.tl.tl.tl.tl.tl.tl.tl.hd.cells
                      obtain ⟨k5, k6⟩ := H.tl.tl.hd.cells
                      go_wp2_with fail
                      refine (same_eq _ _ _ _ _ H.tl.hd.zi H.tl.tl.tl.tl.tl.tl.tl.tl.tl.tl.tl.tl.hd.zi).mono ?_
                      rintro e ws25 ⟨rfl, hb⟩
                      replace H := H.next hb
                      clear hb k1 k2 k3 k4 k5 k6
                      obtain ⟨k1, k2⟩ := H.hd.cells
                      obtain ⟨k3, k4⟩ := H.tl.tl.tl.tl.tl.tl.tl.tl.tl.tl.tl.tl.hd.cells
                      go_wp2_with fail
                      refine (same_eq _ _ _ _ _ H.hd.zi H.tl.tl.tl.tl.tl.tl.tl.tl.tl.tl.tl.tl.hd.zi).mono ?_
                      rintro e ws26 ⟨rfl, hb⟩
                      replace H := H.next hb
                      clear hb k1 k2 k3 k4
                      go_wp2_with fail
                      refine (examples_any _).mono ?_
                      rintro e wl ⟨rfl, hb⟩
                      go_wp2
                      go_ret
                      exact ⟨rfl, below_step H.bel hb⟩
end Go.Proofs.Ytebbpodcldndjaa
