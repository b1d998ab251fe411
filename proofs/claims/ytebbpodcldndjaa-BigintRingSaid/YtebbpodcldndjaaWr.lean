/- Contracts: divideLimb. -/
import Derived.Test.YtebbpodcldndjaaWq
set_option linter.unusedVariables false
namespace Go.Proofs.Ytebbpodcldndjaa
open Go.RowKit

set_option maxRecDepth 100000 in
set_option maxHeartbeats 1000000 in
theorem divideLimb_own (base : Nat) (A : Option Addr) (n c by_ : Nat) (l : List Nat) (w : World) (hown : w.ownsRow base 63 1 (.slice A n c) n (ml l)) (hok : Ok l) (hb0 : 0 < by_) (hb1 : by_ < 4294967296) (hbase : base ≤ w.heap.size) :
    Calls Try.prog 78 #[.slice A n c, .int .u32 (by_ : Int)] w (fun e w' => ∃ A' c', e = .returned (.tuple #[.slice A' (enc (val l / by_)).length c', .int .u32 ((val l % by_ : Nat) : Int)]) ∧
      w'.ownsRow base 63 1 (.slice A' (enc (val l / by_)).length c') (enc (val l / by_)).length (ml (enc (val l / by_))) ∧ Below base w w' ∧ (A' = none ∨ A' = A) ∧ w.grownBy w' (Value.slice A n c).ownBlock) := by
  have hs := Sl.of_own hown
  have hl : l.length = n := by rw [← length_ml]; exact hs.len
  have hmax := hs.max
  have hle := hs.le
  unfold maxLen at hmax
  rcases hown.2 with ⟨hv, hn0⟩ | ⟨g, cap, cur, hv, hbg, hg0, _⟩
  · subst hn0
    obtain rfl : l = [] := List.eq_nil_of_length_eq_zero hl
    rw [show val [] / by_ = 0 from Nat.zero_div _, show val [] % by_ = 0 from Nat.zero_mod _, enc_zero]
    have HT := Lib.hid (trim_own base A 0 c [] w hown hok)
    rw [val_nil, enc_zero] at HT
    go_enter Try.func78, Try.ntmps78
    go_wp2
    go_loopw [6, 7] (fun r i wr => r = .int .u32 0 ∧ i = .int .i64 (-1) ∧ wr = w) (fun _ _ _ => 0)
    case atStart => exact ⟨rfl, rfl, rfl⟩
    case round =>
      obtain ⟨rfl, rfl, rfl⟩ := hrel
      go_wp2_with fail
      refine HT.out.mono ?_
      rintro e w' ⟨A2, c2, rfl, ho2, rfl, hA2⟩
      go_wp2
      go_ret2
      exact ⟨A2, c2, rfl, ho2, Below.refl _ _, hA2, World.grownBy.refl _ _⟩
  · injection hv with h1 h2 h3
    subst h1
    subst h3
    obtain ⟨vq, hvq⟩ : ∃ v, val l / by_ = v := ⟨_, rfl⟩
    obtain ⟨vr, hvr⟩ : ∃ v, val l % by_ = v := ⟨_, rfl⟩
    rw [hvq, hvr]
    have HVQ := Lib.hid hvq
    have HVR := Lib.hid hvr
    clear hvq hvr
    have hglt : g < w.heap.size := (Array.getElem?_eq_some_iff.1 hg0).1
    clear hg0
    go_enter Try.func78, Try.ntmps78
    go_wp2
    go_loopw [6, 7] (fun r i wr => ∃ (k rest : Nat) (Q : List Nat), k ≤ n ∧ i = .int .i64 ((k : Int) - 1) ∧ r = .int .u32 (rest : Int) ∧ rest < by_ ∧ Hid (Dv l Q k by_ rest) ∧ wr.ownsRow base 63 1 (.slice (some ⟨g, 0, none⟩) n _) n (ml (l.take k ++ Q)) ∧ Below base w wr ∧ w.grownBy wr (some g))
      (fun _ i _ => (intOf i + 1).toNat)
    case atStart => exact ⟨n, 0, [], Nat.le_refl _, rfl, rfl, hb0, Lib.hid ⟨Ok.nil, by simp [hl], by rw [List.drop_of_length_le (by omega)]; simp [val_nil]⟩, by rw [List.append_nil, List.take_of_length_le (by omega)]; exact hown, Below.refl _ _, World.grownBy.refl _ _⟩
    case round =>
      obtain ⟨k, rest, Q, hk, rfl, rfl, hr, hdv, hownr, hbel, hgr⟩ := hrel
      have hsz := hbel.size
      by_cases h0 : k = 0
      · subst h0
        have hd := hdv.out
        have hval : val Q * by_ + rest = val l := by simpa using hd.2.2
        have hq : val l / by_ = val Q := by
          rw [← hval, Nat.add_comm, Nat.add_mul_div_right _ _ hb0, Nat.div_eq_of_lt hr, Nat.zero_add]
        have hm : val l % by_ = rest := by
          rw [← hval, Nat.add_comm, Nat.add_mul_mod_self_right, Nat.mod_eq_of_lt hr]
        obtain rfl : vq = val Q := HVQ.out.symm.trans hq
        obtain rfl : vr = rest := HVR.out.symm.trans hm
        rw [List.take_zero, List.nil_append] at hownr
        have HT := Lib.hid (trim_own base _ n c Q wr hownr hd.1)
        clear hd hval hq hm hdv hownr
        go_wp2_with fail
        refine HT.out.mono ?_
        rintro e w' ⟨A2, c2, rfl, ho2, rfl, hA2⟩
        have HGR := Lib.hid hgr
        have HA2 := Lib.hid hA2
        clear hgr hA2
        go_wp2
        go_ret2
        exact ⟨A2, c2, rfl, ho2, hbel, HA2.out, HGR.out⟩
      obtain ⟨k, rfl⟩ : ∃ j, k = j + 1 := ⟨k - 1, by omega⟩
      have hk1 : (((k + 1 : Nat) : Int) - 1) = (k : Int) := by omega
      rw [hk1]
      obtain ⟨x, hx⟩ : ∃ x, l.getD k 0 = x := ⟨_, rfl⟩
      have hxl : x < 4294967296 := by rw [← hx]; exact hok.getD k
      obtain ⟨v, hv0⟩ : ∃ v, v = x + 4294967296 * rest := ⟨_, rfl⟩
      have hrl : rest < 4294967296 := by omega
      obtain ⟨hq1, hdv'⟩ := div_step hdv.out (by omega) hx hxl hr hv0
      have HD := Lib.hid hdv'
      have hr2 : v % by_ < by_ := Nat.mod_lt _ hb0
      have hcell := hownr.cellAt k (by omega)
      rw [ml_at _ k (by rw [List.length_append, List.length_take]; omega), getD_mid l Q k (by omega), hx] at hcell
      have HJ := Lib.hid (join_any x rest wr hxl hrl)
      rw [← hv0] at HJ
      clear hdv hdv' hx
      go_wp2_with fail
      refine HJ.out.mono ?_
      rintro e w2 ⟨rfl, hb2⟩
      have hown2 := own_kept hownr hb2 (fun k hk => (hownr.lt k hk).2)
      have hbel2 := hbel.trans (hb2.mono (by omega))
      have HG := Lib.hid (grown_trans (grown_trans hgr (grown_below (some g) hb2)) (grown_set w2 ⟨g, k, none⟩ (.int .u32 ((v / by_ : Nat) : Int))))
      clear hgr
      have hcell2 := hown2.cellAt k (by omega)
      have hfr2 := hown2.frozenAt k
      rw [ml_at _ k (by rw [List.length_append, List.length_take]; omega)] at hcell2
      generalize (l.take (k + 1) ++ Q).getD k 0 = xx at hcell2
      have h2 := (hown2.stored k (.int .u32 ((v / by_ : Nat) : Int))).1
      rw [ml_set, set_mid l Q k _ (by omega)] at h2
      have H2 := Lib.hid h2
      have HB := Lib.hid (hbel2.setCell (p := ⟨g, k, none⟩) hbg (.int .u32 ((v / by_ : Nat) : Int)))
      clear h2 hown2 hownr hbel hcell HJ
      go_wp2
      go_roundw
      case rel =>
        have hvI : (x : Int) + 4294967296 * (rest : Int) = (v : Int) := by omega
        have e1 : ((x : Int) + 4294967296 * (rest : Int)) % (by_ : Int) % 4294967296 = ((v % by_ : Nat) : Int) := by
          rw [hvI, ← Int.natCast_emod]
          clear HD H2 HB
          generalize v % by_ = q0 at hr2 ⊢
          omega
        have e2 : ((x : Int) + 4294967296 * (rest : Int)) / (by_ : Int) % 4294967296 = ((v / by_ : Nat) : Int) := by
          rw [hvI, ← Int.natCast_ediv]
          clear HD H2 HB
          generalize v / by_ = q0 at hq1 ⊢
          omega
        rw [e1, e2]
        exact ⟨k, v % by_, v / by_ :: Q, by omega, rfl, rfl, hr2, HD, H2.out, HB.out, HG.out⟩
      case measure => simp [intOf]
end Go.Proofs.Ytebbpodcldndjaa
