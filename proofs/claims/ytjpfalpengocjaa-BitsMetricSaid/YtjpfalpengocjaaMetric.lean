/- BitsMetric returns true for every bit string and every two lists of numbers. -/
import Derived.Test.YtjpfalpengocjaaWd
import Derived.Test.YtjpfalpengocjaaKit2
import Derived.Test.YtjpfalpengocjaaPure4
import Derived.Deep.RegionWith
set_option linter.unusedVariables false
namespace Go.Proofs.Ytjpfalpengocjaa
open Go.RowKit

theorem own_kept {w w' : World} {base B : Nat} {e : TypeId} {v : Value} {n : Nat} {xs : List Value} (h : w.ownsRow base e 1 v n xs) (hb : Below B w w') (hB : ∀ k, v.ownBlock = some k → k < B) : w'.ownsRow base e 1 v n xs := by
  obtain ⟨k1, k2⟩ := h
  refine ⟨k1, ?_⟩
  rcases k2 with k2 | ⟨gg, cap, cur, rfl, k4, k5, k6⟩
  · exact .inl k2
  · exact .inr ⟨gg, cap, cur, rfl, k4, (hb.block gg (hB gg rfl)).trans k5, k6⟩
theorem own_far {w : World} {base : Nat} {e : TypeId} {v : Value} {n : Nat} {xs : List Value} (h : w.ownsRow base e 1 v n xs) (p : Addr) (hp : ∀ k, v.ownBlock = some k → k ≠ p.block) (u : Value) : (w.setCell p u).ownsRow base e 1 v n xs := by
  obtain ⟨k1, k2⟩ := h
  refine ⟨k1, ?_⟩
  rcases k2 with k2 | ⟨gg, cap, cur, rfl, k4, k5, k6⟩
  · exact .inl k2
  · exact .inr ⟨gg, cap, cur, rfl, k4, (Below.heap_setCell w p u gg (hp gg rfl)).trans k5, k6⟩
theorem own_drew {w : World} {base : Nat} {e : TypeId} {v : Value} {n : Nat} {xs : List Value} (h : w.ownsRow base e 1 v n xs) : w.drew.ownsRow base e 1 v n xs := h

set_option maxRecDepth 100000 in
set_option maxHeartbeats 4000000 in
theorem law_metric (A : Option Addr) (n c : Nat) (l : List Bool) (A' : Option Addr) (n' c' : Nat) (lx : List Int) (A'' : Option Addr) (n'' c'' : Nat) (ly : List Int) (w : World) (hs : Sl w w.heap.size A n c (bl l)) (hs' : Sl w w.heap.size A' n' c' (il lx))
    (_ : ∀ y ∈ lx, -9223372036854775808 ≤ y ∧ y ≤ 9223372036854775807) (hs'' : Sl w w.heap.size A'' n'' c'' (il ly)) (_ : ∀ y ∈ ly, -9223372036854775808 ≤ y ∧ y ≤ 9223372036854775807) :
    Calls Try.prog 10 #[.slice A n c, .slice A' n' c', .slice A'' n'' c''] w fun e w' => e = .returned (.bool true) ∧ Below w.heap.size w w' := by
  have hl : l.length = n := by rw [← length_bl]; exact hs.len
  have hlx : lx.length = n' := by rw [← length_il]; exact hs'.len
  have hly : ly.length = n'' := by rw [← length_il]; exact hs''.len
  have hmax := hs.max
  have hle := hs.le
  have hmax' := hs'.max
  have hle' := hs'.le
  have hmax'' := hs''.max
  have hle'' := hs''.le
  unfold maxLen at hmax hmax' hmax''
  by_cases h1 : 500 < n
  · go_enter Try.func10, Try.ntmps10
    go_wp2_with fail
    refine (alive_any _).mono ?_
    rintro e w2 ⟨rfl, hb2⟩
    go_wp2
    go_ret
    exact ⟨rfl, hb2⟩
  by_cases h2 : 500 < n'
  · go_enter Try.func10, Try.ntmps10
    go_wp2_with fail
    refine (alive_any _).mono ?_
    rintro e w2 ⟨rfl, hb2⟩
    go_wp2
    go_ret
    exact ⟨rfl, hb2⟩
  by_cases h3 : 500 < n''
  · go_enter Try.func10, Try.ntmps10
    go_wp2_with fail
    refine (alive_any _).mono ?_
    rintro e w2 ⟨rfl, hb2⟩
    go_wp2
    go_ret
    exact ⟨rfl, hb2⟩
  obtain ⟨i0, hi, hz0, hz1, hz2⟩ := info_parts boolInfo
  have HL := Lib.hid hl
  have HLX := Lib.hid hlx
  have HLY := Lib.hid hly
  clear hl hlx hly
  have hbel0 : Below w.heap.size w (w.alloc (.cells #[] 4)) := below_new w _
  have hown0 : (w.alloc (.cells #[] 4)).ownsRow w.heap.size 4 1 (.slice (some ⟨w.heap.size, 0, none⟩) 0 0) 0 [] := World.ownsRow_lit w #[] 0 (Nat.le_refl _) (by unfold maxLen; omega) rfl
  have tok1 : True := trivial
  go_enter Try.func10, Try.ntmps10
  go_wp2_with (at_builtin; have _t := tok1; refine wpList_append_slice rfl (.tmp 35) (.tmp 36) 22 rfl w.heap.size 4 i0 (.bool false) 1 Try.underlying22 hi hz0 hz1 hz2 rfl _ 0 [] rfl hown0 w.heap.size A n c (bl l) rfl (hs.below hbel0) (one_bl l) (by unfold maxLen; omega) (by omega) (by simp) ?_; clear tok1)
  intro v1 w1 hown1 hgrow1
  have hB1 : Below w.heap.size w w1 := hbel0.grown hgrow1 (by simp) (fun k hk => (hown0.lt k hk).1)
  obtain ⟨A1, c1, rfl⟩ := own_slice hown1
  clear hgrow1 hown0 hbel0
  have hs1 := hs.below hB1
  have hbel3 : Below w1.heap.size w1 (w1.alloc (.cells #[] 4)) := below_new w1 _
  have hown3 : (w1.alloc (.cells #[] 4)).ownsRow w1.heap.size 4 1 (.slice (some ⟨w1.heap.size, 0, none⟩) 0 0) 0 [] := World.ownsRow_lit w1 #[] 0 (Nat.le_refl _) (by unfold maxLen; omega) rfl
  go_wp2_with (at_builtin; refine wpList_append_slice rfl (.tmp 38) (.tmp 39) 22 rfl w1.heap.size 4 i0 (.bool false) 1 Try.underlying22 hi hz0 hz1 hz2 rfl _ 0 [] rfl hown3 w.heap.size A n c (bl l) rfl (hs1.below (hbel3.mono hB1.size)) (one_bl l) (by unfold maxLen; omega) (by omega) (by simp) ?_)
  intro v2 w2 hown2 hgrow2
  have hb2 : Below w1.heap.size w1 w2 := hbel3.grown hgrow2 (by simp) (fun k hk => (hown3.lt k hk).1)
  have hB2 := below_step hB1 hb2
  obtain ⟨A2, c2, rfl⟩ := own_slice hown2
  have hblk1 : Hid (∀ k, (Value.slice A1 n c1).ownBlock = some k → w.heap.size ≤ k ∧ k < w1.heap.size) := hown1.lt
  have hown1' := own_kept hown1 hb2 (fun k hk => (hown1.lt k hk).2)
  have hblk2 : Hid (∀ k, (Value.slice A2 n c2).ownBlock = some k → w1.heap.size ≤ k) := fun k hk => (hown2.lt k hk).1
  have hw1 := hB1.size
  clear hgrow2 hown3 hbel3 hown1 hs1 hb2 hB1
  go_wp2
  go_loopw [43] (fun i wr => ∃ k : Nat, k ≤ n' ∧ i = .int .i64 k ∧ (∃ m : List Bool, m.length = n ∧ wr.ownsRow w.heap.size 4 1 (.slice A1 n c1) n (bl m) ∧ ds l m ≤ k) ∧ wr.ownsRow w1.heap.size 4 1 (.slice A2 n c2) n (bl l) ∧ Below w.heap.size w wr) (fun i _ => n' - (intOf i).toNat)
  case atStart => exact ⟨0, Nat.zero_le _, rfl, ⟨l, HL.out, hown1', by rw [ds_self]; omega⟩, hown2, hB2⟩
  case round =>
    obtain ⟨k, hk, rfl, ⟨m, hm, hownc, hdk⟩, hownd, hbel⟩ := hrel
    by_cases hlt : k < n'
    · obtain ⟨bx, offx, rfl, hbx, hcx⟩ := (hs'.below hbel).at_ hlt (.int .i64 0)
      rw [getD_il lx k (by rw [HLX.out]; exact hlt)] at hcx
      have hk0 : (0 : Int) ≤ k := by omega
      have hk1 : (k : Int) < n' := by omega
      obtain ⟨x, hx⟩ : ∃ x, x = lx.getD k 0 := ⟨_, rfl⟩
      rw [← hx] at hcx
      clear hx
      by_cases hx0 : x < 0
      · have HO := Lib.hid hownc
        have HD := Lib.hid hownd
        clear hownc hownd
        go_wp2
        go_roundw
        case rel => exact ⟨k + 1, by omega, by go_num, ⟨m, hm, HO.out, by omega⟩, HD.out, hbel⟩
        case measure => simp [intOf]; omega
      by_cases hx1 : (n : Int) ≤ x
      · have HO := Lib.hid hownc
        have HD := Lib.hid hownd
        clear hownc hownd
        go_wp2
        go_roundw
        case rel => exact ⟨k + 1, by omega, by go_num, ⟨m, hm, HO.out, by omega⟩, HD.out, hbel⟩
        case measure => simp [intOf]; omega
      · obtain ⟨y, rfl⟩ := Int.eq_ofNat_of_zero_le (show 0 ≤ x by omega)
        obtain ⟨gc, cap, hv, hgc, hgcl⟩ := hownc.form (by omega)
        simp only [Value.slice.injEq, true_and] at hv
        obtain ⟨rfl, rfl⟩ := hv
        have hfar := (fun (q : Nat) (hq : (Value.slice A2 n c2).ownBlock = some q) => (show q ≠ gc by have h1 := hblk2.out q hq; have h2 := hblk1.out gc rfl; omega))
        have hcell := hownc.cellAt y (by omega)
        have hfr := hownc.frozenAt y
        rw [show (bl m)[y]? = some (.bool (m.getD y false)) by simp [bl, List.getD, show y < m.length by omega]] at hcell
        have hst := ((own_drew hownc).stored y (.bool (!m.getD y false))).1
        rw [show (bl m).set y (.bool (!m.getD y false)) = bl (m.set y (!m.getD y false)) by simp [bl, List.map_set]] at hst
        have hod := own_far (own_drew hownd) ⟨gc, y, none⟩ hfar (.bool (!m.getD y false))
        have hbel2 := (hbel.drew).setCell (p := ⟨gc, y, none⟩) hgc (.bool (!m.getD y false))
        have hds := ds_set l m y (!m.getD y false)
        have H1 := Lib.hid hst
        have H2 := Lib.hid hod
        have H3 := Lib.hid hbel2
        have H4 := Lib.hid hds
        have hm2 : (m.set y (!m.getD y false)).length = n := by rw [List.length_set]; exact hm
        clear hst hod hbel2 hds hownc hownd hfar
        generalize hgx : m.getD y false = z at *
        clear hgx
        have hy1 : (y : Int) < n := by omega
        have hy0 : (0 : Int) ≤ y := by omega
        go_wp2
        go_region
        all_goals
          go_wp2
          go_roundw
          case rel => exact ⟨k + 1, by omega, by go_num, ⟨_, hm2, H1.out, by have := H4.out; omega⟩, H2.out, H3.out⟩
          case measure => simp [intOf]; omega
    · obtain rfl : k = n' := by omega
      have hown1'' := hownc
      have hown2'' := hownd
      have hB3 := hbel
      clear hown1' hown2 hB2 hownc hownd hbel
      go_wp2
      obtain ⟨wo, rfl⟩ : ∃ wo : World, wo = wr := ⟨_, rfl⟩
      go_loopw [77] (fun i wr => ∃ k2 : Nat, k2 ≤ n'' ∧ i = .int .i64 k2 ∧ (∃ m2 : List Bool, m2.length = n ∧ wr.ownsRow w1.heap.size 4 1 (.slice A2 n c2) n (bl m2)) ∧ wr.ownsRow w.heap.size 4 1 (.slice A1 n c1) n (bl m) ∧ Below w.heap.size w wr) (fun i _ => n'' - (intOf i).toNat)
      case atStart => exact ⟨0, Nat.zero_le _, rfl, ⟨l, HL.out, hown2''⟩, hown1'', hB3⟩
      case round =>
        obtain ⟨k2, hk2, rfl, ⟨m2, hm2x, hownc⟩, hownd, hbel⟩ := hrel
        clear hown1'' hown2'' hB3
        by_cases hlt : k2 < n''
        · obtain ⟨bx, offx, rfl, hbx, hcx⟩ := (hs''.below hbel).at_ hlt (.int .i64 0)
          rw [getD_il ly k2 (by rw [HLY.out]; exact hlt)] at hcx
          have hk0 : (0 : Int) ≤ k2 := by omega
          have hk1 : (k2 : Int) < n'' := by omega
          obtain ⟨x, hx⟩ : ∃ x, x = ly.getD k2 0 := ⟨_, rfl⟩
          rw [← hx] at hcx
          clear hx
          by_cases hx0 : x < 0
          · have HO := Lib.hid hownc
            have HD := Lib.hid hownd
            clear hownc hownd
            go_wp2
            go_roundw
            case rel => exact ⟨k2 + 1, by omega, by go_num, ⟨m2, hm2x, HO.out⟩, HD.out, hbel⟩
            case measure => simp [intOf]; omega
          by_cases hx1 : (n : Int) ≤ x
          · have HO := Lib.hid hownc
            have HD := Lib.hid hownd
            clear hownc hownd
            go_wp2
            go_roundw
            case rel => exact ⟨k2 + 1, by omega, by go_num, ⟨m2, hm2x, HO.out⟩, HD.out, hbel⟩
            case measure => simp [intOf]; omega
          · obtain ⟨y, rfl⟩ := Int.eq_ofNat_of_zero_le (show 0 ≤ x by omega)
            obtain ⟨gc, cap, hv, hgc, hgcl⟩ := hownc.form (by omega)
            simp only [Value.slice.injEq, true_and] at hv
            obtain ⟨rfl, rfl⟩ := hv
            have hfar := (fun (q : Nat) (hq : (Value.slice A1 n c1).ownBlock = some q) => (show q ≠ gc by have h1 := hblk1.out q hq; have h2 := hblk2.out gc rfl; omega))
            have hcell := hownc.cellAt y (by omega)
            have hfr := hownc.frozenAt y
            rw [show (bl m2)[y]? = some (.bool (m2.getD y false)) by simp [bl, List.getD, show y < m2.length by omega]] at hcell
            have hst := ((own_drew hownc).stored y (.bool (!m2.getD y false))).1
            rw [show (bl m2).set y (.bool (!m2.getD y false)) = bl (m2.set y (!m2.getD y false)) by simp [bl, List.map_set]] at hst
            have hod := own_far (own_drew hownd) ⟨gc, y, none⟩ hfar (.bool (!m2.getD y false))
            have hbel2 := (hbel.drew).setCell (p := ⟨gc, y, none⟩) (Nat.le_trans hw1 hgc) (.bool (!m2.getD y false))
            have H1 := Lib.hid hst
            have H2 := Lib.hid hod
            have H3 := Lib.hid hbel2
            have hm2 : (m2.set y (!m2.getD y false)).length = n := by rw [List.length_set]; exact hm2x
            clear hst hod hbel2 hownc hownd hfar
            generalize hgx : m2.getD y false = z at *
            clear hgx
            have hy1 : (y : Int) < n := by omega
            have hy0 : (0 : Int) ≤ y := by omega
            go_wp2
            go_region
            all_goals
              go_wp2
              go_roundw
              case rel => exact ⟨k2 + 1, by omega, by go_num, ⟨_, hm2, H1.out⟩, H2.out, H3.out⟩
              case measure => simp [intOf]; omega
        · obtain rfl : k2 = n'' := by omega
          have hsm := Sl.of_own hownd
          have hsm2 := Sl.of_own hownc
          have hsb := (hs.below hbel).more hbel.size
          have e1 := Lib.hid (show distS l m = (((ds l m : Nat) : Int), 0) by unfold distS; rw [if_pos (by rw [HL.out, hm])])
          have e2 := Lib.hid (show distS m m2 = (((ds m m2 : Nat) : Int), 0) by unfold distS; rw [if_pos (by rw [hm2x, hm])])
          have e3 := Lib.hid (show distS l m2 = (((ds l m2 : Nat) : Int), 0) by unfold distS; rw [if_pos (by rw [HL.out, hm2x])])
          have e4 := Lib.hid (show distS m l = (((ds l m : Nat) : Int), 0) by unfold distS; rw [if_pos (by rw [HL.out, hm]), ds_comm])
          have e5 := Lib.hid (show distS l (List.replicate n false) = (((wt l : Nat) : Int), 0) by
            unfold distS
            rw [if_pos (by rw [HL.out, List.length_replicate])]
            have h := ds_zeros l
            rw [HL.out] at h
            rw [h])
          have htri := ds_tri l m m2 (by rw [HL.out, hm]) (by rw [hm, hm2x])
          have hb1 := ds_le l m
          have hb2 := ds_le m m2
          have hb3 := ds_le l m2
          have hb4 := wt_le l
          have hll := HL.out
          rw [hll] at hb1 hb3 hb4
          rw [hm] at hb2
          have hsame := ds_eq_same l m (by rw [HL.out, hm])
          have HSame := Lib.hid hsame
          clear hownc hownd hll hsame hs hs' hs'' hm hm2x
          go_wp2_with fail
          refine (distance_any _ _ _ _ _ _ l m _ hsb hsm).mono ?_
          rw [e1.out]
          rintro e w3 ⟨rfl, hd⟩
          replace hsb := hsb.next hd
          replace hsm := hsm.next hd
          replace hsm2 := hsm2.next hd
          replace hbel := below_step hbel hd
          clear hd
          go_wp2_with fail
          refine (distance_any _ _ _ _ _ _ m m2 _ hsm hsm2).mono ?_
          rw [e2.out]
          rintro e w4 ⟨rfl, hd⟩
          replace hsb := hsb.next hd
          replace hsm := hsm.next hd
          replace hsm2 := hsm2.next hd
          replace hbel := below_step hbel hd
          clear hd
          go_wp2_with fail
          refine (distance_any _ _ _ _ _ _ l m2 _ hsb hsm2).mono ?_
          rw [e3.out]
          rintro e w5 ⟨rfl, hd⟩
          replace hsb := hsb.next hd
          replace hsm := hsm.next hd
          replace hbel := below_step hbel hd
          clear hd hsm2
          go_wp2_with fail
          refine (distance_any _ _ _ _ _ _ m l _ hsm hsb).mono ?_
          rw [e4.out]
          rintro e w6 ⟨rfl, hd⟩
          replace hsb := hsb.next hd
          replace hsm := hsm.next hd
          replace hbel := below_step hbel hd
          clear hd
          go_wp2_with (at_make; refine wpList_make_full _ rfl _ _ 22 rfl w6.heap.size 4 i0 (.bool false) 1 Try.underlying22 hi hz0 hz1 _ _ ((n : Nat) : Int) ((n : Nat) : Int) n rfl rfl rfl rfl (by rw [hz2]; omega) (by unfold maxLen; omega) (Nat.le_refl _) ?_)
          intro w7 hown7 hgrow7
          have hd : Below w6.heap.size w6 w7 := (Below.refl _ _).grown hgrow7 (Nat.le_refl _) (by simp)
          rw [toList_madeCells_one] at hown7
          have hs7 := Sl.of_own hown7
          rw [show List.replicate n (Value.bool false) = bl (List.replicate n false) by simp [bl]] at hs7
          replace hsb := hsb.next hd
          replace hsm := hsm.next hd
          replace hbel := below_step hbel hd
          clear hd hown7 hgrow7
          go_wp2_with fail
          refine (distance_any _ _ _ _ _ _ l (List.replicate n false) _ hsb hs7).mono ?_
          rw [e5.out]
          rintro e w8 ⟨rfl, hd⟩
          replace hsb := hsb.next hd
          replace hsm := hsm.next hd
          replace hbel := below_step hbel hd
          clear hd hs7 e1 e2 e3 e4 e5
          generalize ds l m2 = dk at *
          generalize ds m m2 = dm at *
          go_wp2_with fail
          refine (same_any _ _ _ _ _ _ l m _ hsb hsm).mono ?_
          rw [← HSame.out]
          rintro e w9 ⟨rfl, hd⟩
          replace hsb := hsb.next hd
          replace hbel := below_step hbel hd
          clear hd hsm HSame
          generalize ds l m = dn at *
          go_wp2_with fail
          refine (weight_any _ _ _ _ l _ hsb).mono ?_
          rintro e w' ⟨rfl, rfl⟩
          go_wp2_with fail
          refine (alive_any _).mono ?_
          rintro e wz ⟨rfl, hd⟩
          go_wp2
          go_ret
          exact ⟨rfl, below_step hbel hd⟩
end Go.Proofs.Ytjpfalpengocjaa
