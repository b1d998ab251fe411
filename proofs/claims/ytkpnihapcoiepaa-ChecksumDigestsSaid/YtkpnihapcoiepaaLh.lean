/- ChecksumDigests returns true for every argument. No condition. -/
import Derived.Test.YtkpnihapcoiepaaDg
import Derived.Deep.RegionHeld3
import Derived.Deep.DrawnRows
import Derived.Deep.Onto
set_option linter.unusedVariables false
namespace Go.Proofs.Ytkpnihapcoiepaa
open Go.RowKit
attribute [local go_sem ↓] Go.wp_at_zero Go.wp_at_succ

theorem St.init {w : World} {base g : Nat} (hd : Dg w g ones32 0) (hb : base ≤ g) (hbw : base ≤ w.heap.size) :
    St ((w.alloc (.cells #[.pointer (some ⟨g, 0, none⟩)] 38)).alloc (.cells #[.slice none 0 0] 22)) base (.slice (some ⟨w.heap.size, 0, none⟩) 1 1) (.slice (some ⟨w.heap.size + 1, 0, none⟩) 1 1) [(g, [])] [(none, 0, [])] := by
  have ha : (w.alloc (.cells #[.pointer (some ⟨g, 0, none⟩)] 38)).ownsRow base 38 1 (.slice (some ⟨w.heap.size, 0, none⟩) 1 1) 1 [.pointer (some ⟨g, 0, none⟩)] := World.ownsRow_lit w _ 1 hbw (by unfold maxLen; omega) rfl
  have hv := World.ownsRow_lit (base := base) (e := 22) (size := 1) (w.alloc (.cells #[.pointer (some ⟨g, 0, none⟩)] 38)) #[.slice none 0 0] 1 (by simp; omega) (by unfold maxLen; omega) rfl
  rw [show (w.alloc (.cells #[.pointer (some ⟨g, 0, none⟩)] 38)).heap.size = w.heap.size + 1 by simp] at hv
  have hd1 := (hd.next (below_new w (.cells #[.pointer (some ⟨g, 0, none⟩)] 38))).next (below_new _ (.cells #[.slice none 0 0] 22))
  refine ⟨ha.alloc _, hv, ⟨fun d h => ?_, by simp⟩, fun v h => ?_⟩
  · simp at h
    subst h
    exact ⟨hd1, hb⟩
  · simp at h
    subst h
    exact ⟨World.ownsRow_nil _ _ _ _, byt0⟩
theorem St.drew {w : World} {base : Nat} {va vb : Value} {D : List (Nat × List Nat)} {V : List (Option Addr × Nat × List Nat)} (h : St w base va vb D V) : St w.drew base va vb D V := h.next ((Below.refl _ _).drew)
theorem set_snd {α β : Type} (l : List (α × β)) (k : Nat) (a : α) (b : β) : (l.set k (a, b)).map (·.2) = (l.map (·.2)).set k b := by simp [List.map_set]

theorem light_true {ops : List OpV} (h : isLight ops = true) : ops.length ≤ 30 ∧ ∀ o ∈ ops, o.P.length ≤ 100 := by
  simp [isLight] at h
  exact h

/-- a cell of the row of digests, of the row of slices -/
theorem St.cellA {w : World} {base g cap : Nat} {vb : Value} {D : List (Nat × List Nat)} {V : List (Option Addr × Nat × List Nat)} (h : St w base (.slice (some ⟨g, 0, none⟩) D.length cap) vb D V) {j : Nat} (hj : j < D.length) : w.cell? ⟨g, j, none⟩ = some (.pointer (some ⟨D[j].1, 0, none⟩)) := by
  rw [World.ownsRow.cellAt h.a j (by omega)]
  simp [hj]
theorem St.cellV {w : World} {base g cap : Nat} {va : Value} {D : List (Nat × List Nat)} {V : List (Option Addr × Nat × List Nat)} (h : St w base va (.slice (some ⟨g, 0, none⟩) V.length cap) D V) {j : Nat} (hj : j < V.length) :
    w.cell? ⟨g, j, none⟩ = some (.slice V[j].1 V[j].2.2.length V[j].2.1) ∧ w.frozen? ⟨g, j, none⟩ = false := by
  refine ⟨?_, World.ownsRow.frozenAt h.v j⟩
  rw [World.ownsRow.cellAt h.v j (by omega)]
  simp [hj]

set_option maxRecDepth 100000 in
set_option maxHeartbeats 4000000 in
theorem law_digests (A : Option Addr) (n c : Nat) (ops : List OpV) (w : World) (h : OpsIn w w.heap.size A n c ops) :
    Calls Try.prog 9 #[.slice A n c] w fun e w' => e = .returned (.bool true) ∧ Below w.heap.size w w' := by
  have hmax := h.max
  have hle := h.le
  have hlen := Lib.hid h.len
  unfold maxLen at hmax
  have hexit : ∀ w0 : World, Below w.heap.size w w0 → Calls Try.prog 16 #[] w0 fun e w' => e = .returned (.bool true) ∧ Below w.heap.size w w' :=
    fun w0 h0 => (examples_any w0).mono fun _ _ ⟨he, hb⟩ => ⟨he, below_step h0 hb⟩
  have HLI := Lib.hid (light_any A n c _ ops w h)
  cases hl : isLight ops
  · rw [hl] at HLI
    go_enter Try.func9, Try.ntmps9
    go_wp2_with fail
    refine HLI.out.mono ?_
    rintro e w' ⟨rfl, rfl⟩
    go_wp2_with fail
    refine (hexit _ (Below.refl _ _)).mono ?_
    rintro e w6 ⟨rfl, hb6⟩
    go_wp2
    go_ret
    exact ⟨rfl, hb6⟩
  · rw [hl] at HLI
    obtain ⟨h30, h100⟩ := light_true hl
    have H100 := Lib.hid h100
    clear hl h100
    obtain ⟨i0, hi0, hz0, hz1, hz2⟩ := info_parts byteInfo
    obtain ⟨ip, hip, hpz0, hpz1, hpz2⟩ := info_parts ptrInfo
    obtain ⟨ir, hir, hrz0, hrz1, hrz2⟩ := info_parts rowInfo
    go_enter Try.func9, Try.ntmps9
    go_wp2_with fail
    refine HLI.out.mono ?_
    rintro e w' ⟨rfl, rfl⟩
    go_wp2_with fail
    refine (newDigest_any _).mono ?_
    rintro e w1 ⟨rfl, hd1, hb1, hz1⟩
    have HS := Lib.hid (St.init hd1 (Nat.le_refl _) hb1.size)
    have HB := Lib.hid (below_step (below_step hb1 (below_new w1 (.cells #[.pointer (some ⟨w.heap.size, 0, none⟩)] 38))) (below_new _ (.cells #[.slice none 0 0] 22)))
    clear hd1 hb1 hz1 HLI
    go_wp2
    go_loopw [4, 5, 6] (fun va vb i wr => ∃ (k ga ca gb cb : Nat) (D : List (Nat × List Nat)) (V : List (Option Addr × Nat × List Nat)), k ≤ n ∧ i = .int .i64 k ∧ va = .slice (some ⟨ga, 0, none⟩) D.length ca ∧ vb = .slice (some ⟨gb, 0, none⟩) V.length cb ∧
      St wr w.heap.size (.slice (some ⟨ga, 0, none⟩) D.length ca) (.slice (some ⟨gb, 0, none⟩) V.length cb) D V ∧ Hid (D.map (·.2) = V.map (·.2.2)) ∧ 0 < D.length ∧ D.length ≤ k + 1 ∧ Hid (∀ d ∈ D, d.2.length ≤ 100 * k) ∧ Below w.heap.size w wr) (fun _ _ i _ => n - (intOf i).toNat)
    case atStart => exact ⟨0, _, _, _, _, [(w.heap.size, [])], [(none, 0, [])], Nat.zero_le _, rfl, rfl, rfl, HS.out, rfl, by simp, by simp, fun d hd => by simp at hd; subst hd; simp, HB.out⟩
    case round =>
      obtain ⟨k, ga, ca, gb, cb, D, V, hk, rfl, rfl, rfl, hst, hDV, hD0, hDk, hDs, hbel⟩ := hrel
      clear HS HB
      have hDVl := Lib.hid (show D.length = V.length by have := congrArg List.length hDV.out; simpa using this)
      by_cases hlt : k < n
      · have hkl : k < ops.length := by have := hlen.out; omega
        obtain ⟨⟨hk0, hk1⟩, ⟨ho0, ho1⟩, hsP, hbP⟩ := (h.below hbel).each ops[k] (List.getElem_mem hkl)
        obtain ⟨b, off, rfl, hbB, hc⟩ := (h.below hbel).read (by omega)
        obtain ⟨c0, c1, c2⟩ := hc k hkl
        have hP100 := H100.out ops[k] (List.getElem_mem hkl)
        have KC : Hid (∀ W : World, Below w.heap.size w W → W.cell? ⟨b, off + k * 3 + 2, none⟩ = some (.slice ops[k].A ops[k].P.length ops[k].c) ∧ Sl W w.heap.size ops[k].A ops[k].P.length ops[k].c (byl ops[k].P)) := fun W hW => by
          obtain ⟨b', off', e', _, hc'⟩ := (h.below hW).read (by omega)
          cases e'
          exact ⟨(hc' k hkl).2.2, ((h.below hW).each ops[k] (List.getElem_mem hkl)).2.2.1⟩
        obtain ⟨j, hj⟩ : ∃ j : Nat, ops[k].on % (D.length : Int) = (j : Int) := ⟨(ops[k].on % (D.length : Int)).toNat, by have := Int.emod_nonneg ops[k].on (show (D.length : Int) ≠ 0 by omega); omega⟩
        have hjD : j < D.length := by have := Int.emod_lt_of_pos ops[k].on (show (0 : Int) < (D.length : Int) by omega); rw [hj] at this; omega
        have hjV : j < V.length := by rw [← hDVl.out]; exact hjD
        have hz : ((D.length : Int) == 0) = false := beq_eq_false_iff_ne.2 (by omega)
        clear hc
        generalize ops[k] = op at *
        obtain ⟨kind, on, AP, cP, P⟩ := op
        dsimp only at hk0 hk1 ho0 ho1 hsP hbP c0 c1 c2 hP100 KC hj
        have hcA := hst.cellA hjD
        have hcV := (hst.cellV hjV).1
        have HST := Lib.hid hst
        have HSV := Lib.hid hst
        have hdj := hDs.out D[j] (List.getElem_mem hjD)
        have hRL := Lib.hid (show D[j].2 = V[j].2.2 by
          have := congrArg (fun l => l[j]?) hDV.out
          simpa [hjD, hjV] using this)
        clear hst
        by_cases hkind : kind % 2 = 0
        · have ht : (kind % 2 == 0) = true := by simpa using hkind
          clear hkind
          have hw := fun (W : World) (st : St W w.heap.size (.slice (some ⟨ga, 0, none⟩) D.length ca) (.slice (some ⟨gb, 0, none⟩) V.length cb) D V) (hs : Sl W w.heap.size AP P.length cP (byl P)) (hsz : w.heap.size ≤ W.heap.size) => write_any D[j].1 (f32 ones32 D[j].2) D[j].2.length AP P.length cP P W (st.d.1 D[j] (List.getElem_mem hjD)).1 (hs.more hsz) hbP (by omega)
          have HW := Lib.hid (hw wr.drew HST.out.drew (sl_drew hsP) hbel.size)
          clear hw
          have hdb : w.heap.size ≤ D[j].1 := (HST.out.d.1 D[j] (List.getElem_mem hjD)).2
          have KA : Hid (∀ W : World, wr.drew.grownBy W (some D[j].1) → W.cell? ⟨ga, j, none⟩ = some (.pointer (some ⟨D[j].1, 0, none⟩)) ∧ Below w.heap.size w W) := fun W hg => by
            refine ⟨?_, ((hbel.trans (Below.refl _ _).drew).trans (below_grown hg hdb hbel.size))⟩
            have ha := PA.keep HST.out.drew.a hg (Blk.dg (HST.out.drew.d.1 D[j] (List.getElem_mem hjD)).1) (by decide)
            rw [World.ownsRow.cellAt ha j (by omega)]
            simp [hjD]
          have kd1 := (KC.out wr.drew (hbel.trans (Below.refl _ _).drew)).1
          have kj0 : (0 : Int) ≤ (j : Int) := by omega
          have kj1 : (j : Int) < (D.length : Int) := by omega
          have kk0 : (0 : Int) ≤ (k : Int) := by omega
          have kk1 : (k : Int) < (n : Int) := by omega
          go_wp2
          go_region_held3 (fun W => W.cell? ⟨ga, j, none⟩ = some (.pointer (some ⟨D[j].1, 0, none⟩)) ∧ W.cell? ⟨b, off + k * 3 + 2, none⟩ = some (.slice AP P.length cP))
            (first | (exact ⟨by assumption, by assumption⟩) | (exact ⟨hcA, kd1⟩) | (exact ⟨(KA.out _ (by assumption)).1, (KC.out _ (KA.out _ (by assumption)).2).1⟩))
            ((go_at_call 25; (with_reducible refine HW.out.mono ?_); rintro e w2 ⟨rfl, hd2, hg2⟩))
          have S2 := Lib.hid (St.write HST.out.drew hjD P hd2 hg2)
          have B2 : Below w.heap.size w w2 := (KA.out _ hg2).2
          have hkv := (KC.out _ B2).1
          have hcv2 := (S2.out.cellV hjV).1
          have hs2 := Sl.of_own (S2.out.b V[j] (List.getElem_mem hjV)).1
          have hown0 := World.ownsRow_nil w2 w2.heap.size 5 1
          have hbV := (S2.out.b V[j] (List.getElem_mem hjV)).2
          have hVl : V[j].2.2.length ≤ 100 * k := by rw [← hRL.out]; exact hdj
          have hw2 := B2.size
          clear hd2 hg2 KA HW hcA hcV kd1 hsP c0 c1 c2 HST
          go_wp2_with (at_builtin; refine wpList_append_slice rfl (.tmp 54) (.tmp 58) 22 rfl w2.heap.size 5 i0 (.int .u8 0) 1 Try.underlying22 hi0 hz0 hz1 hz2 rfl _ 0 [] rfl hown0 w2.heap.size _ _ _ (byl V[j].2.2) rfl hs2 (one_byl _) (by unfold maxLen; omega) (by omega) (Nat.le_refl _) ?_)
          intro v1 w3 hown3 hgrow3
          have hB23 : Below w2.heap.size w2 w3 := (Below.refl _ _).grown hgrow3 (Nat.le_refl _) (fun k hk => (hown0.lt k hk).1)
          replace hown3 : w3.ownsRow w2.heap.size 5 1 v1 V[j].2.2.length (byl V[j].2.2) := by simpa using hown3
          have hw3 := hB23.size
          have hkv3 := (KC.out w3 (below_step B2 hB23)).1
          have hsP3 := (KC.out w3 (below_step B2 hB23)).2
          clear hgrow3 hown0 hs2 hkv hcv2
          go_wp2_with (at_builtin; refine wpList_append_slice rfl (.tmp 60) (.tmp 65) 22 rfl w2.heap.size 5 i0 (.int .u8 0) 1 Try.underlying22 hi0 hz0 hz1 hz2 rfl _ _ _ rfl hown3 w.heap.size _ _ _ (byl P) rfl hsP3 (one_byl _) (by unfold maxLen; omega) (by omega) hw3 ?_)
          intro v2 w4 hown4 hgrow4
          have hB24 : Below w2.heap.size w2 w4 := hB23.grown hgrow4 hw3 (fun k hk => (hown3.lt k hk).1)
          obtain ⟨A4, k4, rfl⟩ := own_slice hown4
          rw [← byl_append, ← List.length_append] at hown4
          have S4 := Lib.hid (S2.out.next hB24)
          have B4 := below_step B2 hB24
          obtain ⟨hcV4, hfV4⟩ := S4.out.cellV hjV
          have S5 := Lib.hid (S4.out.store hjV A4 k4 (V[j].2.2 ++ P) (World.ownsRow.mono hown4 hw2) (byt_append hbV hbP))
          clear hgrow4 hown3 hB23 hB24 hkv3 hsP3 S2 hown4 hbV
          go_wp2
          go_roundw
          case rel =>
            refine ⟨k + 1, ga, ca, gb, cb, D.set j (D[j].1, D[j].2 ++ P), V.set j (A4, k4, V[j].2.2 ++ P), by omega, by go_num, by rw [List.length_set], by rw [List.length_set], ?_, ?_, by rw [List.length_set]; exact hD0, by rw [List.length_set]; omega, ?_, ?_⟩
            · rw [List.length_set, List.length_set, ← List.length_append]; exact S5.out
            · show (D.set j (D[j].1, D[j].2 ++ P)).map (·.2) = (V.set j (A4, k4, V[j].2.2 ++ P)).map (·.2.2)
              rw [set_snd, hDV.out, hRL.out, List.map_set]
            · intro d hd
              rcases List.mem_or_eq_of_mem_set hd with hd | rfl
              · have := hDs.out d hd; omega
              · show (D[j].2 ++ P).length ≤ 100 * (k + 1)
                rw [List.length_append]; omega
            · exact B4.setCell (World.ownsRow.lt HSV.out.v gb rfl).1 _
          case measure => simp [intOf]; omega
        · have ht : (kind % 2 == 0) = false := beq_eq_false_iff_ne.2 hkind
          have hVle : V.length ≤ k + 1 := by rw [← hDVl.out]; exact hDk
          clear hkind
          have HD := Lib.hid (HST.out.d.1 D[j] (List.getElem_mem hjD))
          go_wp2_with fail
          refine (clone_any _ _ _ _ HD.out.1).mono ?_
          rintro e w2 ⟨g', rfl, hg', hd2, hb2⟩
          have B2 := below_step hbel hb2
          have S2 := Lib.hid (HST.out.next hb2)
          have hw2 := B2.size
          have hfresh : Hid (∀ d ∈ D, d.1 ≠ g') := fun d hd e => by
            have := (HST.out.d.1 d hd).1.lt
            omega
          have hbg' : w.heap.size ≤ g' := Nat.le_trans hbel.size hg'
          have hO := World.ownsRow.alloc S2.out.a (.cells #[.pointer (some ⟨g', 0, none⟩)] 38)
          have hd2' := Lib.hid (hd2.next (below_new w2 (.cells #[.pointer (some ⟨g', 0, none⟩)] 38)))
          have S2' := Lib.hid (S2.out.next (below_new w2 (.cells #[.pointer (some ⟨g', 0, none⟩)] 38)))
          have B2' := Lib.hid (B2.trans ((below_new w2 (.cells #[.pointer (some ⟨g', 0, none⟩)] 38)).mono hw2))
          have hAl := (World.ownsRow.lt S2.out.a ga rfl)
          clear hb2 hd2 HST HD hsP c0 c1 c2 hcA hcV
          go_wp2_with (at_builtin; go_loud (refine wpList_append_own _ rfl (.tmp 78) (.tmp 80) 40 rfl w.heap.size 38 ip (.pointer none) 1 8 Try.underlying40 hip hpz0 hpz1 hpz2 rfl (by decide) _ _ _ rfl hO ⟨w2.heap.size, 0, none⟩ 1 1 [.pointer (some ⟨g', 0, none⟩)] rfl rfl (one_cell_news _) (by intro u hu; simp at hu; subst hu; rfl) (by unfold maxLen; omega) (by omega) (by simp; omega) ?_))
          intro va' w3 hown3 hgrow3 _
          have S3 := Lib.hid (S2'.out.addD D[j].2 hd2'.out hbg' hfresh.out hown3 hgrow3)
          have B3 : Below w.heap.size w w3 := B2'.out.grown hgrow3 (by simp; omega) (fun q hq => by cases hq; exact hAl.1)
          obtain ⟨ga', ca', rfl, _, _⟩ := hown3.form (by omega)
          have hw3 := B3.size
          have hcv3 := (S3.out.cellV hjV).1
          have hO3 := World.ownsRow.alloc S3.out.v (.cells #[.slice V[j].1 V[j].2.2.length V[j].2.1] 22)
          have S3' := Lib.hid (S3.out.next (below_new w3 (.cells #[.slice V[j].1 V[j].2.2.length V[j].2.1] 22)))
          have B3' := Lib.hid (B3.trans ((below_new w3 (.cells #[.slice V[j].1 V[j].2.2.length V[j].2.1] 22)).mono hw3))
          have hVl := (World.ownsRow.lt S3.out.v gb rfl)
          clear hgrow3 hown3 S2 S2' hd2' hO B2' hfresh
          go_wp2_with (at_builtin; go_loud (refine wpList_append_own _ rfl (.tmp 82) (.tmp 87) 41 rfl w.heap.size 22 ir (.slice none 0 0) 1 24 Try.underlying41 hir hrz0 hrz1 hrz2 rfl (by decide) _ _ _ rfl hO3 ⟨w3.heap.size, 0, none⟩ 1 1 [.slice V[j].1 V[j].2.2.length V[j].2.1] rfl rfl (one_cell_news _) (by intro u hu; simp at hu; subst hu; rfl) (by unfold maxLen; omega) (by omega) (by simp; omega) ?_))
          intro vb' w4 hown4 hgrow4 _
          have S4 := Lib.hid (S3'.out.addV (List.getElem_mem hjV) hown4 hgrow4)
          have B4 : Below w.heap.size w w4 := B3'.out.grown hgrow4 (by simp; omega) (fun q hq => by cases hq; exact hVl.1)
          obtain ⟨gb', cb', rfl, _, _⟩ := hown4.form (by omega)
          clear hgrow4 hown4 S3 S3' hO3 B3'
          go_wp2
          go_roundw
          case rel =>
            refine ⟨k + 1, ga', ca', gb', cb', D ++ [(g', D[j].2)], V ++ [V[j]], by omega, by go_num, by simp, by simp, ?_, ?_, by simp, by simp; omega, ?_, B4⟩
            · rw [List.length_append, List.length_append]; exact S4.out
            · show (D ++ [(g', D[j].2)]).map (·.2) = (V ++ [V[j]]).map (·.2.2)
              rw [List.map_append, List.map_append, hDV.out, List.map_singleton, List.map_singleton, hRL.out]
            · intro d hd
              rcases List.mem_append.1 hd with hd | hd
              · have := hDs.out d hd; omega
              · simp at hd
                subst hd
                show D[j].2.length ≤ 100 * (k + 1)
                omega
          case measure => simp [intOf]; omega
      · obtain rfl : n = k := by omega
        have hVl2 : V.length = D.length := hDVl.out.symm
        have HV := Lib.hid hVl2
        have hD31 : D.length ≤ 31 := by have := hlen.out; omega
        have HST := Lib.hid hst
        have HBL := Lib.hid hbel
        clear hst hbel hVl2
        go_wp2
        go_loopw [10] (fun i wr => ∃ k : Nat, k ≤ D.length ∧ i = .int .i64 k ∧ St wr w.heap.size (.slice (some ⟨ga, 0, none⟩) D.length ca) (.slice (some ⟨gb, 0, none⟩) V.length cb) D V ∧ Below w.heap.size w wr) (fun i _ => D.length - (intOf i).toNat)
        case atStart => exact ⟨0, Nat.zero_le _, rfl, HST.out, HBL.out⟩
        case round =>
          obtain ⟨m, hm, rfl, hst, hbel⟩ := hrel
          by_cases hlt2 : m < D.length
          · have hmV : m < V.length := by rw [HV.out]; exact hlt2
            have hRL : D[m].2 = V[m].2.2 := by
              have := congrArg (fun l => l[m]?) hDV.out
              simpa [hlt2, hmV] using this
            have hd := (hst.d.1 D[m] (List.getElem_mem hlt2)).1
            rw [hRL] at hd
            obtain ⟨hob, hbyt⟩ := hst.b V[m] (List.getElem_mem hmV)
            have hcA := hst.cellA hlt2
            have hcV := (hst.cellV hmV).1
            have CS : Hid (∀ W : World, W.heap = wr.heap → Calls Try.prog 27 #[.pointer (some ⟨D[m].1, 0, none⟩)] W fun e w' => e = .returned (.int .u32 ((crc32 V[m].2.2).toNat : Int)) ∧ w' = W) := fun W hW =>
              (sum_any D[m].1 _ _ W (by unfold Dg; rw [hW]; exact hd)).mono fun _ _ ⟨a, b⟩ => ⟨a, b.symm⟩
            have CL : Hid (∀ W : World, W.heap = wr.heap → Calls Try.prog 28 #[.pointer (some ⟨D[m].1, 0, none⟩)] W fun e w' => e = .returned (.int .i64 ((V[m].2.2.length : Nat) : Int)) ∧ w' = W) := fun W hW =>
              (len_any D[m].1 _ _ W (by unfold Dg; rw [hW]; exact hd)).mono fun _ _ ⟨a, b⟩ => ⟨a, b.symm⟩
            have CR : Hid (∀ W : World, W.heap = wr.heap → Calls Try.prog 15 #[.slice V[m].1 V[m].2.2.length V[m].2.1] W fun e w' => e = .returned (.int .u32 ((crc32 V[m].2.2).toNat : Int)) ∧ w' = W) := fun W hW =>
              (rCRC32_any _ _ _ _ W ((by rw [hW]; exact (Sl.of_own hob).keep fun p _ => by simp [World.cell?, hW]) : Sl W W.heap.size _ _ _ _) hbyt).mono fun _ _ ⟨a, b⟩ => ⟨a, b.symm⟩
            have HS := Lib.hid hst
            have km0 : (0 : Int) ≤ (m : Int) := by omega
            have km1 : (m : Int) < (D.length : Int) := by omega
            have km2 : (m : Int) < (V.length : Int) := by omega
            clear hst hd hob hbyt hRL
            go_wp2
            go_quiet ((first | (go_at_call 27; exact (CS.out _ (by rfl)).mono fun _ _ h => ⟨h.1, _, h.2⟩) | (go_at_call 28; exact (CL.out _ (by rfl)).mono fun _ _ h => ⟨h.1, _, h.2⟩) | (go_at_call 15; exact (CR.out _ (by rfl)).mono fun _ _ h => ⟨h.1, _, h.2⟩)))
            go_wp2
            go_roundw
            case rel => exact ⟨m + 1, by omega, by go_num, HS.out.next (below_drawn (Below.refl _ _) _), below_drawn hbel _⟩
            case measure => simp [intOf]; omega
          · obtain rfl : D.length = m := by omega
            go_wp2_with fail
            refine (hexit _ hbel).mono ?_
            rintro e w6 ⟨rfl, hb6⟩
            go_wp2
            go_ret
            exact ⟨rfl, hb6⟩
end Go.Proofs.Ytkpnihapcoiepaa
