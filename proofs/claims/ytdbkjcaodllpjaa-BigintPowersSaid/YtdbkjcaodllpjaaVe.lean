/- Contracts: the specification of Pow, at 0, 1 and -1, and what it refuses. -/
import Derived.Test.YtdbkjcaodllpjaaVd
set_option linter.unusedVariables false
namespace Go.Proofs.Ytdbkjcaodllpjaa
open Go.RowKit
attribute [local go_sem ↓] Go.wp_at_zero Go.wp_at_succ

set_option maxRecDepth 100000 in
set_option maxHeartbeats 4000000 in
theorem rPow_zero (neg : Bool) (v : Nat) (A : Option Addr) (n c : Nat) (w : World) (hs : Sl w w.heap.size A n c (ml (enc v))) (hva : Vd neg v) :
    Calls Try.prog 32 #[.agg #[.bool neg, .slice A n c], .int .i64 0] w (GiveE false 1 0 w) := by
  obtain ⟨HA, HR, HB, hS⟩ := boxed_ab w (.bool neg) (.slice A n c) (.bool false) (.slice none 0 0)
  have XA : Bx _ w.heap.size neg v A n c := ⟨HA, hS _ _ _ _ hs⟩
  clear hS hs HA
  go_enter Try.func32, Try.ntmps32
  go_wp2_with fail
  refine (rValid_true hva XA.sl).mono ?_
  rintro e w1 ⟨rfl, hb1⟩
  replace XA := XA.next hb1
  replace HR := HR.next hb1
  replace HB := below_step HB hb1
  clear hb1 hva
  go_wp2_with fail
  refine (ex_rfrom1 _).mono ?_
  intro e w2 h
  obtain ⟨A6, n6, c6, rfl, hs6, hb2⟩ := giveI_out h
  have hlt2 := (HR.next hb2).lt
  have f2 := (HR.next hb2).facts
  have X6 := Bx.new (neg := false) hs6
  have hnn := below_step hb2 (below_new w2 (.cells #[.bool false, .slice A6 n6 c6] 24))
  have HB2 := below_step HB hb2
  have HR2 := HR.next hb2
  replace XA := XA.next hnn
  replace HR := HR.next hnn
  replace HB := below_step HB hnn
  obtain ⟨a1, a2⟩ := XA.cells
  clear h hb2 hnn
  go_wp2
  refine bodyPost_ret (v := .tuple #[.agg #[.bool false, .slice A6 n6 c6], .int .i64 0]) (by simp [results, Try.results32, go_sem, hlt2, f2.1, f2.2.1]) rfl ?_
  have hz := GiveE.put (err := 0) HB (by omega) HR X6.sl (neg := false) (.bool false) (.slice A6 n6 c6)
  first
    | exact hz
    | (have ec : ∀ (W : World) (n i : Nat) (u : Value) (O : Obj), n < W.heap.size → (W.alloc O).setCell ⟨n, i, none⟩ u = (W.setCell ⟨n, i, none⟩ u).alloc O := fun W n i u O h => World.setCell_alloc_past (w := W) O _ _ u h
       rw [ec _ _ _ _ _ hlt2, ec _ _ _ _ _ (by simpa using hlt2)] at hz
       exact hz)

set_option maxRecDepth 100000 in
set_option maxHeartbeats 4000000 in
theorem rPow_one (A : Option Addr) (n c : Nat) (w : World) (hs : Sl w w.heap.size A n c (ml (enc 1))) (k : Nat) (hk : (0 : Int) < (k : Int)) :
    Calls Try.prog 32 #[.agg #[.bool false, .slice A n c], .int .i64 (k : Int)] w (GiveE false 1 0 w) := by
  obtain ⟨HA, HR, HB, hS⟩ := boxed_ab w (.bool false) (.slice A n c) (.bool false) (.slice none 0 0)
  have XA : Bx _ w.heap.size false 1 A n c := ⟨HA, hS _ _ _ _ hs⟩
  clear hS hs HA
  have hva := vd_one false
  have HVd := Lib.hid hva
  go_enter Try.func32, Try.ntmps32
  go_wp2_with fail
  refine (rValid_true hva XA.sl).mono ?_
  rintro e w1 ⟨rfl, hb1⟩
  replace XA := XA.next hb1
  replace HR := HR.next hb1
  replace HB := below_step HB hb1
  clear hb1 hva
  go_wp2_with fail
  refine (ex_rfrom1 _).mono ?_
  intro e w2 h
  obtain ⟨A6, n6, c6, rfl, hs6, hb2⟩ := giveI_out h
  have hlt2 := (HR.next hb2).lt
  have f2 := (HR.next hb2).facts
  have X6 := Bx.new (neg := false) hs6
  have hnn := below_step hb2 (below_new w2 (.cells #[.bool false, .slice A6 n6 c6] 24))
  have HB2 := below_step HB hb2
  have HR2 := HR.next hb2
  replace XA := XA.next hnn
  replace HR := HR.next hnn
  replace HB := below_step HB hnn
  obtain ⟨a1, a2⟩ := XA.cells
  clear h hb2 hnn
  have HCC := Lib.hid (rCmp_any _ _ false false 1 1 _ XA.zi X6.zi HVd.out (vd_one _))
  rw [show cmpS false 1 false 1 = 0 by decide] at HCC
  go_wp2_with fail
  refine HCC.out.mono ?_
  rintro e w3 ⟨rfl, hb3⟩
  have f3 := (HR.next hb3).facts
  clear a1 a2
  obtain ⟨a1, a2⟩ := (XA.next hb3).cells
  obtain ⟨k1, k2⟩ := (X6.next hb3).cells
  have HB3 := below_step HB hb3
  have HR3 := HR.next hb3
  have XA3 := XA.next hb3
  have X63 := X6.next hb3
  clear XA X6 HR HB hb3 HCC HB2 HR2 hs6 f2 hlt2
  go_wp2
  refine bodyPost_ret (v := .tuple #[.agg #[.bool false, .slice A6 n6 c6], .int .i64 0]) (by simp [results, Try.results32, go_sem, f3.1, f3.2.1]) rfl ?_
  exact GiveE.put HB3 (by omega) HR3 X63.sl _ _

set_option maxRecDepth 100000 in
set_option maxHeartbeats 4000000 in
theorem rPow_nil (A : Option Addr) (n c : Nat) (w : World) (hs : Sl w w.heap.size A n c (ml (enc 0))) (k : Nat) (hk : (0 : Int) < (k : Int)) :
    Calls Try.prog 32 #[.agg #[.bool false, .slice A n c], .int .i64 (k : Int)] w (GiveE false 0 0 w) := by
  obtain ⟨HA, HR, HB, hS⟩ := boxed_ab w (.bool false) (.slice A n c) (.bool false) (.slice none 0 0)
  have XA : Bx _ w.heap.size false 0 A n c := ⟨HA, hS _ _ _ _ hs⟩
  clear hS hs HA
  have hva : Vd false 0 := ⟨fun h => by (cases h), by rw [enc_zero]; simp⟩
  have hn : n = 0 := by have := XA.sl.len; rw [length_ml, enc_zero] at this; exact this.symm
  subst hn
  have HVd := Lib.hid hva
  go_enter Try.func32, Try.ntmps32
  go_wp2_with fail
  refine (rValid_true hva XA.sl).mono ?_
  rintro e w1 ⟨rfl, hb1⟩
  replace XA := XA.next hb1
  replace HR := HR.next hb1
  replace HB := below_step HB hb1
  clear hb1 hva
  go_wp2_with fail
  refine (ex_rfrom1 _).mono ?_
  intro e w2 h
  obtain ⟨A6, n6, c6, rfl, hs6, hb2⟩ := giveI_out h
  have hlt2 := (HR.next hb2).lt
  have f2 := (HR.next hb2).facts
  have X6 := Bx.new (neg := false) hs6
  have hnn := below_step hb2 (below_new w2 (.cells #[.bool false, .slice A6 n6 c6] 24))
  have HB2 := below_step HB hb2
  have HR2 := HR.next hb2
  replace XA := XA.next hnn
  replace HR := HR.next hnn
  replace HB := below_step HB hnn
  obtain ⟨a1, a2⟩ := XA.cells
  clear h hb2 hnn
  have HCC := Lib.hid (rCmp_any _ _ false false 0 1 _ XA.zi X6.zi HVd.out (vd_one _))
  rw [show cmpS false 0 false 1 = -1 by decide] at HCC
  go_wp2_with fail
  refine HCC.out.mono ?_
  rintro e w3 ⟨rfl, hb3⟩
  have f3 := (HR.next hb3).facts
  clear a1 a2
  obtain ⟨a1, a2⟩ := (XA.next hb3).cells
  obtain ⟨k1, k2⟩ := (X6.next hb3).cells
  have HB3 := below_step HB hb3
  have HR3 := HR.next hb3
  have XA3 := XA.next hb3
  have X63 := X6.next hb3
  clear XA X6 HR HB hb3 HCC HB2 HR2 hs6 f2 hlt2
  go_wp2
  refine bodyPost_ret (v := .tuple #[.agg #[.bool false, .slice A 0 c], .int .i64 0]) (by simp [results, Try.results32, go_sem, f3.1, f3.2.1]) rfl ?_
  exact GiveE.put HB3 (by omega) HR3 XA3.sl _ _

set_option maxRecDepth 100000 in
set_option maxHeartbeats 4000000 in
theorem rPow_minus (A : Option Addr) (n c : Nat) (w : World) (hs : Sl w w.heap.size A n c (ml (enc 1))) (k : Nat) (hk : (0 : Int) < (k : Int)) (odd : Bool) (hodd : (((k : Int) % 2) == 0) = !odd) :
    Calls Try.prog 32 #[.agg #[.bool true, .slice A n c], .int .i64 (k : Int)] w (GiveE odd 1 0 w) := by
  obtain ⟨HA, HR, HB, hS⟩ := boxed_ab w (.bool true) (.slice A n c) (.bool false) (.slice none 0 0)
  have XA : Bx _ w.heap.size true 1 A n c := ⟨HA, hS _ _ _ _ hs⟩
  clear hS hs HA
  have hva := vd_one true
  have hn0 : ((n : Int) == 0) = false := by have := XA.sl.len; rw [length_ml, one_limb (by omega) (by omega)] at this; subst this; rfl
  have HVd := Lib.hid hva
  go_enter Try.func32, Try.ntmps32
  go_wp2_with fail
  refine (rValid_true hva XA.sl).mono ?_
  rintro e w1 ⟨rfl, hb1⟩
  replace XA := XA.next hb1
  replace HR := HR.next hb1
  replace HB := below_step HB hb1
  clear hb1 hva
  go_wp2_with fail
  refine (ex_rfrom1 _).mono ?_
  intro e w2 h
  obtain ⟨A6, n6, c6, rfl, hs6, hb2⟩ := giveI_out h
  have hlt2 := (HR.next hb2).lt
  have f2 := (HR.next hb2).facts
  have X6 := Bx.new (neg := false) hs6
  have hnn := below_step hb2 (below_new w2 (.cells #[.bool false, .slice A6 n6 c6] 24))
  have HB2 := below_step HB hb2
  have HR2 := HR.next hb2
  replace XA := XA.next hnn
  replace HR := HR.next hnn
  replace HB := below_step HB hnn
  obtain ⟨a1, a2⟩ := XA.cells
  clear h hb2 hnn
  have HCC := Lib.hid (rCmp_any _ _ true false 1 1 _ XA.zi X6.zi HVd.out (vd_one _))
  rw [show cmpS true 1 false 1 = -1 by decide] at HCC
  go_wp2_with fail
  refine HCC.out.mono ?_
  rintro e w3 ⟨rfl, hb3⟩
  have f3 := (HR.next hb3).facts
  clear a1 a2
  obtain ⟨a1, a2⟩ := (XA.next hb3).cells
  obtain ⟨k1, k2⟩ := (X6.next hb3).cells
  have HB3 := below_step HB hb3
  have HR3 := HR.next hb3
  have XA3 := XA.next hb3
  have X63 := X6.next hb3
  clear XA X6 HR HB hb3 HCC HB2 HR2 hs6 f2 hlt2
  have XA4 := XA3.drew
  have X64 := X63.drew
  have HR4 := HR3.drew
  have HB4 := HB3.drew
  clear XA3 X63 HR3 HB3 f3
  cases odd
  all_goals
    go_wp2
    clear a1 a2 k1 k2
    obtain ⟨a1, a2⟩ := XA4.cells
    go_region_held3 (fun W => W.cell? ⟨w.heap.size, 0, none⟩ = some (.bool true) ∧ W.cell? ⟨w.heap.size, 1, none⟩ = some (.slice A n c))
      (first | (with_reducible exact ⟨a1, a2⟩))
      (first
      | (go_at_call 38; (with_reducible refine (ex_rfromm1 _).mono ?_); intro e wd hm; obtain ⟨Am, nm, cm, rfl, hsm, hbd⟩ := giveI_out hm; have XA1 := XA4.next hbd; have X61 := X64.next hbd; have HR1 := HR4.next hbd; have HB1 := below_step HB4 hbd; clear hm XA4 X64 HR4 HB4 hbd a1 a2; obtain ⟨a1, a2⟩ := XA1.cells; have HCD' := Lib.hid (rCmp_any _ _ true true 1 1 _ XA1.zi (sl_zi hsm) HVd.out (vd_one _)); rw [show cmpS true 1 true 1 = 0 by decide] at HCD')
      | (go_at_call 23; (with_reducible refine HCD'.out.mono ?_); rintro e we ⟨rfl, hbd⟩; have XA2 := XA1.next hbd; have X62 := X61.next hbd; have HR5 := HR1.next hbd; have HB5 := below_step HB1 hbd; clear XA1 X61 HR1 HB1 hbd a1 a2 HCD'; obtain ⟨a1, a2⟩ := XA2.cells))
    obtain ⟨k1, k2⟩ := X62.cells
    obtain ⟨t1, t2, t3, t4⟩ := HR5.facts
    first
      | (go_wp2_with fail
         refine (ex_rfromm1 _).mono ?_
         intro e w7 h
         obtain ⟨A7, n7, c7, rfl, hs7, hb7⟩ := giveI_out h
         have HR7 := HR5.next hb7
         clear t1 t2 t3 t4
         obtain ⟨t1, t2, t3, t4⟩ := HR7.facts
         go_wp2
         refine bodyPost_ret (v := .tuple #[.agg #[.bool true, .slice A7 n7 c7], .int .i64 0]) (by simp [results, Try.results32, go_sem, t1, t2]) rfl ?_
         exact GiveE.put (below_step HB5 hb7) (by omega) HR7 hs7 _ _)
      | (go_wp2
         refine bodyPost_ret (v := .tuple #[.agg #[.bool false, .slice A6 n6 c6], .int .i64 0]) (by simp [results, Try.results32, go_sem, t1, t2]) rfl ?_
         exact GiveE.put HB5 (by omega) HR5 X62.sl _ _)

set_option maxRecDepth 100000 in
theorem rPow_bad (neg : Bool) (A : Option Addr) (n c : Nat) (l : List Nat) (k : Int) (w : World) (hs : Sl w w.heap.size A n c (ml l)) (hok : Ok l) (hv : validB neg l = false) :
    Calls Try.prog 32 #[.agg #[.bool neg, .slice A n c], .int .i64 k] w (GiveE false 0 1 w) := by
  obtain ⟨HA, HR, HB, hS⟩ := boxed_ab w (.bool neg) (.slice A n c) (.bool false) (.slice none 0 0)
  have h1 := hS _ _ _ _ hs
  clear hS hs
  go_enter Try.func32, Try.ntmps32
  go_wp2_with fail
  refine (rValid_false hv hok h1).mono ?_
  rintro e w3 ⟨rfl, hb3⟩
  replace HR := HR.next hb3
  replace HB := below_step HB hb3
  obtain ⟨t1, t2, t3, t4⟩ := HR.facts
  go_wp2
  exact bodyPost_ret (v := .tuple #[.agg #[.bool false, .slice none 0 0], .int .i64 1]) (by simp [results, Try.results32, go_sem, t1, t2]) rfl ⟨_, rfl, Zi.zero _, below_two HB (by omega) _ _⟩

set_option maxRecDepth 100000 in
theorem rPow_under (neg : Bool) (A : Option Addr) (n c : Nat) (l : List Nat) (k : Int) (w : World) (hs : Sl w w.heap.size A n c (ml l)) (hv : validB neg l = true) (hok : Ok l) (hk : k < 0) :
    Calls Try.prog 32 #[.agg #[.bool neg, .slice A n c], .int .i64 k] w (GiveE false 0 1 w) := by
  obtain ⟨ev, hva⟩ := of_validB hok hv
  generalize val l = v at ev hva
  subst ev
  obtain ⟨HA, HR, HB, hS⟩ := boxed_ab w (.bool neg) (.slice A n c) (.bool false) (.slice none 0 0)
  have h1 := hS _ _ _ _ hs
  clear hS hs
  go_enter Try.func32, Try.ntmps32
  go_wp2_with fail
  refine (rValid_true hva h1).mono ?_
  rintro e w3 ⟨rfl, hb3⟩
  replace HR := HR.next hb3
  replace HB := below_step HB hb3
  obtain ⟨t1, t2, t3, t4⟩ := HR.facts
  go_wp2
  exact bodyPost_ret (v := .tuple #[.agg #[.bool false, .slice none 0 0], .int .i64 1]) (by simp [results, Try.results32, go_sem, t1, t2]) rfl ⟨_, rfl, Zi.zero _, below_two HB (by omega) _ _⟩

set_option maxRecDepth 100000 in
theorem pow_under (neg : Bool) (A : Option Addr) (n c : Nat) (l : List Nat) (k : Int) (w : World) (hs : Sl w w.heap.size A n c (ml l)) (hv : validB neg l = true) (hok : Ok l) (hk : k < 0) :
    Calls Try.prog 31 #[.agg #[.bool neg, .slice A n c], .int .i64 k] w (GiveE false 0 1 w) := by
  obtain ⟨ev, hva⟩ := of_validB hok hv
  generalize val l = v at ev hva
  subst ev
  obtain ⟨HA, HR, HB, hS⟩ := boxed_ab w (.bool neg) (.slice A n c) (.bool false) (.slice none 0 0)
  have h1 := hS _ _ _ _ hs
  clear hS hs
  go_enter Try.func31, Try.ntmps31
  go_wp2_with fail
  refine (valid_true hva h1).mono ?_
  rintro e w3 ⟨rfl, hb3⟩
  replace HR := HR.next hb3
  replace HB := below_step HB hb3
  obtain ⟨t1, t2, t3, t4⟩ := HR.facts
  go_wp2
  exact bodyPost_ret (v := .tuple #[.agg #[.bool false, .slice none 0 0], .int .i64 1]) (by simp [results, Try.results31, go_sem, t1, t2]) rfl ⟨_, rfl, Zi.zero _, below_two HB (by omega) _ _⟩
end Go.Proofs.Ytdbkjcaodllpjaa
