/- The examples that each law asks first: all true. -/
import Derived.Test.YtjpfalpengocjaaW4
import Derived.Test.YtjpfalpengocjaaW7
import Derived.Test.YtjpfalpengocjaaW8
import Derived.Test.YtjpfalpengocjaaW9
import Derived.Test.YtjpfalpengocjaaWb
import Derived.Test.YtjpfalpengocjaaWc
set_option linter.unusedVariables false
namespace Go.Proofs.Ytjpfalpengocjaa
open Go.RowKit

def L4 : List Bool := [true, false, true, true]
def L2 : List Bool := [true, true]
def L3 : List Bool := [true, false, true]
def I2 : List Int := [2, 3]
def sLit : ByteArray := ⟨#[49, 48, 49, 49]⟩
theorem appS_ex : appS [] 11 4 = (L4, 0) := by decide
theorem parseS_ex : parseS sLit = (L4, 0) := by decide
theorem takeS_ex : takeS L4 1 3 = (3, 0) := by decide
theorem wordsS_ex : wordsS L3 2 true = ([2, 3], 0) := by decide
theorem nl_ex : nl [2, 3] = il I2 := rfl
theorem fromWordsS_ex : fromWordsS I2 2 = (L4, 0) := by decide
theorem takeS_ex2 : takeS L4 0 2 = (2, 0) := by decide
theorem leftS_ex : leftS L4 2 = L2 := by decide
theorem bytes_ex : wds [true] 8 false (cnt 1 8) = [128] := by decide
theorem wt_ex : wt L4 = 3 := by decide
theorem chs_ex : str (chs L4) = sLit := by
  rw [show chs L4 = [49, 48, 49, 49] by decide]
  rfl

/-- Gives, its length and number written out -/
theorem gives_out {r : List Value} {err : Int} {n : Nat} {w w' : World} {e : Ending} (h : Gives r err w e w') (hn : r.length = n) :
    ∃ A c, e = .returned (.tuple #[.slice A n c, .int .i64 err]) ∧ Sl w' w'.heap.size A n c r ∧ Below w.heap.size w w' := by
  subst hn
  exact h
theorem gives1_out {r : List Value} {n : Nat} {w w' : World} {e : Ending} (h : Gives1 r w e w') (hn : r.length = n) :
    ∃ A c, e = .returned (.slice A n c) ∧ Sl w' w'.heap.size A n c r ∧ Below w.heap.size w w' := by
  subst hn
  exact h
theorem below_step {w wk w' : World} (hB : Below w.heap.size w wk) (hb : Below wk.heap.size wk w') : Below w.heap.size w w' := hB.trans (hb.mono hB.size)
theorem below_new (w : World) (o : Obj) : Below w.heap.size w (w.alloc o) := (Below.refl _ _).alloc (Nat.le_refl _) _
/-- a slice literal -/
theorem Sl.lit (w : World) (e : TypeId) (cs : Array Value) (n : Nat) (hn : cs.size = n) (hm : n ≤ maxLen) : Sl (w.alloc (.cells cs e)) (w.alloc (.cells cs e)).heap.size (some ⟨w.heap.size, 0, none⟩) n n cs.toList := by
  subst hn
  refine ⟨by simp, Nat.le_refl _, hm, fun h => (by cases h), fun _ => ⟨w.heap.size, 0, rfl, by simp, fun j u hu => ?_⟩⟩
  rw [Nat.zero_add, cell_of_row _ w.heap.size j cs e (0, 0) (heap_alloc_new w _)]
  simpa using hu

theorem al_append (w : World) : Calls Try.prog 13 #[.slice none 0 0, .int .i64 11, .int .i64 4] w fun e w' => ∃ A c, e = .returned (.tuple #[.slice A 4 c, .int .i64 0]) ∧ Sl w' w'.heap.size A 4 c (bl L4) ∧ Below w.heap.size w w' := by
  have h := append_any none 0 0 [] 11 4 w (Sl.none_ _ _)
  rw [appS_ex] at h
  exact h.mono fun _ _ h => gives_out h rfl
theorem al_parse (w : World) : Calls Try.prog 22 #[.string sLit] w fun e w' => ∃ A c, e = .returned (.tuple #[.slice A 4 c, .int .i64 0]) ∧ Sl w' w'.heap.size A 4 c (bl L4) ∧ Below w.heap.size w w' := by
  have h := parse_any sLit w (by decide)
  rw [parseS_ex] at h
  exact h.mono fun _ _ h => gives_out h rfl
theorem al_take (A : Option Addr) (c : Nat) (w : World) (hs : Sl w w.heap.size A 4 c (bl L4)) : Calls Try.prog 15 #[.slice A 4 c, .int .i64 1, .int .i64 3] w fun e w' => e = .returned (.tuple #[.int .i64 3, .int .i64 0]) ∧ w = w' := by
  have h := take_any A 4 c _ L4 1 3 w hs
  rw [takeS_ex] at h
  exact h
theorem al_words (w : World) (A : Option Addr) (c : Nat) (hs : Sl w w.heap.size A 3 c (bl L3)) : Calls Try.prog 30 #[.slice A 3 c, .int .i64 2, .bool true] w fun e w' => ∃ A c, e = .returned (.tuple #[.slice A 2 c, .int .i64 0]) ∧ Sl w' w'.heap.size A 2 c (il I2) ∧ Below w.heap.size w w' := by
  have h := words_full A 3 c L3 2 true w hs (by omega)
  rw [wordsS_ex] at h
  exact h.mono fun _ _ h => gives_out h rfl
theorem al_fromWords (w : World) (A : Option Addr) (c : Nat) (hs : Sl w w.heap.size A 2 c (il I2)) : Calls Try.prog 32 #[.slice A 2 c, .int .i64 2] w fun e w' => ∃ A c, e = .returned (.tuple #[.slice A 4 c, .int .i64 0]) ∧ Sl w' w'.heap.size A 4 c (bl L4) ∧ Below w.heap.size w w' := by
  have h := fromWords_any A 2 c I2 2 w hs
  rw [fromWordsS_ex] at h
  exact h.mono fun _ _ h => gives_out h rfl
theorem al_rtake (g : Nat) (w : World) (h : Rd w g L4) : Calls Try.prog 36 #[.pointer (some ⟨g, 0, none⟩), .int .i64 2] w fun e w' => e = .returned (.tuple #[.int .i64 2, .int .i64 0]) ∧ Rd w' g L2 ∧ Below g w w' := by
  have h := rtake_any g L4 2 w h
  rw [takeS_ex2, leftS_ex] at h
  exact h
theorem al_bytes (w : World) (A : Option Addr) (c : Nat) (hs : Sl w w.heap.size A 1 c (bl [true])) : Calls Try.prog 20 #[.slice A 1 c] w fun e w' => ∃ A c, e = .returned (.slice A 1 c) ∧ Sl w' w'.heap.size A 1 c (byl [128]) ∧ Below w.heap.size w w' := by
  have h := bytes_any A 1 c [true] w hs (by omega)
  rw [bytes_ex] at h
  exact h.mono fun _ _ h => gives1_out h rfl

theorem alive_any (w : World) : Calls Try.prog 12 #[] w fun e w' => e = .returned (.bool true) ∧ Below w.heap.size w w' := by
  go_enter Try.func12, Try.ntmps12
  go_wp2_with fail
  refine (al_append _).mono ?_
  rintro e w1 ⟨A1, c1, rfl, hs1, hb1⟩
  go_wp2_with fail
  refine (al_parse _).mono ?_
  rintro e w2 ⟨A2, c2, rfl, hs2, hb2⟩
  have hB := below_step hb1 hb2
  replace hs1 := hs1.next hb2
  clear hb1 hb2
  go_wp2_with fail
  refine (al_take _ _ _ hs1).mono ?_
  rintro e w' ⟨rfl, rfl⟩
  have hb3 := below_new w2 (.cells #[.bool true, .bool false, .bool true] 4)
  have hs3 := Sl.lit w2 4 #[.bool true, .bool false, .bool true] 3 rfl (by unfold maxLen; omega)
  replace hs1 := hs1.next hb3
  replace hs2 := hs2.next hb3
  replace hB := below_step hB hb3
  clear hb3
  go_wp2_with fail
  refine (al_words _ _ _ hs3).mono ?_
  rintro e w4 ⟨A4, c4, rfl, hs4, hb4⟩
  replace hs1 := hs1.next hb4
  replace hs2 := hs2.next hb4
  replace hB := below_step hB hb4
  clear hb4 hs3
  have hb5 := below_new w4 (.cells #[.int .i64 2, .int .i64 3] 3)
  have hs5 := Sl.lit w4 3 #[.int .i64 2, .int .i64 3] 2 rfl (by unfold maxLen; omega)
  replace hs1 := hs1.next hb5
  replace hs2 := hs2.next hb5
  replace hs4 := hs4.next hb5
  replace hB := below_step hB hb5
  clear hb5
  go_wp2_with fail
  refine (al_fromWords _ _ _ hs5).mono ?_
  rintro e w6 ⟨A6, c6, rfl, hs6, hb6⟩
  replace hs1 := hs1.next hb6
  replace hs2 := hs2.next hb6
  replace hs4 := hs4.next hb6
  replace hB := below_step hB hb6
  clear hb6 hs5
  go_wp2_with fail
  refine (newReader_any _ _ _ L4 _ hs2 (by omega)).mono ?_
  rintro e w7 ⟨g, rfl, hrd, hg, hb7⟩
  go_wp2_with fail
  refine (al_rtake g _ hrd).mono ?_
  rintro e w8 ⟨rfl, hrd2, hb8⟩
  have hsz8 := hb8.size
  have hsz7 := hb7.size
  have hb78 := hb7.trans (hb8.mono hg)
  replace hs1 := hs1.next hb78
  replace hs2 := hs2.next hb78
  replace hs4 := hs4.next hb78
  replace hs6 := hs6.next hb78
  replace hB := below_step hB hb78
  clear hb78 hb7 hb8 hrd hg hsz8 hsz7
  have hb9 := below_new w8 (.cells #[.bool true] 4)
  have hs9 := Sl.lit w8 4 #[.bool true] 1 rfl (by unfold maxLen; omega)
  replace hs1 := hs1.next hb9
  replace hs2 := hs2.next hb9
  replace hs4 := hs4.next hb9
  replace hs6 := hs6.next hb9
  replace hrd2 := hrd2.below hb9 hrd2.lt
  replace hB := below_step hB hb9
  clear hb9
  go_wp2_with fail
  refine (al_bytes _ _ _ hs9).mono ?_
  rintro e wa ⟨Aa, ca, rfl, hsa, hba⟩
  replace hs1 := hs1.next hba
  replace hs2 := hs2.next hba
  replace hs4 := hs4.next hba
  replace hs6 := hs6.next hba
  replace hrd2 := hrd2.below hba hrd2.lt
  replace hB := below_step hB hba
  clear hba hs9
  go_wp2_with fail
  refine (same_any _ _ _ _ _ _ L4 L4 _ hs1 hs2).mono ?_
  rintro e wb ⟨rfl, hbb⟩
  replace hs1 := hs1.next hbb
  replace hs2 := hs2.next hbb
  replace hs4 := hs4.next hbb
  replace hs6 := hs6.next hbb
  replace hsa := hsa.next hbb
  replace hrd2 := hrd2.below hbb hrd2.lt
  replace hB := below_step hB hbb
  clear hbb
  rw [beq_self_eq_true L4]
  go_wp2_with fail
  refine (same_any _ _ _ _ _ _ L4 L4 _ hs6 hs2).mono ?_
  rintro e wc ⟨rfl, hbc⟩
  replace hs1 := hs1.next hbc
  replace hs4 := hs4.next hbc
  replace hsa := hsa.next hbc
  replace hrd2 := hrd2.below hbc hrd2.lt
  replace hB := below_step hB hbc
  clear hbc hs6 hs2
  rw [beq_self_eq_true L4]
  have hbd := below_new wc (.cells #[.int .i64 2, .int .i64 3] 3)
  have hsd := Sl.lit wc 3 #[.int .i64 2, .int .i64 3] 2 rfl (by unfold maxLen; omega)
  replace hs1 := hs1.next hbd
  replace hs4 := hs4.next hbd
  replace hsa := hsa.next hbd
  replace hrd2 := hrd2.below hbd hrd2.lt
  replace hB := below_step hB hbd
  clear hbd
  go_wp2_with fail
  refine (ints_any _ _ _ _ _ _ I2 I2 _ hs4 hsd).mono ?_
  rintro e we ⟨rfl, hbe⟩
  replace hs1 := hs1.next hbe
  replace hsa := hsa.next hbe
  replace hrd2 := hrd2.below hbe hrd2.lt
  replace hB := below_step hB hbe
  clear hbe hs4 hsd
  rw [beq_self_eq_true I2]
  go_wp2_with fail
  refine (left_any g L2 _ hrd2).mono ?_
  rintro e w' ⟨rfl, rfl⟩
  obtain ⟨b, off, rfl, hb, hc⟩ := hsa.at_ (show 0 < 1 by omega) (.int .u8 0)
  rw [show (byl [128]).getD 0 (.int .u8 0) = .int .u8 128 from rfl, Nat.add_zero] at hc
  rw [show L2.length = 2 from rfl]
  clear hrd2 hsa
  go_wp2_with fail
  refine (format_any _ _ _ L4 _ hs1 (by omega)).mono ?_
  rintro e wf ⟨rfl, hbf⟩
  replace hs1 := hs1.next hbf
  replace hB := below_step hB hbf
  clear hbf hc
  rw [chs_ex]
  unfold sLit
  go_wp2_with fail
  refine (weight_any _ _ _ _ L4 _ hs1).mono ?_
  rintro e w' ⟨rfl, rfl⟩
  rw [wt_ex]
  go_wp2
  go_ret
  exact ⟨rfl, hB⟩
end Go.Proofs.Ytjpfalpengocjaa
