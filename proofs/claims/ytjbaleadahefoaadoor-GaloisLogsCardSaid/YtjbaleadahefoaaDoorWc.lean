/- Contracts of galois: Add, Sub, Mul by what the elements' operations return (written by wip/tools/gengal.py). -/
import Derived.Test.YtjbaleadahefoaaDoorWb
set_option linter.unusedVariables false
namespace Go.Proofs.YtjbaleadahefoaaDoor
open Go.RowKit

theorem run_value (c n q z : Int) (w : World) : Sem.run Tryd.prog (Instr.field 52 (.agg #[.int .i64 c, .int .i64 n, .int .i64 q, .int .i64 z]) 1) w = .ok (.int .i64 z) w := by
  first | rfl | simp [Instr.field, go_sem]
theorem EL.two {n x y : Int} (hx : 0 ≤ x ∧ x < n) (hy : 0 ≤ y ∧ y < n) : EL n [x, y] := by
  intro v hv
  rcases List.mem_cons.1 hv with rfl | hv
  · exact hx
  · rcases List.mem_cons.1 hv with rfl | hv
    · exact hy
    · cases hv
theorem EL.one {n x : Int} (hx : 0 ≤ x ∧ x < n) : EL n [x] := by
  intro v hv
  rcases List.mem_cons.1 hv with rfl | hv
  · exact hx
  · cases hv
theorem I64.of_el {n : Int} (hn : I64 n) {l : List Int} (h : EL n l) : ∀ x ∈ l, I64 x := by
  intro x hx
  have := h x hx
  unfold I64 at *
  omega
theorem areE_ok (c n q : Int) (hc : I64 c) (hn : I64 n) (hq : I64 q) (hV : VF c n q) (l : List Int) (hl : EL n l) (A : Option Addr) (m cp : Nat) (w : World) (hT : Tb w) (hs : Sl w w.heap.size A m cp (il l)) :
    Calls Tryd.prog 47 #[.agg #[.int .i64 c, .int .i64 n, .int .i64 q], .slice A m cp] w fun e w' => e = .returned (.bool true) ∧ Below w.heap.size w w' :=
  areElements_any c n q hc hn hq l (hn.of_el hl) A m cp true ⟨fun _ => ⟨hl, hV⟩, fun _ => rfl⟩ w hT hs
theorem two_new (w : World) (c n q x y : Int) : ∃ W, W = ((w.alloc (.cells #[.int .i64 c, .int .i64 n, .int .i64 q] 23)).alloc (.cells #[.int .i64 x, .int .i64 y] 3)) ∧
    Below w.heap.size w W ∧ Fd W w.heap.size c n q ∧ Sl W W.heap.size (some ⟨w.heap.size + 1, 0, none⟩) 2 2 (il [x, y]) := by
  refine ⟨_, rfl, below_step (below_new w _) (below_new _ _), (Fd.new w c n q).next (below_new _ _), ?_⟩
  have h := Sl.lit (w.alloc (.cells #[.int .i64 c, .int .i64 n, .int .i64 q] 23)) 3 #[.int .i64 x, .int .i64 y] 2 (0, 0) rfl (by unfold maxLen; omega)
  simpa [il] using h
theorem one_new (w : World) (c n q x : Int) : ∃ W, W = ((w.alloc (.cells #[.int .i64 c, .int .i64 n, .int .i64 q] 23)).alloc (.cells #[.int .i64 x] 3)) ∧
    Below w.heap.size w W ∧ Fd W w.heap.size c n q ∧ Sl W W.heap.size (some ⟨w.heap.size + 1, 0, none⟩) 1 1 (il [x]) := by
  refine ⟨_, rfl, below_step (below_new w _) (below_new _ _), (Fd.new w c n q).next (below_new _ _), ?_⟩
  have h := Sl.lit (w.alloc (.cells #[.int .i64 c, .int .i64 n, .int .i64 q] 23)) 3 #[.int .i64 x] 1 (0, 0) rfl (by unfold maxLen; omega)
  simpa [il] using h

set_option maxRecDepth 100000 in
theorem Mul_ok (c n q x y z : Int) (hc : I64 c) (hn : I64 n) (hq : I64 q) (hV : VF c n q) (hx : 0 ≤ x ∧ x < n) (hy : 0 ≤ y ∧ y < n)
    (HT : ∀ w, Calls Tryd.prog 52 #[elV c n q x, elV c n q y] w fun e w' => e = .returned (elV c n q z) ∧ Below w.heap.size w w') (w : World) (hT : Tb w) :
    Calls Tryd.prog 21 #[.agg #[.int .i64 c, .int .i64 n, .int .i64 q], .int .i64 x, .int .i64 y] w fun e w' => e = .returned (.tuple #[.int .i64 z, .int .i64 0]) ∧ Below w.heap.size w w' := by
  obtain ⟨W, hW, HB, F, S⟩ := two_new w c n q x y
  have HA := areE_ok c n q hc hn hq hV [x, y] (EL.two hx hy) _ _ _ W (hT.next HB) S
  unfold elV at HT
  clear hc hn hq hV hx hy hT S
  go_enter Tryd.func21, Tryd.ntmps21
  go_wp2_with fail
  rw [← hW]
  refine HA.mono ?_
  rintro e w1 ⟨rfl, hb⟩
  have F1 := F.next hb
  have hB := below_step HB hb
  clear F HB hb HA hW
  obtain ⟨c1, c2, c3⟩ := F1.cells
  go_wp2_with fail
  refine (HT _).mono ?_
  rintro e w2 ⟨rfl, hb⟩
  have hF := run_value c n q z w2
  go_wp2
  exact bodyPost_ret (v := .tuple #[.int .i64 z, .int .i64 0]) (by simp [results, Tryd.results21, go_sem]) rfl ⟨rfl, below_step hB hb⟩

set_option maxRecDepth 100000 in
theorem Add_ok (c n q x y z : Int) (hc : I64 c) (hn : I64 n) (hq : I64 q) (hV : VF c n q) (hx : 0 ≤ x ∧ x < n) (hy : 0 ≤ y ∧ y < n)
    (HT : ∀ w, Calls Tryd.prog 48 #[elV c n q x, elV c n q y] w fun e w' => e = .returned (elV c n q z) ∧ Below w.heap.size w w') (w : World) (hT : Tb w) :
    Calls Tryd.prog 17 #[.agg #[.int .i64 c, .int .i64 n, .int .i64 q], .int .i64 x, .int .i64 y] w fun e w' => e = .returned (.tuple #[.int .i64 z, .int .i64 0]) ∧ Below w.heap.size w w' := by
  obtain ⟨W, hW, HB, F, S⟩ := two_new w c n q x y
  have HA := areE_ok c n q hc hn hq hV [x, y] (EL.two hx hy) _ _ _ W (hT.next HB) S
  unfold elV at HT
  clear hc hn hq hV hx hy hT S
  go_enter Tryd.func17, Tryd.ntmps17
  go_wp2_with fail
  rw [← hW]
  refine HA.mono ?_
  rintro e w1 ⟨rfl, hb⟩
  have F1 := F.next hb
  have hB := below_step HB hb
  clear F HB hb HA hW
  obtain ⟨c1, c2, c3⟩ := F1.cells
  go_wp2_with fail
  refine (HT _).mono ?_
  rintro e w2 ⟨rfl, hb⟩
  have hF := run_value c n q z w2
  go_wp2
  exact bodyPost_ret (v := .tuple #[.int .i64 z, .int .i64 0]) (by simp [results, Tryd.results17, go_sem]) rfl ⟨rfl, below_step hB hb⟩

set_option maxRecDepth 100000 in
theorem Sub_ok (c n q x y z : Int) (hc : I64 c) (hn : I64 n) (hq : I64 q) (hV : VF c n q) (hx : 0 ≤ x ∧ x < n) (hy : 0 ≤ y ∧ y < n)
    (HT : ∀ w, Calls Tryd.prog 50 #[elV c n q x, elV c n q y] w fun e w' => e = .returned (elV c n q z) ∧ Below w.heap.size w w') (w : World) (hT : Tb w) :
    Calls Tryd.prog 19 #[.agg #[.int .i64 c, .int .i64 n, .int .i64 q], .int .i64 x, .int .i64 y] w fun e w' => e = .returned (.tuple #[.int .i64 z, .int .i64 0]) ∧ Below w.heap.size w w' := by
  obtain ⟨W, hW, HB, F, S⟩ := two_new w c n q x y
  have HA := areE_ok c n q hc hn hq hV [x, y] (EL.two hx hy) _ _ _ W (hT.next HB) S
  unfold elV at HT
  clear hc hn hq hV hx hy hT S
  go_enter Tryd.func19, Tryd.ntmps19
  go_wp2_with fail
  rw [← hW]
  refine HA.mono ?_
  rintro e w1 ⟨rfl, hb⟩
  have F1 := F.next hb
  have hB := below_step HB hb
  clear F HB hb HA hW
  obtain ⟨c1, c2, c3⟩ := F1.cells
  go_wp2_with fail
  refine (HT _).mono ?_
  rintro e w2 ⟨rfl, hb⟩
  have hF := run_value c n q z w2
  go_wp2
  exact bodyPost_ret (v := .tuple #[.int .i64 z, .int .i64 0]) (by simp [results, Tryd.results19, go_sem]) rfl ⟨rfl, below_step hB hb⟩
end Go.Proofs.YtjbaleadahefoaaDoor
