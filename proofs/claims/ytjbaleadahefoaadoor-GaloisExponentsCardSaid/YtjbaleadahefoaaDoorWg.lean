/- Contracts of galois: the keys of the table of logarithms. -/
import Derived.Test.YtjbaleadahefoaaDoorWf
import Derived.Maps.OwnSet
import Derived.Maps.OwnOps
import Derived.Maps.Views
import Derived.DeepKeys4
set_option linter.unusedVariables false
namespace Go.Proofs.YtjbaleadahefoaaDoor
open Go.RowKit Go.Maps

theorem laidOut : laidOutB Tryd.prog = true := by kernel_rfl
theorem row_el : (52 : TypeId) < Tryd.prog.types.size := of_decide_eq_true (by kernel_rfl)
theorem wide_el : (match Tryd.prog.underlying 52 with | some (.array _ _) | some (.struct _) => true | _ => false) = true := by kernel_rfl
theorem law_el : Keyed Tryd.prog 52 := Keyed.of_law (deep_law_laid laidOut (m := 3) (by omega) row_el (by kernel_rfl) wide_el)
theorem zero3 (w : World) : (zeroValue 3).run Tryd.prog w = .ok (.int .i64 0) w := by kernel_rfl
theorem size_types : Tryd.prog.types.size + 1 = (Tryd.prog.types.size - 2) + 1 + 1 + 1 := by kernel_rfl
theorem lits_int (d : Nat) (a : Int) (h : (Lit.int .i64 a).wf = true) : Tryd.prog.keyLits (d + 1) 3 [.int .i64 a] = some [.int .i64 a] := by
  have h3 : Tryd.prog.underlying 3 = some (.int .i64) := by kernel_rfl
  simp [Program.keyLits, h3, h]
theorem lits_field (d : Nat) (c n q : Int) (hc : (Lit.int .i64 c).wf = true) (hn : (Lit.int .i64 n).wf = true) (hq : (Lit.int .i64 q).wf = true) : Tryd.prog.keyLits (d + 1 + 1) 23 [.int .i64 c, .int .i64 n, .int .i64 q] = some [.int .i64 c, .int .i64 n, .int .i64 q] := by
  have hs : Tryd.prog.cellsOf 23 = 3 := by kernel_rfl
  have hs3 : Tryd.prog.cellsOf 3 = 1 := by kernel_rfl
  unfold Program.keyLits
  rw [Tryd.underlying23]
  simp [ hs, hs3, lits_int _ _ hc, lits_int _ _ hn, lits_int _ _ hq]
theorem lits_el (d : Nat) (c n q v : Int) (hc : (Lit.int .i64 c).wf = true) (hn : (Lit.int .i64 n).wf = true) (hq : (Lit.int .i64 q).wf = true) (hv : (Lit.int .i64 v).wf = true) : Tryd.prog.keyLits (d + 1 + 1 + 1) 52 [.int .i64 c, .int .i64 n, .int .i64 q, .int .i64 v] = some [.int .i64 c, .int .i64 n, .int .i64 q, .int .i64 v] := by
  have hs : Tryd.prog.cellsOf 23 = 3 := by kernel_rfl
  have hs4 : Tryd.prog.cellsOf 52 = 4 := by kernel_rfl
  have hs3 : Tryd.prog.cellsOf 3 = 1 := by kernel_rfl
  unfold Program.keyLits
  rw [Tryd.underlying52]
  simp [ hs, hs3, hs4, lits_field _ _ _ _ hc hn hq, lits_int _ _ hv]
theorem formed_el (c n q v : Int) : (elV c n q v).formed Tryd.prog 52 = true := by
  have hs4 : Tryd.prog.cellsOf 52 = 4 := by kernel_rfl
  simp [elV, Value.formed, Tryd.underlying52, hs4]
/-- the key of an element -/
def kl (c n q v : Int) : Lit := .string (keyBytes [.int .i64 c, .int .i64 n, .int .i64 q, .int .i64 v])
theorem key_el (c n q v : Int) (hc : I64 c) (hn : I64 n) (hq : I64 q) (hv : I64 v) : keyOf Tryd.prog 52 (elV c n q v) = some (kl c n q v) := by
  have hk : Tryd.prog.keyType 52 = true := by kernel_rfl
  have h1 : (Lit.int .i64 c).wf = true := WalkArith.wf_i64 hc
  have h2 : (Lit.int .i64 n).wf = true := WalkArith.wf_i64 hn
  have h3 : (Lit.int .i64 q).wf = true := WalkArith.wf_i64 hq
  have h4 : (Lit.int .i64 v).wf = true := WalkArith.wf_i64 hv
  unfold keyOf
  rw [Tryd.underlying52]
  simp only [hk, formed_el, Bool.and_self, if_true]
  rw [size_types, show (elV c n q v).cells.toList = [.int .i64 c, .int .i64 n, .int .i64 q, .int .i64 v] from rfl, lits_el _ c n q v h1 h2 h3 h4]
  rfl
theorem kl_inj {c n q v v' : Int} (hc : I64 c) (hn : I64 n) (hq : I64 q) (hv : I64 v) (hv' : I64 v') (h : kl c n q v = kl c n q v') : v = v' := by
  have := law_el.inj (key_el c n q v hc hn hq hv) (h ▸ key_el c n q v' hc hn hq hv')
  simp [elV] at this
  exact this
end Go.Proofs.YtjbaleadahefoaaDoor
