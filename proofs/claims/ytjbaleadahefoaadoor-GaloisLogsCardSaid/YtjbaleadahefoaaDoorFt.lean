/- galois: the argument of type Ask, opened; GaloisCalculates returns true for all arguments. -/
import Derived.Test.YtjbaleadahefoaaDoorFr
import Derived.Test.YtjbaleadahefoaaDoorWs
set_option linter.unusedVariables false
namespace Go.Proofs.YtjbaleadahefoaaDoor
open Go.ChangeShapes Go.WideShapes Go.ChangeAt Go.RowKit Go.Joins

theorem array6 {α : Type} {cs : Array α} (h : cs.size = 6) : ∃ c0 c1 c2 c3 c4 c5, cs = #[c0, c1, c2, c3, c4, c5] := by
  obtain ⟨l⟩ := cs
  match l, h with
  | [c0, c1, c2, c3, c4, c5], _ => exact ⟨c0, c1, c2, c3, c4, c5, rfl⟩
theorem cells3 : Tryd.prog.cellsOf 23 = 3 := by kernel_rfl
theorem cells1 : Tryd.prog.cellsOf 3 = 1 := by kernel_rfl
theorem cells6 : Tryd.prog.cellsOf 32 = 6 := by kernel_rfl
section
variable {H : Type} {enc : TypeId × Value → H} {w : World} {base b0 : Nat} {held : Bool} {r : Reach} {v : Value} {d : DataW H} {p : List MemPlace}
theorem open_ask (hv : Value.okWide Tryd.prog w r b0 32 v) (h : DataW.Trod enc Tryd.prog w base (fun _ => true) held 32 v d p) :
    ∃ c n q a b k : Int, v = .agg #[.int .i64 c, .int .i64 n, .int .i64 q, .int .i64 a, .int .i64 b, .int .i64 k] ∧ I64 c ∧ I64 n ∧ I64 q ∧ I64 a ∧ I64 b ∧ I64 k := by
  obtain ⟨cs, rfl, hsz⟩ := okWide_struct Tryd.underlying32 hv
  obtain ⟨c0, c1, c2, c3, c4, c5, rfl⟩ := array6 (hsz.trans cells6)
  obtain ⟨fuel, hf⟩ := h
  obtain ⟨y0, y1, y2, y3, m, hx, _, h0, h1, h2, h3⟩ := trod_struct4 Tryd.underlying32 hf
  have g0 : DataW.trod enc Tryd.prog w base (fun _ => true) held m 23 [c0, c1, c2] = some y0 := by simpa [Value.cells, cells3] using h0
  have g1 : DataW.trod enc Tryd.prog w base (fun _ => true) held m 3 [c3] = some y1 := by simpa [Value.cells, cells1] using h1
  have g2 : DataW.trod enc Tryd.prog w base (fun _ => true) held m 3 [c4] = some y2 := by simpa [Value.cells, cells1] using h2
  have g3 : DataW.trod enc Tryd.prog w base (fun _ => true) held m 3 [c5] = some y3 := by simpa [Value.cells, cells1] using h3
  obtain ⟨u0, u1, u2, m', _, _, i0, i1, i2⟩ := Go.Deep.trod_struct3 Tryd.underlying23 g0
  have j0 : DataW.trod enc Tryd.prog w base (fun _ => true) held m' 3 [c0] = some u0 := by simpa [Value.cells, cells1] using i0
  have j1 : DataW.trod enc Tryd.prog w base (fun _ => true) held m' 3 [c1] = some u1 := by simpa [Value.cells, cells1] using i1
  have j2 : DataW.trod enc Tryd.prog w base (fun _ => true) held m' 3 [c2] = some u2 := by simpa [Value.cells, cells1] using i2
  obtain ⟨c, rfl, hc⟩ := int_in j0
  obtain ⟨n, rfl, hn⟩ := int_in j1
  obtain ⟨q, rfl, hq⟩ := int_in j2
  obtain ⟨a, rfl, ha⟩ := int_in g1
  obtain ⟨b, rfl, hb⟩ := int_in g2
  obtain ⟨k, rfl, hk⟩ := int_in g3
  exact ⟨c, n, q, a, b, k, rfl, hc, hn, hq, ha, hb, hk⟩
end
namespace calculates
set_option maxRecDepth 100000 in
theorem lifted (os : Os) (started : os.Started) (H : Type) (enc : TypeId × Value → H) :
    ReturnsInHanded {} Tryd.checked os 4 .any (fun w args => (Rows.galoisCalculatesSpec.pre enc Tryd.prog Tryd.f4 [] false w args ∧ laidMetH Tryd.prog tabs w) ∧ sizedMet enc Tryd.prog Tryd.f4 (OpenSpec.ofChange Rows.galoisCalculatesSpec) false w args)
      (Rows.galoisCalculatesSpec.post enc Tryd.prog Tryd.f4 false true false false) := by
  refine returnsInHanded_of_change_and (C := Tryd.checked) (X := fun w _ => laidMetH Tryd.prog tabs w) (fun _ _ _ hh h => h.of_heap hh) ownK started (by kernel_rfl) Tryd.func4
    (ChangeSpec.witness_at (enc := enc) (C := Tryd.checked) (os := os) (X := fun w _ => laidMetH Tryd.prog tabs w) false (laidWorld os) #[.agg #[.int .i64 0, .int .i64 0, .int .i64 0, .int .i64 0, .int .i64 0, .int .i64 0]] 8 rfl (by kernel_rfl) (by kernel_rfl) (by kernel_rfl) (by kernel_rfl) (by kernel_rfl) (laid_met os _)) ?_
  intro W base args ds gs before hval0 hW _ _ hL _
  have hval : ∀ (j : Nat) t v, Tryd.f4.params[j]? = some t → args[j]? = some v → Value.okWide Tryd.prog W .any base t v := hval0
  have hW' := hW
  obtain ⟨p, q, hA0, hV, rfl, hfz, hnd⟩ := hW
  have hA : DataW.TrodAll enc Tryd.prog W 0 (fun _ => true) true Tryd.f4.params.toList args.toList ds p := hA0
  rw [Tryd.params4] at hA hval
  obtain ⟨v0, vs0, d0, ds0, p0, q0, hargs, rfl, rfl, h0, r0⟩ := trodAll_cons hA
  obtain ⟨rfl, rfl, rfl⟩ := trodAll_nil r0
  obtain rfl : args = #[v0] := by cases args; simp_all
  obtain ⟨rfl, rfl⟩ := trodVars_none hV
  have hT := tb_of_laid hL
  have k0 := h0
  have lt0 : ∀ x ∈ p0, x.block < W.heap.size := by obtain ⟨m, hm⟩ := k0; exact DataW.trod_lt m _ _ _ hm
  obtain ⟨c, n, o, a, b, k, rfl, hc, hn, ho, ha, hb, hk⟩ := open_ask (hval 0 32 v0 rfl rfl) h0
  clear hA0 hval0
  refine (calculates_any c n o a b k hc hn ho ha hb W hT).mono fun e W' ⟨he, bel⟩ => ?_
  subst he
  exact ⟨_, rfl, _, _, _, [], _, [], hW', trodAll_mk1 (shut_bool Tryd.underlying4 _), (trodAll_cons_mk (Below.trod laidOut (by kernel_rfl) (of_decide_eq_true (by kernel_rfl)) k0 bel lt0) trodAll_mk0), rfl, bel.frame _, fun h => by cases h⟩

theorem over : Rows.galoisCalculatesRow.holds Tryd.pinned (OpenSpec.ofChange Rows.galoisCalculatesSpec) :=
  OpenClaim.holds_of_wide 4 Tryd.f4 rfl rfl rfl rfl rfl rfl rfl ⟨rfl, rfl, rfl, rfl, rfl⟩ rfl rfl rfl rfl rfl (by kernel_rfl) Tryd.func4 (by kernel_rfl)
    (of_decide_eq_true (by kernel_rfl)) (by unfold Func.isWrapper; first | (rw [if_pos (by decide +kernel)]; kernel_rfl) | (rw [if_neg (by decide +kernel)]; exact ⟨rfl, rfl⟩))
    (fun os started H enc _ => lifted os started H enc)
end calculates
end Go.Proofs.YtjbaleadahefoaaDoor
