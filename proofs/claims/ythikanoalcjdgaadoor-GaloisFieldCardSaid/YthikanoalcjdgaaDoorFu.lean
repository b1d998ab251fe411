/- galois: GaloisField returns true for all arguments. -/
import Derived.Test.YthikanoalcjdgaaDoorFt
import Derived.Test.YthikanoalcjdgaaDoorWu
set_option linter.unusedVariables false
namespace Go.Proofs.YthikanoalcjdgaaDoor
open Go.ChangeShapes Go.WideShapes Go.ChangeAt Go.RowKit Go.Joins

section
variable {c q : Int} {N : Nat} {T P M : Nat → Nat → Nat} (O : Ops c q N T P M) (L : Fld N T P M) (hc : I64 c) (hn : I64 (N : Int)) (hq : I64 q) (hV : VF c N q)
include O hc hn hq hV
theorem opA {a b : Nat} (ha : a < N) (hb : b < N) : CA c N q a b (P a b : Nat) := fun w g hT hK =>
  cAdd_of (fun w hT => Add_ok c N q a b _ hc hn hq hV ⟨by omega, by omega⟩ ⟨by omega, by omega⟩ (O.pc a b ha hb) w hT) w g hT hK
theorem opM {a b : Nat} (ha : a < N) (hb : b < N) : CM c N q a b (T a b : Nat) := fun w g hT hK =>
  cMul_of (fun w hT => Mul_ok c N q a b _ hc hn hq hV ⟨by omega, by omega⟩ ⟨by omega, by omega⟩ (O.tc a b ha hb) w hT) w g hT hK
theorem opS {a b : Nat} (ha : a < N) (hb : b < N) : CS c N q a b (M a b : Nat) := fun w hT =>
  Sub_ok c N q a b _ hc hn hq hV ⟨by omega, by omega⟩ ⟨by omega, by omega⟩ (O.mc a b ha hb) w hT
include L
theorem field_at {x y z : Nat} (hx : x < N) (hy : y < N) (hz : z < N) (t : Int) (w : World) (hT : Tb w) :
    Calls Tryd.prog 7 #[.agg #[.int .i64 c, .int .i64 N, .int .i64 q], .agg #[.int .i64 x, .int .i64 y], .agg #[.int .i64 z, .int .i64 t]] w fun e w' => e = .returned (.bool true) ∧ Below w.heap.size w w' := by
  have h2 := L.n2
  have h4 := O.n2
  have h0 : 0 < N := by omega
  have h1 : 1 < N := by omega
  have hv : CV c N q true := fun w => rValid_any c N q hc hn hq true ⟨fun _ => hV, fun _ => rfl⟩ w
  have hE : ∀ a : Nat, a < N → CE c N q a true := fun a ha w => rIs_any c N q a true ⟨fun _ => ⟨by omega, by omega⟩, fun _ => rfl⟩ w
  have a1 := opA O hc hn hq hV hx hy
  have a2 := opA O hc hn hq hV (L.plt hx hy) hz
  have a3 := opA O hc hn hq hV hy hz
  have a4 := opA O hc hn hq hV hx (L.plt hy hz)
  rw [← L.passoc hx hy hz] at a4
  have a5 := opA O hc hn hq hV hy hx
  rw [L.pcomm hy hx] at a5
  have a6 := opA O hc hn hq hV hx h0
  rw [L.pzero hx] at a6
  have p1 := opM O hc hn hq hV hx hy
  have p2 := opM O hc hn hq hV (L.lt hx hy) hz
  have p3 := opM O hc hn hq hV hy hz
  have p4 := opM O hc hn hq hV hx (L.lt hy hz)
  rw [← L.assoc hx hy hz] at p4
  have p5 := opM O hc hn hq hV hy hx
  rw [L.comm hy hx] at p5
  have p6 := opM O hc hn hq hV hx h1
  rw [L.one hx] at p6
  have p7 := opM O hc hn hq hV hx h0
  rw [L.zero] at p7
  have p8 := opM O hc hn hq hV hx (L.plt hy hz)
  have p9 := opM O hc hn hq hV hx hz
  have a7 := opA O hc hn hq hV (L.lt hx hy) (L.lt hx hz)
  rw [← L.distr hx hy hz] at a7
  have b1 := opS O hc hn hq hV h0 hx
  have b2 := opS O hc hn hq hV hx hy
  have a8 := opA O hc hn hq hV hx (L.mlt h0 hx)
  rw [L.pcomm hx (L.mlt h0 hx), L.minus h0 hx] at a8
  have a9 := opA O hc hn hq hV (L.mlt hx hy) hy
  rw [L.minus hx hy] at a9
  by_cases hx0 : x = 0
  · subst hx0
    have iv : CI c N q ((0 : Nat) : Int) 0 12 := fun w hT => Inv_of c N q 0 0 12 (fun w hT => Pow_zero c N q (-1) hc hn hq hV (by omega) (by omega) w hT) w hT
    exact field_zero c N q _ y z t _ _ _ _ _ _ _ _ _ _ 0 hv (hE _ hx) (hE _ hy) (hE _ hz) a1 a2 a3 a4 a5 a6 p1 p2 p3 p4 p5 p6 p7 p8 p9 a7 b1 b2 a8 a9 (Lib.hid rfl) iv w hT
  · have hp : pwr T 12 (N - 2) 1 x = pw T x (N - 2) := by
      rw [L.toGrp.pwr_eq 12 (N - 2) 1 x (by omega) h1 hx, L.toGrp.one_l (L.toGrp.pw_lt hx _)]
    have iv : CI c N q x (pw T x (N - 2) : Nat) 0 := fun w hT => Inv_of c N q x _ 0 (fun w hT => Pow_ok c N q x (-1) _ hc hn hq hV ⟨by omega, by omega⟩ (by omega) (by rw [← hp]; exact O.power x hx) w hT) w hT
    have p0 := opM O hc hn hq hV hx (L.toGrp.pw_lt hx (N - 2))
    rw [L.toGrp.inv hx hx0] at p0
    exact field_unit c N q x y z t _ _ _ _ _ _ _ _ _ _ _ hv (hE _ hx) (hE _ hy) (hE _ hz) a1 a2 a3 a4 a5 a6 p1 p2 p3 p4 p5 p6 p7 p8 p9 a7 b1 b2 a8 a9 (by omega) iv p0 w hT
end
theorem field_any (c n q x y z t : Int) (hc : I64 c) (hn : I64 n) (hq : I64 q) (w : World) (hT : Tb w) :
    Calls Tryd.prog 7 #[.agg #[.int .i64 c, .int .i64 n, .int .i64 q], .agg #[.int .i64 x, .int .i64 y], .agg #[.int .i64 z, .int .i64 t]] w fun e w' => e = .returned (.bool true) ∧ Below w.heap.size w w' := by
  have hE : ∀ a, (0 ≤ a ∧ a < n) → CE c n q a true := fun a ha w => rIs_any c n q a true ⟨fun _ => ha, fun _ => rfl⟩ w
  have hN : ∀ a, ¬ (0 ≤ a ∧ a < n) → CE c n q a false := fun a ha w => rIs_any c n q a false ⟨fun e => (by cases e), fun e => absurd e ha⟩ w
  by_cases hV : VF c n q
  · have hv : CV c n q true := fun w => rValid_any c n q hc hn hq true ⟨fun _ => hV, fun _ => rfl⟩ w
    by_cases hx : 0 ≤ x ∧ x < n
    · by_cases hy : 0 ≤ y ∧ y < n
      · by_cases hz : 0 ≤ z ∧ z < n
        · obtain ⟨N, T, P, M, rfl, O, L⟩ := fld_of hV
          obtain ⟨X, rfl⟩ : ∃ X : Nat, x = X := ⟨x.toNat, by omega⟩
          obtain ⟨Y, rfl⟩ : ∃ Y : Nat, y = Y := ⟨y.toNat, by omega⟩
          obtain ⟨Z, rfl⟩ : ∃ Z : Nat, z = Z := ⟨z.toNat, by omega⟩
          exact field_at O L hc hn hq hV (by omega) (by omega) (by omega) t w hT
        · exact field_noZ c n q x y z t hv (hE x hx) (hE y hy) (hN z hz) w hT
      · exact field_noY c n q x y z t hv (hE x hx) (hN y hy) w hT
    · exact field_noX c n q x y z t hv (hN x hx) w hT
  · exact field_noV c n q x y z t (fun w => rValid_any c n q hc hn hq false ⟨fun e => (by cases e), fun e => absurd e hV⟩ w) w hT
theorem cellsA : Tryd.prog.cellsOf 38 = 2 := by kernel_rfl
section
variable {H : Type} {enc : TypeId × Value → H} {w : World} {base b0 : Nat} {held : Bool} {v : Value} {d : DataW H} {p : List MemPlace}
theorem okWide_arr {P : Program} {r : Reach} {b0 n : Nat} {t e : TypeId} {v : Value} (ht : P.underlying t = some (.array n e)) (h : Value.okWide P w r b0 t v) : ∃ cs, v = .agg cs ∧ cs.size = P.cellsOf t := by
  simp only [Value.okWide, ht] at h
  obtain ⟨cs, h1, h2, _⟩ := h
  exact ⟨cs, h1, h2⟩
theorem open_two (hv : Value.okWide Tryd.prog w .any b0 38 v) (h : DataW.Trod enc Tryd.prog w base (fun _ => true) held 38 v d p) :
    ∃ a b : Int, v = .agg #[.int .i64 a, .int .i64 b] := by
  obtain ⟨cs, rfl, hsz⟩ := okWide_arr Tryd.underlying38 hv
  obtain ⟨c0, c1, rfl⟩ := array2 (hsz.trans cellsA)
  obtain ⟨fuel, hf⟩ := h
  obtain ⟨xs, m, _, _, _, hl, hi⟩ := DataW.trod_array Tryd.underlying38 hf
  match xs, hl with
  | [u0, u1], _ =>
    have g0 : DataW.trod enc Tryd.prog w base (fun _ => true) held m 3 [c0] = some u0 := by simpa [Value.cells, cells1] using hi 0 (by omega)
    have g1 : DataW.trod enc Tryd.prog w base (fun _ => true) held m 3 [c1] = some u1 := by simpa [Value.cells, cells1] using hi 1 (by omega)
    obtain ⟨a, rfl, _⟩ := int_in g0
    obtain ⟨b, rfl, _⟩ := int_in g1
    exact ⟨a, b, rfl⟩
end
namespace field
set_option maxRecDepth 100000 in
theorem lifted (os : Os) (started : os.Started) (H : Type) (enc : TypeId × Value → H) :
    ReturnsInHanded {} Tryd.checked os 7 .any (fun w args => (Rows.galoisFieldSpec.pre enc Tryd.prog Tryd.f7 [] false w args ∧ laidMetH Tryd.prog tabs w) ∧ sizedMet enc Tryd.prog Tryd.f7 (OpenSpec.ofChange Rows.galoisFieldSpec) false w args)
      (Rows.galoisFieldSpec.post enc Tryd.prog Tryd.f7 false true false false) := by
  refine returnsInHanded_of_change_and (C := Tryd.checked) (X := fun w _ => laidMetH Tryd.prog tabs w) (fun _ _ _ hh h => h.of_heap hh) ownK started (by kernel_rfl) Tryd.func7
    (ChangeSpec.witness_at (enc := enc) (C := Tryd.checked) (os := os) (X := fun w _ => laidMetH Tryd.prog tabs w) false (laidWorld os) #[.agg #[.int .i64 0, .int .i64 0, .int .i64 0], .agg #[.int .i64 0, .int .i64 0], .agg #[.int .i64 0, .int .i64 0]] 8 rfl (by kernel_rfl) (by kernel_rfl) (by kernel_rfl) (by kernel_rfl) (by kernel_rfl) (laid_met os _)) ?_
  intro W base args ds gs before hval0 hW _ _ hL _
  have hval : ∀ (j : Nat) t v, Tryd.f7.params[j]? = some t → args[j]? = some v → Value.okWide Tryd.prog W .any base t v := hval0
  have hW' := hW
  obtain ⟨p, q, hA0, hV, rfl, hfz, hnd⟩ := hW
  have hA : DataW.TrodAll enc Tryd.prog W 0 (fun _ => true) true Tryd.f7.params.toList args.toList ds p := hA0
  rw [Tryd.params7] at hA hval
  obtain ⟨v0, vs0, d0, ds0, p0, q0, hargs, rfl, rfl, h0, r0⟩ := trodAll_cons hA
  obtain ⟨v1, vs1, d1, ds1, p1, q1, rfl, rfl, rfl, h1, r1⟩ := trodAll_cons r0
  obtain ⟨v2, vs2, d2, ds2, p2, q2, rfl, rfl, rfl, h2, r2⟩ := trodAll_cons r1
  obtain ⟨rfl, rfl, rfl⟩ := trodAll_nil r2
  obtain rfl : args = #[v0, v1, v2] := by cases args; simp_all
  obtain ⟨rfl, rfl⟩ := trodVars_none hV
  have hT := tb_of_laid hL
  have k0 := h0
  have lt0 : ∀ x ∈ p0, x.block < W.heap.size := by obtain ⟨m, hm⟩ := k0; exact DataW.trod_lt m _ _ _ hm
  obtain ⟨u0, u1, u2, y0, y1, y2, m, rfl, rfl, rfl, g0, g1, g2⟩ := Go.Joins.open_agg3 Tryd.underlying23 (by kernel_rfl) (by kernel_rfl) (hval 0 23 v0 rfl rfl) h0
  obtain ⟨c, rfl, hc⟩ := int_in g0
  obtain ⟨n, rfl, hn⟩ := int_in g1
  obtain ⟨o, rfl, ho⟩ := int_in g2
  have k1 := h1
  have lt1 : ∀ x ∈ p1, x.block < W.heap.size := by obtain ⟨m, hm⟩ := k1; exact DataW.trod_lt m _ _ _ hm
  obtain ⟨X, Y, rfl⟩ := open_two (hval 1 38 v1 rfl rfl) h1
  have k2 := h2
  have lt2 : ∀ x ∈ p2, x.block < W.heap.size := by obtain ⟨m, hm⟩ := k2; exact DataW.trod_lt m _ _ _ hm
  obtain ⟨Z, t, rfl⟩ := open_two (hval 2 38 v2 rfl rfl) h2
  clear hA0 hval0
  refine (field_any c n o X Y Z t hc hn ho W hT).mono fun e W' ⟨he, bel⟩ => ?_
  subst he
  exact ⟨_, rfl, _, _, _, [], _, [], hW', trodAll_mk1 (shut_bool Tryd.underlying4 _), (trodAll_cons_mk (Below.trod laidOut (by kernel_rfl) (of_decide_eq_true (by kernel_rfl)) k0 bel lt0) (trodAll_cons_mk (Below.trod laidOut (by kernel_rfl) (of_decide_eq_true (by kernel_rfl)) k1 bel lt1) (trodAll_cons_mk (Below.trod laidOut (by kernel_rfl) (of_decide_eq_true (by kernel_rfl)) k2 bel lt2) trodAll_mk0))), rfl, bel.frame _, fun h => by cases h⟩

theorem over : Rows.galoisFieldRow.holds Tryd.pinned (OpenSpec.ofChange Rows.galoisFieldSpec) :=
  OpenClaim.holds_of_wide 7 Tryd.f7 rfl rfl rfl rfl rfl rfl rfl ⟨rfl, rfl, rfl, rfl, rfl⟩ rfl rfl rfl rfl rfl (by kernel_rfl) Tryd.func7 (by kernel_rfl)
    (of_decide_eq_true (by kernel_rfl)) (by unfold Func.isWrapper; first | (rw [if_pos (by decide +kernel)]; kernel_rfl) | (rw [if_neg (by decide +kernel)]; exact ⟨rfl, rfl⟩))
    (fun os started H enc _ => lifted os started H enc)
end field
end Go.Proofs.YthikanoalcjdgaaDoor
