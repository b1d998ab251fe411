/- Contract of Shrink. -/
import Derived.Test.YtjobcobgmajajaaWg
import Derived.Test.YtjobcobgmajajaaWd
set_option linter.unusedVariables false
namespace Go.Proofs.Ytjobcobgmajajaa
open Go.RowKit Go.Shelf
attribute [local go_sem] Oper.semAt_some

/-- runs whose widths are at most n -/
def clip (n : Nat) (p : List (Bool × Nat)) : List (Bool × Nat) := p.map fun x => (x.1, min x.2 n)
theorem clip_snoc (n : Nat) (p : List (Bool × Nat)) (x : Bool × Nat) : clip n (p ++ [x]) = clip n p ++ [(x.1, min x.2 n)] := by simp [clip]
theorem clip_pr (l : List Bool) (n k : Nat) (h : k ≤ n) : clip n (pr l k) = pr l k := by
  induction k with
  | zero => rfl
  | succ k ih =>
    cases hc : cont l k with
    | true => rw [(pr_go hc).1]; exact ih (by omega)
    | false =>
      rw [(pr_end hc).1, clip_snoc, ih (by omega), Nat.min_eq_left (by omega)]
theorem clip_pre (n : Nat) (p q : List (Bool × Nat)) (h : p <+: q) : clip n p <+: clip n q := by
  obtain ⟨t, rfl⟩ := h
  exact ⟨clip n t, by simp [clip]⟩
theorem length_shr (n k : Nat) (p : List (Bool × Nat)) : (shr (clip n p) k).length ≤ p.length * n := by
  induction p with
  | nil => simp [shr, clip]
  | cons x p ih =>
    have e : shr (clip n (x :: p)) k = List.replicate (min x.2 n / k) x.1 ++ shr (clip n p) k := rfl
    rw [e, List.length_append, List.length_replicate, List.length_cons, Nat.add_mul]
    have := Nat.div_le_self (min x.2 n) k
    have := Nat.min_le_right x.2 n
    omega
theorem good_pre {p q : List (Bool × Nat)} {k : Nat} (h : p <+: q) (hp : good p k = false) : good q k = false := by
  obtain ⟨t, rfl⟩ := h
  simp only [good, List.all_append, Bool.and_eq_false_iff] at *
  exact .inl hp
theorem keepsOthers_append {W w1 : World} {n₀ : Nat} {e : TypeId} {v : Value} {k : Nat} {xs : List Value} {tmp : Obj} (hrow : W.ownsRow n₀ e 1 v k xs) (hgrow : (W.alloc tmp).grownBy w1 v.ownBlock) : KeepsOthers W w1 := by
  refine (KeepsOthers.alloc W tmp).trans (KeepsOthers.of_grownBy hgrow fun j o ej hj => ?_)
  rcases (hrow.alloc tmp).2 with ⟨rfl, _⟩ | ⟨g, cap, cur, rfl, _, hgb, _⟩
  · simp [Value.ownBlock] at ej
  · obtain rfl : g = j := by simpa [Value.ownBlock] using ej
    rw [hgb] at hj
    cases hj
    rfl

/-- appendRun: what is no cells lies as it lay, too -/
theorem appendRunK_any (base : Nat) (v0 : Value) (n : Nat) (l : List Bool) (dark : Bool) (m : Nat) (w : World) (hown : w.ownsRow base 4 1 v0 n (bl l)) (hb : base ≤ w.heap.size)
    (hk : m ≤ 1048576) (hn : n ≤ 35184372088832) :
    Calls Try.prog 29 #[v0, .bool dark, .int .i64 m] w fun e w' =>
      ∃ v, e = .returned v ∧ w'.ownsRow base 4 1 v (n + m) (bl (l ++ List.replicate m dark)) ∧ Below base w w' ∧ KeepsOthers w w' := by
  obtain ⟨i0, hi, hz0, hz1, hz2⟩ := info_parts boolInfo
  go_enter Try.func29, Try.ntmps29
  go_wp2
  go_loopw [0, 8] (fun v i wr => ∃ j : Nat, j ≤ m ∧ i = .int .i64 (j : Int) ∧ wr.ownsRow base 4 1 v (n + j) (bl (l ++ List.replicate j dark)) ∧ Below base w wr ∧ KeepsOthers w wr)
    (fun _ i _ => m - (intOf i).toNat)
  case atStart => exact ⟨0, Nat.zero_le _, by simp, by simpa using hown, Below.refl _ _, KeepsOthers.refl _⟩
  case round =>
    obtain ⟨j, hj, rfl, hownr, hbel, hko⟩ := hrel
    by_cases hlt : j < m
    · have hsz := hbel.size
      have hjk : (j : Int) < m := by omega
      go_wp2_with (at_builtin; refine wpList_append_own _ rfl _ _ 25 rfl base 4 i0 (.bool false) 1 1 Try.underlying25 hi hz0 hz1 hz2 rfl (by decide) _ _ _ rfl (hownr.alloc _) ⟨wr.heap.size, 0, none⟩ 1 1 [.bool dark] rfl rfl ?c1 ?c2 ?c3 ?c4 ?c5 ?_)
      case c1 => exact one_cell_news _
      case c2 => intro u hu; simp at hu; subst hu; rfl
      case c3 => unfold maxLen; omega
      case c4 => omega
      case c5 => simp; omega
      intro v' w1 hown' hgrow _
      have hbel' := below_app hbel hownr hgrow (by omega)
      have hko' := hko.trans (keepsOthers_append hownr hgrow)
      have hown2 : w1.ownsRow base 4 1 v' (n + (j + 1)) (bl (l ++ List.replicate (j + 1) dark)) := by
        rw [List.replicate_succ', ← List.append_assoc]
        simpa [bl, Nat.add_assoc] using hown'
      clear hown' hgrow hownr hbel hko
      go_wp2
      go_roundw
      case rel => exact ⟨j + 1, by omega, by go_num, hown2, hbel', hko'⟩
      case measure => simp [intOf]; omega
    · obtain rfl : j = m := by omega
      go_wp2
      go_ret
      exact ⟨_, rfl, hownr, hbel, hko⟩

/-- the three variables of Shrink -/
def w3 (w : World) (k er : Int) : World := ((w.alloc (.cells #[.int .i64 k] 3)).alloc (.cells #[.slice none 0 0] 25)).alloc (.cells #[.int .i64 er] 26)
theorem w3_facts (w : World) (k er : Int) : Vr (w3 w k er) w.heap.size (.int .i64 k) ∧ Vr (w3 w k er) (w.heap.size + 1) (.slice none 0 0) ∧ Vr (w3 w k er) (w.heap.size + 1 + 1) (.int .i64 er) ∧ Below w.heap.size w (w3 w k er) ∧ (w3 w k er).heap.size = w.heap.size + 1 + 1 + 1 := by
  have V1 := Vr.new w (.int .i64 k) 3
  have V2 := Vr.new (w.alloc (.cells #[.int .i64 k] 3)) (.slice none 0 0) 25
  have V3 := Vr.new ((w.alloc (.cells #[.int .i64 k] 3)).alloc (.cells #[.slice none 0 0] 25)) (.int .i64 er) 26
  have b1 := below_new w (.cells #[.int .i64 k] 3)
  have b2 := below_new (w.alloc (.cells #[.int .i64 k] 3)) (.cells #[.slice none 0 0] 25)
  have b3 := below_new ((w.alloc (.cells #[.int .i64 k] 3)).alloc (.cells #[.slice none 0 0] 25)) (.cells #[.int .i64 er] 26)
  have V1' := (V1.next b2).next b3
  have V2' := V2.next b3
  have e1 : (w.alloc (.cells #[.int .i64 k] 3)).heap.size = w.heap.size + 1 := by simp
  have e2 : ((w.alloc (.cells #[.int .i64 k] 3)).alloc (.cells #[.slice none 0 0] 25)).heap.size = w.heap.size + 1 + 1 := by simp
  rw [e1] at V2'
  rw [e2] at V3
  exact ⟨V1', V2', V3, below_step (below_step b1 b2) b3, by simp [w3]⟩

set_option maxRecDepth 100000 in
set_option maxHeartbeats 2000000 in
theorem shrink_any (A : Option Addr) (n c : Nat) (l : List Bool) (k : Int) (w : World) (hs : Sl w w.heap.size A n c (bl l)) (hn : n ≤ 1048576) (hk : k ≤ 9223372036854775807) :
    Calls Try.prog 23 #[.slice A n c, .int .i64 k] w (Gives (bl (shrinkS l k).1) (shrinkS l k).2 w) := by
  have hl : l.length = n := by rw [← length_bl]; exact hs.len
  have hmax := hs.max
  have hle := hs.le
  unfold maxLen at hmax
  obtain ⟨V1, V2, V3, B3, hz3⟩ := w3_facts w k 0
  have K0 := V1.c0
  unfold w3 at K0
  by_cases h1 : k < 1
  · have hr : shrinkS l k = ([], 3) := by unfold shrinkS; rw [if_pos h1]
    rw [hr]
    obtain ⟨U1, U2, U3, B4, _⟩ := w3_facts w k 3
    have R0 := U2.c0
    have E0 := U3.c0
    have r1 := V2.c0
    have r2 := V2.f0
    have r3 := V3.c0
    have r4 := V3.f0
    unfold w3 at R0 E0 r1 r2 r3 r4 B4
    clear U1 U2 U3 V1 V2 V3 B3 hz3
    go_enter Try.func23, Try.ntmps23
    go_wp2
    exact bodyPost_ret (v := .tuple #[.slice none 0 0, .int .i64 3]) (by simp [results, Try.results23, go_sem, R0, E0]) rfl ⟨none, 0, rfl, Sl.none_ _ _, B4⟩
  obtain ⟨d, rfl⟩ := Int.eq_ofNat_of_zero_le (show 0 ≤ k by omega)
  have hd0 : ¬ (d : Int) = 0 := by omega
  have hd1 : ((d : Int) == 0) = false := by rw [beq_eq_false_iff_ne]; omega
  by_cases h2 : n % d = 0
  · have hm : Int.tmod (n : Int) (d : Int) = 0 := by
      rw [Int.tmod_eq_emod_of_nonneg (by omega)]
      exact_mod_cast h2
    have r1 := V2.c0
    have r2 := V2.f0
    have r3 := V3.c0
    have r4 := V3.f0
    unfold w3 at r1 r2 r3 r4
    refine (callsIn_wide (n := 6)).1 ?_
    refine callsIn_of_wp_marks Try.func23 rfl trivial ?_ rfl
    simp only [Try.ntmps23, List.size_toArray, List.length_cons, List.length_nil, Nat.reduceAdd, Nat.reduceSub, Array.replicate_succ, Array.replicate_zero, List.push_toArray, List.append_toArray, List.nil_append, List.cons_append]
    gi_wp2
    refine ⟨trivial, ?_⟩
    refine (all_in _ _ _ _ _).mono ?_
    rintro e w' ⟨rfl, rfl⟩
    gi_wp2
    have bK := ((((Boxed.new w 3 (.int .i64 (d : Int))).alloc (.cells #[.slice none 0 0] 25)).alloc (.cells #[.int .i64 0] 26)).alloc (.cells #[.slice none 0 0] 25)).alloc (.cells #[.slice A n c] 25)
    have bR := (((Boxed.new (w.alloc (.cells #[.int .i64 (d : Int)] 3)) 25 (.slice none 0 0)).alloc (.cells #[.int .i64 0] 26)).alloc (.cells #[.slice none 0 0] 25)).alloc (.cells #[.slice A n c] 25)
    have bE := ((Boxed.new ((w.alloc (.cells #[.int .i64 (d : Int)] 3)).alloc (.cells #[.slice none 0 0] 25)) 26 (.int .i64 0)).alloc (.cells #[.slice none 0 0] 25)).alloc (.cells #[.slice A n c] 25)
    have bO := (Boxed.new (((w.alloc (.cells #[.int .i64 (d : Int)] 3)).alloc (.cells #[.slice none 0 0] 25)).alloc (.cells #[.int .i64 0] 26)) 25 (.slice none 0 0)).alloc (.cells #[.slice A n c] 25)
    have bS := Boxed.new ((((w.alloc (.cells #[.int .i64 (d : Int)] 3)).alloc (.cells #[.slice none 0 0] 25)).alloc (.cells #[.int .i64 0] 26)).alloc (.cells #[.slice none 0 0] 25)) 25 (.slice A n c)
    have hB0 : Below w.heap.size w (((((w.alloc (.cells #[.int .i64 (d : Int)] 3)).alloc (.cells #[.slice none 0 0] 25)).alloc (.cells #[.int .i64 0] 26)).alloc (.cells #[.slice none 0 0] 25)).alloc (.cells #[.slice A n c] 25)) :=
      ((((((Below.refl _ w).alloc (Nat.le_refl _) _).alloc (by simp) _).alloc (by simp; omega) _).alloc (by simp; omega) _).alloc (by simp; omega) _)
    have hsz : (((((w.alloc (.cells #[.int .i64 (d : Int)] 3)).alloc (.cells #[.slice none 0 0] 25)).alloc (.cells #[.int .i64 0] 26)).alloc (.cells #[.slice none 0 0] 25)).alloc (.cells #[.slice A n c] 25)).heap.size = w.heap.size + 5 := by simp
    simp only [World.size_alloc] at bK bR bE bO bS
    obtain ⟨W0, hW0⟩ : ∃ W0, (((((w.alloc (.cells #[.int .i64 (d : Int)] 3)).alloc (.cells #[.slice none 0 0] 25)).alloc (.cells #[.int .i64 0] 26)).alloc (.cells #[.slice none 0 0] 25)).alloc (.cells #[.slice A n c] 25)) = W0 := ⟨_, rfl⟩
    rw [hW0] at bK bR bE bO bS hB0 hsz ⊢
    clear hW0 K0 V1 V2 V3 B3 hz3 r1 r2 r3 r4
    have hRA : RowAt (w.heap.size + 1 + 1 + 1) (w.heap.size + 1 + 1 + 1 + 1 + 1) W0 A n c l :=
      ⟨hl, hle, by unfold maxLen; omega, fun hn0 => by
        obtain ⟨b, off, e, hb, hc⟩ := hs.read hn0
        refine ⟨b, off, e, by omega, by omega, fun j hj => (hB0.cell (p := ⟨b, off + j, none⟩) hb).trans (hc j _ ?_)⟩
        have hj2 : j < l.length := by omega
        simp [bl, List.getD, hj2]⟩
    have hmx : Try.prog.follows .mixedOrders = true := by kernel_rfl
    generalize hgh : w.heap.size = h at *
    refine wpIn_rangeFunc_ownG rfl (by omega) (gf := 38) (lb := #[.pointer (some ⟨h + 1 + 1 + 1 + 1, 0, none⟩)]) rfl trivial (enters_of Try.func38 (by kernel_rfl) rfl)
      (allb_stops (fun m => min m n) (6 - 1) (by omega) (h + 1 + 1 + 1 + 1) (h + 1 + 1 + 1) (h + 1 + 1 + 1 + 1 + 1) A n c l (fun m hm => Nat.min_eq_left hm) (by omega) (by omega) W0 (by omega) bS.cell hRA) (fun h k => KeepX.trans h k) (keepX_b (by omega)) (Below.refl _ _) (fun _ => rfl)
      (fun pre W => ((∃ v, Boxed W (h + 1 + 1 + 1) 25 v ∧ W.ownsRow (h + 1 + 1 + 1 + 1 + 1) 4 1 v (shr (clip n pre) d).length (bl (shr (clip n pre) d)) ∧ good (clip n pre) d = true) ∧ Below h W0 W) ∧ KeepX (h + 1 + 1 + 1) (h + 1 + 1 + 1 + 1 + 1) W0 W)
      (fun c pre W => (c = .ret ∧ good (clip n pre) d = false ∧ W.cell? ⟨h + 1, 0, none⟩ = some (.slice none 0 0) ∧ W.cell? ⟨h + 1 + 1, 0, none⟩ = some (.int .i64 9)) ∧ Below h W0 W)
      (OwnFrom.and (OwnFrom.and (Own.from (holdsRow_own (h + 1 + 1 + 1 + 1 + 1) (h + 1 + 1 + 1) 25 4 1 (fun pre : List (Bool × Nat) => (shr (clip n pre) d).length) (fun pre => bl (shr (clip n pre) d)) (fun pre _ => good (clip n pre) d = true)) _) (ownFrom_below (by omega) (by omega))) (ownFrom_keepX (by omega) (by omega)))
      (fun c => OwnFrom.and (Own.from (fun s A B row hs hg hr => ⟨hs.1, hs.2.1, cell_kept hs.2.2.1 hg hr, cell_kept hs.2.2.2 hg hr⟩) _) (ownFrom_below (by omega) (by omega)))
      ⟨⟨⟨_, bO, World.ownsRow_nil _ _ _ _, rfl⟩, Below.refl _ _⟩, KeepX.refl _ _ _⟩
      (fun x => { tmps := #[.slice A n c, .int .i64 d, undef, .pointer (some ⟨h, 0, none⟩), .pointer (some ⟨h + 1, 0, none⟩), .pointer (some ⟨h + 1 + 1, 0, none⟩), .pointer (some ⟨h + 1 + 1 + 1, 0, none⟩), .bool x.1, .int .i64 (min x.2 n : Nat), .int .i64 d, .bool false, .slice A n c, .int .i64 n, .int .i64 d, .int .i64 0, .bool false, .slice A n c, .func (.func 38) #[] #[.pointer (some ⟨h + 1 + 1 + 1 + 1, 0, none⟩)], .bool x.1, .int .i64 (min x.2 n : Nat), undef, undef, undef, undef, undef, undef, undef, undef, undef, undef, undef], defers := [] }) ?assign ?body ?done ?stop
    case assign =>
      intro l x W K hK
      gi_wp2
      exact hK
    case body =>
      rintro lp pre x W ⟨⟨⟨v, hv, hrow, hgd⟩, hB⟩, hX⟩ hlt
      have kK : Boxed W h 3 (.int .i64 (d : Int)) := (hX.block h (by omega) (by omega)).trans bK
      have kR : Boxed W (h + 1) 25 (.slice none 0 0) := (hX.block (h + 1) (by omega) (by omega)).trans bR
      have kE : Boxed W (h + 1 + 1) 26 (.int .i64 0) := (hX.block (h + 1 + 1) (by omega) (by omega)).trans bE
      have hcK := kK.cell
      obtain ⟨m, hmx2⟩ : ∃ m, m = min x.2 n := ⟨_, rfl⟩
      have hmn : m ≤ n := by rw [hmx2]; exact Nat.min_le_right _ _
      have HSN := Lib.hid (clip_snoc n pre x)
      rw [← hmx2] at HSN ⊢
      generalize x.1 = dark at *
      clear hmx2
      by_cases hmd : m % d = 0
      · have hmm : Int.tmod (m : Int) (d : Int) = 0 := by rw [Int.tmod_eq_emod_of_nonneg (by omega)]; exact_mod_cast hmd
        have hq : Int.tdiv (m : Int) (d : Int) = ((m / d : Nat) : Int) := by rw [Int.tdiv_eq_ediv_of_nonneg (by omega)]; rfl
        have hqm : m / d ≤ m := Nat.div_le_self _ _
        have hGD : Hid (good (clip n pre ++ [(dark, m)]) d = true) := by
          show _ = _
          rw [good_snoc, hgd]
          simp [hmd]
        have hSH : Hid (shr (clip n pre ++ [(dark, m)]) d = shr (clip n pre) d ++ List.replicate (m / d) dark) := shr_snoc _ _ _
        have hls := length_shr n d pre
        have hls2 : pre.length * n ≤ 1048576 * 1048576 := Nat.mul_le_mul (by omega) hn
        have hcO := hv.cell
        have hszW := hB.size
        generalize m / d = q at *
        generalize hgs : shr (clip n pre) d = sh at *
        have HGS := Lib.hid hgs
        clear hgs hgd
        have hrowD := own_drew hrow
        gi_wp2
        gi_region_with_o (refine ⟨trivial, ?_⟩; gi_at_call 29; refine (CallsIn.inRound lp (callsIn_wide.2 (appendRunK_any (h + 1 + 1 + 1 + 1 + 1) v _ sh dark q _ hrowD (by show _ ≤ W.heap.size; omega) (by omega) (by omega)))).mono ?_; rintro e w2 ⟨v2, rfl, hown2, hb2, hko2⟩; obtain ⟨A2, c2, rfl⟩ := own_slice hown2; have hv2 : Boxed w2 (h + 1 + 1 + 1) 25 v := (hb2.block (h + 1 + 1 + 1) (by omega)).trans hv; have hcO2 := hv2.cell; have hfO2 := hv2.frozen)
        all_goals
          have hX2 : KeepX (h + 1 + 1 + 1) (h + 1 + 1 + 1 + 1 + 1) W (w2.setCell ⟨h + 1 + 1 + 1, 0, none⟩ (.slice A2 (sh.length + q) c2)) :=
            ⟨Nat.le_trans hb2.size (grownBy_setCell' w2 (h + 1 + 1 + 1) _).size, fun j h1 h2 => (Below.heap_setCell w2 ⟨h + 1 + 1 + 1, 0, none⟩ _ j h2).trans (hb2.block j h1)⟩
          have hown3 := own_far hown2 ⟨h + 1 + 1 + 1, 0, none⟩ (fun k hk => by have := (hown2.lt k hk).1; intro e; simp at e; omega) (.slice A2 (sh.length + q) c2)
          have hB3 : Below h W0 (w2.setCell ⟨h + 1 + 1 + 1, 0, none⟩ (.slice A2 (sh.length + q) c2)) := below_set ((below_drew hB).trans (hb2.mono (by omega))) (h + 1 + 1 + 1) 0 (by omega) _
          have hlen : sh.length + q = (sh ++ List.replicate q dark).length := by simp
          gi_wp2
          refine ⟨(((KeepsOthers.drew W).trans hko2).trans (KeepsOthers.setCell _ _ _)).from _, hX2, ⟨⟨_, hv2.set _, ?_, by rw [HSN.out]; exact hGD.out⟩, hB3⟩, hX.trans hX2⟩
          rw [HSN.out, hSH.out, ← hlen]
          exact hown3
      · have hmm : Int.tmod (m : Int) (d : Int) = ((m % d : Nat) : Int) := by rw [Int.tmod_eq_emod_of_nonneg (by omega)]; rfl
        have hmm2 : (((m % d : Nat) : Int) != 0) = true := by rw [bne_iff_ne]; omega
        have hml : m % d ≤ m := Nat.mod_le _ _
        have hGD : Hid (good (clip n pre ++ [(dark, m)]) d = false) := by
          show _ = _
          rw [good_snoc]
          simp [hmd]
        have hcR := kR.cell
        have hfR := kR.frozen
        have hcE := kE.cell
        have hfE := kE.frozen
        have hcE2 := (kE.other (B' := h + 1) (by omega) (.slice none 0 0)).cell
        have hfE2 := (kE.other (B' := h + 1) (by omega) (.slice none 0 0)).frozen
        generalize m % d = md at *
        gi_wp2
        exact ⟨((KeepsOthers.setCell _ _ _).trans (KeepsOthers.setCell _ _ _)).from _, ⟨rfl, by rw [HSN.out]; exact hGD.out, ((kR.set (.slice none 0 0)).other (by omega) _).cell, ((kE.other (by omega) _).set (.int .i64 9)).cell⟩,
          below_set (below_set hB (h + 1) 0 (by omega) _) (h + 1 + 1) 0 (by omega) _⟩
    case done =>
      rintro D ys W hD rfl ⟨⟨⟨v, hv, hrow, hgd⟩, hB⟩, hX⟩ hK
      have kR : Boxed W (h + 1) 25 (.slice none 0 0) := (hX.block (h + 1) (by omega) (by omega)).trans bR
      have kE : Boxed W (h + 1 + 1) 26 (.int .i64 0) := (hX.block (h + 1 + 1) (by omega) (by omega)).trans bE
      obtain ⟨A2, c2, rfl⟩ := own_slice hrow
      have hcO := hv.cell
      have hcR := kR.cell
      have hfR := kR.frozen
      have hcE2 := (kE.other (B' := h + 1) (by omega) (.slice A2 (shr (clip n (prs l)) d).length c2)).cell
      have hfE2 := (kE.other (B' := h + 1) (by omega) (.slice A2 (shr (clip n (prs l)) d).length c2)).frozen
      have hr : shrinkS l d = (shr (clip n (prs l)) d, 0) := by
        rw [prs, hl, clip_pr l n n (Nat.le_refl _)] at hgd ⊢
        unfold shrinkS
        rw [if_neg (show ¬ (d : Int) < 1 by omega), if_neg (by rw [Int.toNat_natCast, hl]; omega), Int.toNat_natCast, prs, hl, if_pos hgd]
      have hK' := ((KeepsOthers.setCell W ⟨h + 1, 0, none⟩ (.slice A2 (shr (clip n (prs l)) d).length c2)).trans (KeepsOthers.setCell _ ⟨h + 1 + 1, 0, none⟩ (.int .i64 0))).same D _ hK rfl
      have k1 := ((kR.set (.slice A2 (shr (clip n (prs l)) d).length c2)).other (B' := h + 1 + 1) (by omega) (.int .i64 0)).cell
      have k2 := ((kE.other (B' := h + 1) (by omega) (.slice A2 (shr (clip n (prs l)) d).length c2)).set (.int .i64 0)).cell
      have c1 := cell_kept k1 (grownBy_putObj' _ D (.deferred none)) (fun r e => by cases e; exact ⟨_, hK', rfl⟩)
      have c2' := cell_kept k2 (grownBy_putObj' _ D (.deferred none)) (fun r e => by cases e; exact ⟨_, hK', rfl⟩)
      have hown := ownsRow_putObj (own_far (own_far hrow ⟨h + 1, 0, none⟩ (fun k hk => by have := (hrow.lt k hk).1; intro e; simp at e; omega) (.slice A2 (shr (clip n (prs l)) d).length c2)) ⟨h + 1 + 1, 0, none⟩ (fun k hk => by have := (hrow.lt k hk).1; intro e; simp at e; omega) (.int .i64 0)) (.deferred none) hK' rfl
      have hB2 : Below w.heap.size w (((W.setCell ⟨h + 1, 0, none⟩ (.slice A2 (shr (clip n (prs l)) d).length c2)).setCell ⟨h + 1 + 1, 0, none⟩ (.int .i64 0)).putObj D (.deferred none)) := by
        rw [hgh]
        exact (below_set (below_set (hB0.trans hB) (h + 1) 0 (by omega) _) (h + 1 + 1) 0 (by omega) _).trans (belowK_b (w := w) (by omega) _ D _ _ (by omega) hK' rfl rfl)
      have hg : Gives (bl (shrinkS l d).1) (shrinkS l d).2 w (.returned (.tuple #[.slice A2 (shr (clip n (prs l)) d).length c2, .int .i64 0])) (((W.setCell ⟨h + 1, 0, none⟩ (.slice A2 (shr (clip n (prs l)) d).length c2)).setCell ⟨h + 1 + 1, 0, none⟩ (.int .i64 0)).putObj D (.deferred none)) := by rw [hr]; exact gives_own (by simp [bl]) hown hB2
      clear hr
      gi_wp2
      refine ⟨by simp, .inl ⟨_, _, rfl, run_takeDeferred hK', ?_⟩⟩
      refine ⟨.tuple #[.slice A2 (shr (clip n (prs l)) d).length c2, .int .i64 0], ?_, hg⟩
      simp [results, Try.f23, go_sem, c1, c2']
    case stop =>
      rintro D cc pre W hD hpre ⟨⟨rfl, hgd, hc1, hc2⟩, hB⟩ hK
      have hr : shrinkS l d = ([], 9) := by
        have h5 := good_pre (clip_pre n _ _ hpre) hgd
        rw [prs, hl, clip_pr l n n (Nat.le_refl _)] at h5
        unfold shrinkS
        rw [if_neg (show ¬ (d : Int) < 1 by omega), if_neg (by rw [Int.toNat_natCast, hl]; omega), Int.toNat_natCast, prs, hl, if_neg (by rw [h5]; simp)]
      rw [hr]
      gi_wp2
      refine ⟨by simp, .inl ⟨_, _, rfl, run_takeDeferred hK, ?_⟩⟩
      have c1 := cell_kept hc1 (grownBy_putObj' _ D (.deferred none)) (fun r e => by cases e; exact ⟨_, hK, rfl⟩)
      have c2 := cell_kept hc2 (grownBy_putObj' _ D (.deferred none)) (fun r e => by cases e; exact ⟨_, hK, rfl⟩)
      refine ⟨.tuple #[.slice none 0 0, .int .i64 9], ?_, none, 0, rfl, Sl.none_ _ _, ?_⟩
      · simp [results, Try.f23, go_sem, c1, c2]
      · rw [hgh]
        exact (hB0.trans hB).trans (belowK_b (w := w) (by omega) W D _ _ (by omega) hK rfl rfl)
  · have hr : shrinkS l d = ([], 7) := by unfold shrinkS; rw [if_neg h1, if_pos (by rw [Int.toNat_natCast, hl]; exact h2)]
    rw [hr]
    have hm : Int.tmod (n : Int) (d : Int) = ((n % d : Nat) : Int) := by rw [Int.tmod_eq_emod_of_nonneg (by omega)]; rfl
    have hm2 : (((n % d : Nat) : Int) != 0) = true := by rw [bne_iff_ne]; omega
    have hml : n % d ≤ n := Nat.mod_le _ _
    generalize n % d = md at *
    obtain ⟨U1, U2, U3, B4, _⟩ := w3_facts w d 7
    have R0 := U2.c0
    have E0 := U3.c0
    have r1 := V2.c0
    have r2 := V2.f0
    have r3 := V3.c0
    have r4 := V3.f0
    unfold w3 at R0 E0 r1 r2 r3 r4 B4
    clear U1 U2 U3 V1 V2 V3 B3 hz3
    go_enter Try.func23, Try.ntmps23
    go_wp2
    exact bodyPost_ret (v := .tuple #[.slice none 0 0, .int .i64 7]) (by simp [results, Try.results23, go_sem, R0, E0]) rfl ⟨none, 0, rfl, Sl.none_ _ _, B4⟩
end Go.Proofs.Ytjobcobgmajajaa
