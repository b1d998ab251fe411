/- Contracts of all, and of Widths. -/
import Derived.Test.YtjobcobgmajajaaW5
set_option linter.unusedVariables false
namespace Go.Proofs.Ytjobcobgmajajaa
open Go.RowKit Go.Shelf
attribute [local go_sem] Oper.semAt_some

set_option maxHeartbeats 1000000 in
theorem all_in (f : Nat) (A : Option Addr) (n c : Nat) (w : World) :
    CallsIn Fence.wide f Try.prog 32 #[.slice A n c] w fun e w' => e = .returned (.func (.func 38) #[] #[.pointer (some ⟨w.heap.size, 0, none⟩)]) ∧ w' = w.alloc (.cells #[.slice A n c] 25) := by
  refine callsIn_of_wp Try.func32 rfl trivial ?_ rfl
  simp only [Try.ntmps32, List.size_toArray, List.length_cons, List.length_nil, Nat.reduceAdd, Nat.reduceSub, Array.replicate_succ, Array.replicate_zero, List.push_toArray, List.append_toArray, List.nil_append, List.cons_append]
  gi_wp2
  go_ret
  exact ⟨rfl, rfl⟩

theorem all_stops (f : Nat) (hf : 1 ≤ f) (Bs Bw n₀ : Nat) (A : Option Addr) (n c : Nat) (l : List Bool) (hBs : Bs < n₀) (hBw : Bs ≠ Bw) (w : World) (hn₀ : n₀ ≤ w.heap.size)
    (hc : w.cell? ⟨Bs, 0, none⟩ = some (.slice A n c)) (hR : RowAt Bw n₀ w A n c l) :
    SeqStopsK Fence.wide f Try.prog 38 #[.pointer (some ⟨Bs, 0, none⟩)] (fun x : Bool × Nat => #[.bool x.1, .int .i64 (x.2 : Nat)]) (KeepX Bw n₀) (fun ys => ys = prs l) (fun pre => pre <+: prs l) n w := fun lp J Jx W hW hJ _ hY h0 => by
  have hX : KeepX Bw n₀ w W := ⟨hW.size, fun k hk _ => hW.block k (by omega)⟩
  have hl := hR.1
  have := all1_in f hf lp Bs Bw n₀ A n c l hBs hBw J Jx W hJ hY ((hX.cell (p := ⟨Bs, 0, none⟩) hBs hBw).trans hc) (hR.keep hX) h0
  rw [show pr l n = prs l by rw [prs, hl]] at this
  exact this

theorem ownsRow_base {W : World} {b b' : Nat} {e : TypeId} {v : Value} {k : Nat} {xs : List Value} (h : W.ownsRow b' e 1 v k xs) (hb : b ≤ b') : W.ownsRow b e 1 v k xs := by
  obtain ⟨k1, k2⟩ := h
  refine ⟨k1, ?_⟩
  rcases k2 with k2 | ⟨gg, cap, cur, rfl, k3, k4⟩
  · exact .inl k2
  · exact .inr ⟨gg, cap, cur, rfl, Nat.le_trans hb k3, k4⟩

/-- the integers of the widths of runs -/
def wl (pre : List (Bool × Nat)) : List Int := pre.map fun x => (x.2 : Int)

theorem keepX_append {W w1 : World} {Bw n₀ : Nat} {e : TypeId} {v v' : Value} {k : Nat} {xs : List Value} {tmp : Obj} (hrow : W.ownsRow n₀ e 1 v k xs) (hn : n₀ ≤ W.heap.size) (hg : (W.alloc tmp).grownBy w1 v.ownBlock) :
    KeepX Bw n₀ W (w1.setCell ⟨Bw, 0, none⟩ v') := by
  have hb : Below n₀ W w1 := ((Below.refl n₀ W).alloc hn tmp).grown hg (by simp; omega) (fun j ej => (hrow.lt j ej).1)
  refine ⟨Nat.le_trans hb.size (grownBy_setCell' w1 Bw v').size, fun j h1 h2 => ?_⟩
  exact (Below.heap_setCell w1 ⟨Bw, 0, none⟩ v' j h2).trans (hb.block j h1)
theorem wl_snoc (pre : List (Bool × Nat)) (x : Bool × Nat) : il (wl (pre ++ [x])) = il (wl pre) ++ [.int .i64 (x.2 : Nat)] := by simp [il, wl]

set_option maxRecDepth 100000 in
set_option maxHeartbeats 2000000 in
theorem widths_any (A : Option Addr) (n c : Nat) (l : List Bool) (w : World) (hs : Sl w w.heap.size A n c (bl l)) (hn : n ≤ 1048576) :
    Calls Try.prog 17 #[.slice A n c] w (Gives1 (il (widthsS l)) w) := by
  have hl : l.length = n := by rw [← length_bl]; exact hs.len
  have hmax := hs.max
  have hle := hs.le
  unfold maxLen at hmax
  have hlm := lm_le l
  have hrm := rm_le l
  by_cases h1 : lm l = n
  · have hr : widthsS l = [] := by unfold widthsS; rw [if_pos (by omega)]
    rw [hr]
    go_enter Try.func17, Try.ntmps17
    go_wp2_with fail
    refine (margins_any _ _ _ _ l _ hs).mono ?_
    rintro e w' ⟨rfl, rfl⟩
    rw [h1]
    go_wp2
    go_ret
    exact ⟨none, 0, rfl, Sl.none_ _ _, Below.refl _ _⟩
  have hr : widthsS l = wds (core l) := by unfold widthsS; rw [if_neg (by omega)]
  rw [hr]
  clear hr
  obtain ⟨b, off, rfl, hb, hcs⟩ := hs.read (by omega)
  have hrl := lm_rm (l := l) (by omega)
  have hcl := length_core (l := l) (by omega)
  have hcg := fun k hk => getD_core (l := l) (k := k) hk
  have hR : ∀ k, k < n - rm l - lm l → w.cell? ⟨b, off + lm l + k, none⟩ = some (.bool ((core l).getD k false)) := fun k hk => by
    rw [hcg k (by omega), Nat.add_assoc]
    refine hcs _ _ ?_
    have hk2 : lm l + k < l.length := by omega
    simp [bl, List.getD, hk2]
  have HR := Lib.hid hR
  have HCL := Lib.hid hcl
  have HS := Lib.hid hs
  clear hR hcl hcg hcs
  generalize hgp : lm l = p at *
  generalize hgq : rm l = q at *
  generalize hgc : core l = cl at *
  have HP := Lib.hid hgp
  have HQ := Lib.hid hgq
  clear hgp hgq hgc
  have hpq : ((p : Int) == (n : Int)) = false := by rw [beq_eq_false_iff_ne]; omega
  have hnq : (n : Int) - (q : Int) = ((n - q : Nat) : Int) := by omega
  have hb1 : (p : Int) ≤ ((n - q : Nat) : Int) := by omega
  have hb2 : ((n - q : Nat) : Int) ≤ c := by omega
  have hb3 : ((n - q : Nat) : Int) ≤ n := by omega
  obtain ⟨i0, hi, hz0, hz1, hz2⟩ := info_parts intInfo
  refine (callsIn_wide (n := 6)).1 ?_
  refine callsIn_of_wp_marks Try.func17 rfl trivial ?_ rfl
  simp only [Try.ntmps17, List.size_toArray, List.length_cons, List.length_nil, Nat.reduceAdd, Nat.reduceSub, Array.replicate_succ, Array.replicate_zero, List.push_toArray, List.append_toArray, List.nil_append, List.cons_append]
  gi_wp2
  refine ⟨trivial, ?_⟩
  refine (callsIn_wide.2 (margins_any _ _ _ _ l _ HS.out)).mono ?_
  rintro e w' ⟨rfl, rfl⟩
  rw [HP.out, HQ.out]
  gi_wp2
  refine ⟨trivial, ?_⟩
  refine (all_in _ _ _ _ _).mono ?_
  rintro e w' ⟨rfl, rfl⟩
  gi_wp2
  have bS := Boxed.new w 22 (.slice none 0 0)
  have bN := Boxed.new (w.alloc (.cells #[.slice none 0 0] 22)) 25 (.slice (some ⟨b, off + p, none⟩) (n - q - p) (c - p))
  rw [World.size_alloc] at bN
  have hB0 : Below w.heap.size w ((w.alloc (.cells #[.slice none 0 0] 22)).alloc (.cells #[.slice (some ⟨b, off + p, none⟩) (n - q - p) (c - p)] 25)) := ((Below.refl _ w).alloc (Nat.le_refl _) _).alloc (by simp) _
  have bS2 := bS.alloc (.cells #[.slice (some ⟨b, off + p, none⟩) (n - q - p) (c - p)] 25)
  have hsz : ((w.alloc (.cells #[.slice none 0 0] 22)).alloc (.cells #[.slice (some ⟨b, off + p, none⟩) (n - q - p) (c - p)] 25)).heap.size = w.heap.size + 2 := by simp
  obtain ⟨W0, hW0⟩ : ∃ W0, (w.alloc (.cells #[.slice none 0 0] 22)).alloc (.cells #[.slice (some ⟨b, off + p, none⟩) (n - q - p) (c - p)] 25) = W0 := ⟨_, rfl⟩
  rw [hW0] at bN hB0 bS2 hsz ⊢
  clear hW0 bS
  have hRA : RowAt w.heap.size (w.heap.size + 2) W0 (some ⟨b, off + p, none⟩) (n - q - p) (c - p) cl :=
    ⟨by have := HCL.out; omega, by omega, by unfold maxLen; omega, fun _ => ⟨b, off + p, rfl, by omega, by omega, fun k hk => (hB0.cell (p := ⟨b, off + p + k, none⟩) hb).trans (HR.out k hk)⟩⟩
  refine wpIn_rangeFunc_ownG rfl (by omega) (gf := 38) (lb := #[.pointer (some ⟨w.heap.size + 1, 0, none⟩)]) rfl trivial (enters_of Try.func38 (by kernel_rfl) rfl)
    (all_stops (6 - 1) (by omega) (w.heap.size + 1) w.heap.size (w.heap.size + 2) _ _ _ cl (by omega) (by omega) W0 (by omega) bN.cell hRA) (fun h k => KeepX.trans h k) (keepX_b (by omega)) (Below.refl _ _) (fun _ => rfl)
    (fun pre W => (∃ v, Boxed W w.heap.size 22 v ∧ W.ownsRow (w.heap.size + 2) 3 1 v pre.length (il (wl pre)) ∧ True) ∧ Below w.heap.size W0 W)
    (fun _ _ _ => False)
    (OwnFrom.and (Own.from (holdsRow_own (w.heap.size + 2) w.heap.size 22 3 1 (fun pre : List (Bool × Nat) => pre.length) (fun pre => il (wl pre)) (fun _ _ => True)) _) (ownFrom_below (by omega) (by omega)))
    (fun _ _ _ _ _ hs _ _ => hs)
    ⟨⟨_, bS2, World.ownsRow_nil _ _ _ _, trivial⟩, Below.refl _ _⟩
    (fun x => { tmps := #[.slice (some ⟨b, off, none⟩) n c, undef, .slice none 0 0, .int .i64 p, .int .i64 q, .pointer (some ⟨w.heap.size, 0, none⟩), undef, .int .i64 (x.2 : Nat), .tuple #[.int .i64 p, .int .i64 q], .slice (some ⟨b, off, none⟩) n c, .tuple #[.int .i64 p, .int .i64 q], .int .i64 p, .int .i64 q, .int .i64 p, .slice (some ⟨b, off, none⟩) n c, .int .i64 n, .bool false, .slice (some ⟨b, off, none⟩) n c, .int .i64 p, .slice (some ⟨b, off, none⟩) n c, .int .i64 n, .int .i64 q, .int .i64 (n - q : Nat), .slice (some ⟨b, off + p, none⟩) (n - q - p) (c - p), .func (.func 38) #[] #[.pointer (some ⟨w.heap.size + 1, 0, none⟩)], .bool x.1, .int .i64 (x.2 : Nat), undef, undef, undef, undef, undef], defers := [] }) ?assign ?body ?done ?stop
  case assign =>
    intro l x W K hK
    gi_wp2
    exact hK
  case body =>
    rintro lp pre x W ⟨⟨v, hv, hrow, _⟩, hB⟩ hlt
    have hc := hv.cell
    have hszW := hB.size
    gi_wp2_with (gi_at_builtin; refine wpListIn_append_own _ rfl _ _ 22 rfl (w.heap.size + 2) 3 i0 (.int .i64 0) 1 8 Try.underlying22 hi hz0 hz1 hz2 rfl (by decide) _ _ _ rfl (hrow.alloc _) ⟨W.heap.size, 0, none⟩ 1 1 [.int .i64 (x.2 : Nat)] rfl rfl (cell_one_new _ _ _) (by simp [Value.oneCell']) (by unfold maxLen; omega) (by omega) (by simp; omega) ?_; intro v' w1 hown' hgrow _; obtain ⟨g', cap', rfl⟩ := ownsRow_succ hown'; obtain ⟨hv1, hv2, hr2, hk2, hb2⟩ := hv.appended (by decide) (ownsRow_base hrow (b := w.heap.size) (by omega)) (by omega) (Nat.le_refl _) (ownsRow_base hown' (b := w.heap.size) (by omega)) hgrow; have hc1 := hv1.cell; have hf1 := hv1.frozen)
    have hr3 := hown'.kept (grownBy_setCell' w1 w.heap.size (.slice (some ⟨g', 0, none⟩) (pre.length + 1) cap')) (.inr (hv1.not_row (by decide) hown').symm)
    exact ⟨hk2.from _, keepX_append hrow (by omega) hgrow, ⟨_, hv2, by rw [wl_snoc]; simpa using hr3, trivial⟩, hB.trans hb2⟩
  case done =>
    rintro D ys W hD rfl ⟨⟨v, hv, hrow, _⟩, hB⟩ hK
    have hc := hv.cell
    obtain ⟨A2, c2, rfl⟩ := own_slice hrow
    gi_wp2
    refine ⟨by simp, .inl ⟨_, _, rfl, run_takeDeferred hK, ?_⟩⟩
    have hown := ownsRow_putObj hrow (.deferred none) hK rfl
    have hg : Gives1 (il (wds cl)) w (.returned (.slice A2 (prs cl).length c2)) _ := gives1_own (by simp [il, wds]) hown ((hB0.trans hB).trans (belowK_b (w := w) (Nat.le_refl _) W D _ _ (by omega) hK rfl rfl))
    refine ⟨_, results_tmp (t := 2) rfl _ _ _, ?_⟩
    exact hg
  case stop =>
    rintro D c pre W _ _ h _
    exact h.elim
end Go.Proofs.Ytjobcobgmajajaa
