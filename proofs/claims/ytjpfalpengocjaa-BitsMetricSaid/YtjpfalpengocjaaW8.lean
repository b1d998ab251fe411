/- Contracts of FromBytes, FromWords and of their specifications. -/
import Derived.Test.YtjpfalpengocjaaW6
import Derived.Test.YtjpfalpengocjaaKit2
set_option linter.unusedVariables false
namespace Go.Proofs.Ytjpfalpengocjaa
open Go.RowKit

/-- bit i of bytes -/
def bitB (p : List Nat) (i : Nat) : Bool := bitI (p.getD (i / 8) 0) (7 - i % 8)
def bitsB (p : List Nat) (n : Nat) : List Bool := (List.range n).map (bitB p)
theorem length_bitsB (p : List Nat) (n : Nat) : (bitsB p n).length = n := by simp [bitsB]
theorem bitsB_succ (p : List Nat) (n : Nat) : bitsB p (n + 1) = bitsB p n ++ [bitB p n] := by simp [bitsB, List.range_succ]
/-- what FromBytes returns -/
def fromBytesS (p : List Nat) (n : Int) : List Bool × Int :=
  if n < 0 then ([], 3) else if 1048576 < n then ([], 4) else if (p.length : Int) < (n + 7) / 8 then ([], 10) else (bitsB p n.toNat, 0)
theorem getD_byl (l : List Nat) (k : Nat) (hk : k < l.length) : (byl l).getD k (.int .u8 0) = .int .u8 (l.getD k 0 : Nat) := by simp [byl, List.getD, hk]

theorem fromBytes_any (A : Option Addr) (m c : Nat) (p : List Nat) (n : Int) (w : World) (hs : Sl w w.heap.size A m c (byl p)) (hp : ∀ x ∈ p, x < 256) :
    Calls Try.prog 18 #[.slice A m c, .int .i64 n] w (Gives (bl (fromBytesS p n).1) (fromBytesS p n).2 w) := by
  have hl : p.length = m := by rw [← length_byl]; exact hs.len
  have hmax := hs.max
  have hle := hs.le
  unfold maxLen at hmax
  by_cases h1 : n < 0
  · have hr : fromBytesS p n = ([], 3) := by unfold fromBytesS; rw [if_pos (by omega)]
    rw [hr]
    go_enter Try.func18, Try.ntmps18
    go_wp2
    go_ret2
    exact gives_none _ _
  by_cases h2 : 1048576 < n
  · have hr : fromBytesS p n = ([], 4) := by unfold fromBytesS; rw [if_neg (by omega), if_pos (by omega)]
    rw [hr]
    go_enter Try.func18, Try.ntmps18
    go_wp2
    go_ret2
    exact gives_none _ _
  by_cases h3 : (m : Int) < (n + 7) / 8
  · have hr : fromBytesS p n = ([], 10) := by unfold fromBytesS; rw [if_neg (by omega), if_neg (by omega), if_pos (by omega)]
    rw [hr]
    go_enter Try.func18, Try.ntmps18
    go_wp2
    go_ret2
    exact gives_none _ _
  obtain ⟨k, rfl⟩ := Int.eq_ofNat_of_zero_le (show 0 ≤ n by omega)
  have hr : fromBytesS p k = (bitsB p k, 0) := by unfold fromBytesS; rw [if_neg (by omega), if_neg (by omega), if_neg (by omega)]; simp
  rw [hr]
  clear hr
  obtain ⟨i0, hi, hz0, hz1, hz2⟩ := info_parts boolInfo
  go_enter Try.func18, Try.ntmps18
  go_wp2_with (at_make; refine wpList_make_full _ rfl _ _ 22 rfl w.heap.size 4 i0 (.bool false) 1 Try.underlying22 hi hz0 hz1 _ _ ((k : Nat) : Int) ((k : Nat) : Int) k rfl rfl rfl rfl (by rw [hz2]; omega) (by unfold maxLen; omega) (Nat.le_refl _) ?_)
  intro w1 hown1 hgrow1
  have hbel1 : Below w.heap.size w w1 := (Below.refl _ _).grown hgrow1 (Nat.le_refl _) (by simp)
  have hown2 : w1.ownsRow w.heap.size 4 1 (.slice (some ⟨w.heap.size, 0, none⟩) k k) k (bl (bitsB p 0 ++ List.replicate (k - 0) false)) := by
    have e : List.replicate k (Value.bool false) = bl (bitsB p 0 ++ List.replicate (k - 0) false) := by simp [bl, bitsB]
    rw [← e]
    rw [toList_madeCells_one] at hown1
    exact hown1
  clear hgrow1 hown1
  go_wp2
  go_loopw [22] (fun i wr => ∃ t : Nat, t ≤ k ∧ i = .int .i64 t ∧ wr.ownsRow w.heap.size 4 1 (.slice (some ⟨w.heap.size, 0, none⟩) k k) k (bl (bitsB p t ++ List.replicate (k - t) false)) ∧ Below w.heap.size w wr)
    (fun i _ => k - (intOf i).toNat)
  case atStart => exact ⟨0, Nat.zero_le _, rfl, hown2, hbel1⟩
  case round =>
    obtain ⟨t, ht, rfl, hownr, hbel⟩ := hrel
    clear hown2 hbel1
    have hsz := hbel.size
    by_cases hlt : t < k
    · obtain ⟨b, off, rfl, hb, hc⟩ := (hs.below hbel).at_ (show t / 8 < m by omega) (.int .u8 0)
      rw [getD_byl p (t / 8) (by omega)] at hc
      have hx : p.getD (t / 8) 0 < 256 := by
        rw [show p.getD (t / 8) 0 = p[t / 8]'(by omega) by simp [List.getD, show t / 8 < p.length by omega]]
        exact hp _ (List.getElem_mem _)
      obtain ⟨x, hxx⟩ : ∃ x, x = p.getD (t / 8) 0 := ⟨_, rfl⟩
      rw [← hxx] at hc hx
      have HX := Lib.hid hxx
      clear hxx
      have hcell := hownr.cellAt t (by omega)
      have hfr := hownr.frozenAt t
      have hfa : (bl (bitsB p t ++ List.replicate (k - t) false))[t]? = some (.bool false) := fill_at _ t k (length_bitsB p t) hlt false Value.bool
      rw [hfa] at hcell
      clear hfa
      go_wp2
      have hst := hownr.stored t (.bool (bits BinOp.and IntKind.u8 ((x : Int) / 2 ^ (7 - t % 8)) 1 == 1))
      have hown3 : (wr.setCell ⟨w.heap.size, t, none⟩ (.bool (bits BinOp.and IntKind.u8 ((x : Int) / 2 ^ (7 - t % 8)) 1 == 1))).ownsRow w.heap.size 4 1 (.slice (some ⟨w.heap.size, 0, none⟩) k k) k (bl (bitsB p (t + 1) ++ List.replicate (k - (t + 1)) false)) := by
        have h := hst.1
        have e := fill_set (bitsB p t) t k (length_bitsB p t) hlt false (bits BinOp.and IntKind.u8 ((x : Int) / 2 ^ (7 - t % 8)) 1 == 1) Value.bool
        have eb : (bits BinOp.and IntKind.u8 ((x : Int) / 2 ^ (7 - t % 8)) 1 == 1) = bitB p t := by
          rw [and_bit_u8, HX.out]
          rfl
        rw [bitsB_succ, ← eb]
        unfold bl at h ⊢
        rw [← e]
        exact h
      clear hcell hfr hc
      go_roundw
      case rel => exact ⟨t + 1, by omega, by go_num, hown3, hbel.setCell (Nat.le_refl _) _⟩
      case measure => simp [intOf]; omega
    · obtain rfl : t = k := by omega
      rw [Nat.sub_self, List.replicate_zero, List.append_nil] at hownr
      go_wp2
      go_ret2
      exact gives_own (by rw [length_bl, length_bitsB]) hownr hbel

theorem rFromBytes_any (A : Option Addr) (m c : Nat) (p : List Nat) (n : Int) (w : World) (hs : Sl w w.heap.size A m c (byl p)) (hp : ∀ x ∈ p, x < 256) :
    Calls Try.prog 19 #[.slice A m c, .int .i64 n] w (Gives (bl (fromBytesS p n).1) (fromBytesS p n).2 w) := by
  have hl : p.length = m := by rw [← length_byl]; exact hs.len
  have hmax := hs.max
  have hle := hs.le
  unfold maxLen at hmax
  by_cases h1 : n < 0
  · have hr : fromBytesS p n = ([], 3) := by unfold fromBytesS; rw [if_pos (by omega)]
    rw [hr]
    go_enter Try.func19, Try.ntmps19
    go_wp2
    go_ret2
    exact gives_none _ _
  by_cases h2 : 1048576 < n
  · have hr : fromBytesS p n = ([], 4) := by unfold fromBytesS; rw [if_neg (by omega), if_pos (by omega)]
    rw [hr]
    go_enter Try.func19, Try.ntmps19
    go_wp2
    go_ret2
    exact gives_none _ _
  by_cases h3 : (m : Int) < (n + 7) / 8
  · have hr : fromBytesS p n = ([], 10) := by unfold fromBytesS; rw [if_neg (by omega), if_neg (by omega), if_pos (by omega)]
    rw [hr]
    go_enter Try.func19, Try.ntmps19
    go_wp2
    go_ret2
    exact gives_none _ _
  obtain ⟨k, rfl⟩ := Int.eq_ofNat_of_zero_le (show 0 ≤ n by omega)
  have hr : fromBytesS p k = (bitsB p k, 0) := by unfold fromBytesS; rw [if_neg (by omega), if_neg (by omega), if_neg (by omega)]; simp
  rw [hr]
  clear hr
  obtain ⟨i0, hi, hz0, hz1, hz2⟩ := info_parts boolInfo
  go_enter Try.func19, Try.ntmps19
  go_wp2
  go_loopw [6, 7] (fun v i wr => ∃ t : Nat, t ≤ k ∧ i = .int .i64 t ∧ wr.ownsRow w.heap.size 4 1 v t (bl (bitsB p t)) ∧ Below w.heap.size w wr)
    (fun _ i _ => k - (intOf i).toNat)
  case atStart => exact ⟨0, Nat.zero_le _, rfl, World.ownsRow_nil _ _ _ _, Below.refl _ _⟩
  case round =>
    obtain ⟨t, ht, rfl, hownr, hbel⟩ := hrel
    have hsz := hbel.size
    by_cases hlt : t < k
    · obtain ⟨b, off, rfl, hb, hc⟩ := (hs.below hbel).at_ (show t / 8 < m by omega) (.int .u8 0)
      rw [getD_byl p (t / 8) (by omega)] at hc
      have hx : p.getD (t / 8) 0 < 256 := by
        rw [show p.getD (t / 8) 0 = p[t / 8]'(by omega) by simp [List.getD, show t / 8 < p.length by omega]]
        exact hp _ (List.getElem_mem _)
      obtain ⟨x, hxx⟩ : ∃ x, x = p.getD (t / 8) 0 := ⟨_, rfl⟩
      rw [← hxx] at hc hx
      have HX := Lib.hid hxx
      clear hxx
      go_wp2_with (at_builtin; refine wpList_append_one rfl _ _ 22 rfl w.heap.size 4 i0 (.bool false) 1 Try.underlying22 hi hz0 hz1 hz2 rfl _ _ _ rfl hownr _ _ rfl rfl (by unfold maxLen; omega) (by omega) w hbel (by omega) ?_)
      intro v' w2 hown' hbel'
      have hown2 : w2.ownsRow w.heap.size 4 1 v' (t + 1) (bl (bitsB p (t + 1))) := by
        have eb : (bits BinOp.and IntKind.u8 ((x : Int) / 2 ^ (7 - t % 8)) 1 == 1) = bitB p t := by
          rw [and_bit_u8, HX.out]
          rfl
        rw [bitsB_succ, ← eb]
        simpa [bl] using hown'
      clear hown' hownr hbel hc
      go_wp2
      go_roundw
      case rel => exact ⟨t + 1, by omega, by go_num, hown2, hbel'⟩
      case measure => simp [intOf]; omega
    · obtain rfl : t = k := by omega
      obtain ⟨A2, c2, rfl⟩ := own_slice hownr
      go_wp2
      go_ret2
      exact gives_own (by rw [length_bl, length_bitsB]) hownr hbel
end Go.Proofs.Ytjpfalpengocjaa
