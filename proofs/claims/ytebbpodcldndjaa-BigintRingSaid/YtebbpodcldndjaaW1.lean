/- Contracts: Valid, signed, clone, trim. -/
import Derived.Test.YtebbpodcldndjaaKit
set_option linter.unusedVariables false
namespace Go.Proofs.Ytebbpodcldndjaa
open Go.RowKit

/-- limbs as cells -/
def ml (l : List Nat) : List Value := l.map fun x : Nat => Value.int .u32 (x : Int)
theorem length_ml (l : List Nat) : (ml l).length = l.length := by simp [ml]
theorem getD_ml (l : List Nat) (k : Nat) (hk : k < l.length) : (ml l).getD k (.int .u32 0) = .int .u32 ((l.getD k 0 : Nat) : Int) := by simp [ml, List.getD, hk]
theorem take_ml (l : List Nat) (k : Nat) : (ml l).take k = ml (l.take k) := by simp [ml, List.map_take]
theorem one_ml (l : List Nat) : ∀ u ∈ ml l, u.oneCell' = true := by
  intro u hu
  obtain ⟨_, _, rfl⟩ := List.mem_map.1 hu
  rfl
theorem retI {k : IntKind} {a b : Int} (h : a = b) : Ending.returned (.int k a) = .returned (.int k b) := by rw [h]
theorem retB {a b : Bool} (h : a = b) : Ending.returned (.bool a) = .returned (.bool b) := by rw [h]
theorem natB {a b : Nat} (h : a ≠ b) : (((a : Nat) : Int) == ((b : Nat) : Int)) = false := by simp; omega
theorem limbInfo : (Try.prog.info? 63).map (fun i => (i.zero, i.size, i.bytes)) = some (some (.int .u32 0), 1, 4) := by kernel_rfl
theorem info_parts {P : Program} {e : TypeId} {z : Value} {s b : Nat} (h : (P.info? e).map (fun i => (i.zero, i.size, i.bytes)) = some (some z, s, b)) : ∃ i, P.info? e = some i ∧ i.zero = some z ∧ i.size = s ∧ i.bytes = b := by
  cases hi : P.info? e with
  | none => rw [hi] at h; cases h
  | some i =>
    rw [hi] at h
    simp only [Option.map_some, Option.some.injEq, Prod.mk.injEq] at h
    exact ⟨i, rfl, h.1, h.2.1, h.2.2⟩

/-- whether an integer is in normal form -/
def validB (neg : Bool) (l : List Nat) : Bool := if l.length = 0 then !neg else decide (l.length ≤ 512) && decide (l.getD (l.length - 1) 0 ≠ 0)

set_option maxRecDepth 100000 in
theorem valid_any (neg : Bool) (A : Option Addr) (n c : Nat) (l : List Nat) (w : World) (hs : Sl w w.heap.size A n c (ml l)) (hok : Ok l) :
    Calls Try.prog 36 #[.agg #[.bool neg, .slice A n c]] w fun e w' => e = .returned (.bool (validB neg l)) ∧ Below w.heap.size w w' := by
  have hl : l.length = n := by rw [← length_ml]; exact hs.len
  have hmax := hs.max
  have hle := hs.le
  unfold maxLen at hmax
  by_cases h0 : n = 0
  · have hr : validB neg l = !neg := by unfold validB; rw [if_pos (by omega)]
    rw [hr]
    subst h0
    go_enter Try.func36, Try.ntmps36
    go_wp2
    go_ret
    exact ⟨rfl, (Below.refl _ _).alloc (Nat.le_refl _) _⟩
  by_cases h1 : n ≤ 512
  · have hr : validB neg l = !(((l.getD (n - 1) 0 : Nat) : Int) == 0) := by
      unfold validB
      rw [if_neg (by omega), hl, decide_eq_true h1, Bool.true_and]
      by_cases h : l.getD (n - 1) 0 = 0
      · rw [h]; rfl
      · have h' : (((l.getD (n - 1) 0 : Nat) : Int) == 0) = false := natB (b := 0) h
        rw [h', decide_eq_true h]; rfl
    have HR := Lib.hid hr
    clear hr
    have hbel0 : Below w.heap.size w (w.alloc (.cells #[.bool neg, .slice A n c] 24)) := (Below.refl _ _).alloc (Nat.le_refl _) _
    obtain ⟨b, off, rfl, hb, hc⟩ := (hs.below hbel0).at_ (show n - 1 < n by omega) (.int .u32 0)
    rw [getD_ml l (n - 1) (by omega)] at hc
    generalize l.getD (n - 1) 0 = x at *
    clear hbel0
    obtain ⟨m, rfl⟩ : ∃ m, n = m + 1 := ⟨n - 1, by omega⟩
    rw [Nat.add_sub_cancel] at hc
    go_enter Try.func36, Try.ntmps36
    go_wp2
    go_ret
    exact ⟨retB (by rw [HR.out]; rfl), (Below.refl _ _).alloc (Nat.le_refl _) _⟩
  · have hr : validB neg l = false := by unfold validB; rw [if_neg (by omega), decide_eq_false (by omega)]; rfl
    rw [hr]
    go_enter Try.func36, Try.ntmps36
    go_wp2
    go_ret
    exact ⟨rfl, (Below.refl _ _).alloc (Nat.le_refl _) _⟩

theorem signed_any (neg : Bool) (A : Option Addr) (n c : Nat) (w : World) (hn : n ≤ 9223372036854775807) :
    Calls Try.prog 57 #[.bool neg, .slice A n c] w fun e w' => e = .returned (.agg #[.bool (neg && decide (n ≠ 0)), .slice A n c]) ∧ Below w.heap.size w w' := by
  cases neg
  · go_enter Try.func57, Try.ntmps57
    go_wp2
    exact bodyPost_ret (v := .agg #[.bool false, .slice A n c]) (by simp [results, Try.results57, go_sem]) rfl ⟨rfl, (Below.refl _ _).alloc (Nat.le_refl _) _⟩
  by_cases h : n = 0
  · subst h
    go_enter Try.func57, Try.ntmps57
    go_wp2
    exact bodyPost_ret (v := .agg #[.bool false, .slice A 0 c]) (by simp [results, Try.results57, go_sem]) rfl ⟨rfl, (Below.refl _ _).alloc (Nat.le_refl _) _⟩
  · rw [decide_eq_true h]
    have hp : (0 : Int) < (n : Int) := by omega
    go_enter Try.func57, Try.ntmps57
    go_wp2
    exact bodyPost_ret (v := .agg #[.bool true, .slice A n c]) (by simp [results, Try.results57, go_sem]; omega) rfl ⟨rfl, (Below.refl _ _).alloc (Nat.le_refl _) _⟩

/-- a call that returns limbs in new memory or in memory that was there -/
def Mag (l : List Nat) (w : World) (e : Ending) (w' : World) : Prop :=
  ∃ A c, e = .returned (.slice A l.length c) ∧ Sl w' w'.heap.size A l.length c (ml l) ∧ Below w.heap.size w w'

set_option maxRecDepth 100000 in
theorem clone_any (A : Option Addr) (n c : Nat) (l : List Nat) (w : World) (hs : Sl w w.heap.size A n c (ml l)) (hn : n ≤ 1048576) :
    Calls Try.prog 59 #[.slice A n c] w (Mag l w) := by
  have hl : l.length = n := by rw [← length_ml]; exact hs.len
  have hmax := hs.max
  have hle := hs.le
  unfold maxLen at hmax
  by_cases h0 : n = 0
  · subst h0
    obtain rfl : l = [] := List.eq_nil_of_length_eq_zero hl
    go_enter Try.func59, Try.ntmps59
    go_wp2
    go_ret
    exact ⟨none, 0, rfl, Sl.none_ _ _, Below.refl _ _⟩
  obtain ⟨i0, hi, hz0, hz1, hz2⟩ := info_parts limbInfo
  obtain ⟨cur, hcur⟩ : ∃ cur : Array Value, cur = madeCells (Value.int .u32 0).cells (n * i0.size) := ⟨_, rfl⟩
  have hcsz : cur.size = n := by rw [hcur, size_madeCells, hz1, Nat.mul_one]
  have hmk : (Instr.makeSlice 22 (.int .i64 (n : Int)) (.int .i64 (n : Int))).run Try.prog w = .ok (.slice (some ⟨w.heap.size, 0, none⟩) n n) (w.alloc (.cells cur 63)) := by
    have h := run_make (P := Try.prog) w 22 63 i0 (.int .u32 0) Try.underlying22 hi hz0 .i64 .i64 (n : Int) (n : Int) (by omega) (by omega) (by rw [hz2]; omega) (by omega)
    rw [Int.toNat_natCast] at h
    rw [hcur]
    exact h
  have HC := Lib.hid hcsz
  clear hcsz hcur
  go_enter Try.func59, Try.ntmps59
  go_wp2_with (with_reducible refine wpList_copy_splice rfl (.tmp 10) (.tmp 11) 22 22 rfl 63 Try.underlying22 (by kernel_rfl) _ _ _ _ _ _ rfl rfl w.heap.size 0 cur.toList 63 ?c1 (ml l) ?c2 ?c3 ?c4 (one_ml l) w.heap.size w ?c5 (Nat.le_refl _) ?_)
  case c1 => simpa using heap_alloc_new w _
  case c2 => rw [length_ml]; simp [hl]
  case c3 =>
    intro hp
    rw [length_ml] at hp
    obtain ⟨b, off, e, hb, hc⟩ := hs.read (by omega)
    refine ⟨_, e, fun i u hu => ?_⟩
    have := hc i u hu
    rw [Addr.add_lit]
    rw [World.cell?_alloc_lt w _ _ hb]
    exact this
  case c4 =>
    have e1 : cur.toList.length = n := by rw [Array.length_toList]; exact HC.out
    rw [e1, length_ml]; omega
  case c5 => exact (Below.refl _ _).alloc (Nat.le_refl _) _
  intro w1 hg1 hbel1
  have hg := hg1.out
  have hlt : w.heap.size < w1.heap.size := (Array.getElem?_eq_some_iff.1 hg).1
  have hown : w1.ownsRow w.heap.size 63 1 (.slice (some ⟨w.heap.size, 0, none⟩) n n) n (ml l) := by
    refine ⟨by rw [length_ml]; omega, .inr ⟨w.heap.size, n, _, rfl, Nat.le_refl _, hg, by omega, by unfold maxLen; omega, ?_, ?_⟩⟩
    · rw [List.size_toArray, length_splice _ _ _ (by rw [length_ml, Array.length_toList (xs := cur), HC.out]; omega), Array.length_toList (xs := cur), HC.out]; omega
    · simp [splice, ← hl, ← length_ml]
  clear hg1 hg hmk
  go_wp2
  go_ret
  subst hl
  exact ⟨_, _, rfl, Sl.of_own hown, hbel1⟩

theorem trim_any (A : Option Addr) (n c : Nat) (l : List Nat) (w : World) (hs : Sl w w.heap.size A n c (ml l)) (hok : Ok l) :
    Calls Try.prog 74 #[.slice A n c] w (fun e w' => Mag (enc (val l)) w e w' ∧ w = w') := by
  have hl : l.length = n := by rw [← length_ml]; exact hs.len
  have hmax := hs.max
  have hle := hs.le
  unfold maxLen at hmax
  go_enter Try.func74, Try.ntmps74
  go_wp2
  go_loop [3] (fun i => ∃ k : Nat, k ≤ n ∧ i = .int .i64 k ∧ Hid (val (l.take k) = val l)) (fun i => (intOf i).toNat)
  case atStart => exact ⟨n, Nat.le_refl _, rfl, Lib.hid (by rw [List.take_of_length_le (by omega)])⟩
  case round =>
    obtain ⟨k, hk, rfl, hv⟩ := hrel
    by_cases h0 : k = 0
    · subst h0
      have he := Lib.hid (enc_cut l 0 hok (by omega) hv.out (.inl rfl))
      go_wp2
      go_ret
      refine ⟨⟨none, 0, ?_, ?_, Below.refl _ _⟩, rfl⟩
      · rw [he.out]; rfl
      · rw [he.out]; exact Sl.none_ _ _
    obtain ⟨k, rfl⟩ : ∃ j, k = j + 1 := ⟨k - 1, by omega⟩
    have HP := Lib.hid (hs.pre hk)
    obtain ⟨b, off, rfl, hb, hc⟩ := hs.at_ (show k < n by omega) (.int .u32 0)
    rw [getD_ml l k (by omega)] at hc
    by_cases hx : l.getD k 0 = 0
    · have hv' : Hid (val (l.take k) = val l) := Lib.hid (by rw [← hv.out, val_take, hx]; simp)
      rw [hx] at hc
      clear hv
      go_wp2
      go_round
      case rel => exact ⟨k, by omega, by go_num, hv'⟩
      case measure => simp [intOf]
    · have he := Lib.hid (enc_cut l (k + 1) hok (by omega) hv.out (.inr (by rw [Nat.add_sub_cancel]; exact hx)))
      have hx' : (((l.getD k 0 : Nat) : Int) == 0) = false := natB (b := 0) hx
      generalize l.getD k 0 = x at *
      clear hv
      go_wp2
      go_ret
      have hlen : (enc (val l)).length = k + 1 := by rw [he.out, List.length_take]; omega
      have hP := HP.out
      rw [take_ml, ← he.out] at hP
      refine ⟨⟨_, _, by rw [hlen]; rfl, by rw [hlen]; exact hP, Below.refl _ _⟩, rfl⟩

end Go.Proofs.Ytebbpodcldndjaa
