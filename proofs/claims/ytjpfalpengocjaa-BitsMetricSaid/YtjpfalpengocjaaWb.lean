/- Contracts of the specification of Format, of Parse and of its specification. -/
import Derived.Test.YtjpfalpengocjaaWa
set_option linter.unusedVariables false
namespace Go.Proofs.Ytjpfalpengocjaa
open Go.RowKit

theorem rFormat_any (A : Option Addr) (n c : Nat) (l : List Bool) (w : World) (hs : Sl w w.heap.size A n c (bl l)) (hn : n ≤ 1048576) :
    Calls Try.prog 27 #[.slice A n c] w fun e w' => e = .returned (.string (str (chs l))) ∧ Below w.heap.size w w' := by
  have hl : l.length = n := by rw [← length_bl]; exact hs.len
  have hmax := hs.max
  have hle := hs.le
  unfold maxLen at hmax
  obtain ⟨i0, hi, hz0, hz1, hz2⟩ := info_parts byteInfo
  go_enter Try.func27, Try.ntmps27
  go_wp2
  go_loopw [3, 4] (fun v i wr => ∃ t : Nat, t ≤ n ∧ i = .int .i64 t ∧ wr.ownsRow w.heap.size 5 1 v t (byl (chs (l.take t))) ∧ Below w.heap.size w wr)
    (fun _ i _ => n - (intOf i).toNat)
  case atStart => exact ⟨0, Nat.zero_le _, rfl, World.ownsRow_nil _ _ _ _, Below.refl _ _⟩
  case round =>
    obtain ⟨t, ht, rfl, hownr, hbel⟩ := hrel
    have hsz := hbel.size
    by_cases hlt : t < n
    · obtain ⟨b, off, rfl, hb, hc⟩ := (hs.below hbel).at_ hlt (.bool false)
      rw [getD_bl l t (by omega)] at hc
      have HS := Lib.hid (chs_take l t (by omega))
      cases hbit : l.getD t false
      · rw [hbit] at hc HS
        clear hbit
        go_wp2_with (at_builtin; refine wpList_append_one rfl _ _ 33 rfl w.heap.size 5 i0 (.int .u8 0) 1 Try.underlying33 hi hz0 hz1 hz2 rfl _ _ _ rfl hownr _ _ rfl rfl (by unfold maxLen; omega) (by omega) w hbel (by omega) ?_)
        intro v' w2 hown' hbel'
        have hown2 : w2.ownsRow w.heap.size 5 1 v' (t + 1) (byl (chs (l.take (t + 1)))) := by
          rw [HS.out]
          simpa [byl] using hown'
        clear hown' hownr hbel hc
        go_wp2
        go_roundw
        case rel => exact ⟨t + 1, by omega, by go_num, hown2, hbel'⟩
        case measure => simp [intOf]; omega
      · rw [hbit] at hc HS
        clear hbit
        go_wp2_with (at_builtin; refine wpList_append_one rfl _ _ 33 rfl w.heap.size 5 i0 (.int .u8 0) 1 Try.underlying33 hi hz0 hz1 hz2 rfl _ _ _ rfl hownr _ _ rfl rfl (by unfold maxLen; omega) (by omega) w hbel (by omega) ?_)
        intro v' w2 hown' hbel'
        have hown2 : w2.ownsRow w.heap.size 5 1 v' (t + 1) (byl (chs (l.take (t + 1)))) := by
          rw [HS.out]
          simpa [byl] using hown'
        clear hown' hownr hbel hc
        go_wp2
        go_roundw
        case rel => exact ⟨t + 1, by omega, by go_num, hown2, hbel'⟩
        case measure => simp [intOf]; omega
    · obtain rfl : t = n := by omega
      rw [List.take_of_length_le (by omega)] at hownr
      obtain ⟨A2, c2, rfl⟩ := own_slice hownr
      have hconv := conv_sl (chs l) (Sl.of_own hownr)
      go_wp2
      go_ret
      exact ⟨rfl, hbel⟩

/-- the bytes of a string -/
def sb (s : ByteArray) : List Nat := s.data.toList.map UInt8.toNat
theorem length_sb (s : ByteArray) : (sb s).length = s.size := by simp [sb]
theorem getD_sb (s : ByteArray) (k : Nat) (h : k < s.size) : (sb s).getD k 0 = s[k].toNat := by
  have h' : k < s.data.size := h
  simp only [sb, List.getD, List.getElem?_map, Array.getElem?_toList]
  rw [Array.getElem?_eq_getElem h']
  rfl
def isBit (x : Nat) : Bool := decide (x = 48 ∨ x = 49)
/-- what Parse returns -/
def parseS (s : ByteArray) : List Bool × Int :=
  if 1048576 < s.size then ([], 4) else if (sb s).all isBit then ((sb s).map (fun x => decide (x = 49)), 0) else ([], 6)
theorem all_take_succ' {α : Type} (d : α) (p : α → Bool) (l : List α) (t : Nat) (h : t < l.length) : (l.take (t + 1)).all p = ((l.take t).all p && p (l.getD t d)) := by
  rw [List.take_add_one, List.getElem?_eq_getElem h, List.all_append]
  simp [List.getD, h]
theorem all_false' {α : Type} (d : α) (p : α → Bool) (l : List α) (t : Nat) (h : t < l.length) (hb : p (l.getD t d) = false) : l.all p = false := by
  rw [List.all_eq_false]
  refine ⟨l.getD t d, ?_, by rw [hb]; decide⟩
  rw [show l.getD t d = l[t] by simp [List.getD, h]]
  exact List.getElem_mem _
theorem map_take_succ {α β : Type} (d : α) (f : α → β) (l : List α) (t : Nat) (h : t < l.length) : (l.take (t + 1)).map f = (l.take t).map f ++ [f (l.getD t d)] := by
  rw [List.take_add_one, List.getElem?_eq_getElem h, List.map_append, show l.getD t d = l[t] by simp [List.getD, h]]
  rfl
def is1 (x : Nat) : Bool := decide (x = 49)

theorem rParse_ok (s : ByteArray) (w : World) (hn : s.size ≤ 1048576) (r : List Bool) (err : Int)
    (Hr : Hid (((sb s).all isBit = true → r = (sb s).map is1 ∧ err = 0) ∧ ((sb s).all isBit = false → r = [] ∧ err = 6))) :
    Calls Try.prog 23 #[.string s] w (Gives (bl r) err w) := by
  obtain ⟨i0, hi, hz0, hz1, hz2⟩ := info_parts boolInfo
  have hl := length_sb s
  have HL := Lib.hid hl
  clear hl
  go_enter Try.func23, Try.ntmps23
  go_wp2
  go_loopw [4, 5] (fun v i wr => ∃ t : Nat, t ≤ s.size ∧ i = .int .i64 t ∧ Hid (((sb s).take t).all isBit = true) ∧ wr.ownsRow w.heap.size 4 1 v t (bl (((sb s).take t).map is1)) ∧ Below w.heap.size w wr)
    (fun _ i _ => s.size - (intOf i).toNat)
  case atStart => exact ⟨0, Nat.zero_le _, rfl, rfl, World.ownsRow_nil _ _ _ _, Below.refl _ _⟩
  case round =>
    obtain ⟨t, ht, rfl, hall, hownr, hbel⟩ := hrel
    have hsz := hbel.size
    by_cases hlt : t < s.size
    · have HA := Lib.hid (all_take_succ' 0 isBit (sb s) t (by rw [HL.out]; exact hlt))
      have HF := Lib.hid (fun hb => all_false' 0 isBit (sb s) t (by rw [HL.out]; exact hlt) hb)
      have HS := Lib.hid (map_take_succ 0 is1 (sb s) t (by rw [HL.out]; exact hlt))
      rw [getD_sb s t hlt] at HA HF HS
      by_cases hx48 : s[t].toNat = 48
      · rw [hx48] at HA HS
        have hx48' : (s[t].toNat : Int) = 48 := by omega
        clear HF
        go_wp2_with (at_builtin; refine wpList_append_one rfl _ _ 22 rfl w.heap.size 4 i0 (.bool false) 1 Try.underlying22 hi hz0 hz1 hz2 rfl _ _ _ rfl hownr _ _ rfl rfl (by unfold maxLen; omega) (by omega) w hbel (by omega) ?_)
        intro v' w2 hown' hbel'
        have hown2 : w2.ownsRow w.heap.size 4 1 v' (t + 1) (bl (((sb s).take (t + 1)).map is1)) := by
          rw [HS.out]
          simpa [bl, is1] using hown'
        have hall2 : Hid (((sb s).take (t + 1)).all isBit = true) := by
          show _ = true
          rw [HA.out, hall.out]; rfl
        clear hown' hownr hbel hall HA
        go_wp2
        go_roundw
        case rel => exact ⟨t + 1, by omega, by go_num, hall2, hown2, hbel'⟩
        case measure => simp [intOf]; omega
      by_cases hx49 : s[t].toNat = 49
      · rw [hx49] at HA HS
        have hx49' : (s[t].toNat : Int) = 49 := by omega
        clear HF hx48
        go_wp2_with (at_builtin; refine wpList_append_one rfl _ _ 22 rfl w.heap.size 4 i0 (.bool false) 1 Try.underlying22 hi hz0 hz1 hz2 rfl _ _ _ rfl hownr _ _ rfl rfl (by unfold maxLen; omega) (by omega) w hbel (by omega) ?_)
        intro v' w2 hown' hbel'
        have hown2 : w2.ownsRow w.heap.size 4 1 v' (t + 1) (bl (((sb s).take (t + 1)).map is1)) := by
          rw [HS.out]
          simpa [bl, is1] using hown'
        have hall2 : Hid (((sb s).take (t + 1)).all isBit = true) := by
          show _ = true
          rw [HA.out, hall.out]; rfl
        clear hown' hownr hbel hall HA
        go_wp2
        go_roundw
        case rel => exact ⟨t + 1, by omega, by go_num, hall2, hown2, hbel'⟩
        case measure => simp [intOf]; omega
      · have e : Hid ((sb s).all isBit = false) := HF.out (by unfold isBit; rw [decide_eq_false_iff_not]; omega)
        have t48 : ((s[t].toNat : Int) != 48) = true := by rw [bne_iff_ne]; omega
        have t49 : ((s[t].toNat : Int) != 49) = true := by rw [bne_iff_ne]; omega
        have t48' : ((s[t].toNat : Int) == 48) = false := by rw [beq_eq_false_iff_ne]; omega
        have t49' : ((s[t].toNat : Int) == 49) = false := by rw [beq_eq_false_iff_ne]; omega
        clear HA HF HS
        go_wp2
        go_ret2
        obtain ⟨er, ee⟩ := Hr.out.2 e.out
        rw [er, ee]
        exact ⟨none, 0, rfl, Sl.none_ _ _, hbel⟩
    · obtain rfl : t = s.size := by omega
      have HA := hall.out
      have HT := Lib.hid (show (sb s).take s.size = sb s from List.take_of_length_le (by rw [HL.out]; exact Nat.le_refl _))
      rw [HT.out] at hownr HA
      have HA2 := Lib.hid HA
      clear HA hall
      obtain ⟨A2, c2, rfl⟩ := own_slice hownr
      go_wp2
      go_ret2
      obtain ⟨er, ee⟩ := Hr.out.1 HA2.out
      rw [er, ee]
      exact gives_own (by rw [length_bl, List.length_map, HL.out]) hownr hbel
theorem rParse_any (s : ByteArray) (w : World) (hmax : s.size ≤ 9223372036854775807) :
    Calls Try.prog 23 #[.string s] w (Gives (bl (parseS s).1) (parseS s).2 w) := by
  by_cases h1 : 1048576 < s.size
  · have hr : parseS s = ([], 4) := by unfold parseS; rw [if_pos h1]
    rw [hr]
    go_enter Try.func23, Try.ntmps23
    go_wp2
    go_ret2
    exact gives_none _ _
  · have hr : parseS s = if (sb s).all isBit then ((sb s).map is1, 0) else ([], 6) := by unfold parseS; rw [if_neg h1]; rfl
    rw [hr]
    refine rParse_ok s w (by omega) _ _ ⟨fun h => ?_, fun h => ?_⟩
    · rw [h]; exact ⟨rfl, rfl⟩
    · rw [h]; exact ⟨rfl, rfl⟩

theorem parse_ok (s : ByteArray) (w : World) (hn : s.size ≤ 1048576) (r : List Bool) (err : Int)
    (Hr : Hid (((sb s).all isBit = true → r = (sb s).map is1 ∧ err = 0) ∧ ((sb s).all isBit = false → r = [] ∧ err = 6))) :
    Calls Try.prog 22 #[.string s] w (Gives (bl r) err w) := by
  obtain ⟨i0, hi, hz0, hz1, hz2⟩ := info_parts boolInfo
  have hl := length_sb s
  have HL := Lib.hid hl
  clear hl
  obtain ⟨n, hsn⟩ : ∃ n, n = s.size := ⟨_, rfl⟩
  have Hn := Lib.hid hsn
  have hnn : n ≤ 1048576 := by omega
  go_enter Try.func22, Try.ntmps22
  go_wp2_with (at_make; refine wpList_make_full _ rfl _ _ 22 rfl w.heap.size 4 i0 (.bool false) 1 Try.underlying22 hi hz0 hz1 _ _ ((s.size : Nat) : Int) ((s.size : Nat) : Int) s.size rfl rfl rfl rfl (by rw [hz2]; omega) (by unfold maxLen; omega) (Nat.le_refl _) ?_)
  clear hsn
  intro w1 hown1 hgrow1
  have hbel1 : Below w.heap.size w w1 := (Below.refl _ _).grown hgrow1 (Nat.le_refl _) (by simp)
  have hown2 : w1.ownsRow w.heap.size 4 1 (.slice (some ⟨w.heap.size, 0, none⟩) s.size s.size) s.size (bl (((sb s).take 0).map is1 ++ List.replicate (s.size - 0) false)) := by
    have e : List.replicate s.size (Value.bool false) = bl (((sb s).take 0).map is1 ++ List.replicate (s.size - 0) false) := by simp [bl]
    rw [← e]
    rw [toList_madeCells_one] at hown1
    exact hown1
  clear hgrow1 hown1
  go_wp2
  go_loopw [14] (fun i wr => ∃ t : Nat, t ≤ s.size ∧ i = .int .i64 t ∧ Hid (((sb s).take t).all isBit = true) ∧ wr.ownsRow w.heap.size 4 1 (.slice (some ⟨w.heap.size, 0, none⟩) s.size s.size) s.size (bl (((sb s).take t).map is1 ++ List.replicate (s.size - t) false)) ∧ Below w.heap.size w wr)
    (fun i _ => s.size - (intOf i).toNat)
  case atStart => exact ⟨0, Nat.zero_le _, rfl, rfl, hown2, hbel1⟩
  case round =>
    obtain ⟨t, ht, rfl, hall, hownr, hbel⟩ := hrel
    clear hown2 hbel1
    have hsz := hbel.size
    by_cases hlt : t < s.size
    · have HA := Lib.hid (all_take_succ' 0 isBit (sb s) t (by rw [HL.out]; exact hlt))
      have HF := Lib.hid (fun hb => all_false' 0 isBit (sb s) t (by rw [HL.out]; exact hlt) hb)
      have HS := Lib.hid (map_take_succ 0 is1 (sb s) t (by rw [HL.out]; exact hlt))
      rw [getD_sb s t hlt] at HA HF HS
      have hlen : (((sb s).take t).map is1).length = t := by rw [List.length_map, List.length_take, HL.out]; omega
      have hcell := hownr.cellAt t (by omega)
      have hfr := hownr.frozenAt t
      rw [show (bl (((sb s).take t).map is1 ++ List.replicate (s.size - t) false))[t]? = some (.bool false) from fill_at _ t s.size hlen hlt false Value.bool] at hcell
      by_cases hx48 : s[t].toNat = 48
      · rw [hx48] at HA HS
        have hx48' : (s[t].toNat : Int) = 48 := by omega
        have hst := (hownr.stored t (.bool false)).1
        rw [show (bl (((sb s).take t).map is1 ++ List.replicate (s.size - t) false)).set t (.bool false) = bl (((sb s).take t).map is1 ++ [false] ++ List.replicate (s.size - (t + 1)) false) from fill_set _ t s.size hlen hlt false false Value.bool,
          show ((sb s).take t).map is1 ++ [false] = ((sb s).take (t + 1)).map is1 from HS.out.symm] at hst
        have hall2 : Hid (((sb s).take (t + 1)).all isBit = true) := by
          show _ = true
          rw [HA.out, hall.out]; rfl
        have HST := Lib.hid hst
        clear HF hst hlen hownr
        go_wp2
        go_roundw
        case rel => exact ⟨t + 1, by omega, by go_num, hall2, HST.out, hbel.setCell (Nat.le_refl _) _⟩
        case measure => simp [intOf]; omega
      by_cases hx49 : s[t].toNat = 49
      · rw [hx49] at HA HS
        have hx49' : (s[t].toNat : Int) = 49 := by omega
        have hst := (hownr.stored t (.bool true)).1
        rw [show (bl (((sb s).take t).map is1 ++ List.replicate (s.size - t) false)).set t (.bool true) = bl (((sb s).take t).map is1 ++ [true] ++ List.replicate (s.size - (t + 1)) false) from fill_set _ t s.size hlen hlt false true Value.bool,
          show ((sb s).take t).map is1 ++ [true] = ((sb s).take (t + 1)).map is1 from HS.out.symm] at hst
        have hall2 : Hid (((sb s).take (t + 1)).all isBit = true) := by
          show _ = true
          rw [HA.out, hall.out]; rfl
        have HST := Lib.hid hst
        clear HF hst hlen hownr hx48
        go_wp2
        go_roundw
        case rel => exact ⟨t + 1, by omega, by go_num, hall2, HST.out, hbel.setCell (Nat.le_refl _) _⟩
        case measure => simp [intOf]; omega
      · have e : Hid ((sb s).all isBit = false) := HF.out (by unfold isBit; rw [decide_eq_false_iff_not]; omega)
        have t48 : ((s[t].toNat : Int) != 48) = true := by rw [bne_iff_ne]; omega
        have t49 : ((s[t].toNat : Int) != 49) = true := by rw [bne_iff_ne]; omega
        have t48' : ((s[t].toNat : Int) == 48) = false := by rw [beq_eq_false_iff_ne]; omega
        have t49' : ((s[t].toNat : Int) == 49) = false := by rw [beq_eq_false_iff_ne]; omega
        clear HA HF HS hlen
        go_wp2
        go_ret2
        obtain ⟨er, ee⟩ := Hr.out.2 e.out
        rw [er, ee]
        exact ⟨none, 0, rfl, Sl.none_ _ _, hbel⟩
    · obtain rfl : t = s.size := by omega
      have HA := hall.out
      have HT := Lib.hid (show (sb s).take s.size = sb s from List.take_of_length_le (by rw [HL.out]; exact Nat.le_refl _))
      rw [HT.out] at hownr HA
      rw [Nat.sub_self, List.replicate_zero, List.append_nil] at hownr
      have HA2 := Lib.hid HA
      clear HA hall
      go_wp2
      go_ret2
      obtain ⟨er, ee⟩ := Hr.out.1 HA2.out
      rw [er, ee]
      exact gives_own (by rw [length_bl, List.length_map, HL.out]) hownr hbel
theorem parse_any (s : ByteArray) (w : World) (hmax : s.size ≤ 9223372036854775807) :
    Calls Try.prog 22 #[.string s] w (Gives (bl (parseS s).1) (parseS s).2 w) := by
  by_cases h1 : 1048576 < s.size
  · have hr : parseS s = ([], 4) := by unfold parseS; rw [if_pos h1]
    rw [hr]
    go_enter Try.func22, Try.ntmps22
    go_wp2
    go_ret2
    exact gives_none _ _
  · have hr : parseS s = if (sb s).all isBit then ((sb s).map is1, 0) else ([], 6) := by unfold parseS; rw [if_neg h1]; rfl
    rw [hr]
    refine parse_ok s w (by omega) _ _ ⟨fun h => ?_, fun h => ?_⟩
    · rw [h]; exact ⟨rfl, rfl⟩
    · rw [h]; exact ⟨rfl, rfl⟩
end Go.Proofs.Ytjpfalpengocjaa
