/- Contracts of Format, Parse and of their specifications. -/
import Derived.Test.YtjpfalpengocjaaW6
import Derived.Test.YtjpfalpengocjaaKit2
import Derived.Laws.BytesArg
set_option linter.unusedVariables false
namespace Go.Proofs.Ytjpfalpengocjaa
open Go.RowKit

/-- bytes as a string -/
def str (p : List Nat) : ByteArray := strOfNums (p.map fun (x : Nat) => (x : Int))
theorem conv_sl {w : World} {B : Nat} {A : Option Addr} {n c : Nat} (p : List Nat) (h : Sl w B A n c (byl p)) :
    (convert 33 9 (.slice A n c)).run Try.prog w = .ok (.string (str p)) w := by
  have hl := h.len
  rw [length_byl] at hl
  rcases Nat.eq_zero_or_pos n with h0 | h0
  · subst h0
    obtain rfl : p = [] := List.eq_nil_of_length_eq_zero hl
    cases A with
    | none => exact run_convert_bytes_nil (P := Try.prog) w 33 5 Try.underlying33 Try.underlying5 0 c 9 Try.underlying9
    | some a =>
      rw [run_convert_bytes_string w 33 9 5 _ 0 c Try.underlying33 Try.underlying5 Try.underlying9]
      rw [run_bytesToString w a 0 c [] (by simp [loadCells, loadCellsFrom, Sem.run_pure])]
      rfl
  · obtain ⟨b, off, rfl, hb, hc⟩ := h.read h0
    refine run_convert_bytes_arg (P := Try.prog) w 33 5 Try.underlying33 Try.underlying5 b off n c (p.map fun (x : Nat) => (x : Int)) (by simpa using hl) (fun i hi => hc i _ ?_) 9 Try.underlying9
    simp [byl, List.getD, show i < p.length by omega]

/-- the characters of bits -/
def chs (l : List Bool) : List Nat := l.map fun b => if b then 49 else 48
theorem length_chs (l : List Bool) : (chs l).length = l.length := by simp [chs]
theorem chs_take (l : List Bool) (k : Nat) (h : k < l.length) : chs (l.take (k + 1)) = chs (l.take k) ++ [if l.getD k false then 49 else 48] := by
  rw [take_bl l k h]; simp [chs]
theorem byl_append (a b : List Nat) : byl (a ++ b) = byl a ++ byl b := by simp [byl]

theorem format_any (A : Option Addr) (n c : Nat) (l : List Bool) (w : World) (hs : Sl w w.heap.size A n c (bl l)) (hn : n ≤ 1048576) :
    Calls Try.prog 26 #[.slice A n c] w fun e w' => e = .returned (.string (str (chs l))) ∧ Below w.heap.size w w' := by
  have hl : l.length = n := by rw [← length_bl]; exact hs.len
  have hmax := hs.max
  have hle := hs.le
  unfold maxLen at hmax
  obtain ⟨i0, hi, hz0, hz1, hz2⟩ := info_parts byteInfo
  go_enter Try.func26, Try.ntmps26
  go_wp2_with (at_make; refine wpList_make_full _ rfl _ _ 33 rfl w.heap.size 5 i0 (.int .u8 0) 1 Try.underlying33 hi hz0 hz1 _ _ ((n : Nat) : Int) ((n : Nat) : Int) n rfl rfl rfl rfl (by rw [hz2]; omega) (by unfold maxLen; omega) (Nat.le_refl _) ?_)
  intro w1 hown1 hgrow1
  have hbel1 : Below w.heap.size w w1 := (Below.refl _ _).grown hgrow1 (Nat.le_refl _) (by simp)
  have hown2 : w1.ownsRow w.heap.size 5 1 (.slice (some ⟨w.heap.size, 0, none⟩) n n) n (byl (chs (l.take 0) ++ List.replicate (n - 0) 0)) := by
    have e : List.replicate n (Value.int .u8 0) = byl (chs (l.take 0) ++ List.replicate (n - 0) 0) := by simp [byl, chs]
    rw [← e]
    rw [toList_madeCells_one] at hown1
    exact hown1
  clear hgrow1 hown1
  go_wp2
  go_loopw [11] (fun i wr => ∃ t : Nat, t ≤ n ∧ i = .int .i64 t ∧ wr.ownsRow w.heap.size 5 1 (.slice (some ⟨w.heap.size, 0, none⟩) n n) n (byl (chs (l.take t) ++ List.replicate (n - t) 0)) ∧ Below w.heap.size w wr)
    (fun i _ => n - (intOf i).toNat)
  case atStart => exact ⟨0, Nat.zero_le _, rfl, hown2, hbel1⟩
  case round =>
    obtain ⟨t, ht, rfl, hownr, hbel⟩ := hrel
    clear hown2 hbel1
    have hsz := hbel.size
    by_cases hlt : t < n
    · obtain ⟨b, off, rfl, hb, hc⟩ := (hs.below hbel).at_ hlt (.bool false)
      rw [getD_bl l t (by omega)] at hc
      have HS := Lib.hid (chs_take l t (by omega))
      have hlen : (chs (l.take t)).length = t := by rw [length_chs, List.length_take]; omega
      have hcell := hownr.cellAt t (by omega)
      have hfr := hownr.frozenAt t
      rw [show (byl (chs (l.take t) ++ List.replicate (n - t) 0))[t]? = some (.int .u8 0) from fill_at _ t n hlen hlt 0 fun (x : Nat) => Value.int .u8 (x : Int)] at hcell
      have h48 := (hownr.stored t (.int .u8 48)).1
      rw [show (byl (chs (l.take t) ++ List.replicate (n - t) 0)).set t (.int .u8 48) = byl ((chs (l.take t) ++ [48]) ++ List.replicate (n - (t + 1)) 0) from fill_set _ t n hlen hlt 0 48 fun (x : Nat) => Value.int .u8 (x : Int)] at h48
      have h49 := (h48.stored t (.int .u8 49)).1
      have e49 : (byl ((chs (l.take t) ++ [48]) ++ List.replicate (n - (t + 1)) 0)).set t (.int .u8 49) = byl ((chs (l.take t) ++ [49]) ++ List.replicate (n - (t + 1)) 0) := by
        obtain ⟨a, ha⟩ : ∃ a, a = chs (l.take t) := ⟨_, rfl⟩
        rw [← ha] at hlen ⊢
        subst hlen
        simp [byl]
      rw [e49] at h49
      have hb48 := hbel.setCell (p := ⟨w.heap.size, t, none⟩) (Nat.le_refl _) (.int .u8 48)
      have hb49 := hb48.setCell (p := ⟨w.heap.size, t, none⟩) (Nat.le_refl _) (.int .u8 49)
      clear e49
      cases hbit : l.getD t false
      · rw [hbit] at hc HS
        have h2 : (wr.setCell ⟨w.heap.size, t, none⟩ (.int .u8 48)).ownsRow w.heap.size 5 1 (.slice (some ⟨w.heap.size, 0, none⟩) n n) n (byl (chs (l.take (t + 1)) ++ List.replicate (n - (t + 1)) 0)) := by
          rw [HS.out]; exact h48
        have H2 := Lib.hid h2
        have HB := Lib.hid hb48
        clear h48 h49 hb48 hb49 h2 hbit hlen
        go_wp2
        go_roundw
        case rel => exact ⟨t + 1, by omega, by go_num, H2.out, HB.out⟩
        case measure => simp [intOf]; omega
      · rw [hbit] at hc HS
        have h2 : ((wr.setCell ⟨w.heap.size, t, none⟩ (.int .u8 48)).setCell ⟨w.heap.size, t, none⟩ (.int .u8 49)).ownsRow w.heap.size 5 1 (.slice (some ⟨w.heap.size, 0, none⟩) n n) n (byl (chs (l.take (t + 1)) ++ List.replicate (n - (t + 1)) 0)) := by
          rw [HS.out]; exact h49
        have H2 := Lib.hid h2
        have HB := Lib.hid hb49
        clear h48 h49 hb48 hb49 h2 hbit hlen
        go_wp2
        go_roundw
        case rel => exact ⟨t + 1, by omega, by go_num, H2.out, HB.out⟩
        case measure => simp [intOf]; omega
    · obtain rfl : t = n := by omega
      rw [Nat.sub_self, List.replicate_zero, List.append_nil, List.take_of_length_le (by omega)] at hownr
      have hconv := conv_sl (chs l) (Sl.of_own hownr)
      go_wp2
      go_ret
      exact ⟨rfl, hbel⟩
end Go.Proofs.Ytjpfalpengocjaa
