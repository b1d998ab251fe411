/- Contracts of galois: areElements. -/
import Derived.Test.YtjbaleadahefoaaDoorW8
set_option linter.unusedVariables false
namespace Go.Proofs.YtjbaleadahefoaaDoor
open Go.RowKit

/-- ints as cells -/
def il (l : List Int) : List Value := l.map fun x => Value.int .i64 x
theorem length_il (l : List Int) : (il l).length = l.length := by simp [il]
/-- all of a list are elements of a field of size n -/
def EL (n : Int) (l : List Int) : Prop := ∀ x ∈ l, 0 ≤ x ∧ x < n
set_option maxRecDepth 100000 in
theorem areElements_any (c n q : Int) (hc : I64 c) (hn : I64 n) (hq : I64 q) (l : List Int) (hl : ∀ x ∈ l, I64 x) (A : Option Addr) (m cp : Nat) (b : Bool) (hb : b = true ↔ (EL n l ∧ VF c n q)) (w : World) (hT : Tb w) (hs : Sl w w.heap.size A m cp (il l)) :
    Calls Tryd.prog 47 #[.agg #[.int .i64 c, .int .i64 n, .int .i64 q], .slice A m cp] w fun e w' => e = .returned (.bool b) ∧ Below w.heap.size w w' := by
  have HB := Lib.hid hb
  have hlen := hs.len
  rw [length_il] at hlen
  have hmax := hs.max
  have hle := hs.le
  unfold maxLen at hmax
  have hm63 : (m : Int) ≤ 9223372036854775807 := by omega
  have hb0 := below_new w (.cells #[.int .i64 c, .int .i64 n, .int .i64 q] 23)
  have hT1 := hT.next hb0
  have F1 := Fd.new w c n q
  have hs1 := hs.next hb0
  obtain ⟨c1, c2, c3⟩ := F1.cells
  have HV : ∀ (b' : Bool), (b' = true ↔ VF c n q) → ∀ w, Tb w → Calls Tryd.prog 14 #[.agg #[.int .i64 c, .int .i64 n, .int .i64 q]] w fun e w' => e = .returned (.bool b') ∧ Below w.heap.size w w' := fun b' h w hT => valid_any c n q hc hn hq b' h w hT
  have HVR := Lib.hid HV
  have HLen := Lib.hid hlen
  have HL := Lib.hid hl
  clear hb hT hs HV hmax hle hlen hl
  go_enter Tryd.func47, Tryd.ntmps47
  go_wp2
  go_loop [9] (fun x => ∃ k : Nat, x = .int .i64 (k : Int) ∧ k ≤ m ∧ Hid (∀ j x, j < k → l[j]? = some x → 0 ≤ x ∧ x < n)) (fun x => m - (intOf x).toNat)
  case atStart => exact ⟨0, rfl, by omega, Lib.hid (fun j x h => by omega)⟩
  case round =>
    obtain ⟨k, rfl, hk, hin⟩ := hrel
    by_cases hlt : k < m
    · obtain ⟨x, hx⟩ : ∃ x, l[k]? = some x := ⟨_, List.getElem?_eq_getElem (by have := HLen.out; omega)⟩
      have hxI := HL.out x (List.mem_of_getElem? hx)
      obtain ⟨bl, off, hA, hbl, hcell⟩ := hs1.read (by omega)
      have hck := hcell k (.int .i64 x) (by simp [il, hx])
      have HX := Lib.hid hx
      subst hA
      have hkI : (k : Int) < (m : Int) := by omega
      have hk0 : (0 : Int) ≤ (k : Int) := by omega
      clear hcell hx
      by_cases h0 : x < 0
      · have hbf : Hid (b = false) := by
          refine Lib.hid ?_
          cases hbb : b
          · rfl
          · have := (HB.out.1 hbb).1 x (List.mem_of_getElem? HX.out); omega
        go_wp2
        go_ret
        exact ⟨by rw [hbf.out]; rfl, hb0⟩
      · by_cases h1 : n ≤ x
        · have hbf : Hid (b = false) := by
            refine Lib.hid ?_
            cases hbb : b
            · rfl
            · have := (HB.out.1 hbb).1 x (List.mem_of_getElem? HX.out); omega
          go_wp2
          go_ret
          exact ⟨by rw [hbf.out]; rfl, hb0⟩
        · have HS : Hid (∀ j y, j < k + 1 → l[j]? = some y → 0 ≤ y ∧ y < n) := by
            refine Lib.hid ?_
            intro j y hj hy
            rcases Nat.lt_or_ge j k with h | h
            · exact hin.out j y h hy
            · obtain rfl : j = k := by omega
              rw [HX.out] at hy
              cases hy
              omega
          go_wp2
          go_round
          case rel => exact ⟨k + 1, by go_num, hlt, HS⟩
          case measure => simp [intOf]; omega
    · have hE : EL n l := by
        intro x hx
        obtain ⟨j, hj⟩ := List.getElem?_of_mem hx
        have := (List.getElem?_eq_some_iff.1 hj).1
        exact hin.out j x (by have := HLen.out; omega) hj
      have HVb := HVR.out b ⟨fun h => (HB.out.1 h).2, fun h => HB.out.2 ⟨hE, h⟩⟩
      go_wp2_with fail
      refine (HVb _ hT1).mono ?_
      rintro e w1 ⟨rfl, hb1⟩
      go_wp2
      go_ret
      exact ⟨rfl, below_step hb0 hb1⟩
end Go.Proofs.YtjbaleadahefoaaDoor
