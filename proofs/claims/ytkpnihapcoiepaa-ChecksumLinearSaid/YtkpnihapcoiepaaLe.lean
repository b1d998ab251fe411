/- ChecksumLinear returns true for every argument. No condition. -/
import Derived.Test.YtkpnihapcoiepaaLd
import Derived.Test.YtkpnihapcoiepaaKit2
set_option linter.unusedVariables false
namespace Go.Proofs.Ytkpnihapcoiepaa
open Go.RowKit

/-- the second input, cut or filled with zeros to n bytes -/
def pad (l : List Nat) (n : Nat) : List Nat := (List.range n).map fun i => l.getD i 0
theorem pad_length (l : List Nat) (n : Nat) : (pad l n).length = n := by simp [pad]
theorem pad_succ (l : List Nat) (n : Nat) : pad l (n + 1) = pad l n ++ [l.getD n 0] := by simp [pad, List.range_succ]
theorem pad_byt {l : List Nat} (h : Byt l) (n : Nat) : Byt (pad l n) := by
  intro y hy
  obtain ⟨i, _, rfl⟩ := List.mem_map.1 hy
  exact h.getD i
/-- both inputs, xored -/
def xors (l m : List Nat) (n : Nat) : List Nat := (List.range n).map fun i => l.getD i 0 ^^^ m.getD i 0
theorem xors_length (l m : List Nat) (n : Nat) : (xors l m n).length = n := by simp [xors]
theorem xors_succ (l m : List Nat) (n : Nat) : xors l m (n + 1) = xors l m n ++ [l.getD n 0 ^^^ m.getD n 0] := by simp [xors, List.range_succ]
theorem xors_byt {l m : List Nat} (h : Byt l) (k : Byt m) (n : Nat) : Byt (xors l m n) := by
  intro y hy
  obtain ⟨i, _, rfl⟩ := List.mem_map.1 hy
  exact Nat.xor_lt_two_pow (n := 8) (h.getD i) (k.getD i)
theorem byt_zeros (n : Nat) : Byt (List.replicate n 0) := by
  intro y hy
  rw [List.eq_of_mem_replicate hy]
  decide
theorem ofNat_xor16 (a b : Nat) : BitVec.ofNat 16 ((a ^^^ b) * 256) = BitVec.ofNat 16 (a * 256) ^^^ BitVec.ofNat 16 (b * 256) := by
  rw [show (a ^^^ b) * 256 = a * 256 ^^^ b * 256 by
    rw [show (256 : Nat) = 2 ^ 8 from rfl, ← Nat.shiftLeft_eq, ← Nat.shiftLeft_eq, ← Nat.shiftLeft_eq, Nat.shiftLeft_xor_distrib]]
  apply BitVec.eq_of_getLsbD_eq
  intro i hi
  simp [hi]
theorem xors_b32 (l m : List Nat) : b32 (xors l m l.length) = List.zipWith (· ^^^ ·) (b32 l) (List.zipWith (· ^^^ ·) (b32 (pad m l.length)) (b32 (List.replicate l.length 0))) := by
  apply List.ext_getElem
  · simp [b32, xors, pad]
  · intro i h1 h2
    have hi : i < l.length := by simpa [b32, xors] using h1
    simp [b32, xors, pad, hi]
theorem xors_b16 (l m : List Nat) : b16 (xors l m l.length) = List.zipWith (· ^^^ ·) (b16 l) (List.zipWith (· ^^^ ·) (b16 (pad m l.length)) (b16 (List.replicate l.length 0))) := by
  apply List.ext_getElem
  · simp [b16, xors, pad]
  · intro i h1 h2
    have hi : i < l.length := by simpa [b16, xors] using h1
    simp [b16, xors, pad, ofNat_xor16, hi]
theorem crc32_xors (l m : List Nat) : crc32 (xors l m l.length) = crc32 l ^^^ crc32 (pad m l.length) ^^^ crc32 (List.replicate l.length 0) := by
  unfold crc32 f32
  rw [xors_b32]
  have h := fe_zip st_lin (b32 l) (List.zipWith (· ^^^ ·) (b32 (pad m l.length)) (b32 (List.replicate l.length 0))) (by simp [b32, pad]) ones32 (ones32 ^^^ ones32)
  rw [fe_zip st_lin (b32 (pad m l.length)) (b32 (List.replicate l.length 0)) (by simp [b32, pad]) ones32 ones32, show ones32 ^^^ (ones32 ^^^ ones32) = ones32 by rw [BitVec.xor_self, BitVec.xor_zero]] at h
  rw [h]
  generalize fe st ones32 (b32 l) = a
  generalize fe st ones32 (b32 (pad m l.length)) = b
  generalize fe st ones32 (b32 (List.replicate l.length 0)) = c
  rw [show a ^^^ ones32 ^^^ (b ^^^ ones32) ^^^ (c ^^^ ones32) = (a ^^^ (b ^^^ c)) ^^^ ones32 ^^^ (ones32 ^^^ ones32) by ac_rfl, BitVec.xor_self, BitVec.xor_zero]
theorem crc16_xors (l m : List Nat) : crc16 (xors l m l.length) = crc16 l ^^^ crc16 (pad m l.length) ^^^ crc16 (List.replicate l.length 0) := by
  unfold crc16 f16
  rw [xors_b16]
  have h := fe_zip su_lin (b16 l) (List.zipWith (· ^^^ ·) (b16 (pad m l.length)) (b16 (List.replicate l.length 0))) (by simp [b16, pad]) ones16 (ones16 ^^^ ones16)
  rw [fe_zip su_lin (b16 (pad m l.length)) (b16 (List.replicate l.length 0)) (by simp [b16, pad]) ones16 ones16, show ones16 ^^^ (ones16 ^^^ ones16) = ones16 by rw [BitVec.xor_self, BitVec.xor_zero]] at h
  rw [h, BitVec.xor_assoc]
theorem byl_snoc (l : List Nat) (c : Nat) : byl (l ++ [c]) = byl l ++ [.int .u8 (c : Int)] := by simp [byl]
theorem zeros_succ (k : Nat) : List.replicate (k + 1) 0 = List.replicate k 0 ++ [0] := List.replicate_succ'

set_option maxRecDepth 100000 in
set_option maxHeartbeats 4000000 in
theorem law_linear (A : Option Addr) (n c : Nat) (l : List Nat) (A' : Option Addr) (n' c' : Nat) (l' : List Nat) (w : World) (hs : Sl w w.heap.size A n c (byl l)) (hb : Byt l) (hs' : Sl w w.heap.size A' n' c' (byl l')) (hb' : Byt l') :
    Calls Try.prog 11 #[.slice A n c, .slice A' n' c'] w fun e w' => e = .returned (.bool true) ∧ Below w.heap.size w w' := by
  have hmax := hs.max
  have hle := hs.le
  have hmax' := hs'.max
  have hle' := hs'.le
  unfold maxLen at hmax hmax'
  have hexit : ∀ w0 : World, Below w.heap.size w w0 → Calls Try.prog 16 #[] w0 fun e w' => e = .returned (.bool true) ∧ Below w.heap.size w w' :=
    fun w0 h0 => (examples_any w0).mono fun _ _ ⟨he, hb⟩ => ⟨he, below_step h0 hb⟩
  by_cases hn : n ≤ 600
  · have hl : l.length = n := by rw [← length_byl]; exact hs.len
    have hl' : l'.length = n' := by rw [← length_byl]; exact hs'.len
    obtain ⟨i0, hi, hz0, hz1, hz2⟩ := info_parts byteInfo
    go_enter Try.func11, Try.ntmps11
    go_wp2
    go_loopw [5, 6, 7, 8] (fun va vb vz i wr => ∃ k : Nat, k ≤ n ∧ i = .int .i64 k ∧ wr.ownsRow w.heap.size 5 1 va k (byl (pad l' k)) ∧ wr.ownsRow w.heap.size 5 1 vb k (byl (xors l l' k)) ∧ wr.ownsRow w.heap.size 5 1 vz k (byl (List.replicate k 0)) ∧ Far va vb ∧ Far va vz ∧ Far vb vz ∧ Below w.heap.size w wr)
      (fun _ _ _ i _ => n - (intOf i).toNat)
    case atStart => exact ⟨0, Nat.zero_le _, rfl, World.ownsRow_nil _ _ _ _, World.ownsRow_nil _ _ _ _, World.ownsRow_nil _ _ _ _, Far.nil _, Far.nil _, Far.nil _, Below.refl _ _⟩
    case round =>
      obtain ⟨k, hk, rfl, oa, ob, oz, fab, faz, fbz, hbel⟩ := hrel
      by_cases hlt : k < n
      · have hsz := hbel.size
        have hc1 := hb.getD k
        have hc2 := hb'.getD k
        have hx := u8_xor_nat (l.getD k 0) (l'.getD k 0) hc1 hc2
        obtain ⟨b, off, rfl, hbB, hc⟩ := (hs.below hbel).at_ hlt (.int .u8 0)
        rw [getD_byl _ _ (by omega)] at hc
        have HP := Lib.hid (pad_succ l' k)
        have HX := Lib.hid (xors_succ l l' k)
        have HZ := Lib.hid (zeros_succ k)
        have FAB := Lib.hid fab
        have FAZ := Lib.hid faz
        have FBZ := Lib.hid fbz
        clear fab faz fbz
        have hkeep : Hid (∀ w2 : World, Below w.heap.size w w2 → w2.cell? ⟨b, off + k, none⟩ = wr.cell? ⟨b, off + k, none⟩) := fun w2 h2 => by
          rw [h2.cell (p := ⟨b, off + k, none⟩) hbB, hbel.cell (p := ⟨b, off + k, none⟩) hbB]
        by_cases hlt' : k < n'
        · obtain ⟨b', off', rfl, hbB', hc'⟩ := (hs'.below hbel).at_ hlt' (.int .u8 0)
          rw [getD_byl _ _ (by omega)] at hc'
          generalize l.getD k 0 = PP at *
          generalize l'.getD k 0 = QQ at *
          go_wp2_with (at_builtin; refine wpList_append_one_far rfl (.tmp 30) (.tmp 32) 22 rfl w.heap.size 5 i0 (.int .u8 0) 1 Try.underlying22 hi hz0 hz1 hz2 rfl _ _ _ rfl oa _ _ rfl rfl (by unfold maxLen; omega) (by omega) w hbel (by omega) ?_)
          intro va' w1 oa1 hbel1 hfar
          obtain ⟨ob1, fab1⟩ := hfar _ _ _ _ ob FAB.out
          obtain ⟨oz1, faz1⟩ := hfar _ _ _ _ oz FAZ.out
          have OA : Hid (w1.ownsRow w.heap.size 5 1 va' (k + 1) (byl (pad l' (k + 1)))) := by rw [HP.out, byl_snoc]; exact oa1
          have hsz1 := hbel1.size
          have hc1' := (hkeep.out w1 hbel1).trans hc
          have FAB1 := Lib.hid fab1
          have FAZ1 := Lib.hid faz1
          clear hfar oa1 ob oz oa hbel FAB FAZ fab1 faz1 hc hc' hsz
          go_wp2_with (at_builtin; refine wpList_append_one_far rfl (.tmp 34) (.tmp 41) 22 rfl w.heap.size 5 i0 (.int .u8 0) 1 Try.underlying22 hi hz0 hz1 hz2 rfl _ _ _ rfl ob1 _ _ rfl rfl (by unfold maxLen; omega) (by omega) w hbel1 (by omega) ?_)
          intro vb' w2 ob2 hbel2 hfar
          obtain ⟨oz2, fbz2⟩ := hfar _ _ _ _ oz1 FBZ.out
          obtain ⟨oa2, fba2⟩ := hfar _ _ _ _ OA.out FAB1.out.symm
          have OB : Hid (w2.ownsRow w.heap.size 5 1 vb' (k + 1) (byl (xors l l' (k + 1)))) := by rw [HX.out, byl_snoc]; exact ob2
          have OA2 := Lib.hid oa2
          have hsz2 := hbel2.size
          have FBZ2 := Lib.hid fbz2
          have FBA2 := Lib.hid fba2
          clear hfar ob2 ob1 oz1 OA hbel1 FBZ FAB1 fbz2 fba2 hc1' hsz1 oa2
          go_wp2_with (at_builtin; refine wpList_append_one_far rfl (.tmp 43) (.tmp 44) 22 rfl w.heap.size 5 i0 (.int .u8 0) 1 Try.underlying22 hi hz0 hz1 hz2 rfl _ _ _ rfl oz2 _ _ rfl rfl (by unfold maxLen; omega) (by omega) w hbel2 (by omega) ?_)
          intro vz' w3 oz3 hbel3 hfar
          obtain ⟨oa3, fza3⟩ := hfar _ _ _ _ OA2.out FAZ1.out.symm
          obtain ⟨ob3, fzb3⟩ := hfar _ _ _ _ OB.out FBZ2.out.symm
          have OZ : Hid (w3.ownsRow w.heap.size 5 1 vz' (k + 1) (byl (List.replicate (k + 1) 0))) := by rw [HZ.out, byl_snoc]; exact oz3
          have OA3 := Lib.hid oa3
          have OB3 := Lib.hid ob3
          have FZA := Lib.hid fza3
          have FZB := Lib.hid fzb3
          clear hfar oz3 oz2 OA2 OB hbel2 FAZ1 FBZ2 fza3 fzb3 oa3 ob3 hsz2
          go_wp2
          go_roundw
          case rel => exact ⟨k + 1, by omega, by go_num, OA3.out, OB3.out, OZ.out, FBA2.out.symm, FZA.out.symm, FZB.out.symm, hbel3⟩
          case measure => simp [intOf]; omega
        · have h0 : l'.getD k 0 = 0 := by simp [List.getD, List.getElem?_eq_none (show l'.length ≤ k by omega)]
          have H0 := Lib.hid h0
          rw [h0] at hx HX
          clear h0
          generalize l.getD k 0 = PP at *
          generalize l'.getD k 0 = QQ at *
          replace hx : Go.bits .xor .u8 ((PP : Nat) : Int) 0 = ((PP ^^^ 0 : Nat) : Int) := hx
          generalize PP ^^^ 0 = RR at *
          go_wp2_with (at_builtin; refine wpList_append_one_far rfl (.tmp 30) (.tmp 32) 22 rfl w.heap.size 5 i0 (.int .u8 0) 1 Try.underlying22 hi hz0 hz1 hz2 rfl _ _ _ rfl oa _ _ rfl rfl (by unfold maxLen; omega) (by omega) w hbel (by omega) ?_)
          intro va' w1 oa1 hbel1 hfar
          obtain ⟨ob1, fab1⟩ := hfar _ _ _ _ ob FAB.out
          obtain ⟨oz1, faz1⟩ := hfar _ _ _ _ oz FAZ.out
          have OA : Hid (w1.ownsRow w.heap.size 5 1 va' (k + 1) (byl (pad l' (k + 1)))) := by rw [HP.out, byl_snoc]; rw [H0.out]; exact oa1
          have hsz1 := hbel1.size
          have hc1' := (hkeep.out w1 hbel1).trans hc
          have FAB1 := Lib.hid fab1
          have FAZ1 := Lib.hid faz1
          clear hfar oa1 ob oz oa hbel FAB FAZ fab1 faz1 hc hsz
          go_wp2_with (at_builtin; refine wpList_append_one_far rfl (.tmp 34) (.tmp 41) 22 rfl w.heap.size 5 i0 (.int .u8 0) 1 Try.underlying22 hi hz0 hz1 hz2 rfl _ _ _ rfl ob1 _ _ rfl rfl (by unfold maxLen; omega) (by omega) w hbel1 (by omega) ?_)
          intro vb' w2 ob2 hbel2 hfar
          obtain ⟨oz2, fbz2⟩ := hfar _ _ _ _ oz1 FBZ.out
          obtain ⟨oa2, fba2⟩ := hfar _ _ _ _ OA.out FAB1.out.symm
          have OB : Hid (w2.ownsRow w.heap.size 5 1 vb' (k + 1) (byl (xors l l' (k + 1)))) := by rw [HX.out, byl_snoc]; exact ob2
          have OA2 := Lib.hid oa2
          have hsz2 := hbel2.size
          have FBZ2 := Lib.hid fbz2
          have FBA2 := Lib.hid fba2
          clear hfar ob2 ob1 oz1 OA hbel1 FBZ FAB1 fbz2 fba2 hc1' hsz1 oa2
          go_wp2_with (at_builtin; refine wpList_append_one_far rfl (.tmp 43) (.tmp 44) 22 rfl w.heap.size 5 i0 (.int .u8 0) 1 Try.underlying22 hi hz0 hz1 hz2 rfl _ _ _ rfl oz2 _ _ rfl rfl (by unfold maxLen; omega) (by omega) w hbel2 (by omega) ?_)
          intro vz' w3 oz3 hbel3 hfar
          obtain ⟨oa3, fza3⟩ := hfar _ _ _ _ OA2.out FAZ1.out.symm
          obtain ⟨ob3, fzb3⟩ := hfar _ _ _ _ OB.out FBZ2.out.symm
          have OZ : Hid (w3.ownsRow w.heap.size 5 1 vz' (k + 1) (byl (List.replicate (k + 1) 0))) := by rw [HZ.out, byl_snoc]; exact oz3
          have OA3 := Lib.hid oa3
          have OB3 := Lib.hid ob3
          have FZA := Lib.hid fza3
          have FZB := Lib.hid fzb3
          clear hfar oz3 oz2 OA2 OB hbel2 FAZ1 FBZ2 fza3 fzb3 oa3 ob3 hsz2
          go_wp2
          go_roundw
          case rel => exact ⟨k + 1, by omega, by go_num, OA3.out, OB3.out, OZ.out, FBA2.out.symm, FZA.out.symm, FZB.out.symm, hbel3⟩
          case measure => simp [intOf]; omega
      · obtain rfl : n = k := by omega
        have H32 := Lib.hid (crc32_xors l l')
        have H16 := Lib.hid (crc16_xors l l')
        rw [hl] at H32 H16
        obtain ⟨A1, c1, rfl⟩ := own_slice oa
        obtain ⟨A2, c2, rfl⟩ := own_slice ob
        obtain ⟨A3, c3, rfl⟩ := own_slice oz
        have sa := Sl.of_own oa
        have sb := Sl.of_own ob
        have sz := Sl.of_own oz
        replace hs := hs.next hbel
        clear oa ob oz fab faz fbz hs'
        have bp : Byt (pad l' n) := pad_byt hb' n
        have bx : Byt (xors l l' n) := xors_byt hb hb' n
        have bz : Byt (List.replicate n 0) := byt_zeros n
        have e1 := xor32 (crc32 l) (crc32 (pad l' n))
        have e2 := xor32 (crc32 l ^^^ crc32 (pad l' n)) (crc32 (List.replicate n 0))
        have e3 := xor16 (crc16 l) (crc16 (pad l' n))
        have e4 := xor16 (crc16 l ^^^ crc16 (pad l' n)) (crc16 (List.replicate n 0))
        rw [← H32.out] at e2
        rw [← H16.out] at e4
        clear H32 H16
        generalize crc32 l ^^^ crc32 (pad l' n) = Y1 at e1 e2
        generalize crc16 l ^^^ crc16 (pad l' n) = Y2 at e3 e4
        go_wp2_with fail
        refine (crc32_any _ _ _ l _ hs hb).mono ?_
        rintro e wN ⟨rfl, hbN⟩
        replace hs := hs.next hbN
        replace sa := sa.next hbN
        replace sb := sb.next hbN
        replace sz := sz.next hbN
        replace hbel := below_step hbel hbN
        clear hbN
        go_wp2_with fail
        refine (crc32_any _ _ _ (pad l' n) _ sa bp).mono ?_
        rintro e wN ⟨rfl, hbN⟩
        replace hs := hs.next hbN
        replace sa := sa.next hbN
        replace sb := sb.next hbN
        replace sz := sz.next hbN
        replace hbel := below_step hbel hbN
        clear hbN
        go_wp2_with fail
        refine (crc32_any _ _ _ (List.replicate n 0) _ sz bz).mono ?_
        rintro e wN ⟨rfl, hbN⟩
        replace hs := hs.next hbN
        replace sa := sa.next hbN
        replace sb := sb.next hbN
        replace sz := sz.next hbN
        replace hbel := below_step hbel hbN
        clear hbN
        go_wp2_with fail
        refine (crc16_any _ _ _ l _ hs hb).mono ?_
        rintro e wN ⟨rfl, hbN⟩
        replace hs := hs.next hbN
        replace sa := sa.next hbN
        replace sb := sb.next hbN
        replace sz := sz.next hbN
        replace hbel := below_step hbel hbN
        clear hbN
        go_wp2_with fail
        refine (crc16_any _ _ _ (pad l' n) _ sa bp).mono ?_
        rintro e wN ⟨rfl, hbN⟩
        replace sb := sb.next hbN
        replace sz := sz.next hbN
        replace hbel := below_step hbel hbN
        clear hbN
        go_wp2_with fail
        refine (crc16_any _ _ _ (List.replicate n 0) _ sz bz).mono ?_
        rintro e wN ⟨rfl, hbN⟩
        replace sb := sb.next hbN
        replace hbel := below_step hbel hbN
        clear hbN
        go_wp2_with fail
        refine (crc32_any _ _ _ (xors l l' n) _ sb bx).mono ?_
        rintro e wN ⟨rfl, hbN⟩
        replace sb := sb.next hbN
        replace hbel := below_step hbel hbN
        clear hbN
        go_wp2_with fail
        refine (crc16_any _ _ _ (xors l l' n) _ sb bx).mono ?_
        rintro e wN ⟨rfl, hbN⟩
        replace hbel := below_step hbel hbN
        clear hbN
        go_wp2_with fail
        refine (hexit _ hbel).mono ?_
        rintro e w6 ⟨rfl, hb6⟩
        go_wp2
        go_ret
        exact ⟨rfl, hb6⟩
  · go_enter Try.func11, Try.ntmps11
    go_wp2_with fail
    refine (hexit _ (Below.refl _ _)).mono ?_
    rintro e w6 ⟨rfl, hb6⟩
    go_wp2
    go_ret
    exact ⟨rfl, hb6⟩
end Go.Proofs.Ytkpnihapcoiepaa
