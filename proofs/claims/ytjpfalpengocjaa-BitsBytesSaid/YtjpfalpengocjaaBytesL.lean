/- BitsBytes returns true for every bit string, every bytes and every number. -/
import Derived.Test.YtjpfalpengocjaaWd
import Derived.Deep.RegionWith
set_option linter.unusedVariables false
namespace Go.Proofs.Ytjpfalpengocjaa
open Go.RowKit

theorem sl_drew {w : World} {A : Option Addr} {n c : Nat} {xs : List Value} (h : Sl w w.heap.size A n c xs) : Sl w.drew w.drew.heap.size A n c xs := ⟨h.1, h.2, h.3, h.4, h.5⟩

set_option maxHeartbeats 2000000 in
theorem law_bytes (A : Option Addr) (n c : Nat) (l : List Bool) (A' : Option Addr) (n' c' : Nat) (p : List Nat) (z : Int) (w : World) (hs : Sl w w.heap.size A n c (bl l)) (hs' : Sl w w.heap.size A' n' c' (byl p)) (hp : ∀ y ∈ p, y < 256)
    (_ : -9223372036854775808 ≤ z ∧ z ≤ 9223372036854775807) :
    Calls Try.prog 4 #[.slice A n c, .slice A' n' c', .int .i64 z] w fun e w' => e = .returned (.bool true) ∧ Below w.heap.size w w' := by
  have hmax := hs.max
  have hle := hs.le
  have hmax' := hs'.max
  have hle' := hs'.le
  unfold maxLen at hmax hmax'
  by_cases h1 : 2000 < n
  · go_enter Try.func4, Try.ntmps4
    go_wp2_with fail
    refine (alive_any _).mono ?_
    rintro e w2 ⟨rfl, hb2⟩
    go_wp2
    go_ret
    exact ⟨rfl, hb2⟩
  by_cases h2 : 300 < n'
  · go_enter Try.func4, Try.ntmps4
    go_wp2_with fail
    refine (alive_any _).mono ?_
    rintro e w2 ⟨rfl, hb2⟩
    go_wp2
    go_ret
    exact ⟨rfl, hb2⟩
  have hn : n ≤ 1048576 := by omega
  obtain ⟨r, hr⟩ : ∃ r, r = fromBytesS p z := ⟨_, rfl⟩
  have HR := Lib.hid hr
  obtain ⟨q, hq⟩ : ∃ q, q = wds l 8 false (cnt n 8) := ⟨_, rfl⟩
  have HQ := Lib.hid hq
  obtain ⟨t, ht⟩ : ∃ t, t = str q := ⟨_, rfl⟩
  have HT := Lib.hid ht
  have HP := Lib.hid hp
  clear hr hq ht hp
  go_enter Try.func4, Try.ntmps4
  go_wp2_with fail
  refine (fromBytes_any _ _ _ p z _ hs' HP.out).mono ?_
  rw [← HR.out]
  rintro e w2 ⟨A2, c2, rfl, hs2, hB⟩
  replace hs := hs.next hB
  replace hs' := hs'.next hB
  go_wp2_with fail
  refine (rFromBytes_any _ _ _ p z _ hs' HP.out).mono ?_
  rw [← HR.out]
  rintro e w3 ⟨A3, c3, rfl, hs3, hb3⟩
  have hsd := sl_drew (hs.next hb3)
  have hsd2 := sl_drew (hs2.next hb3)
  have hsd3 := sl_drew hs3
  have hBd : Below w.heap.size w w3.drew := (below_step hB hb3).drew
  rw [length_bl] at hsd2 hsd3
  clear hb3 hs hs' hs2 hs3 hB
  have HBY := Lib.hid (show Calls Try.prog 20 #[.slice A n c] w3.drew (Gives1 (byl q) w3.drew) by rw [HQ.out]; exact bytes_any A n c l _ hsd hn)
  have HRB : Hid (∀ W : World, Sl W W.heap.size A n c (bl l) → Calls Try.prog 21 #[.slice A n c] W (Gives1 (byl q) W)) := by
    intro W hW
    rw [HQ.out]; exact rBytes_any A n c l _ hW hn
  have HCV : Hid (∀ (W : World) (B : Nat) (A1 : Option Addr) (n1 c1 : Nat), Sl W B A1 n1 c1 (byl q) → (convert 33 9 (.slice A1 n1 c1)).run Try.prog W = .ok (.string t) W) := by
    intro W B A1 n1 c1 h
    rw [HT.out]
    exact conv_sl q h
  go_wp2
  go_region_with (first
    | (go_at_call 20; refine HBY.out.mono ?_; rintro e w5 ⟨A5, c5, rfl, hs5, hb5⟩; have hcv5 := HCV.out _ _ _ _ _ hs5; have hq5 := hsd.next hb5; have hB5 := hBd.trans (hb5.mono hBd.size); have hs52 := hsd2.next hb5; have hs53 := hsd3.next hb5)
    | (go_at_call 21; refine (HRB.out _ hq5).mono ?_; rintro e w6 ⟨A6, c6, rfl, hs6, hb6⟩; have hcv6 := HCV.out _ _ _ _ _ hs6; have hcv56 := HCV.out _ _ _ _ _ (hs5.next hb6); have hB6 := hB5.trans (hb6.mono hB5.size); have hs62 := hs52.next hb6; have hs63 := hs53.next hb6)
    | (go_at_call 17; refine (same_any _ _ _ _ _ _ r.1 r.1 _ (by rw [length_bl]; exact hs62) (by rw [length_bl]; exact hs63)).mono ?_; rw [beq_self_eq_true r.1]; rintro e w7 ⟨rfl, hb7⟩; have hB7 := hB6.trans (hb7.mono hB6.size))
    | (go_at_call 12; refine (alive_any _).mono ?_; rintro e w8 ⟨rfl, hb8⟩; have hB8 := hB7.trans (hb8.mono hB7.size)))
  all_goals
    go_wp2
    go_ret
    exact ⟨rfl, hB8⟩
end Go.Proofs.Ytjpfalpengocjaa
