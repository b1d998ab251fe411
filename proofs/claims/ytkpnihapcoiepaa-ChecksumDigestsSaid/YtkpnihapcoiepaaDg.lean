/- The state of ChecksumDigests: digests, the bytes that each was given, and what keeps them. -/
import Derived.Test.YtkpnihapcoiepaaLf
import Derived.Test.YtkpnihapcoiepaaKit2
set_option linter.unusedVariables false
namespace Go.Proofs.Ytkpnihapcoiepaa
open Go.RowKit

theorem ptrInfo : (Try.prog.info? 38).map (fun i => (i.zero, i.size, i.bytes)) = some (some (.pointer none), 1, 8) := by kernel_rfl
theorem rowInfo : (Try.prog.info? 22).map (fun i => (i.zero, i.size, i.bytes)) = some (some (.slice none 0 0), 1, 24) := by kernel_rfl

/-- a block that is written to holds cells of type t, or none is written to -/
def Blk (w : World) (row : Option Nat) (t : TypeId) : Prop := ∀ g, row = some g → ∃ cs fr, w.heap[g]? = some (.cells cs t fr)
theorem Blk.none_ (w : World) (t : TypeId) : Blk w none t := fun _ h => by cases h
theorem Blk.own {w : World} {base : Nat} {e : TypeId} {v : Value} {n : Nat} {xs : List Value} (h : w.ownsRow base e 1 v n xs) : Blk w v.ownBlock e := by
  intro g hg
  rcases h.2 with ⟨rfl, _⟩ | ⟨g', cap, cur, rfl, _, hh, _⟩
  · cases hg
  · simp [Value.ownBlock] at hg
    subst hg
    exact ⟨cur, _, hh⟩
theorem Blk.dg {w : World} {g : Nat} {r : BitVec 32} {m : Nat} (h : Dg w g r m) : Blk w (some g) 48 := by
  intro g' hg
  cases hg
  exact ⟨_, _, h⟩
theorem own_keep {w w' : World} {base : Nat} {e t : TypeId} {v : Value} {n : Nat} {xs : List Value} {row : Option Nat} (h : w.ownsRow base e 1 v n xs) (hg : w.grownBy w' row) (hr : Blk w row t) (hne : e ≠ t) : w'.ownsRow base e 1 v n xs := by
  refine h.kept hg ?_
  cases row with
  | none => cases hv : v.ownBlock <;> simp
  | some g =>
    obtain ⟨cs, fr, hb⟩ := hr g rfl
    rcases h.2 with ⟨rfl, _⟩ | ⟨g', cap, cur, rfl, _, hh, _⟩
    · exact .inl rfl
    · refine .inr fun he => ?_
      simp [Value.ownBlock] at he
      subst he
      rw [hh] at hb
      simp at hb
      exact hne hb.2.1
theorem dg_keep {w w' : World} {g : Nat} {r : BitVec 32} {m : Nat} {row : Option Nat} {t : TypeId} (h : Dg w g r m) (hg : w.grownBy w' row) (hr : Blk w row t) (hne : 48 ≠ t) : Dg w' g r m := by
  refine h.keep (hg.block g h.lt ?_)
  rintro rfl
  obtain ⟨cs, fr, hb⟩ := hr g rfl
  unfold Dg at h
  rw [h] at hb
  simp at hb
  exact hne hb.2.1
theorem grown_below {w w' : World} (h : Below w.heap.size w w') : w.grownBy w' none := ⟨h.os, h.tape, h.output, h.size, fun i hi _ => h.block i hi⟩

/-- the digests: a pointer each -/
def PA (w : World) (base : Nat) (va : Value) (D : List (Nat × List Nat)) : Prop := w.ownsRow base 38 1 va D.length (D.map fun d => .pointer (some ⟨d.1, 0, none⟩))
/-- the bytes: a slice each -/
def PV (w : World) (base : Nat) (vb : Value) (V : List (Option Addr × Nat × List Nat)) : Prop := w.ownsRow base 22 1 vb V.length (V.map fun v => .slice v.1 v.2.2.length v.2.1)
/-- each digest has the register of what it was given -/
def PD (w : World) (base : Nat) (D : List (Nat × List Nat)) : Prop := (∀ d ∈ D, Dg w d.1 (f32 ones32 d.2) d.2.length ∧ base ≤ d.1) ∧ (D.map (·.1)).Nodup
/-- each slice reads as the bytes -/
def PB (w : World) (base : Nat) (V : List (Option Addr × Nat × List Nat)) : Prop := ∀ v ∈ V, w.ownsRow base 5 1 (.slice v.1 v.2.2.length v.2.1) v.2.2.length (byl v.2.2) ∧ Byt v.2.2

theorem PD.keep {w w' : World} {base : Nat} {D : List (Nat × List Nat)} {row : Option Nat} {t : TypeId} (h : PD w base D) (hg : w.grownBy w' row) (hr : Blk w row t) (hne : 48 ≠ t) : PD w' base D :=
  ⟨fun d hd => ⟨dg_keep (h.1 d hd).1 hg hr hne, (h.1 d hd).2⟩, h.2⟩
theorem PB.keep {w w' : World} {base : Nat} {V : List (Option Addr × Nat × List Nat)} {row : Option Nat} {t : TypeId} (h : PB w base V) (hg : w.grownBy w' row) (hr : Blk w row t) (hne : 5 ≠ t) : PB w' base V :=
  fun v hv => ⟨own_keep (h v hv).1 hg hr hne, (h v hv).2⟩
theorem PA.keep {w w' : World} {base : Nat} {va : Value} {D : List (Nat × List Nat)} {row : Option Nat} {t : TypeId} (h : PA w base va D) (hg : w.grownBy w' row) (hr : Blk w row t) (hne : 38 ≠ t) : PA w' base va D := own_keep h hg hr hne
theorem PV.keep {w w' : World} {base : Nat} {vb : Value} {V : List (Option Addr × Nat × List Nat)} {row : Option Nat} {t : TypeId} (h : PV w base vb V) (hg : w.grownBy w' row) (hr : Blk w row t) (hne : 22 ≠ t) : PV w' base vb V := own_keep h hg hr hne

/-- all four -/
structure St (w : World) (base : Nat) (va vb : Value) (D : List (Nat × List Nat)) (V : List (Option Addr × Nat × List Nat)) : Prop where
  a : PA w base va D
  v : PV w base vb V
  d : PD w base D
  b : PB w base V
theorem St.next {w w' : World} {base : Nat} {va vb : Value} {D : List (Nat × List Nat)} {V : List (Option Addr × Nat × List Nat)} (h : St w base va vb D V) (hb : Below w.heap.size w w') : St w' base va vb D V :=
  ⟨h.a.keep (grown_below hb) (Blk.none_ w 0) (by decide), h.v.keep (grown_below hb) (Blk.none_ w 0) (by decide), h.d.keep (grown_below hb) (Blk.none_ w 0) (by decide), h.b.keep (grown_below hb) (Blk.none_ w 0) (by decide)⟩

theorem nodup_get {D : List (Nat × List Nat)} (h : (D.map (·.1)).Nodup) {i j : Nat} (hi : i < D.length) (hj : j < D.length) (hne : i ≠ j) : D[i].1 ≠ D[j].1 := by
  intro e
  have hp := List.pairwise_iff_getElem.1 h
  rcases Nat.lt_or_gt_of_ne hne with hh | hh
  · exact hp i j (by simpa using hi) (by simpa using hj) hh (by simpa using e)
  · exact hp j i (by simpa using hj) (by simpa using hi) hh (by simpa using e.symm)

/-- behind a call of Write on digest k -/
theorem St.write {w w' : World} {base : Nat} {va vb : Value} {D : List (Nat × List Nat)} {V : List (Option Addr × Nat × List Nat)} (h : St w base va vb D V) {k : Nat} (hk : k < D.length) (P : List Nat)
    (hd : Dg w' D[k].1 (f32 (f32 ones32 D[k].2) P) (D[k].2.length + P.length)) (hg : w.grownBy w' (some D[k].1)) : St w' base va vb (D.set k (D[k].1, D[k].2 ++ P)) V := by
  have hb := Blk.dg (h.d.1 D[k] (List.getElem_mem hk)).1
  refine ⟨?_, h.v.keep hg hb (by decide), ⟨?_, ?_⟩, h.b.keep hg hb (by decide)⟩
  · have ha := h.a.keep hg hb (by decide)
    unfold PA at *
    rw [List.length_set, show (D.set k (D[k].1, D[k].2 ++ P)).map (fun d => Value.pointer (some ⟨d.1, 0, none⟩)) = D.map (fun d => Value.pointer (some ⟨d.1, 0, none⟩)) by
      apply List.ext_getElem (by simp)
      intro i h1 h2
      simp only [List.getElem_map, List.getElem_set]
      split
      · subst_vars; rfl
      · rfl]
    exact ha
  · intro d hd2
    obtain ⟨i, hi, rfl⟩ := List.getElem_of_mem hd2
    rw [List.getElem_set]
    have hi' : i < D.length := by simpa using hi
    split
    · refine ⟨?_, (h.d.1 D[k] (List.getElem_mem hk)).2⟩
      rw [List.length_append, f32_append]
      exact hd
    · rename_i hne
      obtain ⟨k1, k2⟩ := h.d.1 D[i] (List.getElem_mem hi')
      refine ⟨k1.keep (hg.block _ k1.lt ?_), k2⟩
      intro e
      exact nodup_get h.d.2 hi' hk (fun e => hne e.symm) (by simpa using e)
  · rw [show (D.set k (D[k].1, D[k].2 ++ P)).map (·.1) = D.map (·.1) by
      apply List.ext_getElem (by simp)
      intro i h1 h2
      simp only [List.getElem_map, List.getElem_set]
      split
      · subst_vars; rfl
      · rfl]
    exact h.d.2

/-- behind the store of new bytes at place k -/
theorem St.store {w : World} {base g cap : Nat} {va : Value} {D : List (Nat × List Nat)} {V : List (Option Addr × Nat × List Nat)} (h : St w base va (.slice (some ⟨g, 0, none⟩) V.length cap) D V) {k : Nat} (hk : k < V.length)
    (A : Option Addr) (c : Nat) (L : List Nat) (ho : w.ownsRow base 5 1 (.slice A L.length c) L.length (byl L)) (hL : Byt L) :
    St (w.setCell ⟨g, k, none⟩ (.slice A L.length c)) base va (.slice (some ⟨g, 0, none⟩) V.length cap) D (V.set k (A, c, L)) := by
  have hs := World.ownsRow.stored h.v k (.slice A L.length c)
  have hb : Blk w (some g) 22 := Blk.own h.v
  refine ⟨h.a.keep hs.2 hb (by decide), ?_, h.d.keep hs.2 hb (by decide), fun v hv => ?_⟩
  · unfold PV
    rw [List.length_set, show (V.set k (A, c, L)).map (fun v => Value.slice v.1 v.2.2.length v.2.1) = (V.map fun v => Value.slice v.1 v.2.2.length v.2.1).set k (.slice A L.length c) by rw [List.map_set]]
    exact hs.1
  · rcases List.mem_or_eq_of_mem_set hv with hv | rfl
    · exact ⟨own_keep (h.b v hv).1 hs.2 hb (by decide), (h.b v hv).2⟩
    · exact ⟨own_keep ho hs.2 hb (by decide), hL⟩

/-- behind the append of a new digest -/
theorem St.addD {w w' : World} {base : Nat} {va va' vb : Value} {D : List (Nat × List Nat)} {V : List (Option Addr × Nat × List Nat)} (h : St w base va vb D V) {g : Nat} (R : List Nat) (hd : Dg w g (f32 ones32 R) R.length) (hb : base ≤ g)
    (hf : ∀ d ∈ D, d.1 ≠ g) (ho : w'.ownsRow base 38 1 va' (D.length + 1) ((D.map fun d => .pointer (some ⟨d.1, 0, none⟩)) ++ [.pointer (some ⟨g, 0, none⟩)])) (hg : w.grownBy w' va.ownBlock) : St w' base va' vb (D ++ [(g, R)]) V := by
  have hr := Blk.own h.a
  refine ⟨?_, h.v.keep hg hr (by decide), ⟨fun d hd2 => ?_, ?_⟩, h.b.keep hg hr (by decide)⟩
  · unfold PA
    simpa using ho
  · rcases List.mem_append.1 hd2 with hd2 | hd2
    · exact ⟨dg_keep (h.d.1 d hd2).1 hg hr (by decide), (h.d.1 d hd2).2⟩
    · simp at hd2
      subst hd2
      exact ⟨dg_keep hd hg hr (by decide), hb⟩
  · rw [List.map_append, List.nodup_append]
    refine ⟨h.d.2, by simp, fun a ha b hb2 => ?_⟩
    obtain ⟨d, hd2, rfl⟩ := List.mem_map.1 ha
    simp at hb2
    subst hb2
    exact hf d hd2
/-- behind the append of a slice that is there already -/
theorem St.addV {w w' : World} {base : Nat} {va vb vb' : Value} {D : List (Nat × List Nat)} {V : List (Option Addr × Nat × List Nat)} (h : St w base va vb D V) {x : Option Addr × Nat × List Nat} (hx : x ∈ V)
    (ho : w'.ownsRow base 22 1 vb' (V.length + 1) ((V.map fun v => .slice v.1 v.2.2.length v.2.1) ++ [.slice x.1 x.2.2.length x.2.1])) (hg : w.grownBy w' vb.ownBlock) : St w' base va vb' D (V ++ [x]) := by
  have hr := Blk.own h.v
  refine ⟨h.a.keep hg hr (by decide), ?_, h.d.keep hg hr (by decide), fun v hv => ?_⟩
  · unfold PV
    simpa using ho
  · rcases List.mem_append.1 hv with hv | hv
    · exact ⟨own_keep (h.b v hv).1 hg hr (by decide), (h.b v hv).2⟩
    · simp at hv
      subst hv
      exact ⟨own_keep (h.b v hx).1 hg hr (by decide), (h.b v hx).2⟩

/-- one call of the law's list -/
structure OpV where
  kind : Int
  on : Int
  A : Option Addr
  c : Nat
  P : List Nat
/-- the law's list, as it came in -/
structure OpsIn (w : World) (B : Nat) (A : Option Addr) (n c : Nat) (ops : List OpV) : Prop where
  len : ops.length = n
  le : n ≤ c
  max : c ≤ maxLen
  read : 0 < n → ∃ b off, A = some ⟨b, off, none⟩ ∧ b < B ∧ ∀ j (hj : j < ops.length), w.cell? ⟨b, off + j * 3, none⟩ = some (.int .u8 ops[j].kind) ∧ w.cell? ⟨b, off + j * 3 + 1, none⟩ = some (.int .u8 ops[j].on) ∧
    w.cell? ⟨b, off + j * 3 + 2, none⟩ = some (.slice ops[j].A ops[j].P.length ops[j].c)
  each : ∀ o ∈ ops, (0 ≤ o.kind ∧ o.kind ≤ 255) ∧ (0 ≤ o.on ∧ o.on ≤ 255) ∧ Sl w B o.A o.P.length o.c (byl o.P) ∧ Byt o.P
theorem OpsIn.below {w w' : World} {B : Nat} {A : Option Addr} {n c : Nat} {ops : List OpV} (h : OpsIn w B A n c ops) (hb : Below B w w') : OpsIn w' B A n c ops :=
  ⟨h.len, h.le, h.max, fun hn => by
    obtain ⟨b, off, e, hbB, hc⟩ := h.read hn
    refine ⟨b, off, e, hbB, fun j hj => ?_⟩
    obtain ⟨k1, k2, k3⟩ := hc j hj
    exact ⟨(hb.cell (p := ⟨b, off + j * 3, none⟩) hbB).trans k1, (hb.cell (p := ⟨b, off + j * 3 + 1, none⟩) hbB).trans k2, (hb.cell (p := ⟨b, off + j * 3 + 2, none⟩) hbB).trans k3⟩,
   fun o ho => ⟨(h.each o ho).1, (h.each o ho).2.1, (h.each o ho).2.2.1.below hb, (h.each o ho).2.2.2⟩⟩

theorem retB {a b : Bool} (h : a = b) : Ending.returned (.bool a) = .returned (.bool b) := by rw [h]
def isLight (ops : List OpV) : Bool := decide (ops.length ≤ 30) && ops.all fun o => decide (o.P.length ≤ 100)
set_option maxRecDepth 100000 in
theorem light_any (A : Option Addr) (n c B : Nat) (ops : List OpV) (w : World) (h : OpsIn w B A n c ops) :
    Calls Try.prog 23 #[.slice A n c] w fun e w' => e = .returned (.bool (isLight ops)) ∧ w = w' := by
  have hmax := h.max
  have hle := h.le
  have hlen := Lib.hid h.len
  unfold maxLen at hmax
  by_cases hn : 30 < n
  · have hr : Hid (isLight ops = false) := by
      show isLight ops = false
      have : ¬ ops.length ≤ 30 := by have := hlen.out; omega
      simp [isLight, this]
    go_enter Try.func23, Try.ntmps23
    go_wp2
    go_ret
    exact ⟨retB hr.out.symm, rfl⟩
  · have hr : Hid (isLight ops = ops.all fun o => decide (o.P.length ≤ 100)) := by
      show isLight ops = _
      have : ops.length ≤ 30 := by have := hlen.out; omega
      simp [isLight, this]
    go_enter Try.func23, Try.ntmps23
    go_wp2
    go_loop [3] (fun i => ∃ k : Nat, k ≤ n ∧ i = .int .i64 k ∧ Hid (∀ j (hj : j < ops.length), j < k → ops[j].P.length ≤ 100)) (fun i => n - (intOf i).toNat)
    case atStart => exact ⟨0, Nat.zero_le _, rfl, fun j _ hj => absurd hj (by omega)⟩
    case round =>
      obtain ⟨k, hk, rfl, hall⟩ := hrel
      by_cases hlt : k < n
      · obtain ⟨b, off, rfl, hbB, hc⟩ := h.read (by omega)
        have hkl : k < ops.length := by have := hlen.out; omega
        have hc3 := (hc k hkl).2.2
        have HC := Lib.hid hc
        clear hc
        by_cases hsm : ops[k].P.length ≤ 100
        · have HA : Hid (∀ j (hj : j < ops.length), j < k + 1 → ops[j].P.length ≤ 100) := fun j hj hjk => by
            by_cases e : j = k
            · subst e; exact hsm
            · exact hall.out j hj (by omega)
          generalize ops[k].P.length = m at *
          go_wp2
          go_round
          case rel => exact ⟨k + 1, by omega, by go_num, HA⟩
          case measure => simp [intOf]; omega
        · have HR : Hid ((ops.all fun o => decide (o.P.length ≤ 100)) = false) := by
            show (ops.all fun o => decide (o.P.length ≤ 100)) = false
            rw [List.all_eq_false]
            exact ⟨ops[k], List.getElem_mem _, by simpa using hsm⟩
          generalize ops[k].P.length = m at *
          go_wp2
          go_ret
          exact ⟨retB (by rw [hr.out, HR.out]), rfl⟩
      · have HR : Hid ((ops.all fun o => decide (o.P.length ≤ 100)) = true) := by
          show (ops.all fun o => decide (o.P.length ≤ 100)) = true
          rw [List.all_eq_true]
          intro o ho
          obtain ⟨j, hj, rfl⟩ := List.getElem_of_mem ho
          simpa using hall.out j hj (by have := hlen.out; omega)
        go_wp2
        go_ret
        exact ⟨retB (by rw [hr.out, HR.out]), rfl⟩
end Go.Proofs.Ytkpnihapcoiepaa
