/- galois: a polynomial over a field has no more roots than its degree. -/
import Derived.Test.YtjbaleadahefoaaDoorPh
set_option linter.unusedVariables false
set_option linter.unusedSectionVars false
namespace Go.Proofs.YtjbaleadahefoaaDoor

/-- a polynomial's value: the least coefficient first -/
def ev (T P : Nat → Nat → Nat) (x : Nat) : List Nat → Nat
  | [] => 0
  | c :: l => P c (T x (ev T P x l))
/-- divided by X - r -/
def qt (T P : Nat → Nat → Nat) (r : Nat) : List Nat → List Nat
  | [] => []
  | [_] => []
  | _ :: d :: l => ev T P r (d :: l) :: qt T P r (d :: l)
namespace Fld
variable {N : Nat} {T P M : Nat → Nat → Nat} (F : Fld N T P M)
include F
theorem ev_lt {x : Nat} (hx : x < N) : ∀ l : List Nat, (∀ c ∈ l, c < N) → ev T P x l < N
  | [], _ => by have := F.n2; simp [ev]; omega
  | c :: l, h => F.plt (h c (by simp)) (F.lt hx (ev_lt hx l fun d hd => h d (by simp [hd])))
theorem qt_lt {r : Nat} (hr : r < N) : ∀ l : List Nat, (∀ c ∈ l, c < N) → ∀ c ∈ qt T P r l, c < N
  | [], _, c, hc => by simp [qt] at hc
  | [_], _, c, hc => by simp [qt] at hc
  | _ :: d :: l, h, c, hc => by
    simp only [qt, List.mem_cons] at hc
    rcases hc with rfl | hc
    · exact F.ev_lt hr _ fun e he => h e (by simp at he ⊢; right; exact he)
    · exact qt_lt hr (d :: l) (fun e he => h e (by simp at he ⊢; right; exact he)) c hc
theorem qt_len (r : Nat) : ∀ l : List Nat, (qt T P r l).length = l.length - 1
  | [] => rfl
  | [_] => rfl
  | _ :: d :: l => by simp only [qt, List.length_cons]; rw [qt_len r (d :: l)]; simp
theorem last_qt {r : Nat} : ∀ l : List Nat, 2 ≤ l.length → l.getLast? = some 1 → (qt T P r l).getLast? = some 1
  | [], h, _ => by simp at h
  | [_], h, _ => by simp at h
  | [c, d], _, h => by
    simp at h
    subst h
    simp only [qt, ev]
    rw [F.zero, F.pzero (by have := F.n2; omega)]
    rfl
  | c :: d :: e :: l, _, h => by
    have h' : (d :: e :: l).getLast? = some 1 := by simpa using h
    have := last_qt (r := r) (d :: e :: l) (by simp) h'
    simp only [qt] at this ⊢
    simpa using this
theorem zero_lt : 0 < N := by have := F.n2; omega
theorem swap4 {a b c d : Nat} (ha : a < N) (hb : b < N) (hc : c < N) (hd : d < N) : P a (P (P b c) d) = P (P a c) (P b d) := by
  rw [F.pcomm hb hc, F.passoc hc hb hd, ← F.passoc ha hc (F.plt hb hd)]
theorem ev_qt {x r : Nat} (hx : x < N) (hr : r < N) : ∀ l : List Nat, (∀ c ∈ l, c < N) → ev T P x l = P (ev T P r l) (T (M x r) (ev T P x (qt T P r l)))
  | [], _ => by simp only [ev, qt]; rw [F.zero, F.pzero F.zero_lt]
  | [c], h => by
    have hc := h c (by simp)
    simp only [ev, qt]
    rw [F.zero, F.zero, F.zero, F.pzero hc, F.pzero hc]
  | c :: d :: l, h => by
    have hc := h c (by simp)
    have hl : ∀ e ∈ d :: l, e < N := fun e he => h e (by simp at he ⊢; right; exact he)
    have ih := ev_qt hx hr (d :: l) hl
    have hA := F.ev_lt hr (d :: l) hl
    have hB := F.ev_lt hx (qt T P r (d :: l)) (F.qt_lt hr _ hl)
    have hu := F.mlt hx hr
    have e1 : ev T P x (c :: d :: l) = P c (T x (ev T P x (d :: l))) := rfl
    have e2 : ev T P r (c :: d :: l) = P c (T r (ev T P r (d :: l))) := rfl
    have e3 : ev T P x (qt T P r (c :: d :: l)) = P (ev T P r (d :: l)) (T x (ev T P x (qt T P r (d :: l)))) := rfl
    rw [e1, e2, e3, ih]
    generalize ev T P r (d :: l) = A at *
    generalize ev T P x (qt T P r (d :: l)) = B at *
    have h1 : T x A = P (T (M x r) A) (T r A) := by
      have h2 : T x A = T (P (M x r) r) A := by rw [F.minus hx hr]
      rw [h2, F.comm (F.plt hu hr) hA, F.distr hA hu hr, F.comm hA hu, F.comm hA hr]
    have h3 : T x (T (M x r) B) = T (M x r) (T x B) := by
      rw [← F.assoc hx hu hB, F.comm hx hu, F.assoc hu hx hB]
    rw [F.distr hx hA (F.lt hu hB), F.distr hu hA (F.lt hx hB), h1, h3]
    exact F.swap4 hc (F.lt hu hA) (F.lt hr hA) (F.lt hu (F.lt hx hB))
theorem m_zero {x r : Nat} (hx : x < N) (hr : r < N) (h : M x r = 0) : x = r := by
  have h1 := F.minus hx hr
  rw [h, F.pcomm F.zero_lt hr, F.pzero hr] at h1
  exact h1.symm
/-- no more roots than the degree -/
theorem roots : ∀ (n : Nat) (l R : List Nat), l.length = n + 1 → l.getLast? = some 1 → (∀ c ∈ l, c < N) → R.Nodup → (∀ x ∈ R, x < N ∧ ev T P x l = 0) → R.length ≤ n
  | n, l, [], _, _, _, _, _ => by simp
  | 0, l, r :: R, hl, h1, _, _, hR => by
    match l, hl with
    | [c], _ =>
      simp at h1
      subst h1
      have h2 := (hR r (by simp)).2
      simp only [ev] at h2
      rw [F.zero, F.pzero (by have := F.n2; omega)] at h2
      omega
  | n + 1, l, r :: R, hl, h1, hc, hn, hR => by
    have hr := hR r (by simp)
    rw [List.nodup_cons] at hn
    have ih := roots n (qt T P r l) R (by rw [F.qt_len, hl]; rfl) (F.last_qt l (by omega) h1) (F.qt_lt hr.1 l hc) hn.2 (fun x hx => by
      have hxr := hR x (by simp [hx])
      refine ⟨hxr.1, ?_⟩
      have h2 := F.ev_qt hxr.1 hr.1 l hc
      have hB := F.ev_lt hxr.1 _ (F.qt_lt hr.1 l hc)
      rw [hxr.2, hr.2, F.pcomm F.zero_lt (F.lt (F.mlt hxr.1 hr.1) hB), F.pzero (F.lt (F.mlt hxr.1 hr.1) hB)] at h2
      rcases Nat.eq_zero_or_pos (ev T P x (qt T P r l)) with h3 | h3
      · exact h3
      · have h4 : M x r ≠ 0 := fun h5 => by
          have := F.m_zero hxr.1 hr.1 h5
          subst this
          exact hn.1 hx
        exact absurd h2.symm (F.toGrp.nz (F.mlt hxr.1 hr.1) hB h4 (by omega)))
    simp
    omega
end Fld
end Go.Proofs.YtjbaleadahefoaaDoor
