/- Thin: what holds at the loop's head (pure, and the row of marks). -/
import Derived.Test.YtkbnhmgladkojaaAlignQ
import Derived.Test.YtkbnhmgladkojaaRowD
namespace Go.Proofs.Ytkbnhmgladkojaa.Align
open Go.ChangeShapes Go.WideShapes Go.RowKit Go.Lib Go.Proofs.Ytkbnhmgladkojaa.Rw
set_option linter.unusedVariables false
set_option maxRecDepth 100000

abbrev TM : TypeId := 41
theorem info_parts {T : TypeId} {zz : Option Value} {s b : Nat} (h : (Try.prog.info? T).map (fun i => (i.zero, i.size, i.bytes)) = some (zz, s, b)) : ∃ i, Try.prog.info? T = some i ∧ i.zero = zz ∧ i.size = s ∧ i.bytes = b := by
  cases hi : Try.prog.info? T with
  | none => rw [hi] at h; cases h
  | some i => rw [hi] at h; simp at h; exact ⟨i, rfl, h.1, h.2.1, h.2.2⟩
theorem info_m : (Try.prog.info? TM).map (fun i => (i.zero, i.size, i.bytes)) = some (some (.agg #[.int .i64 0, .int .i64 0]), 2, 16) := by kernel_rfl
theorem kdM : Kd cM 2 22 TM := by
  obtain ⟨i, h1, h2, h3, h4⟩ := info_parts info_m
  exact ⟨Try.underlying22, ⟨i, _, _, h1, h2, h3, rfl, rfl, by rw [h4]; decide⟩, cM_len, by decide, fun z u hu => by
    simp at hu
    rcases hu with h | h <;> subst h <;> rfl⟩
theorem row_lit {B : Nat} (w : World) (m : Mk) (hB : B ≤ w.heap.size) : Row cM 2 TM B (w.alloc (.cells #[.int .i64 m.1, .int .i64 m.2] TM)) (.slice (some ⟨w.heap.size, 0, none⟩) 1 1) [m] :=
  World.ownsRow_lit (base := B) (e := TM) (size := 2) w #[.int .i64 m.1, .int .i64 m.2] 1 hB (by unfold maxLen; omega) (by simp)

theorem row_lit_at {B k : Nat} (w : World) (m : Mk) (hk : w.heap.size = k) (hB : B ≤ k) : Row cM 2 TM B (w.alloc (.cells #[.int .i64 m.1, .int .i64 m.2] 41)) (.slice (some ⟨k, 0, none⟩) 1 1) [m] := by
  subst hk; exact row_lit w m hB
/-- Places grow. -/
theorem Ac.aft {L : List Mk} {m q : Mk} {N : Nat} (h : Ac L m q N) {j : Nat} {p : Mk} (hp : L[j]? = some p) : ∀ {i : Nat} {x : Mk}, j < i → L[i]? = some x → Aft p x := by
  intro i
  induction i with
  | zero => intro x hj; omega
  | succ i ih =>
    intro x hj hx
    obtain ⟨y, hy⟩ := get_lt (L := L) (k := i) (by have := glt hx; omega)
    have hyx := h.pair i y x hy hx
    rcases Nat.lt_or_eq_of_le (Nat.le_of_lt_succ hj) with h1 | h1
    · exact (ih h1 hy).trans hyx
    · subst h1; rw [hp] at hy; cases hy; exact hyx
theorem Ac.way {L : List Mk} {m q : Mk} {N : Nat} (h : Ac L m q N) {j k : Nat} {p x n : Mk} (hp : L[j]? = some p) (hj : j ≤ k) (hx : L[k + 1]? = some x) (hn : L[k + 1 + 1]? = some n) : Way p x n :=
  ⟨⟨h.aft hp (by omega) hx, h.pair (k + 1) x n hx hn⟩, ⟨(h.at_ hp).1, (h.at_ hp).2.2.1⟩, (h.at_ hn).2.1, (h.at_ hn).2.2.2⟩
/-- The marks S are kept of those up to place k, the last one p; T: what is kept in all. -/
structure Kep (L T : List Mk) (k : Nat) (p : Mk) (S : List Mk) : Prop where
  all : S ++ thn p (L.drop (k + 1)) = T
  last : ∃ R, S = R ++ [p]
  len : S.length ≤ k + 1
  at_ : ∃ j, j ≤ k ∧ L[j]? = some p
theorem drop_cons {L : List Mk} {k : Nat} {x : Mk} (h : L[k]? = some x) : L.drop k = x :: L.drop (k + 1) := by
  obtain ⟨hl, rfl⟩ := List.getElem?_eq_some_iff.mp h
  exact List.drop_eq_getElem_cons hl
theorem Kep.start {L : List Mk} (hz : chkA L = 0) {m q : Mk} {N : Nat} (h : Ac L m q N) : Kep L (thnV L) 0 m [m] := by
  refine ⟨?_, ⟨[], rfl⟩, Nat.le_refl _, ⟨0, Nat.le_refl _, h.fst⟩⟩
  obtain ⟨m', r, rfl, hv⟩ := Va.of hz
  obtain rfl : m' = m := h.fs
  unfold thnV
  rw [if_pos hz]
  rfl
theorem Kep.skip {L T : List Mk} {k : Nat} {p x n : Mk} {S : List Mk} (h : Kep L T k p S) (hx : L[k + 1]? = some x) (hn : L[k + 1 + 1]? = some n) (hl : lin p x n = true) : Kep L T (k + 1) p S := by
  refine ⟨?_, h.last, Nat.le_trans h.len (by omega), ?_⟩
  · have := h.all
    rw [drop_cons hx, drop_cons hn, thn, if_pos hl, ← drop_cons hn] at this
    exact this
  · obtain ⟨j, hj, hp⟩ := h.at_
    exact ⟨j, by omega, hp⟩
theorem Kep.keep {L T : List Mk} {k : Nat} {p x n : Mk} {S : List Mk} (h : Kep L T k p S) (hx : L[k + 1]? = some x) (hn : L[k + 1 + 1]? = some n) (hl : lin p x n = false) : Kep L T (k + 1) x (S ++ [x]) := by
  refine ⟨?_, ⟨S, rfl⟩, by rw [List.length_append]; have := h.len; simp; omega, ⟨k + 1, Nat.le_refl _, hx⟩⟩
  have := h.all
  rw [drop_cons hx, drop_cons hn, thn, if_neg (by rw [hl]; decide), ← drop_cons hn] at this
  rw [List.append_assoc]
  exact this
theorem Kep.last_ {L T : List Mk} {k : Nat} {p x : Mk} {S : List Mk} (h : Kep L T k p S) (hx : L[k + 1]? = some x) (hN : L.length = k + 1 + 1) : S ++ [x] = T ∧ Kep L T (k + 1) x (S ++ [x]) := by
  have h2 : L.drop (k + 1 + 1) = [] := List.drop_eq_nil_of_le (by omega)
  have e : S ++ [x] = T := by
    have := h.all
    rw [drop_cons hx, h2] at this
    exact this
  refine ⟨e, ?_, ⟨S, rfl⟩, by rw [List.length_append]; have := h.len; simp; omega, ⟨k + 1, Nat.le_refl _, hx⟩⟩
  rw [h2]
  simp [thn, e]
theorem thnV_bad {L : List Mk} (hz : ¬ chkA L = 0) : thnV L = [] := if_neg hz
theorem thnV_len (L : List Mk) : (thnV L).length ≤ L.length := by
  unfold thnV
  split
  · split
    · simp
    · have := thn_len
      simp only [List.length_cons]
      have := thn_len (by assumption) (by assumption)
      omega
  · simp
/-- A list of marks and an error. -/
def ThnR (T : List Mk) (E : Int) (w : World) (e : Ending) (w' : World) : Prop :=
  ∃ A c, e = .returned (.tuple #[.slice A T.length c, .int .i64 E]) ∧ T.length ≤ c ∧ Mks w' A T ∧ Below w.heap.size w w'
#print axioms Kep.last_
end Go.Proofs.Ytkbnhmgladkojaa.Align
