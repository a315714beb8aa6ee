/- Order (pure): for how many nodes a node waits. -/
import Derived.Test.YtlbknnafecdakaaGraphM
namespace Go.Proofs.Ytlbknnafecdakaa.Graph
open Go.ChangeShapes Go.WideShapes Go.RowKit Go.Lib
set_option linter.unusedVariables false
set_option maxRecDepth 100000

theorem cnt_same {p : Nat → Bool} {n : Nat} : ∀ {N : Nat}, N ≤ n → (List.range N).countP p = (List.range N).countP (fun a => p a && !(a == n)) := by
  intro N
  induction N with
  | zero => intro _; simp
  | succ N ih =>
    intro h
    rw [List.range_succ, List.countP_append, List.countP_append, ih (by omega)]
    have : (N == n) = false := by simp; omega
    simp [this]
theorem cnt_drop (p : Nat → Bool) (n : Nat) : ∀ {N : Nat}, n < N → (List.range N).countP p = (List.range N).countP (fun a => p a && !(a == n)) + (if p n then 1 else 0) := by
  intro N
  induction N with
  | zero => intro h; omega
  | succ N ih =>
    intro h
    rw [List.range_succ, List.countP_append, List.countP_append]
    rcases Nat.lt_or_eq_of_le (Nat.le_of_lt_succ h) with h1 | rfl
    · rw [ih h1]
      have : (N == n) = false := by simp; omega
      simp [this]
      try (cases p N <;> simp <;> omega)
    · rw [cnt_same (Nat.le_refl _)]
      simp
theorem cnt_le {p : Nat → Bool} {N : Nat} : (List.range N).countP p ≤ N := by
  have := List.countP_le_length (p := p) (l := List.range N)
  simpa using this
/-- Does an arc lead from a to m? -/
def inL (L : Arcs) (a m : Nat) : Bool := L.contains (a, m)
theorem inL_iff {L : Arcs} {a m : Nat} : inL L a m = true ↔ (a, m) ∈ L := by unfold inL; simp
/-- For how many nodes that are not in T m waits. -/
def wcnt (N : Nat) (L : Arcs) (T : List Nat) (m : Nat) : Nat := (List.range N).countP fun a => inL L a m && !T.contains a
def wt (N : Nat) (L : Arcs) (T : List Nat) (m : Nat) : Int := if m ∈ T then -1 else (wcnt N L T m : Int)
theorem wcnt_snoc {N : Nat} {L : Arcs} {T : List Nat} {n m : Nat} (hn : n < N) (hT : n ∉ T) : wcnt N L T m = wcnt N L (T ++ [n]) m + (if inL L n m then 1 else 0) := by
  unfold wcnt
  rw [cnt_drop _ n hn]
  have h1 : (fun a => (inL L a m && !T.contains a) && !(a == n)) = fun a => inL L a m && !(T ++ [n]).contains a := by
    funext a
    simp only [List.contains_eq_mem, List.mem_append, List.mem_singleton, Bool.and_assoc]
    congr 1
    by_cases h1 : a ∈ T <;> by_cases h2 : a = n <;> simp [h1, h2]
  have h2 : (inL L n m && !T.contains n) = inL L n m := by
    have : T.contains n = false := by simp [hT]
    rw [this]; simp
  rw [h1, h2]
theorem wcnt_zero {N : Nat} {L : Arcs} (hok : Ok N L) {T : List Nat} {m : Nat} : wcnt N L T m = 0 ↔ ∀ a, (a, m) ∈ L → a ∈ T := by
  unfold wcnt
  rw [List.countP_eq_zero]
  constructor
  · intro h a ha
    have := h a (List.mem_range.mpr (hok a m ha).1)
    rw [inL_iff.mpr ha] at this
    simpa using this
  · intro h a _
    cases hi : inL L a m with
    | false => simp
    | true => have := h a (inL_iff.mp hi); simp [this]
theorem wt_zero {N : Nat} {L : Arcs} (hok : Ok N L) {T : List Nat} {m : Nat} : wt N L T m = 0 ↔ free L T m := by
  unfold wt free
  by_cases h : m ∈ T
  · rw [if_pos h]; constructor
    · intro h'; omega
    · intro h'; exact absurd h h'.1
  · rw [if_neg h]
    constructor
    · intro h'; exact ⟨h, (wcnt_zero hok).mp (by omega)⟩
    · intro h'; have := (wcnt_zero hok).mpr h'.2; omega
/-- The list of waits. -/
def Wt (N : Nat) (f : Nat → Int) (ws : List Int) : Prop := ws.length = N ∧ ∀ m, m < N → ws[m]? = some (f m)
theorem Wt.set {N : Nat} {f g : Nat → Int} {ws : List Int} (h : Wt N f ws) {n : Nat} {x : Int} (hn : n < N) (hx : g n = x) (ho : ∀ m, m < N → m ≠ n → g m = f m) : Wt N g (ws.set n x) := by
  refine ⟨by rw [List.length_set]; exact h.1, fun m hm => ?_⟩
  by_cases e : m = n
  · subst e; rw [hx]; exact get_set (by rw [h.1]; exact hm)
  · rw [get_other e, h.2 m hm, ho m hm e]
theorem Wt.same {N : Nat} {f g : Nat → Int} {ws : List Int} (h : Wt N f ws) (ho : ∀ m, m < N → g m = f m) : Wt N g ws := ⟨h.1, fun m hm => by rw [h.2 m hm, ho m hm]⟩
theorem Wt.get {N : Nat} {f : Nat → Int} {ws : List Int} (h : Wt N f ws) {m : Nat} (hm : m < N) : ws.getD m 0 = f m := by
  rw [List.getD_eq_getElem?_getD, h.2 m hm]; rfl
/-! ### The index of the first 0 -/
theorem idx_some {N : Nat} {L : Arcs} (hok : Ok N L) {T : List Nat} {ws : List Int} (h : Wt N (wt N L T) ws) {n : Nat} (hn : nxt N L T = some n) : Lib.idxOf (ws.take N) 0 = (n : Int) := by
  obtain ⟨h1, h2, h3⟩ := nxt_some.mp hn
  refine Lib.idxOf_hit ws N n 0 h1 (by rw [h.1]; exact Nat.le_refl _) ?_ fun j hj => ?_
  · rw [h.get h1]; exact (wt_zero hok).mpr h2
  · rw [h.get (by omega)]; exact fun e => h3 j hj ((wt_zero hok).mp e)
theorem idx_none {N : Nat} {L : Arcs} (hok : Ok N L) {T : List Nat} {ws : List Int} (h : Wt N (wt N L T) ws) (hn : nxt N L T = none) : Lib.idxOf (ws.take N) 0 = -1 :=
  Lib.idxOf_miss ws N 0 fun j hj => by rw [h.get hj]; exact fun e => nxt_none.mp hn j hj ((wt_zero hok).mp e)
/-! ### Counting -/
/-- Behind the lists of the nodes below i, and the first j of the list l. -/
def cw (L : Arcs) (i : Nat) (m : Nat) : Nat := (List.range i).countP fun a => inL L a m
def cf (L : Arcs) (i : Nat) (l : List Int) (j : Nat) (m : Nat) : Int := (cw L i m : Int) + (if (m : Int) ∈ l.take j then 1 else 0)
theorem cw_succ {L : Arcs} {i m : Nat} : cw L (i + 1) m = cw L i m + (if inL L i m then 1 else 0) := by
  unfold cw
  rw [List.range_succ, List.countP_append, List.countP_singleton]
theorem asc_apart {l : List Int} (h : Asc l) {j : Nat} {x : Int} (hx : l[j]? = some x) : x ∉ l.take j := by
  intro hm
  obtain ⟨i, hi⟩ := List.mem_iff_getElem?.mp hm
  rw [List.getElem?_take] at hi
  split at hi
  · rename_i hij
    have hjl := lt_of_get hx
    have := List.pairwise_iff_getElem.mp h i j (by omega) hjl hij
    rw [List.getElem?_eq_getElem (by omega)] at hi
    rw [List.getElem?_eq_getElem hjl] at hx
    have h1 := Option.some.inj hi
    have h2 := Option.some.inj hx
    omega
  · cases hi
theorem mem_take_succ {l : List Int} {j : Nat} {x y : Int} (hx : l[j]? = some x) : y ∈ l.take (j + 1) ↔ y ∈ l.take j ∨ y = x := by
  rw [take_snoc_of hx, List.mem_append, List.mem_singleton]
theorem take_other {l : List Int} {j x m : Nat} (hx : l[j]? = some (x : Int)) (hm : m ≠ x) : ((m : Int) ∈ l.take (j + 1)) ↔ ((m : Int) ∈ l.take j) := by
  rw [mem_take_succ hx]
  constructor
  · rintro (h | h)
    · exact h
    · omega
  · exact Or.inl
theorem nor {p q : Prop} (hp : ¬ p) (hq : ¬ q) : ¬ (p ∨ q) := fun h => h.elim hp hq
theorem cf_at {L : Arcs} {i : Nat} {l : List Int} {j m : Nat} (h : Asc l) (hx : l[j]? = some (m : Int)) : cf L i l j m = (cw L i m : Int) ∧ cf L i l (j + 1) m = (cw L i m : Int) + 1 := by
  unfold cf
  rw [if_neg (asc_apart h hx), if_pos ((mem_take_succ hx).mpr (Or.inr rfl))]
  exact ⟨by omega, rfl⟩
theorem cf_other {L : Arcs} {i : Nat} {l : List Int} {j x m : Nat} (hx : l[j]? = some (x : Int)) (hm : m ≠ x) : cf L i l (j + 1) m = cf L i l j m := by
  unfold cf
  have := take_other hx hm
  simp only [this]
theorem cf_start {L : Arcs} {i : Nat} {l : List Int} {m : Nat} : cf L i l 0 m = (cw L i m : Int) := by unfold cf; simp
theorem cf_done {L : Arcs} {i : Nat} {l : List Int} {m : Nat} (hl : ∀ b : Int, b ∈ l ↔ ∃ m : Nat, b = (m : Int) ∧ (i, m) ∈ L) : cf L i l l.length m = (cw L (i + 1) m : Int) := by
  unfold cf
  rw [List.take_length, cw_succ]
  by_cases h : (i, m) ∈ L
  · rw [if_pos ((hl _).mpr ⟨m, rfl, h⟩), if_pos (inL_iff.mpr h)]; omega
  · rw [if_neg (fun h' => by obtain ⟨k, e, hk⟩ := (hl _).mp h'; have : m = k := by omega
                             subst this; exact h hk), if_neg (fun h' => h (inL_iff.mp h'))]; omega
theorem cw_le {L : Arcs} {i m : Nat} : cw L i m ≤ i := cnt_le
theorem cw_wt {N : Nat} {L : Arcs} {m : Nat} : wt N L [] m = (cw L N m : Int) := by
  unfold wt wcnt cw; simp
/-! ### One node less -/
def df (N : Nat) (L : Arcs) (T : List Nat) (n : Nat) (l : List Int) (j m : Nat) : Int := if m ∈ T ∨ m = n then -1 else (wcnt N L T m : Int) - (if (m : Int) ∈ l.take j then 1 else 0)
theorem df_start {N : Nat} {L : Arcs} {T : List Nat} {n m : Nat} {l : List Int} (hm : m ≠ n) : df N L T n l 0 m = wt N L T m := by
  unfold df wt
  by_cases h : m ∈ T
  · rw [if_pos (Or.inl h), if_pos h]
  · rw [if_neg (nor h hm), if_neg h]; simp
theorem df_self {N : Nat} {L : Arcs} {T : List Nat} {n j : Nat} {l : List Int} : df N L T n l j n = -1 := by unfold df; rw [if_pos (Or.inr rfl)]
theorem df_at {N : Nat} {L : Arcs} {T : List Nat} {n j m : Nat} {l : List Int} (h : Asc l) (hx : l[j]? = some (m : Int)) (h1 : m ∉ T) (h2 : m ≠ n) : df N L T n l j m = (wcnt N L T m : Int) ∧ df N L T n l (j + 1) m = (wcnt N L T m : Int) - 1 := by
  unfold df
  rw [if_neg (nor h1 h2), if_neg (nor h1 h2), if_neg (asc_apart h hx), if_pos ((mem_take_succ hx).mpr (Or.inr rfl))]
  exact ⟨by omega, rfl⟩
theorem df_other {N : Nat} {L : Arcs} {T : List Nat} {n j x m : Nat} {l : List Int} (hx : l[j]? = some (x : Int)) (hm : m ≠ x) : df N L T n l (j + 1) m = df N L T n l j m := by
  unfold df
  have := take_other hx hm
  simp only [this]
theorem df_done {N : Nat} {L : Arcs} {T : List Nat} {n m : Nat} {l : List Int} (hn : n < N) (hT : n ∉ T) (hl : ∀ b : Int, b ∈ l ↔ ∃ m : Nat, b = (m : Int) ∧ (n, m) ∈ L) : df N L T n l l.length m = wt N L (T ++ [n]) m := by
  unfold df wt
  rw [List.take_length]
  by_cases h : m ∈ T ∨ m = n
  · rw [if_pos h, if_pos (show m ∈ T ++ [n] by simpa using h)]
  · have h3 : ¬ m ∈ T ++ [n] := by simpa using h
    rw [if_neg h, if_neg h3, wcnt_snoc hn hT]
    by_cases h2 : (n, m) ∈ L
    · rw [if_pos ((hl _).mpr ⟨m, rfl, h2⟩), if_pos (inL_iff.mpr h2)]; omega
    · have h4 : ¬ (m : Int) ∈ l := fun h' => by
        obtain ⟨k, e, hk⟩ := (hl _).mp h'
        have : m = k := by omega
        subst this; exact h2 hk
      have h5 : ¬ inL L n m = true := fun h' => h2 (inL_iff.mp h')
      rw [if_neg h4, if_neg h5]; omega
/-- What n leads to waits still. -/
theorem head_new {N : Nat} {L : Arcs} {T : List Nat} (hT : Top N L T) {n m : Nat} (hf : free L T n) (h : (n, m) ∈ L) : m ∉ T ∧ m ≠ n := by
  constructor
  · intro hm
    obtain ⟨j, hj⟩ := List.mem_iff_getElem?.mp hm
    obtain ⟨i, hi, _⟩ := hT.walk (W.one h) hj
    exact hf.1 (List.mem_of_getElem? hi)
  · rintro rfl
    exact hf.1 (hf.2 m h)
#print axioms idx_some
#print axioms df_done
end Go.Proofs.Ytlbknnafecdakaa.Graph
