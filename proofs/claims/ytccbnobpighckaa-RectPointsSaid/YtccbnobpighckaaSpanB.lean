/- The sweep over the ends of two lists of spans, and the reference's walk over the places where something changes: both lead to the normal form. No walk. -/
import Derived.Test.YtccbnobpighckaaSpanA
namespace Go.Proofs.Ytccbnobpighckaa.Span
set_option linter.unusedVariables false

/-- An end: where, of which list, and by how much the number of spans changes. -/
abbrev En := Int × Int × Int
def endsOf (i : Int) : List Sp → List En
  | [] => []
  | s :: L => (s.1, i, 1) :: (s.2, i, -1) :: endsOf i L
def endsL (a b : List Sp) : List En := endsOf 0 a ++ endsOf 1 b
theorem endsOf_snoc (i : Int) (L : List Sp) (s : Sp) : endsOf i (L ++ [s]) = endsOf i L ++ [(s.1, i, 1), (s.2, i, -1)] := by
  induction L with
  | nil => rfl
  | cons a L ih => simp only [List.cons_append, endsOf, ih]
theorem endsOf_length (i : Int) (L : List Sp) : (endsOf i L).length = 2 * L.length := by
  induction L with
  | nil => rfl
  | cons a L ih => simp only [endsOf, List.length_cons, ih]; omega
theorem endsL_length (a b : List Sp) : (endsL a b).length = 2 * (a.length + b.length) := by
  rw [endsL, List.length_append, endsOf_length, endsOf_length]; omega
theorem endsOf_mem {i : Int} {L : List Sp} {e : En} (h : e ∈ endsOf i L) : ∃ s ∈ L, e = (s.1, i, 1) ∨ e = (s.2, i, -1) := by
  induction L with
  | nil => simp [endsOf] at h
  | cons a L ih =>
    simp only [endsOf, List.mem_cons] at h
    rcases h with h | h | h
    · exact ⟨a, List.mem_cons_self, Or.inl h⟩
    · exact ⟨a, List.mem_cons_self, Or.inr h⟩
    · obtain ⟨s, hs, e⟩ := ih h
      exact ⟨s, List.mem_cons_of_mem _ hs, e⟩
theorem mem_endsOf {i : Int} {L : List Sp} {s : Sp} (h : s ∈ L) : (s.2, i, -1) ∈ endsOf i L := by
  induction L with
  | nil => simp at h
  | cons a L ih =>
    simp only [endsOf, List.mem_cons]
    rcases List.mem_cons.mp h with rfl | h
    · exact Or.inr (Or.inl rfl)
    · exact Or.inr (Or.inr (ih h))

/-- The steps of list i at places up to x; all of them. -/
def cin (i x : Int) : List En → Int
  | [] => 0
  | e :: r => (if e.2.1 = i then (if e.1 ≤ x then e.2.2 else 0) else 0) + cin i x r
def ssum (i : Int) : List En → Int
  | [] => 0
  | e :: r => (if e.2.1 = i then e.2.2 else 0) + ssum i r
theorem cin_append (i x : Int) (A B : List En) : cin i x (A ++ B) = cin i x A + cin i x B := by
  induction A with
  | nil => simp [cin]
  | cons e A ih => simp only [List.cons_append, cin, ih]; omega
theorem ssum_append (i : Int) (A B : List En) : ssum i (A ++ B) = ssum i A + ssum i B := by
  induction A with
  | nil => simp [ssum]
  | cons e A ih => simp only [List.cons_append, ssum, ih]; omega
theorem cin_perm {i x : Int} {A B : List En} (h : A.Perm B) : cin i x A = cin i x B := by
  induction h with
  | nil => rfl
  | cons e h ih => simp only [cin, ih]
  | swap e f l => simp only [cin]; omega
  | trans h k ih1 ih2 => exact ih1.trans ih2
theorem cin_all {i x : Int} {A : List En} (h : ∀ e ∈ A, e.1 ≤ x) : cin i x A = ssum i A := by
  induction A with
  | nil => rfl
  | cons e A ih => simp only [cin, ssum]; rw [ih fun e he => h e (List.mem_cons_of_mem _ he), if_pos (h e List.mem_cons_self)]
theorem cin_none {i x : Int} {A : List En} (h : ∀ e ∈ A, x < e.1) : cin i x A = 0 := by
  induction A with
  | nil => rfl
  | cons e A ih =>
    simp only [cin]
    have := h e List.mem_cons_self
    rw [ih fun e he => h e (List.mem_cons_of_mem _ he), if_neg (show ¬ e.1 ≤ x by omega)]
    split <;> rfl
/-- The number of spans that x is in. -/
def cntS (x : Int) : List Sp → Int
  | [] => 0
  | s :: L => (if inS s x then 1 else 0) + cntS x L
theorem cntS_nonneg (x : Int) (L : List Sp) : 0 ≤ cntS x L := by
  induction L with
  | nil => exact Int.le_refl 0
  | cons s L ih => simp only [cntS]; split <;> omega
theorem cntS_pos (x : Int) (L : List Sp) : decide (0 < cntS x L) = hasB L x := by
  induction L with
  | nil => rfl
  | cons s L ih =>
    have := cntS_nonneg x L
    rw [hasB_cons, ← ih]
    by_cases hi : inS s x = true
    · have e : cntS x (s :: L) = 1 + cntS x L := by rw [cntS, if_pos hi]
      rw [e, hi, Bool.true_or]; exact decide_eq_true (by omega)
    · have e : cntS x (s :: L) = cntS x L := by rw [cntS, if_neg hi, Int.zero_add]
      rw [e, Bool.eq_false_iff.mpr hi, Bool.false_or]
theorem cin_ends {i x : Int} {L : List Sp} (h : ∀ s ∈ L, s.1 ≤ s.2) : cin i x (endsOf i L) = cntS x L := by
  induction L with
  | nil => rfl
  | cons s L ih =>
    have h1 := h s List.mem_cons_self
    simp only [endsOf, cin, cntS]
    rw [ih fun t ht => h t (List.mem_cons_of_mem _ ht)]
    simp only [if_true]
    by_cases hi : inS s x = true
    · have := inS_iff.mp hi
      rw [if_pos hi, if_pos this.1, if_neg (by omega)]; omega
    · have := mt inS_iff.mpr hi
      rw [if_neg hi]
      split <;> split <;> omega
theorem cin_other {i j x : Int} (hij : ¬ j = i) (L : List Sp) : cin i x (endsOf j L) = 0 := by
  induction L with
  | nil => rfl
  | cons s L ih => simp only [endsOf, cin, ih, if_neg hij]; rfl
theorem ssum_bound (i : Int) {A : List En} (h : ∀ e ∈ A, e.2.2 = 1 ∨ e.2.2 = -1) : -(A.length : Int) ≤ ssum i A ∧ ssum i A ≤ A.length := by
  induction A with
  | nil => simp [ssum]
  | cons e A ih =>
    have h1 := h e List.mem_cons_self
    have h2 := ih fun e he => h e (List.mem_cons_of_mem _ he)
    simp only [ssum, List.length_cons]
    split <;> rcases h1 with h1 | h1 <;> omega

/-- E: the ends of a and b in ascending order. -/
structure Swp (a b : List Sp) (E : List En) : Prop where
  perm : E.Perm (endsL a b)
  asc : ∀ (i j : Nat) (e e' : En), i < j → E[i]? = some e → E[j]? = some e' → e.1 ≤ e'.1
  oka : ∀ s ∈ a, 0 ≤ s.1 ∧ s.1 ≤ s.2 ∧ s.2 ≤ 17179869184
  okb : ∀ s ∈ b, 0 ≤ s.1 ∧ s.1 ≤ s.2 ∧ s.2 ≤ 17179869184
section
variable {a b : List Sp} {E : List En}
theorem Swp.len (h : Swp a b E) : E.length = 2 * (a.length + b.length) := by rw [h.perm.length_eq, endsL_length]
theorem Swp.mem (h : Swp a b E) {e : En} (he : e ∈ E) : (0 ≤ e.1 ∧ e.1 ≤ 17179869184) ∧ (e.2.1 = 0 ∨ e.2.1 = 1) ∧ (e.2.2 = 1 ∨ e.2.2 = -1) := by
  have h1 := h.perm.mem_iff.mp he
  rcases List.mem_append.mp h1 with h2 | h2 <;> obtain ⟨s, hs, h3⟩ := endsOf_mem h2
  · have := h.oka s hs
    rcases h3 with rfl | rfl <;> simp <;> omega
  · have := h.okb s hs
    rcases h3 with rfl | rfl <;> simp <;> omega
theorem Swp.at_ (h : Swp a b E) {k : Nat} {e : En} (he : E[k]? = some e) : (0 ≤ e.1 ∧ e.1 ≤ 17179869184) ∧ (e.2.1 = 0 ∨ e.2.1 = 1) ∧ (e.2.2 = 1 ∨ e.2.2 = -1) := h.mem (List.mem_of_getElem? he)
theorem Swp.cin0 (h : Swp a b E) (x : Int) : decide (0 < cin 0 x E) = hasB a x := by
  rw [cin_perm h.perm, endsL, cin_append, cin_ends fun s hs => (h.oka s hs).2.1, cin_other (by decide), Int.add_zero, cntS_pos]
theorem Swp.cin1 (h : Swp a b E) (x : Int) : decide (0 < cin 1 x E) = hasB b x := by
  rw [cin_perm h.perm, endsL, cin_append, cin_ends fun s hs => (h.okb s hs).2.1, cin_other (by decide), Int.zero_add, cntS_pos]
end

/-- The set that 'comb' says. -/
def setF (comb : Bool → Bool → Bool) (a b : List Sp) (x : Int) : Bool := comb (hasB a x) (hasB b x)
/-- The span that may still grow; the empty one at 0 stands for none. -/
def pend (s : Sp) : List Sp := if s = (0, 0) then [] else [s]
theorem pend_zero : pend (0, 0) = [] := rfl
theorem pend_some {s : Sp} (h : s ≠ (0, 0)) : pend s = [s] := if_neg h
theorem pend_lt {s : Sp} (h : s.1 < s.2) : pend s = [s] := pend_some (by rintro rfl; simp at h)
theorem pend_length (s : Sp) : (pend s).length ≤ 1 := by unfold pend; split <;> simp
theorem hasB_pend (s : Sp) (x : Int) : hasB (pend s) x = hasB [s] x := by
  unfold pend; split
  · rename_i h; subst h; simp [hasB, inS]; try omega
  · rfl

/-- What holds ahead of end k. -/
structure Inv (f : Int → Bool) (E : List En) (k : Nat) (l : List Sp) (last : Sp) (p i0 i1 : Int) : Prop where
  in0 : i0 = ssum 0 (E.take k)
  in1 : i1 = ssum 1 (E.take k)
  lo : 0 ≤ p
  hi : p ≤ 17179869184
  past : ∀ (j : Nat) (e : En), j < k → E[j]? = some e → e.1 ≤ p
  next : ∀ (j : Nat) (e : En), k ≤ j → E[j]? = some e → p ≤ e.1
  len : l.length ≤ k
  some_ : (last = (0, 0) ∧ l = []) ∨ last.1 < last.2
  last0 : 0 ≤ last.1
  lastp : last.2 ≤ p
  nrm : Nrm (l ++ pend last)
  set_ : ∀ x, hasB (l ++ [last]) x = (decide (x < p) && f x)
section
variable {comb : Bool → Bool → Bool} {a b : List Sp} {E : List En} {k : Nat} {l : List Sp} {last : Sp} {p i0 i1 : Int}
theorem Swp.start (h : Swp a b E) (hc : comb false false = false) : Inv (setF comb a b) E 0 [] (0, 0) 0 0 0 := by
  refine ⟨rfl, rfl, by omega, by omega, fun j e hj => by omega, fun j e _ he => (h.at_ he).1.1, by simp, Or.inl ⟨rfl, rfl⟩, by decide, by decide, Nrm.nil, fun x => ?_⟩
  have e0 : hasB ([] ++ [((0 : Int), (0 : Int))]) x = false := hasB_false fun s hs => by
    obtain rfl : s = (0, 0) := by simpa using hs
    show ¬ ((0 : Int) ≤ x ∧ x < 0); omega
  rw [e0]
  cases hx : decide (x < 0) with
  | false => rfl
  | true =>
    have hx' := of_decide_eq_true hx
    have e1 : hasB a x = false := hasB_false fun s hs => by have := h.oka s hs; omega
    have e2 : hasB b x = false := hasB_false fun s hs => by have := h.okb s hs; omega
    rw [setF, e1, e2, hc]; rfl
theorem take_next {e : En} (he : E[k]? = some e) : E.take (k + 1) = E.take k ++ [e] := by rw [List.take_add_one, he]; rfl
theorem ssum_next {e : En} (i : Int) (he : E[k]? = some e) : ssum i (E.take (k + 1)) = ssum i (E.take k) + if e.2.1 = i then e.2.2 else 0 := by
  rw [take_next he, ssum_append]; simp [ssum]
/-- The counts between two ends. -/
theorem Inv.cin {f : Int → Bool} (h : Inv f E k l last p i0 i1) {x : Int} (hx : p ≤ x) (hn : ∀ j e, k ≤ j → E[j]? = some e → x < e.1) (i : Int) : cin i x E = ssum i (E.take k) := by
  have hs : E = E.take k ++ E.drop k := (List.take_append_drop k E).symm
  have c : Span.cin i x E = Span.cin i x (E.take k) + Span.cin i x (E.drop k) := by
    rw [← cin_append, List.take_append_drop]
  rw [c, cin_all, cin_none, Int.add_zero]
  · intro e he
    obtain ⟨j, hj⟩ := List.mem_iff_getElem?.mp he
    rw [List.getElem?_drop] at hj
    exact hn _ e (by omega) hj
  · intro e he
    obtain ⟨j, hj⟩ := List.mem_iff_getElem?.mp he
    rw [List.getElem?_take] at hj
    split at hj
    · have := h.past j e (by assumption) hj; omega
    · cases hj
theorem Inv.set_at (hs : Swp a b E) (h : Inv (setF comb a b) E k l last p i0 i1) {x : Int} (hx : p ≤ x) (hn : ∀ j e, k ≤ j → E[j]? = some e → x < e.1) : setF comb a b x = comb (decide (0 < i0)) (decide (0 < i1)) := by
  rw [setF, ← hs.cin0, ← hs.cin1, h.cin hx hn, h.cin hx hn, ← h.in0, ← h.in1]
theorem Inv.next_ (hs : Swp a b E) (h : Inv (setF comb a b) E k l last p i0 i1) {e : En} (he : E[k]? = some e) : ∀ j e', k + 1 ≤ j → E[j]? = some e' → e.1 ≤ e'.1 := fun j e' hj he' => hs.asc k j e e' (by omega) he he'
theorem Inv.between (hs : Swp a b E) (h : Inv (setF comb a b) E k l last p i0 i1) {e : En} (he : E[k]? = some e) {x : Int} (h1 : p ≤ x) (h2 : x < e.1) : setF comb a b x = comb (decide (0 < i0)) (decide (0 < i1)) :=
  h.set_at hs h1 fun j e' hj he' => by
    rcases Nat.lt_or_eq_of_le hj with hj | rfl
    · have := h.next_ hs he j e' hj he'; omega
    · rw [he] at he'; cases he'; exact h2
/-- Between the place and the next end there is nothing. -/
theorem Inv.skip (hs : Swp a b E) (h : Inv (setF comb a b) E k l last p i0 i1) {e : En} (he : E[k]? = some e) (hv : p < e.1 → comb (decide (0 < i0)) (decide (0 < i1)) = false) :
    Inv (setF comb a b) E (k + 1) l last e.1 (i0 + if e.2.1 = 0 then e.2.2 else 0) (i1 + if e.2.1 = 1 then e.2.2 else 0) := by
  have hpe := h.next k e (Nat.le_refl _) he
  refine ⟨by rw [h.in0, ssum_next 0 he], by rw [h.in1, ssum_next 1 he], (hs.at_ he).1.1, (hs.at_ he).1.2, fun j e' hj he' => ?_, h.next_ hs he, Nat.le_succ_of_le h.len, h.some_, h.last0, Int.le_trans h.lastp hpe, h.nrm, fun x => ?_⟩
  · rcases Nat.lt_or_eq_of_le (Nat.le_of_lt_succ hj) with hj | rfl
    · have := h.past j e' hj he'; omega
    · rw [he] at he'; cases he'; exact Int.le_refl _
  · rw [h.set_ x]
    by_cases hx : x < p
    · rw [decide_eq_true hx, decide_eq_true (show x < e.1 by omega)]
    · rw [decide_eq_false hx]
      by_cases hx2 : x < e.1
      · rw [h.between hs he (by omega) hx2, hv (by omega)]; simp
      · rw [decide_eq_false hx2]
/-- A new span begins. -/
theorem Inv.fresh (hs : Swp a b E) (h : Inv (setF comb a b) E k l last p i0 i1) {e : En} (he : E[k]? = some e) (hp : p < e.1) (hv : comb (decide (0 < i0)) (decide (0 < i1)) = true) (hl : last.2 < p) :
    Inv (setF comb a b) E (k + 1) (l ++ pend last) (p, e.1) e.1 (i0 + if e.2.1 = 0 then e.2.2 else 0) (i1 + if e.2.1 = 1 then e.2.2 else 0) := by
  refine ⟨by rw [h.in0, ssum_next 0 he], by rw [h.in1, ssum_next 1 he], (hs.at_ he).1.1, (hs.at_ he).1.2, fun j e' hj he' => ?_, h.next_ hs he, ?_, Or.inr hp, h.lo, Int.le_refl _, ?_, fun x => ?_⟩
  · rcases Nat.lt_or_eq_of_le (Nat.le_of_lt_succ hj) with hj | rfl
    · have := h.past j e' hj he'; omega
    · rw [he] at he'; cases he'; exact Int.le_refl _
  · have := h.len; have := pend_length last; rw [List.length_append]; omega
  · rw [pend_lt (s := (p, e.1)) hp]
    refine h.nrm.snoc hp fun t ht => ?_
    show t.2 < p
    rcases List.mem_append.mp ht with h1 | h1
    · rcases h.some_ with ⟨_, rfl⟩ | h2
      · simp at h1
      · have h3 := h.nrm
        rw [pend_lt h2] at h3
        have := h3.init.2.2 t h1; omega
    · unfold pend at h1
      split at h1
      · simp at h1
      · obtain rfl : t = last := by simpa using h1
        exact hl
  · rw [hasB_append, hasB_append, hasB_pend, ← hasB_append, h.set_ x]
    have hi : hasB [(p, e.1)] x = (decide (p ≤ x) && decide (x < e.1)) := by simp [hasB, inS]
    rw [hi]
    by_cases hx : x < p
    · rw [decide_eq_true hx, decide_eq_true (show x < e.1 by omega), decide_eq_false (show ¬ p ≤ x by omega)]; simp
    · rw [decide_eq_false hx, decide_eq_true (show p ≤ x by omega)]
      by_cases hx2 : x < e.1
      · rw [h.between hs he (by omega) hx2, hv]; simp
      · rw [decide_eq_false hx2]; simp
/-- The last span grows. -/
theorem Inv.grow (hs : Swp a b E) (h : Inv (setF comb a b) E k l last p i0 i1) {e : En} (he : E[k]? = some e) (hp : p < e.1) (hv : comb (decide (0 < i0)) (decide (0 < i1)) = true) (hl : ¬ last.2 < p) :
    Inv (setF comb a b) E (k + 1) l (last.1, e.1) e.1 (i0 + if e.2.1 = 0 then e.2.2 else 0) (i1 + if e.2.1 = 1 then e.2.2 else 0) := by
  have hlp := h.lastp
  have e2 : last.2 = p := by omega
  have h12 : last.1 ≤ last.2 := by
    rcases h.some_ with ⟨rfl, _⟩ | h2
    · decide
    · omega
  refine ⟨by rw [h.in0, ssum_next 0 he], by rw [h.in1, ssum_next 1 he], (hs.at_ he).1.1, (hs.at_ he).1.2, fun j e' hj he' => ?_, h.next_ hs he, Nat.le_succ_of_le h.len, Or.inr (by show last.1 < e.1; omega), h.last0, Int.le_refl _, ?_, fun x => ?_⟩
  · rcases Nat.lt_or_eq_of_le (Nat.le_of_lt_succ hj) with hj | rfl
    · have := h.past j e' hj he'; omega
    · rw [he] at he'; cases he'; exact Int.le_refl _
  · rw [pend_lt (s := (last.1, e.1)) (by show last.1 < e.1; omega)]
    rcases h.some_ with ⟨rfl, rfl⟩ | h2
    · exact Nrm.nil.snoc (by show (0 : Int) < e.1; have : (0 : Int) = p := e2; omega) fun t ht => by simp at ht
    · have h3 := h.nrm
      rw [pend_lt h2] at h3
      exact h3.init.1.snoc (by show last.1 < e.1; omega) fun t ht => h3.init.2.2 t ht
  · have h4 := h.set_ x
    rw [hasB_append] at h4 ⊢
    have hi : hasB [last] x = (decide (last.1 ≤ x) && decide (x < p)) := by rw [← e2]; simp [hasB, inS]
    have hj : hasB [(last.1, e.1)] x = (decide (last.1 ≤ x) && decide (x < e.1)) := by simp [hasB, inS]
    rw [hi] at h4
    rw [hj]
    by_cases hx : x < p
    · rw [decide_eq_true hx] at h4
      rw [decide_eq_true (show x < e.1 by omega)]
      exact h4
    · rw [decide_eq_false hx, Bool.and_false, Bool.or_false, Bool.false_and] at h4
      rw [h4, decide_eq_true (show last.1 ≤ x by omega)]
      by_cases hx2 : x < e.1
      · rw [h.between hs he (by omega) hx2, hv]; simp
      · rw [decide_eq_false hx2]; simp
theorem Inv.done (hs : Swp a b E) (hc : comb false false = false) (h : Inv (setF comb a b) E E.length l last p i0 i1) : IsNf (setF comb a b) (l ++ pend last) ∧ (l ++ pend last).length ≤ E.length + 1 := by
  refine ⟨⟨h.nrm, fun x => ?_⟩, ?_⟩
  · have e1 := h.set_ x
    rw [hasB_append] at e1 ⊢
    rw [hasB_pend, e1]
    by_cases hx : x < p
    · rw [decide_eq_true hx]; rfl
    · rw [decide_eq_false hx]
      have key : ∀ s, (s ∈ a ∨ s ∈ b) → s.2 ≤ p := fun s hs' => by
        have hm : ∃ i : Int, (s.2, i, -1) ∈ E := by
          rcases hs' with h1 | h1
          · exact ⟨0, hs.perm.mem_iff.mpr (List.mem_append_left _ (mem_endsOf h1))⟩
          · exact ⟨1, hs.perm.mem_iff.mpr (List.mem_append_right _ (mem_endsOf h1))⟩
        obtain ⟨i, hm⟩ := hm
        obtain ⟨j, hj⟩ := List.mem_iff_getElem?.mp hm
        have hlt : j < E.length := by
          rcases Nat.lt_or_ge j E.length with h1 | h1
          · exact h1
          · rw [List.getElem?_eq_none h1] at hj; cases hj
        exact h.past j _ hlt hj
      have ea : hasB a x = false := hasB_false fun s hs' => by have := key s (Or.inl hs'); omega
      have eb : hasB b x = false := hasB_false fun s hs' => by have := key s (Or.inr hs'); omega
      rw [setF, ea, eb, hc]; rfl
  · have := h.len; have := pend_length last; rw [List.length_append]; omega
theorem Inv.bounds (hs : Swp a b E) {f : Int → Bool} (h : Inv f E k l last p i0 i1) : -(E.length : Int) ≤ i0 ∧ i0 ≤ E.length ∧ -(E.length : Int) ≤ i1 ∧ i1 ≤ E.length := by
  have hst : ∀ e ∈ E.take k, e.2.2 = 1 ∨ e.2.2 = -1 := fun e he => (hs.mem (List.mem_of_mem_take he)).2.2
  have h0 := ssum_bound 0 hst
  have h1 := ssum_bound 1 hst
  rw [← h.in0] at h0
  rw [← h.in1] at h1
  have : (E.take k).length ≤ E.length := by rw [List.length_take]; omega
  omega
end

/-- A number added to a list of different numbers in ascending order. -/
def withL : List Int → Int → List Int
  | [], n => [n]
  | y :: l, n => if y < n then y :: withL l n else if y = n then y :: l else n :: y :: l
theorem with_split {A B : List Int} {n : Int} (h : ∀ y ∈ A, y < n) : withL (A ++ B) n = A ++ withL B n := by
  induction A with
  | nil => rfl
  | cons y A ih =>
    rw [List.cons_append, withL, if_pos (h y List.mem_cons_self), ih fun z hz => h z (List.mem_cons_of_mem _ hz)]; rfl
theorem mem_with {l : List Int} {n y : Int} : y ∈ withL l n ↔ y ∈ l ∨ y = n := by
  induction l with
  | nil => simp [withL]
  | cons z l ih =>
    unfold withL
    split
    · rw [List.mem_cons, ih, List.mem_cons]; constructor
      · rintro (h | h | h) <;> simp [h]
      · rintro ((h | h) | h) <;> simp [h]
    · split
      · rename_i h; subst h
        rw [List.mem_cons]; constructor
        · exact Or.inl
        · rintro (h | h)
          · exact h
          · exact Or.inl h
      · simp only [List.mem_cons]; constructor
        · rintro (h | h) <;> simp [h]
        · rintro (h | h) <;> simp [h]
theorem asc_with {l : List Int} {n : Int} (h : l.Pairwise (· < ·)) : (withL l n).Pairwise (· < ·) := by
  induction l with
  | nil => exact List.pairwise_singleton _ _
  | cons z l ih =>
    obtain ⟨h1, h2⟩ := List.pairwise_cons.mp h
    unfold withL
    split
    · rename_i hz
      refine List.pairwise_cons.mpr ⟨fun y hy => ?_, ih h2⟩
      rcases mem_with.mp hy with h3 | rfl
      · exact h1 y h3
      · exact hz
    · split
      · exact h
      · rename_i hz1 hz2
        refine List.pairwise_cons.mpr ⟨fun y hy => ?_, h⟩
        rcases List.mem_cons.mp hy with rfl | h3
        · omega
        · have := h1 y h3; omega
theorem with_length (l : List Int) (n : Int) : (withL l n).length ≤ l.length + 1 := by
  induction l with
  | nil => simp [withL]
  | cons z l ih =>
    unfold withL
    split
    · simp only [List.length_cons]; omega
    · split <;> simp
def addE (acc : List Int) (L : List Sp) : List Int := L.foldl (fun acc s => withL (withL acc s.1) s.2) acc
theorem addE_nil (acc : List Int) : addE acc [] = acc := rfl
theorem addE_snoc (acc : List Int) (L : List Sp) (s : Sp) : addE acc (L ++ [s]) = withL (withL (addE acc L) s.1) s.2 := by rw [addE, addE, List.foldl_append]; rfl
theorem addE_mem {acc : List Int} {L : List Sp} {y : Int} : y ∈ addE acc L ↔ y ∈ acc ∨ ∃ s ∈ L, y = s.1 ∨ y = s.2 := by
  induction L generalizing acc with
  | nil => simp [addE_nil]
  | cons s L ih =>
    show y ∈ addE (withL (withL acc s.1) s.2) L ↔ _
    rw [ih, mem_with, mem_with]
    simp only [List.mem_cons]
    constructor
    · rintro (((h | h) | h) | ⟨t, ht, h⟩)
      · exact Or.inl h
      · exact Or.inr ⟨s, Or.inl rfl, Or.inl h⟩
      · exact Or.inr ⟨s, Or.inl rfl, Or.inr h⟩
      · exact Or.inr ⟨t, Or.inr ht, h⟩
    · rintro (h | ⟨t, rfl | ht, h⟩)
      · exact Or.inl (Or.inl (Or.inl h))
      · rcases h with h | h
        · exact Or.inl (Or.inl (Or.inr h))
        · exact Or.inl (Or.inr h)
      · exact Or.inr ⟨t, ht, h⟩
theorem addE_asc {acc : List Int} {L : List Sp} (h : acc.Pairwise (· < ·)) : (addE acc L).Pairwise (· < ·) := by
  induction L generalizing acc with
  | nil => exact h
  | cons s L ih => exact ih (asc_with (asc_with h))
theorem addE_length (acc : List Int) (L : List Sp) : (addE acc L).length ≤ acc.length + 2 * L.length := by
  induction L generalizing acc with
  | nil => exact Nat.le_refl _
  | cons s L ih =>
    have := ih (withL (withL acc s.1) s.2)
    have h1 := with_length (withL acc s.1) s.2
    have h2 := with_length acc s.1
    show (addE (withL (withL acc s.1) s.2) L).length ≤ _
    simp only [List.length_cons]; omega
/-- The places where something changes. -/
def cuts (a b : List Sp) : List Int := addE (addE [] a) b
theorem cuts_asc (a b : List Sp) : (cuts a b).Pairwise (· < ·) := addE_asc (addE_asc List.Pairwise.nil)
theorem cuts_length (a b : List Sp) : (cuts a b).length ≤ 2 * (a.length + b.length) := by
  have h1 := addE_length (addE [] a) b
  have h2 := addE_length [] a
  rw [List.length_nil] at h2
  unfold cuts; omega
theorem cuts_mem {a b : List Sp} {s : Sp} (h : s ∈ a ∨ s ∈ b) : s.1 ∈ cuts a b ∧ s.2 ∈ cuts a b := by
  unfold cuts
  rcases h with h | h
  · exact ⟨addE_mem.mpr (Or.inl (addE_mem.mpr (Or.inr ⟨s, h, Or.inl rfl⟩))), addE_mem.mpr (Or.inl (addE_mem.mpr (Or.inr ⟨s, h, Or.inr rfl⟩)))⟩
  · exact ⟨addE_mem.mpr (Or.inr ⟨s, h, Or.inl rfl⟩), addE_mem.mpr (Or.inr ⟨s, h, Or.inr rfl⟩)⟩
theorem asc_at {C : List Int} (h : C.Pairwise (· < ·)) {i j : Nat} {c d : Int} (hij : i < j) (hc : C[i]? = some c) (hd : C[j]? = some d) : c < d := by
  obtain ⟨h1, e1⟩ := List.getElem?_eq_some_iff.mp hc
  obtain ⟨h2, e2⟩ := List.getElem?_eq_some_iff.mp hd
  rw [← e1, ← e2]
  exact List.pairwise_iff_getElem.mp h i j h1 h2 hij
theorem asc_between {C : List Int} (h : C.Pairwise (· < ·)) {i : Nat} {c d y : Int} (hc : C[i]? = some c) (hd : C[i + 1]? = some d) (hy : y ∈ C) : y ≤ c ∨ d ≤ y := by
  obtain ⟨j, hj⟩ := List.mem_iff_getElem?.mp hy
  rcases Nat.lt_trichotomy j i with h1 | rfl | h1
  · left; have := asc_at h h1 hj hc; omega
  · left; rw [hc] at hj; cases hj; exact Int.le_refl _
  · right
    rcases Nat.lt_or_eq_of_le (Nat.succ_le_of_lt h1) with h2 | h2
    · have := asc_at h h2 hd hj; omega
    · rw [← h2] at hj
      rw [show i + 1 = i.succ from rfl, hj] at hd; cases hd; exact Int.le_refl _
theorem has_between {L : List Sp} {C : List Int} (h : C.Pairwise (· < ·)) (hm : ∀ s ∈ L, s.1 ∈ C ∧ s.2 ∈ C) {i : Nat} {c d x : Int} (hc : C[i]? = some c) (hd : C[i + 1]? = some d) (h1 : c ≤ x) (h2 : x < d) : hasB L x = hasB L c := by
  rw [Bool.eq_iff_iff, hasB_iff, hasB_iff]
  constructor
  · rintro ⟨s, hs, h3, h4⟩
    refine ⟨s, hs, ?_, by omega⟩
    rcases asc_between h hc hd (hm s hs).1 with h5 | h5 <;> omega
  · rintro ⟨s, hs, h3, h4⟩
    refine ⟨s, hs, by omega, ?_⟩
    rcases asc_between h hc hd (hm s hs).2 with h5 | h5 <;> omega
theorem has_first_cut {L : List Sp} {C : List Int} (h : C.Pairwise (· < ·)) (hm : ∀ s ∈ L, s.1 ∈ C ∧ s.2 ∈ C) {c x : Int} (hc : C[0]? = some c) (hx : x < c) : hasB L x = false :=
  hasB_false fun s hs => by
    obtain ⟨j, hj⟩ := List.mem_iff_getElem?.mp (hm s hs).1
    rcases Nat.eq_zero_or_pos j with rfl | h1
    · rw [hc] at hj; cases hj; omega
    · have := asc_at h h1 hc hj; omega
theorem has_last_cut {L : List Sp} {C : List Int} (h : C.Pairwise (· < ·)) (hm : ∀ s ∈ L, s.1 ∈ C ∧ s.2 ∈ C) {i : Nat} {c x : Int} (hc : C[i]? = some c) (hi : C.length ≤ i + 1) (hx : c ≤ x) : hasB L x = false :=
  hasB_false fun s hs => by
    obtain ⟨j, hj⟩ := List.mem_iff_getElem?.mp (hm s hs).2
    have hl : j < C.length := by
      rcases Nat.lt_or_ge j C.length with h1 | h1
      · exact h1
      · rw [List.getElem?_eq_none h1] at hj; cases hj
    rcases Nat.lt_or_eq_of_le (show j ≤ i by omega) with h1 | rfl
    · have := asc_at h h1 hj hc; omega
    · rw [hc] at hj; cases hj; omega

/-- What holds ahead of place i. -/
structure CInv (f : Int → Bool) (C : List Int) (i : Nat) (out : List Sp) : Prop where
  nrm : Nrm out
  len : out.length ≤ i
  upto : ∀ s ∈ out, ∀ c, C[i]? = some c → s.2 ≤ c
  set_ : ∀ x c, C[i]? = some c → hasB out x = (decide (x < c) && f x)
  none_ : C = [] → out = []
section
variable {comb : Bool → Bool → Bool} {a b : List Sp} {i : Nat} {out : List Sp} {c d : Int}
theorem CInv.start (hc : comb false false = false) : CInv (setF comb a b) (cuts a b) 0 [] := by
  refine ⟨Nrm.nil, Nat.le_refl _, fun s hs => by simp at hs, fun x c hx => ?_, fun _ => rfl⟩
  rw [hasB_nil]
  by_cases h : x < c
  · rw [setF, has_first_cut (cuts_asc a b) (fun s hs => cuts_mem (Or.inl hs)) hx h, has_first_cut (cuts_asc a b) (fun s hs => cuts_mem (Or.inr hs)) hx h, hc]; simp
  · rw [decide_eq_false h]; rfl
theorem set_between (hc : (cuts a b)[i]? = some c) (hd : (cuts a b)[i + 1]? = some d) {x : Int} (h1 : c ≤ x) (h2 : x < d) : setF comb a b x = setF comb a b c := by
  rw [setF, setF, has_between (cuts_asc a b) (fun s hs => cuts_mem (Or.inl hs)) hc hd h1 h2, has_between (cuts_asc a b) (fun s hs => cuts_mem (Or.inr hs)) hc hd h1 h2]
theorem CInv.skip (h : CInv (setF comb a b) (cuts a b) i out) (hc : (cuts a b)[i]? = some c) (hd : (cuts a b)[i + 1]? = some d) (hf : setF comb a b c = false) : CInv (setF comb a b) (cuts a b) (i + 1) out := by
  have hcd := asc_at (cuts_asc a b) (Nat.lt_succ_self i) hc hd
  refine ⟨h.nrm, Nat.le_succ_of_le h.len, fun s hs c' hc' => ?_, fun x c' hc' => ?_, h.none_⟩
  · rw [hd] at hc'; cases hc'
    have := h.upto s hs c hc; omega
  · rw [hd] at hc'; cases hc'
    rw [h.set_ x c hc]
    by_cases h1 : x < c
    · rw [decide_eq_true h1, decide_eq_true (show x < d by omega)]
    · rw [decide_eq_false h1]
      by_cases h2 : x < d
      · rw [set_between hc hd (by omega) h2, hf]; simp
      · rw [decide_eq_false h2]
theorem CInv.fresh (h : CInv (setF comb a b) (cuts a b) i out) (hc : (cuts a b)[i]? = some c) (hd : (cuts a b)[i + 1]? = some d) (hf : setF comb a b c = true) (hl : ∀ s, out.getLast? = some s → s.2 ≠ c) : CInv (setF comb a b) (cuts a b) (i + 1) (out ++ [(c, d)]) := by
  have hcd := asc_at (cuts_asc a b) (Nat.lt_succ_self i) hc hd
  refine ⟨h.nrm.snoc hcd fun t ht => ?_, by have := h.len; simp; omega, fun s hs c' hc' => ?_, fun x c' hc' => ?_, fun e => by rw [e] at hc; simp at hc⟩
  · show t.2 < c
    have h1 := h.upto t ht c hc
    rcases List.eq_nil_or_concat out with rfl | ⟨O, s, rfl⟩
    · simp at ht
    · rw [List.concat_eq_append] at h hl ht
      have h2 := hl s (by simp)
      have h3 := h.upto s (by simp) c hc
      rcases List.mem_append.mp ht with h4 | h4
      · have h5 := h.nrm.init.2.2 t h4
        have h6 := h.nrm.init.2.1
        omega
      · obtain rfl : t = s := by simpa using h4
        omega
  · rw [hd] at hc'; cases hc'
    rcases List.mem_append.mp hs with h1 | h1
    · have := h.upto s h1 c hc; omega
    · obtain rfl : s = (c, d) := by simpa using h1
      exact Int.le_refl _
  · rw [hd] at hc'; cases hc'
    rw [hasB_append, h.set_ x c hc, show hasB [(c, d)] x = (decide (c ≤ x) && decide (x < d)) by simp [hasB, inS]]
    by_cases h1 : x < c
    · rw [decide_eq_true h1, decide_eq_true (show x < d by omega), decide_eq_false (show ¬ c ≤ x by omega)]; simp
    · rw [decide_eq_false h1, decide_eq_true (show c ≤ x by omega)]
      by_cases h2 : x < d
      · rw [set_between hc hd (by omega) h2, hf]; simp
      · rw [decide_eq_false h2]; simp
theorem CInv.grow {O : List Sp} {s : Sp} (h : CInv (setF comb a b) (cuts a b) i (O ++ [s])) (hc : (cuts a b)[i]? = some c) (hd : (cuts a b)[i + 1]? = some d) (hf : setF comb a b c = true) (hl : s.2 = c) : CInv (setF comb a b) (cuts a b) (i + 1) (O ++ [(s.1, d)]) := by
  have hcd := asc_at (cuts_asc a b) (Nat.lt_succ_self i) hc hd
  obtain ⟨n1, n2, n3⟩ := h.nrm.init
  refine ⟨n1.snoc (by show s.1 < d; omega) n3, by have := h.len; simp at this ⊢; omega, fun t ht c' hc' => ?_, fun x c' hc' => ?_, fun e => by rw [e] at hc; simp at hc⟩
  · rw [hd] at hc'; cases hc'
    rcases List.mem_append.mp ht with h1 | h1
    · have := h.upto t (List.mem_append_left _ h1) c hc; omega
    · obtain rfl : t = (s.1, d) := by simpa using h1
      exact Int.le_refl _
  · rw [hd] at hc'; cases hc'
    have h4 := h.set_ x c hc
    rw [hasB_append] at h4 ⊢
    rw [show hasB [s] x = (decide (s.1 ≤ x) && decide (x < c)) by rw [← hl]; simp [hasB, inS]] at h4
    rw [show hasB [(s.1, d)] x = (decide (s.1 ≤ x) && decide (x < d)) by simp [hasB, inS]]
    by_cases h1 : x < c
    · rw [decide_eq_true h1] at h4
      rw [decide_eq_true (show x < d by omega)]; exact h4
    · rw [decide_eq_false h1, Bool.and_false, Bool.or_false, Bool.false_and] at h4
      rw [h4, decide_eq_true (show s.1 ≤ x by omega)]
      by_cases h2 : x < d
      · rw [set_between hc hd (by omega) h2, hf]; simp
      · rw [decide_eq_false h2]; simp
theorem CInv.done (hcomb : comb false false = false) (h : CInv (setF comb a b) (cuts a b) i out) (hi : (cuts a b).length ≤ i + 1) (hil : i < (cuts a b).length ∨ (cuts a b) = []) : IsNf (setF comb a b) out := by
  refine ⟨h.nrm, fun x => ?_⟩
  rcases hil with hil | hil
  · have hc : (cuts a b)[i]? = some (cuts a b)[i] := List.getElem?_eq_getElem hil
    rw [h.set_ x _ hc]
    by_cases h1 : x < (cuts a b)[i]
    · rw [decide_eq_true h1]; rfl
    · rw [decide_eq_false h1, setF, has_last_cut (cuts_asc a b) (fun s hs => cuts_mem (Or.inl hs)) hc hi (by omega), has_last_cut (cuts_asc a b) (fun s hs => cuts_mem (Or.inr hs)) hc hi (by omega), hcomb]; rfl
  · have key : ∀ s, ¬ (s ∈ a ∨ s ∈ b) := fun s hs => by have := (cuts_mem hs).1; rw [hil] at this; simp at this
    have ea : hasB a x = false := hasB_false fun s hs => absurd (Or.inl hs) (key s)
    have eb : hasB b x = false := hasB_false fun s hs => absurd (Or.inr hs) (key s)
    rw [h.none_ hil, setF, ea, eb, hcomb]; rfl
end
#print axioms Inv.done
#print axioms CInv.done
end Go.Proofs.Ytccbnobpighckaa.Span
