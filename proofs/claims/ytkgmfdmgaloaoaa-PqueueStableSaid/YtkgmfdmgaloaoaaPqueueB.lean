/- Heaps of entries (pure): what Push and Pop make of a list; what a queue's values are. -/
import Derived.Test.YtkgmfdmgaloaoaaPqueueA
namespace Go.Proofs.Ytkgmfdmgaloaoaa.Pqueue
set_option linter.unusedVariables false

section
variable {α : Type} {lt : α → α → Bool}
/-- The program's test: e leaves ahead of f. -/
def bfr (lt : α → α → Bool) (e f : α × Nat) : Bool := if e.2 < f.2 then !lt f.1 e.1 else lt e.1 f.1
theorem bfr_true (h : Sw lt) {e f : α × Nat} (hn : e.2 ≠ f.2) (hb : bfr lt e f = true) : bef lt e f := by
  unfold bfr at hb
  split at hb
  · rename_i h1
    cases h2 : lt e.1 f.1 with
    | true => exact Or.inl h2
    | false => exact Or.inr ⟨by simpa using hb, h1⟩
  · exact Or.inl hb
theorem bfr_false (h : Sw lt) {e f : α × Nat} (hn : e.2 ≠ f.2) (hb : bfr lt e f = false) : bef lt f e := by
  unfold bfr at hb
  split at hb
  · exact Or.inl (by simpa using hb)
  · cases h2 : lt f.1 e.1 with
    | true => exact Or.inl h2
    | false => exact Or.inr ⟨hb, by omega⟩
theorem glt {β : Type} {L : List β} {k : Nat} {x : β} (h : L[k]? = some x) : k < L.length := by
  rcases Nat.lt_or_ge k L.length with h1 | h1
  · exact h1
  · rw [List.getElem?_eq_none h1] at h; cases h
/-- The value at i, ahead of the others. -/
theorem erase_perm {β : Type} {L : List β} {i : Nat} {x : β} (hx : L[i]? = some x) : L.Perm (x :: L.eraseIdx i) := by
  have hil := glt hx
  rw [List.getElem?_eq_getElem hil] at hx
  have e := Option.some.inj hx
  subst e
  rw [List.eraseIdx_eq_take_drop_succ]
  have hd : L = L.take i ++ L[i] :: L.drop (i + 1) := by rw [← List.drop_eq_getElem_cons hil, List.take_append_drop]
  conv => lhs; rw [hd]
  exact List.perm_middle
/-- x at i, y at k, exchanged. -/
def ex2 (L : List α) (i k : Nat) (x y : α) : List α := (L.set i y).set k x
theorem ex2_len (L : List α) (i k : Nat) (x y : α) : (ex2 L i k x y).length = L.length := by simp [ex2]
theorem ex2_fst {L : List α} {i k : Nat} {x y : α} (hi : L[i]? = some x) (hn : i ≠ k) : (ex2 L i k x y)[i]? = some y := by
  have := glt hi
  unfold ex2
  rw [List.getElem?_set_ne (by omega), List.getElem?_set_self (by omega)]
theorem ex2_snd {L : List α} {i k : Nat} {x y : α} (hk : L[k]? = some y) : (ex2 L i k x y)[k]? = some x := by
  have := glt hk
  unfold ex2
  rw [List.getElem?_set_self (by simpa using this)]
theorem ex2_else {L : List α} {i k j : Nat} {x y : α} (h1 : j ≠ i) (h2 : j ≠ k) : (ex2 L i k x y)[j]? = L[j]? := by
  unfold ex2
  rw [List.getElem?_set_ne (by omega), List.getElem?_set_ne (by omega)]
theorem ex2_perm {L : List α} {i k : Nat} {x y : α} (hi : L[i]? = some x) (hk : L[k]? = some y) : (ex2 L i k x y).Perm L := by
  have h1 := glt hi
  have h2 := glt hk
  unfold ex2
  rw [List.getElem?_eq_getElem h1] at hi
  rw [List.getElem?_eq_getElem h2] at hk
  have e1 := Option.some.inj hi
  have e2 := Option.some.inj hk
  subst e1 e2
  exact List.set_set_perm h1 h2

/-- The entry at i moved towards the first place: M. -/
inductive Rise (lt : α → α → Bool) : List (α × Nat) → Nat → List (α × Nat) → Prop
  | top (L) : Rise lt L 0 L
  | stop {L i x y} (h0 : 0 < i) (hi : L[i]? = some x) (ha : L[(i - 1) / 2]? = some y) (hb : bfr lt x y = false) : Rise lt L i L
  | up {L i x y M} (h0 : 0 < i) (hi : L[i]? = some x) (ha : L[(i - 1) / 2]? = some y) (hb : bfr lt x y = true) (h : Rise lt (ex2 L i ((i - 1) / 2) x y) ((i - 1) / 2) M) : Rise lt L i M
/-- The later of both kids of i that is to be asked: c. -/
def Kid (lt : α → α → Bool) (L : List (α × Nat)) (i c : Nat) : Prop :=
  (c = 2 * i + 1 ∧ ∀ x y, L[2 * i + 1 + 1]? = some x → L[2 * i + 1]? = some y → bfr lt x y = false) ∨
  (c = 2 * i + 1 + 1 ∧ ∃ x y, L[2 * i + 1 + 1]? = some x ∧ L[2 * i + 1]? = some y ∧ bfr lt x y = true)
/-- The entry at i moved away from the first place: M. -/
inductive Sink (lt : α → α → Bool) : List (α × Nat) → Nat → List (α × Nat) → Prop
  | leaf {L i} (h : L.length ≤ 2 * i + 1) : Sink lt L i L
  | stop {L i c x y} (hk : Kid lt L i c) (hc : L[c]? = some x) (hi : L[i]? = some y) (hb : bfr lt x y = false) : Sink lt L i L
  | down {L i c x y M} (hk : Kid lt L i c) (hc : L[c]? = some x) (hi : L[i]? = some y) (hb : bfr lt x y = true) (h : Sink lt (ex2 L i c y x) c M) : Sink lt L i M
theorem Rise.perm {L M : List (α × Nat)} {i : Nat} (h : Rise lt L i M) : M.Perm L := by
  induction h with
  | top L => exact List.Perm.refl _
  | stop => exact List.Perm.refl _
  | up h0 hi ha hb h ih => exact ih.trans (ex2_perm hi ha)
theorem Sink.perm {L M : List (α × Nat)} {i : Nat} (h : Sink lt L i M) : M.Perm L := by
  induction h with
  | leaf => exact List.Perm.refl _
  | stop => exact List.Perm.refl _
  | down hk hc hi hb h ih => exact ih.trans (ex2_perm hi hc)
/-- Different numbers. -/
def Dif (L : List (α × Nat)) : Prop := L.Pairwise fun e f => e.2 ≠ f.2
theorem Dif.perm {L M : List (α × Nat)} (h : Dif L) (hp : M.Perm L) : Dif M := (hp.pairwise_iff (fun h => Ne.symm h)).mpr h
theorem Dif.ne {L : List (α × Nat)} (h : Dif L) {i k : Nat} {x y : α × Nat} (hi : L[i]? = some x) (hk : L[k]? = some y) (hn : i ≠ k) : x.2 ≠ y.2 := by
  have h1 := glt hi
  have h2 := glt hk
  rw [List.getElem?_eq_getElem h1] at hi
  rw [List.getElem?_eq_getElem h2] at hk
  have e1 := Option.some.inj hi
  have e2 := Option.some.inj hk
  subst e1 e2
  rcases Nat.lt_or_ge i k with h3 | h3
  · exact List.pairwise_iff_getElem.mp h i k h1 h2 h3
  · exact Ne.symm (List.pairwise_iff_getElem.mp h k i h2 h1 (by omega))
/-- A heap. -/
def Hp (lt : α → α → Bool) (L : List (α × Nat)) : Prop := ∀ j e f, 0 < j → L[j]? = some e → L[(j - 1) / 2]? = some f → bef lt f e
theorem Rise.heap (hs : Sw lt) {L M : List (α × Nat)} {i : Nat} (h : Rise lt L i M) : Dif L →
    (∀ j e f, 0 < j → j ≠ i → L[j]? = some e → L[(j - 1) / 2]? = some f → bef lt f e) →
    (∀ j e f, 0 < j → (j - 1) / 2 = i → 0 < i → L[j]? = some e → L[(i - 1) / 2]? = some f → bef lt f e) → Hp lt M := by
  induction h with
  | top L => intro hd h1 h2 j e f hj he hf; exact h1 j e f hj (by omega) he hf
  | stop h0 hi ha hb =>
    rename_i L i x y
    intro hd h1 h2 j e f hj he hf
    by_cases hji : j = i
    · subst hji
      rw [hi] at he; rw [ha] at hf
      cases he; cases hf
      exact bfr_false hs (hd.ne hi ha (by omega)) hb
    · exact h1 j e f hj hji he hf
  | up h0 hi ha hb h ih =>
    rename_i L i x y M
    intro hd h1 h2
    have hxy := bfr_true hs (hd.ne hi ha (by omega)) hb
    refine ih (hd.perm (ex2_perm hi ha)) (fun j e f hj hja he hf => ?_) (fun j e f hj hja hap he hf => ?_)
    · by_cases hji : j = i
      · subst hji
        rw [ex2_fst hi (by omega)] at he
        rw [ex2_snd ha] at hf
        cases he; cases hf
        exact hxy
      · rw [ex2_else hji hja] at he
        by_cases hpa : (j - 1) / 2 = (i - 1) / 2
        · rw [hpa, ex2_snd ha] at hf
          cases hf
          exact hxy.trans hs (h1 j e y hj hji he (by rw [hpa]; exact ha))
        · by_cases hpi : (j - 1) / 2 = i
          · rw [hpi, ex2_fst hi (by omega)] at hf
            cases hf
            exact h2 j e y hj hpi h0 he ha
          · rw [ex2_else hpi hpa] at hf
            exact h1 j e f hj hji he hf
    · rw [ex2_else (by omega) (by omega)] at hf
      have hay := h1 ((i - 1) / 2) y f hap (by omega) ha hf
      by_cases hji : j = i
      · subst hji
        rw [ex2_fst hi (by omega)] at he
        cases he
        exact hay
      · rw [ex2_else hji (by omega)] at he
        exact hay.trans hs (h1 j e y hj hji he (by rw [hja]; exact ha))
theorem Kid.lo {L : List (α × Nat)} {i c : Nat} (h : Kid lt L i c) : i < c ∧ (c - 1) / 2 = i ∧ 0 < c := by
  rcases h with ⟨rfl, _⟩ | ⟨rfl, _⟩ <;> omega
/-- Whoever is a kid of i is the one that is asked, or comes behind it. -/
theorem Kid.other (hs : Sw lt) {L : List (α × Nat)} (hd : Dif L) {i c j : Nat} {x e : α × Nat} (h : Kid lt L i c) (hc : L[c]? = some x) (hj : 0 < j) (hp : (j - 1) / 2 = i) (he : L[j]? = some e) : j = c ∨ bef lt x e := by
  have hjj : j = 2 * i + 1 ∨ j = 2 * i + 1 + 1 := by omega
  rcases h with ⟨rfl, hk⟩ | ⟨rfl, x', y', h1, h2, h3⟩
  · rcases hjj with rfl | rfl
    · exact Or.inl rfl
    · exact Or.inr (bfr_false hs (hd.ne he hc (by omega)) (hk e x he hc))
  · rcases hjj with rfl | rfl
    · rw [h1] at hc; rw [h2] at he
      cases hc; cases he
      exact Or.inr (bfr_true hs (hd.ne h1 h2 (by omega)) h3)
    · exact Or.inl rfl
theorem Sink.heap (hs : Sw lt) {L M : List (α × Nat)} {i : Nat} (h : Sink lt L i M) : Dif L →
    (∀ j e f, 0 < j → (j - 1) / 2 ≠ i → L[j]? = some e → L[(j - 1) / 2]? = some f → bef lt f e) →
    (∀ j e f, 0 < j → (j - 1) / 2 = i → 0 < i → L[j]? = some e → L[(i - 1) / 2]? = some f → bef lt f e) → Hp lt M := by
  induction h with
  | leaf hl =>
    rename_i L i
    intro hd h1 h2 j e f hj he hf
    by_cases hp : (j - 1) / 2 = i
    · have := glt he; omega
    · exact h1 j e f hj hp he hf
  | stop hk hc hi hb =>
    rename_i L i c x y
    intro hd h1 h2 j e f hj he hf
    have hlo := hk.lo
    have hyx := bfr_false hs (hd.ne hc hi (by omega)) hb
    by_cases hp : (j - 1) / 2 = i
    · rw [hp, hi] at hf
      cases hf
      rcases hk.other hs hd hc hj hp he with rfl | h3
      · rw [hc] at he; cases he; exact hyx
      · exact hyx.trans hs h3
    · exact h1 j e f hj hp he hf
  | down hk hc hi hb h ih =>
    rename_i L i c x y M
    intro hd h1 h2
    have hlo := hk.lo
    have hxy := bfr_true hs (hd.ne hc hi (by omega)) hb
    refine ih (hd.perm (ex2_perm hi hc)) (fun j e f hj hjc he hf => ?_) (fun j e f hj hjc hcp he hf => ?_)
    · by_cases hj1 : j = c
      · subst hj1
        rw [ex2_snd hc] at he
        rw [hlo.2.1, ex2_fst hi (by omega)] at hf
        cases he; cases hf
        exact hxy
      · by_cases hj2 : j = i
        · subst hj2
          rw [ex2_fst hi (by omega)] at he
          rw [ex2_else (by omega) (by omega)] at hf
          cases he
          exact h2 c x f (by omega) hlo.2.1 hj hc hf
        · rw [ex2_else hj2 hj1] at he
          by_cases hp : (j - 1) / 2 = i
          · rw [hp, ex2_fst hi (by omega)] at hf
            cases hf
            rcases hk.other hs hd hc hj hp he with h3 | h3
            · exact absurd h3 hj1
            · exact h3
          · rw [ex2_else hp hjc] at hf
            exact h1 j e f hj hp he hf
    · rw [ex2_else (by omega) (by omega)] at he
      rw [hlo.2.1, ex2_fst hi (by omega)] at hf
      cases hf
      exact h1 j e x hj (by omega) he (by rw [hjc]; exact hc)
theorem Hp.least (hs : Sw lt) {L : List (α × Nat)} (h : Hp lt L) {m : α × Nat} (h0 : L[0]? = some m) : ∀ (j : Nat) e, L[j]? = some e → e = m ∨ bef lt m e := by
  intro j
  induction j using Nat.strongRecOn with
  | ind j ih =>
    intro e he
    rcases Nat.eq_zero_or_pos j with rfl | hj
    · rw [h0] at he; cases he; exact Or.inl rfl
    · obtain ⟨f, hf⟩ : ∃ f, L[(j - 1) / 2]? = some f := ⟨_, List.getElem?_eq_getElem (by have := glt he; omega)⟩
      have h1 := h j e f hj he hf
      rcases ih ((j - 1) / 2) (by omega) f hf with rfl | h2
      · exact Or.inr h1
      · exact Or.inr (h2.trans hs h1)

/-! ### Queues -/
/-- What Pop leaves ahead of sinking: the last entry in the first's place. -/
def cutF (L : List (α × Nat)) (l : α × Nat) : List (α × Nat) := (L.set 0 l).take (L.length - 1)
theorem cutF_perm {L : List (α × Nat)} {m l : α × Nat} (h0 : L[0]? = some m) (hl : L[L.length - 1]? = some l) : L.Perm (m :: cutF L l) := by
  cases L with
  | nil => cases h0
  | cons a L =>
    simp at h0
    subst h0
    unfold cutF
    rcases List.eq_nil_or_concat L with rfl | ⟨I, z, rfl⟩
    · simp
    · have e : l = z := by
        rw [List.getElem?_cons] at hl
        simp at hl
        exact hl.symm
      subst e
      simp only [List.concat_eq_append, List.set_cons_zero, List.length_cons, List.length_append, List.length_nil, Nat.add_sub_cancel]
      rw [show (I.length + (0 + 1)) = I.length + 1 by omega, List.take_succ_cons, List.take_left']
      · exact List.Perm.cons _ (List.perm_append_singleton _ _)
      · rfl
theorem cutF_len {L : List (α × Nat)} {l : α × Nat} : (cutF L l).length = L.length - 1 := by simp [cutF]
/-- The heap L, in which p values came, holds the values R, in the order in which they came. -/
def Ab (lt : α → α → Bool) (L : List (α × Nat)) (p : Nat) (R : List α) : Prop :=
  ∃ Q : List (α × Nat), Q.map (·.1) = R ∧ L.Perm Q ∧ (Q.Pairwise fun e f => e.2 < f.2) ∧ (∀ e ∈ Q, e.2 < p) ∧ (Sw lt → Hp lt L)
theorem dif_of {Q : List (α × Nat)} (h : Q.Pairwise fun e f => e.2 < f.2) : Dif Q := h.imp fun h => Nat.ne_of_lt h
theorem Ab.nil : Ab lt [] 0 [] := ⟨[], rfl, List.Perm.refl _, List.Pairwise.nil, fun e h => by simp at h, fun _ j e f _ he => by simp at he⟩
theorem Ab.len {L : List (α × Nat)} {p : Nat} {R : List α} (h : Ab lt L p R) : L.length = R.length := by
  obtain ⟨Q, h1, h2, _⟩ := h
  rw [h2.length_eq, ← h1, List.length_map]
theorem Ab.push {L M : List (α × Nat)} {p : Nat} {R : List α} {x : α} (h : Ab lt L p R) (hr : Rise lt (L ++ [(x, p)]) L.length M) : Ab lt M (p + 1) (R ++ [x]) := by
  obtain ⟨Q, h1, h2, h3, h4, h5⟩ := h
  have hq : (Q ++ [(x, p)]).Pairwise fun e f => e.2 < f.2 := by
    rw [List.pairwise_append]
    exact ⟨h3, List.pairwise_singleton _ _, fun a ha b hb => by simp at hb; subst hb; exact h4 a ha⟩
  have hperm : (L ++ [(x, p)]).Perm (Q ++ [(x, p)]) := h2.append_right _
  refine ⟨Q ++ [(x, p)], by simp [h1], hr.perm.trans hperm, hq, fun e he => ?_, fun hs => ?_⟩
  · rcases List.mem_append.mp he with h | h
    · have := h4 e h; omega
    · simp at h; subst h; exact Nat.lt_succ_self _
  · have hh := h5 hs
    refine hr.heap hs ((dif_of hq).perm hperm) (fun j e f hj hji he hf => ?_) (fun j e f hj hji h0 he hf => ?_)
    · have hl := glt he
      rw [List.length_append, List.length_singleton] at hl
      rw [List.getElem?_append_left (by omega)] at he
      rw [List.getElem?_append_left (by omega)] at hf
      exact hh j e f hj he hf
    · have hl := glt he
      rw [List.length_append, List.length_singleton] at hl
      omega
theorem Ab.first {L : List (α × Nat)} {p : Nat} {R : List α} {m : α × Nat} (h : Ab lt L p R) (h0 : L[0]? = some m) : ∃ i, R[i]? = some m.1 ∧ (Sw lt → IsF lt R i) := by
  obtain ⟨Q, rfl, h2, h3, h4, h5⟩ := h
  obtain ⟨i, hi⟩ := List.mem_iff_getElem?.mp (h2.mem_iff.mp (List.mem_of_getElem? h0))
  refine ⟨i, by rw [List.getElem?_map, hi]; rfl, fun hs => (lst_isF hs h3 hi).mp ⟨List.mem_of_getElem? hi, fun e he => ?_⟩⟩
  obtain ⟨j, hj⟩ := List.mem_iff_getElem?.mp (h2.mem_iff.mpr he)
  exact (h5 hs).least hs h0 j e hj
theorem Ab.pop {L M : List (α × Nat)} {p : Nat} {R : List α} {m l : α × Nat} (h : Ab lt L p R) (h0 : L[0]? = some m) (hl : L[L.length - 1]? = some l) (hk : Sink lt (cutF L l) 0 M) :
    ∃ i, R[i]? = some m.1 ∧ (Sw lt → IsF lt R i) ∧ Ab lt M p (R.eraseIdx i) := by
  obtain ⟨Q, rfl, h2, h3, h4, h5⟩ := h
  obtain ⟨i, hi⟩ := List.mem_iff_getElem?.mp (h2.mem_iff.mp (List.mem_of_getElem? h0))
  have hcut := cutF_perm h0 hl
  have hq : Q.Perm (m :: Q.eraseIdx i) := erase_perm hi
  have hc : (cutF L l).Perm (Q.eraseIdx i) := List.Perm.cons_inv (hcut.symm.trans (h2.trans hq))
  have h3' := h3.sublist (List.eraseIdx_sublist Q i)
  refine ⟨i, by rw [List.getElem?_map, hi]; rfl, fun hs => (lst_isF hs h3 hi).mp ⟨List.mem_of_getElem? hi, fun e he => ?_⟩, Q.eraseIdx i, by rw [erase_map], hk.perm.trans hc, h3', fun e he => h4 e ((List.eraseIdx_sublist Q i).mem he), fun hs => ?_⟩
  · obtain ⟨j, hj⟩ := List.mem_iff_getElem?.mp (h2.mem_iff.mpr he)
    exact (h5 hs).least hs h0 j e hj
  · refine hk.heap hs ((dif_of h3').perm hc) (fun j e f hj hj0 he hf => ?_) (fun j e f hj hji h0' => absurd h0' (by omega))
    have hlen := glt he
    rw [cutF_len] at hlen
    unfold cutF at he hf
    rw [List.getElem?_take_of_lt (by omega), List.getElem?_set_ne (by omega)] at he hf
    exact h5 hs j e f hj he hf
theorem Ab.count [BEq α] [LawfulBEq α] {L : List (α × Nat)} {p : Nat} {R : List α} (h : Ab lt L p R) : (L.map (·.1)).Perm R := by
  obtain ⟨Q, rfl, h2, _⟩ := h
  exact h2.map _
/-- What leaves is a permutation of what was there. -/
inductive Outs : List α → List α → List α → Prop
  | nil (L) : Outs L [] L
  | pop {L i x o M} (hx : L[i]? = some x) (h : Outs (L.eraseIdx i) o M) : Outs L (x :: o) M
theorem erase_len {L : List α} {i : Nat} {x : α} (hx : L[i]? = some x) : (L.eraseIdx i).length + 1 = L.length := by
  have := (erase_perm hx).length_eq; simpa using this.symm
theorem Outs.snoc {L o M : List α} (h : Outs L o M) {i : Nat} {x : α} (hx : M[i]? = some x) : Outs L (o ++ [x]) (M.eraseIdx i) := by
  induction h with
  | nil L => exact .pop hx (.nil _)
  | pop hx' h ih => exact .pop hx' (ih hx)
theorem Outs.perm {L o M : List α} (h : Outs L o M) : L.Perm (o ++ M) := by
  induction h with
  | nil L => exact List.Perm.refl _
  | pop hx h ih => exact (erase_perm hx).trans (List.Perm.cons _ ih)
theorem Outs.len {L o M : List α} (h : Outs L o M) : L.length = o.length + M.length := by
  have := h.perm.length_eq; simpa using this
theorem Pops.snoc {L o M : List α} (h : Pops lt L o M) {i : Nat} {x : α} (hf : IsF lt M i) (hx : M[i]? = some x) : Pops lt L (o ++ [x]) (M.eraseIdx i) := by
  induction h with
  | nil L => exact .pop hf hx (.nil _)
  | pop hi hx' h ih => exact .pop hi hx' (ih hf hx)
theorem Pops.outs {L o M : List α} (h : Pops lt L o M) : Outs L o M := by
  induction h with
  | nil L => exact .nil _
  | pop hi hx h ih => exact .pop hx ih
/-- The values leave in order, equal ones as they came. -/
theorem Pops.stable {tag : α → Int} {L o M : List α} (h : Pops lt L o M) (ht : L.Pairwise fun x y => tag x < tag y) : o.Pairwise fun x y => lt x y = true ∨ tag x < tag y := by
  induction h with
  | nil L => exact List.Pairwise.nil
  | pop hi hx h ih =>
    rename_i L i x o M
    refine List.pairwise_cons.mpr ⟨fun y hy => ?_, ih (ht.sublist (List.eraseIdx_sublist _ _))⟩
    obtain ⟨z, hz, h1, h2⟩ := hi
    obtain rfl : x = z := by rw [hx] at hz; simpa using hz
    have hyL : y ∈ L.eraseIdx i := by
      have := h.outs.perm.mem_iff (a := y)
      exact this.mpr (List.mem_append_left _ hy)
    obtain ⟨j, hji, hj⟩ := List.mem_eraseIdx_iff_getElem?.mp hyL
    rcases Nat.lt_or_ge j i with h3 | h3
    · exact Or.inl (h1 j y h3 hj)
    · refine Or.inr ?_
      have hil := glt hx
      have hjl := glt hj
      rw [List.getElem?_eq_getElem hil] at hx
      rw [List.getElem?_eq_getElem hjl] at hj
      have e1 := Option.some.inj hx
      have e2 := Option.some.inj hj
      subst e1 e2
      exact List.pairwise_iff_getElem.mp ht i j hil hjl (by omega)
end
#print axioms Ab.pop
#print axioms Ab.push
#print axioms Pops.stable
end Go.Proofs.Ytkgmfdmgaloaoaa.Pqueue
