/- Orders, what comes first, and what is sorted (pure). -/
import Derived.Test.YtkgmfdmgaloaoaaRows
namespace Go.Proofs.Ytkgmfdmgaloaoaa.Pqueue
set_option linter.unusedVariables false

section
variable {α : Type} {lt : α → α → Bool}
/-- A strict weak ordering. -/
structure Sw (lt : α → α → Bool) : Prop where
  ir : ∀ x, lt x x = false
  tr : ∀ x y z, lt x y = true → lt y z = true → lt x z = true
  eq : ∀ x y z, lt x y = false → lt y x = false → lt y z = false → lt z y = false → lt x z = false ∧ lt z x = false
theorem Sw.as (h : Sw lt) {x y : α} (hxy : lt x y = true) : lt y x = false := by
  cases hyx : lt y x with
  | false => rfl
  | true => have := h.tr x y x hxy hyx; rw [h.ir] at this; cases this
/-- 'not less' is transitive. -/
theorem Sw.ge (h : Sw lt) {x y z : α} (h1 : lt x y = false) (h2 : lt y z = false) : lt x z = false := by
  cases hxz : lt x z with
  | false => rfl
  | true =>
    cases hyx : lt y x with
    | true => have := h.tr y x z hyx hxz; rw [h2] at this; cases this
    | false =>
      cases hzy : lt z y with
      | true => have := h.tr x z y hxz hzy; rw [h1] at this; cases this
      | false => have := (h.eq x y z h1 hyx h2 hzy).1; rw [hxz] at this; cases this
/-- less, then not greater: less. -/
theorem Sw.lt_ge (h : Sw lt) {x y z : α} (h1 : lt x y = true) (h2 : lt z y = false) : lt x z = true := by
  cases hxz : lt x z with
  | true => rfl
  | false => have := h.ge hxz h2; rw [h1] at this; cases this
theorem Sw.ge_lt (h : Sw lt) {x y z : α} (h1 : lt y x = false) (h2 : lt y z = true) : lt x z = true := by
  cases hxz : lt x z with
  | true => rfl
  | false => have := h.ge h1 hxz; rw [h2] at this; cases this
theorem sw_key {β : Type} {lt : β → β → Bool} (h : Sw lt) (f : α → β) : Sw (fun x y => lt (f x) (f y)) :=
  ⟨fun x => h.ir _, fun x y z => h.tr _ _ _, fun x y z => h.eq _ _ _⟩
theorem sw_int : Sw (fun x y : Int => decide (x < y)) := by
  constructor
  · intro x; simp
  · intro x y z h1 h2; simp at h1 h2 ⊢; omega
  · intro x y z h1 h2 h3 h4; simp at h1 h2 h3 h4 ⊢; omega
theorem sw_flip (h : Sw lt) : Sw (fun x y => lt y x) :=
  ⟨h.ir, fun x y z h1 h2 => h.tr _ _ _ h2 h1, fun x y z h1 h2 h3 h4 => h.eq x y z h2 h1 h4 h3 |>.symm⟩
theorem sw_none : Sw (fun _ _ : α => false) := ⟨fun _ => rfl, fun _ _ _ h => (nomatch h), fun _ _ _ _ _ _ _ => ⟨rfl, rfl⟩⟩

/-! ### The first -/
/-- The first value of a list lies at i. -/
def IsF (lt : α → α → Bool) (L : List α) (i : Nat) : Prop :=
  ∃ x, L[i]? = some x ∧ (∀ j y, j < i → L[j]? = some y → lt x y = true) ∧ (∀ j y, i < j → L[j]? = some y → lt y x = false)
theorem IsF.one (h : Sw lt) {L : List α} {i j : Nat} (hi : IsF lt L i) (hj : IsF lt L j) : i = j := by
  obtain ⟨x, hx, h1, h2⟩ := hi
  obtain ⟨y, hy, h3, h4⟩ := hj
  rcases Nat.lt_trichotomy i j with hlt | he | hlt
  · have a := h2 j y hlt hy
    have b := h3 i x hlt hx
    rw [b] at a; cases a
  · exact he
  · have a := h1 j y hlt hy
    have b := h4 i x hlt hx
    rw [a] at b; cases b
/-- The search from the left: b is the place of the first of the first k. -/
theorem IsF.start {x : α} {L : List α} (hx : L[0]? = some x) : IsF lt (L.take 1) 0 := by
  cases L with
  | nil => cases hx
  | cons y L =>
    refine ⟨y, rfl, fun j y hj => by omega, fun j z hj hz => ?_⟩
    have : j < [y].length := by
      rcases Nat.lt_or_ge j [y].length with h | h
      · exact h
      · rw [show (y :: L).take 1 = [y] from rfl, List.getElem?_eq_none h] at hz; cases hz
    simp at this
    omega
theorem take_get {L : List α} {k j : Nat} {y : α} (h : (L.take k)[j]? = some y) : j < k ∧ L[j]? = some y := by
  have hl : j < (L.take k).length := by
    rcases Nat.lt_or_ge j (L.take k).length with h1 | h1
    · exact h1
    · rw [List.getElem?_eq_none h1] at h; cases h
  rw [List.length_take] at hl
  have hk : j < k := by omega
  rw [List.getElem?_take_of_lt hk] at h
  exact ⟨hk, h⟩
theorem IsF.step_new (h : Sw lt) {L : List α} {k b : Nat} {x y : α} (hf : IsF lt (L.take k) b) (hb : L[b]? = some x) (hk : L[k]? = some y) (hl : lt y x = true) : IsF lt (L.take (k + 1)) k := by
  obtain ⟨x', hx', h1, h2⟩ := hf
  obtain ⟨hbk, hx''⟩ := take_get hx'
  obtain rfl : x = x' := by rw [hb] at hx''; simpa using hx''
  refine ⟨y, by rw [List.getElem?_take_of_lt (by omega)]; exact hk, fun j z hj hz => ?_, fun j z hj hz => by have := (take_get hz).1; omega⟩
  have hz' := (take_get hz).2
  have hz2 : (L.take k)[j]? = some z := by rw [List.getElem?_take_of_lt hj]; exact hz'
  rcases Nat.lt_trichotomy j b with h3 | h3 | h3
  · exact h.tr _ _ _ hl (h1 j z h3 hz2)
  · subst h3
    rw [hb] at hz'
    obtain rfl : x = z := by simpa using hz'
    exact hl
  · exact h.lt_ge hl (h2 j z h3 hz2)
theorem IsF.step_old {L : List α} {k b : Nat} {x y : α} (hf : IsF lt (L.take k) b) (hb : L[b]? = some x) (hk : L[k]? = some y) (hl : lt y x = false) : IsF lt (L.take (k + 1)) b := by
  obtain ⟨x', hx', h1, h2⟩ := hf
  obtain ⟨hbk, hx''⟩ := take_get hx'
  obtain rfl : x = x' := by rw [hb] at hx''; simpa using hx''
  refine ⟨x, by rw [List.getElem?_take_of_lt (by omega)]; exact hb, fun j z hj hz => ?_, fun j z hj hz => ?_⟩
  · have hz' := (take_get hz).2
    exact h1 j z hj (by rw [List.getElem?_take_of_lt (by omega)]; exact hz')
  · obtain ⟨h3, hz'⟩ := take_get hz
    rcases Nat.lt_or_ge j k with h4 | h4
    · exact h2 j z hj (by rw [List.getElem?_take_of_lt h4]; exact hz')
    · obtain rfl : j = k := by omega
      rw [hk] at hz'
      obtain rfl : y = z := by simpa using hz'
      exact hl
theorem IsF.whole {L : List α} {b : Nat} (h : IsF lt (L.take L.length) b) : IsF lt L b := by rwa [List.take_length] at h
theorem IsF.ex (h : Sw lt) {L : List α} : ∀ k, 0 < k → k ≤ L.length → ∃ b, IsF lt (L.take k) b := by
  intro k
  induction k with
  | zero => intro h; omega
  | succ k ih =>
    intro _ hk
    rcases Nat.eq_zero_or_pos k with h0 | h0
    · subst h0
      exact ⟨0, IsF.start (x := L[0]) (List.getElem?_eq_getElem (by omega))⟩
    · obtain ⟨b, hb⟩ := ih h0 (by omega)
      obtain ⟨x, hx, _⟩ := id hb
      have hx' := (take_get hx).2
      have hy : L[k]? = some L[k] := List.getElem?_eq_getElem (by omega)
      cases hl : lt L[k] x with
      | true => exact ⟨k, hb.step_new h hx' hy hl⟩
      | false => exact ⟨b, hb.step_old hx' hy hl⟩

/-! ### Entries: a value with the number under which it came -/
/-- Entry e leaves ahead of entry f. -/
def bef (lt : α → α → Bool) (e f : α × Nat) : Prop := lt e.1 f.1 = true ∨ (lt f.1 e.1 = false ∧ e.2 < f.2)
theorem bef.ne (h : Sw lt) {e f : α × Nat} (hb : bef lt e f) : ¬ bef lt f e := by
  rintro (h2 | ⟨h2, h3⟩)
  · rcases hb with h1 | ⟨h1, _⟩
    · rw [h.as h1] at h2; cases h2
    · rw [h1] at h2; cases h2
  · rcases hb with h1 | ⟨h1, h4⟩
    · rw [h1] at h2; cases h2
    · omega
theorem bef.trans (h : Sw lt) {e f g : α × Nat} (h1 : bef lt e f) (h2 : bef lt f g) : bef lt e g := by
  rcases h1 with h1 | ⟨h1, h3⟩
  · rcases h2 with h2 | ⟨h2, h4⟩
    · exact Or.inl (h.tr _ _ _ h1 h2)
    · exact Or.inl (h.lt_ge h1 h2)
  · rcases h2 with h2 | ⟨h2, h4⟩
    · exact Or.inl (h.ge_lt h1 h2)
    · exact Or.inr ⟨h.ge h2 h1, by omega⟩
theorem bef.total (h : Sw lt) {e f : α × Nat} (hne : e.2 ≠ f.2) : bef lt e f ∨ bef lt f e := by
  cases h1 : lt e.1 f.1 with
  | true => exact Or.inl (Or.inl h1)
  | false =>
    cases h2 : lt f.1 e.1 with
    | true => exact Or.inr (Or.inl h2)
    | false =>
      rcases Nat.lt_or_ge e.2 f.2 with h3 | h3
      · exact Or.inl (Or.inr ⟨h2, h3⟩)
      · exact Or.inr (Or.inr ⟨h1, by omega⟩)
/-- Two sorted lists of the same entries are the same. -/
theorem sorted_one (h : Sw lt) : ∀ {S T : List (α × Nat)}, S.Pairwise (bef lt) → T.Pairwise (bef lt) → (∀ e, e ∈ S ↔ e ∈ T) → S = T := by
  intro S
  induction S with
  | nil =>
    intro T _ _ hm
    cases T with
    | nil => rfl
    | cons e T => exact absurd ((hm e).mpr (List.mem_cons_self ..)) (by simp)
  | cons e S ih =>
    intro T hs ht hm
    cases T with
    | nil => exact absurd ((hm e).mp (List.mem_cons_self ..)) (by simp)
    | cons f T =>
      obtain ⟨hs1, hs2⟩ := List.pairwise_cons.mp hs
      obtain ⟨ht1, ht2⟩ := List.pairwise_cons.mp ht
      have hef : e = f := by
        rcases List.mem_cons.mp ((hm e).mp (List.mem_cons_self ..)) with h1 | h1
        · exact h1
        · rcases List.mem_cons.mp ((hm f).mpr (List.mem_cons_self ..)) with h2 | h2
          · exact h2.symm
          · exact absurd (ht1 e h1) (bef.ne h (hs1 f h2))
      subst hef
      congr 1
      refine ih hs2 ht2 fun g => ⟨fun hg => ?_, fun hg => ?_⟩
      · rcases List.mem_cons.mp ((hm g).mp (List.mem_cons_of_mem _ hg)) with h1 | h1
        · subst h1
          exact absurd (hs1 g hg) fun k => bef.ne h k k
        · exact h1
      · rcases List.mem_cons.mp ((hm g).mpr (List.mem_cons_of_mem _ hg)) with h1 | h1
        · subst h1
          exact absurd (ht1 g hg) fun k => bef.ne h k k
        · exact h1
/-- The entry that leaves first. -/
def Lst (lt : α → α → Bool) (Q : List (α × Nat)) (m : α × Nat) : Prop := m ∈ Q ∧ ∀ e ∈ Q, e = m ∨ bef lt m e
theorem Lst.one (h : Sw lt) {Q : List (α × Nat)} {m m' : α × Nat} (h1 : Lst lt Q m) (h2 : Lst lt Q m') : m = m' := by
  rcases h1.2 m' h2.1 with e | e
  · exact e.symm
  · rcases h2.2 m h1.1 with e' | e'
    · exact e'
    · exact absurd e' (bef.ne h e)
/-- In a list in which the numbers ascend the first value's place is the least entry's. -/
theorem lst_isF (h : Sw lt) {Q : List (α × Nat)} (ha : Q.Pairwise fun e f => e.2 < f.2) {i : Nat} {m : α × Nat} (hi : Q[i]? = some m) : Lst lt Q m ↔ IsF lt (Q.map (·.1)) i := by
  have num : ∀ (j k : Nat) (e f : α × Nat), j < k → Q[j]? = some e → Q[k]? = some f → e.2 < f.2 := by
    intro j k e f hjk he hf
    have hk : k < Q.length := by
      rcases Nat.lt_or_ge k Q.length with h1 | h1
      · exact h1
      · rw [List.getElem?_eq_none h1] at hf; cases hf
    have hj : j < Q.length := by omega
    rw [List.getElem?_eq_getElem hj] at he
    rw [List.getElem?_eq_getElem hk] at hf
    have := List.pairwise_iff_getElem.mp ha j k hj hk hjk
    simp at he hf
    rw [he, hf] at this
    exact this
  constructor
  · rintro ⟨_, h2⟩
    refine ⟨m.1, by rw [List.getElem?_map, hi]; rfl, fun j y hj hy => ?_, fun j y hj hy => ?_⟩
    · rw [List.getElem?_map] at hy
      obtain ⟨e, he, rfl⟩ := Option.map_eq_some_iff.mp hy
      have hn := num j i e m hj he hi
      rcases h2 e (List.mem_of_getElem? he) with e' | e' | ⟨_, e'⟩
      · subst e'; omega
      · exact e'
      · omega
    · rw [List.getElem?_map] at hy
      obtain ⟨e, he, rfl⟩ := Option.map_eq_some_iff.mp hy
      have hn := num i j m e hj hi he
      rcases h2 e (List.mem_of_getElem? he) with e' | e' | ⟨e', _⟩
      · subst e'; omega
      · exact h.as e'
      · exact e'
  · rintro ⟨x, hx, h1, h2⟩
    rw [List.getElem?_map, hi] at hx
    obtain rfl : m.1 = x := by simpa using hx
    refine ⟨List.mem_of_getElem? hi, fun e he => ?_⟩
    obtain ⟨j, hj⟩ := List.mem_iff_getElem?.mp he
    have hj' : (Q.map (·.1))[j]? = some e.1 := by rw [List.getElem?_map, hj]; rfl
    rcases Nat.lt_trichotomy j i with h3 | h3 | h3
    · exact Or.inr (Or.inl (h1 j _ h3 hj'))
    · subst h3
      rw [hi] at hj
      exact Or.inl (by simpa using hj.symm)
    · exact Or.inr (Or.inr ⟨h2 j _ h3 hj', num i j m e h3 hi hj⟩)
/-- What leaves a queue, one after the other: n values. -/
inductive Pops (lt : α → α → Bool) : List α → List α → List α → Prop
  | nil (L : List α) : Pops lt L [] L
  | pop {L : List α} {i : Nat} {x : α} {o M : List α} (hi : IsF lt L i) (hx : L[i]? = some x) (h : Pops lt (L.eraseIdx i) o M) : Pops lt L (x :: o) M
theorem Pops.one (hs : Sw lt) {L o M : List α} (h : Pops lt L o M) : ∀ {o' M' : List α}, Pops lt L o' M' → o.length = o'.length → o = o' ∧ M = M' := by
  induction h with
  | nil L =>
    intro o' M' k hl
    cases k with
    | nil => exact ⟨rfl, rfl⟩
    | pop hi hx h => simp at hl
  | pop hi hx h ih =>
    intro o' M' k hl
    cases k with
    | nil => simp at hl
    | pop hi' hx' h' =>
      obtain rfl := hi.one hs hi'
      rw [hx] at hx'
      obtain rfl := Option.some.inj hx'
      obtain ⟨e1, e2⟩ := ih h' (by simpa using hl)
      exact ⟨by rw [e1], e2⟩
theorem erase_map {β : Type} (f : α → β) (L : List α) (k : Nat) : (L.map f).eraseIdx k = (L.eraseIdx k).map f := by
  rw [List.eraseIdx_eq_take_drop_succ, List.eraseIdx_eq_take_drop_succ, List.map_append, List.map_take, List.map_drop]
/-- A sorted list of the queue's entries is what leaves it. -/
theorem pops_sorted (hs : Sw lt) : ∀ {S Q : List (α × Nat)}, (Q.Pairwise fun e f => e.2 < f.2) → S.Pairwise (bef lt) → (∀ e, e ∈ S ↔ e ∈ Q) → S.length = Q.length → Pops lt (Q.map (·.1)) (S.map (·.1)) [] := by
  intro S
  induction S with
  | nil =>
    intro Q _ _ _ hl
    cases Q with
    | nil => exact Pops.nil _
    | cons e Q => simp at hl
  | cons m S ih =>
    intro Q ha hS hm hl
    obtain ⟨hS1, hS2⟩ := List.pairwise_cons.mp hS
    obtain ⟨i, hi⟩ := List.mem_iff_getElem?.mp ((hm m).mp (List.mem_cons_self ..))
    have hi' : i < Q.length := by
      rcases Nat.lt_or_ge i Q.length with h1 | h1
      · exact h1
      · rw [List.getElem?_eq_none h1] at hi; cases hi
    have hlst : Lst lt Q m := ⟨List.mem_of_getElem? hi, fun e he => by
      rcases List.mem_cons.mp ((hm e).mpr he) with h1 | h1
      · exact Or.inl h1
      · exact Or.inr (hS1 e h1)⟩
    have hf := (lst_isF hs ha hi).mp hlst
    refine Pops.pop hf (by rw [List.getElem?_map, hi]; rfl) ?_
    rw [erase_map]
    refine ih (ha.sublist (List.eraseIdx_sublist _ _)) hS2 (fun e => ?_) (by rw [List.length_eraseIdx, if_pos hi']; simp at hl; omega)
    rw [List.mem_eraseIdx_iff_getElem?]
    constructor
    · intro he
      obtain ⟨j, hj⟩ := List.mem_iff_getElem?.mp ((hm e).mp (List.mem_cons_of_mem _ he))
      refine ⟨j, fun hji => ?_, hj⟩
      subst hji
      rw [hi] at hj
      obtain rfl : m = e := by simpa using hj
      exact bef.ne hs (hS1 m he) (hS1 m he)
    · rintro ⟨j, hji, hj⟩
      rcases List.mem_cons.mp ((hm e).mpr (List.mem_of_getElem? hj)) with h1 | h1
      · subst h1
        exfalso
        have hjl : j < Q.length := by
          rcases Nat.lt_or_ge j Q.length with h1 | h1
          · exact h1
          · rw [List.getElem?_eq_none h1] at hj; cases hj
        rw [List.getElem?_eq_getElem hjl] at hj
        rw [List.getElem?_eq_getElem hi'] at hi
        simp at hi hj
        rcases Nat.lt_trichotomy i j with h2 | h2 | h2
        · have := List.pairwise_iff_getElem.mp ha i j hi' hjl h2
          rw [hi, hj] at this
          omega
        · exact hji h2.symm
        · have := List.pairwise_iff_getElem.mp ha j i hjl hi' h2
          rw [hi, hj] at this
          omega
      · exact h1
/-- What leaves is sorted: each value is no greater than the next one. -/
theorem Pops.sorted (hs : Sw lt) {L o M : List α} (h : Pops lt L o M) : (∀ x ∈ o, x ∈ L) ∧ o.Pairwise fun x y => lt y x = false := by
  induction h with
  | nil L => exact ⟨fun x h => by simp at h, List.Pairwise.nil⟩
  | pop hi hx h ih =>
    rename_i L i x o M
    obtain ⟨z, hz, h1, h2⟩ := hi
    obtain rfl : x = z := by rw [hx] at hz; simpa using hz
    refine ⟨fun y hy => ?_, List.pairwise_cons.mpr ⟨fun y hy => ?_, ih.2⟩⟩
    · rcases List.mem_cons.mp hy with rfl | hy
      · exact List.mem_of_getElem? hx
      · obtain ⟨j, _, hj⟩ := List.mem_eraseIdx_iff_getElem?.mp (ih.1 y hy)
        exact List.mem_of_getElem? hj
    · obtain ⟨j, hj, hj2⟩ := List.mem_eraseIdx_iff_getElem?.mp (ih.1 y hy)
      rcases Nat.lt_trichotomy j i with h3 | h3 | h3
      · exact hs.as (h1 j y h3 hj2)
      · exact absurd h3 hj
      · exact h2 j y h3 hj2
/-- As many as there are leave, and each as often as it was there. -/
theorem Pops.count [BEq α] [LawfulBEq α] {L o M : List α} (h : Pops lt L o M) (x : α) : L.count x = o.count x + M.count x := by
  induction h with
  | nil L => simp
  | pop hi hx h ih =>
    rename_i L i y o M
    have hl : i < L.length := by
      rcases Nat.lt_or_ge i L.length with h1 | h1
      · exact h1
      · rw [List.getElem?_eq_none h1] at hx; cases hx
    have e : L.count x = (y :: L.eraseIdx i).count x := by
      have hd : L = L.take i ++ y :: L.drop (i + 1) := by
        rw [List.getElem?_eq_getElem hl] at hx
        obtain rfl := Option.some.inj hx
        rw [← List.drop_eq_getElem_cons hl, List.take_append_drop]
      rw [List.eraseIdx_eq_take_drop_succ, List.count_cons, List.count_append]
      conv => lhs; rw [hd, List.count_append, List.count_cons]
      omega
    rw [e, List.count_cons, List.count_cons, ih]
    omega
end
end Go.Proofs.Ytkgmfdmgaloaoaa.Pqueue
