/- Sets of integers as lists of spans: normal forms, that there is one for a set, numbers of integers. No walk. -/
import Derived.Test.YtccbnobpighckaaProg
import Derived.Lib.Hide
namespace Go.Proofs.Ytccbnobpighckaa.Span
set_option linter.unusedVariables false

abbrev Sp := Int × Int
def inS (s : Sp) (x : Int) : Bool := decide (s.1 ≤ x) && decide (x < s.2)
/-- Whether x is in one of the spans. -/
def hasB (L : List Sp) (x : Int) : Bool := L.any fun s => inS s x
theorem inS_iff {s : Sp} {x : Int} : inS s x = true ↔ s.1 ≤ x ∧ x < s.2 := by simp [inS]
theorem hasB_iff {L : List Sp} {x : Int} : hasB L x = true ↔ ∃ s ∈ L, s.1 ≤ x ∧ x < s.2 := by simp [hasB, inS]
theorem hasB_nil (x : Int) : hasB [] x = false := rfl
theorem hasB_cons (s : Sp) (L : List Sp) (x : Int) : hasB (s :: L) x = (inS s x || hasB L x) := rfl
theorem hasB_append (L M : List Sp) (x : Int) : hasB (L ++ M) x = (hasB L x || hasB M x) := by simp [hasB]
theorem hasB_false {L : List Sp} {x : Int} (h : ∀ s ∈ L, ¬ (s.1 ≤ x ∧ x < s.2)) : hasB L x = false := by
  cases hb : hasB L x with
  | false => rfl
  | true => obtain ⟨s, hs, h2⟩ := hasB_iff.mp hb; exact absurd h2 (h s hs)

/-- The check of one span, of a list. -/
def okS (s : Sp) : Bool := decide (0 ≤ s.1) && decide (s.1 ≤ s.2) && decide (s.2 ≤ 17179869184)
theorem okS_iff {s : Sp} : okS s = true ↔ 0 ≤ s.1 ∧ s.1 ≤ s.2 ∧ s.2 ≤ 17179869184 := by simp [okS, and_assoc]
def chkE (L : List Sp) : Int := if 256 < L.length then 8 else if L.all okS then 0 else 1
theorem chkE_full {L : List Sp} (h : 256 < L.length) : chkE L = 8 := if_pos h
theorem chkE_ok {L : List Sp} (h : ¬ 256 < L.length) (h2 : L.all okS = true) : chkE L = 0 := by unfold chkE; rw [if_neg h, if_pos h2]
theorem chkE_bad {L : List Sp} (h : ¬ 256 < L.length) (h2 : L.all okS = false) : chkE L = 1 := by unfold chkE; rw [if_neg h, h2]; rfl
theorem chkE_cases (L : List Sp) : chkE L = 8 ∨ chkE L = 1 ∨ chkE L = 0 := by
  unfold chkE; split
  · exact Or.inl rfl
  · split
    · exact Or.inr (Or.inr rfl)
    · exact Or.inr (Or.inl rfl)
theorem chk_len {L : List Sp} (h : chkE L = 0) : L.length ≤ 256 := by
  unfold chkE at h
  by_cases h1 : 256 < L.length
  · rw [if_pos h1] at h; cases h
  · omega
theorem chk_all {L : List Sp} (h : chkE L = 0) : ∀ s ∈ L, 0 ≤ s.1 ∧ s.1 ≤ s.2 ∧ s.2 ≤ 17179869184 := by
  have h1 := chk_len h
  unfold chkE at h
  rw [if_neg (by omega)] at h
  by_cases h2 : L.all okS = true
  · intro s hs; exact okS_iff.mp (List.all_eq_true.mp h2 s hs)
  · rw [if_neg h2] at h; cases h
theorem chk_of {L : List Sp} (h : L.length ≤ 256) (h2 : ∀ s ∈ L, 0 ≤ s.1 ∧ s.1 ≤ s.2 ∧ s.2 ≤ 17179869184) : chkE L = 0 :=
  chkE_ok (by omega) (List.all_eq_true.mpr fun s hs => okS_iff.mpr (h2 s hs))
theorem chk_range {L : List Sp} (h : chkE L = 0) {x : Int} (hx : hasB L x = true) : 0 ≤ x ∧ x < 17179869184 := by
  obtain ⟨s, hs, h1, h2⟩ := hasB_iff.mp hx
  have := chk_all h s hs
  omega

/-- The normal form: spans that are not empty, each beginning behind the end of those before. -/
def Nrm (N : List Sp) : Prop := (∀ s ∈ N, s.1 < s.2) ∧ N.Pairwise fun s t => s.2 < t.1
theorem Nrm.nil : Nrm [] := ⟨fun s h => by simp at h, List.Pairwise.nil⟩
theorem Nrm.tail {s : Sp} {N : List Sp} (h : Nrm (s :: N)) : Nrm N := ⟨fun t ht => h.1 t (List.mem_cons_of_mem _ ht), (List.pairwise_cons.mp h.2).2⟩
theorem Nrm.head {s : Sp} {N : List Sp} (h : Nrm (s :: N)) : s.1 < s.2 := h.1 s (List.mem_cons_self)
theorem Nrm.apart {s : Sp} {N : List Sp} (h : Nrm (s :: N)) : ∀ t ∈ N, s.2 < t.1 := (List.pairwise_cons.mp h.2).1
theorem Nrm.snoc {N : List Sp} {s : Sp} (h : Nrm N) (hs : s.1 < s.2) (hl : ∀ t ∈ N, t.2 < s.1) : Nrm (N ++ [s]) := by
  refine ⟨fun t ht => ?_, List.pairwise_append.mpr ⟨h.2, List.pairwise_singleton _ _, fun t ht u hu => ?_⟩⟩
  · rcases List.mem_append.mp ht with h1 | h1
    · exact h.1 t h1
    · obtain rfl : t = s := by simpa using h1
      exact hs
  · obtain rfl : u = s := by simpa using hu
    exact hl t ht
theorem Nrm.init {N : List Sp} {s : Sp} (h : Nrm (N ++ [s])) : Nrm N ∧ s.1 < s.2 ∧ ∀ t ∈ N, t.2 < s.1 := by
  obtain ⟨h1, h2⟩ := h
  obtain ⟨h3, _, h4⟩ := List.pairwise_append.mp h2
  exact ⟨⟨fun t ht => h1 t (List.mem_append_left _ ht), h3⟩, h1 s (by simp), fun t ht => h4 t ht s (by simp)⟩
/-- In a normal form that begins with s: s's own integers, and integers that are all greater than its end. -/
theorem nrm_cons {s : Sp} {N : List Sp} (h : Nrm (s :: N)) {x : Int} (hx : hasB (s :: N) x = true) : (s.1 ≤ x ∧ x < s.2) ∨ (s.2 < x ∧ hasB N x = true) := by
  rw [hasB_cons, Bool.or_eq_true] at hx
  rcases hx with h1 | h1
  · exact Or.inl (inS_iff.mp h1)
  · obtain ⟨t, ht, h2, h3⟩ := hasB_iff.mp h1
    exact Or.inr ⟨by have := h.apart t ht; omega, h1⟩
theorem has_first {s : Sp} {N : List Sp} (h : Nrm (s :: N)) : hasB (s :: N) s.1 = true := hasB_iff.mpr ⟨s, List.mem_cons_self, by have := h.head; omega⟩

/-- A set has one normal form. -/
theorem nrm_one : ∀ {M N : List Sp}, Nrm M → Nrm N → (∀ x, hasB M x = hasB N x) → M = N
  | [], [], _, _, _ => rfl
  | [], t :: N, _, hN, h => by have := h t.1; rw [has_first hN] at this; cases this
  | s :: M, [], hM, _, h => by have := h s.1; rw [has_first hM] at this; cases this
  | s :: M, t :: N, hM, hN, h => by
    have s1 := hM.head
    have t1 := hN.head
    have a1 : s.1 = t.1 := by
      have p := h s.1
      rw [has_first hM] at p
      have q := h t.1
      rw [has_first hN] at q
      rcases nrm_cons hN p.symm with h1 | h1 <;> rcases nrm_cons hM q with h2 | h2 <;> omega
    have a2 : s.2 = t.2 := by
      rcases Int.lt_trichotomy s.2 t.2 with h1 | h1 | h1
      · have p := h s.2
        have q : hasB (t :: N) s.2 = true := hasB_iff.mpr ⟨t, List.mem_cons_self, by omega, h1⟩
        rw [q] at p
        rcases nrm_cons hM p with h2 | h2 <;> omega
      · exact h1
      · have p := h t.2
        have q : hasB (s :: M) t.2 = true := hasB_iff.mpr ⟨s, List.mem_cons_self, by omega, h1⟩
        rw [q] at p
        rcases nrm_cons hN p.symm with h2 | h2 <;> omega
    obtain rfl : s = t := Prod.ext a1 a2
    rw [nrm_one hM.tail hN.tail fun x => ?_]
    have p := h x
    rw [hasB_cons, hasB_cons] at p
    cases hi : inS s x with
    | false => rw [hi] at p; simpa using p
    | true =>
      have hx := inS_iff.mp hi
      have e1 : hasB M x = false := hasB_false fun u hu => by have := hM.apart u hu; omega
      have e2 : hasB N x = false := hasB_false fun u hu => by have := hN.apart u hu; omega
      rw [e1, e2]

/-- N is the normal form of the set f. -/
def IsNf (f : Int → Bool) (N : List Sp) : Prop := Nrm N ∧ ∀ x, hasB N x = f x
theorem IsNf.one {f : Int → Bool} {M N : List Sp} (h : IsNf f M) (k : IsNf f N) : M = N := nrm_one h.1 k.1 fun x => (h.2 x).trans (k.2 x).symm
theorem IsNf.congr {f g : Int → Bool} {N : List Sp} (h : IsNf f N) (e : ∀ x, f x = g x) : IsNf g N := ⟨h.1, fun x => (h.2 x).trans (e x)⟩
theorem IsNf.self {N : List Sp} (h : Nrm N) : IsNf (hasB N) N := ⟨h, fun _ => rfl⟩
/-- The ends of a normal form lie where the set lies. -/
theorem IsNf.range {f : Int → Bool} {N : List Sp} (h : IsNf f N) (hf : ∀ x, f x = true → 0 ≤ x ∧ x < 17179869184) : ∀ s ∈ N, 0 ≤ s.1 ∧ s.1 ≤ s.2 ∧ s.2 ≤ 17179869184 := by
  intro s hs
  have h1 := h.1.1 s hs
  have h2 := hf s.1 (by rw [← h.2]; exact hasB_iff.mpr ⟨s, hs, by omega, h1⟩)
  have h3 := hf (s.2 - 1) (by rw [← h.2]; exact hasB_iff.mpr ⟨s, hs, by omega, by omega⟩)
  omega
theorem IsNf.chk {f : Int → Bool} {N : List Sp} (h : IsNf f N) (hf : ∀ x, f x = true → 0 ≤ x ∧ x < 17179869184) (hl : N.length ≤ 256) : chkE N = 0 := chk_of hl (h.range hf)

/-- A normal form has no more spans than a list of spans of the same set. -/
theorem starts_length : ∀ {N : List Sp} {A : List Int}, Nrm N → (∀ s ∈ N, s.1 ∈ A) → N.length ≤ A.length
  | [], A, _, _ => Nat.zero_le _
  | s :: N, A, h, hA => by
    have hs := hA s List.mem_cons_self
    have ih := starts_length (A := A.erase s.1) h.tail fun t ht => by
      have h1 := hA t (List.mem_cons_of_mem _ ht)
      have h2 := h.apart t ht
      have h3 := h.head
      exact (List.mem_erase_of_ne (by omega)).mpr h1
    rw [List.length_erase_of_mem hs] at ih
    have : 0 < A.length := List.length_pos_of_mem hs
    simp only [List.length_cons]; omega
theorem nrm_before {N : List Sp} (h : Nrm N) {s : Sp} (hs : s ∈ N) : hasB N (s.1 - 1) = false := by
  cases hb : hasB N (s.1 - 1) with
  | false => rfl
  | true =>
    exfalso
    obtain ⟨t, ht, h1, h2⟩ := hasB_iff.mp hb
    have s1 := h.1 s hs
    have t1 := h.1 t ht
    have key : ∀ {L : List Sp}, L.Pairwise (fun s t : Sp => s.2 < t.1) → s ∈ L → t ∈ L → s = t ∨ s.2 < t.1 ∨ t.2 < s.1 := by
      intro L hp
      induction L with
      | nil => intro h; simp at h
      | cons a L ih =>
        intro hs ht
        obtain ⟨p1, p2⟩ := List.pairwise_cons.mp hp
        rcases List.mem_cons.mp hs with e1 | e1
        · rcases List.mem_cons.mp ht with e2 | e2
          · exact Or.inl (e1.trans e2.symm)
          · exact Or.inr (Or.inl (e1 ▸ p1 t e2))
        · rcases List.mem_cons.mp ht with e2 | e2
          · exact Or.inr (Or.inr (e2 ▸ p1 s e1))
          · exact ih p2 e1 e2
    rcases key h.2 hs ht with rfl | h3 | h3 <;> omega
theorem IsNf.length {L N : List Sp} (h : IsNf (hasB L) N) : N.length ≤ L.length := by
  have := starts_length (A := L.map (·.1)) h.1 fun s hs => by
    have h1 := h.1.1 s hs
    have h2 : hasB L s.1 = true := by rw [← h.2]; exact hasB_iff.mpr ⟨s, hs, by omega, h1⟩
    have h3 := nrm_before h.1 hs
    rw [h.2] at h3
    obtain ⟨t, ht, h4, h5⟩ := hasB_iff.mp h2
    rcases Int.lt_or_eq_of_le h4 with h6 | h6
    · have : hasB L (s.1 - 1) = true := hasB_iff.mpr ⟨t, ht, by omega, by omega⟩
      rw [this] at h3; cases h3
    · exact List.mem_map.mpr ⟨t, ht, h6⟩
  simpa using this

/-- The number of integers from 0 on below n in the set f. -/
def cnt (f : Int → Bool) : Nat → Int
  | 0 => 0
  | n + 1 => cnt f n + if f n then 1 else 0
theorem cnt_or_and (f g : Int → Bool) (n : Nat) : cnt (fun x => f x || g x) n + cnt (fun x => f x && g x) n = cnt f n + cnt g n := by
  induction n with
  | zero => rfl
  | succ n ih =>
    have k : ∀ p q : Bool, ((if (p || q) = true then (1 : Int) else 0) + (if (p && q) = true then 1 else 0)) = (if p = true then 1 else 0) + (if q = true then 1 else 0) := by decide
    have := k (f n) (g n)
    simp only [cnt]; omega
theorem cnt_and_not (f g : Int → Bool) (n : Nat) : cnt (fun x => f x && g x) n + cnt (fun x => f x && !g x) n = cnt f n := by
  induction n with
  | zero => rfl
  | succ n ih =>
    have k : ∀ p q : Bool, ((if (p && q) = true then (1 : Int) else 0) + (if (p && !q) = true then 1 else 0)) = (if p = true then 1 else 0) := by decide
    have := k (f n) (g n)
    simp only [cnt]; omega
theorem cnt_congr {f g : Int → Bool} (h : ∀ x, f x = g x) (n : Nat) : cnt f n = cnt g n := by rw [show f = g from funext h]
theorem cnt_none {f : Int → Bool} (h : ∀ x, f x = false) (n : Nat) : cnt f n = 0 := by
  induction n with
  | zero => rfl
  | succ n ih => simp only [cnt, ih, h]; rfl
theorem cnt_span (s : Sp) (h0 : 0 ≤ s.1) (h1 : s.1 ≤ s.2) (n : Nat) : cnt (inS s) n = (if (n : Int) < s.2 then (if (n : Int) < s.1 then 0 else n - s.1) else s.2 - s.1) := by
  induction n with
  | zero => simp only [cnt]; split <;> (try split) <;> omega
  | succ n ih =>
    simp only [cnt, ih]
    have e : (inS s n = true) ↔ s.1 ≤ (n : Int) ∧ (n : Int) < s.2 := inS_iff
    by_cases hi : inS s n = true
    · rw [if_pos hi]; have := e.mp hi
      repeat' split
      all_goals omega
    · rw [if_neg hi]; have := mt e.mpr hi
      repeat' split
      all_goals omega

/-- The number of integers in a normal form. -/
def tot : List Sp → Int
  | [] => 0
  | s :: l => (s.2 - s.1) + tot l
theorem tot_snoc (l : List Sp) (s : Sp) : tot (l ++ [s]) = tot l + (s.2 - s.1) := by
  induction l with
  | nil => simp [tot]
  | cons a l ih => simp only [List.cons_append, tot, ih]; omega
theorem nrm_tot {N : List Sp} (h : Nrm N) (n : Nat) (hr : ∀ s ∈ N, 0 ≤ s.1 ∧ s.1 ≤ s.2 ∧ s.2 ≤ n) : tot N = cnt (hasB N) n := by
  induction N with
  | nil => exact (cnt_none (f := hasB []) (fun x => rfl) n).symm
  | cons s N ih =>
    have hs := hr s List.mem_cons_self
    have e : ∀ x, hasB (s :: N) x = (inS s x || hasB N x) := fun x => hasB_cons s N x
    have d : ∀ x, (inS s x && hasB N x) = false := fun x => by
      cases hi : inS s x with
      | false => rfl
      | true =>
        have hx := inS_iff.mp hi
        exact hasB_false fun u hu => by have := h.apart u hu; omega
    have c := cnt_or_and (inS s) (hasB N) n
    rw [cnt_none d, ← cnt_congr e, cnt_span s hs.1 hs.2.1, if_neg (by omega), ← ih h.tail fun t ht => hr t (List.mem_cons_of_mem _ ht)] at c
    simp only [tot]; omega
theorem IsNf.tot {f : Int → Bool} {N : List Sp} (h : IsNf f N) (hf : ∀ x, f x = true → 0 ≤ x ∧ x < 17179869184) : tot N = cnt f 17179869184 := by
  rw [nrm_tot h.1 17179869184 (fun s hs => h.range hf s hs)]
  exact cnt_congr h.2 _
theorem tot_bound {N : List Sp} (h : ∀ s ∈ N, 0 ≤ s.1 ∧ s.1 ≤ s.2 ∧ s.2 ≤ 17179869184) : 0 ≤ tot N ∧ tot N ≤ 17179869184 * (N.length : Int) := by
  induction N with
  | nil => simp [Go.Proofs.Ytccbnobpighckaa.Span.tot]
  | cons s N ih =>
    have h1 := h s List.mem_cons_self
    have h2 := ih fun t ht => h t (List.mem_cons_of_mem _ ht)
    simp only [Go.Proofs.Ytccbnobpighckaa.Span.tot, List.length_cons]; omega
#print axioms nrm_one
#print axioms IsNf.length
#print axioms IsNf.tot
end Go.Proofs.Ytccbnobpighckaa.Span
