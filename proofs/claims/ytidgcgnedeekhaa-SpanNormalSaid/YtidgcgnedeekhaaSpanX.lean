/- For the laws SpanNormal, SpanCounts, SpanShifts, SpanFull: what they need of lists and sets. No walk. -/
import Derived.Test.YtidgcgnedeekhaaSpanW
namespace Go.Proofs.Ytidgcgnedeekhaa.Span
open Go.ChangeShapes Go.WideShapes Go.RowKit Go.Lib Go.Proofs
set_option linter.unusedVariables false
set_option maxRecDepth 100000

/-! ### Totals -/
theorem orF_self {L N : List Sp} (h : IsNf (orF L []) N) : IsNf (hasB L) N := h.congr (orF_nil L)
theorem nrm_self {M : List Sp} (h : Nrm M) : IsNf (orF M []) M := (IsNf.self h).congr fun x => (orF_nil M x).symm
/-- The number of integers of a list. -/
def card (L : List Sp) : Int := cnt (hasB L) 17179869184
theorem total_nf (L : List Sp) (A : Option Addr) (c : Nat) (w : World) (ha : Sps w A L) (hm : L.length ≤ 9223372036854775807) (hz : chkE L = 0) :
    Calls Try.prog 20 #[.slice A L.length c] w fun e w' => ∃ N, e = .returned (.tuple #[.int .i64 (tot N), .int .i64 0]) ∧ IsNf (hasB L) N ∧ Below w.heap.size w w' := by
  refine (span_Total L A c w ha hm).mono ?_
  rintro e w' ⟨N, rfl, hnf, hb⟩
  have hN := orF_self (hnf hz)
  have hl := hN.length
  have e0 : cmbE L [] N = 0 := by rw [cmbE_ok hz chk_nil, nfE_ok (by have := chk_len hz; omega)]
  exact ⟨N, by rw [cmbL_ok e0, e0], hN, hb⟩
theorem nf_card {L N : List Sp} (hz : chkE L = 0) (h : IsNf (hasB L) N) : tot N = card L := h.tot fun x hx => chk_range hz hx
theorem nf_bound {L N : List Sp} (hz : chkE L = 0) (h : IsNf (hasB L) N) : 0 ≤ tot N ∧ tot N ≤ 4398046511104 := by
  have h1 := tot_bound (h.range fun x hx => chk_range hz hx)
  have h2 := h.length
  have h3 := chk_len hz
  omega
theorem total_card (L : List Sp) (A : Option Addr) (c : Nat) (w : World) (ha : Sps w A L) (hm : L.length ≤ 9223372036854775807) (hz : chkE L = 0) {t : Int} (ht : t = card L) :
    Calls Try.prog 20 #[.slice A L.length c] w fun e w' => (e = .returned (.tuple #[.int .i64 t, .int .i64 0]) ∧ 0 ≤ t ∧ t ≤ 4398046511104) ∧ Below w.heap.size w w' := by
  refine (total_nf L A c w ha hm hz).mono ?_
  rintro e w' ⟨N, rfl, hN, hb⟩
  have h := nf_card hz hN
  have h2 := nf_bound hz hN
  rw [← ht] at h
  rw [h] at h2
  exact ⟨⟨by rw [h], h2⟩, hb⟩
theorem card_nf {f : Int → Bool} {M : List Sp} (h : IsNf f M) : card M = cnt f 17179869184 := cnt_congr h.2 _
theorem card_sums {a b M0 M1 M2 : List Sp} (h0 : IsNf (orF a b) M0) (h1 : IsNf (andF a b) M1) (h2 : IsNf (notF a b) M2) : card a + card b = card M0 + card M1 ∧ card a = card M1 + card M2 := by
  rw [card_nf h0, card_nf h1, card_nf h2]
  have e1 := cnt_or_and (hasB a) (hasB b) 17179869184
  have e2 := cnt_and_not (hasB a) (hasB b) 17179869184
  exact ⟨e1.symm, e2.symm⟩
theorem set_chk {f : Int → Bool} {a b M : List Sp} (ha : chkE a = 0) (hb : chkE b = 0) (h : IsNf f M) (hl : M.length ≤ 256) (hf : ∀ x, f x = true → hasB a x = true ∨ hasB b x = true) : chkE M = 0 :=
  h.chk (fun x hx => (hf x hx).elim (chk_range ha) (chk_range hb)) hl
theorem orF_sub {a b : List Sp} (x : Int) (h : orF a b x = true) : hasB a x = true ∨ hasB b x = true := by simpa [orF, setF] using h
theorem andF_sub {a b : List Sp} (x : Int) (h : andF a b x = true) : hasB a x = true ∨ hasB b x = true := by
  have : hasB a x = true ∧ hasB b x = true := by simpa [andF, setF] using h
  exact Or.inl this.1
theorem notF_sub {a b : List Sp} (x : Int) (h : notF a b x = true) : hasB a x = true ∨ hasB b x = true := by
  have : hasB a x = true ∧ hasB b x = false := by simpa [notF, setF] using h
  exact Or.inl this.1

/-! ### Normal forms, neighbour by neighbour -/
theorem nrm_at {M : List Sp} (h : Nrm M) {k : Nat} {s : Sp} (hs : M[k]? = some s) : s.1 < s.2 := h.1 s (List.mem_of_getElem? hs)
theorem nrm_next {M : List Sp} (h : Nrm M) {j k : Nat} (hj : j < k) {t s : Sp} (ht : M[j]? = some t) (hs : M[k]? = some s) : t.2 < s.1 := by
  obtain ⟨h1, e1⟩ := List.getElem?_eq_some_iff.mp ht
  obtain ⟨h2, e2⟩ := List.getElem?_eq_some_iff.mp hs
  rw [← e1, ← e2]
  exact List.pairwise_iff_getElem.mp h.2 j k h1 h2 hj

/-! ### Moves -/
theorem hasB_mov (L : List Sp) (n x : Int) : hasB (mov L n) x = hasB L (x - n) := by
  rw [Bool.eq_iff_iff, hasB_iff, hasB_iff]
  constructor
  · rintro ⟨s, hs, h1, h2⟩
    obtain ⟨t, ht, rfl⟩ := List.mem_map.mp hs
    simp only at h1 h2
    exact ⟨t, ht, by omega, by omega⟩
  · rintro ⟨t, ht, h1, h2⟩
    exact ⟨(t.1 + n, t.2 + n), List.mem_map.mpr ⟨t, ht, rfl⟩, by show t.1 + n ≤ x; omega, by show x < t.2 + n; omega⟩
theorem tot_mov (L : List Sp) (n : Int) : tot (mov L n) = tot L := by
  induction L with
  | nil => rfl
  | cons s L ih =>
    show (s.2 + n - (s.1 + n)) + tot (mov L n) = _
    rw [ih]; simp only [tot]; omega
theorem nrm_mov {N : List Sp} (h : Nrm N) (n : Int) : Nrm (mov N n) := by
  refine ⟨fun s hs => ?_, ?_⟩
  · obtain ⟨t, ht, rfl⟩ := List.mem_map.mp hs
    have := h.1 t ht
    show t.1 + n < t.2 + n; omega
  · rw [mov, List.pairwise_map]
    exact h.2.imp fun {s t} hst => by show s.2 + n < t.1 + n; omega
theorem nf_mov {L N : List Sp} (h : IsNf (hasB L) N) (n : Int) : IsNf (hasB (mov L n)) (mov N n) :=
  ⟨nrm_mov h.1 n, fun x => by rw [hasB_mov, hasB_mov, h.2]⟩
theorem mov_total {L N N' : List Sp} {n : Int} (h : IsNf (hasB L) N) (h' : IsNf (hasB (mov L n)) N') : tot N' = tot N := by
  rw [h'.one (nf_mov h n), tot_mov]
theorem mov_chk {L : List Sp} {n : Int} (h : movE L n = 0) : chkE (mov L n) = 0 := by
  obtain ⟨h1, h2⟩ := movE_zero h
  exact chk_of (by rw [mov_length]; exact chk_len h1) fun s hs => okS_iff.mp (List.all_eq_true.mp h2 s hs)

/-! ### SpanFull's two lists -/
def lstA (n : Nat) : List Sp := (List.range n).map fun (i : Nat) => (4 * (i : Int), 4 * (i : Int) + 1)
def lstB (n : Nat) : List Sp := (List.range n).map fun (i : Nat) => (4 * (i : Int) + 2, 4 * (i : Int) + 3)
theorem lstA_length (n : Nat) : (lstA n).length = n := by simp [lstA]
theorem lstB_length (n : Nat) : (lstB n).length = n := by simp [lstB]
theorem lstA_next (n : Nat) : lstA (n + 1) = lstA n ++ [(4 * (n : Int), 4 * (n : Int) + 1)] := by simp [lstA, List.range_succ]
theorem lstB_next (n : Nat) : lstB (n + 1) = lstB n ++ [(4 * (n : Int) + 2, 4 * (n : Int) + 3)] := by simp [lstB, List.range_succ]
theorem lstA_chk {n : Nat} (h : n ≤ 256) : chkE (lstA n) = 0 := chk_of (by rw [lstA_length]; exact h) fun s hs => by
  obtain ⟨i, hi, rfl⟩ := List.mem_map.mp hs
  rw [List.mem_range] at hi
  show 0 ≤ 4 * (i : Int) ∧ 4 * (i : Int) ≤ 4 * (i : Int) + 1 ∧ 4 * (i : Int) + 1 ≤ 17179869184; omega
theorem lstB_chk {n : Nat} (h : n ≤ 256) : chkE (lstB n) = 0 := chk_of (by rw [lstB_length]; exact h) fun s hs => by
  obtain ⟨i, hi, rfl⟩ := List.mem_map.mp hs
  rw [List.mem_range] at hi
  show 0 ≤ 4 * (i : Int) + 2 ∧ 4 * (i : Int) + 2 ≤ 4 * (i : Int) + 3 ∧ 4 * (i : Int) + 3 ≤ 17179869184; omega
/-- The spans of both, place by place. -/
def both (n m : Nat) : Nat → List Sp
  | 0 => []
  | k + 1 => both n m k ++ (if k < n then [(4 * (k : Int), 4 * (k : Int) + 1)] else []) ++ (if k < m then [(4 * (k : Int) + 2, 4 * (k : Int) + 3)] else [])
theorem both_length (n m k : Nat) : (both n m k).length = min k n + min k m := by
  induction k with
  | zero => simp [both]
  | succ k ih =>
    simp only [both, List.length_append, ih]
    split <;> split <;> simp <;> omega
theorem both_below (n m k : Nat) : ∀ s ∈ both n m k, s.2 < 4 * (k : Int) := by
  induction k with
  | zero => intro s hs; simp [both] at hs
  | succ k ih =>
    intro s hs
    simp only [both, List.mem_append] at hs
    rcases hs with (h | h) | h
    · have := ih s h; omega
    · split at h
      · obtain rfl : s = (4 * (k : Int), 4 * (k : Int) + 1) := by simpa using h
        show 4 * (k : Int) + 1 < 4 * ((k + 1 : Nat) : Int); omega
      · simp at h
    · split at h
      · obtain rfl : s = (4 * (k : Int) + 2, 4 * (k : Int) + 3) := by simpa using h
        show 4 * (k : Int) + 3 < 4 * ((k + 1 : Nat) : Int); omega
      · simp at h
theorem both_nrm (n m k : Nat) : Nrm (both n m k) := by
  induction k with
  | zero => exact Nrm.nil
  | succ k ih =>
    have hb := both_below n m k
    have h1 : Nrm (both n m k ++ (if k < n then [(4 * (k : Int), 4 * (k : Int) + 1)] else [])) := by
      split
      · exact ih.snoc (by show 4 * (k : Int) < 4 * (k : Int) + 1; omega) fun t ht => by have := hb t ht; show t.2 < 4 * (k : Int); omega
      · rw [List.append_nil]; exact ih
    have h2 : ∀ s ∈ both n m k ++ (if k < n then [(4 * (k : Int), 4 * (k : Int) + 1)] else []), s.2 < 4 * (k : Int) + 2 := by
      intro s hs
      rcases List.mem_append.mp hs with h | h
      · have := hb s h; omega
      · split at h
        · obtain rfl : s = (4 * (k : Int), 4 * (k : Int) + 1) := by simpa using h
          show 4 * (k : Int) + 1 < _; omega
        · simp at h
    show Nrm (both n m k ++ (if k < n then [(4 * (k : Int), 4 * (k : Int) + 1)] else []) ++ (if k < m then [(4 * (k : Int) + 2, 4 * (k : Int) + 3)] else []))
    by_cases hk : k < m
    · rw [if_pos hk]
      exact h1.snoc (by show 4 * (k : Int) + 2 < 4 * (k : Int) + 3; omega) h2
    · rw [if_neg hk, List.append_nil]; exact h1
theorem both_mem (n m k : Nat) (s : Sp) : s ∈ both n m k ↔ (∃ i : Nat, i < k ∧ i < n ∧ s = (4 * (i : Int), 4 * (i : Int) + 1)) ∨ ∃ i : Nat, i < k ∧ i < m ∧ s = (4 * (i : Int) + 2, 4 * (i : Int) + 3) := by
  induction k with
  | zero => simp [both]
  | succ k ih =>
    simp only [both, List.mem_append, ih]
    constructor
    · rintro ((h | h) | h)
      · rcases h with ⟨i, h1, h2, h3⟩ | ⟨i, h1, h2, h3⟩
        · exact Or.inl ⟨i, by omega, h2, h3⟩
        · exact Or.inr ⟨i, by omega, h2, h3⟩
      · split at h
        · exact Or.inl ⟨k, by omega, by assumption, by simpa using h⟩
        · simp at h
      · split at h
        · exact Or.inr ⟨k, by omega, by assumption, by simpa using h⟩
        · simp at h
    · rintro (⟨i, h1, h2, h3⟩ | ⟨i, h1, h2, h3⟩)
      · rcases Nat.lt_or_eq_of_le (Nat.le_of_lt_succ h1) with h | rfl
        · exact Or.inl (Or.inl (Or.inl ⟨i, h, h2, h3⟩))
        · exact Or.inl (Or.inr (by rw [if_pos h2, h3]; simp))
      · rcases Nat.lt_or_eq_of_le (Nat.le_of_lt_succ h1) with h | rfl
        · exact Or.inl (Or.inl (Or.inr ⟨i, h, h2, h3⟩))
        · exact Or.inr (by rw [if_pos h2, h3]; simp)
theorem both_nf (n m : Nat) : IsNf (orF (lstA n) (lstB m)) (both n m (n + m)) := by
  refine ⟨both_nrm _ _ _, fun x => ?_⟩
  show _ = (hasB (lstA n) x || hasB (lstB m) x)
  rw [Bool.eq_iff_iff, Bool.or_eq_true, hasB_iff, hasB_iff, hasB_iff]
  constructor
  · rintro ⟨s, hs, h1, h2⟩
    rcases (both_mem _ _ _ _).mp hs with ⟨i, _, h3, rfl⟩ | ⟨i, _, h3, rfl⟩
    · exact Or.inl ⟨_, List.mem_map.mpr ⟨i, List.mem_range.mpr h3, rfl⟩, h1, h2⟩
    · exact Or.inr ⟨_, List.mem_map.mpr ⟨i, List.mem_range.mpr h3, rfl⟩, h1, h2⟩
  · rintro (⟨s, hs, h1, h2⟩ | ⟨s, hs, h1, h2⟩)
    · obtain ⟨i, hi, rfl⟩ := List.mem_map.mp hs
      rw [List.mem_range] at hi
      exact ⟨_, (both_mem _ _ _ _).mpr (Or.inl ⟨i, by omega, hi, rfl⟩), h1, h2⟩
    · obtain ⟨i, hi, rfl⟩ := List.mem_map.mp hs
      rw [List.mem_range] at hi
      exact ⟨_, (both_mem _ _ _ _).mpr (Or.inr ⟨i, by omega, hi, rfl⟩), h1, h2⟩
theorem both_total (n m : Nat) : (both n m (n + m)).length = n + m := by rw [both_length]; omega
#print axioms total_card
#print axioms card_sums
#print axioms mov_total
#print axioms both_nf
end Go.Proofs.Ytidgcgnedeekhaa.Span
