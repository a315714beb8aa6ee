/- Piecewise isometries: runs, their images, normal forms. Pure. -/
import Derived.Test.YtnblpooimgpgoaaRows
namespace Go.Proofs.Ytnblpooimgpgoaa.Iso
set_option linter.unusedVariables false

theorem lt_of_get {α : Type} {l : List α} {j : Nat} {x : α} (h : l[j]? = some x) : j < l.length := by
  rw [List.getElem?_eq_some_iff] at h; exact h.1
/-- A run: where it begins, how many integers, backwards. -/
abbrev Rn := Int × Int × Bool
/-- The image of integer k of a run; all images; the last one. -/
def im (r : Rn) (k : Nat) : Int := if r.2.2 then r.1 - k else r.1 + k
def exR (r : Rn) : List Int := (List.range r.2.1.toNat).map (im r)
def ex (m : List Rn) : List Int := m.flatMap exR
def las (r : Rn) : Int := im r (r.2.1.toNat - 1)
/-- A run alone in normal form. -/
def okR (r : Rn) : Prop := 1 ≤ r.2.1 ∧ (r.2.1 = 1 → r.2.2 = false)
/-- The run c can be made longer by the image x. -/
def can (c : Rn) (x : Int) : Bool := (decide (x = las c + 1) && (decide (c.2.1 = 1) || !c.2.2)) || (decide (x = las c - 1) && (decide (c.2.1 = 1) || c.2.2))
structure NF (m : List Rn) : Prop where
  ok : ∀ (i : Nat) r, m[i]? = some r → okR r
  no : ∀ (i : Nat) c r, m[i]? = some c → m[i + 1]? = some r → can c r.1 = false

/-! ### Images -/
section
variable {r c : Rn} {m p : List Rn} {k : Nat}
theorem im_zero (r : Rn) : im r 0 = r.1 := by unfold im; split <;> simp
theorem exR_len (r : Rn) : (exR r).length = r.2.1.toNat := by simp [exR]
theorem exR_at (h : k < r.2.1.toNat) : (exR r)[k]? = some (im r k) := by
  unfold exR; rw [List.getElem?_map, List.getElem?_range h]; rfl
theorem exR_no (h : r.2.1.toNat ≤ k) : (exR r)[k]? = none := List.getElem?_eq_none (by rw [exR_len]; exact h)
theorem ex_nil : ex [] = [] := rfl
theorem ex_cons (r : Rn) (m : List Rn) : ex (r :: m) = exR r ++ ex m := by simp [ex]
theorem ex_append (m p : List Rn) : ex (m ++ p) = ex m ++ ex p := by simp [ex]
theorem ex_one (r : Rn) : ex [r] = exR r := by simp [ex]
theorem NF.nil : NF [] := ⟨fun i r h => by simp at h, fun i c r h => by simp at h⟩
theorem NF.tail (h : NF (r :: m)) : NF m := ⟨fun i s hs => h.ok (i + 1) s hs, fun i c s h1 h2 => h.no (i + 1) c s h1 h2⟩
theorem NF.head (h : NF (r :: m)) : okR r := h.ok 0 r rfl
theorem NF.next (h : NF (r :: c :: m)) : can r c.1 = false := h.no 0 r c rfl rfl
theorem ex_first (h : 1 ≤ r.2.1) : (ex (r :: m))[0]? = some r.1 := by
  rw [ex_cons, List.getElem?_append_left (by rw [exR_len]; omega), exR_at (by omega), im_zero]
theorem ex_in (h : k < r.2.1.toNat) : (ex (r :: m))[k]? = some (im r k) := by
  rw [ex_cons, List.getElem?_append_left (by rw [exR_len]; omega), exR_at h]
theorem ex_off (h : r.2.1.toNat ≤ k) : (ex (r :: m))[k]? = (ex m)[k - r.2.1.toNat]? := by
  rw [ex_cons, List.getElem?_append_right (by rw [exR_len]; exact h), exR_len]
theorem can_up (h1 : r.2.1 = 1 ∨ r.2.2 = false) : can r (las r + 1) = true := by
  unfold can; rcases h1 with h | h <;> simp [h]
theorem can_down (h1 : r.2.1 = 1 ∨ r.2.2 = true) : can r (las r - 1) = true := by
  unfold can; rcases h1 with h | h <;> simp [h]
theorem im_succ (h : 1 ≤ r.2.1) : im r r.2.1.toNat = if r.2.2 then las r - 1 else las r + 1 := by
  unfold las im; split <;> omega

/-! ### One normal form -/
theorem head_not_lt {r' : Rn} {m' : List Rn} (h : NF (r :: m)) (h' : NF (r' :: m')) (he : ex (r :: m) = ex (r' :: m')) : ¬ r.2.1 < r'.2.1 := by
  intro hlt
  have h1 := h.head.1
  have h1' := h'.head.1
  have ha : r.1 = r'.1 := by
    have e := ex_first (m := m) h1
    rw [he, ex_first h1'] at e
    exact (Option.some.inj e).symm
  have hn : (ex (r :: m))[r.2.1.toNat]? = some (im r' r.2.1.toNat) := by rw [he]; exact ex_in (by omega)
  rw [ex_off (Nat.le_refl _), Nat.sub_self] at hn
  cases m with
  | nil => simp [ex] at hn
  | cons s m =>
    rw [ex_first h.tail.head.1] at hn
    have hs := Option.some.inj hn
    have hno := h.next
    rw [hs] at hno
    have hb : r.2.1 = 1 ∨ r.2.2 = r'.2.2 := by
      rcases Int.lt_or_le 1 r.2.1 with h2 | h2
      · right
        have e1 := ex_in (r := r) (m := s :: m) (k := 1) (by omega)
        rw [he, ex_in (by omega)] at e1
        have e2 := Option.some.inj e1
        unfold im at e2
        cases h3 : r.2.2 <;> cases h4 : r'.2.2 <;> simp [h3, h4] at e2 ⊢ <;> omega
      · left; omega
    have hl : im r' r.2.1.toNat = if r'.2.2 then las r - 1 else las r + 1 := by
      rcases hb with hb | hb
      · unfold las im
        rw [hb, ha]; cases r'.2.2 <;> cases r.2.2 <;> simp
      · have e3 : im r' r.2.1.toNat = im r r.2.1.toNat := by unfold im; rw [hb, ha]
        rw [e3, im_succ h1, hb]
    rw [hl] at hno
    cases h4 : r'.2.2 with
    | true =>
      rw [h4, if_pos rfl, can_down (hb.imp id (fun e => e.trans h4))] at hno; cases hno
    | false =>
      rw [h4, if_neg (by simp), can_up (hb.imp id (fun e => e.trans h4))] at hno; cases hno
theorem head_one {r' : Rn} {m' : List Rn} (h : NF (r :: m)) (h' : NF (r' :: m')) (he : ex (r :: m) = ex (r' :: m')) : r = r' := by
  have h1 := h.head.1
  have h1' := h'.head.1
  have hn : r.2.1 = r'.2.1 := by have := head_not_lt h h' he; have := head_not_lt h' h he.symm; omega
  have ha : r.1 = r'.1 := by
    have e := ex_first (m := m) h1
    rw [he, ex_first h1'] at e
    exact (Option.some.inj e).symm
  have hb : r.2.2 = r'.2.2 := by
    rcases Int.lt_or_le 1 r.2.1 with h2 | h2
    · have e1 := ex_in (r := r) (m := m) (k := 1) (by omega)
      rw [he, ex_in (by omega)] at e1
      have e2 := Option.some.inj e1
      unfold im at e2
      cases h3 : r.2.2 <;> cases h4 : r'.2.2 <;> simp [h3, h4] at e2 ⊢ <;> omega
    · rw [h.head.2 (by omega), h'.head.2 (by omega)]
  obtain ⟨a, n, b⟩ := r
  obtain ⟨a', n', b'⟩ := r'
  simp at ha hn hb
  rw [ha, hn, hb]
/-- Maps in normal form with the same images are the same. -/
theorem nf_one : ∀ {m m' : List Rn}, NF m → NF m' → ex m = ex m' → m = m'
  | [], [], _, _, _ => rfl
  | [], r' :: m', _, h', he => by
    have := ex_first (m := m') h'.head.1
    rw [← he] at this; simp [ex] at this
  | r :: m, [], h, _, he => by
    have := ex_first (m := m) h.head.1
    rw [he] at this; simp [ex] at this
  | r :: m, r' :: m', h, h', he => by
    obtain rfl := head_one h h' he
    rw [ex_cons, ex_cons] at he
    rw [nf_one h.tail h'.tail (List.append_cancel_left he)]

/-! ### A further run -/
theorem NF.left (h : NF (p ++ [c])) : NF p :=
  ⟨fun i s hs => h.ok i s (by rw [List.getElem?_append_left (lt_of_get hs)]; exact hs), fun i d s h1 h2 => h.no i d s (by rw [List.getElem?_append_left (lt_of_get h1)]; exact h1) (by rw [List.getElem?_append_left (lt_of_get h2)]; exact h2)⟩
theorem NF.last (h : NF (p ++ [c])) : okR c := h.ok p.length c (by simp)
theorem NF.bef (h : NF (p ++ [c])) (i : Nat) (d : Rn) (hi : i + 1 = p.length) (hd : p[i]? = some d) : can d c.1 = false :=
  h.no i d c (by rw [List.getElem?_append_left (lt_of_get hd)]; exact hd) (by rw [hi]; simp)
theorem NF.snoc (h : NF p) (hc : okR c) (hb : ∀ (i : Nat) d, i + 1 = p.length → p[i]? = some d → can d c.1 = false) : NF (p ++ [c]) := by
  refine ⟨fun i s hs => ?_, fun i d s h1 h2 => ?_⟩
  · rcases Nat.lt_or_ge i p.length with hi | hi
    · rw [List.getElem?_append_left hi] at hs; exact h.ok i s hs
    · rw [List.getElem?_append_right hi] at hs
      have : i - p.length < 1 := lt_of_get hs
      rw [show i - p.length = 0 by omega] at hs
      simp at hs; subst hs; exact hc
  · rcases Nat.lt_or_ge (i + 1) p.length with hi | hi
    · rw [List.getElem?_append_left (by omega)] at h1
      rw [List.getElem?_append_left hi] at h2
      exact h.no i d s h1 h2
    · rw [List.getElem?_append_right hi] at h2
      have : i + 1 - p.length < 1 := lt_of_get h2
      rw [show i + 1 - p.length = 0 by omega] at h2
      simp at h2; subst h2
      rw [List.getElem?_append_left (by omega)] at h1
      exact hb i d (by omega) h1
theorem NF.swap {c' : Rn} (h : NF (p ++ [c])) (hc : okR c') (ha : c'.1 = c.1) : NF (p ++ [c']) :=
  h.left.snoc hc fun i d hi hd => by rw [ha]; exact h.bef i d hi hd
theorem NF.snoc2 {c' r : Rn} (h : NF (p ++ [c'])) (hr : okR r) (hn : can c' r.1 = false) : NF (p ++ [c', r]) := by
  have e : p ++ [c', r] = (p ++ [c']) ++ [r] := by simp
  rw [e]
  refine h.snoc hr fun i d hi hd => ?_
  simp at hi
  rw [show i = p.length by omega] at hd
  simp at hd; subst hd; exact hn
/-- A run alone, in normal form. -/
def nrmR (r : Rn) : Rn := (r.1, r.2.1, r.2.2 && decide (1 < r.2.1))
theorem nrmR_ok (h : 1 ≤ r.2.1) : okR (nrmR r) := by
  refine ⟨h, fun e => ?_⟩
  show (r.2.2 && decide (1 < r.2.1)) = false
  rw [decide_eq_false (by simp [nrmR] at e; omega)]; simp
theorem nrmR_ex (r : Rn) : exR (nrmR r) = exR r := by
  unfold exR nrmR
  simp only
  apply List.map_congr_left
  intro k hk
  have := List.mem_range.mp hk
  unfold im
  simp only
  rcases Int.lt_or_le 1 r.2.1 with h | h
  · rw [decide_eq_true h, Bool.and_true]
  · obtain rfl : k = 0 := by omega
    cases r.2.2 <;> simp
/-- The last run made longer. -/
def addC (p : List Rn) (c r : Rn) : List Rn :=
  if can c r.1 then
    if r.2.1 = 1 ∨ r.2.2 = decide (r.1 = las c - 1) then p ++ [(c.1, c.2.1 + r.2.1, decide (r.1 = las c - 1))]
    else p ++ [(c.1, c.2.1 + 1, decide (r.1 = las c - 1)), nrmR (im r 1, r.2.1 - 1, r.2.2)]
  else p ++ [c, nrmR r]
theorem can_iff {x : Int} : can c x = true ↔ (x = las c + 1 ∧ (c.2.1 = 1 ∨ c.2.2 = false)) ∨ (x = las c - 1 ∧ (c.2.1 = 1 ∨ c.2.2 = true)) := by
  unfold can
  simp [Bool.or_eq_true, Bool.and_eq_true]
/-- What the longer run has: the images of both. -/
theorem ex_join {n : Int} {s : Rn} (hc : 1 ≤ c.2.1) (hn : 1 ≤ n) (hs : s.2.1 = n) (hcan : can c s.1 = true) (hd : n = 1 ∨ s.2.2 = decide (s.1 = las c - 1)) : exR (c.1, c.2.1 + n, decide (s.1 = las c - 1)) = exR c ++ exR s := by
  obtain ⟨N, hN⟩ : ∃ N : Nat, c.2.1 = (N : Int) := ⟨c.2.1.toNat, by omega⟩
  obtain ⟨K, hK⟩ : ∃ K : Nat, n = (K : Int) := ⟨n.toNat, by omega⟩
  have hl : las c = if c.2.2 then c.1 - (N - 1 : Nat) else c.1 + (N - 1 : Nat) := by unfold las im; rw [hN, Int.toNat_natCast]
  apply List.ext_getElem?
  intro k
  rcases Nat.lt_or_ge k N with hk | hk
  · rw [List.getElem?_append_left (by rw [exR_len]; omega), exR_at (r := c) (by omega), exR_at (by show k < (c.2.1 + n).toNat; omega)]
    congr 1
    unfold im
    simp only
    rcases can_iff.mp hcan with ⟨h1, h2⟩ | ⟨h1, h2⟩
    · rw [decide_eq_false (by omega), if_neg (by simp)]
      rcases h2 with h2 | h2
      · obtain rfl : k = 0 := by omega
        split <;> omega
      · rw [h2, if_neg (by simp)]
    · rw [decide_eq_true h1, if_pos rfl]
      rcases h2 with h2 | h2
      · obtain rfl : k = 0 := by omega
        split <;> omega
      · rw [h2, if_pos rfl]
  · rw [List.getElem?_append_right (by rw [exR_len]; omega), exR_len]
    rcases Nat.lt_or_ge k (N + K) with hk2 | hk2
    · rw [exR_at (r := s) (by omega), exR_at (by show k < (c.2.1 + n).toNat; omega)]
      congr 1
      unfold im
      simp only
      have hkk : ((k - c.2.1.toNat : Nat) : Int) = (k : Int) - (N : Int) := by omega
      rw [hkk]
      have hd' : k = N ∨ s.2.2 = decide (s.1 = las c - 1) := by
        rcases hd with hd | hd
        · left; omega
        · right; exact hd
      rcases can_iff.mp hcan with ⟨h1, h2⟩ | ⟨h1, h2⟩
      · rw [decide_eq_false (show ¬ s.1 = las c - 1 by omega)] at hd' ⊢
        rw [if_neg (by simp)]
        have hcl : c.1 + (N : Int) = s.1 := by
          rw [h1, hl]
          rcases h2 with h2 | h2
          · split <;> omega
          · rw [h2, if_neg (by simp)]; omega
        rcases hd' with hd' | hd'
        · split <;> omega
        · rw [hd', if_neg (by simp)]; omega
      · rw [decide_eq_true h1] at hd' ⊢
        rw [if_pos rfl]
        have hcl : c.1 - (N : Int) = s.1 := by
          rw [h1, hl]
          rcases h2 with h2 | h2
          · split <;> omega
          · rw [h2, if_pos rfl]; omega
        rcases hd' with hd' | hd'
        · split <;> omega
        · rw [hd', if_pos rfl]; omega
    · rw [exR_no (by show (c.2.1 + n).toNat ≤ k; omega), exR_no (by omega)]
theorem addC_ok (h : NF (p ++ [c])) (hr : 1 ≤ r.2.1) : NF (addC p c r) ∧ ex (addC p c r) = ex (p ++ [c]) ++ exR r ∧ (addC p c r).length ≤ p.length + 2 := by
  have hc := h.last.1
  unfold addC
  cases hcan : can c r.1 with
  | false =>
    rw [if_neg (by simp)]
    refine ⟨h.snoc2 (nrmR_ok hr) hcan, ?_, by simp⟩
    rw [show p ++ [c, nrmR r] = (p ++ [c]) ++ [nrmR r] by simp, ex_append, ex_one, nrmR_ex]
  | true =>
    rw [if_pos rfl]
    by_cases hd : r.2.1 = 1 ∨ r.2.2 = decide (r.1 = las c - 1)
    · rw [if_pos hd]
      refine ⟨h.swap ⟨by show 1 ≤ c.2.1 + r.2.1; omega, fun e => by simp at e; omega⟩ rfl, ?_, by simp⟩
      rw [ex_append, ex_append, ex_one, ex_one, ex_join hc hr rfl hcan hd, List.append_assoc]
    · rw [if_neg hd]
      have hr2 : 2 ≤ r.2.1 := by omega
      have hb : r.2.2 = !decide (r.1 = las c - 1) := by
        cases h1 : r.2.2 <;> cases h2 : decide (r.1 = las c - 1) <;> simp [h1, h2] at hd ⊢
      have hj := ex_join (c := c) (n := 1) (s := (r.1, 1, false)) hc (by omega) rfl hcan (Or.inl rfl)
      refine ⟨(h.swap (c' := (c.1, c.2.1 + 1, decide (r.1 = las c - 1))) ⟨by show 1 ≤ c.2.1 + 1; omega, fun e => by simp at e; omega⟩ rfl).snoc2 (nrmR_ok (by show 1 ≤ r.2.1 - 1; omega)) ?_, ?_, by simp⟩
      · have hl : las (c.1, c.2.1 + 1, decide (r.1 = las c - 1)) = r.1 := by
          have e1 : (exR (c.1, c.2.1 + 1, decide (r.1 = las c - 1)))[c.2.1.toNat]? = some r.1 := by
            rw [hj, List.getElem?_append_right (by rw [exR_len]; exact Nat.le_refl _), exR_len, Nat.sub_self, exR_at (by show 0 < (1 : Int).toNat; decide), im_zero]
          rw [exR_at (by show c.2.1.toNat < (c.2.1 + 1).toNat; omega)] at e1
          unfold las
          rw [show (c.2.1 + 1).toNat - 1 = c.2.1.toNat by omega]
          exact Option.some.inj e1
        cases hx : can (c.1, c.2.1 + 1, decide (r.1 = las c - 1)) (nrmR (im r 1, r.2.1 - 1, r.2.2)).1 with
        | false => rfl
        | true =>
          exfalso
          have hi : (nrmR (im r 1, r.2.1 - 1, r.2.2)).1 = if r.2.2 then r.1 - 1 else r.1 + 1 := by unfold nrmR im; rfl
          rw [hi] at hx
          rcases can_iff.mp hx with ⟨k1, k2⟩ | ⟨k1, k2⟩
          · rw [hl] at k1
            rcases k2 with k2 | k2
            · simp at k2; omega
            · simp only at k2
              rw [k2] at hb
              simp at hb
              rw [hb, if_pos rfl] at k1; omega
          · rw [hl] at k1
            rcases k2 with k2 | k2
            · simp at k2; omega
            · simp only at k2
              rw [k2] at hb
              simp at hb
              rw [hb, if_neg (by simp)] at k1; omega
      · rw [show p ++ [(c.1, c.2.1 + 1, decide (r.1 = las c - 1)), nrmR (im r 1, r.2.1 - 1, r.2.2)] = (p ++ [(c.1, c.2.1 + 1, decide (r.1 = las c - 1))]) ++ [nrmR (im r 1, r.2.1 - 1, r.2.2)] by simp, ex_append, ex_append, ex_append, ex_one, ex_one, ex_one, nrmR_ex, hj]
        have hsp : exR r = exR (r.1, 1, false) ++ exR (im r 1, r.2.1 - 1, r.2.2) := by
          obtain ⟨K, hK⟩ : ∃ K : Nat, r.2.1 = (K : Int) := ⟨r.2.1.toNat, by omega⟩
          apply List.ext_getElem?
          intro k
          have l1 : (exR (r.1, 1, false)).length = 1 := by rw [exR_len]; rfl
          rcases Nat.lt_or_ge k 1 with hk | hk
          · obtain rfl : k = 0 := by omega
            rw [List.getElem?_append_left (by omega), exR_at (by omega), exR_at (by show 0 < (1 : Int).toNat; decide), im_zero, im_zero]
          · rw [List.getElem?_append_right (by omega), l1]
            rcases Nat.lt_or_ge k K with hk2 | hk2
            · rw [exR_at (by omega), exR_at (by show k - 1 < (r.2.1 - 1).toNat; omega)]
              congr 1
              unfold im
              simp only
              split <;> simp [*] <;> omega
            · rw [exR_no (by omega), exR_no (by show (r.2.1 - 1).toNat ≤ k - 1; omega)]
        rw [hsp]
        simp [List.append_assoc]
end
/-- A map in normal form with a further run. -/
def addR (m : List Rn) (r : Rn) : List Rn := match m.getLast? with
  | none => [nrmR r]
  | some c => addC m.dropLast c r
theorem addR_nil (r : Rn) : addR [] r = [nrmR r] := rfl
theorem addR_snoc (p : List Rn) (c r : Rn) : addR (p ++ [c]) r = addC p c r := by unfold addR; simp
theorem snoc_cases {α : Type} (m : List α) : m = [] ∨ ∃ p c, m = p ++ [c] := by
  rcases List.eq_nil_or_concat m with h | ⟨p, c, h⟩
  · exact Or.inl h
  · exact Or.inr ⟨p, c, by simpa using h⟩
theorem addR_ok {m : List Rn} {r : Rn} (h : NF m) (hr : 1 ≤ r.2.1) : NF (addR m r) ∧ ex (addR m r) = ex m ++ exR r ∧ (addR m r).length ≤ m.length + 1 := by
  rcases snoc_cases m with rfl | ⟨p, c, rfl⟩
  · rw [addR_nil]
    refine ⟨NF.nil.snoc (p := []) (nrmR_ok hr) fun i d hi hd => by simp at hd, by rw [ex_one, nrmR_ex]; rfl, by simp⟩
  · rw [addR_snoc]
    have := addC_ok (r := r) h hr
    refine ⟨this.1, this.2.1, by simpa using this.2.2⟩
/-- The normal form of a map: its runs one after the other. -/
def norm (m : List Rn) : List Rn := m.foldl addR []
theorem foldl_ok : ∀ (m a : List Rn), NF a → (∀ r ∈ m, 1 ≤ r.2.1) → NF (m.foldl addR a) ∧ ex (m.foldl addR a) = ex a ++ ex m ∧ (m.foldl addR a).length ≤ a.length + m.length
  | [], a, ha, _ => ⟨ha, by simp [ex], by simp⟩
  | r :: m, a, ha, h => by
    have h1 := addR_ok (r := r) ha (h r (by simp))
    have h2 := foldl_ok m (addR a r) h1.1 fun s hs => h s (by simp [hs])
    refine ⟨h2.1, ?_, ?_⟩
    · rw [List.foldl_cons, h2.2.1, h1.2.1, ex_cons, List.append_assoc]
    · rw [List.foldl_cons]; have := h1.2.2; have := h2.2.2; simp; omega
theorem norm_ok {m : List Rn} (h : ∀ r ∈ m, 1 ≤ r.2.1) : NF (norm m) ∧ ex (norm m) = ex m ∧ (norm m).length ≤ m.length := by
  have := foldl_ok m [] NF.nil h
  refine ⟨this.1, by rw [norm, this.2.1]; simp [ex], by simpa [norm] using this.2.2⟩
/-- No map with the same images has fewer runs than the normal form. -/
theorem nf_least {m m' : List Rn} (h : NF m) (h' : ∀ r ∈ m', 1 ≤ r.2.1) (he : ex m = ex m') : m.length ≤ m'.length := by
  have k := norm_ok h'
  rw [nf_one h k.1 (by rw [he, k.2.1])]
  exact k.2.2
theorem norm_of {m m' : List Rn} (h : NF m) (h' : ∀ r ∈ m', 1 ≤ r.2.1) (he : ex m = ex m') : m = norm m' := by
  have k := norm_ok h'
  exact nf_one h k.1 (by rw [he, k.2.1])
theorem norm_self {m : List Rn} (h : NF m) : norm m = m := (norm_of h (fun r hr => by
  obtain ⟨i, hi⟩ := List.mem_iff_getElem?.mp hr
  exact (h.ok i r hi).1) rfl).symm
#print axioms nf_one
#print axioms norm_ok
#print axioms nf_least
end Go.Proofs.Ytnblpooimgpgoaa.Iso
