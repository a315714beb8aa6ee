/- Several texts in one: ChestU, ChestW, ChestX, ChestH, ChestM. -/
import Derived.Test.YtagjimdplmimoaaGreatPk20
import Derived.Test.YtagjimdplmimoaaGreatPk17
import Derived.Test.YtagjimdplmimoaaGreatPk16
import Derived.Test.YtagjimdplmimoaaGreatPk7
import Derived.Test.YtagjimdplmimoaaGreatPk19
/- The exact tank beside the chest (pure). -/
namespace Go.Proofs.YtagjimdplmimoaaGreat.Chest
open Go.Proofs.YtagjimdplmimoaaGreat.Share (partsL partsL_len partsL_at sumK sumK_zero sumK_succ)
open Go.Proofs.YtagjimdplmimoaaGreat.Tank (MM lisE_mk lisE_of inM inM_iff qI qI_val qI_ok qI_fit qI_num qI_le qs ts qs_ts ts_len ts_at qs_at sumR sumR_nonneg poV poV_at poV_get poV_fit qIs qIs_at qIs_len filB filV ckT ckP_ok TOk ckT_of sumE_few sumV_ts vT_tri cmpG_pos cross_le tkX tkY tkE tkE_of tkF drY triR rT_tri neg_iff)
open Go.Proofs.YtagjimdplmimoaaGreat.Rw (glt get_lt)
set_option linter.unusedVariables false

/-! ### Numbers with a common denominator -/
theorem den_le {q : Rat} {B : Nat} {a : Int} (hB : 0 < B) (h : q * (B : Rat) = (a : Rat)) : q.den ≤ B ∧ q.num.natAbs ≤ a.natAbs := by
  have hB0 : (B : Rat) ≠ 0 := fun e => by
    have := Rat.natCast_eq_zero_iff.mp e
    omega
  have hq : mkRat a B = q := by
    rw [Rat.mkRat_eq_div, ← h]
    show q * (B : Rat) / ((B : Nat) : Rat) = q
    rw [Rat.div_def, Rat.mul_assoc, Rat.mul_inv_cancel _ hB0, Rat.mul_one]
  obtain ⟨m, hm, h1, h2⟩ := Rat.mkRat_num_den (d := B) (n := a) (n' := q.num) (d' := q.den) (z' := q.den_nz) (c := q.reduced) (by omega) (by rw [hq])
  have hm1 : 1 ≤ m := by omega
  refine ⟨by rw [h2]; exact Nat.le_mul_of_pos_right _ hm1, ?_⟩
  rw [h1, Int.natAbs_mul, Int.natAbs_natCast]
  exact Nat.le_mul_of_pos_right _ hm1

/-! ### Sums -/
theorem sumK_cons (a : Int) (l : List Int) : ∀ k, k ≤ l.length → sumK (a :: l) (k + 1) = a + sumK l k
  | 0, _ => by rw [sumK_succ (ws := a :: l) (k := 0) (z := a) rfl, sumK_zero, sumK_zero]; omega
  | k + 1, h => by
    obtain ⟨z, hz⟩ := get_lt (L := l) (k := k) (by omega)
    have hz2 : (a :: l)[k + 1]? = some z := by rw [List.getElem?_cons_succ]; exact hz
    rw [sumK_succ hz2, sumK_succ hz, sumK_cons a l k (by omega)]; omega
theorem sumZ_cons (a : Int) (l : List Int) : sumZ (a :: l) = a + sumZ l := sumK_cons a l l.length (Nat.le_refl _)
theorem sumR_ints : ∀ m : List Int, sumR (qIs m) = ((sumZ m : Int) : Rat)
  | [] => rfl
  | a :: l => by
    rw [show qIs (a :: l) = qI a :: qIs l from rfl, sumR, sumR_ints l, qI_val, sumZ_cons, Rat.intCast_add]
theorem sumR_poV : ∀ {l m : List Rat}, l.length = m.length → sumR (poV l m) = sumR l + sumR m
  | [], [], _ => by rw [poV, sumR, Rat.add_zero]; intro _ _ _ _ h; cases h
  | q :: l, x :: m, h => by
    rw [poV, sumR, sumR, sumR, sumR_poV (l := l) (m := m) (by simpa using h)]
    grind
  | [], x :: m, h => by cases h
  | q :: l, [], h => by cases h
theorem le_sumR : ∀ {l : List Rat}, (∀ q ∈ l, 0 ≤ q) → ∀ q ∈ l, q ≤ sumR l
  | [], _, q, h => by simp at h
  | a :: l, hp, q, h => by
    have h1 := sumR_nonneg fun q hq => hp q (List.mem_cons_of_mem _ hq)
    have h2 := hp a (List.mem_cons_self ..)
    rw [sumR]
    rcases List.mem_cons.mp h with rfl | h
    · grind
    · have := le_sumR (fun q hq => hp q (List.mem_cons_of_mem _ hq)) q h
      grind
theorem sumR_zeros (n : Nat) : sumR (List.replicate n (0 : Rat)) = 0 := by
  induction n with
  | zero => rfl
  | succ n ih => rw [List.replicate_succ, sumR, ih, Rat.add_zero]

/-! ### A chest and a tank side by side -/
/-- The chest C and the tank Q, d draws after they were equal. -/
structure Nr (d : Nat) (C : List Int) (Q : List Rat) (B : Nat) : Prop where
  ok : COk MM C
  len : Q.length = C.length
  fit : ∀ q ∈ Q, fitR q = true
  pos : ∀ q ∈ Q, 0 ≤ q
  sum : sumR Q = ((sumZ C : Int) : Rat)
  near : ∀ (k : Nat) (c : Int) (q : Rat), C[k]? = some c → Q[k]? = some q → (d = 0 → q = (c : Rat)) ∧ (0 < d → (c : Rat) - q < ((d : Int) : Rat) ∧ q - (c : Rat) < ((d : Int) : Rat))
  b0 : 0 < B
  b1 : B ≤ 1099511627776 ^ d
  den : ∀ q ∈ Q, ∃ a : Int, q * (B : Rat) = (a : Rat)
section
variable {d B : Nat} {C m : List Int} {Q : List Rat} {t : Int}
theorem ck_two (hf : ∀ q ∈ Q, fitR q = true) (hp : ∀ q ∈ Q, 0 ≤ q) (h1 : 1 ≤ Q.length) (h8 : Q.length ≤ 8) (hs : sumR Q ≤ qI MM) : ckT MM (ts Q) = 0 ∨ ckT MM (ts Q) = 2 := by
  have hok := ckP_ok (l := ts Q) fun j u hu => by
    obtain ⟨q, hq, rfl⟩ := List.mem_map.mp (List.mem_of_getElem? hu)
    exact ⟨vT_tri (hf q hq), neg_iff.mpr (hp q hq)⟩
  unfold Tank.ckT Tank.ckN Tank.ckS
  rw [if_pos (show (1 : Int) ≤ MM ∧ MM ≤ MM by decide), if_pos (by rw [ts_len]; exact ⟨h1, h8⟩), if_pos hok]
  rcases sumE_few (Q := Q) (by omega) hf with h0 | h0
  · rw [if_pos h0]
    by_cases hc : crossOk (sumV (ts Q)) (qI MM) = true
    · rw [if_pos hc]
      left
      rw [if_neg fun h => by
        have h2 := (cmpG_pos hc).mp h
        rw [sumV_ts hf h0] at h2
        exact absurd hs (Rat.not_le.mpr h2)]
    · rw [if_neg hc]; exact Or.inr rfl
  · rw [h0, if_neg (by decide)]; exact Or.inr rfl
theorem Nr.ck (h : Nr d C Q B) : ckT MM (ts Q) = 0 ∨ ckT MM (ts Q) = 2 := by
  have hl := h.ok.len
  refine ck_two h.fit h.pos (by rw [h.len]; exact hl.1) (by rw [h.len]; exact hl.2) ?_
  rw [h.sum, qI_val]
  exact Rat.intCast_le_intCast.mpr h.ok.sum
theorem filE_of {cap : Int} {L m : List Int} (h : filE cap L m = 0) : ckC cap L = 0 ∧ Tank.parE m (L.length : Int) = 0 ∧ ¬ cap < sumZ L + sumZ m := by
  by_cases h1 : ckC cap L = 0
  rotate_left
  · rw [filE_ck h1] at h; exact absurd h h1
  by_cases h2 : Tank.parE m (L.length : Int) = 0
  rotate_left
  · rw [filE_par h1 h2] at h; exact absurd h h2
  rw [filE_end h1 h2] at h
  refine ⟨h1, h2, fun h3 => ?_⟩
  rw [if_pos h3] at h; cases h
theorem qIs_mem {m : List Int} (hz : ∀ z ∈ m, 0 ≤ z ∧ z ≤ MM) : ∀ x ∈ qIs m, fitR x = true ∧ 0 ≤ x := fun x hx => by
  obtain ⟨z, h1, rfl⟩ := List.mem_map.mp hx
  refine ⟨qI_fit (hz z h1).1 (hz z h1).2, ?_⟩
  rw [qI_val]
  exact Rat.intCast_nonneg.mpr (hz z h1).1
theorem qs_len' (hf : ∀ q ∈ Q, fitR q = true) : qs (ts Q) = Q := qs_ts hf
theorem Nr.ts_length (h : Nr d C Q B) : (ts Q).length = C.length := by rw [ts_len]; exact h.len
/-- What a fill of the tank gives, if it has no error. -/
theorem tfil_of (h : Nr d C Q B) (hf : Tank.filE MM (ts Q) m = 0) : Tank.parE m (C.length : Int) = 0 ∧ filB Q m = true ∧ ckT MM (ts (filV Q m)) = 0 := by
  unfold Tank.filE at hf
  rw [qs_ts h.fit, h.ts_length] at hf
  by_cases h1 : ckT MM (ts Q) = 0
  rotate_left
  · rw [if_neg h1] at hf; exact absurd hf h1
  rw [if_pos h1] at hf
  by_cases h2 : Tank.parE m (C.length : Int) = 0
  rotate_left
  · rw [if_neg h2] at hf; exact absurd hf h2
  rw [if_pos h2] at hf
  by_cases h3 : filB Q m = true
  rotate_left
  · rw [if_neg h3] at hf; cases hf
  rw [if_pos h3] at hf
  exact ⟨h2, h3, hf⟩
theorem fil_fits (h : Nr d C Q B) (hp : Tank.parE m (C.length : Int) = 0) (hb : filB Q m = true) : (∀ q ∈ filV Q m, fitR q = true ∧ 0 ≤ q) ∧ (filV Q m).length = C.length ∧ sumR (filV Q m) = ((sumZ C + sumZ m : Int) : Rat) := by
  obtain ⟨m1, m2, m3, m4⟩ := lisE_of hp
  have hq := qIs_mem m4
  have hl : Q.length = (qIs m).length := by rw [qIs_len, h.len]; omega
  refine ⟨fun q hz => ⟨poV_fit h.fit (fun x hx => (hq x hx).1) hb q hz, ?_⟩, ?_, ?_⟩
  · obtain ⟨k, hk⟩ := List.mem_iff_getElem?.mp hz
    obtain ⟨u, v, hu, hv, rfl⟩ := poV_get hk
    exact Rat.add_nonneg (h.pos u (List.mem_of_getElem? hu)) (hq v (List.mem_of_getElem? hv)).2
  · show (poV Q (qIs m)).length = _
    rw [Tank.poV_len hl, h.len]
  · show sumR (poV Q (qIs m)) = _
    rw [sumR_poV hl, h.sum, sumR_ints, Rat.intCast_add]
theorem Nr.fill_eq (h : Nr d C Q B) : (filE MM C m = 0 → Tank.filE MM (ts Q) m = 0 ∨ Tank.filE MM (ts Q) m = 2) ∧ (¬ filE MM C m = 0 → ¬ Tank.filE MM (ts Q) m = 0) := by
  have hl := h.ok.len
  refine ⟨fun he => ?_, fun he hf => ?_⟩
  · obtain ⟨-, hp, hs⟩ := filE_of he
    unfold Tank.filE
    rw [qs_ts h.fit, h.ts_length]
    rcases h.ck with h1 | h1
    · rw [if_pos h1, if_pos hp]
      by_cases h3 : filB Q m = true
      · rw [if_pos h3]
        obtain ⟨f1, f2, f3⟩ := fil_fits h hp h3
        refine ck_two (fun q hq => (f1 q hq).1) (fun q hq => (f1 q hq).2) (by rw [f2]; exact hl.1) (by rw [f2]; exact hl.2) ?_
        rw [f3, qI_val]
        exact Rat.intCast_le_intCast.mpr (by omega)
      · rw [if_neg h3]; exact Or.inr rfl
    · rw [h1, if_neg (by decide)]; exact Or.inr rfl
  · obtain ⟨hp, hb, hk⟩ := tfil_of h hf
    obtain ⟨f1, f2, f3⟩ := fil_fits h hp hb
    have hlev := (ckT_of hk).level
    rw [qs_ts fun q hq => (f1 q hq).1] at hlev
    have h1 := hlev.2.1
    rw [hlev.1, f3, qI_val] at h1
    have h2 := Rat.intCast_le_intCast.mp h1
    apply he
    rw [filE_end h.ok.ck hp, if_neg (by omega)]
theorem Nr.fill (h : Nr d C Q B) (he : filE MM C m = 0) (hf : Tank.filE MM (ts Q) m = 0) : Nr d (plusL C m) (filV Q m) B := by
  obtain ⟨-, hp, hs⟩ := filE_of he
  obtain ⟨-, hb, -⟩ := tfil_of h hf
  obtain ⟨f1, f2, f3⟩ := fil_fits h hp hb
  obtain ⟨m1, m2, m3, m4⟩ := lisE_of hp
  have hml : m.length = C.length := by omega
  have hpl := plus_len hml
  have hz : ∀ z ∈ plusL C m, 0 ≤ z := fun z hz => by
    obtain ⟨k, hk⟩ := List.mem_iff_getElem?.mp hz
    have hkl := glt hk
    rw [hpl] at hkl
    obtain ⟨x, hx⟩ := get_lt (L := C) (k := k) hkl
    obtain ⟨y, hy⟩ := get_lt (L := m) (k := k) (by omega)
    rw [plus_at hx hy] at hk
    cases hk
    have h1 := m4 y (List.mem_of_getElem? hy)
    have h2 := h.ok.all x (List.mem_of_getElem? hx)
    omega
  have hsz : sumZ (plusL C m) = sumZ C + sumZ m := sumZ_plus hml
  refine ⟨⟨h.ok.room, by rw [hpl]; exact h.ok.len, fun z h1 => ⟨hz z h1, ?_⟩, by rw [hsz]; omega⟩, by rw [hpl, f2], fun q hq => (f1 q hq).1, fun q hq => (f1 q hq).2, by rw [hsz]; exact f3, ?_, h.b0, h.b1, ?_⟩
  · obtain ⟨k, hk⟩ := List.mem_iff_getElem?.mp h1
    have := le_sum hz hk
    omega
  · intro k c q hc hq
    have hkl := glt hc
    rw [hpl] at hkl
    obtain ⟨x, hx⟩ := get_lt (L := C) (k := k) hkl
    obtain ⟨y, hy⟩ := get_lt (L := m) (k := k) (by omega)
    rw [plus_at hx hy] at hc
    cases hc
    obtain ⟨u, v, hu, hv, rfl⟩ := poV_get hq
    rw [qIs_at hy] at hv
    cases hv
    have hn := h.near k x u hx hu
    rw [qI_val, Rat.intCast_add]
    refine ⟨fun h0 => by rw [hn.1 h0], fun h0 => ?_⟩
    have := hn.2 h0
    grind
  · intro q hq
    obtain ⟨k, hk⟩ := List.mem_iff_getElem?.mp hq
    obtain ⟨u, v, hu, hv, rfl⟩ := poV_get hk
    obtain ⟨z, hz1, rfl⟩ := List.mem_map.mp (List.mem_of_getElem? hv)
    obtain ⟨a, ha⟩ := h.den u (List.mem_of_getElem? hu)
    refine ⟨a + z * B, ?_⟩
    rw [Rat.add_mul, ha, qI_val, Rat.intCast_add, Rat.intCast_mul, Rat.intCast_natCast]
end
end Go.Proofs.YtagjimdplmimoaaGreat.Chest
/- The exact tank beside the chest: draws, the start, differences (pure). -/
namespace Go.Proofs.YtagjimdplmimoaaGreat.Chest
open Go.Proofs.YtagjimdplmimoaaGreat.Share (partsL partsL_len partsL_at sumK sumK_zero sumK_succ)
open Go.Proofs.YtagjimdplmimoaaGreat.Tank (MM inM inM_iff qI qI_val qI_ok qI_fit qI_num qI_le qs ts qs_ts ts_len ts_at qs_at sumR sumR_nonneg ckT TOk ckT_of sumV_ts cmpG_pos cross_le tkX tkY tkE tkE_of tkF drY triR neg_iff qI_zero0 cmpQ_val')
open Go.Proofs.YtagjimdplmimoaaGreat.Rw (glt get_lt)
set_option linter.unusedVariables false

/-! ### Draws -/
theorem okE_two' (b : Bool) : okE b = 0 ∨ okE b = 2 := by cases b <;> simp [okE]
theorem tkE_two {p m v : Rat} (hv : ¬ v.num = 0) : tkE p m v = 0 ∨ tkE p m v = 2 := by
  have hd : divEr (p * m) v = okE (mulOk (p * m) v⁻¹) := if_neg hv
  unfold Tank.tkE
  by_cases h1 : mulOk p m = true
  · rw [if_pos h1]
    by_cases h2 : divEr (p * m) v = 0
    · rw [if_pos h2]; exact okE_two' _
    · rw [if_neg h2, hd]; exact okE_two' _
  · rw [if_neg h1]; exact Or.inr rfl
theorem tkF_two {m v : Rat} : ∀ {l : List Rat}, (∀ p ∈ l, tkE p m v = 0 ∨ tkE p m v = 2) → tkF m v l = 0 ∨ tkF m v l = 2
  | [], _ => Or.inl rfl
  | p :: l, h => by
    rw [Tank.tkF]
    by_cases h1 : tkE p m v = 0
    · rw [if_pos h1]; exact tkF_two fun q hq => h q (List.mem_cons_of_mem _ hq)
    · rw [if_neg h1]; exact h p (List.mem_cons_self ..)
section
variable {d B : Nat} {C m : List Int} {Q : List Rat} {t : Int}
theorem Nr.level (h : Nr d C Q B) (hk : ckT MM (ts Q) = 0) : sumV (ts Q) = ((sumZ C : Int) : Rat) := by
  rw [sumV_ts h.fit (ckT_of hk).sum]; exact h.sum
theorem Nr.draw_eq (h : Nr d C Q B) : (drE MM C t = 0 → Tank.drE MM (ts Q) t = 0 ∨ Tank.drE MM (ts Q) t = 2) ∧ (¬ drE MM C t = 0 → ¬ Tank.drE MM (ts Q) t = 0) := by
  refine ⟨fun he => ?_, fun he hf => ?_⟩
  · obtain ⟨ok, t0, tl⟩ := drE_of he
    have hp := ok.pos
    unfold Tank.drE
    rcases h.ck with h1 | h1
    · rw [if_pos h1]
      unfold Tank.drM
      rw [if_pos (inM_iff.mpr ⟨t0, by omega⟩)]
      have hv := h.level h1
      have hc := cross_le (ckT_of h1) t0 (show t ≤ MM by omega)
      rw [if_neg fun hor => by
        rcases hor with h2 | h2
        · omega
        · have h3 := (cmpG_pos hc).mp h2
          rw [hv, qI_val] at h3
          have := Rat.intCast_lt_intCast.mp h3
          omega]
      by_cases h0 : t = 0
      · rw [if_pos h0]; exact Or.inl rfl
      · rw [if_neg h0]
        refine tkF_two fun p _ => tkE_two ?_
        rw [hv]
        show ¬ sumZ C = 0
        omega
    · rw [h1, if_neg (by decide)]; exact Or.inr rfl
  · have hd := Tank.drE_of hf
    have hv := h.level hd.t.err
    have h1 := hd.mass_le
    rw [hv, qI_val] at h1
    have h2 := Rat.intCast_le_intCast.mp h1
    have h3 := hd.m0
    rcases drE_no h.ok.ck he with h4 | h4 <;> omega
/-- One step of a difference. -/
theorem draw_step {S t c p d : Int} {q y : Rat} (S0 : 0 < S) (t0 : 0 ≤ t) (tS : t ≤ S) (hd : 0 ≤ d) (h1 : p * S < t * c + S) (h2 : t * c < p * S + S)
    (hn : (d = 0 → q = (c : Rat)) ∧ (0 < d → (c : Rat) - q < (d : Rat) ∧ q - (c : Rat) < (d : Rat))) (hy : y * (S : Rat) = q * ((S : Rat) - (t : Rat))) :
    ((c - p : Int) : Rat) - y < ((d + 1 : Int) : Rat) ∧ y - ((c - p : Int) : Rat) < ((d + 1 : Int) : Rat) := by
  have S0' : (0 : Rat) < (S : Rat) := Rat.intCast_pos.mpr S0
  have k1 : ((p * S : Int) : Rat) < ((t * c + S : Int) : Rat) := Rat.intCast_lt_intCast.mpr h1
  have k2 : ((t * c : Int) : Rat) < ((p * S + S : Int) : Rat) := Rat.intCast_lt_intCast.mpr h2
  rw [Rat.intCast_mul, Rat.intCast_add, Rat.intCast_mul] at k1
  rw [Rat.intCast_mul, Rat.intCast_add, Rat.intCast_mul] at k2
  rw [Rat.intCast_sub, Rat.intCast_add, Rat.intCast_one]
  have t0' : (0 : Rat) ≤ (t : Rat) := Rat.intCast_nonneg.mpr t0
  have d0' : (0 : Rat) ≤ (d : Rat) := Rat.intCast_nonneg.mpr hd
  have tS' : (t : Rat) ≤ (S : Rat) := Rat.intCast_le_intCast.mpr tS
  have st : (0 : Rat) ≤ (S : Rat) - (t : Rat) := by grind
  have dt : (0 : Rat) ≤ (d : Rat) * (t : Rat) := Rat.mul_nonneg d0' t0'
  obtain ⟨X, hX⟩ : ∃ X, ((c : Rat) - q) * ((S : Rat) - (t : Rat)) = X := ⟨_, rfl⟩
  have e : ((c : Rat) - (p : Rat) - y) * (S : Rat) = X + ((t : Rat) * (c : Rat) - (p : Rat) * (S : Rat)) := by grind
  have hb : X ≤ (d : Rat) * (S : Rat) ∧ -X ≤ (d : Rat) * (S : Rat) := by
    by_cases h0 : d = 0
    · have hq := hn.1 h0
      have hx0 : X = 0 := by rw [← hX, hq]; grind
      have : (0 : Rat) ≤ (d : Rat) * (S : Rat) := Rat.mul_nonneg d0' (Rat.le_of_lt S0')
      rw [hx0]
      exact ⟨this, by grind⟩
    · obtain ⟨n1, n2⟩ := hn.2 (by omega)
      have a1 := Rat.mul_le_mul_of_nonneg_right (Rat.le_of_lt n1) st
      have a2 := Rat.mul_le_mul_of_nonneg_right (Rat.le_of_lt n2) st
      constructor <;> grind
  constructor
  · refine Rat.not_le.mp fun hge => ?_
    have := Rat.mul_le_mul_of_nonneg_right hge (Rat.le_of_lt S0')
    grind
  · refine Rat.not_le.mp fun hge => ?_
    have := Rat.mul_le_mul_of_nonneg_right hge (Rat.le_of_lt S0')
    grind
theorem part_near_int {T x V : Nat} {p : Int} (h0 : 0 < V) (h1 : ((T * x / V : Nat) : Int) ≤ p) (h2 : p ≤ ((T * x / V + (if T * x % V = 0 then 0 else 1) : Nat) : Int)) : p * (V : Int) < (T : Int) * (x : Int) + (V : Int) ∧ (T : Int) * (x : Int) < p * (V : Int) + (V : Int) := by
  have e1 := Nat.div_add_mod (T * x) V
  have e2 := Nat.mod_lt (T * x) h0
  have e3 : (T : Int) * (x : Int) = ((T * x : Nat) : Int) := by rw [Int.natCast_mul]
  rw [e3]
  generalize T * x = P at *
  generalize hD : P / V = D at *
  generalize hR : P % V = R at *
  have e4 : ((V * D + R : Nat) : Int) = (P : Int) := by rw [e1]
  rw [Int.natCast_add, Int.natCast_mul] at e4
  by_cases hr : R = 0
  · rw [if_pos hr] at h2
    obtain rfl : p = (D : Int) := by omega
    rw [Int.mul_comm (D : Int) (V : Int)]
    constructor <;> omega
  · rw [if_neg hr] at h2
    have : p = (D : Int) ∨ p = (D : Int) + 1 := by omega
    rcases this with rfl | rfl
    · rw [Int.mul_comm (D : Int) (V : Int)]
      constructor <;> omega
    · rw [Int.add_mul, Int.one_mul, Int.mul_comm (D : Int) (V : Int)]
      constructor <;> omega
theorem less_none {L : List Int} (ok : COk MM L) : lessL L (partsL 0 L) = L := by
  have sok := dr_ok ok (Int.le_refl 0) ok.pos.1
  have hl := partsL_len 0 L
  have h0 : ∀ z ∈ partsL 0 L, 0 ≤ z := fun z hz => (parts_lim ok (Int.le_refl 0) ok.pos.1 z hz).1
  apply List.ext_getElem?
  intro k
  rcases Nat.lt_or_ge k L.length with hk | hk
  · obtain ⟨x, hx⟩ := get_lt (L := L) (k := k) hk
    obtain ⟨p, hp⟩ := get_lt (L := partsL 0 L) (k := k) (by omega)
    have h1 := le_sum h0 hp
    have h2 := h0 p (List.mem_of_getElem? hp)
    rw [dr_sum sok] at h1
    rw [less_at hx hp, hx, show x - p = x by omega]
  · rw [List.getElem?_eq_none (by rw [less_len hl]; exact hk), List.getElem?_eq_none hk]
theorem pow_more {B d N : Nat} (h : B ≤ 1099511627776 ^ d) (hN : N ≤ 1099511627776) : B * N ≤ 1099511627776 ^ (d + 1) := by
  rw [Nat.pow_succ]; exact Nat.mul_le_mul h hN
theorem Nr.draw (h : Nr d C Q B) (he : drE MM C t = 0) (hf : Tank.drE MM (ts Q) t = 0) : ∃ B', Nr (d + 1) (lessL C (partsL t C)) (drY (ts Q) t) B' := by
  obtain ⟨ok, t0, tl⟩ := drE_of he
  have hd := Tank.drE_of hf
  have hv := h.level hd.t.err
  by_cases hz : t = 0
  · subst hz
    refine ⟨B, ?_⟩
    have hy : drY (ts Q) 0 = Q := by
      unfold Tank.drY
      rw [qs_ts h.fit]
      simp
    rw [less_none ok, hy]
    refine ⟨h.ok, h.len, h.fit, h.pos, h.sum, fun k c q hc hq => ⟨fun e => by omega, fun _ => ?_⟩, h.b0, Nat.le_trans h.b1 (Nat.pow_le_pow_right (by decide) (by omega)), h.den⟩
    have hn := h.near k c q hc hq
    rw [Int.natCast_add, Rat.intCast_add, show (((1 : Nat) : Int) : Rat) = 1 from rfl]
    by_cases h0 : d = 0
    · have := hn.1 h0
      subst h0
      rw [this, show (((0 : Nat) : Int) : Rat) = 0 from rfl]
      grind
    · have := hn.2 (by omega)
      grind
  obtain ⟨N, hN⟩ : ∃ N : Nat, sumZ C = (N : Int) := ⟨(sumZ C).toNat, by have := ok.pos; omega⟩
  obtain ⟨T, rfl⟩ : ∃ T : Nat, t = (T : Int) := ⟨t.toNat, by omega⟩
  rw [hN] at tl hv
  have hN0 : 0 < N := by omega
  have hNM : N ≤ 1099511627776 := by have h1 := ok.pos; have hM : MM = 1099511627776 := rfl; omega
  have sok := dr_ok ok t0 (by rw [hN]; exact tl)
  have hpl := partsL_len (T : Int) C
  have hNR : ((N : Int) : Rat) ≠ 0 := fun e => by have := Rat.intCast_eq_zero_iff.mp e; omega
  have hy : drY (ts Q) (T : Int) = Q.map fun p => tkY p (qI (T : Int)) ((N : Int) : Rat) := by
    unfold Tank.drY
    rw [qs_ts h.fit, hv]
    exact List.map_congr_left fun p _ => if_neg hz
  have hyS : ∀ q : Rat, tkY q (qI (T : Int)) ((N : Int) : Rat) * ((N : Int) : Rat) = q * (((N : Int) : Rat) - ((T : Int) : Rat)) := fun q => by
    rw [Tank.tkY_eq, qI_val]
    have := Rat.mul_inv_cancel _ hNR
    grind
  have htk := hd.tk hz
  rw [hv, qs_ts h.fit] at htk
  have hsum := Tank.dr_rest hf
  rw [hv, qI_val] at hsum
  refine ⟨B * N, ?_⟩
  rw [hy] at hsum ⊢
  refine ⟨ok_less ok t0 (by rw [hN]; exact tl), by rw [List.length_map, less_len hpl]; exact h.len, fun q hq => ?_, fun q hq => ?_, ?_, fun k c q hc hq => ⟨fun e => by omega, fun _ => ?_⟩, Nat.mul_pos h.b0 hN0, pow_more h.b1 hNM, fun q hq => ?_⟩
  · obtain ⟨p, hp, rfl⟩ := List.mem_map.mp hq
    obtain ⟨a1, a2, a3⟩ := tkE_of (htk p hp)
    exact Tank.fit_sub (h.fit p hp) (Tank.fit_div a2) a3
  · obtain ⟨p, hp, rfl⟩ := List.mem_map.mp hq
    refine (Tank.tk_nonneg (h.pos p hp) ?_ ?_ ?_).2
    · rw [qI_val]; exact Rat.intCast_nonneg.mpr t0
    · exact Rat.intCast_pos.mpr (by omega)
    · rw [qI_val]; exact Rat.intCast_le_intCast.mpr tl
  · rw [hsum, sumZ_less hpl, dr_sum sok, hN, Rat.intCast_sub]; grind
  · have hkl := glt hc
    rw [less_len hpl] at hkl
    obtain ⟨x, hx⟩ := get_lt (L := C) (k := k) hkl
    obtain ⟨p, hp⟩ := get_lt (L := partsL (T : Int) C) (k := k) (by omega)
    rw [less_at hx hp] at hc
    cases hc
    rw [List.getElem?_map] at hq
    obtain ⟨u, hu⟩ := get_lt (L := Q) (k := k) (by rw [h.len]; exact hkl)
    rw [hu] at hq
    cases hq
    have hx0 := ok.all x (List.mem_of_getElem? hx)
    obtain ⟨xn, rfl⟩ : ∃ n : Nat, x = (n : Int) := ⟨x.toNat, by omega⟩
    have hnr := dr_near sok hN rfl hN0 hx hp
    have hni := part_near_int hN0 hnr.1 hnr.2
    have hn := h.near k _ u hx hu
    rw [Int.natCast_add]
    refine draw_step (S := (N : Int)) (t := (T : Int)) (by omega) t0 tl (by omega) hni.1 hni.2 ⟨fun e => hn.1 (by omega), fun e => hn.2 (by omega)⟩ (hyS u)
  · obtain ⟨p, hp, rfl⟩ := List.mem_map.mp hq
    obtain ⟨a, ha⟩ := h.den p hp
    refine ⟨a * ((N : Int) - (T : Int)), ?_⟩
    rw [Rat.natCast_mul, Rat.intCast_mul, Rat.intCast_sub, ← ha]
    have h1 := hyS p
    rw [Rat.intCast_natCast] at h1 ⊢
    grind
theorem fit_zero : fitR (0 : Rat) = true := by rw [← qI_zero0]; exact qI_fit (by decide) (by decide)
theorem Nr.start {n : Nat} (h1 : 1 ≤ n) (h8 : n ≤ 8) : Nr 0 (List.replicate n 0) (List.replicate n 0) 1 := by
  have hok : COk MM (List.replicate n 0) := ckC_ok (by rw [ckC_new h1 h8, if_pos (by decide)])
  refine ⟨hok, by rw [List.length_replicate, List.length_replicate], fun q hq => ?_, fun q hq => ?_, ?_, fun k c q hc hq => ⟨fun _ => ?_, fun e => by omega⟩, by decide, by decide, fun q hq => ⟨0, ?_⟩⟩
  · rw [List.eq_of_mem_replicate hq]; exact fit_zero
  · rw [List.eq_of_mem_replicate hq]; exact Rat.le_refl
  · rw [sumR_zeros]
    have : sumZ (List.replicate n 0) = 0 := by unfold sumZ; rw [List.length_replicate]; exact sumK_zeros n n (Nat.le_refl _)
    rw [this]; rfl
  · rw [List.eq_of_mem_replicate (List.mem_of_getElem? hc), List.eq_of_mem_replicate (List.mem_of_getElem? hq)]; rfl
  · rw [List.eq_of_mem_replicate hq, Rat.zero_mul]; rfl
end
end Go.Proofs.YtagjimdplmimoaaGreat.Chest
/- How far a part is from the exact one: far (gen18/x.py). -/
namespace Go.Proofs.YtagjimdplmimoaaGreat.Chest
open Go.ChangeShapes Go.WideShapes Go.RowKit Go.Lib
open Go.Proofs.YtagjimdplmimoaaGreat.Tank (MM qI qI_val qI_fit qI_num qI_zero0 cmpQ_val' yq_Of yq_Sub yq_Cmp Kep inR_cells sumR neg_iff)
open Go.Proofs.YtagjimdplmimoaaGreat.Rw (glt get_lt below_alloc bstep below_drewN below_drew drew_below)
set_option linter.unusedVariables false
set_option maxRecDepth 100000

theorem cmpG_neg {r s : Rat} (h : crossOk r s = true) (k : r < s) : cmpG r s < 0 := by
  unfold cmpG
  rw [if_pos h, cmpQ_val']
  rw [Rat.lt_iff] at k
  rw [cmpI_lt k]; decide
theorem cmpG_same {r : Rat} : cmpG r r = 0 := by
  unfold cmpG
  split
  · rw [cmpQ_val', cmpI_eq]
  · rfl
def lim : Nat := 1099511627776 * 1099511627776 ^ 8
theorem lim_big : 20 * lim < big48 := by unfold lim big48; decide +kernel
theorem lim_pos : 1 ≤ lim := by unfold lim; decide +kernel
/-- The amount of a number. -/
def abR (r : Rat) : Rat := if negR r then -r else r
/-- What far computes is within what fits, and says no. -/
structure FarOk (c : Int) (q : Rat) (d : Nat) : Prop where
  c0 : 0 ≤ c
  c1 : c ≤ MM
  d1 : d ≤ 8
  fit : fitR q = true
  sub : subOk (qI c) q = true
  rfit : fitR (subOp (qI c) q) = true
  afit : fitR (abR (subOp (qI c) q)) = true
  cross : crossOk (abR (subOp (qI c) q)) (qI (d : Int)) = true
  less : 0 < d → cmpG (abR (subOp (qI c) q)) (qI (d : Int)) < 0
  same : d = 0 → cmpG (abR (subOp (qI c) q)) (qI (d : Int)) = 0
theorem Nr.far {d B : Nat} {C : List Int} {Q : List Rat} (h : Nr d C Q B) (hd : d ≤ 8) {k : Nat} {c : Int} {q : Rat} (hc : C[k]? = some c) (hq : Q[k]? = some q) : FarOk c q d := by
  have hM : MM = 1099511627776 := rfl
  have hcl := h.ok.all c (List.mem_of_getElem? hc)
  have hqm := List.mem_of_getElem? hq
  have hf := h.fit q hqm
  have hq0 := h.pos q hqm
  obtain ⟨a, ha⟩ := h.den q hqm
  have hB8 : B ≤ 1099511627776 ^ 8 := Nat.le_trans h.b1 (Nat.pow_le_pow_right (by decide) hd)
  have hBl : 1099511627776 * B ≤ lim := Nat.mul_le_mul_left _ hB8
  have hlb := lim_big
  have hB0' : (0 : Rat) ≤ (B : Rat) := Rat.natCast_nonneg
  have ha0 : 0 ≤ a := by
    have := Rat.mul_nonneg hq0 hB0'
    rw [ha] at this
    exact Rat.intCast_nonneg.mp this
  have haM : a ≤ 1099511627776 * (B : Int) := by
    have h1 := le_sumR h.pos q hqm
    rw [h.sum] at h1
    have h2 : ((sumZ C : Int) : Rat) ≤ ((1099511627776 : Int) : Rat) := Rat.intCast_le_intCast.mpr (by have := h.ok.pos; omega)
    have h3 := Rat.mul_le_mul_of_nonneg_right (Rat.le_trans h1 h2) hB0'
    rw [ha, ← Rat.intCast_natCast, ← Rat.intCast_mul] at h3
    exact Rat.intCast_le_intCast.mp h3
  obtain ⟨hden, hnum⟩ := den_le h.b0 ha
  have hcB : c * (B : Int) ≤ 1099511627776 * (B : Int) := Int.mul_le_mul_of_nonneg_right (by omega) (by omega)
  have hcB0 : 0 ≤ c * (B : Int) := Int.mul_nonneg hcl.1 (by omega)
  have hcd : c.natAbs * q.den ≤ 1099511627776 * B := Nat.mul_le_mul (by omega) hden
  have hsub : subOk (qI c) q = true := by
    unfold subOk sumOk
    rw [(qI_num c).1, (qI_num c).2, (neg_parts q).1, (neg_parts q).2, Int.natAbs_neg, Nat.mul_one, Nat.one_mul]
    rw [decide_eq_true (show c.natAbs * q.den < big48 by omega), decide_eq_true (show q.num.natAbs < big48 by omega), decide_eq_true (show q.den < big48 by omega), decide_eq_true (show c.natAbs * q.den + q.num.natAbs < big48 by omega), Bool.or_true]
    rfl
  have hrf := Tank.fit_sub (qI_fit hcl.1 (by omega)) hf hsub
  obtain ⟨r, hr⟩ : ∃ r, subOp (qI c) q = r := ⟨_, rfl⟩
  have hr2 : r = (c : Rat) - q := by rw [← hr]; unfold subOp; rw [qI_val]; grind
  rw [hr] at hrf
  have hrB : r * (B : Rat) = ((c * (B : Int) - a : Int) : Rat) := by
    rw [hr2, Rat.intCast_sub, Rat.intCast_mul, Rat.intCast_natCast, ← ha]; grind
  have habB : ∃ z : Int, abR r * (B : Rat) = (z : Rat) ∧ z.natAbs ≤ 1099511627776 * B := by
    unfold abR
    split
    · refine ⟨-(c * (B : Int) - a), ?_, by omega⟩
      rw [Rat.intCast_neg, ← hrB]; grind
    · exact ⟨_, hrB, by omega⟩
  obtain ⟨z, hz, hzl⟩ := habB
  obtain ⟨h1, h2⟩ := den_le h.b0 hz
  have hn := h.near k c q hc hq
  have hcross : crossOk (abR r) (qI (d : Int)) = true := by
    unfold crossOk
    rw [(qI_num _).1, (qI_num _).2, Nat.mul_one, Int.natAbs_natCast]
    have h3 : d * (abR r).den ≤ 8 * B := Nat.mul_le_mul hd h1
    rw [decide_eq_true (show (abR r).num.natAbs < big48 by omega), decide_eq_true (show d * (abR r).den < big48 by omega)]
    rfl
  refine ⟨hcl.1, by omega, hd, hf, hsub, by rw [hr]; exact hrf, ?_, by rw [hr]; exact hcross, fun h0 => ?_, fun h0 => ?_⟩
  · rw [hr]
    unfold abR
    split
    · exact fit_neg hrf
    · exact hrf
  · rw [hr]
    refine cmpG_neg hcross ?_
    have := hn.2 h0
    rw [qI_val]
    unfold abR
    split
    · rw [hr2]; grind
    · rw [hr2]; exact this.1
  · rw [hr]
    have hq2 := hn.1 h0
    have hr0 : r = 0 := by rw [hr2, hq2]; grind
    have ha0' : abR r = 0 := by
      rw [hr0]; unfold abR
      split
      · decide +kernel
      · rfl
    rw [ha0', h0, show qI ((0 : Nat) : Int) = 0 from qI_zero0]
    exact cmpG_same
/-- A number's box: what is stored in it leaves all numbers as they were. -/
theorem kep_put3 {w : World} {g : Nat} {b : Bool} {s1 s2 : Value} (hc : Rw.Cel w g [.bool b, s1, s2]) (h1 : ∀ z, s1 ≠ .int .i64 z) (h2 : ∀ z, s2 ≠ .int .i64 z) (x0 x1 x2 : Value) :
    Kep w (((w.setCell ⟨g, 0, none⟩ x0).setCell ⟨g, 1, none⟩ x1).setCell ⟨g, 2, none⟩ x2) := by
  have k0 := Kep.set (w := w) (p := ⟨g, 0, none⟩) (hc.at_ 0 _ rfl) (fun z e => by cases e) x0
  have c1 := hc.set 0 x0
  have k1 := Kep.set (p := ⟨g, 1, none⟩) (c1.at_ 1 _ rfl) h1 x1
  have c2 := c1.set 1 x1
  have k2 := Kep.set (p := ⟨g, 2, none⟩) (c2.at_ 2 _ rfl) h2 x2
  exact (k0.trans k1).trans k2
theorem y_Neg (r : Rat) (hr : fitR r = true) (v : Value) (w : World) (hv : IsR w v r) : Calls Tryz.prog 33 #[v] w (RRes w 0 (-r)) := by
  have h := rat_Neg_yes r hr v w hv
  rw [(opH_form (er := noE) (f := negOp) hr).1, (opH_form (er := noE) (f := negOp) hr).2] at h
  exact h
theorem out_is {w : World} {v : Value} {r : Rat} (ho : OutR w v 0 r) : IsR w v r := by unfold OutR at ho; rw [if_pos rfl] at ho; exact ho
set_option maxHeartbeats 6400000 in
theorem law_far {c : Int} {q : Rat} {d : Nat} (h : FarOk c q d) (b : Bool) (A : Option Addr) (n c' : Nat) (B : Option Addr) (m e' : Nat) (w : World) (hv : IsR w (.agg #[.bool b, .slice A n c', .slice B m e']) q) :
    Calls Tryz.prog 11 #[.int .i64 c, .agg #[.bool b, .slice A n c', .slice B m e'], .int .i64 (d : Int)] w fun e w' => e = .returned (.bool false) ∧ Below w.heap.size w w' := by
  have KO := Lib.hid fun W => yq_Of c h.c0 h.c1 W
  have KN := Lib.hid fun W => yq_Of (d : Int) (by omega) (by have := h.d1; omega) W
  have KS := Lib.hid fun v u W a1 a2 => yq_Sub (qI c) q (qI_fit h.c0 h.c1) h.fit v u W a1 a2
  rw [h.sub] at KS
  have KG := Lib.hid fun v W a1 => y_Neg (subOp (qI c) q) h.rfit v W a1
  have KC := Lib.hid fun v u W a1 a2 => yq_Cmp (abR (subOp (qI c) q)) (qI (d : Int)) h.afit (qI_fit (by omega) (by have := h.d1; have hM : MM = 1099511627776 := rfl; omega)) v u W a1 a2
  rw [h.cross] at KC
  have hl := h.less
  have hs := h.same
  obtain ⟨G, hG⟩ : ∃ G, cmpG (abR (subOp (qI c) q)) (qI (d : Int)) = G := ⟨_, rfl⟩
  rw [hG] at KC hl hs
  obtain ⟨r, hr⟩ : ∃ r, subOp (qI c) q = r := ⟨_, rfl⟩
  have hrf := h.rfit
  rw [hr] at KS KG KC hrf
  have HR := Lib.hid hrf
  have HAF := Lib.hid (show fitR (abR r) = true from hr ▸ h.afit)
  have HLS := Lib.hid (And.intro hl hs)
  have hD := h.d1
  have HV := Lib.hid hv
  rw [show okE true = 0 from rfl] at KS KC
  clear hl hs hG hr hrf h hv
  go_enter Tryz.func11, Tryz.ntmps11
  go_upto_region 1 with fail
  obtain ⟨w0, hw⟩ : ∃ W, w.alloc (.cells #[.bool b, .slice A n c', .slice B m e'] 46) = W := ⟨_, rfl⟩
  have HB : Hid (Below w.heap.size w w0) := hw ▸ below_alloc _ _
  have C0 : Hid (Rw.Cel w0 w.heap.size [.bool b, .slice A n c', .slice B m e']) := hw ▸ Rw.Cel.new w [_, _, _] _
  have V0 : Hid (IsR w0 (.agg #[.bool b, .slice A n c', .slice B m e']) q) := hw ▸ HV.out.on (below_alloc _ _)
  rw [hw]
  clear hw HV
  go_wp2_with fail
  refine (KO.out w0).mono ?_
  intro e wa h
  obtain ⟨b1, M1, n1, c1, N1, m1, d1, rfl, ho, hb⟩ := RRes.open_ h
  have V1 := Lib.hid (out_is ho)
  replace HB := Lib.hid (bstep HB.out hb)
  replace C0 := Lib.hid (C0.out.on hb)
  replace V0 := Lib.hid (V0.out.on hb)
  clear h ho hb
  go_upto_region 2 with fail
  obtain ⟨wb, hw⟩ : ∃ W, wa.alloc (.cells #[.bool b1, .slice M1 n1 c1, .slice N1 m1 d1] 46) = W := ⟨_, rfl⟩
  obtain ⟨gR1, hg⟩ : ∃ g, wa.heap.size = g := ⟨_, rfl⟩
  have hb : Below wa.heap.size wa wb := hw ▸ below_alloc _ _
  have R1 : Hid (Rw.Cel wb gR1 [.bool b1, .slice M1 n1 c1, .slice N1 m1 d1]) := hw ▸ hg ▸ Rw.Cel.new wa [_, _, _] _
  have GR1 : Hid (w.heap.size ≤ gR1) := Lib.hid (by rw [← hg]; exact HB.out.size)
  replace HB := Lib.hid (bstep HB.out hb)
  replace C0 := Lib.hid (C0.out.on hb)
  replace V0 := Lib.hid (V0.out.on hb)
  replace V1 := Lib.hid (V1.out.on hb)
  rw [hw, hg]
  clear hw hg hb
  obtain ⟨x0, x1, x2⟩ := C0.out.three
  obtain ⟨y0, y1, y2⟩ := R1.out.three
  go_wp2_with fail
  refine (KS.out _ _ wb V1.out V0.out).mono ?_
  intro e wc h
  obtain ⟨b2, M2, n2, c2, N2, m2, d2, rfl, ho, hb⟩ := RRes.open_ h
  have V2 := Lib.hid (out_is ho)
  replace HB := Lib.hid (bstep HB.out hb)
  replace C0 := Lib.hid (C0.out.on hb)
  replace V0 := Lib.hid (V0.out.on hb)
  replace V1 := Lib.hid (V1.out.on hb)
  replace R1 := Lib.hid (R1.out.on hb)
  clear h ho hb
  clear x0 x1 x2 y0 y1 y2
  go_upto_region 3 with fail
  obtain ⟨wd, hw⟩ : ∃ W, wc.alloc (.cells #[.bool b2, .slice M2 n2 c2, .slice N2 m2 d2] 46) = W := ⟨_, rfl⟩
  obtain ⟨gR2, hg⟩ : ∃ g, wc.heap.size = g := ⟨_, rfl⟩
  have hb : Below wc.heap.size wc wd := hw ▸ below_alloc _ _
  have R2 : Hid (Rw.Cel wd gR2 [.bool b2, .slice M2 n2 c2, .slice N2 m2 d2]) := hw ▸ hg ▸ Rw.Cel.new wc [_, _, _] _
  have GR2 : Hid (w.heap.size ≤ gR2) := Lib.hid (by rw [← hg]; exact HB.out.size)
  replace HB := Lib.hid (bstep HB.out hb)
  replace C0 := Lib.hid (C0.out.on hb)
  replace V0 := Lib.hid (V0.out.on hb)
  replace V1 := Lib.hid (V1.out.on hb)
  replace R1 := Lib.hid (R1.out.on hb)
  replace V2 := Lib.hid (V2.out.on hb)
  rw [hw, hg]
  clear hw hg hb
  obtain rfl : b2 = negR r := (inR_cells V2.out).1
  obtain ⟨s, hs⟩ : ∃ s, negR r = s := ⟨_, rfl⟩
  have HSG := Lib.hid hs
  rw [hs] at R2 V2 ⊢
  clear hs V0 V1 C0 R1
  cases s with
  | false =>
    have hab : abR r = r := by unfold abR; rw [HSG.out]; rfl
    rw [hab] at KC
    have V3 := Lib.hid V2.out
    obtain ⟨x0, x1, x2⟩ := R2.out.three
    have V3' := V3.out
    clear V2 HSG
    go_wp2_with fail
    refine (KN.out wd).mono ?_
    intro e we0 h
    obtain ⟨b4, M4, n4, c4, N4, m4, d4, rfl, ho, hb⟩ := RRes.open_ h
    have V4 := Lib.hid (out_is ho)
    replace HB := Lib.hid (bstep HB.out hb)
    replace V3 := Lib.hid (V3.out.on hb)
    replace R2 := Lib.hid (R2.out.on hb)
    clear h ho hb
    go_upto_region 8 with fail
    obtain ⟨wf0, hw⟩ : ∃ W, we0.alloc (.cells #[.bool b4, .slice M4 n4 c4, .slice N4 m4 d4] 46) = W := ⟨_, rfl⟩
    obtain ⟨gR4, hg⟩ : ∃ g, we0.heap.size = g := ⟨_, rfl⟩
    have hb : Below we0.heap.size we0 wf0 := hw ▸ below_alloc _ _
    have R4 : Hid (Rw.Cel wf0 gR4 [.bool b4, .slice M4 n4 c4, .slice N4 m4 d4]) := hw ▸ hg ▸ Rw.Cel.new we0 [_, _, _] _
    have GR4 : Hid (w.heap.size ≤ gR4) := Lib.hid (by rw [← hg]; exact HB.out.size)
    replace HB := Lib.hid (bstep HB.out hb)
    replace V3 := Lib.hid (V3.out.on hb)
    replace R2 := Lib.hid (R2.out.on hb)
    replace V4 := Lib.hid (V4.out.on hb)
    rw [hw, hg]
    clear hw hg hb
    obtain ⟨x0, x1, x2⟩ := R2.out.three
    obtain ⟨y0, y1, y2⟩ := R4.out.three
    go_wp2_with fail
    refine (KC.out _ _ wf0 V3.out V4.out).mono ?_
    rintro e wg ⟨rfl, hb⟩
    replace HB := Lib.hid (bstep HB.out hb)
    replace V3 := Lib.hid (V3.out.on hb)
    replace R2 := Lib.hid (R2.out.on hb)
    replace V4 := Lib.hid (V4.out.on hb)
    replace R4 := Lib.hid (R4.out.on hb)
    clear hb x0 x1 x2 y0 y1 y2
    by_cases hd0 : d = 0
    · subst hd0
      obtain rfl : G = 0 := HLS.out.2 rfl
      go_wp2_with fail
      go_ret
      exact ⟨rfl, HB.out⟩
    · have j0 : (0 : Int) < (d : Int) := by omega
      have j1 : ¬ (d : Int) = 0 := by omega
      have hg0 := HLS.out.1 (by omega)
      have j2 : decide (0 ≤ G) = false := decide_eq_false (by omega)
      have j3 : decide ((0 : Int) < (d : Int)) = true := decide_eq_true j0
      have j4 : ((d : Int) == 0) = false := beq_false_of_ne j1
      have j5 : 0 < d := by omega
      go_wp2_with fail
      go_ret
      exact ⟨rfl, HB.out⟩
  | true =>
    have hab : abR r = -r := by unfold abR; rw [HSG.out]; rfl
    rw [hab] at KC
    rw [hab] at HAF
    clear HSG
    obtain ⟨x0, x1, x2⟩ := R2.out.three
    go_wp2_with fail
    refine (KG.out _ wd V2.out).mono ?_
    intro e wn h
    obtain ⟨b3, M3, n3, c3, N3, m3, d3, rfl, ho, hb⟩ := RRes.open_ h
    have V3 := Lib.hid (out_is ho)
    replace HB := Lib.hid (bstep HB.out hb)
    replace V2 := Lib.hid (V2.out.on hb)
    replace R2 := Lib.hid (R2.out.on hb)
    clear h ho hb x0 x1 x2 V2
    obtain ⟨x0, x1, x2⟩ := R2.out.three
    obtain ⟨z0, z1, z2⟩ := R2.out.warm3
    go_upto_region 7 with fail
    clear x0 x1 x2 z0 z1 z2
    have hk := kep_put3 R2.out (by simp) (by simp) (.bool b3) (.slice M3 n3 c3) (.slice N3 m3 d3)
    obtain ⟨wp, hw⟩ : ∃ W, ((wn.setCell ⟨gR2, 0, none⟩ (.bool b3)).setCell ⟨gR2, 1, none⟩ (.slice M3 n3 c3)).setCell ⟨gR2, 2, none⟩ (.slice N3 m3 d3) = W := ⟨_, rfl⟩
    replace R2 : Hid (Rw.Cel wp gR2 [.bool b3, .slice M3 n3 c3, .slice N3 m3 d3]) := hw ▸ R2.out.put3 _ _ _
    replace HB : Hid (Below w.heap.size w wp) := hw ▸ Rw.below_put3 HB.out GR2.out _ _ _
    rw [hw] at hk
    replace V3 : Hid (IsR wp (.agg #[.bool b3, .slice M3 n3 c3, .slice N3 m3 d3]) (-r)) := Lib.hid (hk.isR HAF.out V3.out)
    rw [hw]
    clear hw hk
    go_wp2_with fail
    refine (KN.out wp).mono ?_
    intro e we1 h
    obtain ⟨b4, M4, n4, c4, N4, m4, d4, rfl, ho, hb⟩ := RRes.open_ h
    have V4 := Lib.hid (out_is ho)
    replace HB := Lib.hid (bstep HB.out hb)
    replace V3 := Lib.hid (V3.out.on hb)
    replace R2 := Lib.hid (R2.out.on hb)
    clear h ho hb
    go_upto_region 8 with fail
    obtain ⟨wf1, hw⟩ : ∃ W, we1.alloc (.cells #[.bool b4, .slice M4 n4 c4, .slice N4 m4 d4] 46) = W := ⟨_, rfl⟩
    obtain ⟨gR4, hg⟩ : ∃ g, we1.heap.size = g := ⟨_, rfl⟩
    have hb : Below we1.heap.size we1 wf1 := hw ▸ below_alloc _ _
    have R4 : Hid (Rw.Cel wf1 gR4 [.bool b4, .slice M4 n4 c4, .slice N4 m4 d4]) := hw ▸ hg ▸ Rw.Cel.new we1 [_, _, _] _
    have GR4 : Hid (w.heap.size ≤ gR4) := Lib.hid (by rw [← hg]; exact HB.out.size)
    replace HB := Lib.hid (bstep HB.out hb)
    replace V3 := Lib.hid (V3.out.on hb)
    replace R2 := Lib.hid (R2.out.on hb)
    replace V4 := Lib.hid (V4.out.on hb)
    rw [hw, hg]
    clear hw hg hb
    obtain ⟨x0, x1, x2⟩ := R2.out.three
    obtain ⟨y0, y1, y2⟩ := R4.out.three
    go_wp2_with fail
    refine (KC.out _ _ wf1 V3.out V4.out).mono ?_
    rintro e wg ⟨rfl, hb⟩
    replace HB := Lib.hid (bstep HB.out hb)
    replace V3 := Lib.hid (V3.out.on hb)
    replace R2 := Lib.hid (R2.out.on hb)
    replace V4 := Lib.hid (V4.out.on hb)
    replace R4 := Lib.hid (R4.out.on hb)
    clear hb x0 x1 x2 y0 y1 y2
    by_cases hd0 : d = 0
    · subst hd0
      obtain rfl : G = 0 := HLS.out.2 rfl
      go_wp2_with fail
      go_ret
      exact ⟨rfl, HB.out⟩
    · have j0 : (0 : Int) < (d : Int) := by omega
      have j1 : ¬ (d : Int) = 0 := by omega
      have hg0 := HLS.out.1 (by omega)
      have j2 : decide (0 ≤ G) = false := decide_eq_false (by omega)
      have j3 : decide ((0 : Int) < (d : Int)) = true := decide_eq_true j0
      have j4 : ((d : Int) == 0) = false := beq_false_of_ne j1
      have j5 : 0 < d := by omega
      go_wp2_with fail
      go_ret
      exact ⟨rfl, HB.out⟩
end Go.Proofs.YtagjimdplmimoaaGreat.Chest
/- Rate of the reference. -/
namespace Go.Proofs.YtagjimdplmimoaaGreat.Chest
open Go.ChangeShapes Go.WideShapes Go.RowKit Go.Lib
open Go.Proofs.YtagjimdplmimoaaGreat.Mem (Cl eI Own)
open Go.Proofs.YtagjimdplmimoaaGreat.Tank (MM cl_at)
open Go.Proofs.YtagjimdplmimoaaGreat.Rw (glt get_lt ret_bool ret_int bstep below_drewN below_drew drew_below below_alloc)
set_option linter.unusedVariables false
set_option maxRecDepth 100000

theorem tdiv_lim {P S : Int} (h0 : 0 ≤ P) (h1 : 0 < S) : 0 ≤ P.tdiv S ∧ P.tdiv S ≤ P := by
  rw [Int.tdiv_eq_ediv_of_nonneg h0]
  exact ⟨Int.ediv_nonneg h0 (Int.le_of_lt h1), Int.ediv_le_self _ h0⟩
end Go.Proofs.YtagjimdplmimoaaGreat.Chest
/- The program: New, Rate. -/
namespace Go.Proofs.YtagjimdplmimoaaGreat.Chest
open Go.ChangeShapes Go.WideShapes Go.RowKit Go.Lib
open Go.Proofs.YtagjimdplmimoaaGreat.Mem (Cl eI Own make_ints)
open Go.Proofs.YtagjimdplmimoaaGreat.Share (errS partsL partsL_len splL ResL split_n own_cl one_made lst_zero)
open Go.Proofs.YtagjimdplmimoaaGreat.Tank (MM cl_at q_Parts lisE_of)
open Go.Proofs.YtagjimdplmimoaaGreat.Rw (glt get_lt ret_bool ret_int bstep below_drewN below_drew drew_below below_alloc)
set_option linter.unusedVariables false
set_option maxRecDepth 100000

theorem nw_two {kinds cap : Int} (hk : 1 ≤ kinds ∧ kinds ≤ 8) : ckC cap (List.replicate kinds.toNat 0) = nwE kinds cap := by
  rw [ckC_new (by omega) (by omega)]
  unfold nwE
  rw [if_pos hk]
set_option maxHeartbeats 1600000 in
theorem ch_New (kinds cap : Int) (w : World) : Calls Tryz.prog 5 #[.int .i64 kinds, .int .i64 cap] w (CRes w (nwE kinds cap) (nwC kinds cap) (nwL kinds cap)) := by
  by_cases hk : 1 ≤ kinds ∧ kinds ≤ 8
  rotate_left
  · have he : nwE kinds cap = 17 := if_neg hk
    obtain ⟨e1, e2⟩ := nw_no (kinds := kinds) (cap := cap) (by rw [he]; decide)
    rw [he, e1, e2]
    clear he e1 e2
    rcases Int.lt_or_le kinds 1 with h0 | h0
    · have d0 : decide (kinds < 1) = true := decide_eq_true h0
      clear hk h0
      go_enter Tryz.func5, Tryz.ntmps5
      go_wp2_with fail
      exact bodyPost_ret (res_chest2 Tryz.results5 rfl (Rw.Cel.new w [.int .i64 0, .slice none 0 0] 26)) rfl (CRes.none_ (below_alloc _ _))
    · have d0 : decide (kinds < 1) = false := decide_eq_false (by omega)
      have d1 : decide (8 < kinds) = true := decide_eq_true (by omega)
      clear hk h0
      go_enter Tryz.func5, Tryz.ntmps5
      go_wp2_with fail
      exact bodyPost_ret (res_chest2 Tryz.results5 rfl (Rw.Cel.new w [.int .i64 0, .slice none 0 0] 26)) rfl (CRes.none_ (below_alloc _ _))
  have d0 : decide (kinds < 1) = false := decide_eq_false (by omega)
  have d1 : decide (8 < kinds) = false := decide_eq_false (by omega)
  obtain ⟨n, rfl⟩ : ∃ n : Nat, kinds = n := ⟨kinds.toNat, by omega⟩
  have h2 := nw_two (cap := cap) hk
  have h3 : nwE (n : Int) cap = 0 → nwC n cap = cap ∧ nwL n cap = List.replicate n 0 := fun h => by
    have := nw_ok h
    rw [Int.toNat_natCast] at this; exact this
  rw [Int.toNat_natCast] at h2
  have HK := Lib.hid fun (W : World) (g : Nat) (h : Cl eI W (some ⟨g, 0, none⟩) (List.replicate n 0)) => ch_Check cap (List.replicate n 0) (some ⟨g, 0, none⟩) n n List.length_replicate.symm W h (by omega)
  obtain ⟨E, hE⟩ : ∃ E, nwE (n : Int) cap = E := ⟨_, rfl⟩
  rw [h2, hE] at HK
  rw [hE] at h3
  have HE := Lib.hid (And.intro hE h3)
  have hmk := fun W => make_ints n (by omega) W
  obtain ⟨w0, hw0⟩ : ∃ W, w.alloc (.cells #[.int .i64 0, .slice none 0 0] 26) = W := ⟨_, rfl⟩
  have C0 : Hid (Rw.Cel w0 w.heap.size [.int .i64 0, .slice none 0 0]) := hw0 ▸ Rw.Cel.new w [_, _] _
  have B0 : Hid (Below w.heap.size w w0) := hw0 ▸ below_alloc _ _
  have HO := Lib.hid (one_made w0 n (by omega))
  rw [← lst_zero] at HO
  have HG := Lib.hid C0.out.lt
  clear hk h2 h3 hE
  go_enter Tryz.func5, Tryz.ntmps5
  go_upto_region 1 with fail
  clear hw0
  go_upto_region 4 with fail
  obtain ⟨w2, hw2⟩ : ∃ W, (w0.alloc (.cells (madeCells #[.int .i64 0] n) 3)).alloc (.cells #[.int .i64 cap, .slice (some ⟨w0.heap.size, 0, none⟩) n n] 26) = W := ⟨_, rfl⟩
  have C2 : Hid (Rw.Cel w2 w.heap.size [.int .i64 0, .slice none 0 0]) := hw2 ▸ (C0.out.alloc _).alloc _
  have D2 : Hid (Rw.Cel w2 (w0.heap.size + 1) [.int .i64 cap, .slice (some ⟨w0.heap.size, 0, none⟩) n n]) := Lib.hid (by rw [← hw2]; exact Rw.Cel.new_at _ [_, _] _ (by simp))
  have B2 : Hid (Below w.heap.size w w2) := Lib.hid (bstep B0.out (bstep (below_alloc _ _) (hw2 ▸ below_alloc _ _)))
  have HO2 : Hid (Own eI 3 w0.heap.size w2 (.slice (some ⟨w0.heap.size, 0, none⟩) n n) (List.replicate n 0)) := Lib.hid (hw2 ▸ HO.out.alloc _)
  rw [hw2]
  clear hw2 hmk HO C0
  obtain ⟨x0, x1⟩ := D2.out.two
  go_wp2_with fail
  refine (HK.out _ _ (own_cl HO2.out)).mono ?_
  rintro e w3 ⟨rfl, hb⟩
  have C3 := Lib.hid (C2.out.on hb)
  have D3 := Lib.hid (D2.out.on hb)
  have B3 := Lib.hid (bstep B2.out hb)
  have HO3 := Lib.hid (HO2.out.on hb)
  clear hb x0 x1 C2 D2 B2 HO2
  by_cases hz : E = 0
  rotate_left
  · obtain ⟨z1, z2⟩ := ne_zero hz
    have HEE := Lib.hid (nw_no (kinds := n) (cap := cap) (by rw [HE.out.1]; exact hz))
    clear hz
    obtain ⟨u0, u1⟩ := C3.out.two
    obtain ⟨v0, v1⟩ := C3.out.warm2
    go_wp2_with fail
    exact bodyPost_ret (res_chest2 Tryz.results5 rfl (C3.out.put2 _ _)) rfl (by rw [HE.out.1, HEE.out.1, HEE.out.2]; exact CRes.none_ (Rw.below_put2 B3.out (Nat.le_refl _) _ _))
  subst hz
  have HEE := Lib.hid (HE.out.2 rfl)
  obtain ⟨x0, x1⟩ := D3.out.two
  obtain ⟨u0, u1⟩ := C3.out.two
  obtain ⟨v0, v1⟩ := C3.out.warm2
  go_wp2_with fail
  refine bodyPost_ret (res_chest2 Tryz.results5 rfl (C3.out.put2 _ _)) rfl (by
    rw [HE.out.1, HEE.out.1, HEE.out.2]
    refine ⟨_, _, _, rfl, List.length_replicate, ?_, Rw.below_put2 B3.out (Nat.le_refl _) _ _⟩
    exact own_far2 (HO3.out.less (Nat.le_of_lt HG.out)) (by have := HG.out; simp [Value.ownBlock]; omega) _ _)

set_option maxHeartbeats 3200000 in
theorem ch_Rate (cap k : Int) (L : List Int) (A : Option Addr) (n c : Nat) (hn : L.length = n) (w : World) (ha : Cl eI w A L) (h1 : n ≤ 9223372036854775807) :
    Calls Tryz.prog 12 #[.agg #[.int .i64 cap, .slice A n c], .int .i64 k] w fun e w' => e = .returned (.tuple #[.int .i64 (ratV cap L k), .int .i64 (ratE cap L k)]) ∧ Below w.heap.size w w' := by
  have HA := Lib.hid ha
  have HN := Lib.hid hn
  have KC := Lib.hid fun (W : World) (h : Cl eI W A L) => ch_Level cap L A n c hn.symm W h h1
  obtain ⟨E, hE⟩ : ∃ E, ckC cap L = E := ⟨_, rfl⟩
  obtain ⟨Y, hY⟩ : ∃ Y, levV cap L = Y := ⟨_, rfl⟩
  rw [hE, hY] at KC
  have HE := Lib.hid hE
  have HY := Lib.hid hY
  clear ha hn h1 hE hY
  go_enter Tryz.func12, Tryz.ntmps12
  go_upto_region 1 with fail
  obtain ⟨w1, hw1⟩ : ∃ W, w.alloc (.cells #[.int .i64 cap, .slice A n c] 26) = W := ⟨_, rfl⟩
  have C1 : Hid (Rw.Cel w1 w.heap.size [.int .i64 cap, .slice A n c]) := hw1 ▸ Rw.Cel.new w [_, _] _
  have B1 : Hid (Below w.heap.size w w1) := hw1 ▸ below_alloc _ _
  rw [hw1]
  clear hw1
  obtain ⟨x0, x1⟩ := C1.out.two
  go_wp2_with fail
  refine (KC.out _ (HA.out.on B1.out)).mono ?_
  rintro e w2 ⟨rfl, hb⟩
  have B2 := Lib.hid (bstep B1.out hb)
  have C2 := Lib.hid (C1.out.on hb)
  clear hb x0 x1 C1 B1
  obtain ⟨x0, x1⟩ := C2.out.two
  by_cases hz : E = 0
  rotate_left
  · obtain ⟨z1, z2⟩ := ne_zero hz
    have e1 : ratE cap L k = E := (ratE_ck (by rw [HE.out]; exact hz)).trans HE.out
    have HEE := Lib.hid (And.intro e1 (ratV_no (k := k) (by rw [e1]; exact hz)))
    clear hz e1
    go_wp2_with fail
    go_ret2
    exact ⟨by rw [HEE.out.1, HEE.out.2]; rfl, B2.out⟩
  subst hz
  have ok := ckC_ok HE.out
  by_cases hk : 0 ≤ k ∧ k < (L.length : Int)
  rotate_left
  · have e1 : ratE cap L k = 7 := ratE_no HE.out hk
    have HEE := Lib.hid (And.intro e1 (ratV_no (by rw [e1]; decide)))
    rcases Int.lt_or_le k 0 with h0 | h0
    · have d0 : decide (k < 0) = true := decide_eq_true h0
      clear h0 e1 ok hk
      go_wp2_with fail
      go_ret2
      exact ⟨by rw [HEE.out.1, HEE.out.2]; rfl, B2.out⟩
    · have d0 : decide (k < 0) = false := decide_eq_false (by omega)
      have d1 : decide ((n : Int) ≤ k) = true := decide_eq_true (by have := HN.out; omega)
      clear h0 e1 ok hk
      go_wp2_with fail
      go_ret2
      exact ⟨by rw [HEE.out.1, HEE.out.2]; rfl, B2.out⟩
  obtain ⟨j, rfl⟩ : ∃ j : Nat, k = j := ⟨k.toNat, by omega⟩
  have d0 : decide ((j : Int) < 0) = false := decide_eq_false (by omega)
  have hjn : j < n := by have := HN.out; omega
  have d1 : decide ((n : Int) ≤ (j : Int)) = false := decide_eq_false (by omega)
  have hpos := ok.pos
  have hy := HY.out
  rw [levV_ok HE.out] at hy
  rw [hy] at hpos
  have hall := ok.all
  by_cases hz : Y = 0
  · have e1 : ratE cap L j = 10 := ratE_nil HE.out hk (by rw [hy]; exact hz)
    subst hz
    have HEE := Lib.hid (And.intro e1 (ratV_no (by rw [e1]; decide)))
    clear hpos e1 hall hy hk ok
    go_wp2_with fail
    go_ret2
    exact ⟨by rw [HEE.out.1, HEE.out.2]; rfl, B2.out⟩
  have dz : (Y == 0) = false := beq_false_of_ne hz
  have e1 : ratE cap L j = 0 := ratE_ok HE.out hk (by rw [hy]; exact hz)
  obtain ⟨z, hj⟩ := get_lt (L := L) (k := j) (by have := HN.out; omega)
  have e2 := ratV_ok e1 hj
  rw [hy] at e2
  have hzl := hall z (List.mem_of_getElem? hj)
  have hM : MM = 1099511627776 := rfl
  have hl := tdiv_lim (P := 1000 * z) (S := Y) (by omega) (by omega)
  obtain ⟨P, hP⟩ : ∃ P, 1000 * z = P := ⟨_, rfl⟩
  rw [hP] at hl e2
  have wP : IntKind.i64.wrap P = P := Rw.wrap_id (by omega)
  have p0 : 0 ≤ P := by omega
  have y0 : 0 ≤ Y := by omega
  obtain ⟨Q, hQ⟩ : ∃ Q, P.tdiv Y = Q := ⟨_, rfl⟩
  have hQ2 : P / Y = Q := by rw [← hQ, Int.tdiv_eq_ediv_of_nonneg p0]
  rw [hQ] at hl e2
  have wQ : IntKind.i64.wrap Q = Q := Rw.wrap_id (by omega)
  have HEE := Lib.hid (And.intro e1 e2)
  obtain ⟨b, off, rfl, hb, h0⟩ := cl_at (HA.out.on B2.out) hj
  have i1 : (j : Int) < (n : Int) := by omega
  have i2 : (0 : Int) ≤ (j : Int) := by omega
  clear hpos e1 e2 hall hj hzl hl hM hb hk ok hy p0 y0
  go_wp2_with fail
  go_ret2
  exact ⟨by rw [HEE.out.1, HEE.out.2]; rfl, B2.out⟩
end Go.Proofs.YtagjimdplmimoaaGreat.Chest
