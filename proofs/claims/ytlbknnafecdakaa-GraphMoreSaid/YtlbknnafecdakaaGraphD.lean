/- What the chapter says of any graph (Check); the rounds of the reference: reached nodes, distances, levels, as facts of lists. Pure. -/
import Derived.Test.YtlbknnafecdakaaGraphC
namespace Go.Proofs.Ytlbknnafecdakaa.Graph
set_option linter.unusedVariables false

/-! ### Check -/
/-- An arc that joins nodes. -/
def inA (n : Int) (e : Int × Int) : Bool := decide (0 ≤ e.1) && decide (e.1 < n) && decide (0 ≤ e.2) && decide (e.2 < n)
def chkE (n : Int) (zs : List (Int × Int)) : Int := if n < 0 ∨ 64 < n then 1 else if 512 < zs.length then 8 else if zs.all (inA n) then 0 else 7
/-- The arcs as integers. -/
def asI (L : Arcs) : List (Int × Int) := L.map fun e => ((e.1 : Int), (e.2 : Int))
theorem asI_len (L : Arcs) : (asI L).length = L.length := by simp [asI]
theorem asI_get {L : Arcs} {t : Nat} {z : Int × Int} (h : (asI L)[t]? = some z) : ∃ a b : Nat, L[t]? = some (a, b) ∧ z = ((a : Int), (b : Int)) := by
  unfold asI at h
  rw [List.getElem?_map] at h
  cases hb : L[t]? with
  | none => rw [hb] at h; cases h
  | some e => rw [hb] at h; cases h; exact ⟨e.1, e.2, rfl, rfl⟩
theorem get_asI {L : Arcs} {t a b : Nat} (h : L[t]? = some (a, b)) : (asI L)[t]? = some ((a : Int), (b : Int)) := by
  unfold asI; rw [List.getElem?_map, h]; rfl
theorem chk_ok {n : Int} {zs : List (Int × Int)} (h : chkE n zs = 0) : ∃ (N : Nat) (L : Arcs), n = (N : Int) ∧ N ≤ 64 ∧ zs = asI L ∧ L.length ≤ 512 ∧ Ok N L := by
  unfold chkE at h
  by_cases h1 : n < 0 ∨ 64 < n
  · rw [if_pos h1] at h; omega
  · rw [if_neg h1] at h
    by_cases h2 : 512 < zs.length
    · rw [if_pos h2] at h; omega
    · rw [if_neg h2] at h
      by_cases h3 : zs.all (inA n) = true
      · have h4 : ∀ e ∈ zs, 0 ≤ e.1 ∧ e.1 < n ∧ 0 ≤ e.2 ∧ e.2 < n := by
          intro e he
          have := List.all_eq_true.mp h3 e he
          unfold inA at this
          simp only [Bool.and_eq_true, decide_eq_true_eq] at this
          exact ⟨this.1.1.1, this.1.1.2, this.1.2, this.2⟩
        refine ⟨n.toNat, zs.map fun e => (e.1.toNat, e.2.toNat), by omega, by omega, ?_, by simpa using h2, ?_⟩
        · unfold asI
          rw [List.map_map]
          have : ∀ e ∈ zs, ((fun e : Nat × Nat => ((e.1 : Int), (e.2 : Int))) ∘ fun e : Int × Int => (e.1.toNat, e.2.toNat)) e = e := by
            intro e he
            have := h4 e he
            simp only [Function.comp]
            rw [Int.toNat_of_nonneg this.1, Int.toNat_of_nonneg this.2.2.1]
          rw [List.map_congr_left this]; exact (List.map_id' zs).symm
        · intro a b hab
          obtain ⟨e, he, e1⟩ := List.mem_map.mp hab
          have := h4 e he
          cases e1
          omega
      · rw [if_neg h3] at h; omega
theorem chk_of {N : Nat} {L : Arcs} (hN : N ≤ 64) (hL : L.length ≤ 512) (hok : Ok N L) : chkE (N : Int) (asI L) = 0 := by
  unfold chkE
  rw [if_neg (by omega), if_neg (by rw [asI_len]; omega), if_pos]
  rw [List.all_eq_true]
  intro e he
  obtain ⟨x, hx, rfl⟩ := List.mem_map.mp he
  have := hok x.1 x.2 hx
  unfold inA
  simp only [Bool.and_eq_true, decide_eq_true_eq]
  omega

/-! ### Lists that are set -/
theorem set_get {α : Type} {l : List α} {i j : Nat} {x y : α} (h : (l.set i x)[j]? = some y) : (j = i ∧ y = x) ∨ (j ≠ i ∧ l[j]? = some y) := by
  rw [List.getElem?_set] at h
  split at h
  · rename_i e
    split at h
    · cases h; exact Or.inl ⟨e.symm, rfl⟩
    · cases h
  · rename_i e
    exact Or.inr ⟨fun h' => e h'.symm, h⟩
theorem get_set {α : Type} {l : List α} {i : Nat} {x : α} (h : i < l.length) : (l.set i x)[i]? = some x := by
  rw [List.getElem?_set, if_pos rfl, if_pos h]
theorem get_other {α : Type} {l : List α} {i j : Nat} {x : α} (h : j ≠ i) : (l.set i x)[j]? = l[j]? := by
  rw [List.getElem?_set, if_neg (fun e => h e.symm)]

/-! ### Reached nodes -/
structure ReI (N : Nat) (L : Arcs) (s k i : Nat) (o : List Bool) : Prop where
  len : o.length = N
  snd : ∀ b, o[b]? = some true → Rp L s b
  cmp : ∀ b j, j ≤ k → W L j s b → o[b]? = some true
  prt : ∀ t a b, t < i → L[t]? = some (a, b) → ∀ j, j ≤ k → W L j s a → o[b]? = some true
theorem ReI.start {N : Nat} {L : Arcs} {s : Nat} (hs : s < N) : ReI N L s 0 0 ((List.replicate N false).set s true) := by
  refine ⟨by simp, fun b hb => ?_, fun b j hj hw => ?_, fun t a b ht => by omega⟩
  · rcases set_get hb with ⟨rfl, _⟩ | ⟨_, h⟩
    · exact Rp.refl L b
    · rw [List.getElem?_replicate] at h
      split at h <;> cases h
  · obtain rfl : j = 0 := by omega
    cases hw
    exact get_set (by simpa using hs)
theorem ReI.get {N : Nat} {L : Arcs} {s k i : Nat} {o : List Bool} (h : ReI N L s k i o) {a : Nat} (ha : a < N) : ∃ x, o[a]? = some x := ⟨_, List.getElem?_eq_getElem (by rw [h.len]; exact ha)⟩
theorem ReI.arc {N : Nat} {L : Arcs} {s k i a b : Nat} {o : List Bool} (h : ReI N L s k i o) (hok : Ok N L) (ht : L[i]? = some (a, b)) (ho : o[a]? = some true) : ReI N L s k (i + 1) (o.set b true) := by
  have hab := List.mem_of_getElem? ht
  have hb := (hok _ _ hab).2
  have keep : ∀ c : Nat, o[c]? = some true → (o.set b true)[c]? = some true := by
    intro c hc
    by_cases e : c = b
    · rw [e]; exact get_set (by rw [h.len]; exact hb)
    · rw [get_other e]; exact hc
  refine ⟨by rw [List.length_set]; exact h.len, fun c hc => ?_, fun c j hj hw => keep c (h.cmp c j hj hw), fun t x y ht' hxy j hj hw => ?_⟩
  · rcases set_get hc with ⟨rfl, _⟩ | ⟨_, hc⟩
    · exact (h.snd a ho).trans (Rp.arc hab)
    · exact h.snd c hc
  · rcases Nat.lt_or_ge t i with h1 | h1
    · exact keep y (h.prt t x y h1 hxy j hj hw)
    · obtain rfl : t = i := by omega
      rw [ht] at hxy
      cases hxy
      exact get_set (by rw [h.len]; exact hb)
theorem ReI.skip {N : Nat} {L : Arcs} {s k i a b : Nat} {o : List Bool} (h : ReI N L s k i o) (ht : L[i]? = some (a, b)) (ho : o[a]? = some false) : ReI N L s k (i + 1) o := by
  refine ⟨h.len, h.snd, h.cmp, fun t x y ht' hxy j hj hw => ?_⟩
  rcases Nat.lt_or_ge t i with h1 | h1
  · exact h.prt t x y h1 hxy j hj hw
  · obtain rfl : t = i := by omega
    rw [ht] at hxy
    cases hxy
    have := h.cmp a j hj hw
    rw [ho] at this; cases this
theorem ReI.round {N : Nat} {L : Arcs} {s k : Nat} {o : List Bool} (h : ReI N L s k L.length o) : ReI N L s (k + 1) 0 o := by
  refine ⟨h.len, h.snd, fun b j hj hw => ?_, fun t a b ht => by omega⟩
  rcases Nat.lt_or_ge j (k + 1) with h1 | h1
  · exact h.cmp b j (by omega) hw
  · obtain rfl : j = k + 1 := by omega
    obtain ⟨a, ha, hab⟩ := hw.last
    obtain ⟨t, ht⟩ := List.mem_iff_getElem?.mp hab
    exact h.prt t a b (lt_of_get ht) ht k (Nat.le_refl _) ha
/-- What Reach returns. -/
def IsR (N : Nat) (L : Arcs) (s : Nat) (o : List Bool) : Prop := o.length = N ∧ ∀ b, b < N → (o[b]? = some true ↔ Rp L s b)
theorem ReI.whole {N : Nat} {L : Arcs} {s : Nat} {o : List Bool} (hok : Ok N L) (hs : s < N) (h : ReI N L s N 0 o) : IsR N L s o := by
  refine ⟨h.len, fun b hb => ⟨h.snd b, fun hr => ?_⟩⟩
  obtain ⟨d, hd, hw⟩ := hr.short hok hs
  exact h.cmp b d (by omega) hw
theorem bool_list {o p : List Bool} (hl : o.length = p.length) (h : ∀ b, b < o.length → (o[b]? = some true ↔ p[b]? = some true)) : o = p := by
  apply List.ext_getElem?
  intro b
  rcases Nat.lt_or_ge b o.length with h1 | h1
  · have h2 := h b h1
    have ho := List.getElem?_eq_getElem h1
    have hp := List.getElem?_eq_getElem (l := p) (i := b) (by omega)
    rw [ho, hp] at h2 ⊢
    cases hx : o[b] <;> cases hy : p[b] <;> rw [hx, hy] at h2 <;> simp at h2 ⊢
  · rw [List.getElem?_eq_none h1, List.getElem?_eq_none (by omega)]
theorem IsR.one {N : Nat} {L : Arcs} {s : Nat} {o p : List Bool} (h : IsR N L s o) (h' : IsR N L s p) : o = p :=
  bool_list (h.1.trans h'.1.symm) fun b hb => (h.2 b (h.1 ▸ hb)).trans (h'.2 b (h.1 ▸ hb)).symm

/-! ### Distances -/
structure FaI (N : Nat) (L : Arcs) (n k i : Nat) (d : List Int) : Prop where
  len : d.length = N
  snd : ∀ b v, d[b]? = some v → v = -1 ∨ ∃ u : Nat, v = (u : Int) ∧ u ≤ k + 1 ∧ W L u b n
  cmp : ∀ b j, j ≤ k → W L j b n → ∃ u : Nat, d[b]? = some (u : Int) ∧ u ≤ j
  prt : ∀ t a b, t < i → L[t]? = some (a, b) → d[b]? = some (k : Int) → ∃ u : Nat, d[a]? = some (u : Int)
theorem FaI.start {N : Nat} {L : Arcs} {n : Nat} (hn : n < N) : FaI N L n 0 0 ((List.replicate N (-1)).set n 0) := by
  refine ⟨by simp, fun b v hb => ?_, fun b j hj hw => ?_, fun t a b ht => by omega⟩
  · rcases set_get hb with ⟨rfl, rfl⟩ | ⟨_, h⟩
    · exact Or.inr ⟨0, rfl, by omega, rfl⟩
    · rw [List.getElem?_replicate] at h
      split at h
      · cases h; exact Or.inl rfl
      · cases h
  · obtain rfl : j = 0 := by omega
    cases hw
    exact ⟨0, get_set (by simpa using hn), Nat.le_refl _⟩
theorem FaI.get {N : Nat} {L : Arcs} {n k i : Nat} {d : List Int} (h : FaI N L n k i d) {a : Nat} (ha : a < N) : ∃ x, d[a]? = some x := ⟨_, List.getElem?_eq_getElem (by rw [h.len]; exact ha)⟩
/-- An arc to a node at distance k, from one without a distance. -/
theorem FaI.arc {N : Nat} {L : Arcs} {n k i a b : Nat} {d : List Int} (h : FaI N L n k i d) (hok : Ok N L) (ht : L[i]? = some (a, b)) (hb : d[b]? = some (k : Int)) {x : Int} (ha : d[a]? = some x) (hx : x < 0) : FaI N L n k (i + 1) (d.set a ((k + 1 : Nat) : Int)) := by
  have hab := List.mem_of_getElem? ht
  have hla : a < d.length := by rw [h.len]; exact (hok _ _ hab).1
  have hwb : W L k b n := by
    rcases h.snd b _ hb with h1 | ⟨u, h1, _, h2⟩
    · omega
    · obtain rfl : k = u := by omega
      exact h2
  refine ⟨by rw [List.length_set]; exact h.len, fun c v hc => ?_, fun c j hj hw => ?_, fun t y z ht' hyz hz => ?_⟩
  · rcases set_get hc with ⟨rfl, rfl⟩ | ⟨_, hc⟩
    · exact Or.inr ⟨k + 1, rfl, Nat.le_refl _, b, hab, hwb⟩
    · exact h.snd c v hc
  · obtain ⟨u, h1, h2⟩ := h.cmp c j hj hw
    have hca : c ≠ a := by
      rintro rfl
      rw [ha] at h1
      have := Option.some.inj h1; omega
    exact ⟨u, by rw [get_other hca]; exact h1, h2⟩
  · by_cases hya : y = a
    · rw [hya]; exact ⟨k + 1, get_set hla⟩
    · rcases set_get hz with ⟨_, h1⟩ | ⟨_, hz⟩
      · omega
      · rw [get_other hya]
        rcases Nat.lt_or_ge t i with h1 | h1
        · exact h.prt t y z h1 hyz hz
        · obtain rfl : t = i := by omega
          rw [ht] at hyz
          cases hyz
          exact absurd rfl hya
theorem FaI.skip {N : Nat} {L : Arcs} {n k i a b : Nat} {d : List Int} (h : FaI N L n k i d) (hok : Ok N L) (ht : L[i]? = some (a, b)) (hno : ∀ x y, d[b]? = some x → d[a]? = some y → x = (k : Int) → 0 ≤ y) : FaI N L n k (i + 1) d := by
  refine ⟨h.len, h.snd, h.cmp, fun t y z ht' hyz hz => ?_⟩
  rcases Nat.lt_or_ge t i with h1 | h1
  · exact h.prt t y z h1 hyz hz
  · obtain rfl : t = i := by omega
    rw [ht] at hyz
    cases hyz
    obtain ⟨x, hx⟩ := h.get (hok _ _ (List.mem_of_getElem? ht)).1
    have := hno _ _ hz hx rfl
    exact ⟨x.toNat, by rw [hx, Int.toNat_of_nonneg this]⟩
theorem FaI.round {N : Nat} {L : Arcs} {n k : Nat} {d : List Int} (h : FaI N L n k L.length d) : FaI N L n (k + 1) 0 d := by
  refine ⟨h.len, fun b v hb => ?_, fun b j hj hw => ?_, fun t a b ht => by omega⟩
  · rcases h.snd b v hb with h1 | ⟨u, h1, h2, h3⟩
    · exact Or.inl h1
    · exact Or.inr ⟨u, h1, by omega, h3⟩
  · rcases Nat.lt_or_ge j (k + 1) with h1 | h1
    · exact h.cmp b j (by omega) hw
    · obtain rfl : j = k + 1 := by omega
      obtain ⟨c, hc, hw⟩ := hw
      obtain ⟨u, h2, h3⟩ := h.cmp c k (Nat.le_refl _) hw
      obtain ⟨t, ht⟩ := List.mem_iff_getElem?.mp hc
      rcases Nat.lt_or_ge u k with h4 | h4
      · have hwu : W L u c n := by
          rcases h.snd c _ h2 with h5 | ⟨u', h5, _, h6⟩
          · omega
          · obtain rfl : u = u' := by omega
            exact h6
        obtain ⟨u', h5, h6⟩ := h.cmp b (u + 1) (by omega) ⟨c, hc, hwu⟩
        exact ⟨u', h5, by omega⟩
      · obtain rfl : u = k := by omega
        obtain ⟨u', h5⟩ := h.prt t b c (lt_of_get ht) ht h2
        rcases h.snd b _ h5 with h6 | ⟨u'', h6, h7, _⟩
        · omega
        · exact ⟨u', h5, by omega⟩
/-- The distances to n. -/
def IsD (N : Nat) (L : Arcs) (n : Nat) (d : List Int) : Prop := d.length = N ∧ ∀ b, b < N → (d[b]? = some (-1) ∧ ¬ Rp L b n) ∨ ∃ u : Nat, d[b]? = some (u : Int) ∧ Dst L b n u
theorem FaI.whole {N : Nat} {L : Arcs} {n : Nat} {d : List Int} (hok : Ok N L) (h : FaI N L n N 0 d) : IsD N L n d := by
  refine ⟨h.len, fun b hb => ?_⟩
  obtain ⟨v, hv⟩ := h.get hb
  rcases h.snd b v hv with rfl | ⟨u, rfl, hu, hw⟩
  · refine Or.inl ⟨hv, fun hr => ?_⟩
    obtain ⟨j, hj, hw⟩ := hr.short hok hb
    obtain ⟨u, h1, _⟩ := h.cmp b j (by omega) hw
    rw [hv] at h1
    have := Option.some.inj h1; omega
  · refine Or.inr ⟨u, hv, hw, fun j hj hw' => ?_⟩
    obtain ⟨u', h1, h2⟩ := h.cmp b j (by omega) hw'
    rw [hv] at h1
    have := Option.some.inj h1; omega

/-! ### Levels -/
structure LeI (N : Nat) (L : Arcs) (k i : Nat) (o : List Int) : Prop where
  len : o.length = N
  snd : ∀ b v, o[b]? = some v → ∃ u : Nat, v = (u : Int) ∧ ∃ a, W L u a b
  cmp : ∀ b, b < N → ∀ j a, j ≤ k → W L j a b → ∃ u : Nat, o[b]? = some (u : Int) ∧ j ≤ u
  prt : ∀ t a b, t < i → L[t]? = some (a, b) → ∀ j x, j ≤ k → W L j x a → ∃ u : Nat, o[b]? = some (u : Int) ∧ j + 1 ≤ u
theorem LeI.start (N : Nat) (L : Arcs) : LeI N L 0 0 (List.replicate N 0) := by
  refine ⟨by simp, fun b v hb => ?_, fun b hb j a hj hw => ?_, fun t a b ht => by omega⟩
  · rw [List.getElem?_replicate] at hb
    split at hb
    · cases hb; exact ⟨0, rfl, b, rfl⟩
    · cases hb
  · exact ⟨0, by rw [List.getElem?_replicate, if_pos hb]; rfl, by omega⟩
theorem LeI.get {N : Nat} {L : Arcs} {k i : Nat} {o : List Int} (h : LeI N L k i o) {a : Nat} (ha : a < N) : ∃ u : Nat, o[a]? = some (u : Int) ∧ ∃ x, W L u x a := by
  have hg := List.getElem?_eq_getElem (l := o) (i := a) (by rw [h.len]; exact ha)
  obtain ⟨u, h1, h2⟩ := h.snd a _ hg
  exact ⟨u, by rw [hg, h1], h2⟩
theorem LeI.arc {N : Nat} {L : Arcs} {k i a b : Nat} {o : List Int} (h : LeI N L k i o) (hok : Ok N L) (ht : L[i]? = some (a, b)) {x y : Int} (ha : o[a]? = some x) (hb : o[b]? = some y) : LeI N L k (i + 1) (o.set b (max y (x + 1))) := by
  have hab := List.mem_of_getElem? ht
  have hlb : b < o.length := by rw [h.len]; exact (hok _ _ hab).2
  obtain ⟨ua, ea, xa, wa⟩ := h.snd a x ha
  obtain ⟨ub, eb, xb, wb⟩ := h.snd b y hb
  have em : max y (x + 1) = ((max ub (ua + 1) : Nat) : Int) := by omega
  have up : ∀ (c j : Nat), (∃ u : Nat, o[c]? = some (u : Int) ∧ j ≤ u) → ∃ u : Nat, (o.set b (max y (x + 1)))[c]? = some (u : Int) ∧ j ≤ u := by
    rintro c j ⟨u, h1, h2⟩
    by_cases e : c = b
    · subst e
      rw [hb] at h1
      have := Option.some.inj h1
      exact ⟨max ub (ua + 1), by rw [get_set hlb, em], by omega⟩
    · exact ⟨u, by rw [get_other e]; exact h1, h2⟩
  refine ⟨by rw [List.length_set]; exact h.len, fun c v hc => ?_, fun c hc j z hj hw => up c j (h.cmp c hc j z hj hw), fun t p q ht' hpq j z hj hw => ?_⟩
  · rcases set_get hc with ⟨rfl, rfl⟩ | ⟨_, hc⟩
    · refine ⟨max ub (ua + 1), em, ?_⟩
      rcases Nat.lt_or_ge ub (ua + 1) with h1 | h1
      · rw [Nat.max_eq_right (by omega)]; exact ⟨xa, wa.snoc hab⟩
      · rw [Nat.max_eq_left h1]; exact ⟨xb, wb⟩
    · exact h.snd c v hc
  · rcases Nat.lt_or_ge t i with h1 | h1
    · exact up q (j + 1) (h.prt t p q h1 hpq j z hj hw)
    · obtain rfl : t = i := by omega
      rw [ht] at hpq
      cases hpq
      obtain ⟨u, h2, h3⟩ := h.cmp a (hok _ _ hab).1 j z hj hw
      rw [ha] at h2
      have := Option.some.inj h2
      exact ⟨max ub (ua + 1), by rw [get_set hlb, em], by omega⟩
theorem LeI.round {N : Nat} {L : Arcs} {k : Nat} {o : List Int} (h : LeI N L k L.length o) : LeI N L (k + 1) 0 o := by
  refine ⟨h.len, h.snd, fun b hb j a hj hw => ?_, fun t a b ht => by omega⟩
  rcases Nat.lt_or_ge j (k + 1) with h1 | h1
  · exact h.cmp b hb j a (by omega) hw
  · obtain rfl : j = k + 1 := by omega
    obtain ⟨c, hc, hcb⟩ := hw.last
    obtain ⟨t, ht⟩ := List.mem_iff_getElem?.mp hcb
    exact h.prt t c b (lt_of_get ht) ht k a (Nat.le_refl _) hc
/-- What Levels returns. -/
def IsL (N : Nat) (L : Arcs) (o : List Int) : Prop := o.length = N ∧ ∀ b, b < N → ∃ u : Nat, o[b]? = some (u : Int) ∧ u < N ∧ Lev L b u
theorem LeI.whole {N : Nat} {L : Arcs} {o : List Int} (hok : Ok N L) (hac : Acy L) (h : LeI N L N 0 o) : IsL N L o := by
  refine ⟨h.len, fun b hb => ?_⟩
  obtain ⟨v, hv, hl⟩ := Lev.ex hok hac hb
  obtain ⟨u, h1, x, hw⟩ := h.get hb
  obtain ⟨⟨z, hz⟩, hm⟩ := hl
  obtain ⟨u', h2, h3⟩ := h.cmp b hb v z (by omega) hz
  rw [h1] at h2
  have e := Option.some.inj h2
  have := hm u x hw
  obtain rfl : u = v := by omega
  exact ⟨u, h1, hv, ⟨z, hz⟩, hm⟩
theorem IsL.one {N : Nat} {L : Arcs} {o p : List Int} (h : IsL N L o) (h' : IsL N L p) : o = p := by
  apply List.ext_getElem?
  intro b
  rcases Nat.lt_or_ge b N with h1 | h1
  · obtain ⟨u, h2, _, h3⟩ := h.2 b h1
    obtain ⟨v, h4, _, h5⟩ := h'.2 b h1
    rw [h2, h4, h3.one h5]
  · rw [List.getElem?_eq_none (by rw [h.1]; exact h1), List.getElem?_eq_none (by rw [h'.1]; exact h1)]
#print axioms chk_ok
#print axioms ReI.whole
#print axioms FaI.whole
#print axioms LeI.whole
end Go.Proofs.Ytlbknnafecdakaa.Graph
