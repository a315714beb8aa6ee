/- Several texts in one: StableA, StableB, StableC, StableD, StableE. -/
import Derived.Test.YtihklpkpcnahkaaRows
import Derived.Test.YtihklpkpcnahkaaPk1
import Derived.BigRegion
/- A stable sort by insertion and by rotations: what lies where, over places. Pure. -/
namespace Go.Proofs.Ytihklpkpcnahkaa.Stable
set_option linter.unusedVariables false

/-! ### Places exchanged, turned round -/
/-- Two places exchanged: first i gets what lay at j, then j what lay at i. -/
def sw (s : Nat → Nat) (i j : Nat) : Nat → Nat := fun k => if k = j then s i else if k = i then s j else s k
/-- n places from a, and n places from b, exchanged. -/
def swr (s : Nat → Nat) (a b n : Nat) : Nat → Nat := fun k => if a ≤ k ∧ k < a + n then s (k - a + b) else if b ≤ k ∧ k < b + n then s (k - b + a) else s k
/-- What lies in a .. m-1, and in m .. b-1, exchanged. -/
def rot (s : Nat → Nat) (a m b : Nat) : Nat → Nat := fun k => if a ≤ k ∧ k < a + (b - m) then s (k - a + m) else if a + (b - m) ≤ k ∧ k < b then s (k - (b - m)) else s k
theorem swr_zero (s : Nat → Nat) (a b : Nat) : swr s a b 0 = s := by
  funext k; unfold swr; rw [if_neg (by omega), if_neg (by omega)]
theorem swr_succ (s : Nat → Nat) {a b n i : Nat} (h : a + n ≤ b) (hi : i < n) : sw (swr s a b i) (a + i) (b + i) = swr s a b (i + 1) := by
  funext k
  simp only [sw, swr]
  repeat' split
  all_goals first | omega | rfl | (congr 1; omega)
theorem rot_left (s : Nat → Nat) {m : Nat} (b : Nat) (h : m ≤ b) : rot s m m b = s := by
  funext k; simp only [rot]
  repeat' split
  all_goals first | omega | rfl | (congr 1; omega)
theorem rot_right (s : Nat → Nat) {a m : Nat} (h : a ≤ m) : rot s a m m = s := by
  funext k; simp only [rot]
  repeat' split
  all_goals first | omega | rfl | (congr 1; omega)
theorem rot_same (s : Nat → Nat) {m i : Nat} (h : i ≤ m) : swr s (m - i) m i = rot s (m - i) m (m + i) := by
  funext k; simp only [rot, swr]
  repeat' split
  all_goals first | omega | rfl | (congr 1; omega)
theorem rot_more (s : Nat → Nat) {m i j : Nat} (h : i ≤ m) (hij : j < i) : rot (swr s (m - i) m j) (m - (i - j)) m (m + j) = rot s (m - i) m (m + j) := by
  funext k; simp only [rot, swr]
  repeat' split
  all_goals first | omega | rfl | (congr 1; omega)
theorem rot_less (s : Nat → Nat) {m i j : Nat} (h : i ≤ m) (hij : i < j) : rot (swr s (m - i) (m + j - i) i) (m - i) m (m + (j - i)) = rot s (m - i) m (m + j) := by
  funext k; simp only [rot, swr]
  repeat' split
  all_goals first | omega | rfl | (congr 1; omega)
theorem rot_up (s : Nat → Nat) {a k : Nat} (h : a ≤ k) : sw (rot s a (a + 1) (k + 1)) k (k + 1) = rot s a (a + 1) (k + 2) := by
  funext x; simp only [rot, sw]
  repeat' split
  all_goals first | omega | rfl | (congr 1; omega)
theorem rot_down (s : Nat → Nat) {m k : Nat} (h : k < m) : sw (rot s (k + 1) m (m + 1)) (k + 1) k = rot s k m (m + 1) := by
  funext x; simp only [rot, sw]
  repeat' split
  all_goals first | omega | rfl | (congr 1; omega)

/-! ### What lies in a part lay in it -/
/-- What lies in a .. b-1 lay there; all else is as it was. -/
structure Im (s s' : Nat → Nat) (a b : Nat) : Prop where
  in_ : ∀ k, a ≤ k → k < b → ∃ j, a ≤ j ∧ j < b ∧ s' k = s j
  out : ∀ k, k < a ∨ b ≤ k → s' k = s k
theorem Im.refl (s : Nat → Nat) (a b : Nat) : Im s s a b := ⟨fun k h1 h2 => ⟨k, h1, h2, rfl⟩, fun _ _ => rfl⟩
theorem Im.trans {s s' s'' : Nat → Nat} {a b : Nat} (h : Im s s' a b) (k : Im s' s'' a b) : Im s s'' a b :=
  ⟨fun i h1 h2 => by
    obtain ⟨j, j1, j2, e⟩ := k.in_ i h1 h2
    obtain ⟨l, l1, l2, e'⟩ := h.in_ j j1 j2
    exact ⟨l, l1, l2, e.trans e'⟩, fun i hi => (k.out i hi).trans (h.out i hi)⟩
theorem Im.wide {s s' : Nat → Nat} {a b c d : Nat} (h : Im s s' a b) (h1 : c ≤ a) (h2 : b ≤ d) : Im s s' c d :=
  ⟨fun k k1 k2 => by
    by_cases hk : a ≤ k ∧ k < b
    · obtain ⟨j, j1, j2, e⟩ := h.in_ k hk.1 hk.2
      exact ⟨j, by omega, by omega, e⟩
    · exact ⟨k, k1, k2, h.out k (by omega)⟩, fun k hk => h.out k (by omega)⟩
theorem Im.bound {s s' : Nat → Nat} {a b n N : Nat} (h : Im s s' a b) (hb : b ≤ n) (hs : ∀ k, k < n → s k < N) : ∀ k, k < n → s' k < N := by
  intro k hk
  by_cases hk' : a ≤ k ∧ k < b
  · obtain ⟨j, j1, j2, e⟩ := h.in_ k hk'.1 hk'.2
    rw [e]; exact hs j (by omega)
  · rw [h.out k (by omega)]; exact hs k hk
theorem im_sw (s : Nat → Nat) {a b i j : Nat} (hi : a ≤ i ∧ i < b) (hj : a ≤ j ∧ j < b) : Im s (sw s i j) a b :=
  ⟨fun k k1 k2 => by
    unfold sw
    split
    · exact ⟨i, hi.1, hi.2, rfl⟩
    · split
      · exact ⟨j, hj.1, hj.2, rfl⟩
      · exact ⟨k, k1, k2, rfl⟩, fun k hk => by unfold sw; rw [if_neg (by omega), if_neg (by omega)]⟩
theorem im_rot (s : Nat → Nat) {a m b : Nat} (h1 : a ≤ m) (h2 : m ≤ b) : Im s (rot s a m b) a b :=
  ⟨fun k k1 k2 => by
    unfold rot
    split
    · exact ⟨_, by omega, by omega, rfl⟩
    · rw [if_pos (by omega)]
      exact ⟨_, by omega, by omega, rfl⟩, fun k hk => by unfold rot; rw [if_neg (by omega), if_neg (by omega)]⟩

/-! ### Order -/
/-- A strict order of all that is not the same. -/
structure Sto (B : Nat → Nat → Bool) : Prop where
  irr : ∀ i, B i i = false
  trans : ∀ i j k, B i j = true → B j k = true → B i k = true
  total : ∀ i j, i ≠ j → B i j = true ∨ B j i = true
/-- In order. -/
def Srt (B : Nat → Nat → Bool) (s : Nat → Nat) (a b : Nat) : Prop := ∀ j k, a ≤ j → j < k → k < b → B (s j) (s k) = true
section
variable {B : Nat → Nat → Bool} {s s' : Nat → Nat} {a b m i j : Nat}
theorem Srt.part (h : Srt B s a b) {c d : Nat} (h1 : a ≤ c) (h2 : d ≤ b) : Srt B s c d := fun j k h3 h4 h5 => h j k (by omega) h4 (by omega)
theorem Srt.congr (h : Srt B s a b) (he : ∀ k, a ≤ k → k < b → s' k = s k) : Srt B s' a b := fun j k h1 h2 h3 => by
  rw [he j h1 (by omega), he k (by omega) h3]; exact h j k h1 h2 h3
theorem Srt.none_ (h : b ≤ a + 1) : Srt B s a b := fun j k h1 h2 h3 => by omega
theorem Sto.not (hB : Sto B) {x y : Nat} (h : B x y = true) : B y x = false := by
  cases h1 : B y x with
  | false => rfl
  | true => have := hB.trans _ _ _ h h1; rw [hB.irr] at this; cases this
theorem Sto.turn (hB : Sto B) {x y : Nat} (h : B x y = false) (hne : x ≠ y) : B y x = true := by
  rcases hB.total x y hne with h1 | h1
  · rw [h] at h1; cases h1
  · exact h1
/-- Two parts in order, the first one before the second one. -/
theorem Srt.join (hB : Sto B) (h1 : Srt B s a m) (h2 : Srt B s m b) (h : a < m → m < b → B (s (m - 1)) (s m) = true) : Srt B s a b := by
  intro j k h3 h4 h5
  rcases Nat.lt_or_ge k m with hk | hk
  · exact h1 j k h3 h4 hk
  · rcases Nat.lt_or_ge j m with hj | hj
    · have e1 : B (s j) (s (m - 1)) = true ∨ j = m - 1 := by
        rcases Nat.lt_or_ge j (m - 1) with hlt | hge
        · exact Or.inl (h1 j (m - 1) h3 hlt (by omega))
        · exact Or.inr (by omega)
      have e2 : B (s m) (s k) = true ∨ k = m := by
        rcases Nat.lt_or_ge m k with hlt | hge
        · exact Or.inl (h2 m k (Nat.le_refl _) hlt h5)
        · exact Or.inr (by omega)
      have e := h (by omega) (by omega)
      rcases e1 with e1 | rfl
      · rcases e2 with e2 | rfl
        · exact hB.trans _ _ _ e1 (hB.trans _ _ _ e e2)
        · exact hB.trans _ _ _ e1 e
      · rcases e2 with e2 | rfl
        · exact hB.trans _ _ _ e e2
        · exact e
    · exact h2 j k hj h4 h5
theorem Srt.glue (h1 : Srt B s a m) (h2 : Srt B s m b) (h : ∀ j k, a ≤ j → j < m → m ≤ k → k < b → B (s j) (s k) = true) : Srt B s a b := by
  intro j k h3 h4 h5
  rcases Nat.lt_or_ge k m with hk | hk
  · exact h1 j k h3 h4 hk
  · rcases Nat.lt_or_ge j m with hj | hj
    · exact h j k h3 hj hk h5
    · exact h2 j k hj h4 h5

/-! ### Two halves, merged -/
/-- Two parts, each in order; what is in the first one came before what is in the second one. -/
structure Halves (B : Nat → Nat → Bool) (s : Nat → Nat) (a m b : Nat) : Prop where
  l : Srt B s a m
  r : Srt B s m b
  t : ∀ j k, a ≤ j → j < m → m ≤ k → k < b → s j < s k
theorem Halves.congr (h : Halves B s a m b) (he : ∀ k, a ≤ k → k < b → s' k = s k) (h1 : a ≤ m) (h2 : m ≤ b) : Halves B s' a m b :=
  ⟨h.l.congr fun k k1 k2 => he k k1 (by omega), h.r.congr fun k k1 k2 => he k (by omega) k2, fun j k j1 j2 k1 k2 => by rw [he j j1 (by omega), he k (by omega) k2]; exact h.t j k j1 j2 k1 k2⟩
/-- Turned round where the first part's rest and the second part's beginning are exchanged. -/
structure Cut (B : Nat → Nat → Bool) (s : Nat → Nat) (a m b i j : Nat) : Prop where
  h : Halves B s a m b
  ai : a ≤ i
  im : i ≤ m
  mj : m ≤ j
  jb : j ≤ b
  uv : a < i → j < b → B (s (i - 1)) (s j) = true
  vu : i < m → m < j → B (s (j - 1)) (s i) = true
theorem rot_at1 (s : Nat → Nat) {i m j k : Nat} (h1 : i ≤ k) (h2 : k < i + (j - m)) : rot s i m j k = s (k - i + m) := by unfold rot; rw [if_pos ⟨h1, h2⟩]
theorem rot_at2 (s : Nat → Nat) {i m j k : Nat} (h1 : i + (j - m) ≤ k) (h2 : k < j) : rot s i m j k = s (k - (j - m)) := by unfold rot; rw [if_neg (by omega), if_pos ⟨h1, h2⟩]
theorem rot_at3 (s : Nat → Nat) {i m j k : Nat} (h1 : k < i ∨ j ≤ k) (h : i ≤ m) (h' : m ≤ j) : rot s i m j k = s k := by unfold rot; rw [if_neg (by omega), if_neg (by omega)]
theorem Cut.lo (c : Cut B s a m b i j) : Halves B (rot s i m j) a i (i + (j - m)) := by
  have h0 := c.ai; have h1 := c.im; have h2 := c.mj; have h3 := c.jb
  refine ⟨fun x y x1 x2 x3 => ?_, fun x y x1 x2 x3 => ?_, fun x y x1 x2 x3 x4 => ?_⟩
  · rw [rot_at3 s (Or.inl (by omega)) h1 h2, rot_at3 s (Or.inl x3) h1 h2]; exact c.h.l x y x1 x2 (by omega)
  · rw [rot_at1 s x1 (by omega), rot_at1 s (by omega) x3]; exact c.h.r _ _ (by omega) (by omega) (by omega)
  · rw [rot_at3 s (Or.inl x2) h1 h2, rot_at1 s x3 x4]; exact c.h.t _ _ x1 (by omega) (by omega) (by omega)
theorem Cut.hi (c : Cut B s a m b i j) : Halves B (rot s i m j) (i + (j - m)) j b := by
  have h0 := c.ai; have h1 := c.im; have h2 := c.mj; have h3 := c.jb
  refine ⟨fun x y x1 x2 x3 => ?_, fun x y x1 x2 x3 => ?_, fun x y x1 x2 x3 x4 => ?_⟩
  · rw [rot_at2 s x1 (by omega), rot_at2 s (by omega) x3]; exact c.h.l _ _ (by omega) (by omega) (by omega)
  · rw [rot_at3 s (Or.inr x1) h1 h2, rot_at3 s (Or.inr (by omega)) h1 h2]; exact c.h.r x y (by omega) x2 x3
  · rw [rot_at2 s x1 x2, rot_at3 s (Or.inr x3) h1 h2]; exact c.h.t _ _ (by omega) (by omega) (by omega) x4
theorem Cut.uvs (hB : Sto B) (c : Cut B s a m b i j) {x y : Nat} (x1 : a ≤ x) (x2 : x < i) (y1 : j ≤ y) (y2 : y < b) : B (s x) (s y) = true := by
  have h0 := c.ai; have h1 := c.im; have h2 := c.mj
  have e := c.uv (by omega) (by omega)
  have e1 : B (s x) (s (i - 1)) = true ∨ x = i - 1 := by
    rcases Nat.lt_or_ge x (i - 1) with h | h
    · exact Or.inl (c.h.l _ _ x1 h (by omega))
    · exact Or.inr (by omega)
  have e2 : B (s j) (s y) = true ∨ y = j := by
    rcases Nat.lt_or_ge j y with h | h
    · exact Or.inl (c.h.r _ _ (by omega) h y2)
    · exact Or.inr (by omega)
  rcases e1 with e1 | rfl
  · rcases e2 with e2 | rfl
    · exact hB.trans _ _ _ e1 (hB.trans _ _ _ e e2)
    · exact hB.trans _ _ _ e1 e
  · rcases e2 with e2 | rfl
    · exact hB.trans _ _ _ e e2
    · exact e
theorem Cut.vus (hB : Sto B) (c : Cut B s a m b i j) {x y : Nat} (x1 : m ≤ x) (x2 : x < j) (y1 : i ≤ y) (y2 : y < m) : B (s x) (s y) = true := by
  have h0 := c.ai; have h1 := c.im; have h2 := c.mj; have h3 := c.jb
  have e := c.vu (by omega) (by omega)
  have e1 : B (s x) (s (j - 1)) = true ∨ x = j - 1 := by
    rcases Nat.lt_or_ge x (j - 1) with h | h
    · exact Or.inl (c.h.r _ _ x1 h (by omega))
    · exact Or.inr (by omega)
  have e2 : B (s i) (s y) = true ∨ y = i := by
    rcases Nat.lt_or_ge i y with h | h
    · exact Or.inl (c.h.l _ _ (by omega) h y2)
    · exact Or.inr (by omega)
  rcases e1 with e1 | rfl
  · rcases e2 with e2 | rfl
    · exact hB.trans _ _ _ e1 (hB.trans _ _ _ e e2)
    · exact hB.trans _ _ _ e1 e
  · rcases e2 with e2 | rfl
    · exact hB.trans _ _ _ e e2
    · exact e
/-- What is below the new middle comes before what is above. -/
theorem Cut.mid (hB : Sto B) (c : Cut B s a m b i j) {x y : Nat} (x1 : a ≤ x) (x2 : x < i + (j - m)) (y1 : i + (j - m) ≤ y) (y2 : y < b) : B (rot s i m j x) (rot s i m j y) = true := by
  have h0 := c.ai; have h1 := c.im; have h2 := c.mj; have h3 := c.jb
  rcases Nat.lt_or_ge x i with hx | hx
  · rw [rot_at3 s (Or.inl hx) h1 h2]
    rcases Nat.lt_or_ge y j with hy | hy
    · rw [rot_at2 s y1 hy]; exact c.h.l _ _ x1 (by omega) (by omega)
    · rw [rot_at3 s (Or.inr hy) h1 h2]; exact c.uvs hB x1 hx hy y2
  · rw [rot_at1 s hx x2]
    rcases Nat.lt_or_ge y j with hy | hy
    · rw [rot_at2 s y1 hy]; exact c.vus hB (by omega) (by omega) (by omega) (by omega)
    · rw [rot_at3 s (Or.inr hy) h1 h2]; exact c.h.r _ _ (by omega) (by omega) y2
/-- Both sides put in order. -/
theorem Cut.done (hB : Sto B) (c : Cut B s a m b i j) {s2 s3 : Nat → Nat} (k2 : Im (rot s i m j) s2 a (i + (j - m))) (o2 : Srt B s2 a (i + (j - m))) (k3 : Im s2 s3 (i + (j - m)) b) (o3 : Srt B s3 (i + (j - m)) b) : Srt B s3 a b ∧ Im s s3 a b := by
  have h0 := c.ai; have h1 := c.im; have h2 := c.mj; have h3 := c.jb
  refine ⟨Srt.glue (o2.congr fun k x1 x2 => k3.out k (Or.inl x2)) o3 fun x y x1 x2 y1 y2 => ?_, ?_⟩
  · obtain ⟨y', z1, z2, e⟩ := k3.in_ y y1 y2
    obtain ⟨x', z3, z4, e'⟩ := k2.in_ x x1 x2
    rw [e, k3.out x (Or.inl x2), e', k2.out y' (Or.inr z1)]
    exact c.mid hB z3 z4 z1 z2
  · exact ((im_rot s h1 h2).wide h0 h3).trans ((k2.wide (Nat.le_refl _) (by omega)).trans (k3.wide (by omega) (Nat.le_refl _)))
/-- One value at the left, put in. -/
theorem Halves.one_left (hB : Sto B) (h : Halves B s a (a + 1) b) {i : Nat} (h1 : a + 1 ≤ i) (h2 : i ≤ b) (hlo : a + 1 < i → B (s (i - 1)) (s a) = true) (hhi : i < b → B (s i) (s a) = false) : Srt B (rot s a (a + 1) i) a b ∧ Im s (rot s a (a + 1) i) a b := by
  have c : Cut B s a (a + 1) b a i := ⟨h, Nat.le_refl _, by omega, h1, h2, fun h3 => by omega, fun _ h3 => hlo h3⟩
  have e := c.hi
  refine c.done hB (Im.refl _ _ _) c.lo.r (Im.refl _ _ _) (Srt.join hB e.l e.r fun h3 h4 => ?_)
  rw [rot_at2 s (by omega) (by omega), rot_at3 s (Or.inr (Nat.le_refl _)) (by omega) h1]
  have := h.t a i (Nat.le_refl _) (by omega) h1 h4
  rw [show i - 1 - (i - (a + 1)) = a by omega]
  exact hB.turn (hhi h4) (by omega)
/-- One value at the right, put in. -/
theorem Halves.one_right (hB : Sto B) (h : Halves B s a m (m + 1)) {i : Nat} (h1 : a ≤ i) (h2 : i ≤ m) (hlo : a < i → B (s m) (s (i - 1)) = false) (hhi : i < m → B (s m) (s i) = true) : Srt B (rot s i m (m + 1)) a (m + 1) ∧ Im s (rot s i m (m + 1)) a (m + 1) := by
  have c : Cut B s a m (m + 1) i (m + 1) := ⟨h, h1, h2, by omega, Nat.le_refl _, fun _ h3 => by omega, fun h3 _ => hhi h3⟩
  have e := c.lo
  refine c.done hB (Im.refl _ _ _) (Srt.join hB e.l e.r fun h3 h4 => ?_) (Im.refl _ _ _) c.hi.l
  rw [rot_at3 s (Or.inl (by omega)) h2 (by omega), rot_at1 s (Nat.le_refl _) (by omega)]
  have := h.t (i - 1) m (by omega) (by omega) (Nat.le_refl _) (by omega)
  rw [show i - i + m = m by omega]
  exact hB.turn (hlo h3) (by omega)
/-- What the search finds is a place to cut at. -/
theorem Halves.cut (hB : Sto B) (h : Halves B s a m b) {mid lo hi st : Nat} (hm : mid = (a + b) / 2) (ham : a ≤ m) (hmb : m ≤ b) (hlo : lo = if mid < m then mid + m - b else a) (hhi : hi = if mid < m then mid else m) (h1 : lo ≤ st) (h2 : st ≤ hi)
    (hn : lo < st → B (s (mid + m - 1 - (st - 1))) (s (st - 1)) = false) (hy : st < hi → B (s (mid + m - 1 - st)) (s st) = true) : Cut B s a m b st (mid + m - st) := by
  by_cases hc : mid < m
  · rw [if_pos hc] at hlo hhi
    refine ⟨h, by omega, by omega, by omega, by omega, fun h3 h4 => ?_, fun h3 h4 => ?_⟩
    · have e := hn (by omega)
      have := h.t (st - 1) (mid + m - st) (by omega) (by omega) (by omega) h4
      rw [show mid + m - 1 - (st - 1) = mid + m - st by omega] at e
      exact hB.turn e (by omega)
    · rw [show mid + m - st - 1 = mid + m - 1 - st by omega]; exact hy (by omega)
  · rw [if_neg hc] at hlo hhi
    refine ⟨h, by omega, by omega, by omega, by omega, fun h3 h4 => ?_, fun h3 h4 => ?_⟩
    · have e := hn (by omega)
      have := h.t (st - 1) (mid + m - st) (by omega) (by omega) (by omega) h4
      rw [show mid + m - 1 - (st - 1) = mid + m - st by omega] at e
      exact hB.turn e (by omega)
    · rw [show mid + m - st - 1 = mid + m - 1 - st by omega]; exact hy (by omega)

/-! ### Insertion -/
/-- Within an insertion: the value lies at j; behind it all of i and below that come after it. -/
structure Ins (B : Nat → Nat → Bool) (s c : Nat → Nat) (a i j : Nat) : Prop where
  aj : a ≤ j
  ji : j ≤ i
  im : Im s c a (i + 1)
  x : c j = s i
  o : ∀ p q, a ≤ p → p < q → q ≤ i → p ≠ j → q ≠ j → B (c p) (c q) = true
  up : ∀ q, j < q → q ≤ i → B (c j) (c q) = true
  t : ∀ p, a ≤ p → p < j → c p < c j
theorem Ins.start (h : Srt B s a i) (hai : a ≤ i) (ht : ∀ p, a ≤ p → p < i → s p < s i) : Ins B s s a i i :=
  ⟨hai, Nat.le_refl _, Im.refl _ _ _, rfl, fun p q h1 h2 h3 h4 h5 => h p q h1 h2 (by omega), fun q h1 h2 => by omega, ht⟩
theorem Ins.step {c : Nat → Nat} (h : Ins B s c a i j) (haj : a < j) (hlt : B (c j) (c (j - 1)) = true) : Ins B s (sw c j (j - 1)) a i (j - 1) := by
  have h1 := h.aj; have h2 := h.ji
  have ej : sw c j (j - 1) (j - 1) = c j := by unfold sw; rw [if_pos rfl]
  have ej' : sw c j (j - 1) j = c (j - 1) := by unfold sw; rw [if_neg (by omega), if_pos rfl]
  have eo : ∀ k, k ≠ j → k ≠ j - 1 → sw c j (j - 1) k = c k := fun k h3 h4 => by unfold sw; rw [if_neg h4, if_neg h3]
  refine ⟨by omega, by omega, h.im.trans (im_sw c ⟨h1, by omega⟩ ⟨by omega, by omega⟩), by rw [ej]; exact h.x, fun p q h3 h4 h5 h6 h7 => ?_, fun q h3 h4 => ?_, fun p h3 h4 => ?_⟩
  · by_cases hp : p = j
    · subst hp
      rw [ej', eo q (by omega) h7]
      exact h.o (p - 1) q (by omega) (by omega) h5 (by omega) (by omega)
    · by_cases hq : q = j
      · subst hq
        rw [ej', eo p hp h6]
        exact h.o p (q - 1) h3 (by omega) (by omega) hp (by omega)
      · rw [eo p hp h6, eo q hq h7]; exact h.o p q h3 h4 h5 hp hq
  · rw [ej]
    by_cases hq : q = j
    · subst hq; rw [ej']; exact hlt
    · rw [eo q hq (by omega)]; exact h.up q (by omega) h4
  · rw [ej, eo p (by omega) (by omega)]; exact h.t p h3 (by omega)
theorem Ins.done {c : Nat → Nat} (hB : Sto B) (h : Ins B s c a i j) (he : j = a ∨ (a < j ∧ B (c j) (c (j - 1)) = false)) : Srt B c a (i + 1) ∧ Im s c a (i + 1) := by
  have h1 := h.aj; have h2 := h.ji
  refine ⟨fun p q h3 h4 h5 => ?_, h.im⟩
  by_cases hp : p = j
  · subst hp; exact h.up q h4 (by omega)
  · by_cases hq : q = j
    · subst hq
      rcases he with he | ⟨he1, he2⟩
      · omega
      · have ht := h.t (q - 1) (by omega) (by omega)
        have e := hB.turn he2 (by omega)
        rcases Nat.lt_or_ge p (q - 1) with hlt | hge
        · exact hB.trans _ _ _ (h.o p (q - 1) h3 hlt (by omega) (by omega) (by omega)) e
        · obtain rfl : p = q - 1 := by omega
          exact e
    · exact h.o p q h3 h4 (by omega) hp hq

/-! ### Blocks -/
/-- A block in order, of what lay in it. -/
structure Bl (B : Nat → Nat → Bool) (s : Nat → Nat) (a b : Nat) : Prop where
  o : Srt B s a b
  v : ∀ k, a ≤ k → k < b → a ≤ s k ∧ s k < b
theorem Bl.none_ (h : b ≤ a) : Bl B s a b := ⟨Srt.none_ (by omega), fun k h1 h2 => by omega⟩
theorem Bl.congr (h : Bl B s a b) (he : ∀ k, a ≤ k → k < b → s' k = s k) : Bl B s' a b := ⟨h.o.congr he, fun k h1 h2 => by rw [he k h1 h2]; exact h.v k h1 h2⟩
theorem Bl.of_id (hs : ∀ k, a ≤ k → k < b → s k = k) (h : Srt B s' a b) (hi : Im s s' a b) : Bl B s' a b :=
  ⟨h, fun k h1 h2 => by
    obtain ⟨j, j1, j2, e⟩ := hi.in_ k h1 h2
    rw [e, hs j j1 j2]; exact ⟨j1, j2⟩⟩
theorem Bl.halves (h1 : Bl B s a m) (h2 : Bl B s m b) : Halves B s a m b :=
  ⟨h1.o, h2.o, fun j k j1 j2 k1 k2 => by have := h1.v j j1 j2; have := h2.v k k1 k2; omega⟩
theorem Bl.merged (h1 : Bl B s a m) (h2 : Bl B s m b) (ham : a ≤ m) (hmb : m ≤ b) (h : Srt B s' a b) (hi : Im s s' a b) : Bl B s' a b :=
  ⟨h, fun k k1 k2 => by
    obtain ⟨j, j1, j2, e⟩ := hi.in_ k k1 k2
    rw [e]
    rcases Nat.lt_or_ge j m with hj | hj
    · have := h1.v j j1 hj; omega
    · have := h2.v j hj j2; omega⟩
/-- All blocks of z. -/
def Bls (B : Nat → Nat → Bool) (s : Nat → Nat) (z n : Nat) : Prop := ∀ u, Bl B s (u * z) (min (u * z + z) n)
/-- Blocks of 20 up to a, the rest as it was. -/
structure Ph1 (B : Nat → Nat → Bool) (s : Nat → Nat) (n t : Nat) : Prop where
  le : t * 20 ≤ n
  done : ∀ u, u < t → Bl B s (u * 20) (u * 20 + 20)
  rest : ∀ k, t * 20 ≤ k → s k = k
theorem Ph1.start (n : Nat) (h : ∀ k, s k = k) : Ph1 B s n 0 := ⟨by omega, fun u hu => by omega, fun k _ => h k⟩
theorem Ph1.next {n t : Nat} (h : Ph1 B s n t) (hle : t * 20 + 20 ≤ n) (ho : Srt B s' (t * 20) (t * 20 + 20)) (hi : Im s s' (t * 20) (t * 20 + 20)) : Ph1 B s' n (t + 1) :=
  ⟨by omega, fun u hu => by
    rcases Nat.lt_or_ge u t with hut | hut
    · exact (h.done u hut).congr fun k k1 k2 => hi.out k (by omega)
    · obtain rfl : u = t := by omega
      exact Bl.of_id (fun k k1 _ => h.rest k k1) ho hi, fun k hk => by rw [hi.out k (by omega)]; exact h.rest k (by omega)⟩
theorem Ph1.all {n t : Nat} (h : Ph1 B s n t) (hlt : n < t * 20 + 20) (ho : Srt B s' (t * 20) n) (hi : Im s s' (t * 20) n) : Bls B s' 20 n := by
  have h0 := h.le
  intro u
  rcases Nat.lt_trichotomy u t with hu | rfl | hu
  · rw [Nat.min_eq_left (by omega)]
    exact (h.done u hu).congr fun k k1 k2 => hi.out k (by omega)
  · rw [Nat.min_eq_right (by omega)]
    exact Bl.of_id (fun k k1 _ => h.rest k k1) ho hi
  · exact Bl.none_ (by rw [Nat.min_eq_right (by omega)]; omega)
/-- Blocks of 2 z up to a, blocks of z behind. -/
structure Ph2 (B : Nat → Nat → Bool) (s : Nat → Nat) (z n t a : Nat) : Prop where
  at_ : a = t * (2 * z)
  le : a ≤ n
  done : ∀ u, u < t → Bl B s (u * (2 * z)) (u * (2 * z) + 2 * z)
  rest : ∀ u, 2 * t ≤ u → Bl B s (u * z) (min (u * z + z) n)
theorem Ph2.start {z n : Nat} (h : Bls B s z n) : Ph2 B s z n 0 0 := ⟨by omega, by omega, fun u hu => by omega, fun u _ => h u⟩
theorem mul_two (t z : Nat) : 2 * t * z = t * (2 * z) := by rw [Nat.mul_comm 2 t, Nat.mul_assoc]
theorem Ph2.first {z n t a : Nat} (h : Ph2 B s z n t a) : Bl B s a (min (a + z) n) := by
  have := h.rest (2 * t) (Nat.le_refl _)
  rw [mul_two, ← h.at_] at this; exact this
theorem Ph2.second {z n t a : Nat} (h : Ph2 B s z n t a) : Bl B s (a + z) (min (a + 2 * z) n) := by
  have := h.rest (2 * t + 1) (by omega)
  rw [Nat.succ_mul, mul_two, ← h.at_, Nat.add_assoc, show z + z = 2 * z by omega] at this; exact this
theorem Ph2.before {z n t a : Nat} (h : Ph2 B s z n t a) {u : Nat} (hu : u < t) : u * (2 * z) + 2 * z ≤ a := by
  have := Nat.mul_le_mul_right (2 * z) (show u + 1 ≤ t from hu)
  rw [Nat.succ_mul] at this; rw [h.at_]; exact this
theorem Ph2.next {z n t a : Nat} (h : Ph2 B s z n t a) (hle : a + 2 * z ≤ n) (ho : Srt B s' a (a + 2 * z)) (hi : Im s s' a (a + 2 * z)) : Ph2 B s' z n (t + 1) (a + 2 * z) := by
  have e1 := h.first
  have e2 := h.second
  rw [Nat.min_eq_left (by omega)] at e1 e2
  refine ⟨by rw [Nat.succ_mul t (2 * z), ← h.at_], hle, fun u hu => ?_, fun u hu => ?_⟩
  · rcases Nat.lt_or_ge u t with hut | hut
    · have := h.before hut
      exact (h.done u hut).congr fun k k1 k2 => hi.out k (by omega)
    · obtain rfl : u = t := by omega
      rw [← h.at_]
      exact Bl.merged e1 e2 (by omega) (by omega) ho hi
  · have h5 := Nat.mul_le_mul_right z (show 2 * t + 2 ≤ u by omega)
    rw [Nat.add_mul, mul_two, ← h.at_] at h5
    exact (h.rest u (by omega)).congr fun k k1 k2 => hi.out k (by omega)
theorem Ph2.tail {z n t a : Nat} (h : Ph2 B s z n t a) (hlt : n < a + 2 * z) (hb : Bl B s' a n) (he : ∀ k, k < a → s' k = s k) : Bls B s' (2 * z) n := by
  have h0 := h.le
  intro u
  rcases Nat.lt_trichotomy u t with hu | rfl | hu
  · have := h.before hu
    rw [Nat.min_eq_left (by omega)]
    exact (h.done u hu).congr fun k k1 k2 => he k (by omega)
  · rw [← h.at_, Nat.min_eq_right (by omega)]; exact hb
  · have h5 := Nat.mul_le_mul_right (2 * z) (show t + 1 ≤ u from hu)
    rw [Nat.succ_mul, ← h.at_] at h5
    exact Bl.none_ (by rw [Nat.min_eq_right (by omega)]; omega)
/-- The last block and a short one behind it. -/
theorem Ph2.last {z n t a : Nat} (h : Ph2 B s z n t a) (hlt : n < a + 2 * z) (hm : a + z < n) (ho : Srt B s' a n) (hi : Im s s' a n) : Bls B s' (2 * z) n := by
  have e1 := h.first
  have e2 := h.second
  rw [Nat.min_eq_left (by omega)] at e1
  rw [Nat.min_eq_right (by omega)] at e2
  exact h.tail hlt (Bl.merged e1 e2 (by omega) (by omega) ho hi) fun k hk => hi.out k (by omega)
theorem Ph2.alone {z n t a : Nat} (h : Ph2 B s z n t a) (hlt : n < a + 2 * z) (hm : n ≤ a + z) : Bls B s (2 * z) n := by
  have e1 := h.first
  rw [Nat.min_eq_right (by omega)] at e1
  exact h.tail hlt e1 fun _ _ => rfl
theorem Bls.all {z n : Nat} (h : Bls B s z n) (hz : n ≤ z) : Srt B s 0 n ∧ ∀ k, k < n → s k < n := by
  have := h 0
  rw [Nat.zero_mul, Nat.zero_add, Nat.min_eq_right hz] at this
  exact ⟨this.o, fun k hk => (this.v k (Nat.zero_le _) hk).2⟩
end
/-- The same, by other names (for texts that write 'lo', 'hi' for something else). -/
theorem Cut.low {B : Nat → Nat → Bool} {s : Nat → Nat} {a b m i j : Nat} (c : Cut B s a m b i j) : Halves B (rot s i m j) a i (i + (j - m)) := c.lo
theorem Cut.high {B : Nat → Nat → Bool} {s : Nat → Nat} {a b m i j : Nat} (c : Cut B s a m b i j) : Halves B (rot s i m j) (i + (j - m)) j b := c.hi
end Go.Proofs.Ytihklpkpcnahkaa.Stable
/- A stable sort in memory: the row that is sorted, exchanges, rotations. -/
namespace Go.Proofs.Ytihklpkpcnahkaa.Stable
open Go.ChangeShapes Go.WideShapes Go.RowKit Go.Lib Go.Proofs.Ytihklpkpcnahkaa.Mem
set_option linter.unusedVariables false
set_option maxRecDepth 100000

/-- The values of what lies where. -/
def vals (v : Nat → Int) (s : Nat → Nat) (n : Nat) : List Int := (List.range n).map fun k => v (s k)
theorem vals_len (v : Nat → Int) (s : Nat → Nat) (n : Nat) : (vals v s n).length = n := by simp [vals]
theorem vals_at (v : Nat → Int) (s : Nat → Nat) {n i : Nat} (h : i < n) : (vals v s n)[i]? = some (v (s i)) := by
  unfold vals; rw [List.getElem?_map, List.getElem?_range h]; rfl
theorem vals_sw (v : Nat → Int) (s : Nat → Nat) {n i j : Nat} (hi : i < n) (hj : j < n) : ((vals v s n).set i (v (s j))).set j (v (s i)) = vals v (sw s i j) n := by
  apply List.ext_getElem?
  intro k
  rcases Nat.lt_or_ge k n with hk | hk
  · rw [vals_at v _ hk, List.getElem?_set, List.getElem?_set, List.length_set, vals_len]
    unfold sw
    by_cases h1 : k = j
    · subst h1; simp [hk]
    · rw [if_neg (fun e => h1 e.symm), if_neg h1]
      by_cases h2 : k = i
      · subst h2; simp [hk]
      · rw [if_neg (fun e => h2 e.symm), if_neg h2, vals_at v s hk]
  · rw [List.getElem?_eq_none (by rw [List.length_set, List.length_set, vals_len]; exact hk), List.getElem?_eq_none (by rw [vals_len]; exact hk)]
/-- The row at block g: place k holds the value of what s tells; all but the row is as it was in w0. -/
structure St (v : Nat → Int) (g n cap : Nat) (w0 w : World) (s : Nat → Nat) : Prop where
  own : Own eI 3 0 w (.slice (some ⟨g, 0, none⟩) n cap) (vals v s n)
  off : Off (fun x => x = g) w0 w
  b : ∀ k, k < n → s k < n
section
variable {v : Nat → Int} {g n cap : Nat} {w0 w w' : World} {s : Nat → Nat}
theorem St.cell (h : St v g n cap w0 w s) {k : Nat} (hk : k < n) : w.cell? ⟨g, k, none⟩ = some (.int .i64 (v (s k))) := h.own.cell (vals_at v s hk)
theorem St.warm (h : St v g n cap w0 w s) (k : Nat) : w.frozen? ⟨g, k, none⟩ = false := h.own.warm (vals_len v s n).symm k
theorem St.on (h : St v g n cap w0 w s) (hb : Below w.heap.size w w') : St v g n cap w0 w' s := ⟨h.own.on hb, h.off.then_below hb, h.b⟩
theorem St.drew (h : St v g n cap w0 w s) : St v g n cap w0 w.drew s := h.on (drew_below w)
theorem St.drewN (h : St v g n cap w0 w s) (m : Nat) : St v g n cap w0 (w.drewN m) s := h.on (below_drewN (Below.refl _ _) m)
/-- Two cells stay as they are. -/
theorem St.keep (h : St v g n cap w0 w s) {j p : Nat} (hj : j < n) (hp : p < n) {x y : Int} (hx : x = v (s j)) (hy : y = v (s p)) : ∀ W, Below w.drew.heap.size w.drew W → W.cell? ⟨g, j, none⟩ = some (.int .i64 x) ∧ W.cell? ⟨g, p, none⟩ = some (.int .i64 y) := fun W hW => by
  subst hx; subst hy
  exact ⟨(h.drew.on hW).cell hj, (h.drew.on hW).cell hp⟩
theorem St.swap (h : St v g n cap w0 w s) {i j : Nat} (hi : i < n) (hj : j < n) : St v g n cap w0 ((w.setCell ⟨g, i, none⟩ (.int .i64 (v (s j)))).setCell ⟨g, j, none⟩ (.int .i64 (v (s i)))) (sw s i j) := by
  have h1 := h.own.set (vals_len v s n).symm i (v (s j))
  have h2 := h1.set (by rw [List.length_set, vals_len]) j (v (s i))
  rw [vals_sw v s hi hj] at h2
  refine ⟨h2, (h.off.set (p := ⟨g, i, none⟩) (Or.inl rfl) _).set (p := ⟨g, j, none⟩) (Or.inl rfl) _, fun k hk => ?_⟩
  have hb := h.b
  unfold sw
  split
  · exact hb i hi
  · split
    · exact hb j hj
    · exact hb k hk
theorem St.to (h : St v g n cap w0 w s) {s' : Nat → Nat} (he : s = s') : St v g n cap w0 w s' := he ▸ h
end

set_option maxHeartbeats 1600000 in
theorem swap_range {v : Nat → Int} {g n cap : Nat} {w0 w : World} {s : Nat → Nat} (h : St v g n cap w0 w s) (hn : n ≤ 1000000) (a b m : Nat) (h1 : a + m ≤ b) (h2 : b + m ≤ n) (F : Nat) (caps : Array Value) :
    Calls Try.prog 76 #[.slice (some ⟨g, 0, none⟩) n cap, .int .i64 (a : Int), .int .i64 (b : Int), .int .i64 (m : Int), .func (.func F) #[] caps] w fun e w' => e = .returned (.tuple #[]) ∧ St v g n cap w0 w' (swr s a b m) := by
  have HS := Lib.hid h
  have HN := Lib.hid hn
  have H1 := Lib.hid h1
  have H2 := Lib.hid h2
  clear h hn h1 h2
  go_enter Try.func76, Try.ntmps76
  go_wp2_with fail
  go_loopw [10] (fun i wr => ∃ k : Nat, k ≤ m ∧ i = .int .i64 (k : Int) ∧ St v g n cap w0 wr (swr s a b k)) (fun i _ => m - (RowKit.intOf i).toNat)
  case atStart => exact ⟨0, Nat.zero_le _, rfl, by rw [swr_zero]; exact HS.out⟩
  case round =>
    obtain ⟨k, hk, rfl, hst⟩ := hrel
    have HST := Lib.hid hst
    clear hst
    rcases Nat.lt_or_ge k m with hlt | hge
    · have hN := HN.out
      have hH1 := H1.out
      have hH2 := H2.out
      obtain ⟨p, hp⟩ : ∃ p, p = a + k := ⟨_, rfl⟩
      obtain ⟨q, hq⟩ : ∃ q, q = b + k := ⟨_, rfl⟩
      have ep : IntKind.i64.wrap ((a : Int) + (k : Int)) = (p : Int) := by rw [wrap_id (by omega)]; omega
      have eq : IntKind.i64.wrap ((b : Int) + (k : Int)) = (q : Int) := by rw [wrap_id (by omega)]; omega
      have cp := HST.out.cell (k := p) (by omega)
      have cq := HST.out.cell (k := q) (by omega)
      have fp := HST.out.warm p
      have fq := HST.out.warm q
      have HE := Lib.hid ((HST.out.swap (i := p) (j := q) (by omega) (by omega)).to (s' := swr s a b (k + 1)) (by rw [hp, hq]; exact swr_succ s H1.out hlt))
      obtain ⟨x, hx⟩ : ∃ x, x = v (swr s a b k p) := ⟨_, rfl⟩
      obtain ⟨y, hy⟩ : ∃ y, y = v (swr s a b k q) := ⟨_, rfl⟩
      rw [← hx] at cp HE
      rw [← hy] at cq HE
      have hpq : ¬ p = q := by omega
      have hqp : ¬ q = p := by omega
      have i1 : (p : Int) < (n : Int) := by omega
      have i2 : (0 : Int) ≤ (p : Int) := by omega
      have i3 : (q : Int) < (n : Int) := by omega
      have i4 : (0 : Int) ≤ (q : Int) := by omega
      have hk1 : IntKind.i64.wrap ((k : Int) + 1) = ((k + 1 : Nat) : Int) := wrap_id (by omega)
      have i5 : (k : Int) < (m : Int) := by omega
      clear hp hq hx hy hN hH1 hH2 hk hlt
      go_wp2_with fail
      go_region
      all_goals
        go_wp2_with fail
        go_roundw
        case rel => exact ⟨k + 1, by omega, rfl, HE.out.drew⟩
        case measure => simp [RowKit.intOf]; omega
    · obtain rfl : m = k := by omega
      go_wp2_with fail
      go_end0
      exact ⟨rfl, HST.out⟩
end Go.Proofs.Ytihklpkpcnahkaa.Stable
/- A stable sort in memory: rotations; the comparison; insertion. -/
namespace Go.Proofs.Ytihklpkpcnahkaa.Stable
open Go.ChangeShapes Go.WideShapes Go.RowKit Go.Lib Go.Proofs.Ytihklpkpcnahkaa.Mem
set_option linter.unusedVariables false
set_option maxRecDepth 100000

set_option maxHeartbeats 1600000 in
theorem rotate {v : Nat → Int} {g n cap : Nat} {w0 w : World} {s : Nat → Nat} (h : St v g n cap w0 w s) (hn : n ≤ 1000000) (a m b : Nat) (h1 : a < m) (h2 : m < b) (h3 : b ≤ n) (F : Nat) (caps : Array Value) :
    Calls Try.prog 75 #[.slice (some ⟨g, 0, none⟩) n cap, .int .i64 (a : Int), .int .i64 (m : Int), .int .i64 (b : Int), .func (.func F) #[] caps] w fun e w' => e = .returned (.tuple #[]) ∧ St v g n cap w0 w' (rot s a m b) := by
  have HS := Lib.hid h
  have HN := Lib.hid hn
  obtain ⟨i0, hi0⟩ : ∃ x, x = m - a := ⟨_, rfl⟩
  obtain ⟨j0, hj0⟩ : ∃ x, x = b - m := ⟨_, rfl⟩
  have e1 : IntKind.i64.wrap ((m : Int) - (a : Int)) = (i0 : Int) := by rw [wrap_id (by omega)]; omega
  have e2 : IntKind.i64.wrap ((b : Int) - (m : Int)) = (j0 : Int) := by rw [wrap_id (by omega)]; omega
  have HI := Lib.hid (show m - i0 = a ∧ m + j0 = b ∧ 0 < i0 ∧ 0 < j0 ∧ i0 ≤ m ∧ m + j0 ≤ n by omega)
  clear h hn h1 h2 h3 hi0 hj0
  go_enter Try.func75, Try.ntmps75
  go_wp2_with fail
  go_loopw [10, 11] (fun x y wr => ∃ (i j : Nat) (c : Nat → Nat), x = .int .i64 (i : Int) ∧ y = .int .i64 (j : Int) ∧ 0 < i ∧ 0 < j ∧ i ≤ m ∧ m + j ≤ n ∧ St v g n cap w0 wr c ∧ rot c (m - i) m (m + j) = rot s a m b) (fun x y _ => (RowKit.intOf x).toNat + (RowKit.intOf y).toNat)
  case atStart => exact ⟨i0, j0, s, rfl, rfl, HI.out.2.2.1, HI.out.2.2.2.1, HI.out.2.2.2.2.1, HI.out.2.2.2.2.2, HS.out, by rw [HI.out.1, HI.out.2.1]⟩
  case round =>
    obtain ⟨i, j, c, rfl, rfl, hi, hj, him, hjn, hst, hrot⟩ := hrel
    have HST := Lib.hid hst
    have HROT := Lib.hid hrot
    have hN := HN.out
    clear hst hrot e1 e2
    obtain ⟨p, hp⟩ : ∃ x, x = m - i := ⟨_, rfl⟩
    have ep : IntKind.i64.wrap ((m : Int) - (i : Int)) = (p : Int) := by rw [wrap_id (by omega)]; omega
    rcases Nat.lt_trichotomy i j with hlt | heq | hgt
    · obtain ⟨d, hd⟩ : ∃ x, x = j - i := ⟨_, rfl⟩
      obtain ⟨q, hq⟩ : ∃ x, x = m + j := ⟨_, rfl⟩
      obtain ⟨r, hr⟩ : ∃ x, x = m + j - i := ⟨_, rfl⟩
      have eq : IntKind.i64.wrap ((m : Int) + (j : Int)) = (q : Int) := by rw [wrap_id (by omega)]; omega
      have er : IntKind.i64.wrap ((q : Int) - (i : Int)) = (r : Int) := by rw [wrap_id (by omega)]; omega
      have ed : IntKind.i64.wrap ((j : Int) - (i : Int)) = (d : Int) := by rw [wrap_id (by omega)]; omega
      have HC := Lib.hid (swap_range HST.out hN p r i (by omega) (by omega) F caps)
      have b1 : ((i : Int) != (j : Int)) = true := by simp; omega
      have b2 : ¬ j < i := by omega
      have b3 : ¬ i = j := by omega
      have b4 : decide (j < i) = false := decide_eq_false (by omega)
      have HX := Lib.hid (show 0 < d ∧ d < j ∧ m + d ≤ n ∧ p = m - i ∧ r = m + j - i ∧ d = j - i by omega)
      clear hp hq hr hd hN hlt
      go_wp2_with fail
      refine HC.out.mono ?_
      rintro e w2 ⟨rfl, hst2⟩
      have HST2 := Lib.hid hst2
      clear hst2
      go_wp2_with fail
      go_roundw
      case rel =>
        obtain ⟨x1, x2, x3, x4, x5, x6⟩ := HX.out
        refine ⟨i, d, _, rfl, rfl, hi, x1, him, x3, HST2.out, ?_⟩
        rw [← HROT.out, x4, x5, x6]
        exact rot_less c him (by omega)
      case measure =>
        have hX := HX.out
        simp [RowKit.intOf]; omega
    · subst heq
      have HC := Lib.hid (swap_range HST.out hN p m i (by omega) (by omega) F caps)
      have HP := Lib.hid hp
      have b1 : ((i : Int) != (i : Int)) = false := by simp
      clear hp hN
      go_wp2_with fail
      refine HC.out.mono ?_
      rintro e w2 ⟨rfl, hst2⟩
      have HST2 := Lib.hid hst2
      clear hst2
      go_wp2_with fail
      go_end0
      refine ⟨rfl, HST2.out.to ?_⟩
      rw [← HROT.out, HP.out]
      exact rot_same c him
    · obtain ⟨d, hd⟩ : ∃ x, x = i - j := ⟨_, rfl⟩
      have ed : IntKind.i64.wrap ((i : Int) - (j : Int)) = (d : Int) := by rw [wrap_id (by omega)]; omega
      have HC := Lib.hid (swap_range HST.out hN p m j (by omega) (by omega) F caps)
      have b1 : ((i : Int) != (j : Int)) = true := by simp; omega
      have b2 : j < i := by omega
      have b3 : ¬ i = j := by omega
      have b4 : decide (j < i) = true := decide_eq_true (by omega)
      have HX := Lib.hid (show 0 < d ∧ d < i ∧ d ≤ m ∧ p = m - i ∧ d = i - j by omega)
      clear hp hd hN hgt
      go_wp2_with fail
      refine HC.out.mono ?_
      rintro e w2 ⟨rfl, hst2⟩
      have HST2 := Lib.hid hst2
      clear hst2
      go_wp2_with fail
      go_roundw
      case rel =>
        obtain ⟨x1, x2, x3, x4, x5⟩ := HX.out
        refine ⟨d, j, _, rfl, rfl, x1, hj, x3, hjn, HST2.out, ?_⟩
        rw [← HROT.out, x4, x5]
        exact rot_more c him (by omega)
      case measure =>
        have hX := HX.out
        simp [RowKit.intOf]; omega

end Go.Proofs.Ytihklpkpcnahkaa.Stable
/- A stable sort in memory: the comparison; insertion. -/
namespace Go.Proofs.Ytihklpkpcnahkaa.Stable
open Go.ChangeShapes Go.WideShapes Go.RowKit Go.Lib Go.Proofs.Ytihklpkpcnahkaa.Mem
set_option linter.unusedVariables false
set_option maxRecDepth 100000

/-- Function F with what it captured compares: of two values the later one first. -/
structure Cm (v : Nat → Int) (B : Nat → Nat → Bool) (n g : Nat) (w0 : World) (F : Nat) (caps : Array Value) (cf : Nat → Nat → Int) : Prop where
  eg : ∀ args w, (callFunc F args).run Try.prog w = .ok (.enter F args) w
  neg : ∀ i j, j < i → i < n → decide (cf i j < 0) = B i j
  call : ∀ i j W, j < i → i < n → Off (fun x => x = g) w0 W → Calls Try.prog F (#[.int .i64 (v i), .int .i64 (v j)] ++ caps) W fun e w' => e = .returned (.int .i64 (cf i j)) ∧ Below W.heap.size W w'

set_option maxHeartbeats 1600000 in
theorem insertion {v : Nat → Int} {B : Nat → Nat → Bool} {g n cap F : Nat} {caps : Array Value} {cf : Nat → Nat → Int} {w0 w : World} {s : Nat → Nat} (hB : Sto B) (hc : Cm v B n g w0 F caps cf) (h : St v g n cap w0 w s) (hn : n ≤ 1000000) (a b : Nat) (hab : a ≤ b) (hbn : b ≤ n) (ht : ∀ p q, a ≤ p → p < q → q < b → s p < s q) :
    Calls Try.prog 72 #[.slice (some ⟨g, 0, none⟩) n cap, .int .i64 (a : Int), .int .i64 (b : Int), .func (.func F) #[] caps] w fun e w' => e = .returned (.tuple #[]) ∧ ∃ s', St v g n cap w0 w' s' ∧ Srt B s' a b ∧ Im s s' a b := by
  have HS := Lib.hid h
  have HB := Lib.hid hB
  have HT := Lib.hid ht
  have eg := hc.eg
  have HC := Lib.hid hc
  have e1 : IntKind.i64.wrap ((a : Int) + 1) = ((a + 1 : Nat) : Int) := wrap_id (by omega)
  clear h hB ht hc
  go_enter Try.func72, Try.ntmps72
  go_wp2_with fail
  go_loopw [8] (fun x wr => ∃ (i : Nat) (c : Nat → Nat), x = .int .i64 (i : Int) ∧ a < i ∧ St v g n cap w0 wr c ∧ Srt B c a i ∧ Im s c a i ∧ Im s c a b) (fun x _ => b - (RowKit.intOf x).toNat)
  case atStart => exact ⟨a + 1, s, rfl, by omega, HS.out, Srt.none_ (by omega), Im.refl _ _ _, Im.refl _ _ _⟩
  case round =>
    obtain ⟨i, c, rfl, hai, hst, hsrt, him, himb⟩ := hrel
    have HST := Lib.hid hst
    have HSRT := Lib.hid hsrt
    have HIM := Lib.hid him
    have HIMB := Lib.hid himb
    clear hst hsrt him himb e1
    rcases Nat.lt_or_ge i b with hlt | hge
    · have i1 : (i : Int) < (b : Int) := by omega
      have ei : IntKind.i64.wrap ((i : Int) + 1) = ((i + 1 : Nat) : Int) := wrap_id (by omega)
      have HX := Lib.hid (show a < i ∧ i < b ∧ b ≤ n ∧ n ≤ 1000000 by omega)
      have HIN : Hid (Ins B c c a i i) := Ins.start HSRT.out (by omega) fun p h1 h2 => by
        obtain ⟨j, j1, j2, e⟩ := HIM.out.in_ p h1 h2
        rw [e, HIM.out.out i (Or.inr (Nat.le_refl _))]
        exact HT.out j i j1 j2 hlt
      clear hlt hai hab hbn hn
      go_wp2_with fail
      go_loopw [9] (fun x wr => ∃ (j : Nat) (cc : Nat → Nat), x = .int .i64 (j : Int) ∧ St v g n cap w0 wr cc ∧ Ins B c cc a i j) (fun x _ => (RowKit.intOf x).toNat)
      case atStart => exact ⟨i, c, rfl, HST.out, HIN.out⟩
      case round =>
        obtain ⟨j, cc, rfl, hst, hins⟩ := hrel
        have HST2 := Lib.hid hst
        have HINS := Lib.hid hins
        clear hst hins HST HIN
        have hX := HX.out
        have haj := HINS.out.aj
        have hji := HINS.out.ji
        rcases Nat.lt_or_ge a j with hlt | hge
        · obtain ⟨p, hp⟩ : ∃ x, x = j - 1 := ⟨_, rfl⟩
          have ep : IntKind.i64.wrap ((j : Int) - 1) = (p : Int) := by rw [wrap_id (by omega)]; omega
          have g1 : decide ((a : Int) < (j : Int)) = true := decide_eq_true (by omega)
          have hlt' := HINS.out.t p (by omega) (by omega)
          have hbn := HST2.out.b j (by omega)
          have cj := HST2.out.cell (k := j) (by omega)
          have cp := HST2.out.cell (k := p) (by omega)
          have HNEG := Lib.hid (HC.out.neg (cc j) (cc p) hlt' hbn)
          have HCALL := Lib.hid (fun W => HC.out.call (cc j) (cc p) W hlt' hbn)
          have fj := HST2.out.warm j
          have fp := HST2.out.warm p
          have HP := Lib.hid (show p = j - 1 ∧ p < n ∧ j < n ∧ ¬ p = j ∧ ¬ j = p ∧ a < j by omega)
          have i2 : (j : Int) < (n : Int) := by omega
          have i3 : (0 : Int) ≤ (j : Int) := by omega
          have i4 : (p : Int) < (n : Int) := by omega
          have i5 : (0 : Int) ≤ (p : Int) := by omega
          have g2 : a < j := hlt
          obtain ⟨x, hx⟩ : ∃ x, x = v (cc j) := ⟨_, rfl⟩
          obtain ⟨y, hy⟩ : ∃ y, y = v (cc p) := ⟨_, rfl⟩
          obtain ⟨z, hz⟩ : ∃ z, z = cf (cc j) (cc p) := ⟨_, rfl⟩
          have HXY := Lib.hid (show x = v (cc j) ∧ y = v (cc p) from ⟨hx, hy⟩)
          rw [← hx] at cj HCALL
          rw [← hy] at cp HCALL
          rw [← hz] at HCALL HNEG
          have HX1 := Lib.hid (HCALL.out wr.drew HST2.out.drew.off)
          have HK := Lib.hid (HST2.out.keep HP.out.2.2.1 HP.out.2.1 hx hy)
          clear hp hlt' hbn hx hy hz hX haj hji hlt HCALL
          cases hb : B (cc j) (cc p) with
          | true =>
            rw [hb] at HNEG
            have b1 := HNEG.out
            go_wp2_with fail
            go_region_held3 (fun W' => W'.cell? ⟨g, j, none⟩ = some (.int .i64 x) ∧ W'.cell? ⟨g, p, none⟩ = some (.int .i64 y))
              (first | go_keep | exact HK.out _ hb2) (first | (go_at_fn F; (with_reducible refine HX1.out.mono ?_); rintro e w2 ⟨rfl, hb2⟩))
            have HST3 := Lib.hid (HST2.out.drew.on hb2)
            have dj := HST3.out.cell (k := j) HP.out.2.2.1
            have dp := HST3.out.cell (k := p) HP.out.2.1
            rw [← HXY.out.1] at dj
            rw [← HXY.out.2] at dp
            have fj := HST3.out.warm j
            have fp := HST3.out.warm p
            have HSW := Lib.hid (HST3.out.swap (i := j) (j := p) HP.out.2.2.1 HP.out.2.1)
            rw [← HXY.out.1, ← HXY.out.2] at HSW
            have hpj := HP.out.2.2.2.1
            have hjp := HP.out.2.2.2.2.1
            clear cj cp hb2
            go_wp2_with fail
            go_region
            all_goals
              go_wp2_with fail
              go_roundw
              case rel => exact ⟨p, _, rfl, HSW.out.drew, HP.out.1 ▸ HINS.out.step HP.out.2.2.2.2.2 (HP.out.1 ▸ hb)⟩
              case measure =>
                have := HP.out
                simp [RowKit.intOf]; omega
          | false =>
            rw [hb] at HNEG
            have b1 := HNEG.out
            go_wp2_with fail
            go_region_held3 (fun W' => W'.cell? ⟨g, j, none⟩ = some (.int .i64 x) ∧ W'.cell? ⟨g, p, none⟩ = some (.int .i64 y))
              (first | go_keep | exact HK.out _ hb2) (first | (go_at_fn F; (with_reducible refine HX1.out.mono ?_); rintro e w2 ⟨rfl, hb2⟩))
            have HST3 := Lib.hid (HST2.out.drew.on hb2)
            have HD := Lib.hid (HINS.out.done HB.out (Or.inr ⟨HP.out.2.2.2.2.2, HP.out.1 ▸ hb⟩))
            clear cj cp fj fp hb2
            go_wp2_with fail
            go_roundw
            case rel => exact ⟨i + 1, cc, rfl, by have := HX.out; omega, HST3.out, HD.out.1, (HIM.out.wide (Nat.le_refl _) (by omega)).trans HD.out.2, HIMB.out.trans (HD.out.2.wide (Nat.le_refl _) (by have := HX.out; omega))⟩
            case measure =>
              have := HX.out
              simp [RowKit.intOf]; omega
        · obtain rfl : a = j := by omega
          have g1 : decide ((a : Int) < (a : Int)) = false := decide_eq_false (by omega)
          have HD := Lib.hid (HINS.out.done HB.out (Or.inl rfl))
          clear hX haj hji hge
          go_wp2_with fail
          go_quiet (fail)
          go_wp2_with fail
          go_roundw
          case rel => exact ⟨i + 1, cc, rfl, by have := HX.out; omega, HST2.out.drewN _, HD.out.1, (HIM.out.wide (Nat.le_refl _) (by omega)).trans HD.out.2, HIMB.out.trans (HD.out.2.wide (Nat.le_refl _) (by have := HX.out; omega))⟩
          case measure =>
            have := HX.out
            simp [RowKit.intOf]; omega
    · have hmin : decide ((i : Int) < (b : Int)) = false := decide_eq_false (by omega)
      have HD : Hid (Srt B c a b) := HSRT.out.part (Nat.le_refl _) hge
      go_wp2_with fail
      go_end0
      exact ⟨rfl, c, HST.out, HD.out, HIMB.out⟩
end Go.Proofs.Ytihklpkpcnahkaa.Stable
/- A stable sort in memory: one value at the left of a part, put in. -/
namespace Go.Proofs.Ytihklpkpcnahkaa.Stable
open Go.ChangeShapes Go.WideShapes Go.RowKit Go.Lib Go.Proofs.Ytihklpkpcnahkaa.Mem
set_option linter.unusedVariables false
set_option maxRecDepth 100000

/-- What a merge leaves. -/
def Mgd (v : Nat → Int) (B : Nat → Nat → Bool) (g n cap : Nat) (w0 : World) (s : Nat → Nat) (a b : Nat) (w' : World) : Prop := ∃ s', St v g n cap w0 w' s' ∧ Srt B s' a b ∧ Im s s' a b

set_option maxHeartbeats 1600000 in
theorem sym_left {v : Nat → Int} {B : Nat → Nat → Bool} {g n cap F : Nat} {caps : Array Value} {cf : Nat → Nat → Int} {w0 w : World} {s : Nat → Nat} (hB : Sto B) (hc : Cm v B n g w0 F caps cf) (h : St v g n cap w0 w s) (hn : n ≤ 1000000) (a b : Nat) (hab : a + 1 < b) (hbn : b ≤ n) (hh : Halves B s a (a + 1) b) :
    Calls Try.prog 73 #[.slice (some ⟨g, 0, none⟩) n cap, .int .i64 (a : Int), .int .i64 ((a + 1 : Nat) : Int), .int .i64 (b : Int), .func (.func F) #[] caps] w fun e w' => e = .returned (.tuple #[]) ∧ Mgd v B g n cap w0 s a b w' := by
  obtain ⟨m, hm⟩ : ∃ m, m = a + 1 := ⟨_, rfl⟩
  rw [← hm]
  have HS := Lib.hid h
  have HB := Lib.hid hB
  have HH := Lib.hid hh
  have HM := Lib.hid hm
  have HX := Lib.hid (show a + 1 < b ∧ b ≤ n ∧ n ≤ 1000000 by omega)
  have eg := hc.eg
  have HC := Lib.hid hc
  have e1 : IntKind.i64.wrap ((m : Int) - (a : Int)) = 1 := by rw [wrap_id (by omega)]; omega
  clear h hB hc hh hm hab hbn hn
  go_enter Try.func73, Try.ntmps73
  go_wp2_with fail
  go_loopw [10, 11, 12] (fun x y _ wr => ∃ i j : Nat, x = .int .i64 (i : Int) ∧ y = .int .i64 (j : Int) ∧ a + 1 ≤ i ∧ i ≤ j ∧ j ≤ b ∧ (a + 1 < i → B (s (i - 1)) (s a) = true) ∧ (j < b → B (s j) (s a) = false) ∧ St v g n cap w0 wr s) (fun x y _ _ => (RowKit.intOf y).toNat - (RowKit.intOf x).toNat)
  case atStart => exact ⟨m, b, rfl, rfl, by rw [HM.out]; exact Nat.le_refl _, by have := HM.out; have := HX.out; omega, Nat.le_refl _, fun h => by have := HM.out; omega, fun h => by omega, HS.out⟩
  case round =>
    obtain ⟨i, j, rfl, rfl, h1, h2, h3, hlo, hhi, hst⟩ := hrel
    have HLO := Lib.hid hlo
    have HHI := Lib.hid hhi
    have HST := Lib.hid hst
    have hX := HX.out
    clear hst hlo hhi e1
    rcases Nat.lt_or_ge i j with hlt | hge
    · obtain ⟨q, hq⟩ : ∃ x, x = i + j := ⟨_, rfl⟩
      obtain ⟨h, hh⟩ : ∃ x, x = q / 2 := ⟨_, rfl⟩
      have e1 : IntKind.i64.wrap ((i : Int) + (j : Int)) = (q : Int) := by rw [wrap_id (by omega)]; omega
      have e2 : IntKind.u64.wrap (q : Int) = (q : Int) := by rw [IntKind.wrap_u64]; omega
      have e3 : (q : Int) / 2 = (h : Int) := by omega
      have e4 : IntKind.i64.wrap (h : Int) = (h : Int) := wrap_id (by omega)
      have e5 : IntKind.i64.wrap ((h : Int) + 1) = ((h + 1 : Nat) : Int) := wrap_id (by omega)
      have ht := HH.out.t a h (Nat.le_refl _) (by omega) (by omega) (by omega)
      have hbd := HST.out.b h (by omega)
      have ch := HST.out.cell (k := h) (by omega)
      have ca := HST.out.cell (k := a) (by omega)
      have HNEG := Lib.hid (HC.out.neg (s h) (s a) ht hbd)
      have HCALL := Lib.hid (fun W => HC.out.call (s h) (s a) W ht hbd)
      have HP := Lib.hid (show i ≤ h ∧ h < j ∧ a < n ∧ h < n ∧ h + 1 ≤ j by omega)
      have i2 : (h : Int) < (n : Int) := by omega
      have i3 : (0 : Int) ≤ (h : Int) := by omega
      have i4 : (a : Int) < (n : Int) := by omega
      have i5 : (0 : Int) ≤ (a : Int) := by omega
      obtain ⟨x, hx⟩ : ∃ x, x = v (s h) := ⟨_, rfl⟩
      obtain ⟨y, hy⟩ : ∃ y, y = v (s a) := ⟨_, rfl⟩
      obtain ⟨z, hz⟩ : ∃ z, z = cf (s h) (s a) := ⟨_, rfl⟩
      rw [← hx] at ch HCALL
      rw [← hy] at ca HCALL
      rw [← hz] at HCALL HNEG
      have HX1 := Lib.hid (HCALL.out wr.drew HST.out.drew.off)
      have HK := Lib.hid (HST.out.keep HP.out.2.2.2.1 HP.out.2.2.1 hx hy)
      clear hq hh ht hbd hx hy hz HCALL
      cases hb : B (s h) (s a) with
      | true =>
        rw [hb] at HNEG
        have b1 := HNEG.out
        clear hX
        go_wp2_with fail
        go_region_held3 (fun W' => W'.cell? ⟨g, h, none⟩ = some (.int .i64 x) ∧ W'.cell? ⟨g, a, none⟩ = some (.int .i64 y))
          (first | go_keep | exact HK.out _ hb2) (first | (go_at_fn F; (with_reducible refine HX1.out.mono ?_); rintro e w2 ⟨rfl, hb2⟩))
        have HST3 := Lib.hid (HST.out.drew.on hb2)
        clear ch ca hb2
        go_wp2_with fail
        go_roundw
        case rel =>
          have := HP.out
          exact ⟨h + 1, j, rfl, rfl, by omega, by omega, h3, fun _ => hb, HHI.out, HST3.out⟩
        case measure =>
          have := HP.out
          simp [RowKit.intOf]; omega
      | false =>
        rw [hb] at HNEG
        have b1 := HNEG.out
        clear hX
        go_wp2_with fail
        go_region_held3 (fun W' => W'.cell? ⟨g, h, none⟩ = some (.int .i64 x) ∧ W'.cell? ⟨g, a, none⟩ = some (.int .i64 y))
          (first | go_keep | exact HK.out _ hb2) (first | (go_at_fn F; (with_reducible refine HX1.out.mono ?_); rintro e w2 ⟨rfl, hb2⟩))
        have HST3 := Lib.hid (HST.out.drew.on hb2)
        clear ch ca hb2
        go_wp2_with fail
        go_roundw
        case rel =>
          have := HP.out
          exact ⟨i, h, rfl, rfl, h1, by omega, by omega, HLO.out, fun _ => hb, HST3.out⟩
        case measure =>
          have := HP.out
          simp [RowKit.intOf]; omega
    · obtain rfl : i = j := by omega
      have HD := Lib.hid ((HM.out ▸ HH.out : Halves B s a (a + 1) b).one_left HB.out h1 h3 HLO.out HHI.out)
      obtain ⟨t, ht⟩ : ∃ t, t = i - 1 := ⟨_, rfl⟩
      have HT := Lib.hid (show t = i - 1 ∧ a ≤ t ∧ t + 1 ≤ n ∧ t + 1 = i by omega)
      have e1 : IntKind.i64.wrap ((i : Int) - 1) = (t : Int) := by rw [wrap_id (by omega)]; omega
      clear h1 h2 h3 hge hX ht HLO HHI
      go_wp2_with fail
      go_loopw [13] (fun x wr => ∃ k : Nat, x = .int .i64 (k : Int) ∧ a ≤ k ∧ k ≤ t ∧ St v g n cap w0 wr (rot s a (a + 1) (k + 1))) (fun x _ => t - (RowKit.intOf x).toNat)
      case atStart => exact ⟨a, rfl, Nat.le_refl _, HT.out.2.1, HST.out.to (rot_right s (Nat.le_succ a)).symm⟩
      case round =>
        obtain ⟨k, rfl, k1, k2, hst⟩ := hrel
        have HST4 := Lib.hid hst
        have hT := HT.out
        have hX := HX.out
        clear hst
        rcases Nat.lt_or_ge k t with hlt | hge
        · obtain ⟨p, hp⟩ : ∃ x, x = k + 1 := ⟨_, rfl⟩
          have ep : IntKind.i64.wrap ((k : Int) + 1) = (p : Int) := by rw [wrap_id (by omega)]; omega
          have dk := HST4.out.cell (k := k) (by omega)
          have dp := HST4.out.cell (k := p) (by omega)
          have HSW := Lib.hid ((HST4.out.swap (i := k) (j := p) (by omega) (by omega)).to (s' := rot s a (a + 1) (p + 1)) (by rw [hp]; exact rot_up s k1))
          obtain ⟨x, hx⟩ : ∃ x, x = v (rot s a (a + 1) (k + 1) k) := ⟨_, rfl⟩
          obtain ⟨y, hy⟩ : ∃ y, y = v (rot s a (a + 1) (k + 1) p) := ⟨_, rfl⟩
          rw [← hx] at dk HSW
          rw [← hy] at dp HSW
          have fj := HST4.out.warm k
          have fp := HST4.out.warm p
          have i2 : (k : Int) < (n : Int) := by omega
          have i3 : (0 : Int) ≤ (k : Int) := by omega
          have i4 : (p : Int) < (n : Int) := by omega
          have i5 : (0 : Int) ≤ (p : Int) := by omega
          have hpk : ¬ p = k := by omega
          have hkp : ¬ k = p := by omega
          have b1 : k < t := hlt
          have HP := Lib.hid (show p = k + 1 ∧ p ≤ t ∧ a ≤ p by omega)
          clear hT hX hp hx hy hlt k1 k2
          go_wp2_with fail
          go_region
          all_goals
            go_wp2_with fail
            go_roundw
            case rel => exact ⟨p, rfl, HP.out.2.2, HP.out.2.1, HSW.out.drew⟩
            case measure =>
              have := HP.out
              simp [RowKit.intOf]; omega
        · obtain rfl : k = t := by omega
          have HE := Lib.hid (HST4.out.to (s' := rot s a (a + 1) i) (by rw [hT.2.2.2]))
          clear hT hX k1 k2 hge
          go_wp2_with fail
          try simp only [Exit.inBlock, Exit.then]
          refine bodyPost_ret (results_none rfl _ _ _) rfl ?_
          exact ⟨rfl, _, HE.out, HD.out.1, HD.out.2⟩
end Go.Proofs.Ytihklpkpcnahkaa.Stable
