/- A stable sort by insertion and by rotations: what lies where, over places. Pure. -/
import Derived.Test.YtdolhanniiejfaaRows
namespace Go.Proofs.Ytdolhanniiejfaa.Stable
set_option linter.unusedVariables false

/-! ### Places exchanged, turned round -/
/-- Two places exchanged: first i gets what lay at j, then j what lay at i. -/
def sw (s : Nat → Nat) (i j : Nat) : Nat → Nat := fun k => if k = j then s i else if k = i then s j else s k
/-- n places from a, and n places from b, exchanged. -/
def swr (s : Nat → Nat) (a b n : Nat) : Nat → Nat := fun k => if a ≤ k ∧ k < a + n then s (k - a + b) else if b ≤ k ∧ k < b + n then s (k - b + a) else s k
/-- What lies in a .. m-1, and in m .. b-1, exchanged. -/
def rot (s : Nat → Nat) (a m b : Nat) : Nat → Nat := fun k => if a ≤ k ∧ k < a + (b - m) then s (k - a + m) else if a + (b - m) ≤ k ∧ k < b then s (k - (b - m)) else s k
theorem swr_zero (s : Nat → Nat) (a b : Nat) : swr s a b 0 = s := by
  funext k; unfold swr; rw [if_neg (by omega), if_neg (by omega)]
theorem swr_succ (s : Nat → Nat) {a b n i : Nat} (h : a + n ≤ b) (hi : i < n) : sw (swr s a b i) (a + i) (b + i) = swr s a b (i + 1) := by
  funext k
  simp only [sw, swr]
  repeat' split
  all_goals first | omega | rfl | (congr 1; omega)
theorem rot_left (s : Nat → Nat) {m : Nat} (b : Nat) (h : m ≤ b) : rot s m m b = s := by
  funext k; simp only [rot]
  repeat' split
  all_goals first | omega | rfl | (congr 1; omega)
theorem rot_right (s : Nat → Nat) {a m : Nat} (h : a ≤ m) : rot s a m m = s := by
  funext k; simp only [rot]
  repeat' split
  all_goals first | omega | rfl | (congr 1; omega)
theorem rot_same (s : Nat → Nat) {m i : Nat} (h : i ≤ m) : swr s (m - i) m i = rot s (m - i) m (m + i) := by
  funext k; simp only [rot, swr]
  repeat' split
  all_goals first | omega | rfl | (congr 1; omega)
theorem rot_more (s : Nat → Nat) {m i j : Nat} (h : i ≤ m) (hij : j < i) : rot (swr s (m - i) m j) (m - (i - j)) m (m + j) = rot s (m - i) m (m + j) := by
  funext k; simp only [rot, swr]
  repeat' split
  all_goals first | omega | rfl | (congr 1; omega)
theorem rot_less (s : Nat → Nat) {m i j : Nat} (h : i ≤ m) (hij : i < j) : rot (swr s (m - i) (m + j - i) i) (m - i) m (m + (j - i)) = rot s (m - i) m (m + j) := by
  funext k; simp only [rot, swr]
  repeat' split
  all_goals first | omega | rfl | (congr 1; omega)
theorem rot_up (s : Nat → Nat) {a k : Nat} (h : a ≤ k) : sw (rot s a (a + 1) (k + 1)) k (k + 1) = rot s a (a + 1) (k + 2) := by
  funext x; simp only [rot, sw]
  repeat' split
  all_goals first | omega | rfl | (congr 1; omega)
theorem rot_down (s : Nat → Nat) {m k : Nat} (h : k < m) : sw (rot s (k + 1) m (m + 1)) (k + 1) k = rot s k m (m + 1) := by
  funext x; simp only [rot, sw]
  repeat' split
  all_goals first | omega | rfl | (congr 1; omega)

/-! ### What lies in a part lay in it -/
/-- What lies in a .. b-1 lay there; all else is as it was. -/
structure Im (s s' : Nat → Nat) (a b : Nat) : Prop where
  in_ : ∀ k, a ≤ k → k < b → ∃ j, a ≤ j ∧ j < b ∧ s' k = s j
  out : ∀ k, k < a ∨ b ≤ k → s' k = s k
theorem Im.refl (s : Nat → Nat) (a b : Nat) : Im s s a b := ⟨fun k h1 h2 => ⟨k, h1, h2, rfl⟩, fun _ _ => rfl⟩
theorem Im.trans {s s' s'' : Nat → Nat} {a b : Nat} (h : Im s s' a b) (k : Im s' s'' a b) : Im s s'' a b :=
  ⟨fun i h1 h2 => by
    obtain ⟨j, j1, j2, e⟩ := k.in_ i h1 h2
    obtain ⟨l, l1, l2, e'⟩ := h.in_ j j1 j2
    exact ⟨l, l1, l2, e.trans e'⟩, fun i hi => (k.out i hi).trans (h.out i hi)⟩
theorem Im.wide {s s' : Nat → Nat} {a b c d : Nat} (h : Im s s' a b) (h1 : c ≤ a) (h2 : b ≤ d) : Im s s' c d :=
  ⟨fun k k1 k2 => by
    by_cases hk : a ≤ k ∧ k < b
    · obtain ⟨j, j1, j2, e⟩ := h.in_ k hk.1 hk.2
      exact ⟨j, by omega, by omega, e⟩
    · exact ⟨k, k1, k2, h.out k (by omega)⟩, fun k hk => h.out k (by omega)⟩
theorem Im.bound {s s' : Nat → Nat} {a b n N : Nat} (h : Im s s' a b) (hb : b ≤ n) (hs : ∀ k, k < n → s k < N) : ∀ k, k < n → s' k < N := by
  intro k hk
  by_cases hk' : a ≤ k ∧ k < b
  · obtain ⟨j, j1, j2, e⟩ := h.in_ k hk'.1 hk'.2
    rw [e]; exact hs j (by omega)
  · rw [h.out k (by omega)]; exact hs k hk
theorem im_sw (s : Nat → Nat) {a b i j : Nat} (hi : a ≤ i ∧ i < b) (hj : a ≤ j ∧ j < b) : Im s (sw s i j) a b :=
  ⟨fun k k1 k2 => by
    unfold sw
    split
    · exact ⟨i, hi.1, hi.2, rfl⟩
    · split
      · exact ⟨j, hj.1, hj.2, rfl⟩
      · exact ⟨k, k1, k2, rfl⟩, fun k hk => by unfold sw; rw [if_neg (by omega), if_neg (by omega)]⟩
theorem im_rot (s : Nat → Nat) {a m b : Nat} (h1 : a ≤ m) (h2 : m ≤ b) : Im s (rot s a m b) a b :=
  ⟨fun k k1 k2 => by
    unfold rot
    split
    · exact ⟨_, by omega, by omega, rfl⟩
    · rw [if_pos (by omega)]
      exact ⟨_, by omega, by omega, rfl⟩, fun k hk => by unfold rot; rw [if_neg (by omega), if_neg (by omega)]⟩

/-! ### Order -/
/-- A strict order of all that is not the same. -/
structure Sto (B : Nat → Nat → Bool) : Prop where
  irr : ∀ i, B i i = false
  trans : ∀ i j k, B i j = true → B j k = true → B i k = true
  total : ∀ i j, i ≠ j → B i j = true ∨ B j i = true
/-- In order. -/
def Srt (B : Nat → Nat → Bool) (s : Nat → Nat) (a b : Nat) : Prop := ∀ j k, a ≤ j → j < k → k < b → B (s j) (s k) = true
section
variable {B : Nat → Nat → Bool} {s s' : Nat → Nat} {a b m i j : Nat}
theorem Srt.part (h : Srt B s a b) {c d : Nat} (h1 : a ≤ c) (h2 : d ≤ b) : Srt B s c d := fun j k h3 h4 h5 => h j k (by omega) h4 (by omega)
theorem Srt.congr (h : Srt B s a b) (he : ∀ k, a ≤ k → k < b → s' k = s k) : Srt B s' a b := fun j k h1 h2 h3 => by
  rw [he j h1 (by omega), he k (by omega) h3]; exact h j k h1 h2 h3
theorem Srt.none_ (h : b ≤ a + 1) : Srt B s a b := fun j k h1 h2 h3 => by omega
theorem Sto.not (hB : Sto B) {x y : Nat} (h : B x y = true) : B y x = false := by
  cases h1 : B y x with
  | false => rfl
  | true => have := hB.trans _ _ _ h h1; rw [hB.irr] at this; cases this
theorem Sto.turn (hB : Sto B) {x y : Nat} (h : B x y = false) (hne : x ≠ y) : B y x = true := by
  rcases hB.total x y hne with h1 | h1
  · rw [h] at h1; cases h1
  · exact h1
/-- Two parts in order, the first one before the second one. -/
theorem Srt.join (hB : Sto B) (h1 : Srt B s a m) (h2 : Srt B s m b) (h : a < m → m < b → B (s (m - 1)) (s m) = true) : Srt B s a b := by
  intro j k h3 h4 h5
  rcases Nat.lt_or_ge k m with hk | hk
  · exact h1 j k h3 h4 hk
  · rcases Nat.lt_or_ge j m with hj | hj
    · have e1 : B (s j) (s (m - 1)) = true ∨ j = m - 1 := by
        rcases Nat.lt_or_ge j (m - 1) with hlt | hge
        · exact Or.inl (h1 j (m - 1) h3 hlt (by omega))
        · exact Or.inr (by omega)
      have e2 : B (s m) (s k) = true ∨ k = m := by
        rcases Nat.lt_or_ge m k with hlt | hge
        · exact Or.inl (h2 m k (Nat.le_refl _) hlt h5)
        · exact Or.inr (by omega)
      have e := h (by omega) (by omega)
      rcases e1 with e1 | rfl
      · rcases e2 with e2 | rfl
        · exact hB.trans _ _ _ e1 (hB.trans _ _ _ e e2)
        · exact hB.trans _ _ _ e1 e
      · rcases e2 with e2 | rfl
        · exact hB.trans _ _ _ e e2
        · exact e
    · exact h2 j k hj h4 h5
theorem Srt.glue (h1 : Srt B s a m) (h2 : Srt B s m b) (h : ∀ j k, a ≤ j → j < m → m ≤ k → k < b → B (s j) (s k) = true) : Srt B s a b := by
  intro j k h3 h4 h5
  rcases Nat.lt_or_ge k m with hk | hk
  · exact h1 j k h3 h4 hk
  · rcases Nat.lt_or_ge j m with hj | hj
    · exact h j k h3 hj hk h5
    · exact h2 j k hj h4 h5

/-! ### Two halves, merged -/
/-- Two parts, each in order; what is in the first one came before what is in the second one. -/
structure Halves (B : Nat → Nat → Bool) (s : Nat → Nat) (a m b : Nat) : Prop where
  l : Srt B s a m
  r : Srt B s m b
  t : ∀ j k, a ≤ j → j < m → m ≤ k → k < b → s j < s k
theorem Halves.congr (h : Halves B s a m b) (he : ∀ k, a ≤ k → k < b → s' k = s k) (h1 : a ≤ m) (h2 : m ≤ b) : Halves B s' a m b :=
  ⟨h.l.congr fun k k1 k2 => he k k1 (by omega), h.r.congr fun k k1 k2 => he k (by omega) k2, fun j k j1 j2 k1 k2 => by rw [he j j1 (by omega), he k (by omega) k2]; exact h.t j k j1 j2 k1 k2⟩
/-- Turned round where the first part's rest and the second part's beginning are exchanged. -/
structure Cut (B : Nat → Nat → Bool) (s : Nat → Nat) (a m b i j : Nat) : Prop where
  h : Halves B s a m b
  ai : a ≤ i
  im : i ≤ m
  mj : m ≤ j
  jb : j ≤ b
  uv : a < i → j < b → B (s (i - 1)) (s j) = true
  vu : i < m → m < j → B (s (j - 1)) (s i) = true
theorem rot_at1 (s : Nat → Nat) {i m j k : Nat} (h1 : i ≤ k) (h2 : k < i + (j - m)) : rot s i m j k = s (k - i + m) := by unfold rot; rw [if_pos ⟨h1, h2⟩]
theorem rot_at2 (s : Nat → Nat) {i m j k : Nat} (h1 : i + (j - m) ≤ k) (h2 : k < j) : rot s i m j k = s (k - (j - m)) := by unfold rot; rw [if_neg (by omega), if_pos ⟨h1, h2⟩]
theorem rot_at3 (s : Nat → Nat) {i m j k : Nat} (h1 : k < i ∨ j ≤ k) (h : i ≤ m) (h' : m ≤ j) : rot s i m j k = s k := by unfold rot; rw [if_neg (by omega), if_neg (by omega)]
theorem Cut.lo (c : Cut B s a m b i j) : Halves B (rot s i m j) a i (i + (j - m)) := by
  have h0 := c.ai; have h1 := c.im; have h2 := c.mj; have h3 := c.jb
  refine ⟨fun x y x1 x2 x3 => ?_, fun x y x1 x2 x3 => ?_, fun x y x1 x2 x3 x4 => ?_⟩
  · rw [rot_at3 s (Or.inl (by omega)) h1 h2, rot_at3 s (Or.inl x3) h1 h2]; exact c.h.l x y x1 x2 (by omega)
  · rw [rot_at1 s x1 (by omega), rot_at1 s (by omega) x3]; exact c.h.r _ _ (by omega) (by omega) (by omega)
  · rw [rot_at3 s (Or.inl x2) h1 h2, rot_at1 s x3 x4]; exact c.h.t _ _ x1 (by omega) (by omega) (by omega)
theorem Cut.hi (c : Cut B s a m b i j) : Halves B (rot s i m j) (i + (j - m)) j b := by
  have h0 := c.ai; have h1 := c.im; have h2 := c.mj; have h3 := c.jb
  refine ⟨fun x y x1 x2 x3 => ?_, fun x y x1 x2 x3 => ?_, fun x y x1 x2 x3 x4 => ?_⟩
  · rw [rot_at2 s x1 (by omega), rot_at2 s (by omega) x3]; exact c.h.l _ _ (by omega) (by omega) (by omega)
  · rw [rot_at3 s (Or.inr x1) h1 h2, rot_at3 s (Or.inr (by omega)) h1 h2]; exact c.h.r x y (by omega) x2 x3
  · rw [rot_at2 s x1 x2, rot_at3 s (Or.inr x3) h1 h2]; exact c.h.t _ _ (by omega) (by omega) (by omega) x4
theorem Cut.uvs (hB : Sto B) (c : Cut B s a m b i j) {x y : Nat} (x1 : a ≤ x) (x2 : x < i) (y1 : j ≤ y) (y2 : y < b) : B (s x) (s y) = true := by
  have h0 := c.ai; have h1 := c.im; have h2 := c.mj
  have e := c.uv (by omega) (by omega)
  have e1 : B (s x) (s (i - 1)) = true ∨ x = i - 1 := by
    rcases Nat.lt_or_ge x (i - 1) with h | h
    · exact Or.inl (c.h.l _ _ x1 h (by omega))
    · exact Or.inr (by omega)
  have e2 : B (s j) (s y) = true ∨ y = j := by
    rcases Nat.lt_or_ge j y with h | h
    · exact Or.inl (c.h.r _ _ (by omega) h y2)
    · exact Or.inr (by omega)
  rcases e1 with e1 | rfl
  · rcases e2 with e2 | rfl
    · exact hB.trans _ _ _ e1 (hB.trans _ _ _ e e2)
    · exact hB.trans _ _ _ e1 e
  · rcases e2 with e2 | rfl
    · exact hB.trans _ _ _ e e2
    · exact e
theorem Cut.vus (hB : Sto B) (c : Cut B s a m b i j) {x y : Nat} (x1 : m ≤ x) (x2 : x < j) (y1 : i ≤ y) (y2 : y < m) : B (s x) (s y) = true := by
  have h0 := c.ai; have h1 := c.im; have h2 := c.mj; have h3 := c.jb
  have e := c.vu (by omega) (by omega)
  have e1 : B (s x) (s (j - 1)) = true ∨ x = j - 1 := by
    rcases Nat.lt_or_ge x (j - 1) with h | h
    · exact Or.inl (c.h.r _ _ x1 h (by omega))
    · exact Or.inr (by omega)
  have e2 : B (s i) (s y) = true ∨ y = i := by
    rcases Nat.lt_or_ge i y with h | h
    · exact Or.inl (c.h.l _ _ (by omega) h y2)
    · exact Or.inr (by omega)
  rcases e1 with e1 | rfl
  · rcases e2 with e2 | rfl
    · exact hB.trans _ _ _ e1 (hB.trans _ _ _ e e2)
    · exact hB.trans _ _ _ e1 e
  · rcases e2 with e2 | rfl
    · exact hB.trans _ _ _ e e2
    · exact e
/-- What is below the new middle comes before what is above. -/
theorem Cut.mid (hB : Sto B) (c : Cut B s a m b i j) {x y : Nat} (x1 : a ≤ x) (x2 : x < i + (j - m)) (y1 : i + (j - m) ≤ y) (y2 : y < b) : B (rot s i m j x) (rot s i m j y) = true := by
  have h0 := c.ai; have h1 := c.im; have h2 := c.mj; have h3 := c.jb
  rcases Nat.lt_or_ge x i with hx | hx
  · rw [rot_at3 s (Or.inl hx) h1 h2]
    rcases Nat.lt_or_ge y j with hy | hy
    · rw [rot_at2 s y1 hy]; exact c.h.l _ _ x1 (by omega) (by omega)
    · rw [rot_at3 s (Or.inr hy) h1 h2]; exact c.uvs hB x1 hx hy y2
  · rw [rot_at1 s hx x2]
    rcases Nat.lt_or_ge y j with hy | hy
    · rw [rot_at2 s y1 hy]; exact c.vus hB (by omega) (by omega) (by omega) (by omega)
    · rw [rot_at3 s (Or.inr hy) h1 h2]; exact c.h.r _ _ (by omega) (by omega) y2
/-- Both sides put in order. -/
theorem Cut.done (hB : Sto B) (c : Cut B s a m b i j) {s2 s3 : Nat → Nat} (k2 : Im (rot s i m j) s2 a (i + (j - m))) (o2 : Srt B s2 a (i + (j - m))) (k3 : Im s2 s3 (i + (j - m)) b) (o3 : Srt B s3 (i + (j - m)) b) : Srt B s3 a b ∧ Im s s3 a b := by
  have h0 := c.ai; have h1 := c.im; have h2 := c.mj; have h3 := c.jb
  refine ⟨Srt.glue (o2.congr fun k x1 x2 => k3.out k (Or.inl x2)) o3 fun x y x1 x2 y1 y2 => ?_, ?_⟩
  · obtain ⟨y', z1, z2, e⟩ := k3.in_ y y1 y2
    obtain ⟨x', z3, z4, e'⟩ := k2.in_ x x1 x2
    rw [e, k3.out x (Or.inl x2), e', k2.out y' (Or.inr z1)]
    exact c.mid hB z3 z4 z1 z2
  · exact ((im_rot s h1 h2).wide h0 h3).trans ((k2.wide (Nat.le_refl _) (by omega)).trans (k3.wide (by omega) (Nat.le_refl _)))
/-- One value at the left, put in. -/
theorem Halves.one_left (hB : Sto B) (h : Halves B s a (a + 1) b) {i : Nat} (h1 : a + 1 ≤ i) (h2 : i ≤ b) (hlo : a + 1 < i → B (s (i - 1)) (s a) = true) (hhi : i < b → B (s i) (s a) = false) : Srt B (rot s a (a + 1) i) a b ∧ Im s (rot s a (a + 1) i) a b := by
  have c : Cut B s a (a + 1) b a i := ⟨h, Nat.le_refl _, by omega, h1, h2, fun h3 => by omega, fun _ h3 => hlo h3⟩
  have e := c.hi
  refine c.done hB (Im.refl _ _ _) c.lo.r (Im.refl _ _ _) (Srt.join hB e.l e.r fun h3 h4 => ?_)
  rw [rot_at2 s (by omega) (by omega), rot_at3 s (Or.inr (Nat.le_refl _)) (by omega) h1]
  have := h.t a i (Nat.le_refl _) (by omega) h1 h4
  rw [show i - 1 - (i - (a + 1)) = a by omega]
  exact hB.turn (hhi h4) (by omega)
/-- One value at the right, put in. -/
theorem Halves.one_right (hB : Sto B) (h : Halves B s a m (m + 1)) {i : Nat} (h1 : a ≤ i) (h2 : i ≤ m) (hlo : a < i → B (s m) (s (i - 1)) = false) (hhi : i < m → B (s m) (s i) = true) : Srt B (rot s i m (m + 1)) a (m + 1) ∧ Im s (rot s i m (m + 1)) a (m + 1) := by
  have c : Cut B s a m (m + 1) i (m + 1) := ⟨h, h1, h2, by omega, Nat.le_refl _, fun _ h3 => by omega, fun h3 _ => hhi h3⟩
  have e := c.lo
  refine c.done hB (Im.refl _ _ _) (Srt.join hB e.l e.r fun h3 h4 => ?_) (Im.refl _ _ _) c.hi.l
  rw [rot_at3 s (Or.inl (by omega)) h2 (by omega), rot_at1 s (Nat.le_refl _) (by omega)]
  have := h.t (i - 1) m (by omega) (by omega) (Nat.le_refl _) (by omega)
  rw [show i - i + m = m by omega]
  exact hB.turn (hlo h3) (by omega)
/-- What the search finds is a place to cut at. -/
theorem Halves.cut (hB : Sto B) (h : Halves B s a m b) {mid lo hi st : Nat} (hm : mid = (a + b) / 2) (ham : a ≤ m) (hmb : m ≤ b) (hlo : lo = if mid < m then mid + m - b else a) (hhi : hi = if mid < m then mid else m) (h1 : lo ≤ st) (h2 : st ≤ hi)
    (hn : lo < st → B (s (mid + m - 1 - (st - 1))) (s (st - 1)) = false) (hy : st < hi → B (s (mid + m - 1 - st)) (s st) = true) : Cut B s a m b st (mid + m - st) := by
  by_cases hc : mid < m
  · rw [if_pos hc] at hlo hhi
    refine ⟨h, by omega, by omega, by omega, by omega, fun h3 h4 => ?_, fun h3 h4 => ?_⟩
    · have e := hn (by omega)
      have := h.t (st - 1) (mid + m - st) (by omega) (by omega) (by omega) h4
      rw [show mid + m - 1 - (st - 1) = mid + m - st by omega] at e
      exact hB.turn e (by omega)
    · rw [show mid + m - st - 1 = mid + m - 1 - st by omega]; exact hy (by omega)
  · rw [if_neg hc] at hlo hhi
    refine ⟨h, by omega, by omega, by omega, by omega, fun h3 h4 => ?_, fun h3 h4 => ?_⟩
    · have e := hn (by omega)
      have := h.t (st - 1) (mid + m - st) (by omega) (by omega) (by omega) h4
      rw [show mid + m - 1 - (st - 1) = mid + m - st by omega] at e
      exact hB.turn e (by omega)
    · rw [show mid + m - st - 1 = mid + m - 1 - st by omega]; exact hy (by omega)

/-! ### Insertion -/
/-- Within an insertion: the value lies at j; behind it all of i and below that come after it. -/
structure Ins (B : Nat → Nat → Bool) (s c : Nat → Nat) (a i j : Nat) : Prop where
  aj : a ≤ j
  ji : j ≤ i
  im : Im s c a (i + 1)
  x : c j = s i
  o : ∀ p q, a ≤ p → p < q → q ≤ i → p ≠ j → q ≠ j → B (c p) (c q) = true
  up : ∀ q, j < q → q ≤ i → B (c j) (c q) = true
  t : ∀ p, a ≤ p → p < j → c p < c j
theorem Ins.start (h : Srt B s a i) (hai : a ≤ i) (ht : ∀ p, a ≤ p → p < i → s p < s i) : Ins B s s a i i :=
  ⟨hai, Nat.le_refl _, Im.refl _ _ _, rfl, fun p q h1 h2 h3 h4 h5 => h p q h1 h2 (by omega), fun q h1 h2 => by omega, ht⟩
theorem Ins.step {c : Nat → Nat} (h : Ins B s c a i j) (haj : a < j) (hlt : B (c j) (c (j - 1)) = true) : Ins B s (sw c j (j - 1)) a i (j - 1) := by
  have h1 := h.aj; have h2 := h.ji
  have ej : sw c j (j - 1) (j - 1) = c j := by unfold sw; rw [if_pos rfl]
  have ej' : sw c j (j - 1) j = c (j - 1) := by unfold sw; rw [if_neg (by omega), if_pos rfl]
  have eo : ∀ k, k ≠ j → k ≠ j - 1 → sw c j (j - 1) k = c k := fun k h3 h4 => by unfold sw; rw [if_neg h4, if_neg h3]
  refine ⟨by omega, by omega, h.im.trans (im_sw c ⟨h1, by omega⟩ ⟨by omega, by omega⟩), by rw [ej]; exact h.x, fun p q h3 h4 h5 h6 h7 => ?_, fun q h3 h4 => ?_, fun p h3 h4 => ?_⟩
  · by_cases hp : p = j
    · subst hp
      rw [ej', eo q (by omega) h7]
      exact h.o (p - 1) q (by omega) (by omega) h5 (by omega) (by omega)
    · by_cases hq : q = j
      · subst hq
        rw [ej', eo p hp h6]
        exact h.o p (q - 1) h3 (by omega) (by omega) hp (by omega)
      · rw [eo p hp h6, eo q hq h7]; exact h.o p q h3 h4 h5 hp hq
  · rw [ej]
    by_cases hq : q = j
    · subst hq; rw [ej']; exact hlt
    · rw [eo q hq (by omega)]; exact h.up q (by omega) h4
  · rw [ej, eo p (by omega) (by omega)]; exact h.t p h3 (by omega)
theorem Ins.done {c : Nat → Nat} (hB : Sto B) (h : Ins B s c a i j) (he : j = a ∨ (a < j ∧ B (c j) (c (j - 1)) = false)) : Srt B c a (i + 1) ∧ Im s c a (i + 1) := by
  have h1 := h.aj; have h2 := h.ji
  refine ⟨fun p q h3 h4 h5 => ?_, h.im⟩
  by_cases hp : p = j
  · subst hp; exact h.up q h4 (by omega)
  · by_cases hq : q = j
    · subst hq
      rcases he with he | ⟨he1, he2⟩
      · omega
      · have ht := h.t (q - 1) (by omega) (by omega)
        have e := hB.turn he2 (by omega)
        rcases Nat.lt_or_ge p (q - 1) with hlt | hge
        · exact hB.trans _ _ _ (h.o p (q - 1) h3 hlt (by omega) (by omega) (by omega)) e
        · obtain rfl : p = q - 1 := by omega
          exact e
    · exact h.o p q h3 h4 (by omega) hp hq

/-! ### Blocks -/
/-- A block in order, of what lay in it. -/
structure Bl (B : Nat → Nat → Bool) (s : Nat → Nat) (a b : Nat) : Prop where
  o : Srt B s a b
  v : ∀ k, a ≤ k → k < b → a ≤ s k ∧ s k < b
theorem Bl.none_ (h : b ≤ a) : Bl B s a b := ⟨Srt.none_ (by omega), fun k h1 h2 => by omega⟩
theorem Bl.congr (h : Bl B s a b) (he : ∀ k, a ≤ k → k < b → s' k = s k) : Bl B s' a b := ⟨h.o.congr he, fun k h1 h2 => by rw [he k h1 h2]; exact h.v k h1 h2⟩
theorem Bl.of_id (hs : ∀ k, a ≤ k → k < b → s k = k) (h : Srt B s' a b) (hi : Im s s' a b) : Bl B s' a b :=
  ⟨h, fun k h1 h2 => by
    obtain ⟨j, j1, j2, e⟩ := hi.in_ k h1 h2
    rw [e, hs j j1 j2]; exact ⟨j1, j2⟩⟩
theorem Bl.halves (h1 : Bl B s a m) (h2 : Bl B s m b) : Halves B s a m b :=
  ⟨h1.o, h2.o, fun j k j1 j2 k1 k2 => by have := h1.v j j1 j2; have := h2.v k k1 k2; omega⟩
theorem Bl.merged (h1 : Bl B s a m) (h2 : Bl B s m b) (ham : a ≤ m) (hmb : m ≤ b) (h : Srt B s' a b) (hi : Im s s' a b) : Bl B s' a b :=
  ⟨h, fun k k1 k2 => by
    obtain ⟨j, j1, j2, e⟩ := hi.in_ k k1 k2
    rw [e]
    rcases Nat.lt_or_ge j m with hj | hj
    · have := h1.v j j1 hj; omega
    · have := h2.v j hj j2; omega⟩
/-- All blocks of z. -/
def Bls (B : Nat → Nat → Bool) (s : Nat → Nat) (z n : Nat) : Prop := ∀ u, Bl B s (u * z) (min (u * z + z) n)
/-- Blocks of 20 up to a, the rest as it was. -/
structure Ph1 (B : Nat → Nat → Bool) (s : Nat → Nat) (n t : Nat) : Prop where
  le : t * 20 ≤ n
  done : ∀ u, u < t → Bl B s (u * 20) (u * 20 + 20)
  rest : ∀ k, t * 20 ≤ k → s k = k
theorem Ph1.start (n : Nat) (h : ∀ k, s k = k) : Ph1 B s n 0 := ⟨by omega, fun u hu => by omega, fun k _ => h k⟩
theorem Ph1.next {n t : Nat} (h : Ph1 B s n t) (hle : t * 20 + 20 ≤ n) (ho : Srt B s' (t * 20) (t * 20 + 20)) (hi : Im s s' (t * 20) (t * 20 + 20)) : Ph1 B s' n (t + 1) :=
  ⟨by omega, fun u hu => by
    rcases Nat.lt_or_ge u t with hut | hut
    · exact (h.done u hut).congr fun k k1 k2 => hi.out k (by omega)
    · obtain rfl : u = t := by omega
      exact Bl.of_id (fun k k1 _ => h.rest k k1) ho hi, fun k hk => by rw [hi.out k (by omega)]; exact h.rest k (by omega)⟩
theorem Ph1.all {n t : Nat} (h : Ph1 B s n t) (hlt : n < t * 20 + 20) (ho : Srt B s' (t * 20) n) (hi : Im s s' (t * 20) n) : Bls B s' 20 n := by
  have h0 := h.le
  intro u
  rcases Nat.lt_trichotomy u t with hu | rfl | hu
  · rw [Nat.min_eq_left (by omega)]
    exact (h.done u hu).congr fun k k1 k2 => hi.out k (by omega)
  · rw [Nat.min_eq_right (by omega)]
    exact Bl.of_id (fun k k1 _ => h.rest k k1) ho hi
  · exact Bl.none_ (by rw [Nat.min_eq_right (by omega)]; omega)
/-- Blocks of 2 z up to a, blocks of z behind. -/
structure Ph2 (B : Nat → Nat → Bool) (s : Nat → Nat) (z n t a : Nat) : Prop where
  at_ : a = t * (2 * z)
  le : a ≤ n
  done : ∀ u, u < t → Bl B s (u * (2 * z)) (u * (2 * z) + 2 * z)
  rest : ∀ u, 2 * t ≤ u → Bl B s (u * z) (min (u * z + z) n)
theorem Ph2.start {z n : Nat} (h : Bls B s z n) : Ph2 B s z n 0 0 := ⟨by omega, by omega, fun u hu => by omega, fun u _ => h u⟩
theorem mul_two (t z : Nat) : 2 * t * z = t * (2 * z) := by rw [Nat.mul_comm 2 t, Nat.mul_assoc]
theorem Ph2.first {z n t a : Nat} (h : Ph2 B s z n t a) : Bl B s a (min (a + z) n) := by
  have := h.rest (2 * t) (Nat.le_refl _)
  rw [mul_two, ← h.at_] at this; exact this
theorem Ph2.second {z n t a : Nat} (h : Ph2 B s z n t a) : Bl B s (a + z) (min (a + 2 * z) n) := by
  have := h.rest (2 * t + 1) (by omega)
  rw [Nat.succ_mul, mul_two, ← h.at_, Nat.add_assoc, show z + z = 2 * z by omega] at this; exact this
theorem Ph2.before {z n t a : Nat} (h : Ph2 B s z n t a) {u : Nat} (hu : u < t) : u * (2 * z) + 2 * z ≤ a := by
  have := Nat.mul_le_mul_right (2 * z) (show u + 1 ≤ t from hu)
  rw [Nat.succ_mul] at this; rw [h.at_]; exact this
theorem Ph2.next {z n t a : Nat} (h : Ph2 B s z n t a) (hle : a + 2 * z ≤ n) (ho : Srt B s' a (a + 2 * z)) (hi : Im s s' a (a + 2 * z)) : Ph2 B s' z n (t + 1) (a + 2 * z) := by
  have e1 := h.first
  have e2 := h.second
  rw [Nat.min_eq_left (by omega)] at e1 e2
  refine ⟨by rw [Nat.succ_mul t (2 * z), ← h.at_], hle, fun u hu => ?_, fun u hu => ?_⟩
  · rcases Nat.lt_or_ge u t with hut | hut
    · have := h.before hut
      exact (h.done u hut).congr fun k k1 k2 => hi.out k (by omega)
    · obtain rfl : u = t := by omega
      rw [← h.at_]
      exact Bl.merged e1 e2 (by omega) (by omega) ho hi
  · have h5 := Nat.mul_le_mul_right z (show 2 * t + 2 ≤ u by omega)
    rw [Nat.add_mul, mul_two, ← h.at_] at h5
    exact (h.rest u (by omega)).congr fun k k1 k2 => hi.out k (by omega)
theorem Ph2.tail {z n t a : Nat} (h : Ph2 B s z n t a) (hlt : n < a + 2 * z) (hb : Bl B s' a n) (he : ∀ k, k < a → s' k = s k) : Bls B s' (2 * z) n := by
  have h0 := h.le
  intro u
  rcases Nat.lt_trichotomy u t with hu | rfl | hu
  · have := h.before hu
    rw [Nat.min_eq_left (by omega)]
    exact (h.done u hu).congr fun k k1 k2 => he k (by omega)
  · rw [← h.at_, Nat.min_eq_right (by omega)]; exact hb
  · have h5 := Nat.mul_le_mul_right (2 * z) (show t + 1 ≤ u from hu)
    rw [Nat.succ_mul, ← h.at_] at h5
    exact Bl.none_ (by rw [Nat.min_eq_right (by omega)]; omega)
/-- The last block and a short one behind it. -/
theorem Ph2.last {z n t a : Nat} (h : Ph2 B s z n t a) (hlt : n < a + 2 * z) (hm : a + z < n) (ho : Srt B s' a n) (hi : Im s s' a n) : Bls B s' (2 * z) n := by
  have e1 := h.first
  have e2 := h.second
  rw [Nat.min_eq_left (by omega)] at e1
  rw [Nat.min_eq_right (by omega)] at e2
  exact h.tail hlt (Bl.merged e1 e2 (by omega) (by omega) ho hi) fun k hk => hi.out k (by omega)
theorem Ph2.alone {z n t a : Nat} (h : Ph2 B s z n t a) (hlt : n < a + 2 * z) (hm : n ≤ a + z) : Bls B s (2 * z) n := by
  have e1 := h.first
  rw [Nat.min_eq_right (by omega)] at e1
  exact h.tail hlt e1 fun _ _ => rfl
theorem Bls.all {z n : Nat} (h : Bls B s z n) (hz : n ≤ z) : Srt B s 0 n ∧ ∀ k, k < n → s k < n := by
  have := h 0
  rw [Nat.zero_mul, Nat.zero_add, Nat.min_eq_right hz] at this
  exact ⟨this.o, fun k hk => (this.v k (Nat.zero_le _) hk).2⟩
end
/-- The same, by other names (for texts that write 'lo', 'hi' for something else). -/
theorem Cut.low {B : Nat → Nat → Bool} {s : Nat → Nat} {a b m i j : Nat} (c : Cut B s a m b i j) : Halves B (rot s i m j) a i (i + (j - m)) := c.lo
theorem Cut.high {B : Nat → Nat → Bool} {s : Nat → Nat} {a b m i j : Nat} (c : Cut B s a m b i j) : Halves B (rot s i m j) (i + (j - m)) j b := c.hi
#print axioms swr_succ
#print axioms rot_less
#print axioms Halves.cut
#print axioms Ph2.last
end Go.Proofs.Ytdolhanniiejfaa.Stable
