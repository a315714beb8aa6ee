/- Sums over stretches of integers (pure). -/
import Derived.Test.YtccbnobpighckaaRows
namespace Go.Proofs.Ytccbnobpighckaa.Rect
set_option linter.unusedVariables false

/-- The sum of f at a, a + 1, .. : n terms. -/
def sm (f : Int → Int) (a : Int) : Nat → Int
  | 0 => 0
  | n + 1 => sm f a n + f (a + n)
section
variable {f g : Int → Int} {a b c : Int} {n m : Nat}
theorem sm_add (f : Int → Int) (a : Int) (n : Nat) : ∀ m : Nat, sm f a (n + m) = sm f a n + sm f (a + n) m
  | 0 => by simp [sm]
  | m + 1 => by
    rw [← Nat.add_assoc, sm, sm, sm_add f a n m, show a + ((n + m : Nat) : Int) = a + (n : Int) + (m : Int) by omega]
    omega
theorem sm_congr : ∀ {n : Nat}, (∀ i, a ≤ i → i < a + n → f i = g i) → sm f a n = sm g a n
  | 0, _ => rfl
  | n + 1, h => by
    rw [sm, sm, sm_congr (n := n) fun i h0 h1 => h i h0 (by omega), h (a + n) (by omega) (by omega)]
theorem sm_const (k : Int) : ∀ {n : Nat}, (∀ i, a ≤ i → i < a + n → f i = k) → sm f a n = k * n
  | 0, _ => by simp [sm]
  | n + 1, h => by
    rw [sm, sm_const k (n := n) fun i h0 h1 => h i h0 (by omega), h (a + n) (by omega) (by omega), show ((n + 1 : Nat) : Int) = (n : Int) + 1 by omega, Int.mul_add, Int.mul_one]
theorem sm_plus (f g : Int → Int) (a : Int) : ∀ n : Nat, sm (fun i => f i + g i) a n = sm f a n + sm g a n
  | 0 => rfl
  | n + 1 => by rw [sm, sm, sm, sm_plus f g a n]; omega
theorem sm_le : ∀ {n : Nat}, (∀ i, a ≤ i → i < a + n → f i ≤ g i) → sm f a n ≤ sm g a n
  | 0, _ => Int.le_refl _
  | n + 1, h => by
    have h1 := sm_le (n := n) fun i h0 h1 => h i h0 (by omega)
    have h2 := h (a + n) (by omega) (by omega)
    rw [sm, sm]; omega
theorem sm_same : ∀ {n : Nat}, (∀ i, a ≤ i → i < a + n → f i ≤ g i) → sm f a n = sm g a n → ∀ i, a ≤ i → i < a + n → f i = g i
  | 0, _, _, i, h0, h1 => by omega
  | n + 1, h, e, i, h0, h1 => by
    have k1 := sm_le (n := n) fun i h0 h1 => h i h0 (by omega)
    have k2 := h (a + n) (by omega) (by omega)
    rw [sm, sm] at e
    by_cases hi : i = a + n
    · subst hi; omega
    · exact sm_same (n := n) (fun i h0 h1 => h i h0 (by omega)) (by omega) i h0 (by omega)
/-- The sum of f from a up to b. -/
def sI (f : Int → Int) (a b : Int) : Int := sm f a (b - a).toNat
theorem sI_nil (f : Int → Int) (a : Int) : sI f a a = 0 := by unfold sI; rw [Int.sub_self]; rfl
theorem sI_split (f : Int → Int) (h0 : a ≤ b) (h1 : b ≤ c) : sI f a c = sI f a b + sI f b c := by
  unfold sI
  rw [show (c - a).toNat = (b - a).toNat + (c - b).toNat by omega, sm_add, show a + ((b - a).toNat : Int) = b by omega]
theorem sI_congr (h : ∀ i, a ≤ i → i < b → f i = g i) : sI f a b = sI g a b := sm_congr fun i h0 h1 => h i h0 (by omega)
theorem sI_const (k : Int) (hab : a ≤ b) (h : ∀ i, a ≤ i → i < b → f i = k) : sI f a b = k * (b - a) := by
  unfold sI
  rw [sm_const k fun i h0 h1 => h i h0 (by omega), show ((b - a).toNat : Int) = b - a by omega]
theorem sI_plus (f g : Int → Int) (a b : Int) : sI (fun i => f i + g i) a b = sI f a b + sI g a b := sm_plus _ _ _ _
theorem sI_le (h : ∀ i, a ≤ i → i < b → f i ≤ g i) : sI f a b ≤ sI g a b := sm_le fun i h0 h1 => h i h0 (by omega)
theorem sI_same (h : ∀ i, a ≤ i → i < b → f i ≤ g i) (e : sI f a b = sI g a b) : ∀ i, a ≤ i → i < b → f i = g i := fun i h0 h1 => sm_same (fun i h0 h1 => h i h0 (by omega)) e i h0 (by omega)
theorem sI_zero (h : ∀ i, a ≤ i → i < b → f i = 0) : sI f a b = 0 := by
  unfold sI
  rw [sm_const 0 fun i h0 h1 => h i h0 (by omega), Int.zero_mul]
theorem sI_pos (h : ∀ i, a ≤ i → i < b → 0 ≤ f i) : 0 ≤ sI f a b := by
  have := sI_le (f := fun _ => 0) (g := f) h
  rw [sI_zero fun _ _ _ => rfl] at this
  exact this
/-- A number that is added on a part of the stretch only. -/
theorem sI_part (k : Int) {u v : Int} (h0 : a ≤ u) (h1 : u ≤ v) (h2 : v ≤ b) (hin : ∀ i, u ≤ i → i < v → f i = k) (hout : ∀ i, a ≤ i → i < b → (i < u ∨ v ≤ i) → f i = 0) : sI f a b = k * (v - u) := by
  rw [sI_split f h0 (Int.le_trans h1 h2), sI_split f h1 h2, sI_zero fun i k0 k1 => hout i k0 (by omega) (Or.inl k1), sI_const k h1 hin, sI_zero fun i k0 k1 => hout i (by omega) k1 (Or.inr k0)]
  omega
end

/-! ### Two ways -/
abbrev MW : Int := 12000
abbrev ML : Int := 17179869184
/-- The sum over the whole web. -/
def ar (P : Int → Int → Int) : Int := sI (fun y => sI (fun x => P x y) 0 MW) 0 ML
section
variable {P Q : Int → Int → Int}
theorem ar_congr (h : ∀ x y, 0 ≤ x → x < MW → 0 ≤ y → y < ML → P x y = Q x y) : ar P = ar Q :=
  sI_congr fun y h2 h3 => sI_congr fun x h0 h1 => h x y h0 h1 h2 h3
theorem ar_plus (P Q : Int → Int → Int) : ar (fun x y => P x y + Q x y) = ar P + ar Q := by
  unfold ar
  rw [← sI_plus]
  exact sI_congr fun y _ _ => sI_plus _ _ _ _
theorem ar_le (h : ∀ x y, 0 ≤ x → x < MW → 0 ≤ y → y < ML → P x y ≤ Q x y) : ar P ≤ ar Q :=
  sI_le fun y h2 h3 => sI_le fun x h0 h1 => h x y h0 h1 h2 h3
theorem ar_same (h : ∀ x y, 0 ≤ x → x < MW → 0 ≤ y → y < ML → P x y ≤ Q x y) (e : ar P = ar Q) : ∀ x y, 0 ≤ x → x < MW → 0 ≤ y → y < ML → P x y = Q x y := fun x y h0 h1 h2 h3 =>
  sI_same (fun x k0 k1 => h x y k0 k1 h2 h3) (sI_same (fun y k2 k3 => sI_le fun x k0 k1 => h x y k0 k1 k2 k3) e y h2 h3) x h0 h1
theorem ar_pos (h : ∀ x y, 0 ≤ x → x < MW → 0 ≤ y → y < ML → 0 ≤ P x y) : 0 ≤ ar P := sI_pos fun y h2 h3 => sI_pos fun x h0 h1 => h x y h0 h1 h2 h3
theorem ar_zero (h : ∀ x y, 0 ≤ x → x < MW → 0 ≤ y → y < ML → P x y = 0) : ar P = 0 := sI_zero fun y h2 h3 => sI_zero fun x h0 h1 => h x y h0 h1 h2 h3
theorem ar_one : ar (fun _ _ => 1) = MW * ML := by
  unfold ar
  rw [sI_congr (g := fun _ => MW) fun y _ _ => by rw [sI_const 1 (by decide) fun _ _ _ => rfl]; rfl, sI_const MW (by decide) fun _ _ _ => rfl]
  rfl
end
#print axioms sI_part
#print axioms ar_same
#print axioms ar_one
end Go.Proofs.Ytccbnobpighckaa.Rect
