/- Several texts in one: LawKit, ShareA, ShareB, MemA. -/
import Derived.Test.YtihklpkpcnahkaaRows
import Derived.WalkKit
import Derived.ProofKit
import Derived.OpenShut
import Derived.ShutString
import Derived.ChangeOld
import Derived.Below
import Derived.Lib.SmallJoins
import Derived.WalkLawsBesides
import Derived.WalkSpells
import Derived.Outline
import Derived.Laws.OwnMore
import Derived.Laws.CopyOwn
import Derived.OwnWalk
import Derived.Deep.QuietTactic
import Derived.BigQuiet
import Derived.Laws.StructEq
import Derived.Laws.AppendOwnNone
import Derived.Laws.EntriesVeiled
import Derived.Deep.AppendLies
import Derived.Deep.RegionLaw
import Derived.Deep.RegionHeld3
import Derived.Deep.Cut
import Derived.Deep.CutRange
import Derived.Shelf.Abstract
import Derived.Lib.Hide
import Derived.StillTailTactics
/- For the frames of laws: opening an array of four integers; slices of integers that came in. -/
namespace Go.Proofs.Ytihklpkpcnahkaa
open Go Go.ChangeShapes Go.WideShapes Go.RowKit Go.Joins
set_option linter.unusedVariables false
set_option maxRecDepth 100000

theorem own : ownKnob Try.prog.godebug = none := by kernel_rfl
theorem laidOut : laidOutB Try.prog = true := by kernel_rfl

section
variable {H : Type} {enc : TypeId × Value → H} {P : Program} {w : World} {base b0 : Nat} {spare : Nat → Bool} {held : Bool} {t e : TypeId} {v : Value} {d : DataW H} {p : List MemPlace} {k : IntKind} {r : Reach}

theorem okWide_arr {n : Nat} (ht : P.underlying t = some (.array n e)) (h : Value.okWide P w r b0 t v) : ∃ cs, v = .agg cs ∧ cs.size = P.cellsOf t := by
  simp only [Value.okWide, ht] at h
  obtain ⟨cs, h1, h2, _⟩ := h
  exact ⟨cs, h1, h2⟩

theorem open_arr4 (ht : P.underlying t = some (.array 4 e)) (he : P.underlying e = some (.int k)) (hce : P.cellsOf e = 1) (hct : P.cellsOf t = 4)
    (hv : Value.okWide P w r b0 t v) (h : DataW.Trod enc P w base spare held t v d p) :
    ∃ x0 x1 x2 x3 : Int, v = .agg #[.int k x0, .int k x1, .int k x2, .int k x3] ∧ (Lit.int k x0).wf = true ∧ (Lit.int k x1).wf = true ∧ (Lit.int k x2).wf = true ∧ (Lit.int k x3).wf = true := by
  obtain ⟨cs, rfl, hsz⟩ := okWide_arr ht hv
  obtain ⟨c0, c1, c2, c3, rfl⟩ := array4 (hsz.trans hct)
  obtain ⟨fuel, hf⟩ := h
  obtain ⟨xs, m, rfl, hx, hl, hn, hi⟩ := DataW.trod_array ht hf
  have g0 := hi 0 (by omega)
  have g1 := hi 1 (by omega)
  have g2 := hi 2 (by omega)
  have g3 := hi 3 (by omega)
  rw [hce] at g0 g1 g2 g3
  obtain ⟨y0, y1, y2, y3, rfl⟩ : ∃ y0 y1 y2 y3, xs = [y0, y1, y2, y3] := by
    match xs, hn with
    | [y0, y1, y2, y3], _ => exact ⟨y0, y1, y2, y3, rfl⟩
  simp [Value.cells] at g0 g1 g2 g3
  obtain ⟨x0, e0, _, w0⟩ := DataW.trod_int he g0
  obtain ⟨x1, e1, _, w1⟩ := DataW.trod_int he g1
  obtain ⟨x2, e2, _, w2⟩ := DataW.trod_int he g2
  obtain ⟨x3, e3, _, w3⟩ := DataW.trod_int he g3
  simp at e0 e1 e2 e3
  subst e0 e1 e2 e3
  exact ⟨x0, x1, x2, x3, rfl, w0, w1, w2, w3⟩

/-- A slice of integers of kind k that came in: its elements are zs, and it lies below the heap's size. -/
def InInts (k : IntKind) (w : World) (A : Option Addr) (n c : Nat) (zs : List Int) : Prop :=
  n = zs.length ∧ n ≤ c ∧ c ≤ maxLen ∧ (∀ z ∈ zs, (Lit.int k z).wf = true) ∧
  ∀ i z, zs[i]? = some z → ∃ b off, A = some ⟨b, off, none⟩ ∧ b < w.heap.size ∧ w.cell? ⟨b, off + i, none⟩ = some (.int k z)
theorem InInts.len {A : Option Addr} {n c : Nat} {zs : List Int} (h : InInts k w A n c zs) : n = zs.length := h.1
theorem open_slice_ints (ht : P.underlying t = some (.slice e)) (he : P.underlying e = some (.int k)) (hce : P.cellsOf e = 1)
    (hv : Value.okWide P w r b0 t v) (h : DataW.Trod enc P w 0 (fun _ => true) held t v d p) :
    ∃ A n c zs, v = .slice A n c ∧ InInts k w A n c zs := by
  obtain ⟨A, n, c, rfl⟩ := okWide_slice ht hv
  refine ⟨A, n, c, ?_⟩
  obtain ⟨fuel, hf⟩ := h
  rcases open_ints ht he hce hf with ⟨hcs, _⟩ | ⟨x, l, c', zs, hcs, _, hl, hm, hz, _, hcell, hwz⟩
  · simp [Value.cells] at hcs
    obtain ⟨rfl, rfl, rfl⟩ := hcs
    exact ⟨[], rfl, rfl, Nat.le_refl _, by unfold maxLen; omega, by simp, by simp⟩
  · simp [Value.cells] at hcs
    obtain ⟨rfl, rfl, rfl⟩ := hcs
    have hz' : zs.length = c := by simpa using hz
    refine ⟨zs.take n, rfl, by simp; omega, hl, hm, fun z hz => hwz z (List.mem_of_mem_take hz), fun i z hi => ?_⟩
    have hin : i < n := by
      rcases Nat.lt_or_ge i n with h1 | h1
      · exact h1
      · rw [List.getElem?_take, if_neg (by omega)] at hi; cases hi
    rw [List.getElem?_take, if_pos hin] at hi
    obtain ⟨b, off, rfl, hc⟩ := ints_at hcell (by omega)
    have hci := hc i (by omega)
    have ez : zs.getD i 0 = z := by rw [List.getD_eq_getElem?_getD, hi]; rfl
    rw [ez] at hci
    exact ⟨b, off, rfl, World.block_lt_of_cell? w _ hci, hci⟩
end
end Go.Proofs.Ytihklpkpcnahkaa
/- Exact division of amounts among weights: the largest remainders. Pure. -/
namespace Go.Proofs.Ytihklpkpcnahkaa.Share
set_option linter.unusedVariables false

/-! ### Counts and sums -/
/-- How many of 0 .. n-1 are so. -/
def cn (p : Nat → Bool) : Nat → Nat
  | 0 => 0
  | n + 1 => cn p n + if p n then 1 else 0
/-- The sum of 0 .. n-1. -/
def sm (f : Nat → Nat) : Nat → Nat
  | 0 => 0
  | n + 1 => sm f n + f n
theorem cn_congr {p q : Nat → Bool} : ∀ {n : Nat}, (∀ i, i < n → p i = q i) → cn p n = cn q n
  | 0, _ => rfl
  | n + 1, h => by rw [cn, cn, cn_congr fun i hi => h i (by omega), h n (by omega)]
theorem sm_congr {f g : Nat → Nat} : ∀ {n : Nat}, (∀ i, i < n → f i = g i) → sm f n = sm g n
  | 0, _ => rfl
  | n + 1, h => by rw [sm, sm, sm_congr fun i hi => h i (by omega), h n (by omega)]
theorem cn_le (p : Nat → Bool) : ∀ n, cn p n ≤ n
  | 0 => Nat.le_refl _
  | n + 1 => by have := cn_le p n; rw [cn]; split <;> omega
theorem cn_mono {p q : Nat → Bool} : ∀ {n : Nat}, (∀ i, i < n → p i = true → q i = true) → cn p n ≤ cn q n
  | 0, _ => Nat.le_refl _
  | n + 1, h => by
    have h1 := cn_mono (n := n) fun i hi => h i (by omega)
    have h2 := h n (by omega)
    rw [cn, cn]
    cases hp : p n with
    | false => simp; omega
    | true => rw [h2 hp]; omega
theorem cn_lt {p q : Nat → Bool} : ∀ {n : Nat}, (∀ i, i < n → p i = true → q i = true) → ∀ {i : Nat}, i < n → p i = false → q i = true → cn p n < cn q n
  | 0, _, i, hi, _, _ => by omega
  | n + 1, h, i, hi, h1, h2 => by
    rw [cn, cn]
    rcases Nat.lt_or_ge i n with hlt | hge
    · have h3 := cn_lt (n := n) (fun j hj => h j (by omega)) hlt h1 h2
      have h4 := h n (by omega)
      cases hp : p n with
      | false => simp; omega
      | true => rw [h4 hp]; omega
    · obtain rfl : i = n := by omega
      have h3 := cn_mono (n := i) fun j hj => h j (by omega)
      rw [h1, h2]
      simp; omega
theorem cn_none {p : Nat → Bool} : ∀ {n : Nat}, (∀ i, i < n → p i = false) → cn p n = 0
  | 0, _ => rfl
  | n + 1, h => by rw [cn, cn_none fun i hi => h i (by omega), h n (by omega)]; rfl
theorem cn_one {p : Nat → Bool} : ∀ {n i : Nat}, i < n → p i = true → (∀ j, j < n → p j = true → j = i) → cn p n = 1
  | 0, i, hi, _, _ => by omega
  | n + 1, i, hi, h1, h2 => by
    rw [cn]
    rcases Nat.lt_or_ge i n with hlt | hge
    · rw [cn_one hlt h1 fun j hj => h2 j (by omega)]
      cases hp : p n with
      | false => rfl
      | true => have := h2 n (by omega) hp; omega
    · obtain rfl : i = n := by omega
      have : cn p i = 0 := cn_none fun j hj => by
        cases hp : p j with
        | false => rfl
        | true => have := h2 j (by omega) hp; omega
      rw [this, h1]; rfl
theorem cn_or {p q : Nat → Bool} : ∀ {n : Nat}, (∀ i, i < n → ¬ (p i = true ∧ q i = true)) → cn (fun i => p i || q i) n = cn p n + cn q n
  | 0, _ => rfl
  | n + 1, h => by
    rw [cn, cn, cn, cn_or fun i hi => h i (by omega)]
    have := h n (by omega)
    cases hp : p n <;> cases hq : q n <;> simp [hp, hq] at this ⊢ <;> omega
theorem cn_not (p : Nat → Bool) : ∀ n, cn p n + cn (fun i => !p i) n = n
  | 0 => rfl
  | n + 1 => by
    have := cn_not p n
    rw [cn, cn]
    cases hp : p n <;> simp <;> omega
theorem cn_some {p : Nat → Bool} : ∀ {n : Nat}, 0 < cn p n → ∃ i, i < n ∧ p i = true
  | 0, h => by simp [cn] at h
  | n + 1, h => by
    cases hp : p n with
    | true => exact ⟨n, by omega, hp⟩
    | false =>
      rw [cn, hp] at h
      obtain ⟨i, hi, h1⟩ := cn_some (n := n) (by simpa using h)
      exact ⟨i, by omega, h1⟩
theorem sm_add (f g : Nat → Nat) : ∀ n, sm (fun i => f i + g i) n = sm f n + sm g n
  | 0 => rfl
  | n + 1 => by rw [sm, sm, sm, sm_add f g n]; omega
theorem sm_mul (c : Nat) (f : Nat → Nat) : ∀ n, sm (fun i => c * f i) n = c * sm f n
  | 0 => rfl
  | n + 1 => by rw [sm, sm, sm_mul c f n, Nat.mul_add]
theorem sm_const (c : Nat) : ∀ n, sm (fun _ => c) n = c * n
  | 0 => rfl
  | n + 1 => by rw [sm, sm_const c n, Nat.mul_succ]
theorem sm_le {f g : Nat → Nat} : ∀ {n : Nat}, (∀ i, i < n → f i ≤ g i) → sm f n ≤ sm g n
  | 0, _ => Nat.le_refl _
  | n + 1, h => Nat.add_le_add (sm_le fun i hi => h i (by omega)) (h n (by omega))
theorem sm_ite (p : Nat → Bool) : ∀ n, sm (fun i => if p i then 1 else 0) n = cn p n
  | 0 => rfl
  | n + 1 => by rw [sm, cn, sm_ite p n]
theorem sm_mono {f : Nat → Nat} {i n : Nat} (h : i ≤ n) : sm f i ≤ sm f n := by
  induction n with
  | zero => obtain rfl : i = 0 := by omega
            exact Nat.le_refl _
  | succ n ih =>
    rcases Nat.lt_or_ge n i with h1 | h1
    · obtain rfl : i = n + 1 := by omega
      exact Nat.le_refl _
    · exact Nat.le_trans (ih h1) (Nat.le_add_right _ _)
theorem sm_at {f : Nat → Nat} {i n : Nat} (h : i < n) : f i ≤ sm f n :=
  Nat.le_trans (Nat.le_add_left (f i) (sm f i)) (sm_mono (f := f) (i := i + 1) h)

/-! ### Ranks -/
/-- j comes before i: a larger remainder, of equal ones the lower index. -/
def bt (r : Nat → Nat) (j i : Nat) : Bool := decide (r i < r j) || (decide (r i = r j) && decide (j < i))
theorem bt_iff {r : Nat → Nat} {j i : Nat} : bt r j i = true ↔ r i < r j ∨ (r i = r j ∧ j < i) := by simp [bt]
theorem bt_irr (r : Nat → Nat) (i : Nat) : bt r i i = false := by simp [bt]
theorem bt_trans {r : Nat → Nat} {i j k : Nat} (h1 : bt r i j = true) (h2 : bt r j k = true) : bt r i k = true := by
  rw [bt_iff] at *; omega
theorem bt_total {r : Nat → Nat} {i j : Nat} (h : i ≠ j) : bt r i j = true ∨ bt r j i = true := by
  rw [bt_iff, bt_iff]; omega
theorem bt_as {r : Nat → Nat} {i j : Nat} (h : bt r i j = true) : bt r j i = false := by
  cases h1 : bt r j i with
  | false => rfl
  | true => rw [bt_iff] at h h1; omega
/-- How many of n come before i. -/
def rank (r : Nat → Nat) (n i : Nat) : Nat := cn (fun j => bt r j i) n
theorem rank_lt {r : Nat → Nat} {n i j : Nat} (hi : i < n) (h : bt r i j = true) : rank r n i < rank r n j :=
  cn_lt (fun k _ hk => bt_trans hk h) hi (bt_irr r i) h
theorem rank_ne {r : Nat → Nat} {n i j : Nat} (hi : i < n) (hj : j < n) (h : i ≠ j) : rank r n i ≠ rank r n j := by
  rcases bt_total (r := r) h with h1 | h1
  · have := rank_lt hi h1; omega
  · have := rank_lt hj h1; omega
theorem rank_iff {r : Nat → Nat} {n i j : Nat} (hi : i < n) (hj : j < n) : rank r n i < rank r n j ↔ bt r i j = true := by
  refine ⟨fun h => ?_, rank_lt hi⟩
  rcases Nat.decEq i j with he | he
  · rcases bt_total (r := r) he with h1 | h1
    · exact h1
    · have := rank_lt hj h1; omega
  · subst he; omega
/-- The first one of those that are so. -/
theorem best {r : Nat → Nat} {p : Nat → Bool} : ∀ {n : Nat}, (∃ i, i < n ∧ p i = true) → ∃ b, b < n ∧ p b = true ∧ ∀ i, i < n → p i = true → i = b ∨ bt r b i = true
  | 0, ⟨i, hi, _⟩ => by omega
  | n + 1, ⟨i, hi, h⟩ => by
    by_cases hex : ∃ i, i < n ∧ p i = true
    · obtain ⟨b, hb, h1, h2⟩ := best (r := r) hex
      cases hp : p n with
      | false =>
        refine ⟨b, by omega, h1, fun j hj hpj => ?_⟩
        rcases Nat.lt_or_ge j n with hlt | hge
        · exact h2 j hlt hpj
        · obtain rfl : j = n := by omega
          rw [hp] at hpj; cases hpj
      | true =>
        rcases bt_total (r := r) (i := b) (j := n) (by omega) with hbn | hbn
        · refine ⟨b, by omega, h1, fun j hj hpj => ?_⟩
          rcases Nat.lt_or_ge j n with hlt | hge
          · exact h2 j hlt hpj
          · obtain rfl : j = n := by omega
            exact Or.inr hbn
        · refine ⟨n, by omega, hp, fun j hj hpj => ?_⟩
          rcases Nat.lt_or_ge j n with hlt | hge
          · rcases h2 j hlt hpj with rfl | h3
            · exact Or.inr hbn
            · exact Or.inr (bt_trans hbn h3)
          · exact Or.inl (by omega)
    · obtain rfl : i = n := by
        rcases Nat.lt_or_ge i n with hlt | hge
        · exact absurd ⟨i, hlt, h⟩ hex
        · omega
      refine ⟨i, hi, h, fun j hj hpj => ?_⟩
      rcases Nat.lt_or_ge j i with hlt | hge
      · exact absurd ⟨j, hlt, hpj⟩ hex
      · exact Or.inl (by omega)
/-- Exactly k ranks lie below k, and one has the rank k. -/
theorem rank_cnt {r : Nat → Nat} {n : Nat} : ∀ k, k ≤ n → cn (fun i => decide (rank r n i < k)) n = k ∧ (k < n → ∃ b, b < n ∧ rank r n b = k) := by
  intro k
  induction k with
  | zero =>
    intro _
    have h0 : cn (fun i => decide (rank r n i < 0)) n = 0 := cn_none fun i _ => by simp
    refine ⟨h0, fun h => ?_⟩
    obtain ⟨b, hb, _, h2⟩ := best (r := r) (p := fun _ => true) (n := n) ⟨0, h, rfl⟩
    refine ⟨b, hb, cn_none fun j hj => ?_⟩
    rcases h2 j hj rfl with rfl | h3
    · exact bt_irr _ _
    · exact bt_as h3
  | succ k ih =>
    intro hk
    obtain ⟨h1, h2⟩ := ih (by omega)
    obtain ⟨b, hb, hr⟩ := h2 (by omega)
    have hc : cn (fun i => decide (rank r n i < k + 1)) n = k + 1 := by
      have h3 : cn (fun i => decide (rank r n i < k) || decide (rank r n i = k)) n = k + 1 := by
        rw [cn_or fun i _ h => by simp at h; omega, h1, cn_one (i := b) hb (by simp [hr]) fun j hj h => by
          rcases Nat.decEq j b with he | he
          · have := rank_ne (r := r) hj hb he; simp at h; omega
          · exact he]
      rw [← h3]
      exact cn_congr fun i _ => by
        rw [Bool.eq_iff_iff]; simp; omega
    refine ⟨hc, fun hlt => ?_⟩
    have hnot := cn_not (fun i => decide (rank r n i < k + 1)) n
    obtain ⟨b2, hb2, hp2, hbest⟩ := best (r := r) (p := fun i => !decide (rank r n i < k + 1)) (n := n) (cn_some (by omega))
    refine ⟨b2, hb2, ?_⟩
    have hge : k + 1 ≤ rank r n b2 := by simpa using hp2
    have hle : rank r n b2 ≤ k + 1 := by
      rw [← hc]
      refine cn_mono fun j hj hbj => ?_
      cases hd : decide (rank r n j < k + 1) with
      | true => rfl
      | false =>
        rcases hbest j hj (by simp only [hd]; rfl) with rfl | h3
        · rw [bt_irr] at hbj; cases hbj
        · rw [bt_as h3] at hbj; cases hbj
    omega
/-- The one of rank k is the first one of those of rank k and above. -/
theorem rank_best {r : Nat → Nat} {n k b i : Nat} (hb : b < n) (hr : rank r n b = k) (hi : i < n) (hk : k ≤ rank r n i) : i = b ∨ bt r b i = true := by
  rcases Nat.decEq i b with he | he
  · exact Or.inr ((rank_iff hb hi).mp (by have := rank_ne (r := r) hi hb he; omega))
  · exact Or.inl he
/-- In a list that is sorted so, each lies at its rank. -/
theorem rank_sorted {r : Nat → Nat} {n : Nat} {s : Nat → Nat} (hs : ∀ k, k < n → s k < n) (hord : ∀ j k, j < k → k < n → bt r (s j) (s k) = true) : ∀ k, k < n → rank r n (s k) = k := by
  have hge : ∀ k, k < n → k ≤ rank r n (s k) := by
    intro k
    induction k with
    | zero => intro _; exact Nat.zero_le _
    | succ k ih =>
      intro hk
      have h1 := ih (by omega)
      have h2 := rank_lt (r := r) (hs k (by omega)) (hord k (k + 1) (by omega) hk)
      omega
  have hlt : ∀ i, i < n → rank r n i < n := fun i hi => by
    have h := cn_lt (p := fun j => bt r j i) (q := fun _ => true) (n := n) (fun _ _ _ => rfl) hi (bt_irr r i) rfl
    have h2 := cn_le (fun _ => true) n
    exact Nat.lt_of_lt_of_le h h2
  have hle : ∀ d k, k + d + 1 = n → rank r n (s k) ≤ k := by
    intro d
    induction d with
    | zero => intro k hk; have := hlt (s k) (hs k (by omega)); omega
    | succ d ih =>
      intro k hk
      have h1 := ih (k + 1) (by omega)
      have h2 := rank_lt (r := r) (hs k (by omega)) (hord k (k + 1) (by omega) (by omega))
      omega
  intro k hk
  have h1 := hge k hk
  have h2 := hle (n - 1 - k) k (by omega)
  omega

/-! ### The parts -/
section
variable (T : Nat) (w : Nat → Nat) (n : Nat)
def tw : Nat := sm w n
def quo (i : Nat) : Nat := T * w i / tw w n
def rst (i : Nat) : Nat := T * w i % tw w n
def lft : Nat := T - sm (quo T w n) n
def part (i : Nat) : Nat := if tw w n = 0 then 0 else quo T w n i + if rank (rst T w n) n i < lft T w n then 1 else 0
def bnd (i : Nat) : Nat := if tw w n = 0 then 0 else T * sm w (i + 1) / tw w n
end
variable {T : Nat} {w : Nat → Nat} {n : Nat}
theorem quo_rst (i : Nat) : tw w n * quo T w n i + rst T w n i = T * w i := Nat.div_add_mod _ _
theorem sum_all : tw w n * sm (quo T w n) n + sm (rst T w n) n = T * tw w n := by
  rw [← sm_mul, ← sm_add, sm_congr (g := fun i => T * w i) fun i _ => quo_rst i, sm_mul]
  rfl
theorem sum_le (h : 0 < tw w n) : sm (quo T w n) n ≤ T := by
  have h1 := sum_all (T := T) (w := w) (n := n)
  have h2 : tw w n * sm (quo T w n) n ≤ tw w n * T := by rw [Nat.mul_comm (tw w n) T]; omega
  exact Nat.le_of_mul_le_mul_left h2 h
theorem lft_eq (h : 0 < tw w n) : tw w n * lft T w n = sm (rst T w n) n := by
  have h1 := sum_all (T := T) (w := w) (n := n)
  have h2 := sum_le (T := T) h
  unfold lft
  rw [Nat.mul_sub, Nat.mul_comm (tw w n) T]; omega
theorem rst_lt (h : 0 < tw w n) (i : Nat) : rst T w n i < tw w n := Nat.mod_lt _ h
/-- Fewer units are left than there are remainders above zero. -/
theorem lft_pos (h : 0 < tw w n) : lft T w n ≤ cn (fun i => decide (0 < rst T w n i)) n := by
  have h1 := lft_eq (T := T) h
  have h2 : sm (rst T w n) n ≤ tw w n * cn (fun i => decide (0 < rst T w n i)) n := by
    rw [← sm_ite, ← sm_mul]
    refine sm_le fun i _ => ?_
    have := rst_lt (T := T) h i
    by_cases h0 : 0 < rst T w n i
    · simp [h0]; omega
    · simp [h0]; omega
  exact Nat.le_of_mul_le_mul_left (by rw [h1]; exact h2) h
theorem lft_lt (h : 0 < tw w n) : lft T w n < n := by
  have h0 : 0 < n := by
    rcases Nat.eq_zero_or_pos n with rfl | h1
    · simp [tw, sm] at h
    · exact h1
  have h1 := lft_eq (T := T) h
  have h2 : sm (rst T w n) n ≤ (tw w n - 1) * n := by
    have : sm (rst T w n) n ≤ sm (fun _ => tw w n - 1) n := sm_le fun i _ => by have := rst_lt (T := T) h i; omega
    refine Nat.le_trans this ?_
    exact Nat.le_of_eq (sm_const _ n)
  rcases Nat.lt_or_ge (lft T w n) n with h3 | h3
  · exact h3
  · have h4 : tw w n * n ≤ tw w n * lft T w n := Nat.mul_le_mul_left _ h3
    have h5 : (tw w n - 1) * n + n = tw w n * n := by
      obtain ⟨c, hc⟩ : ∃ c, tw w n = c + 1 := ⟨tw w n - 1, by omega⟩
      rw [hc, Nat.add_sub_cancel, Nat.succ_mul]
    omega
/-- A part whose exact share is an integer gets no unit. -/
theorem whole_rank (h : 0 < tw w n) {i : Nat} (h0 : rst T w n i = 0) : lft T w n ≤ rank (rst T w n) n i := by
  refine Nat.le_trans (lft_pos h) (cn_mono fun j hj h1 => ?_)
  rw [bt_iff]
  have : 0 < rst T w n j := by simpa using h1
  omega
/-- The parts add up to the total. -/
theorem part_sum (h : 0 < tw w n) : sm (part T w n) n = T := by
  have h1 : sm (part T w n) n = sm (fun i => quo T w n i + if decide (rank (rst T w n) n i < lft T w n) then 1 else 0) n :=
    sm_congr fun i _ => by unfold part; rw [if_neg (by omega)]; simp
  rw [h1, sm_add, sm_ite, (rank_cnt (r := rst T w n) (lft T w n) (Nat.le_of_lt (lft_lt h))).1]
  have := sum_le (T := T) h
  unfold lft
  omega
/-- Each part is the exact share, rounded down or up. -/
theorem part_near (h : 0 < tw w n) (i : Nat) : quo T w n i ≤ part T w n i ∧ part T w n i ≤ quo T w n i + (if rst T w n i = 0 then 0 else 1) := by
  unfold part
  rw [if_neg (by omega)]
  by_cases h0 : rst T w n i = 0
  · have := whole_rank (T := T) h h0
    rw [if_pos h0, if_neg (by omega)]
    omega
  · rw [if_neg h0]
    split <;> omega
/-- Greater weights, greater parts. -/
theorem part_order (h : 0 < tw w n) {i j : Nat} (hi : i < n) (hj : j < n) (hw : w j < w i) : part T w n j ≤ part T w n i := by
  have h1 := quo_rst (T := T) (w := w) (n := n) i
  have h2 := quo_rst (T := T) (w := w) (n := n) j
  have r1 := rst_lt (T := T) (w := w) h i
  have r2 := rst_lt (T := T) (w := w) h j
  have hq : quo T w n j ≤ quo T w n i := Nat.div_le_div_right (Nat.mul_le_mul_left _ (by omega))
  have hz : ¬ tw w n = 0 := by omega
  simp only [part, if_neg hz]
  rcases Nat.lt_or_ge (quo T w n j) (quo T w n i) with hlt | hge
  · split <;> split <;> omega
  · have hqe : quo T w n j = quo T w n i := by omega
    rw [hqe] at h2 ⊢
    have hm : T * w j ≤ T * w i := Nat.mul_le_mul_left _ (by omega)
    rcases Nat.lt_or_ge (rst T w n j) (rst T w n i) with hr | hr
    · have := (rank_iff (r := rst T w n) hi hj).mpr (by rw [bt_iff]; exact Or.inl hr)
      split <;> split <;> omega
    · have hTe : T * w j = T * w i := by omega
      have hT : T = 0 := by
        rcases Nat.eq_zero_or_pos T with h0 | h0
        · exact h0
        · have := Nat.mul_lt_mul_of_pos_left hw h0; omega
      have hl : lft T w n = 0 := by unfold lft; omega
      rw [hl]
      simp
/-- Equal weights: the earlier part is not less, and at most 1 greater. -/
theorem part_equal (h : 0 < tw w n) {i j : Nat} (hi : i < n) (hj : j < n) (hij : i < j) (hw : w i = w j) : part T w n j ≤ part T w n i ∧ part T w n i ≤ part T w n j + 1 := by
  have hq : quo T w n i = quo T w n j := by unfold quo; rw [hw]
  have hr : rst T w n i = rst T w n j := by unfold rst; rw [hw]
  have := (rank_iff (r := rst T w n) hi hj).mpr (by rw [bt_iff]; exact Or.inr ⟨hr.symm, hij⟩)
  have hz : ¬ tw w n = 0 := by omega
  simp only [part, if_neg hz, hq]
  split <;> split <;> omega
/-- Scale. -/
theorem tw_scale (b : Nat) : tw (fun i => b * w i) n = b * tw w n := sm_mul b w n
theorem quo_scale {b : Nat} (hb : 0 < b) (i : Nat) : quo T (fun i => b * w i) n i = quo T w n i := by
  unfold quo
  rw [tw_scale, Nat.mul_left_comm, Nat.mul_div_mul_left _ _ hb]
theorem rst_scale {b : Nat} (i : Nat) : rst T (fun i => b * w i) n i = b * rst T w n i := by
  unfold rst
  rw [tw_scale, Nat.mul_left_comm, Nat.mul_mod_mul_left]
theorem part_scale {b : Nat} (hb : 0 < b) {i : Nat} : part T (fun i => b * w i) n i = part T w n i := by
  unfold part
  have h1 : lft T (fun i => b * w i) n = lft T w n := by
    unfold lft
    rw [sm_congr fun i _ => quo_scale hb i]
  have h2 : rank (rst T (fun i => b * w i) n) n i = rank (rst T w n) n i := cn_congr fun j _ => by
    unfold bt
    rw [rst_scale, rst_scale]
    have e1 : (b * rst T w n i < b * rst T w n j) ↔ (rst T w n i < rst T w n j) := Nat.mul_lt_mul_left hb
    have e2 : (b * rst T w n i = b * rst T w n j) ↔ (rst T w n i = rst T w n j) := Nat.mul_right_inj (by omega)
    simp only [e1, e2]
  rw [h1, h2, quo_scale hb, tw_scale]
  by_cases h0 : tw w n = 0
  · simp [h0]
  · rw [if_neg h0, if_neg (by have := Nat.mul_pos hb (Nat.pos_of_ne_zero h0); omega)]
theorem bnd_scale {b : Nat} (hb : 0 < b) {i : Nat} : bnd T (fun i => b * w i) n i = bnd T w n i := by
  unfold bnd
  rw [tw_scale, sm_mul, Nat.mul_left_comm, Nat.mul_div_mul_left _ _ hb]
  by_cases h0 : tw w n = 0
  · simp [h0]
  · rw [if_neg h0, if_neg (by have := Nat.mul_pos hb (Nat.pos_of_ne_zero h0); omega)]
end Go.Proofs.Ytihklpkpcnahkaa.Share
/- Exact division of amounts among weights: errors, lists, the reference's loops. Pure. -/
namespace Go.Proofs.Ytihklpkpcnahkaa.Share
set_option linter.unusedVariables false

/-! ### Lists of integers -/
abbrev mx : Int := 1125899906842624
def inW (z : Int) : Bool := decide (0 ≤ z) && decide (z ≤ mx)
theorem inW_iff {z : Int} : inW z = true ↔ 0 ≤ z ∧ z ≤ mx := by simp [inW]
theorem inW_no {z : Int} : inW z = false ↔ z < 0 ∨ mx < z := by
  cases h : inW z with
  | true => rw [inW_iff] at h; simp; omega
  | false =>
    have : ¬ (0 ≤ z ∧ z ≤ mx) := fun k => by rw [inW_iff.mpr k] at h; cases h
    simp; omega
def wf (ws : List Int) (i : Nat) : Nat := (ws.getD i 0).toNat
/-- The sum of the first k. -/
def sumK (ws : List Int) (k : Nat) : Int := (ws.take k).foldl (· + ·) 0
theorem sumK_zero (ws : List Int) : sumK ws 0 = 0 := rfl
theorem sumK_succ {ws : List Int} {k : Nat} {z : Int} (h : ws[k]? = some z) : sumK ws (k + 1) = sumK ws k + z := by
  unfold sumK
  rw [List.take_add_one, h]
  simp [List.foldl_append]
theorem wf_at {ws : List Int} {k : Nat} {z : Int} (h : ws[k]? = some z) (h0 : 0 ≤ z) : (wf ws k : Int) = z := by
  unfold wf
  rw [List.getD_eq_getElem?_getD, h]
  simp; omega
theorem sm_sumK {ws : List Int} (ha : ∀ z ∈ ws, 0 ≤ z) : ∀ {k : Nat}, k ≤ ws.length → (sm (wf ws) k : Int) = sumK ws k
  | 0, _ => rfl
  | k + 1, h => by
    have hk : ws[k]? = some ws[k] := List.getElem?_eq_getElem (by omega)
    rw [sm, sumK_succ hk, ← sm_sumK ha (by omega), ← wf_at hk (ha _ (List.getElem_mem _))]
    simp
/-- The errors of Split. -/
def errS (t : Int) (ws : List Int) : Nat :=
  if inW t = false then 1 else if ws.length = 0 then 10 else if 512 < ws.length then 8 else if ws.all inW = false then 1
  else if mx < sumK ws ws.length then 2 else if sumK ws ws.length = 0 ∧ t ≠ 0 then 16 else 0
def partsL (t : Int) (ws : List Int) : List Int := (List.range ws.length).map fun i => (part t.toNat (wf ws) ws.length i : Int)
def bndsL (t : Int) (ws : List Int) : List Int := (List.range ws.length).map fun i => (bnd t.toNat (wf ws) ws.length i : Int)
theorem partsL_len (t : Int) (ws : List Int) : (partsL t ws).length = ws.length := by simp [partsL]
theorem bndsL_len (t : Int) (ws : List Int) : (bndsL t ws).length = ws.length := by simp [bndsL]
theorem partsL_at (t : Int) {ws : List Int} {i : Nat} (h : i < ws.length) : (partsL t ws)[i]? = some (part t.toNat (wf ws) ws.length i : Int) := by
  unfold partsL
  rw [List.getElem?_map, List.getElem?_range h]; rfl
theorem bndsL_at (t : Int) {ws : List Int} {i : Nat} (h : i < ws.length) : (bndsL t ws)[i]? = some (bnd t.toNat (wf ws) ws.length i : Int) := by
  unfold bndsL
  rw [List.getElem?_map, List.getElem?_range h]; rfl
/-- What no error says. -/
structure Ok (t : Int) (ws : List Int) : Prop where
  t0 : 0 ≤ t
  t1 : t ≤ mx
  n0 : 0 < ws.length
  n1 : ws.length ≤ 512
  all : ∀ z ∈ ws, 0 ≤ z ∧ z ≤ mx
  sum : sumK ws ws.length ≤ mx
  nil : sumK ws ws.length = 0 → t = 0
theorem all_in {ws : List Int} : ws.all inW = true ↔ ∀ z ∈ ws, 0 ≤ z ∧ z ≤ mx := by
  simp only [List.all_eq_true, inW_iff]
theorem Ok.of {t : Int} {ws : List Int} (h : errS t ws = 0) : Ok t ws := by
  unfold errS at h
  cases h1 : inW t with
  | false => simp [h1] at h
  | true =>
    have ⟨a, b⟩ := inW_iff.mp h1
    by_cases h2 : ws.length = 0
    · simp [h1, h2] at h
    by_cases h3 : 512 < ws.length
    · simp [h1, h2, h3] at h
    cases h4 : ws.all inW with
    | false => simp [h1, h2, h3, h4] at h
    | true =>
      by_cases h5 : mx < sumK ws ws.length
      · simp [h1, h2, h3, h4, h5] at h
      by_cases h6 : sumK ws ws.length = 0 ∧ t ≠ 0
      · rw [if_neg (by rw [h1]; simp), if_neg h2, if_neg h3, if_neg (by rw [h4]; simp), if_neg h5, if_pos h6] at h; cases h
      exact ⟨a, b, by omega, by omega, all_in.mp h4, by omega, fun h7 => by
        rcases Int.lt_trichotomy t 0 with h8 | h8 | h8
        · exact absurd ⟨h7, by omega⟩ h6
        · exact h8
        · exact absurd ⟨h7, by omega⟩ h6⟩
theorem Ok.err {t : Int} {ws : List Int} (h : Ok t ws) : errS t ws = 0 := by
  unfold errS
  have h1 : inW t = true := inW_iff.mpr ⟨h.t0, h.t1⟩
  have h2 := h.n0
  have h3 := h.n1
  have h4 := all_in.mpr h.all
  have h5 := h.sum
  rw [if_neg (by rw [h1]; simp), if_neg (by omega), if_neg (by omega), if_neg (by rw [h4]; simp), if_neg (by omega), if_neg (fun k => k.2 (h.nil k.1))]
section
variable {t : Int} {ws : List Int}
theorem Ok.twI (h : Ok t ws) : (Share.tw (wf ws) ws.length : Int) = sumK ws ws.length := sm_sumK (fun z hz => (h.all z hz).1) (Nat.le_refl _)
theorem Ok.upto (h : Ok t ws) {k : Nat} (hk : k ≤ ws.length) : (sm (wf ws) k : Int) = sumK ws k := sm_sumK (fun z hz => (h.all z hz).1) hk
theorem Ok.upto_le (h : Ok t ws) {k : Nat} (hk : k ≤ ws.length) : 0 ≤ sumK ws k ∧ sumK ws k ≤ sumK ws ws.length := by
  rw [← h.upto hk, ← h.upto (Nat.le_refl _)]
  have := sm_mono (f := wf ws) hk
  omega
theorem Ok.w_le (h : Ok t ws) {i : Nat} (hi : i < ws.length) : wf ws i ≤ tw (wf ws) ws.length := sm_at (f := wf ws) hi
theorem Ok.zero (h : Ok t ws) (h0 : Share.tw (wf ws) ws.length = 0) : t = 0 := h.nil (by rw [← h.twI, h0]; rfl)
/-- The parts add up. -/
theorem Ok.parts (h : Ok t ws) : (sm (part t.toNat (wf ws) ws.length) ws.length : Int) = t := by
  have h0 := h.t0
  rcases Nat.eq_zero_or_pos (Share.tw (wf ws) ws.length) with hz | hz
  · have ht := h.zero hz
    rw [sm_congr (g := fun _ => 0) fun i _ => by unfold part; rw [if_pos hz], sm_const]
    omega
  · rw [part_sum hz]; omega
theorem Ok.part_le (h : Ok t ws) {i : Nat} (hi : i < ws.length) : (part t.toNat (wf ws) ws.length i : Int) ≤ t := by
  have h1 := h.parts
  have h2 := sm_at (f := part t.toNat (wf ws) ws.length) hi
  omega
theorem quo_le {T n : Nat} {w : Nat → Nat} {i : Nat} (hi : i < n) : quo T w n i ≤ T := by
  unfold quo
  have h1 : w i ≤ Share.tw w n := sm_at hi
  rcases Nat.eq_zero_or_pos (Share.tw w n) with hz | hz
  · rw [hz, Nat.div_zero]; exact Nat.zero_le _
  · exact Nat.div_le_of_le_mul (by rw [Nat.mul_comm]; exact Nat.mul_le_mul_right _ h1)
theorem bnd_le {T n : Nat} {w : Nat → Nat} {i : Nat} (hi : i < n) : bnd T w n i ≤ T := by
  unfold bnd
  split
  · exact Nat.zero_le _
  · have h1 : sm w (i + 1) ≤ Share.tw w n := sm_mono (by omega)
    exact Nat.div_le_of_le_mul (by rw [Nat.mul_comm]; exact Nat.mul_le_mul_right _ h1)
/-- The last bound is the total. -/
theorem Ok.last (h : Ok t ws) : (bnd t.toNat (wf ws) ws.length (ws.length - 1) : Int) = t := by
  have h0 := h.t0
  have hn := h.n0
  unfold bnd
  split
  · have := h.zero (by assumption); omega
  · rw [show ws.length - 1 + 1 = ws.length by omega]
    show ((t.toNat * Share.tw (wf ws) ws.length / Share.tw (wf ws) ws.length : Nat) : Int) = t
    rw [Nat.mul_div_cancel _ (by omega)]; omega
end

/-! ### The reference's division, bit by bit -/
theorem div_bit (b k : Nat) : b / 2 ^ k = 2 * (b / 2 ^ (k + 1)) + b / 2 ^ k % 2 := by
  have h : b / 2 ^ (k + 1) = b / 2 ^ k / 2 := by rw [Nat.pow_succ, Nat.div_div_eq_div_mul]
  rw [h]; omega
/-- Quotient and remainder behind the bits k and above. -/
def Dv (a b c k q r : Nat) : Prop := q * c + r = a * (b / 2 ^ k) ∧ r < c
theorem Dv.start {a b c k : Nat} (hb : b < 2 ^ k) (hc : 0 < c) : Dv a b c k 0 0 := by
  unfold Dv; rw [Nat.div_eq_of_lt hb]; simp [hc]
/-- Within a bit: what is still to be taken off. -/
def Dw (a b c k q r : Nat) : Prop := q * c + r = a * (b / 2 ^ k)
theorem Dv.one {a b c k q r : Nat} (h : Dv a b c (k + 1) q r) (hb : b / 2 ^ k % 2 = 1) : Dw a b c k (2 * q) (2 * r + a) := by
  unfold Dw
  rw [div_bit b k, hb, Nat.mul_add, Nat.mul_left_comm, ← h.1, Nat.mul_add, Nat.mul_one, Nat.mul_assoc]; omega
theorem Dv.zero {a b c k q r : Nat} (h : Dv a b c (k + 1) q r) (hb : b / 2 ^ k % 2 = 0) : Dw a b c k (2 * q) (2 * r) := by
  unfold Dw
  rw [div_bit b k, hb, Nat.add_zero, Nat.mul_left_comm, ← h.1, Nat.mul_add, Nat.mul_assoc]
theorem Dw.off {a b c k q r : Nat} (h : Dw a b c k q (r + c)) : Dw a b c k (q + 1) r := by
  unfold Dw at *; rw [Nat.succ_mul]; omega
theorem Dw.done {a b c k q r : Nat} (h : Dw a b c k q r) (hr : r < c) : Dv a b c k q r := ⟨h, hr⟩
theorem Dw.q_le {a b c k q r : Nat} (h : Dw a b c k q r) (hac : a ≤ c) (hc : 0 < c) : q ≤ b := by
  have h1 : q * c ≤ c * b := Nat.le_trans (by unfold Dw at h; omega : q * c ≤ a * (b / 2 ^ k)) (Nat.mul_le_mul hac (Nat.div_le_self _ _))
  rw [Nat.mul_comm] at h1
  exact Nat.le_of_mul_le_mul_left h1 hc
theorem Dv.q_le {a b c k q r : Nat} (h : Dv a b c k q r) (hac : a ≤ c) : q ≤ b := Dw.q_le h.1 hac (by have := h.2; omega)
theorem Dv.all {a b c q r : Nat} (h : Dv a b c 0 q r) : q = a * b / c ∧ r = a * b % c := by
  obtain ⟨h1, h2⟩ := h
  rw [Nat.pow_zero, Nat.div_one] at h1
  rw [← h1, Nat.mul_comm q c, Nat.add_comm, Nat.add_mul_div_left _ _ (by omega), Nat.add_mul_mod_self_left, Nat.div_eq_of_lt h2, Nat.mod_eq_of_lt h2]
  omega

/-! ### The first greatest of a list -/
/-- b is the first greatest one of the first i. -/
def FM (f : Nat → Int) (i b : Nat) : Prop := b < i ∧ (∀ j, j < b → f j < f b) ∧ ∀ j, b < j → j < i → f j ≤ f b
theorem FM.start (f : Nat → Int) : FM f 1 0 := ⟨by omega, fun j h => by omega, fun j h1 h2 => by omega⟩
theorem FM.new {f : Nat → Int} {i b : Nat} (h : FM f i b) (hl : f b < f i) : FM f (i + 1) i := by
  obtain ⟨h0, h1, h2⟩ := h
  refine ⟨by omega, fun j hj => ?_, fun j h3 h4 => by omega⟩
  rcases Nat.lt_trichotomy j b with h | h | h
  · have := h1 j h; omega
  · rw [h]; exact hl
  · have := h2 j h hj; omega
theorem FM.old {f : Nat → Int} {i b : Nat} (h : FM f i b) (hl : f i ≤ f b) : FM f (i + 1) b := by
  obtain ⟨h0, h1, h2⟩ := h
  refine ⟨by omega, h1, fun j h3 h4 => ?_⟩
  rcases Nat.lt_or_ge j i with h | h
  · exact h2 j h3 h
  · obtain rfl : j = i := by omega
    exact hl
theorem FM.one {f : Nat → Int} {i b c : Nat} (h : FM f i b) (k : FM f i c) : b = c := by
  rcases Nat.lt_trichotomy b c with h1 | h1 | h1
  · have h2 := k.2.1 b h1
    have h3 := h.2.2 c h1 k.1
    omega
  · exact h1
  · have h2 := h.2.1 c h1
    have h3 := k.2.2 b h1 h.1
    omega
/-- What is left of the remainders behind k units, and the parts then. -/
def lefts (r : Nat → Nat) (n k i : Nat) : Int := if rank r n i < k then -1 else (r i : Int)
def gots (q r : Nat → Nat) (n k i : Nat) : Nat := q i + if rank r n i < k then 1 else 0
theorem lefts_zero (r : Nat → Nat) (n i : Nat) : lefts r n 0 i = r i := by simp [lefts]
theorem gots_zero (q r : Nat → Nat) (n i : Nat) : gots q r n 0 i = q i := by simp [gots]
/-- The first greatest one is that of rank k. -/
theorem lefts_best {r : Nat → Nat} {n k b : Nat} (hk : k < n) (h : FM (lefts r n k) n b) : rank r n b = k := by
  obtain ⟨c, hc, hr⟩ := (rank_cnt (r := r) (n := n) k (by omega)).2 hk
  have hle : ∀ j, j < n → rank r n j < k → lefts r n k j = -1 := fun j _ h1 => if_pos h1
  have hge : ∀ j, ¬ rank r n j < k → lefts r n k j = r j := fun j h1 => if_neg h1
  have hcv := hge c (by omega)
  have : FM (lefts r n k) n c := by
    refine ⟨hc, fun j hj => ?_, fun j hj hjn => ?_⟩
    · rw [hcv]
      by_cases h1 : rank r n j < k
      · rw [hle j (by omega) h1]; omega
      · rw [hge j h1]
        rcases rank_best hc hr (i := j) (by omega) (by omega) with h2 | h2
        · omega
        · rw [bt_iff] at h2; omega
    · rw [hcv]
      by_cases h1 : rank r n j < k
      · rw [hle j (by omega) h1]; omega
      · rw [hge j h1]
        rcases rank_best hc hr (i := j) (by omega) (by omega) with h2 | h2
        · rw [h2]; exact Int.le_refl _
        · rw [bt_iff] at h2; omega
  rw [h.one this]; exact hr
theorem lefts_next {r : Nat → Nat} {n k b : Nat} (hb : b < n) (hr : rank r n b = k) {i : Nat} (hi : i < n) : lefts r n (k + 1) i = if i = b then -1 else lefts r n k i := by
  unfold lefts
  by_cases h : i = b
  · subst h; rw [if_pos (by omega), if_pos rfl]
  · have := rank_ne (r := r) hi hb h
    rw [if_neg h]
    by_cases h1 : rank r n i < k
    · rw [if_pos (by omega), if_pos h1]
    · rw [if_neg (by omega), if_neg h1]
theorem gots_next {q r : Nat → Nat} {n k b : Nat} (hb : b < n) (hr : rank r n b = k) {i : Nat} (hi : i < n) : gots q r n (k + 1) i = if i = b then gots q r n k i + 1 else gots q r n k i := by
  unfold gots
  by_cases h : i = b
  · subst h; rw [if_pos (by omega), if_pos rfl, if_neg (by omega)]
  · have := rank_ne (r := r) hi hb h
    rw [if_neg h]
    by_cases h1 : rank r n i < k
    · rw [if_pos (by omega), if_pos h1]
    · rw [if_neg (by omega), if_neg h1]
theorem gots_part {T n : Nat} {w : Nat → Nat} (h : 0 < tw w n) (i : Nat) : gots (quo T w n) (rst T w n) n (lft T w n) i = part T w n i := by
  unfold gots part
  rw [if_neg (by omega : ¬ tw w n = 0)]
/-- A list of a function's values. -/
def lst (f : Nat → Int) (n : Nat) : List Int := (List.range n).map f
theorem lst_len (f : Nat → Int) (n : Nat) : (lst f n).length = n := by simp [lst]
theorem lst_at (f : Nat → Int) {n i : Nat} (h : i < n) : (lst f n)[i]? = some (f i) := by
  unfold lst; rw [List.getElem?_map, List.getElem?_range h]; rfl
theorem lst_set {f g : Nat → Int} {n b : Nat} {v : Int} (hb : b < n) (h : ∀ i, i < n → g i = if i = b then v else f i) : (lst f n).set b v = lst g n := by
  apply List.ext_getElem?
  intro i
  rcases Nat.lt_or_ge i n with hi | hi
  · rw [lst_at g hi, List.getElem?_set, h i hi]
    by_cases hib : b = i
    · rw [if_pos hib, if_pos (by rw [lst_len]; omega), if_pos hib.symm]
    · rw [if_neg hib, if_neg (by omega), lst_at f hi]
  · rw [List.getElem?_eq_none (by rw [List.length_set, lst_len]; exact hi), List.getElem?_eq_none (by rw [lst_len]; exact hi)]
theorem lst_congr {f g : Nat → Int} {n : Nat} (h : ∀ i, i < n → f i = g i) : lst f n = lst g n := List.map_congr_left fun i hi => h i (List.mem_range.mp hi)
end Go.Proofs.Ytihklpkpcnahkaa.Share
/- Slices of one-cell elements in memory: what is there, what is the call's own; made, set, appended to. What a step leaves as it was. -/
namespace Go.Proofs.Ytihklpkpcnahkaa.Mem
open Go.ChangeShapes Go.WideShapes Go.RowKit Go.Lib
set_option linter.unusedVariables false
set_option maxRecDepth 100000

theorem lt_of_get {α : Type} {l : List α} {j : Nat} {x : α} (h : l[j]? = some x) : j < l.length := by
  rw [List.getElem?_eq_some_iff] at h; exact h.1
/-- Of what was there all but the blocks in S is as it was. -/
structure Off (S : Nat → Prop) (w w' : World) : Prop where
  os : w'.os = w.os
  tape : w'.tape = w.tape
  output : w'.output = w.output
  size : w.heap.size ≤ w'.heap.size
  block : ∀ k, k < w.heap.size → ¬ S k → w'.heap[k]? = w.heap[k]?
theorem Off.refl (S : Nat → Prop) (w : World) : Off S w w := ⟨rfl, rfl, rfl, Nat.le_refl _, fun _ _ _ => rfl⟩
theorem Off.trans {S S' : Nat → Prop} {a b c : World} (h : Off S a b) (k : Off S' b c) (hs : ∀ x, S' x → S x ∨ a.heap.size ≤ x) : Off S a c :=
  ⟨k.os.trans h.os, k.tape.trans h.tape, k.output.trans h.output, Nat.le_trans h.size k.size, fun i hi hn =>
    (k.block i (Nat.lt_of_lt_of_le hi h.size) fun e => by rcases hs i e with h1 | h1; exact hn h1; omega).trans (h.block i hi hn)⟩
theorem Off.below {S : Nat → Prop} {a b : World} {B : Nat} (h : Off S a b) (hB : B ≤ a.heap.size) (hs : ∀ x, S x → B ≤ x) : Below B a b :=
  ⟨h.os, h.tape, h.output, h.size, fun i hi => h.block i (by omega) fun e => by have := hs i e; omega⟩
theorem Off.of_below {S : Nat → Prop} {a b : World} (h : Below a.heap.size a b) : Off S a b := ⟨h.os, h.tape, h.output, h.size, fun i hi _ => h.block i hi⟩
theorem Off.then_below {S : Nat → Prop} {a b c : World} (h : Off S a b) (k : Below b.heap.size b c) : Off S a c := h.trans (Off.of_below (S := fun _ => False) k) fun x e => e.elim
theorem Off.alloc {S : Nat → Prop} {a b : World} (h : Off S a b) (o : Obj) : Off S a (b.alloc o) := h.then_below ((Below.refl _ _).alloc (Nat.le_refl _) _)
theorem Off.drew {S : Nat → Prop} {a b : World} (h : Off S a b) : Off S a b.drew := ⟨h.os, h.tape, h.output, h.size, h.block⟩
theorem Off.set {S : Nat → Prop} {a b : World} (h : Off S a b) {p : Addr} (hp : S p.block ∨ a.heap.size ≤ p.block) (u : Value) : Off S a (b.setCell p u) :=
  h.trans (S' := fun k => k = p.block) ⟨rfl, rfl, rfl, by simp [World.setCell], fun i hi hn => Below.heap_setCell _ _ _ _ hn⟩ fun x e => e ▸ hp
theorem Off.grown {S : Nat → Prop} {a b c : World} {row : Option Nat} (h : Off S a b) (hg : b.grownBy c row) (hr : ∀ k, row = some k → S k ∨ a.heap.size ≤ k) : Off S a c :=
  h.trans (S' := fun k => row = some k) ⟨hg.os, hg.tape, hg.output, hg.size, fun i hi hn => hg.block i hi fun e => hn e.symm⟩ fun x e => hr x e
theorem Off.before {S : Nat → Prop} {a b c : World} (h : Below a.heap.size a b) (k : Off S b c) : Off S a c :=
  (Off.of_below h).trans k fun x e => Or.inl e
theorem Off.mono {S S' : Nat → Prop} {a b : World} (h : Off S a b) (hs : ∀ x, S x → S' x ∨ a.heap.size ≤ x) : Off S' a b :=
  ⟨h.os, h.tape, h.output, h.size, fun i hi hn => h.block i hi fun e => by rcases hs i e with h1 | h1; exact hn h1; omega⟩
theorem below_alloc (w : World) (o : Obj) : Below w.heap.size w (w.alloc o) := (Below.refl _ _).alloc (Nat.le_refl _) _
theorem bstep {a b c : World} (h : Below a.heap.size a b) (k : Below b.heap.size b c) : Below a.heap.size a c := h.trans (k.mono h.size)
theorem below_drewN {B : Nat} {a w : World} (h : Below B a w) (n : Nat) : Below B a (w.drewN n) := ⟨h.os, h.tape, h.output, h.size, h.block⟩
theorem below_drew {B : Nat} {a w : World} (h : Below B a w) : Below B a w.drew := ⟨h.os, h.tape, h.output, h.size, h.block⟩
theorem below_set {B : Nat} {a w : World} (h : Below B a w) {p : Addr} (hp : B ≤ p.block) (u : Value) : Below B a (w.setCell p u) :=
  ⟨h.os, h.tape, h.output, by simpa using h.size, fun k hk => (Below.heap_setCell w p u k (by omega)).trans (h.block k hk)⟩
theorem ret_bool {a b : Bool} (h : a = b) : Ending.returned (.bool a) = .returned (.bool b) := by rw [h]
theorem ret_int {k : IntKind} {a b : Int} (h : a = b) : Ending.returned (.int k a) = .returned (.int k b) := by rw [h]
theorem get_lt {α : Type} {L : List α} {k : Nat} (h : k < L.length) : ∃ s, L[k]? = some s := ⟨_, List.getElem?_eq_getElem h⟩
theorem all_of {α : Type} {p : α → Bool} {L : List α} (h : ∀ (j : Nat) s, j < L.length → L[j]? = some s → p s = true) : L.all p = true := by
  rw [List.all_eq_true]
  intro s hs
  obtain ⟨j, hj⟩ := List.mem_iff_getElem?.mp hs
  exact h j s (lt_of_get hj) hj
theorem all_not {α : Type} {p : α → Bool} {L : List α} {j : Nat} {s : α} (h : L[j]? = some s) (hs : p s = false) : L.all p = false := by
  rw [List.all_eq_false]; exact ⟨s, List.mem_of_getElem? h, by simpa using hs⟩
theorem wrap_id {x : Int} (h : -9223372036854775808 ≤ x ∧ x ≤ 9223372036854775807) : IntKind.i64.wrap x = x := by rw [IntKind.wrap_i64]; omega

/-! ### One-cell elements -/
section
variable {α : Type} {enc : α → Value} {t : TypeId} {B : Nat} {w w' : World} {v : Value} {L : List α} {g n cap : Nat} {A : Option Addr}
/-- At the address lie the elements of L. -/
def Cl (enc : α → Value) (w : World) (A : Option Addr) (L : List α) : Prop :=
  ∀ (k : Nat) (z : α), L[k]? = some z → ∃ b off, A = some ⟨b, off, none⟩ ∧ b < w.heap.size ∧ w.cell? ⟨b, off + k, none⟩ = some (enc z)
/-- A slice that holds L. -/
def InS (enc : α → Value) (w : World) (v : Value) (L : List α) : Prop := ∃ A c, v = .slice A L.length c ∧ L.length ≤ c ∧ c ≤ maxLen ∧ Cl enc w A L
/-- A slice of the call's own that holds L. -/
def Own (enc : α → Value) (t : TypeId) (B : Nat) (w : World) (v : Value) (L : List α) : Prop := w.ownsRow B t 1 v L.length (L.map enc)
theorem Cl.nil (enc : α → Value) (w : World) (A : Option Addr) : Cl enc w A [] := fun k z h => by simp at h
theorem Cl.on (h : Cl enc w A L) (hb : Below w.heap.size w w') : Cl enc w' A L := by
  intro k z hk
  obtain ⟨b, off, e, hlt, h0⟩ := h k z hk
  exact ⟨b, off, e, Nat.lt_of_lt_of_le hlt hb.size, (hb.cell (p := ⟨b, off + k, none⟩) hlt).trans h0⟩
theorem Cl.drew (h : Cl enc w A L) : Cl enc w.drew A L := h
theorem InS.nil (enc : α → Value) (w : World) : InS enc w (.slice none 0 0) [] := ⟨none, 0, rfl, Nat.le_refl _, by unfold maxLen; omega, Cl.nil _ _ _⟩
theorem InS.on (h : InS enc w v L) (hb : Below w.heap.size w w') : InS enc w' v L := by
  obtain ⟨A, c, e, h1, h2, h3⟩ := h; exact ⟨A, c, e, h1, h2, h3.on hb⟩
theorem InS.open_ (h : InS enc w v L) : ∃ A c, v = .slice A L.length c ∧ L.length ≤ 9223372036854775807 ∧ Cl enc w A L := by
  obtain ⟨A, c, rfl, h1, h2, h3⟩ := h
  exact ⟨A, c, rfl, by unfold maxLen at h2; omega, h3⟩
theorem Own.nil (enc : α → Value) (t : TypeId) (B : Nat) (w : World) : Own enc t B w (.slice none 0 0) [] := World.ownsRow_nil _ _ _ _
theorem Own.lt (h : Own enc t B w v L) : ∀ k, v.ownBlock = some k → B ≤ k ∧ k < w.heap.size := World.ownsRow.lt h
theorem Own.inS (h : Own enc t B w v L) : InS enc w v L := by
  obtain ⟨h1, ⟨rfl, h2⟩ | ⟨g, cap, cur, rfl, h2, h3, h4, h5, h6, h7⟩⟩ := h
  · obtain rfl : L = [] := List.eq_nil_of_length_eq_zero h2
    exact InS.nil enc w
  · refine ⟨_, cap, rfl, h4, h5, fun k z hz => ⟨g, 0, rfl, (Array.getElem?_eq_some_iff.mp h3).1, ?_⟩⟩
    rw [cell_of_row w g _ cur _ (0, 0) h3, Nat.zero_add]
    have hu : (cur.toList.take (L.length * 1))[k]? = some (enc z) := by rw [h7, List.getElem?_map, hz]; rfl
    rw [List.getElem?_take] at hu
    split at hu
    · simpa using hu
    · cases hu
theorem Own.blk (h : Own enc t B w v L) (h0 : 0 < L.length) : ∃ g cap, v = .slice (some ⟨g, 0, none⟩) L.length cap ∧ B ≤ g ∧ g < w.heap.size ∧ L.length ≤ cap := by
  obtain ⟨_, ⟨_, h1⟩ | ⟨g, cap, cur, h1, h2, h3, h4, _⟩⟩ := h
  · omega
  · exact ⟨g, cap, h1, h2, (Array.getElem?_eq_some_iff.mp h3).1, h4⟩
theorem Own.keep (h : Own enc t B w v L) (hk : ∀ k, v.ownBlock = some k → w'.heap[k]? = w.heap[k]?) : Own enc t B w' v L := by
  obtain ⟨h1, h0 | ⟨g, cap, cur, rfl, h2, h3, h4⟩⟩ := h
  · exact ⟨h1, Or.inl h0⟩
  · exact ⟨h1, Or.inr ⟨g, cap, cur, rfl, h2, (hk g rfl).trans h3, h4⟩⟩
theorem Own.on (h : Own enc t B w v L) (hb : Below w.heap.size w w') : Own enc t B w' v L := h.keep fun k hk => hb.block k (h.lt k hk).2
theorem Own.drew (h : Own enc t B w v L) : Own enc t B w.drew v L := h
theorem Own.drewN (h : Own enc t B w v L) (n : Nat) : Own enc t B (w.drewN n) v L := h.keep fun _ _ => rfl
theorem Own.alloc (h : Own enc t B w v L) (o : Obj) : Own enc t B (w.alloc o) v L := World.ownsRow.alloc h o
theorem Own.less {B' : Nat} (h : Own enc t B w v L) (hB : B' ≤ B) : Own enc t B' w v L := by
  obtain ⟨h1, h0 | ⟨g, cap, cur, e, h2, h3⟩⟩ := h
  · exact ⟨h1, Or.inl h0⟩
  · exact ⟨h1, Or.inr ⟨g, cap, cur, e, Nat.le_trans hB h2, h3⟩⟩
theorem Own.other (h : Own enc t B w v L) {p : Addr} (hp : v.ownBlock ≠ some p.block) (u : Value) : Own enc t B (w.setCell p u) v L :=
  h.keep fun k hk => Below.heap_setCell w p u k fun e => hp (by rw [hk, e])
theorem Own.warm (h : Own enc t B w (.slice (some ⟨g, 0, none⟩) n cap) L) (hn : n = L.length) (j : Nat) : w.frozen? ⟨g, j, none⟩ = false := by
  subst hn
  exact World.ownsRow.frozenAt (h : w.ownsRow B t 1 (.slice (some ⟨g, 0, none⟩) L.length cap) L.length (L.map enc)) j
theorem Own.set (h : Own enc t B w (.slice (some ⟨g, 0, none⟩) n cap) L) (hn : n = L.length) (j : Nat) (z : α) : Own enc t B (w.setCell ⟨g, j, none⟩ (enc z)) (.slice (some ⟨g, 0, none⟩) n cap) (L.set j z) := by
  subst hn
  have h1 := (World.ownsRow.stored (h : w.ownsRow B t 1 (.slice (some ⟨g, 0, none⟩) L.length cap) L.length (L.map enc)) j (enc z)).1
  unfold Own
  rw [List.length_set, List.map_set]; exact h1
theorem Own.cell (h : Own enc t B w (.slice (some ⟨g, 0, none⟩) n cap) L) {j : Nat} {b : α} (hb : L[j]? = some b) : w.cell? ⟨g, j, none⟩ = some (enc b) := by
  obtain ⟨A, c, e, _, _, hy⟩ := h.inS
  cases e
  obtain ⟨g', off, e, _, hc⟩ := hy j b hb
  cases e
  rw [Nat.zero_add] at hc; exact hc
theorem Own.cl (h : Own enc t B w (.slice (some ⟨g, 0, none⟩) n cap) L) : Cl enc w (some ⟨g, 0, none⟩) L := by
  obtain ⟨A, c, e, _, _, hy⟩ := h.inS
  cases e
  exact hy
theorem Own.below (h : Own enc t B w v L) (hg : w.grownBy w' v.ownBlock) (hB : B ≤ w.heap.size) : Below B w w' :=
  ⟨hg.os, hg.tape, hg.output, hg.size, fun i hi => hg.block i (Nat.lt_of_lt_of_le hi hB) fun e => by have := (h.lt i e.symm).1; omega⟩
end

/-! ### Appending, making -/
theorem info_int : (Try.prog.info? 3).map (fun i => (i.zero, i.size, i.bytes)) = some (some (.int .i64 0), 1, 8) := by kernel_rfl
abbrev eI : Int → Value := Value.int .i64
abbrev eB : Bool → Value := Value.bool
/-- 'append(s, x)' of integers. -/
theorem append_int {w : World} {ops : Array Oper} {rest : List Oper} {o : Oper} {a : Act} {Q : Exit → Act → World → Prop} (hgd : o.guard = none) (s x : Operand)
    (ho : o.op = .call { callee := .builtin .append, args := #[s, x], argTypes := #[29, 29] })
    (B : Nat) (v : Value) (L : List Int) (hs : a.eval s = v) (hown : Own eI 3 B w v L) (g c0 : Nat) (z : Int) (hx : a.eval x = .slice (some ⟨g, 0, none⟩) 1 c0) (hz : w.cell? ⟨g, 0, none⟩ = some (.int .i64 z))
    (hlen : L.length + 1 ≤ 1000000) (hB : B ≤ w.heap.size)
    (h : ∀ v' w', Own eI 3 B w' v' (L ++ [z]) → w.grownBy w' v.ownBlock → (v'.ownBlock = v.ownBlock ∨ v'.ownBlock = some w.heap.size) → wpList Try.prog ops Q rest (a.put o.dst v') w') : wpList Try.prog ops Q (o :: rest) a w := by
  obtain ⟨i0, hi0, hz0, hz1, hz2⟩ := info_parts info_int
  refine wpList_append_own_at w hgd s x _ ho B 3 i0 (.int .i64 0) 1 8 Try.underlying29 hi0 hz0 hz1 hz2 rfl (by decide) v L.length (L.map eI) hs hown ⟨g, 0, none⟩ 1 c0 [.int .i64 z] hx rfl ?_ (by intro u hu; simp at hu; subst hu; rfl) (by unfold maxLen; omega) (by omega) hB ?_
  · intro j u hj
    match j, hj with
    | 0, hj => simp at hj; subst hj; rw [Addr.add_lit]; exact hz
  · intro v' w' hown' hg _ hat
    exact h v' w' (by unfold Own; rw [List.length_append, List.map_append]; exact hown') hg hat
theorem int_one (w : World) (x : Int) (T : TypeId) {g : Nat} (hg : w.heap.size = g) : (w.alloc (.cells #[.int .i64 x] T)).cell? ⟨g, 0, none⟩ = some (.int .i64 x) := by subst hg; simp
theorem make_ints (n : Nat) (hn : n ≤ 100000) (W : World) :
    (Instr.makeSlice 29 (.int .i64 (n : Int)) (.int .i64 (n : Int))).run Try.prog W = .ok (.slice (some ⟨W.heap.size, 0, none⟩) n n) (W.alloc (.cells (madeCells #[.int .i64 0] n) 3)) := by
  obtain ⟨i, hi, hz, hs, hb⟩ := info_parts info_int
  have h := run_make (P := Try.prog) (w := W) 29 3 i _ Try.underlying29 hi hz .i64 .i64 (n : Int) (n : Int) (by omega) (by omega) (by rw [hb]; omega) (by omega)
  rw [hs, Int.toNat_natCast, Nat.mul_one] at h
  exact h
/-- What make made. -/
theorem own_made {α : Type} (enc : α → Value) (t : TypeId) (W : World) (n : Nat) (x : α) (hn : n ≤ 100000) : Own enc t W.heap.size (W.alloc (.cells (madeCells #[enc x] n) t)) (.slice (some ⟨W.heap.size, 0, none⟩) n n) (List.replicate n x) := by
  have h := World.ownsRow_lit (base := W.heap.size) (e := t) (size := 1) W (madeCells #[enc x] n) n (Nat.le_refl _) (by unfold maxLen; omega) (by rw [size_madeCells, Nat.mul_one])
  unfold Own
  rw [List.length_replicate, List.map_replicate]
  rw [toList_madeCells_one] at h
  exact h
theorem slice_lo (A : Addr) (n c k : Nat) (hA : A.spot = none) (hk : k ≤ n) (hc : k < c) (W : World) : (Instr.slice 29 (.slice (some A) n c) (some (.int .i64 (k : Int))) none none).run Try.prog W = .ok (.slice (some ⟨A.block, A.off + k, none⟩) (n - k) (c - k)) W := by
  have ht : Try.prog.underlying 29 = some (.slice (Try.prog.elem 29)) := by kernel_rfl
  have hs : (sizeOf (Try.prog.elem 29)).run Try.prog W = .ok 1 W := Try.sizeOf3 W
  obtain ⟨b, off, sp⟩ := A
  simp at hA
  subst hA
  rw [run_slice_l W 29 (some ⟨b, off, none⟩) n c ht .i64 k (by omega) (by omega), hs]
  simp [sliced, Result.andThen, Addr.add_lit]
  intro h
  omega
theorem slice_hi (A : Option Addr) (n c k : Nat) (hk : k ≤ c) (W : World) : (Instr.slice 29 (.slice A n c) none (some (.int .i64 (k : Int))) none).run Try.prog W = .ok (.slice A k c) W := by
  have ht : Try.prog.underlying 29 = some (.slice (Try.prog.elem 29)) := by kernel_rfl
  have hs : (sizeOf (Try.prog.elem 29)).run Try.prog W = .ok 1 W := Try.sizeOf3 W
  rw [run_slice_h W 29 A n c ht .i64 k (by omega) (by omega), hs]
  simp [sliced, Result.andThen]
  intro _
  cases A <;> simp [Addr.add]
theorem drew_below (w : World) : Below w.heap.size w w.drew := below_drew (Below.refl _ _)
theorem take_snoc_of {α : Type} {l : List α} {k : Nat} {z : α} (h : l[k]? = some z) : l.take (k + 1) = l.take k ++ [z] := by
  rw [List.take_add_one, h]; rfl
end Go.Proofs.Ytihklpkpcnahkaa.Mem
