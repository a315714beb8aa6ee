/- Several texts in one: LawKit, NatA, NatB, Shelf, NatC, NatD. -/
import Derived.Test.YtohfaoclemcfaaaRows
import Derived.WalkKit
import Derived.ProofKit
import Derived.OpenShut
import Derived.ShutString
import Derived.ChangeOld
import Derived.Below
import Derived.Lib.SmallJoins
import Derived.Lib.Hide
import Derived.WalkLawsBesides
import Derived.WalkSpells
import Derived.Outline
import Derived.Laws.OwnMore
import Derived.OwnWalk
import Derived.Shelf.Small.Wraps
import Derived.Ground.Names2Prog
import Derived.Shelf.Slices.SearchI
import Derived.Test.YtohfaoclemcfaaaProg
import Derived.BigQuiet
import Derived.Deep.RegionWith
import Derived.Deep.QuietTactic
/- For the frames of laws: opening an array of four integers; slices of integers that came in. -/
namespace Go.Proofs.Ytohfaoclemcfaaa
open Go Go.ChangeShapes Go.WideShapes Go.RowKit Go.Joins
set_option linter.unusedVariables false
set_option maxRecDepth 100000

theorem own : ownKnob Try.prog.godebug = none := by kernel_rfl
theorem laidOut : laidOutB Try.prog = true := by kernel_rfl

section
variable {H : Type} {enc : TypeId × Value → H} {P : Program} {w : World} {base b0 : Nat} {spare : Nat → Bool} {held : Bool} {t e : TypeId} {v : Value} {d : DataW H} {p : List MemPlace} {k : IntKind} {r : Reach}

theorem okWide_arr {n : Nat} (ht : P.underlying t = some (.array n e)) (h : Value.okWide P w r b0 t v) : ∃ cs, v = .agg cs ∧ cs.size = P.cellsOf t := by
  simp only [Value.okWide, ht] at h
  obtain ⟨cs, h1, h2, _⟩ := h
  exact ⟨cs, h1, h2⟩

theorem open_arr4 (ht : P.underlying t = some (.array 4 e)) (he : P.underlying e = some (.int k)) (hce : P.cellsOf e = 1) (hct : P.cellsOf t = 4)
    (hv : Value.okWide P w r b0 t v) (h : DataW.Trod enc P w base spare held t v d p) :
    ∃ x0 x1 x2 x3 : Int, v = .agg #[.int k x0, .int k x1, .int k x2, .int k x3] ∧ (Lit.int k x0).wf = true ∧ (Lit.int k x1).wf = true ∧ (Lit.int k x2).wf = true ∧ (Lit.int k x3).wf = true := by
  obtain ⟨cs, rfl, hsz⟩ := okWide_arr ht hv
  obtain ⟨c0, c1, c2, c3, rfl⟩ := array4 (hsz.trans hct)
  obtain ⟨fuel, hf⟩ := h
  obtain ⟨xs, m, rfl, hx, hl, hn, hi⟩ := DataW.trod_array ht hf
  have g0 := hi 0 (by omega)
  have g1 := hi 1 (by omega)
  have g2 := hi 2 (by omega)
  have g3 := hi 3 (by omega)
  rw [hce] at g0 g1 g2 g3
  obtain ⟨y0, y1, y2, y3, rfl⟩ : ∃ y0 y1 y2 y3, xs = [y0, y1, y2, y3] := by
    match xs, hn with
    | [y0, y1, y2, y3], _ => exact ⟨y0, y1, y2, y3, rfl⟩
  simp [Value.cells] at g0 g1 g2 g3
  obtain ⟨x0, e0, _, w0⟩ := DataW.trod_int he g0
  obtain ⟨x1, e1, _, w1⟩ := DataW.trod_int he g1
  obtain ⟨x2, e2, _, w2⟩ := DataW.trod_int he g2
  obtain ⟨x3, e3, _, w3⟩ := DataW.trod_int he g3
  simp at e0 e1 e2 e3
  subst e0 e1 e2 e3
  exact ⟨x0, x1, x2, x3, rfl, w0, w1, w2, w3⟩

/-- A slice of integers of kind k that came in: its elements are zs, and it lies below the heap's size. -/
def InInts (k : IntKind) (w : World) (A : Option Addr) (n c : Nat) (zs : List Int) : Prop :=
  n = zs.length ∧ n ≤ c ∧ c ≤ maxLen ∧ (∀ z ∈ zs, (Lit.int k z).wf = true) ∧
  ∀ i z, zs[i]? = some z → ∃ b off, A = some ⟨b, off, none⟩ ∧ b < w.heap.size ∧ w.cell? ⟨b, off + i, none⟩ = some (.int k z)
theorem InInts.len {A : Option Addr} {n c : Nat} {zs : List Int} (h : InInts k w A n c zs) : n = zs.length := h.1
theorem open_slice_ints (ht : P.underlying t = some (.slice e)) (he : P.underlying e = some (.int k)) (hce : P.cellsOf e = 1)
    (hv : Value.okWide P w r b0 t v) (h : DataW.Trod enc P w 0 (fun _ => true) held t v d p) :
    ∃ A n c zs, v = .slice A n c ∧ InInts k w A n c zs := by
  obtain ⟨A, n, c, rfl⟩ := okWide_slice ht hv
  refine ⟨A, n, c, ?_⟩
  obtain ⟨fuel, hf⟩ := h
  rcases open_ints ht he hce hf with ⟨hcs, _⟩ | ⟨x, l, c', zs, hcs, _, hl, hm, hz, _, hcell, hwz⟩
  · simp [Value.cells] at hcs
    obtain ⟨rfl, rfl, rfl⟩ := hcs
    exact ⟨[], rfl, rfl, Nat.le_refl _, by unfold maxLen; omega, by simp, by simp⟩
  · simp [Value.cells] at hcs
    obtain ⟨rfl, rfl, rfl⟩ := hcs
    have hz' : zs.length = c := by simpa using hz
    refine ⟨zs.take n, rfl, by simp; omega, hl, hm, fun z hz => hwz z (List.mem_of_mem_take hz), fun i z hi => ?_⟩
    have hin : i < n := by
      rcases Nat.lt_or_ge i n with h1 | h1
      · exact h1
      · rw [List.getElem?_take, if_neg (by omega)] at hi; cases hi
    rw [List.getElem?_take, if_pos hin] at hi
    obtain ⟨b, off, rfl, hc⟩ := ints_at hcell (by omega)
    have hci := hc i (by omega)
    have ez : zs.getD i 0 = z := by rw [List.getD_eq_getElem?_getD, hi]; rfl
    rw [ez] at hci
    exact ⟨b, off, rfl, World.block_lt_of_cell? w _ hci, hci⟩
end
end Go.Proofs.Ytohfaoclemcfaaa
/- Natural numbers of many limbs: lists, values, the canonical limbs; slices that hold them. No walk. -/
namespace Go.Proofs.Ytohfaoclemcfaaa
open Go.ChangeShapes Go.WideShapes Go.RowKit
set_option linter.unusedVariables false
set_option maxRecDepth 100000

theorem ret_int {k : IntKind} {a b : Int} (h : a = b) : Ending.returned (.int k a) = .returned (.int k b) := by rw [h]

/-- What a list of limbs stands for. -/
def nval : List Int → Int
  | [] => 0
  | x :: l => x + 1000000000 * nval l
theorem nval_snoc (l : List Int) (z : Int) : nval (l ++ [z]) = nval l + 1000000000 ^ l.length * z := by
  induction l with
  | nil => simp [nval]
  | cons a l ih => simp only [List.cons_append, nval, ih, List.length_cons, Int.pow_succ]; rw [Int.mul_add, Int.mul_comm (1000000000 ^ l.length) 1000000000, Int.mul_assoc]; omega
theorem nval_append (l m : List Int) : nval (l ++ m) = nval l + 1000000000 ^ l.length * nval m := by
  induction l with
  | nil => simp [nval]
  | cons a l ih => simp only [List.cons_append, nval, ih, List.length_cons, Int.pow_succ]; rw [Int.mul_add, Int.mul_comm (1000000000 ^ l.length) 1000000000, Int.mul_assoc]; omega

/-- Each limb is from 0 to Limb - 1. -/
def lok (l : List Int) : Bool := l.all fun x => decide (0 ≤ x) && decide (x < 1000000000)
theorem lok_nil : lok [] = true := rfl
theorem lok_cons {x : Int} {l : List Int} : lok (x :: l) = true ↔ (0 ≤ x ∧ x < 1000000000) ∧ lok l = true := by simp [lok]
theorem lok_append {l m : List Int} : lok (l ++ m) = true ↔ lok l = true ∧ lok m = true := by simp [lok]
theorem lok_take {l : List Int} (h : lok l = true) (k : Nat) : lok (l.take k) = true := by
  simp only [lok, List.all_eq_true] at h ⊢; exact fun x hx => h x (List.mem_of_mem_take hx)
theorem lok_drop {l : List Int} (h : lok l = true) (k : Nat) : lok (l.drop k) = true := by
  simp only [lok, List.all_eq_true] at h ⊢; exact fun x hx => h x (List.mem_of_mem_drop hx)
theorem lok_at {l : List Int} (h : lok l = true) {k : Nat} {z : Int} (hz : l[k]? = some z) : 0 ≤ z ∧ z < 1000000000 := by
  simp only [lok, List.all_eq_true] at h
  simpa using h z (List.mem_of_getElem? hz)
theorem lok_getD {l : List Int} (h : lok l = true) (k : Nat) : 0 ≤ l.getD k 0 ∧ l.getD k 0 < 1000000000 := by
  rw [List.getD_eq_getElem?_getD]
  cases hz : l[k]? with
  | none => simp
  | some z => exact lok_at h hz
theorem nval_nonneg {l : List Int} (h : lok l = true) : 0 ≤ nval l := by
  induction l with
  | nil => simp [nval]
  | cons a l ih => rw [lok_cons] at h; have := ih h.2; simp only [nval]; omega
theorem nval_lt {l : List Int} (h : lok l = true) : nval l < 1000000000 ^ l.length := by
  induction l with
  | nil => simp [nval]
  | cons a l ih => rw [lok_cons] at h; have := ih h.2; simp only [nval, List.length_cons, Int.pow_succ]; omega
theorem nval_zeros (k : Nat) : nval (List.replicate k 0) = 0 := by
  induction k with
  | zero => rfl
  | succ k ih => simp [List.replicate_succ, nval, ih]
theorem lok_zeros (k : Nat) : lok (List.replicate k 0) = true := by
  induction k with
  | zero => rfl
  | succ k ih => rw [List.replicate_succ, lok_cons]; exact ⟨by omega, ih⟩

/-- The limbs of a number. -/
def limbs (n : Nat) : List Int := if h : n = 0 then [] else ((n % 1000000000 : Nat) : Int) :: limbs (n / 1000000000)
termination_by n
decreasing_by omega
theorem limbs_zero : limbs 0 = [] := by rw [limbs]; simp
theorem limbs_pos {n : Nat} (h : n ≠ 0) : limbs n = ((n % 1000000000 : Nat) : Int) :: limbs (n / 1000000000) := by rw [limbs]; simp [h]
theorem limbs_step {x : Int} {n : Nat} (h0 : 0 ≤ x) (h1 : x < 1000000000) (h : x.toNat + 1000000000 * n ≠ 0) : limbs (x.toNat + 1000000000 * n) = x :: limbs n := by
  rw [limbs_pos h]
  have e1 : (x.toNat + 1000000000 * n) % 1000000000 = x.toNat := by omega
  have e2 : (x.toNat + 1000000000 * n) / 1000000000 = n := by omega
  rw [e1, e2]
  congr 1
  omega
theorem lok_limbs (n : Nat) : lok (limbs n) = true := by
  induction n using Nat.strongRecOn with
  | ind n ih =>
    by_cases h : n = 0
    · subst h; rw [limbs_zero]; rfl
    · rw [limbs_pos h, lok_cons]; exact ⟨by omega, ih _ (by omega)⟩
theorem nval_limbs (n : Nat) : nval (limbs n) = n := by
  induction n using Nat.strongRecOn with
  | ind n ih =>
    by_cases h : n = 0
    · subst h; rw [limbs_zero]; rfl
    · rw [limbs_pos h, nval, ih _ (by omega)]; omega
theorem limbs_inj {m n : Nat} (h : limbs m = limbs n) : m = n := by
  have := congrArg nval h; rw [nval_limbs, nval_limbs] at this; omega

/-- Without the zeros at the end. -/
def trimL : List Int → List Int
  | [] => []
  | x :: l => if trimL l = [] ∧ x = 0 then [] else x :: trimL l
theorem trimL_snoc_zero (l : List Int) : trimL (l ++ [0]) = trimL l := by
  induction l with
  | nil => simp [trimL]
  | cons a l ih => simp only [List.cons_append, trimL, ih]
theorem trimL_snoc {l : List Int} {z : Int} (h : z ≠ 0) : trimL (l ++ [z]) = l ++ [z] := by
  induction l with
  | nil => simp [trimL, h]
  | cons a l ih => simp only [List.cons_append, trimL, ih]; simp
theorem trimL_limbs {l : List Int} (h : lok l = true) : trimL l = limbs (nval l).toNat := by
  induction l with
  | nil => simp [trimL, nval, limbs_zero]
  | cons a l ih =>
    rw [lok_cons] at h
    have hn := nval_nonneg h.2
    have ih := ih h.2
    have e : (nval (a :: l)).toNat = a.toNat + 1000000000 * (nval l).toNat := by simp only [nval]; omega
    rw [e, trimL, ih]
    by_cases hz : a.toNat + 1000000000 * (nval l).toNat = 0
    · have h1 : (nval l).toNat = 0 := by omega
      rw [hz, h1, limbs_zero, if_pos ⟨rfl, by omega⟩]
    · rw [limbs_step h.1.1 h.1.2 hz, if_neg]
      rintro ⟨h1, h2⟩
      have : (nval l).toNat = 0 := limbs_inj (h1.trans limbs_zero.symm)
      omega

/-- In normal form: limbs, the last of which is not 0. -/
def nrm (l : List Int) : Bool := lok l && (l.getLast? != some 0)
theorem trimL_nrm {l : List Int} (h : l.getLast? ≠ some 0) : trimL l = l := by
  rcases List.eq_nil_or_concat l with rfl | ⟨l', z, rfl⟩
  · rfl
  · rw [List.concat_eq_append] at h ⊢
    rw [List.getLast?_append] at h
    exact trimL_snoc (by simpa using h)
theorem nrm_limbs {l : List Int} (h : nrm l = true) : l = limbs (nval l).toNat := by
  simp only [nrm, Bool.and_eq_true, bne_iff_ne] at h
  rw [← trimL_limbs h.1, trimL_nrm h.2]
theorem nrm_trimL {l : List Int} (h : lok l = true) : nrm (trimL l) = true := by
  induction l with
  | nil => rfl
  | cons a l ih =>
    rw [lok_cons] at h
    have ih := ih h.2
    simp only [nrm, Bool.and_eq_true, bne_iff_ne] at ih ⊢
    unfold trimL
    split
    · exact ⟨rfl, by simp⟩
    · rename_i hc
      refine ⟨lok_cons.mpr ⟨h.1, ih.1⟩, ?_⟩
      cases ht : trimL l with
      | nil => simp [ht] at hc ⊢; exact hc
      | cons b m => rw [List.getLast?_cons_cons, ← ht]; exact ih.2
theorem nrm_of_limbs (n : Nat) : nrm (limbs n) = true := by
  have h := nrm_trimL (lok_limbs n)
  rw [trimL_limbs (lok_limbs n), nval_limbs] at h
  simpa using h
theorem nrm_lok {l : List Int} (h : nrm l = true) : lok l = true := by simp only [nrm, Bool.and_eq_true] at h; exact h.1
theorem pow_pos' (k : Nat) : (0 : Int) < 1000000000 ^ k := Int.pow_pos (by decide)
theorem limbs_len_le {n k : Nat} : (limbs n).length ≤ k ↔ n < 1000000000 ^ k := by
  induction k generalizing n with
  | zero =>
    by_cases h : n = 0
    · subst h; rw [limbs_zero]; simp
    · rw [limbs_pos h]; simp; omega
  | succ k ih =>
    by_cases h : n = 0
    · subst h; rw [limbs_zero]; simp [Nat.pow_pos]
    · rw [limbs_pos h, List.length_cons, Nat.succ_le_succ_iff, ih, Nat.div_lt_iff_lt_mul (by decide), Nat.pow_succ]

/-- A valid number. -/
def validB (l : List Int) : Bool := decide (l.length ≤ 48) && nrm l
theorem validB_iff {l : List Int} : validB l = true ↔ l.length ≤ 48 ∧ nrm l = true := by simp [validB]

/-- At the address lie the integers zs, in a block from lo to below hi; where lo is not 0, none of their cells is frozen. -/
def Holds (w : World) (lo hi : Nat) (A : Option Addr) (zs : List Int) : Prop :=
  ∀ k z, zs[k]? = some z → ∃ b off, A = some ⟨b, off, none⟩ ∧ (lo ≤ b ∧ (lo = 0 ∨ w.frozen? ⟨b, off + k, none⟩ = false)) ∧ b < hi ∧ w.cell? ⟨b, off + k, none⟩ = some (.int .i64 z)
/-- A slice value that holds the integers zs, in a block from lo to below hi. -/
def Sl (w : World) (lo hi : Nat) (v : Value) (zs : List Int) : Prop :=
  ∃ A c, v = .slice A zs.length c ∧ zs.length ≤ c ∧ c ≤ maxLen ∧ Holds w lo hi A zs
theorem Holds.keep {w w' : World} {lo hi : Nat} {A : Option Addr} {zs : List Int} (h : Holds w lo hi A zs) (hb : ∀ k, lo ≤ k → k < hi → w'.heap[k]? = w.heap[k]?) : Holds w' lo hi A zs := by
  intro k z hz
  obtain ⟨b, off, hA, hlo, hlt, hc⟩ := h k z hz
  exact ⟨b, off, hA, ⟨hlo.1, hlo.2.imp id fun h => (World.frozen?_of_block (w := w) (a := ⟨b, off + k, none⟩) (hb b hlo.1 hlt)).trans h⟩, hlt, (World.cell?_of_block (w := w) (a := ⟨b, off + k, none⟩) (hb b hlo.1 hlt)).trans hc⟩
theorem Holds.below {w w' : World} {B lo hi : Nat} {A : Option Addr} {zs : List Int} (h : Holds w lo hi A zs) (hb : Below B w w') (hB : hi ≤ B) : Holds w' lo hi A zs :=
  h.keep fun k _ hk => hb.block k (by omega)
theorem Holds.more {w : World} {lo hi lo' hi' : Nat} {A : Option Addr} {zs : List Int} (h : Holds w lo hi A zs) (hl : lo' ≤ lo) (hh : hi ≤ hi') : Holds w lo' hi' A zs := by
  intro k z hz
  obtain ⟨b, off, hA, hlo, hlt, hc⟩ := h k z hz
  exact ⟨b, off, hA, ⟨by omega, hlo.2.imp (by omega) id⟩, by omega, hc⟩
theorem Holds.take {w : World} {lo hi : Nat} {A : Option Addr} {zs : List Int} (h : Holds w lo hi A zs) (n : Nat) : Holds w lo hi A (zs.take n) := by
  intro k z hz
  rw [List.getElem?_take] at hz
  split at hz
  · exact h k z hz
  · cases hz
theorem Holds.nil (w : World) (lo hi : Nat) (A : Option Addr) : Holds w lo hi A [] := by intro k z hz; simp at hz

/-- A block of this call's own whose first cells are the integers zs, and no cell of which is frozen. -/
def Row (w : World) (g : Nat) (zs : List Int) : Prop :=
  ∃ cur t, w.heap[g]? = some (.cells cur t (0, 0)) ∧ ∀ (i : Nat) (z : Int), zs[i]? = some z → cur[i]? = some (Value.int .i64 z)
theorem Row.lt {w : World} {g : Nat} {zs : List Int} (h : Row w g zs) : g < w.heap.size := by
  obtain ⟨cur, t, hg, _⟩ := h; exact lt_of_block hg
theorem Row.cell {w : World} {g : Nat} {zs : List Int} (h : Row w g zs) {i : Nat} {z : Int} (hz : zs[i]? = some z) : w.cell? ⟨g, i, none⟩ = some (.int .i64 z) := by
  obtain ⟨cur, t, hg, hc⟩ := h; rw [cell_of_row w g i cur t (0, 0) hg]; exact hc i z hz
theorem Row.frozen {w : World} {g : Nat} {zs : List Int} (h : Row w g zs) (i : Nat) : w.frozen? ⟨g, i, none⟩ = false := by
  obtain ⟨cur, t, hg, hc⟩ := h; simp [World.frozen?, hg]
theorem Row.keep {w w' : World} {g : Nat} {zs : List Int} (h : Row w g zs) (hk : w'.heap[g]? = w.heap[g]?) : Row w' g zs := by
  obtain ⟨cur, t, hg, hc⟩ := h; exact ⟨cur, t, hk.trans hg, hc⟩
theorem Row.below {w w' : World} {B g : Nat} {zs : List Int} (h : Row w g zs) (hb : Below B w w') (hg : g < B) : Row w' g zs := h.keep (hb.block g hg)
theorem Row.store {w : World} {g : Nat} {zs : List Int} (h : Row w g zs) (i : Nat) (v : Int) : Row (w.setCell ⟨g, i, none⟩ (.int .i64 v)) g (zs.set i v) := by
  obtain ⟨cur, t, hg, hc⟩ := h
  refine ⟨cur.set! i (.int .i64 v), t, by simp [World.setCell, Array.getElem?_modify, hg], fun j z hz => ?_⟩
  rw [List.getElem?_set] at hz
  split at hz
  · rename_i e
    subst e
    split at hz
    · rename_i hlt
      obtain rfl : v = z := by simpa using hz
      have := hc i zs[i] (List.getElem?_eq_getElem hlt)
      have hlt2 : i < cur.size := by
        rcases Nat.lt_or_ge i cur.size with h | h
        · exact h
        · rw [Array.getElem?_eq_none h] at this; cases this
      simp [Array.set!_eq_setIfInBounds, hlt2]
    · cases hz
  · rename_i e
    simp only [Array.set!_eq_setIfInBounds, Array.getElem?_setIfInBounds]
    rw [if_neg e]; exact hc j z hz
theorem Row.other {w : World} {g : Nat} {zs : List Int} (h : Row w g zs) {p : Addr} (hp : p.block ≠ g) (u : Value) : Row (w.setCell p u) g zs :=
  h.keep (Below.heap_setCell w p u g (fun e => hp e.symm))
theorem Row.holds {w : World} {g off : Nat} {zs xs : List Int} (h : Row w g zs) (hx : ∀ k z, xs[k]? = some z → zs[off + k]? = some z) {lo hi : Nat} (h1 : lo ≤ g) (h2 : g < hi) : Holds w lo hi (some ⟨g, off, none⟩) xs :=
  fun k z hz => ⟨g, off, rfl, ⟨h1, Or.inr (h.frozen _)⟩, h2, h.cell (hx k z hz)⟩
theorem Row.take {w : World} {g : Nat} {zs : List Int} (h : Row w g zs) (n : Nat) : Row w g (zs.take n) := by
  obtain ⟨cur, t, hg, hc⟩ := h
  refine ⟨cur, t, hg, fun i z hz => ?_⟩
  rw [List.getElem?_take] at hz
  split at hz
  · exact hc i z hz
  · cases hz
/-- What a call owns (append, make) is such a block, or nil. -/
theorem row_of_owns {w : World} {base e : Nat} {v : Value} {zs : List Int} (h : w.ownsRow base e 1 v zs.length (zs.map (Value.int .i64))) :
    (v = .slice none 0 0 ∧ zs = []) ∨ ∃ g cap, v = .slice (some ⟨g, 0, none⟩) zs.length cap ∧ base ≤ g ∧ zs.length ≤ cap ∧ cap ≤ maxLen ∧ Row w g zs := by
  obtain ⟨h1, ⟨rfl, h2⟩ | ⟨g, cap, cur, rfl, h2, h3, h4, h5, h6, h7⟩⟩ := h
  · exact Or.inl ⟨rfl, List.eq_nil_of_length_eq_zero h2⟩
  · refine Or.inr ⟨g, cap, rfl, h2, h4, h5, cur, e, h3, fun i z hz => ?_⟩
    rw [Nat.mul_one] at h7
    have hi : i < zs.length := by
      rcases Nat.lt_or_ge i zs.length with h | h
      · exact h
      · rw [List.getElem?_eq_none h] at hz; cases hz
    have e1 : (cur.toList.take zs.length)[i]? = some (.int .i64 z) := by rw [h7, List.getElem?_map, hz]; rfl
    rw [List.getElem?_take, if_pos hi, Array.getElem?_toList] at e1
    first | done | exact e1
theorem made_zeros (n : Nat) : (madeCells (Value.int .i64 0).cells (n * 1)).toList = (List.replicate n (0 : Int)).map (Value.int .i64) := by
  have e : ∀ x : Nat, (Value.int .i64 0).cells[x % (Value.int .i64 0).cells.size]! = Value.int .i64 0 := by intro x; simp [Value.cells, Nat.mod_one]
  unfold madeCells
  simp only [e, Nat.mul_one, Array.toList_map, Array.toList_range, List.map_replicate]
  apply List.ext_getElem?
  intro i
  simp only [List.getElem?_map, List.getElem?_replicate]
  split
  · rename_i h; rw [List.getElem?_range h]; rfl
  · rename_i h; rw [List.getElem?_eq_none (by simp; omega)]; rfl
theorem sl_of_owns {w : World} {base e : Nat} {v : Value} {zs : List Int} (h : w.ownsRow base e 1 v zs.length (zs.map (Value.int .i64))) : Sl w base w.heap.size v zs := by
  rcases row_of_owns h with ⟨rfl, rfl⟩ | ⟨g, cap, rfl, h1, h2, h3, h4⟩
  · exact ⟨none, 0, rfl, Nat.le_refl _, by unfold maxLen; omega, fun k z hz => by simp at hz⟩
  · exact ⟨_, cap, rfl, h2, h3, h4.holds (fun k z hz => by simpa using hz) h1 h4.lt⟩
theorem own_block_ge {w : World} {base e size n : Nat} {v : Value} {xs : List Value} (h : w.ownsRow base e size v n xs) : ∀ k, v.ownBlock = some k → base ≤ k := by
  obtain ⟨h1, ⟨rfl, h2⟩ | ⟨g, cap, cur, rfl, h2, _⟩⟩ := h
  · intro k hk; cases hk
  · intro k hk; obtain rfl : g = k := by simpa [Value.ownBlock] using hk
    exact h2
theorem own_snoc {w : World} {base e : Nat} {v : Value} {ds : List Int} {x : Int} (h : w.ownsRow base e 1 v (ds.length + 1) (ds.map (Value.int .i64) ++ [.int .i64 x])) :
    w.ownsRow base e 1 v (ds ++ [x]).length ((ds ++ [x]).map (Value.int .i64)) := by
  rw [List.length_append, List.map_append]; exact h
end Go.Proofs.Ytohfaoclemcfaaa
/- Contracts of nat.split, nat.ofWord, nat.word. -/
namespace Go.Proofs.Ytohfaoclemcfaaa
open Go.ChangeShapes Go.WideShapes Go.RowKit
set_option linter.unusedVariables false
set_option maxRecDepth 100000

theorem info_int : (Try.prog.info? 3).map (fun i => (i.zero, i.size, i.bytes)) = some (some (.int .i64 0), 1, 8) := by kernel_rfl

theorem tdiv_tmod_pos {n : Int} (h : ¬ n.tmod 1000000000 < 0) : n.tmod 1000000000 = n % 1000000000 ∧ n.tdiv 1000000000 = n / 1000000000 := by
  have e := Int.tdiv_mul_add_tmod n 1000000000
  have b : n.tmod 1000000000 < 1000000000 := Int.tmod_lt_of_pos _ (by decide)
  omega
theorem tdiv_tmod_neg {n : Int} (h : n.tmod 1000000000 < 0) : n.tmod 1000000000 + 1000000000 = n % 1000000000 ∧ n.tdiv 1000000000 - 1 = n / 1000000000 := by
  have e := Int.tdiv_mul_add_tmod n 1000000000
  have b : -1000000000 < n.tmod 1000000000 := by
    have := Int.lt_tmod_of_pos n (b := 1000000000) (by decide); omega
  omega
theorem ret_two {k l : IntKind} {a b c d : Int} (h : a = c) (h2 : b = d) : Ending.returned (.tuple #[.int k a, .int l b]) = .returned (.tuple #[.int k c, .int l d]) := by rw [h, h2]

theorem nat_split (n : Int) (w : World) (h1 : -9223372036854775808 ≤ n) (h2 : n ≤ 9223372036854775807) :
    Calls Try.prog 102 #[.int .i64 n] w fun e w' => e = .returned (.tuple #[.int .i64 (n % 1000000000), .int .i64 (n / 1000000000)]) ∧ w = w' := by
  have b1 : -9223372037 ≤ n.tdiv 1000000000 := by
    have e := Int.tdiv_mul_add_tmod n 1000000000
    have b : n.tmod 1000000000 < 1000000000 := Int.tmod_lt_of_pos _ (by decide)
    omega
  have b2 : n.tdiv 1000000000 ≤ 9223372037 := by
    have e := Int.tdiv_mul_add_tmod n 1000000000
    have b := Int.lt_tmod_of_pos n (b := 1000000000) (by decide)
    omega
  have b3 : n.tmod 1000000000 < 1000000000 := Int.tmod_lt_of_pos _ (by decide)
  have b4 : -1000000000 < n.tmod 1000000000 := by
    have := Int.lt_tmod_of_pos n (b := 1000000000) (by decide); omega
  by_cases h : n.tmod 1000000000 < 0
  · obtain ⟨e1, e2⟩ := tdiv_tmod_neg h
    have E1 := Lib.hid e1
    have E2 := Lib.hid e2
    clear e1 e2
    go_enter Try.func102, Try.ntmps102
    go_wp2
    go_ret2
    exact ⟨ret_two E1.out E2.out, rfl⟩
  · obtain ⟨e1, e2⟩ := tdiv_tmod_pos h
    have E1 := Lib.hid e1
    have E2 := Lib.hid e2
    have h' : 0 ≤ n.tmod 1000000000 := by omega
    clear e1 e2
    go_enter Try.func102, Try.ntmps102
    go_wp2
    go_ret2
    exact ⟨ret_two E1.out E2.out, rfl⟩

theorem tdiv_nonneg' {n : Int} (h : 0 ≤ n) : n.tdiv 1000000000 = n / 1000000000 := Int.tdiv_eq_ediv_of_nonneg h
theorem tmod_nonneg' {n : Int} (h : 0 ≤ n) : n.tmod 1000000000 = n % 1000000000 := Int.tmod_eq_emod_of_nonneg h
theorem limbs_round {m : Int} (h : 0 < m) : limbs m.toNat = [m % 1000000000] ++ limbs (m / 1000000000).toNat := by
  rw [limbs_pos (by omega), List.singleton_append]
  have e : m.toNat / 1000000000 = (m / 1000000000).toNat := by omega
  rw [e]; congr 1; omega

set_option maxHeartbeats 800000 in
theorem nat_ofWord (n : Int) (w : World) (h1 : -9223372036854775808 ≤ n) (h2 : n ≤ 9223372036854775807) :
    Calls Try.prog 68 #[.int .i64 n] w fun e w' => ∃ v, e = .returned v ∧ Sl w' w.heap.size w'.heap.size v (limbs n.toNat) ∧ Below w.heap.size w w' := by
  obtain ⟨i0, hi, hz0, hz1, hz2⟩ := info_parts info_int
  have hbig : (limbs n.toNat).length ≤ 3 := limbs_len_le.mpr (by omega)
  have HB := Lib.hid hbig
  clear hbig
  go_enter Try.func68, Try.ntmps68
  go_wp2_with fail
  go_loopw [0, 3] (fun i v wr => ∃ m ds, i = .int .i64 m ∧ m ≤ n ∧ limbs n.toNat = ds ++ limbs m.toNat ∧ wr.ownsRow w.heap.size 3 1 v ds.length (ds.map (Value.int .i64)) ∧ Below w.heap.size w wr) (fun i _ _ => (intOf i).toNat)
  case atStart => exact ⟨n, [], rfl, Int.le_refl _, rfl, World.ownsRow_nil _ _ _ _, Below.refl _ _⟩
  case round =>
    obtain ⟨m, ds, rfl, hm, hds, hown, hbel⟩ := hrel
    have hlen : ds.length ≤ 3 := by have := HB.out; rw [hds] at this; simp at this; omega
    have HD := Lib.hid hds
    clear hds
    by_cases hp : 0 < m
    · have hq := tdiv_nonneg' (n := m) (by omega)
      have hr := tmod_nonneg' (n := m) (by omega)
      have hd1 : m / 1000000000 ≤ 9223372037 := by omega
      have hd2 : 0 ≤ m / 1000000000 := by omega
      go_wp2_with (first
        | (at_builtin; refine wpList_append_own _ rfl _ _ 25 rfl w.heap.size 3 i0 (.int .i64 0) 1 8 Try.underlying25 hi hz0 hz1 hz2 rfl (by decide) _ _ _ rfl (hown.alloc _) ⟨wr.heap.size, 0, none⟩ 1 1 [.int .i64 (m % 1000000000)] rfl rfl ?c1 ?c2 ?c3 ?c4 ?c5 ?_)
        | fail)
      case c1 =>
        intro j u hj
        match j, hj with
        | 0, hj => simp at hj; subst hj; simp [Addr.add]
      case c2 => intro u hu; simp at hu; subst hu; rfl
      case c3 => unfold maxLen; omega
      case c4 => omega
      case c5 => have := hbel.size; simp; omega
      · intro v' w1 hown' hgrow _
        have hb1 : Below w.heap.size w w1 := (hbel.alloc hbel.size _).grown hgrow (by have := hbel.size; simp; omega) (own_block_ge hown)
        clear hown hgrow hbel
        go_wp2_with fail
        go_roundw
        case rel =>
          refine ⟨m / 1000000000, ds ++ [m % 1000000000], rfl, by omega, ?_, own_snoc hown', hb1⟩
          rw [HD.out, limbs_round hp, List.append_assoc]
        case measure => simp [intOf]; omega
    · have hds := HD.out
      have e0 : m.toNat = 0 := by omega
      rw [e0, limbs_zero, List.append_nil] at hds
      have HD2 := Lib.hid hds
      clear hds
      go_wp2_with fail
      go_ret
      rw [HD2.out]
      exact ⟨_, rfl, sl_of_owns hown, hbel⟩

/-- What the function 'word' makes of limbs. -/
theorem nval_drop_step {l : List Int} {k : Nat} {z : Int} (h : l[k]? = some z) : nval (l.drop k) = z + 1000000000 * nval (l.drop (k + 1)) := by
  have hk : k < l.length := by
    rcases Nat.lt_or_ge k l.length with h1 | h1
    · exact h1
    · rw [List.getElem?_eq_none h1] at h; cases h
  rw [List.drop_eq_getElem_cons hk, nval]
  rw [List.getElem?_eq_getElem hk] at h
  cases h; rfl
theorem nval_small {l : List Int} (h : lok l = true) (h2 : l.length ≤ 2) : 0 ≤ nval l ∧ nval l < 1000000000000000000 := by
  have a := nval_nonneg h
  have b := nval_lt h
  have c : (1000000000 : Int) ^ l.length ≤ 1000000000 ^ 2 := by
    match l, h2 with
    | [], _ => decide
    | [x], _ => show (1000000000 : Int) ^ 1 ≤ _; decide
    | [x, y], _ => exact Int.le_refl _
  have e : (1000000000 : Int) ^ 2 = 1000000000000000000 := by decide
  omega
theorem nval_drop_small {l : List Int} (h : lok l = true) (h2 : l.length ≤ 2) {k : Nat} (hk : 0 < k) : 0 ≤ nval (l.drop k) ∧ nval (l.drop k) < 1000000000 := by
  have a := nval_nonneg (lok_drop h k)
  have b := nval_lt (lok_drop h k)
  have hl : (l.drop k).length ≤ 1 := by rw [List.length_drop]; omega
  have c : (1000000000 : Int) ^ (l.drop k).length ≤ 1000000000 := by
    match (l.drop k), hl with
    | [], _ => decide
    | [x], _ => show (1000000000 : Int) ^ 1 ≤ _; decide
  omega

set_option maxHeartbeats 400000 in
theorem nat_word (zs : List Int) (A : Option Addr) (c : Nat) (lo hi : Nat) (w : World) (hS : Holds w lo hi A zs) (hk : lok zs = true) (hlen : zs.length ≤ 2) :
    Calls Try.prog 90 #[.slice A zs.length c] w fun e w' => e = .returned (.int .i64 (nval zs)) ∧ w = w' := by
  have HS := Lib.hid hS
  have HK := Lib.hid hk
  clear hS hk
  go_enter Try.func90, Try.ntmps90
  go_wp2_with fail
  go_loop [3, 7] (fun v i => ∃ k : Nat, k ≤ zs.length ∧ i = .int .i64 k ∧ v = .int .i64 (nval (zs.drop (zs.length - k)))) (fun _ i => zs.length - (intOf i).toNat)
  case atStart => exact ⟨0, Nat.zero_le _, rfl, by simp [nval]⟩
  case round =>
    obtain ⟨k, hk, rfl, rfl⟩ := hrel
    rcases Nat.lt_or_ge k zs.length with hlt | hge
    · obtain ⟨z, hz⟩ : ∃ z, zs[zs.length - 1 - k]? = some z := ⟨_, List.getElem?_eq_getElem (by omega)⟩
      obtain ⟨b, off, rfl, _, _, hcell⟩ := HS.out _ z hz
      have hst := nval_drop_step hz
      have hzb := lok_at HK.out hz
      have hsm := nval_drop_small HK.out hlen (k := zs.length - k) (by omega)
      have e1 : zs.length - 1 - k + 1 = zs.length - k := by omega
      rw [e1] at hst
      have e2 : (zs.length : Int) - 1 - k = ((zs.length - 1 - k : Nat) : Int) := by omega
      have HST := Lib.hid hst
      have HZ := Lib.hid hz
      obtain ⟨N, hN⟩ : ∃ N, N = nval (zs.drop (zs.length - k)) := ⟨_, rfl⟩
      rw [← hN] at hsm ⊢
      have HN := Lib.hid hN
      have E1 := Lib.hid e1
      obtain ⟨s1, s2⟩ := hsm
      obtain ⟨s3, s4⟩ := hzb
      have hix : zs.length - 1 - k < zs.length := by omega
      obtain ⟨j, hj⟩ : ∃ j, j = zs.length - 1 - k := ⟨_, rfl⟩
      rw [← hj] at hcell e2 hix
      have HJ := Lib.hid hj
      clear hst hz hN e1 hj
      go_wp2_with fail
      go_round
      case rel =>
        refine ⟨k + 1, by omega, by go_num, ?_⟩
        have h1 := HST.out
        have h2 := HN.out
        have e3 : zs.length - (k + 1) = zs.length - 1 - k := by omega
        rw [e3, h1, ← h2]
        exact congrArg _ (by omega)
      case measure => simp [intOf]; omega
    · obtain rfl : k = zs.length := by omega
      go_wp2_with fail
      go_ret
      exact ⟨ret_int (by simp), rfl⟩
end Go.Proofs.Ytohfaoclemcfaaa
/-
  DERIVED: THE SHELF's CONTRACTS AT THIS DUMP, IN PLAIN WORDS (tools/lay-plain.mjs out of 'TryShelf.lean', which tools/lay-shelf.mjs wrote): THE SAME DECLARATIONS UNDER THE SAME NAMES: 'import', 'namespace', 'open', 'def', 'theorem' AND NOTHING ELSE: no command of the shelf's: FOR A HAND-IN. Each laying: the table of numbers ('.._ren') and one theorem, a field a fact of the dump's own or the kernel's comparison; each contract: ONE APPLICATION.
-/
namespace Go.Proofs
open Go.Shelf
def Try.lays215_ren : Go.Shelf.Ren := ⟨fun | 215 => 105 | n => n, fun | 3 => 3 | 4 => 4 | n => n, fun | n => n⟩
theorem Try.lays215 : Go.Proofs.Lays.n215 Try.prog Try.lays215_ren := {
  mixed := by kernel_rfl
  f215 := Try.func105.trans (congrArg some (by kernel_rfl))
  t3 := Try.underlying3
  a3 := Try.isAgg3
  z3 := Try.sizeOf3
  v3 := Try.zeroValue3
  t4 := Try.underlying4
  a4 := Try.isAgg4
  z4 := Try.sizeOf4
  v4 := Try.zeroValue4 }
open Go.RowKit in
/-- cmp.isNaN at int: 'x != x': false. (LAID: no walk: one application.) -/
theorem Try.cmp_isNaN_int (x : Int) (w : World) :
    Calls Try.prog 105 #[.int .i64 x] w fun e w' => e = .returned (.bool false) ∧ w' = w := Any.cmp_isNaN_int Try.lays215 x w
def Try.lays122_ren : Go.Shelf.Ren := ⟨fun | 122 => 104 | 215 => 105 | n => n, fun | 3 => 3 | 4 => 4 | n => n, fun | n => n⟩
theorem Try.lays122 : Go.Proofs.Lays.n122 Try.prog Try.lays122_ren := {
  mixed := by kernel_rfl
  f122 := Try.func104.trans (congrArg some (by kernel_rfl))
  f215 := Try.func105.trans (congrArg some (by kernel_rfl))
  t3 := Try.underlying3
  a3 := Try.isAgg3
  z3 := Try.sizeOf3
  v3 := Try.zeroValue3
  t4 := Try.underlying4
  a4 := Try.isAgg4
  z4 := Try.sizeOf4
  v4 := Try.zeroValue4 }
open Go.RowKit in
/-- cmp.Compare at int: "Compare returns -1 if x is less than y, 0 if x equals y, +1 if x is greater than y.": IT RETURNS 'Lib.compareInt x y'; the world is as it was. (LAID: no walk: one application.) -/
theorem Try.cmp_Compare_int (x y : Int) (w : World) :
    Calls Try.prog 104 #[.int .i64 x, .int .i64 y] w fun e w' => e = .returned (.int .i64 (Lib.compareInt x y)) ∧ w' = w := Any.cmp_Compare_int Try.lays122 x y w
def Try.laysNm237_ren : Go.Shelf.Ren := ⟨fun | 37 => 105 | n => n, fun | 3 => 3 | 4 => 4 | n => n, fun | n => n⟩
theorem Try.laysNm237 : Go.Proofs.Lays2.n37 Try.prog Try.laysNm237_ren := {
  mixed := by kernel_rfl
  f37 := Try.func105.trans (congrArg some (by kernel_rfl))
  t3 := Try.underlying3
  a3 := Try.isAgg3
  z3 := Try.sizeOf3
  v3 := Try.zeroValue3
  t4 := Try.underlying4
  a4 := Try.isAgg4
  z4 := Try.sizeOf4
  v4 := Try.zeroValue4 }
open Go.RowKit Go.Lib in
/-- cmp.isNaN[int]: 'x != x': false. (LAID: no walk: one application.) -/
theorem Try.cmp_isNaN_int2 (x : Int) (w : World) :
    Calls Try.prog 105 #[.int .i64 x] w fun e w' => e = .returned (.bool false) ∧ w' = w := Any.cmp_isNaN_int2 Try.laysNm237 x w
end Go.Proofs
/- Contracts of nat.trimmed, nat.limited, nat.Of, nat.compare. -/
namespace Go.Proofs.Ytohfaoclemcfaaa
open Go.ChangeShapes Go.WideShapes Go.RowKit
set_option linter.unusedVariables false
set_option maxRecDepth 100000

theorem trimL_prefix (l : List Int) : ∃ m, l = trimL l ++ m := by
  induction l with
  | nil => exact ⟨[], rfl⟩
  | cons a l ih =>
    obtain ⟨m, hm⟩ := ih
    unfold trimL
    split
    · exact ⟨a :: l, rfl⟩
    · exact ⟨m, by rw [List.cons_append, ← hm]⟩
theorem trimL_len_le (l : List Int) : (trimL l).length ≤ l.length := by
  obtain ⟨m, hm⟩ := trimL_prefix l
  have := congrArg List.length hm
  rw [List.length_append] at this; omega
theorem trimL_eq_take (l : List Int) : l.take (trimL l).length = trimL l := by
  obtain ⟨m, hm⟩ := trimL_prefix l
  have e : (trimL l ++ m).take (trimL l).length = trimL l := by simp
  rw [← hm] at e; exact e
theorem trim_step {zs : List Int} {k : Nat} {z : Int} (hz : zs[k]? = some z) : zs.take (k + 1) = zs.take k ++ [z] := by
  rw [List.take_add_one, hz]; rfl

set_option maxHeartbeats 400000 in
theorem nat_trimmed (zs : List Int) (A : Option Addr) (c : Nat) (lo hi : Nat) (w : World) (hS : Holds w lo hi A zs) (hc : zs.length ≤ c) (hm : c ≤ maxLen) :
    Calls Try.prog 93 #[.slice A zs.length c] w fun e w' => e = .returned (.slice A (trimL zs).length c) ∧ w = w' := by
  have HS := Lib.hid hS
  have hm' : c ≤ 9223372036854775807 := hm
  clear hS hm
  go_enter Try.func93, Try.ntmps93
  go_wp2_with fail
  go_loop [0] (fun v => ∃ k : Nat, k ≤ zs.length ∧ v = .slice A k c ∧ trimL (zs.take k) = trimL zs) (fun v => match v with | .slice _ n _ => n | _ => 0)
  case atStart => exact ⟨zs.length, Nat.le_refl _, rfl, by rw [List.take_length]⟩
  case round =>
    obtain ⟨k, hk, rfl, ht⟩ := hrel
    have HT := Lib.hid ht
    clear ht
    rcases Nat.eq_zero_or_pos k with rfl | hp
    · go_wp2_with fail
      go_ret
      have h := HT.out
      rw [← h, List.take_zero]
      exact ⟨rfl, rfl⟩
    · obtain ⟨k, rfl⟩ : ∃ j, k = j + 1 := ⟨k - 1, by omega⟩
      obtain ⟨z, hz⟩ : ∃ z, zs[k]? = some z := ⟨_, List.getElem?_eq_getElem (by omega)⟩
      obtain ⟨b, off, rfl, _, _, hcell⟩ := HS.out _ z hz
      have HZ := Lib.hid hz
      clear hz
      have e2 : ((k + 1 : Nat) : Int) - 1 = k := by omega
      have hkc : k ≤ c := by omega
      by_cases h0 : z = 0
      · subst h0
        go_wp2_with fail
        go_round
        case rel =>
          refine ⟨k, by omega, rfl, ?_⟩
          rw [← HT.out, trim_step HZ.out, trimL_snoc_zero]
        case measure => show k < k + 1; omega
      · have H0 := Lib.hid h0
        go_wp2_with fail
        go_ret
        have h := HT.out
        have e := trim_step HZ.out
        rw [e, trimL_snoc H0.out, ← e] at h
        rw [← h, List.length_take, Nat.min_eq_left hk]
        exact ⟨rfl, rfl⟩

/-- A number that is returned: the slice and the error. -/
def fitV (v : Value) (n : Nat) : Value := if n < 1000000000 ^ 48 then v else .slice none 0 0
def fitE (n : Nat) : Int := if n < 1000000000 ^ 48 then 0 else 2
def fitN (n : Nat) : Nat := if n < 1000000000 ^ 48 then n else 0

set_option maxHeartbeats 400000 in
theorem nat_limited (zs : List Int) (A : Option Addr) (c : Nat) (lo hi : Nat) (w : World) (hS : Holds w lo hi A zs) (hc : zs.length ≤ c) (hm : c ≤ maxLen) (hz : lok zs = true) :
    Calls Try.prog 96 #[.slice A zs.length c] w fun e w' => ∃ v, e = .returned (.tuple #[v, .int .i64 (fitE (nval zs).toNat)]) ∧ Sl w lo hi v (limbs (fitN (nval zs).toNat)) ∧ w = w' := by
  have hm' : c ≤ 9223372036854775807 := hm
  have hlen := trimL_len_le zs
  have hlm : trimL zs = limbs (nval zs).toNat := trimL_limbs hz
  have hpre := trimL_eq_take zs
  have HS := Lib.hid hS
  by_cases hfit : (trimL zs).length ≤ 48
  · have hf : (nval zs).toNat < 1000000000 ^ 48 := limbs_len_le.mp (by rw [← hlm]; exact hfit)
    have HF := Lib.hid hf
    have HL := Lib.hid hlm
    have HP := Lib.hid hpre
    have hd : decide ((48 : Int) < ((trimL zs).length : Int)) = false := decide_eq_false (by omega)
    clear hf hlm hpre hm hz hS
    go_enter Try.func96, Try.ntmps96
    go_wp2_with (go_at_call 93; refine (nat_trimmed zs A c lo hi w HS.out hc hm').mono ?_; rintro e w' ⟨rfl, rfl⟩)
    go_ret2
    have hsl : Sl w lo hi (.slice A (trimL zs).length c) (trimL zs) := ⟨A, c, rfl, by omega, hm', by rw [← HP.out]; exact (HS.out.take _)⟩
    refine ⟨_, ?_, by rw [fitN, if_pos HF.out, ← HL.out]; exact hsl, rfl⟩
    rw [fitE, if_pos HF.out]; rfl
  · have hf : ¬ (nval zs).toNat < 1000000000 ^ 48 := fun h => hfit (by rw [hlm]; exact limbs_len_le.mpr h)
    have HF := Lib.hid hf
    have hd : (48 : Int) < ((trimL zs).length : Int) := by omega
    clear hf hlm hpre hm hz hS
    go_enter Try.func96, Try.ntmps96
    go_wp2_with (go_at_call 93; refine (nat_trimmed zs A c lo hi w HS.out hc hm').mono ?_; rintro e w' ⟨rfl, rfl⟩)
    go_ret2
    refine ⟨_, ?_, by rw [fitN, if_neg HF.out, limbs_zero]; exact ⟨none, 0, rfl, Nat.le_refl _, by unfold maxLen; omega, fun k z hz => by simp at hz⟩, rfl⟩
    rw [fitE, if_neg HF.out]; rfl

/-- Of. -/
def ofE (n : Int) : Int := if n < 0 then 1 else 0
theorem nat_Of (n : Int) (w : World) (h1 : -9223372036854775808 ≤ n) (h2 : n ≤ 9223372036854775807) :
    Calls Try.prog 53 #[.int .i64 n] w fun e w' => ∃ v, e = .returned (.tuple #[v, .int .i64 (ofE n)]) ∧ Sl w' w.heap.size w'.heap.size v (limbs n.toNat) ∧ Below w.heap.size w w' := by
  by_cases hn : n < 0
  · go_enter Try.func53, Try.ntmps53
    go_wp2
    go_ret2
    have e : n.toNat = 0 := by omega
    refine ⟨_, ?_, by rw [e, limbs_zero]; exact ⟨none, 0, rfl, Nat.le_refl _, by unfold maxLen; omega, fun k z hz => by simp at hz⟩, Below.refl _ _⟩
    rw [ofE, if_pos (by omega)]; rfl
  · go_enter Try.func53, Try.ntmps53
    go_wp2_with (go_at_call 68; refine (nat_ofWord n w h1 h2).mono ?_; rintro e w' ⟨v, rfl, hsl, hb⟩)
    go_ret2
    refine ⟨_, ?_, hsl, hb⟩
    rw [ofE, if_neg (by omega)]; rfl
end Go.Proofs.Ytohfaoclemcfaaa
/- The contract of nat.addTimes. -/
namespace Go.Proofs.Ytohfaoclemcfaaa
open Go.ChangeShapes Go.WideShapes Go.RowKit
set_option linter.unusedVariables false
set_option maxRecDepth 100000

/-- Of the world, block g alone has turned. -/
structure Only (g : Nat) (w w' : World) : Prop where
  os : w'.os = w.os
  tape : w'.tape = w.tape
  output : w'.output = w.output
  size : w'.heap.size = w.heap.size
  block : ∀ k, k ≠ g → w'.heap[k]? = w.heap[k]?
theorem Only.refl (g : Nat) (w : World) : Only g w w := ⟨rfl, rfl, rfl, rfl, fun _ _ => rfl⟩
theorem Only.trans {g : Nat} {a b c : World} (h : Only g a b) (k : Only g b c) : Only g a c :=
  ⟨k.os.trans h.os, k.tape.trans h.tape, k.output.trans h.output, k.size.trans h.size, fun i hi => (k.block i hi).trans (h.block i hi)⟩
theorem Only.setCell {g : Nat} {a w : World} (h : Only g a w) {p : Addr} (hp : p.block = g) (u : Value) : Only g a (w.setCell p u) :=
  h.trans ⟨rfl, rfl, rfl, by simp [World.setCell], fun k hk => Below.heap_setCell _ _ _ _ (by omega)⟩
theorem Only.toBelow {g B : Nat} {w w' : World} (h : Only g w w') (hB : B ≤ g) : Below B w w' :=
  ⟨h.os, h.tape, h.output, by rw [h.size]; omega, fun k hk => h.block k (by omega)⟩
theorem Only.holds {g : Nat} {w w' : World} (h : Only g w w') {lo hi : Nat} {A : Option Addr} {zs : List Int} (hS : Holds w lo hi A zs) (hg : g < lo ∨ hi ≤ g) : Holds w' lo hi A zs :=
  hS.keep fun k h1 h2 => h.block k (by omega)
theorem Only.row {g k : Nat} {w w' : World} (h : Only g w w') {zs : List Int} (hR : Row w k zs) (hk : k ≠ g) : Row w' k zs := hR.keep (h.block k hk)

/-- D laid over Z from place off on. -/
def laid (Z : List Int) (off : Nat) (D : List Int) : List Int := Z.take off ++ (D ++ Z.drop (off + D.length))
theorem laid_nil (Z : List Int) (off : Nat) : laid Z off [] = Z := by simp [laid]
theorem laid_length {Z : List Int} {off : Nat} {D : List Int} (h : off + D.length ≤ Z.length) : (laid Z off D).length = Z.length := by simp [laid]; omega
theorem laid_next {Z : List Int} {off : Nat} {D : List Int} (h : off + D.length ≤ Z.length) (j : Nat) : (laid Z off D)[off + D.length + j]? = Z[off + D.length + j]? := by
  unfold laid
  rw [List.getElem?_append_right (by rw [List.length_take]; omega), List.length_take, Nat.min_eq_left (by omega), List.getElem?_append_right (by omega), List.getElem?_drop]
  congr 1; omega
theorem laid_before {Z : List Int} {off : Nat} {D : List Int} (h : off + D.length ≤ Z.length) {j : Nat} (hj : j < off) : (laid Z off D)[j]? = Z[j]? := by
  unfold laid
  rw [List.getElem?_append_left (by rw [List.length_take]; omega), List.getElem?_take, if_pos hj]
theorem laid_in {Z : List Int} {off : Nat} {D : List Int} (h : off + D.length ≤ Z.length) {j : Nat} (hj : j < D.length) : (laid Z off D)[off + j]? = D[j]? := by
  unfold laid
  rw [List.getElem?_append_right (by rw [List.length_take]; omega), List.length_take, Nat.min_eq_left (by omega), List.getElem?_append_left (by omega)]
  congr 1; omega
theorem laid_set {Z : List Int} {off : Nat} {D : List Int} (h : off + D.length < Z.length) (v : Int) : (laid Z off D).set (off + D.length) v = laid Z off (D ++ [v]) := by
  unfold laid
  have e1 : (Z.take off).length = off := by rw [List.length_take]; omega
  rw [List.set_append_right _ _ (by omega), e1, Nat.add_sub_cancel_left, List.set_append_right _ _ (Nat.le_refl _), Nat.sub_self]
  rw [List.length_append, List.append_assoc]
  congr 2
  rw [List.drop_eq_getElem_cons (by omega)]
  rfl

/-- The limbs of s + n * a + c; what is carried into the last one stays there. -/
def addT : List Int → List Int → Int → Int → List Int
  | [], _, _, _ => []
  | [z], _, _, c => [z + c]
  | x :: y :: s, a, n, c => (c + x + n * a.headD 0) % 1000000000 :: addT (y :: s) a.tail n ((c + x + n * a.headD 0) / 1000000000)
theorem addT_length (s : List Int) : ∀ (a : List Int) (n c : Int), (addT s a n c).length = s.length := by
  induction s with
  | nil => intro a n c; rfl
  | cons x s ih =>
    intro a n c
    cases s with
    | nil => rfl
    | cons y s => rw [addT, List.length_cons, ih]; rfl
theorem head_tail (a : List Int) : nval a = a.headD 0 + 1000000000 * nval a.tail := by cases a <;> simp [nval]
theorem addT_val (s : List Int) : ∀ (a : List Int) (n c : Int), a.length < s.length → nval (addT s a n c) = nval s + n * nval a + c := by
  induction s with
  | nil => intro a n c h; simp at h
  | cons x s ih =>
    intro a n c h
    cases s with
    | nil => obtain rfl : a = [] := List.eq_nil_of_length_eq_zero (by simp at h; simp [h]); simp [addT, nval]
    | cons y s =>
      have e := head_tail a
      have i := ih a.tail n ((c + x + n * a.headD 0) / 1000000000) (by simp at h ⊢; omega)
      rw [addT, nval, i, e, nval.eq_2 x, Int.mul_add n]
      have e2 : n * (1000000000 * nval a.tail) = 1000000000 * (n * nval a.tail) := by rw [Int.mul_left_comm]
      rw [e2]
      obtain ⟨p, hp⟩ : ∃ p, p = n * a.headD 0 := ⟨_, rfl⟩
      obtain ⟨q, hq⟩ : ∃ q, q = n * nval a.tail := ⟨_, rfl⟩
      obtain ⟨r, hr⟩ : ∃ r, r = nval (y :: s) := ⟨_, rfl⟩
      rw [← hp, ← hq, ← hr]
      omega
theorem addT_lok (s : List Int) : ∀ (a : List Int) (n c : Int), lok (addT s a n c).dropLast = true := by
  induction s with
  | nil => intro a n c; rfl
  | cons x s ih =>
    intro a n c
    cases s with
    | nil => rfl
    | cons y s =>
      rw [addT]
      have hl := addT_length (y :: s) a.tail n ((c + x + n * a.headD 0) / 1000000000)
      rw [List.dropLast_cons_of_ne_nil (by intro h; rw [h] at hl; simp at hl), lok_cons]
      exact ⟨by omega, ih _ _ _⟩
theorem addT_step {S A : List Int} {k : Nat} {x : Int} (n c : Int) (hx : S[k]? = some x) (hk : k + 1 < S.length) :
    addT (S.drop k) (A.drop k) n c = (c + x + n * A.getD k 0) % 1000000000 :: addT (S.drop (k + 1)) (A.drop (k + 1)) n ((c + x + n * A.getD k 0) / 1000000000) := by
  have hk1 : k < S.length := by omega
  rw [List.getElem?_eq_getElem hk1] at hx
  cases hx
  rw [List.drop_eq_getElem_cons hk1, List.drop_eq_getElem_cons hk, addT, ← List.drop_eq_getElem_cons hk]
  have e1 : (A.drop k).headD 0 = A.getD k 0 := by
    rw [List.headD_eq_head?_getD, List.head?_drop, List.getD_eq_getElem?_getD]
  have e2 : (A.drop k).tail = A.drop (k + 1) := by rw [List.tail_drop]
  rw [e1, e2]
theorem mul_bd {n a : Int} (h1 : -1000000000 < n) (h2 : n < 1000000000) (h3 : 0 ≤ a) (h4 : a < 1000000000) : -999999998000000001 ≤ n * a ∧ n * a ≤ 999999998000000001 := by
  have e1 : n * a ≤ 999999999 * a := Int.mul_le_mul_of_nonneg_right (by omega) h3
  have e2 : (-999999999) * a ≤ n * a := Int.mul_le_mul_of_nonneg_right (by omega) h3
  omega

set_option maxHeartbeats 800000 in
theorem nat_addTimes (Z S xs : List Int) (n : Int) (g off c c2 lo hi : Nat) (A : Option Addr) (w : World)
    (hR : Row w g Z) (hZ : off + S.length ≤ Z.length) (hS : ∀ j, j < S.length → Z[off + j]? = S[j]?) (hA : Holds w lo hi A xs) (hg : g < lo ∨ hi ≤ g)
    (hlen : xs.length < S.length) (hSl : S.length ≤ 1000000) (hSk : lok S.dropLast = true) (hlast : ∀ z, S[S.length - 1]? = some z → -4000000000000000000 < z ∧ z < 4000000000000000000)
    (hxk : lok xs = true) (n1 : -1000000000 < n) (n2 : n < 1000000000) :
    Calls Try.prog 95 #[.slice (some ⟨g, off, none⟩) S.length c, .slice A xs.length c2, .int .i64 n] w
      fun e w' => e = .returned (.tuple #[]) ∧ Row w' g (laid Z off (addT S xs n 0)) ∧ Only g w w' := by
  have HR := Lib.hid hR
  have HS := Lib.hid hS
  have HA := Lib.hid hA
  have HK := Lib.hid hSk
  have HX := Lib.hid hxk
  have HL := Lib.hid hlast
  have e1 : (S.length : Int) - 1 = ((S.length - 1 : Nat) : Int) := by omega
  clear hR hS hA hSk hxk hlast
  go_enter Try.func95, Try.ntmps95
  go_wp2_with fail
  go_loopw [7, 13] (fun cv i wr => ∃ (k : Nat) (cc : Int) (D : List Int), k + 1 ≤ S.length ∧ i = .int .i64 k ∧ cv = .int .i64 cc ∧ -1000000000 ≤ cc ∧ cc < 1000000000 ∧ D.length = k ∧
      addT S xs n 0 = D ++ addT (S.drop k) (xs.drop k) n cc ∧ Row wr g (laid Z off D) ∧ Only g w wr) (fun _ i _ => S.length - (intOf i).toNat)
  case atStart => exact ⟨0, 0, [], by omega, rfl, rfl, by omega, by omega, rfl, rfl, by rw [laid_nil]; exact HR.out, Only.refl _ _⟩
  case round =>
    obtain ⟨k, cc, D, hk, rfl, rfl, c1, c3, hD, hadd, hrow, honly⟩ := hrel
    obtain ⟨z, hz⟩ : ∃ z, S[k]? = some z := ⟨_, List.getElem?_eq_getElem (by omega)⟩
    have hcell := hrow.cell (i := off + k) (z := z) (by have := laid_next (Z := Z) (off := off) (D := D) (by omega) 0; rw [hD] at this; simp only [Nat.add_zero] at this; rw [this, HS.out k (by omega), hz])
    have hfr := hrow.frozen (off + k)
    have HADD := Lib.hid hadd
    have HROW := Lib.hid hrow
    have HO := Lib.hid honly
    have HZ := Lib.hid hz
    have HD := Lib.hid hD
    clear hadd hrow honly hz hD
    rcases Nat.lt_or_ge (k + 1) S.length with hlt | hge
    · have hzb := lok_at HK.out (k := k) (z := z) (by rw [List.getElem?_dropLast, if_pos (by omega)]; exact HZ.out)
      obtain ⟨z1, z2⟩ := hzb
      have hst : ∀ y, xs.getD k 0 = y → addT S xs n 0 = (D ++ [(cc + z + n * y) % 1000000000]) ++ addT (S.drop (k + 1)) (xs.drop (k + 1)) n ((cc + z + n * y) / 1000000000) := by
        intro y hy
        rw [HADD.out, addT_step n cc HZ.out (by omega), hy, List.append_assoc]; rfl
      have hrw : ∀ y : Int, Row (wr.setCell ⟨g, off + k, none⟩ (.int .i64 y)) g (laid Z off (D ++ [y])) := by
        intro y
        have := HROW.out.store (off + k) y
        have hD := HD.out
        rw [← hD, laid_set (by omega)] at this
        rw [← hD]; exact this
      have HST := Lib.hid hst
      have HRW := Lib.hid hrw
      clear hst hrw
      rcases Nat.lt_or_ge k xs.length with hkx | hkx
      · obtain ⟨y, hy⟩ : ∃ y, xs[k]? = some y := ⟨_, List.getElem?_eq_getElem hkx⟩
        obtain ⟨b2, off2, rfl, _, _, hcell2⟩ := (HO.out.holds HA.out hg) k y hy
        have hyb := lok_at HX.out hy
        have hp := mul_bd n1 n2 hyb.1 hyb.2
        have hyd : xs.getD k 0 = y := by rw [List.getD_eq_getElem?_getD, hy]; rfl
        have HY := Lib.hid hyd
        clear hy hyb hyd
        obtain ⟨p1, p2⟩ := hp
        have q1 : -9223372036854775808 ≤ cc + z + n * y := by omega
        have q2 : cc + z + n * y ≤ 9223372036854775807 := by omega
        have q3 : -1000000000 ≤ (cc + z + n * y) / 1000000000 := by omega
        have q4 : (cc + z + n * y) / 1000000000 < 1000000000 := by omega
        go_wp2_with (go_at_call 102; refine (nat_split _ _ q1 q2).mono ?_; rintro e w' ⟨rfl, rfl⟩)
        go_roundw
        case rel => exact ⟨k + 1, _, D ++ [(cc + z + n * y) % 1000000000], by omega, by go_num, rfl, q3, q4, by rw [List.length_append, HD.out]; rfl, HST.out y HY.out, HRW.out _, HO.out.setCell rfl _⟩
        case measure => simp [intOf]; omega
      · have hyd : xs.getD k 0 = 0 := by rw [List.getD_eq_getElem?_getD, List.getElem?_eq_none hkx]; rfl
        have HY := Lib.hid hyd
        clear hyd
        have q1 : -9223372036854775808 ≤ cc + z := by omega
        have q2 : cc + z ≤ 9223372036854775807 := by omega
        have q3 : -1000000000 ≤ (cc + z) / 1000000000 := by omega
        have q4 : (cc + z) / 1000000000 < 1000000000 := by omega
        go_wp2_with (go_at_call 102; refine (nat_split _ _ q1 q2).mono ?_; rintro e w' ⟨rfl, rfl⟩)
        go_roundw
        case rel =>
          have h1 := HST.out 0 HY.out
          rw [Int.mul_zero, Int.add_zero] at h1
          exact ⟨k + 1, _, D ++ [(cc + z) % 1000000000], by omega, by go_num, rfl, q3, q4, by rw [List.length_append, HD.out]; rfl, h1, HRW.out _, HO.out.setCell rfl _⟩
        case measure => simp [intOf]; omega
    · obtain rfl : k = S.length - 1 := by omega
      have hzl := HL.out z HZ.out
      obtain ⟨z1, z2⟩ := hzl
      have hadd2 : addT S xs n 0 = D ++ [z + cc] := by
        have e : S.drop (S.length - 1) = [z] := by
          have h := HZ.out
          have hk1 : S.length - 1 < S.length := by omega
          rw [List.getElem?_eq_getElem hk1] at h
          cases h
          rw [List.drop_eq_getElem_cons hk1, List.drop_eq_nil_of_le (by omega)]
        rw [HADD.out, e]; rfl
      have hrw : ∀ y : Int, Row (wr.setCell ⟨g, off + (S.length - 1), none⟩ (.int .i64 y)) g (laid Z off (D ++ [y])) := by
        intro y
        have := HROW.out.store (off + (S.length - 1)) y
        have hD := HD.out
        rw [← hD, laid_set (by omega)] at this
        rw [← hD]; exact this
      have HRW := Lib.hid hrw
      have HA2 := Lib.hid hadd2
      clear hrw hadd2
      go_wp2_with fail
      exact bodyPost_end (v := .tuple #[]) (by simp [results, Try.results95, go_sem]) rfl ⟨rfl, by rw [HA2.out]; exact HRW.out _, HO.out.setCell rfl _⟩
end Go.Proofs.Ytohfaoclemcfaaa
