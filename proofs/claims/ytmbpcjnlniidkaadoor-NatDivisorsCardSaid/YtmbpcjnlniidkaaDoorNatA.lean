/- Natural numbers of many limbs: lists, values, the canonical limbs; slices that hold them. No walk. -/
import Derived.Test.YtmbpcjnlniidkaaDoorRows
import Derived.WalkKit
import Derived.Lib.Hide
import Derived.WalkLawsBesides
import Derived.WalkSpells
import Derived.Outline
import Derived.Laws.OwnMore
import Derived.OwnWalk
namespace Go.Proofs.YtmbpcjnlniidkaaDoor
open Go.ChangeShapes Go.WideShapes Go.RowKit
set_option linter.unusedVariables false

theorem ret_int {k : IntKind} {a b : Int} (h : a = b) : Ending.returned (.int k a) = .returned (.int k b) := by rw [h]

/-- What a list of limbs stands for. -/
def nval : List Int → Int
  | [] => 0
  | x :: l => x + 1000000000 * nval l
theorem nval_snoc (l : List Int) (z : Int) : nval (l ++ [z]) = nval l + 1000000000 ^ l.length * z := by
  induction l with
  | nil => simp [nval]
  | cons a l ih => simp only [List.cons_append, nval, ih, List.length_cons, Int.pow_succ]; rw [Int.mul_add, Int.mul_comm (1000000000 ^ l.length) 1000000000, Int.mul_assoc]; omega
theorem nval_append (l m : List Int) : nval (l ++ m) = nval l + 1000000000 ^ l.length * nval m := by
  induction l with
  | nil => simp [nval]
  | cons a l ih => simp only [List.cons_append, nval, ih, List.length_cons, Int.pow_succ]; rw [Int.mul_add, Int.mul_comm (1000000000 ^ l.length) 1000000000, Int.mul_assoc]; omega

/-- Each limb is from 0 to Limb - 1. -/
def lok (l : List Int) : Bool := l.all fun x => decide (0 ≤ x) && decide (x < 1000000000)
theorem lok_nil : lok [] = true := rfl
theorem lok_cons {x : Int} {l : List Int} : lok (x :: l) = true ↔ (0 ≤ x ∧ x < 1000000000) ∧ lok l = true := by simp [lok]
theorem lok_append {l m : List Int} : lok (l ++ m) = true ↔ lok l = true ∧ lok m = true := by simp [lok]
theorem lok_take {l : List Int} (h : lok l = true) (k : Nat) : lok (l.take k) = true := by
  simp only [lok, List.all_eq_true] at h ⊢; exact fun x hx => h x (List.mem_of_mem_take hx)
theorem lok_drop {l : List Int} (h : lok l = true) (k : Nat) : lok (l.drop k) = true := by
  simp only [lok, List.all_eq_true] at h ⊢; exact fun x hx => h x (List.mem_of_mem_drop hx)
theorem lok_at {l : List Int} (h : lok l = true) {k : Nat} {z : Int} (hz : l[k]? = some z) : 0 ≤ z ∧ z < 1000000000 := by
  simp only [lok, List.all_eq_true] at h
  simpa using h z (List.mem_of_getElem? hz)
theorem lok_getD {l : List Int} (h : lok l = true) (k : Nat) : 0 ≤ l.getD k 0 ∧ l.getD k 0 < 1000000000 := by
  rw [List.getD_eq_getElem?_getD]
  cases hz : l[k]? with
  | none => simp
  | some z => exact lok_at h hz
theorem nval_nonneg {l : List Int} (h : lok l = true) : 0 ≤ nval l := by
  induction l with
  | nil => simp [nval]
  | cons a l ih => rw [lok_cons] at h; have := ih h.2; simp only [nval]; omega
theorem nval_lt {l : List Int} (h : lok l = true) : nval l < 1000000000 ^ l.length := by
  induction l with
  | nil => simp [nval]
  | cons a l ih => rw [lok_cons] at h; have := ih h.2; simp only [nval, List.length_cons, Int.pow_succ]; omega
theorem nval_zeros (k : Nat) : nval (List.replicate k 0) = 0 := by
  induction k with
  | zero => rfl
  | succ k ih => simp [List.replicate_succ, nval, ih]
theorem lok_zeros (k : Nat) : lok (List.replicate k 0) = true := by
  induction k with
  | zero => rfl
  | succ k ih => rw [List.replicate_succ, lok_cons]; exact ⟨by omega, ih⟩

/-- The limbs of a number. -/
def limbs (n : Nat) : List Int := if h : n = 0 then [] else ((n % 1000000000 : Nat) : Int) :: limbs (n / 1000000000)
termination_by n
decreasing_by omega
theorem limbs_zero : limbs 0 = [] := by rw [limbs]; simp
theorem limbs_pos {n : Nat} (h : n ≠ 0) : limbs n = ((n % 1000000000 : Nat) : Int) :: limbs (n / 1000000000) := by rw [limbs]; simp [h]
theorem limbs_step {x : Int} {n : Nat} (h0 : 0 ≤ x) (h1 : x < 1000000000) (h : x.toNat + 1000000000 * n ≠ 0) : limbs (x.toNat + 1000000000 * n) = x :: limbs n := by
  rw [limbs_pos h]
  have e1 : (x.toNat + 1000000000 * n) % 1000000000 = x.toNat := by omega
  have e2 : (x.toNat + 1000000000 * n) / 1000000000 = n := by omega
  rw [e1, e2]
  congr 1
  omega
theorem lok_limbs (n : Nat) : lok (limbs n) = true := by
  induction n using Nat.strongRecOn with
  | ind n ih =>
    by_cases h : n = 0
    · subst h; rw [limbs_zero]; rfl
    · rw [limbs_pos h, lok_cons]; exact ⟨by omega, ih _ (by omega)⟩
theorem nval_limbs (n : Nat) : nval (limbs n) = n := by
  induction n using Nat.strongRecOn with
  | ind n ih =>
    by_cases h : n = 0
    · subst h; rw [limbs_zero]; rfl
    · rw [limbs_pos h, nval, ih _ (by omega)]; omega
theorem limbs_inj {m n : Nat} (h : limbs m = limbs n) : m = n := by
  have := congrArg nval h; rw [nval_limbs, nval_limbs] at this; omega

/-- Without the zeros at the end. -/
def trimL : List Int → List Int
  | [] => []
  | x :: l => if trimL l = [] ∧ x = 0 then [] else x :: trimL l
theorem trimL_snoc_zero (l : List Int) : trimL (l ++ [0]) = trimL l := by
  induction l with
  | nil => simp [trimL]
  | cons a l ih => simp only [List.cons_append, trimL, ih]
theorem trimL_snoc {l : List Int} {z : Int} (h : z ≠ 0) : trimL (l ++ [z]) = l ++ [z] := by
  induction l with
  | nil => simp [trimL, h]
  | cons a l ih => simp only [List.cons_append, trimL, ih]; simp
theorem trimL_limbs {l : List Int} (h : lok l = true) : trimL l = limbs (nval l).toNat := by
  induction l with
  | nil => simp [trimL, nval, limbs_zero]
  | cons a l ih =>
    rw [lok_cons] at h
    have hn := nval_nonneg h.2
    have ih := ih h.2
    have e : (nval (a :: l)).toNat = a.toNat + 1000000000 * (nval l).toNat := by simp only [nval]; omega
    rw [e, trimL, ih]
    by_cases hz : a.toNat + 1000000000 * (nval l).toNat = 0
    · have h1 : (nval l).toNat = 0 := by omega
      rw [hz, h1, limbs_zero, if_pos ⟨rfl, by omega⟩]
    · rw [limbs_step h.1.1 h.1.2 hz, if_neg]
      rintro ⟨h1, h2⟩
      have : (nval l).toNat = 0 := limbs_inj (h1.trans limbs_zero.symm)
      omega

/-- In normal form: limbs, the last of which is not 0. -/
def nrm (l : List Int) : Bool := lok l && (l.getLast? != some 0)
theorem trimL_nrm {l : List Int} (h : l.getLast? ≠ some 0) : trimL l = l := by
  rcases List.eq_nil_or_concat l with rfl | ⟨l', z, rfl⟩
  · rfl
  · rw [List.concat_eq_append] at h ⊢
    rw [List.getLast?_append] at h
    exact trimL_snoc (by simpa using h)
theorem nrm_limbs {l : List Int} (h : nrm l = true) : l = limbs (nval l).toNat := by
  simp only [nrm, Bool.and_eq_true, bne_iff_ne] at h
  rw [← trimL_limbs h.1, trimL_nrm h.2]
theorem nrm_trimL {l : List Int} (h : lok l = true) : nrm (trimL l) = true := by
  induction l with
  | nil => rfl
  | cons a l ih =>
    rw [lok_cons] at h
    have ih := ih h.2
    simp only [nrm, Bool.and_eq_true, bne_iff_ne] at ih ⊢
    unfold trimL
    split
    · exact ⟨rfl, by simp⟩
    · rename_i hc
      refine ⟨lok_cons.mpr ⟨h.1, ih.1⟩, ?_⟩
      cases ht : trimL l with
      | nil => simp [ht] at hc ⊢; exact hc
      | cons b m => rw [List.getLast?_cons_cons, ← ht]; exact ih.2
theorem nrm_of_limbs (n : Nat) : nrm (limbs n) = true := by
  have h := nrm_trimL (lok_limbs n)
  rw [trimL_limbs (lok_limbs n), nval_limbs] at h
  simpa using h
theorem nrm_lok {l : List Int} (h : nrm l = true) : lok l = true := by simp only [nrm, Bool.and_eq_true] at h; exact h.1
theorem pow_pos' (k : Nat) : (0 : Int) < 1000000000 ^ k := Int.pow_pos (by decide)
theorem limbs_len_le {n k : Nat} : (limbs n).length ≤ k ↔ n < 1000000000 ^ k := by
  induction k generalizing n with
  | zero =>
    by_cases h : n = 0
    · subst h; rw [limbs_zero]; simp
    · rw [limbs_pos h]; simp; omega
  | succ k ih =>
    by_cases h : n = 0
    · subst h; rw [limbs_zero]; simp [Nat.pow_pos]
    · rw [limbs_pos h, List.length_cons, Nat.succ_le_succ_iff, ih, Nat.div_lt_iff_lt_mul (by decide), Nat.pow_succ]

/-- A valid number. -/
def validB (l : List Int) : Bool := decide (l.length ≤ 48) && nrm l
theorem validB_iff {l : List Int} : validB l = true ↔ l.length ≤ 48 ∧ nrm l = true := by simp [validB]

/-- At the address lie the integers zs, in a block from lo to below hi; where lo is not 0, none of their cells is frozen. -/
def Holds (w : World) (lo hi : Nat) (A : Option Addr) (zs : List Int) : Prop :=
  ∀ k z, zs[k]? = some z → ∃ b off, A = some ⟨b, off, none⟩ ∧ (lo ≤ b ∧ (lo = 0 ∨ w.frozen? ⟨b, off + k, none⟩ = false)) ∧ b < hi ∧ w.cell? ⟨b, off + k, none⟩ = some (.int .i64 z)
/-- A slice value that holds the integers zs, in a block from lo to below hi. -/
def Sl (w : World) (lo hi : Nat) (v : Value) (zs : List Int) : Prop :=
  ∃ A c, v = .slice A zs.length c ∧ zs.length ≤ c ∧ c ≤ maxLen ∧ Holds w lo hi A zs
theorem Holds.keep {w w' : World} {lo hi : Nat} {A : Option Addr} {zs : List Int} (h : Holds w lo hi A zs) (hb : ∀ k, lo ≤ k → k < hi → w'.heap[k]? = w.heap[k]?) : Holds w' lo hi A zs := by
  intro k z hz
  obtain ⟨b, off, hA, hlo, hlt, hc⟩ := h k z hz
  exact ⟨b, off, hA, ⟨hlo.1, hlo.2.imp id fun h => (World.frozen?_of_block (w := w) (a := ⟨b, off + k, none⟩) (hb b hlo.1 hlt)).trans h⟩, hlt, (World.cell?_of_block (w := w) (a := ⟨b, off + k, none⟩) (hb b hlo.1 hlt)).trans hc⟩
theorem Holds.below {w w' : World} {B lo hi : Nat} {A : Option Addr} {zs : List Int} (h : Holds w lo hi A zs) (hb : Below B w w') (hB : hi ≤ B) : Holds w' lo hi A zs :=
  h.keep fun k _ hk => hb.block k (by omega)
theorem Holds.more {w : World} {lo hi lo' hi' : Nat} {A : Option Addr} {zs : List Int} (h : Holds w lo hi A zs) (hl : lo' ≤ lo) (hh : hi ≤ hi') : Holds w lo' hi' A zs := by
  intro k z hz
  obtain ⟨b, off, hA, hlo, hlt, hc⟩ := h k z hz
  exact ⟨b, off, hA, ⟨by omega, hlo.2.imp (by omega) id⟩, by omega, hc⟩
theorem Holds.take {w : World} {lo hi : Nat} {A : Option Addr} {zs : List Int} (h : Holds w lo hi A zs) (n : Nat) : Holds w lo hi A (zs.take n) := by
  intro k z hz
  rw [List.getElem?_take] at hz
  split at hz
  · exact h k z hz
  · cases hz
theorem Holds.nil (w : World) (lo hi : Nat) (A : Option Addr) : Holds w lo hi A [] := by intro k z hz; simp at hz

/-- A block of this call's own whose first cells are the integers zs, and no cell of which is frozen. -/
def Row (w : World) (g : Nat) (zs : List Int) : Prop :=
  ∃ cur t, w.heap[g]? = some (.cells cur t (0, 0)) ∧ ∀ (i : Nat) (z : Int), zs[i]? = some z → cur[i]? = some (Value.int .i64 z)
theorem Row.lt {w : World} {g : Nat} {zs : List Int} (h : Row w g zs) : g < w.heap.size := by
  obtain ⟨cur, t, hg, _⟩ := h; exact lt_of_block hg
theorem Row.cell {w : World} {g : Nat} {zs : List Int} (h : Row w g zs) {i : Nat} {z : Int} (hz : zs[i]? = some z) : w.cell? ⟨g, i, none⟩ = some (.int .i64 z) := by
  obtain ⟨cur, t, hg, hc⟩ := h; rw [cell_of_row w g i cur t (0, 0) hg]; exact hc i z hz
theorem Row.frozen {w : World} {g : Nat} {zs : List Int} (h : Row w g zs) (i : Nat) : w.frozen? ⟨g, i, none⟩ = false := by
  obtain ⟨cur, t, hg, hc⟩ := h; simp [World.frozen?, hg]
theorem Row.keep {w w' : World} {g : Nat} {zs : List Int} (h : Row w g zs) (hk : w'.heap[g]? = w.heap[g]?) : Row w' g zs := by
  obtain ⟨cur, t, hg, hc⟩ := h; exact ⟨cur, t, hk.trans hg, hc⟩
theorem Row.below {w w' : World} {B g : Nat} {zs : List Int} (h : Row w g zs) (hb : Below B w w') (hg : g < B) : Row w' g zs := h.keep (hb.block g hg)
theorem Row.store {w : World} {g : Nat} {zs : List Int} (h : Row w g zs) (i : Nat) (v : Int) : Row (w.setCell ⟨g, i, none⟩ (.int .i64 v)) g (zs.set i v) := by
  obtain ⟨cur, t, hg, hc⟩ := h
  refine ⟨cur.set! i (.int .i64 v), t, by simp [World.setCell, Array.getElem?_modify, hg], fun j z hz => ?_⟩
  rw [List.getElem?_set] at hz
  split at hz
  · rename_i e
    subst e
    split at hz
    · rename_i hlt
      obtain rfl : v = z := by simpa using hz
      have := hc i zs[i] (List.getElem?_eq_getElem hlt)
      have hlt2 : i < cur.size := by
        rcases Nat.lt_or_ge i cur.size with h | h
        · exact h
        · rw [Array.getElem?_eq_none h] at this; cases this
      simp [Array.set!_eq_setIfInBounds, hlt2]
    · cases hz
  · rename_i e
    simp only [Array.set!_eq_setIfInBounds, Array.getElem?_setIfInBounds]
    rw [if_neg e]; exact hc j z hz
theorem Row.other {w : World} {g : Nat} {zs : List Int} (h : Row w g zs) {p : Addr} (hp : p.block ≠ g) (u : Value) : Row (w.setCell p u) g zs :=
  h.keep (Below.heap_setCell w p u g (fun e => hp e.symm))
theorem Row.holds {w : World} {g off : Nat} {zs xs : List Int} (h : Row w g zs) (hx : ∀ k z, xs[k]? = some z → zs[off + k]? = some z) {lo hi : Nat} (h1 : lo ≤ g) (h2 : g < hi) : Holds w lo hi (some ⟨g, off, none⟩) xs :=
  fun k z hz => ⟨g, off, rfl, ⟨h1, Or.inr (h.frozen _)⟩, h2, h.cell (hx k z hz)⟩
theorem Row.take {w : World} {g : Nat} {zs : List Int} (h : Row w g zs) (n : Nat) : Row w g (zs.take n) := by
  obtain ⟨cur, t, hg, hc⟩ := h
  refine ⟨cur, t, hg, fun i z hz => ?_⟩
  rw [List.getElem?_take] at hz
  split at hz
  · exact hc i z hz
  · cases hz
/-- What a call owns (append, make) is such a block, or nil. -/
theorem row_of_owns {w : World} {base e : Nat} {v : Value} {zs : List Int} (h : w.ownsRow base e 1 v zs.length (zs.map (Value.int .i64))) :
    (v = .slice none 0 0 ∧ zs = []) ∨ ∃ g cap, v = .slice (some ⟨g, 0, none⟩) zs.length cap ∧ base ≤ g ∧ zs.length ≤ cap ∧ cap ≤ maxLen ∧ Row w g zs := by
  obtain ⟨h1, ⟨rfl, h2⟩ | ⟨g, cap, cur, rfl, h2, h3, h4, h5, h6, h7⟩⟩ := h
  · exact Or.inl ⟨rfl, List.eq_nil_of_length_eq_zero h2⟩
  · refine Or.inr ⟨g, cap, rfl, h2, h4, h5, cur, e, h3, fun i z hz => ?_⟩
    rw [Nat.mul_one] at h7
    have hi : i < zs.length := by
      rcases Nat.lt_or_ge i zs.length with h | h
      · exact h
      · rw [List.getElem?_eq_none h] at hz; cases hz
    have e1 : (cur.toList.take zs.length)[i]? = some (.int .i64 z) := by rw [h7, List.getElem?_map, hz]; rfl
    rw [List.getElem?_take, if_pos hi, Array.getElem?_toList] at e1
    first | done | exact e1
theorem made_zeros (n : Nat) : (madeCells (Value.int .i64 0).cells (n * 1)).toList = (List.replicate n (0 : Int)).map (Value.int .i64) := by
  have e : ∀ x : Nat, (Value.int .i64 0).cells[x % (Value.int .i64 0).cells.size]! = Value.int .i64 0 := by intro x; simp [Value.cells, Nat.mod_one]
  unfold madeCells
  simp only [e, Nat.mul_one, Array.toList_map, Array.toList_range, List.map_replicate]
  apply List.ext_getElem?
  intro i
  simp only [List.getElem?_map, List.getElem?_replicate]
  split
  · rename_i h; rw [List.getElem?_range h]; rfl
  · rename_i h; rw [List.getElem?_eq_none (by simp; omega)]; rfl
theorem sl_of_owns {w : World} {base e : Nat} {v : Value} {zs : List Int} (h : w.ownsRow base e 1 v zs.length (zs.map (Value.int .i64))) : Sl w base w.heap.size v zs := by
  rcases row_of_owns h with ⟨rfl, rfl⟩ | ⟨g, cap, rfl, h1, h2, h3, h4⟩
  · exact ⟨none, 0, rfl, Nat.le_refl _, by unfold maxLen; omega, fun k z hz => by simp at hz⟩
  · exact ⟨_, cap, rfl, h2, h3, h4.holds (fun k z hz => by simpa using hz) h1 h4.lt⟩
theorem own_block_ge {w : World} {base e size n : Nat} {v : Value} {xs : List Value} (h : w.ownsRow base e size v n xs) : ∀ k, v.ownBlock = some k → base ≤ k := by
  obtain ⟨h1, ⟨rfl, h2⟩ | ⟨g, cap, cur, rfl, h2, _⟩⟩ := h
  · intro k hk; cases hk
  · intro k hk; obtain rfl : g = k := by simpa [Value.ownBlock] using hk
    exact h2
theorem own_snoc {w : World} {base e : Nat} {v : Value} {ds : List Int} {x : Int} (h : w.ownsRow base e 1 v (ds.length + 1) (ds.map (Value.int .i64) ++ [.int .i64 x])) :
    w.ownsRow base e 1 v (ds ++ [x]).length ((ds ++ [x]).map (Value.int .i64)) := by
  rw [List.length_append, List.map_append]; exact h
#print axioms row_of_owns
end Go.Proofs.YtmbpcjnlniidkaaDoor
