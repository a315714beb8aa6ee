/- Lists of integers: totals, and slices that hold them. No walk. -/
import Derived.Test.YtdolhanniiejfaaZumF
namespace Go.Proofs.Ytdolhanniiejfaa.Num
open Go.ChangeShapes Go.WideShapes Go.RowKit
set_option linter.unusedVariables false

def tot : List Int → Int
  | [] => 0
  | a :: l => a + tot l
theorem tot_snoc (l : List Int) (z : Int) : tot (l ++ [z]) = tot l + z := by
  induction l with
  | nil => simp [tot]
  | cons a l ih => simp only [List.cons_append, tot, ih]; omega
theorem tot_append (l m : List Int) : tot (l ++ m) = tot l + tot m := by
  induction l with
  | nil => simp [tot]
  | cons a l ih => simp only [List.cons_append, tot, ih]; omega
theorem tot_reverse (l : List Int) : tot l.reverse = tot l := by
  induction l with
  | nil => rfl
  | cons a l ih => rw [List.reverse_cons, tot_snoc, ih]; simp only [tot]; omega
def allIn (l : List Int) : Bool := l.all inB
theorem allIn_snoc (l : List Int) (z : Int) : allIn (l ++ [z]) = (allIn l && inB z) := by simp [allIn]
theorem allIn_reverse (l : List Int) : allIn l.reverse = allIn l := by simp [allIn]
theorem inB_iff {n : Int} (h : inB n = true) : -1125899906842624 ≤ n ∧ n ≤ 1125899906842624 := of_decide_eq_true h
theorem tot_bound (l : List Int) (h : allIn l = true) : -(1125899906842624 * (l.length : Int)) ≤ tot l ∧ tot l ≤ 1125899906842624 * (l.length : Int) := by
  induction l with
  | nil => simp [tot]
  | cons a l ih =>
    simp only [allIn, List.all_cons, Bool.and_eq_true] at h
    have h1 := inB_iff h.1
    have h2 := ih h.2
    simp only [tot, List.length_cons]
    omega
theorem take_snoc_of {l : List Int} {k : Nat} {z : Int} (h : l[k]? = some z) : l.take (k + 1) = l.take k ++ [z] := by
  rw [List.take_add_one, h]; rfl

/-- The sum, or the error. -/
def sumV (l : List Int) : Int := if 65536 < l.length then 0 else if allIn l = true then okV (tot l) else 0
def sumE (l : List Int) : Int := if 65536 < l.length then 8 else if allIn l = true then okE (tot l) else 1
theorem sumV_long {l : List Int} (h : 65536 < l.length) : sumV l = 0 := if_pos h
theorem sumE_long {l : List Int} (h : 65536 < l.length) : sumE l = 8 := if_pos h
theorem sumV_all {l : List Int} (h : l.length ≤ 65536) (ha : allIn l = true) : sumV l = okV (tot l) := by unfold sumV; rw [if_neg (by omega), if_pos ha]
theorem sumE_all {l : List Int} (h : l.length ≤ 65536) (ha : allIn l = true) : sumE l = okE (tot l) := by unfold sumE; rw [if_neg (by omega), if_pos ha]
theorem not_all {l : List Int} {k : Nat} {z : Int} (hz : l[k]? = some z) (hi : inB z = false) : ¬ allIn l = true := by
  intro h
  simp only [allIn, List.all_eq_true] at h
  have := h z (List.mem_of_getElem? hz)
  rw [hi] at this; cases this
theorem sumV_out {l : List Int} (h : l.length ≤ 65536) (ha : ¬ allIn l = true) : sumV l = 0 := by unfold sumV; rw [if_neg (by omega), if_neg ha]
theorem sumE_out {l : List Int} (h : l.length ≤ 65536) (ha : ¬ allIn l = true) : sumE l = 1 := by unfold sumE; rw [if_neg (by omega), if_neg ha]
theorem sumV_reverse (l : List Int) : sumV l.reverse = sumV l := by simp only [sumV, List.length_reverse, allIn_reverse, tot_reverse]
theorem sumE_reverse (l : List Int) : sumE l.reverse = sumE l := by simp only [sumE, List.length_reverse, allIn_reverse, tot_reverse]

/-- The parts of z that the reference adds up. -/
def th (z : Int) : Int := z.tdiv 33554432
def tl (z : Int) : Int := z.tmod 33554432
theorem th_tl (z : Int) : z = th z * 33554432 + tl z := by unfold th tl; have := Int.tdiv_mul_add_tmod z 33554432; omega
theorem tl_bd (z : Int) : -33554432 < tl z ∧ tl z < 33554432 := by
  unfold tl
  rcases Int.lt_or_le z 0 with h | h
  · have e : z = -(-z) := by omega
    rw [e, Int.neg_tmod, Int.tmod_eq_emod_of_nonneg (by omega)]; omega
  · rw [Int.tmod_eq_emod_of_nonneg h]; omega
theorem th_bd {z : Int} (h1 : -1125899906842624 ≤ z) (h2 : z ≤ 1125899906842624) : -33554432 ≤ th z ∧ th z ≤ 33554432 := by
  have a := th_tl z; have b := tl_bd z; omega
theorem tot_th (l : List Int) : tot l = tot (l.map th) * 33554432 + tot (l.map tl) := by
  induction l with
  | nil => simp [tot]
  | cons a l ih => have := th_tl a; simp only [List.map_cons, tot]; omega
theorem tot_tl_bd (l : List Int) : -(33554432 * (l.length : Int)) ≤ tot (l.map tl) ∧ tot (l.map tl) ≤ 33554432 * (l.length : Int) := by
  induction l with
  | nil => simp [tot]
  | cons a l ih => have := tl_bd a; simp only [List.map_cons, tot, List.length_cons]; omega
theorem tot_th_bd (l : List Int) (h : allIn l = true) : -(33554432 * (l.length : Int)) ≤ tot (l.map th) ∧ tot (l.map th) ≤ 33554432 * (l.length : Int) := by
  induction l with
  | nil => simp [tot]
  | cons a l ih =>
    simp only [allIn, List.all_cons, Bool.and_eq_true] at h
    have h1 := inB_iff h.1
    have h2 := ih h.2
    have h3 := th_bd h1.1 h1.2
    simp only [List.map_cons, tot, List.length_cons]
    omega

/-- The slice at A holds the integers zs, and lies below block B. -/
def Holds (w : World) (B : Nat) (A : Option Addr) (zs : List Int) : Prop :=
  ∀ k z, zs[k]? = some z → ∃ b off, A = some ⟨b, off, none⟩ ∧ b < B ∧ w.cell? ⟨b, off + k, none⟩ = some (.int .i64 z)
theorem Holds.below {w w' : World} {B : Nat} {A : Option Addr} {zs : List Int} (h : Holds w B A zs) (hb : Below B w w') : Holds w' B A zs := by
  intro k z hz
  obtain ⟨b, off, hA, hlt, hc⟩ := h k z hz
  exact ⟨b, off, hA, hlt, (hb.cell (p := ⟨b, off + k, none⟩) hlt).trans hc⟩
theorem Holds.more {w : World} {B B' : Nat} {A : Option Addr} {zs : List Int} (h : Holds w B A zs) (hB : B ≤ B') : Holds w B' A zs := by
  intro k z hz
  obtain ⟨b, off, hA, hlt, hc⟩ := h k z hz
  exact ⟨b, off, hA, by omega, hc⟩

/-- A block of two cells. -/
def Two (w : World) (g : Nat) (t : TypeId) (x y : Value) : Prop := w.heap[g]? = some (.cells #[x, y] t (0, 0))
theorem Two.cell0 {w : World} {g : Nat} {t : TypeId} {x y : Value} (h : Two w g t x y) : w.cell? ⟨g, 0, none⟩ = some x := cell_of_row w g 0 #[x, y] t (0, 0) h
theorem Two.cell1 {w : World} {g : Nat} {t : TypeId} {x y : Value} (h : Two w g t x y) : w.cell? ⟨g, 1, none⟩ = some y := cell_of_row w g 1 #[x, y] t (0, 0) h
theorem Two.frozen {w : World} {g : Nat} {t : TypeId} {x y : Value} (h : Two w g t x y) (i : Nat) : w.frozen? ⟨g, i, none⟩ = false := by
  unfold Two at h; simp [World.frozen?, h]
theorem Two.new (w : World) (t : TypeId) (x y : Value) : Two (w.alloc (.cells #[x, y] t)) w.heap.size t x y := heap_alloc_new w _
theorem Two.below {w w' : World} {g B : Nat} {t : TypeId} {x y : Value} (h : Two w g t x y) (hb : Below B w w') (hg : g < B) : Two w' g t x y := (hb.block g hg).trans h
theorem Two.store {w : World} {g : Nat} {t : TypeId} {x y : Value} (h : Two w g t x y) (x' y' : Value) : Two ((w.setCell ⟨g, 0, none⟩ x').setCell ⟨g, 1, none⟩ y') g t x' y' := by
  unfold Two at h ⊢
  simp [World.setCell, Array.getElem?_modify, h]
end Go.Proofs.Ytdolhanniiejfaa.Num
