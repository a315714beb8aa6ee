/- What the walks of combine of the reference share. -/
import Derived.Test.YtccbnobpighckaaSpanO
import Derived.StillTailTactics
import Derived.Deep.RegionHeld3
namespace Go.Proofs.Ytccbnobpighckaa.Span
open Go.ChangeShapes Go.WideShapes Go.RowKit Go.Lib Go.Proofs
set_option linter.unusedVariables false
set_option maxRecDepth 100000

theorem Own.form {w : World} {base : Nat} {v : Value} {L : List Sp} (h : Own w base v L) {n : Nat} (hn : L.length = n + 1) {s : Sp} (hs : L[n]? = some s) :
    ∃ g cap, v = .slice (some ⟨g, 0, none⟩) L.length cap ∧ base ≤ g ∧ g < w.heap.size ∧ w.cell? ⟨g, n * 2 + 1, none⟩ = some (.int .i64 s.2) ∧ w.frozen? ⟨g, n * 2 + 1, none⟩ = false := by
  obtain ⟨h1, ⟨rfl, h2⟩ | ⟨g, cap, cur, rfl, h2, h3, h4, h5, h6, h7⟩⟩ := h
  · omega
  · refine ⟨g, cap, rfl, h2, (Array.getElem?_eq_some_iff.mp h3).1, ?_, frozen_of h3 _⟩
    rw [cell_of_row w g _ cur _ (0, 0) h3]
    have hu := (cellsS_at hs).2
    rw [← h7, List.getElem?_take] at hu
    split at hu
    · simpa using hu
    · cases hu
theorem Own.shape {w : World} {base : Nat} {v : Value} {L : List Sp} (h : Own w base v L) : ∃ A cap, v = .slice A L.length cap := by
  obtain ⟨h1, ⟨rfl, h2⟩ | ⟨g, cap, cur, rfl, _⟩⟩ := h
  · exact ⟨none, 0, by rw [h2]⟩
  · exact ⟨_, cap, rfl⟩
theorem cellsS_set (O : List Sp) (s : Sp) (d : Int) : (cellsS (O ++ [s])).set (O.length * 2 + 1) (.int .i64 d) = cellsS (O ++ [(s.1, d)]) := by
  rw [cellsS_snoc, cellsS_snoc, List.set_append_right _ _ (by rw [cellsS_length]; omega), cellsS_length, show O.length * 2 + 1 - O.length * 2 = 1 by omega]
  rfl
theorem Own.setLast {w : World} {base : Nat} {O : List Sp} {s : Sp} {g cap : Nat} (h : Own w base (.slice (some ⟨g, 0, none⟩) (O ++ [s]).length cap) (O ++ [s])) (d : Int) :
    Own (w.setCell ⟨g, O.length * 2 + 1, none⟩ (.int .i64 d)) base (.slice (some ⟨g, 0, none⟩) (O ++ [s]).length cap) (O ++ [(s.1, d)]) := by
  obtain ⟨h1, ⟨h0, h2⟩ | ⟨g', cap', cur, e, h2, h3, h4, h5, h6, h7⟩⟩ := h
  · cases h0
  · cases e
    have hl : (O ++ [(s.1, d)]).length = (O ++ [s]).length := by simp
    refine ⟨by rw [cellsS_length], Or.inr ⟨g, cap, cur.set! (O.length * 2 + 1) (.int .i64 d), by rw [hl], h2, by simp [World.setCell, Array.getElem?_modify, h3], by rw [hl]; exact h4, h5, by simp [h6], ?_⟩⟩
    rw [← cellsS_set, ← h7, hl]
    simp only [Array.set!_eq_setIfInBounds, Array.toList_setIfInBounds]
    rw [List.take_set]
theorem getLast_at {L : List Sp} {n : Nat} (hn : L.length = n + 1) {s : Sp} (hs : L[n]? = some s) : L = L.take n ++ [s] := by
  have h := take_snoc_of hs
  rw [← h, ← hn, List.take_length]
theorem last_of {L : List Sp} {n : Nat} (hn : L.length = n + 1) {s : Sp} (hs : L[n]? = some s) : L.getLast? = some s := by
  rw [List.getLast?_eq_getElem?, hn]; exact hs
/-- What holds at the head of combine's loop. -/
structure CMem (f : Int → Bool) (C : List Int) (w1 : World) (k : Nat) (out : List Sp) (v : Value) (wr : World) : Prop where
  inv : CInv f C k out
  own : Own wr w1.heap.size v out
  below : Below w1.heap.size w1 wr
  at_ : k + 1 ≤ C.length ∨ k = 0
theorem CMem.drewN {f : Int → Bool} {C : List Int} {w1 : World} {k : Nat} {out : List Sp} {v : Value} {wr : World} (h : CMem f C w1 k out v wr) (n : Nat) : CMem f C w1 k out v (wr.drewN n) :=
  ⟨h.inv, h.own.keep fun _ _ _ => rfl, below_drewN h.below n, h.at_⟩
theorem Its.at_ {w : World} {A : Option Addr} {zs : List Int} (h : Its w A zs) {k : Nat} {z y : Int} (hz : zs[k]? = some z) (hy : zs[k + 1]? = some y) :
    ∃ b off, A = some ⟨b, off, none⟩ ∧ b < w.heap.size ∧ w.cell? ⟨b, off + k, none⟩ = some (.int .i64 z) ∧ w.cell? ⟨b, off + (k + 1), none⟩ = some (.int .i64 y) := by
  obtain ⟨b, off, e, hb, h0⟩ := h k z hz
  obtain ⟨b', off', e', hb', h1⟩ := h (k + 1) y hy
  rw [e] at e'; cases e'
  exact ⟨b, off, e, hb, h0, h1⟩
theorem CMem.end_ {f : Int → Bool} {C : List Int} {w1 : World} {k : Nat} {out : List Sp} {v : Value} {wr : World} (h : CMem f C w1 k out v wr) (hk : C.length ≤ k + 1) : k < C.length ∨ C = [] := by
  rcases h.at_ with h1 | h1
  · exact Or.inl (by omega)
  · cases C with
    | nil => exact Or.inr rfl
    | cons c C => exact Or.inl (by rw [h1]; simp)
theorem quiet_has (L : List Sp) (x : Int) (A : Option Addr) (c : Nat) (w : World) (ha : Sps w A L) (hm : L.length ≤ 9223372036854775807) {r : Bool} (hr : hasB L x = r) (n : Nat) :
    Calls Try.prog 95 #[.slice A L.length c, .int .i64 x] (w.drewN n) fun e w' => e = .returned (.bool r) ∧ w' = w.drewN n :=
  (ref_Has L x A c (w.drewN n) (ha.on (below_drewN (Below.refl _ _) n)) hm).mono fun _ _ ⟨h1, h2⟩ => ⟨by rw [h1, hr], h2.symm⟩
#print axioms Own.form
#print axioms Own.setLast
#print axioms quiet_has
end Go.Proofs.Ytccbnobpighckaa.Span
