/- The chapter's calls at a sound graph. -/
import Derived.Test.YtlbknnafecdakaaGraphGG
namespace Go.Proofs.Ytlbknnafecdakaa.Graph
open Go.ChangeShapes Go.WideShapes Go.RowKit Go.Lib
set_option linter.unusedVariables false
set_option maxRecDepth 100000

theorem rev_at {N : Nat} {L : Arcs} (hN : N ≤ 64) (hL : L.length ≤ 512) (hok : Ok N L) (A : Option Addr) (c : Nat) (w : World) (ha : Ars w A (asI L)) (q : Nat) (hq : (asI L).length = q) :
    Calls Try.prog 26 #[.agg #[.int .i64 (N : Int), .slice A q c]] w fun e w' => ∃ A' c', e = .returned (.tuple #[.agg #[.int .i64 (N : Int), .slice A' q c'], .int .i64 0]) ∧ Ars w' A' (asI (rev L)) ∧ Below w.heap.size w w' := by
  subst hq
  refine (graph_Reverse (N : Int) (asI L) A c w ha (by rw [asI_len]; omega)).mono fun e w' h => ?_
  rcases h with ⟨hz, ⟨A', c', h1, _, _, h2⟩, hb⟩ | ⟨hz, _⟩
  · rw [swp_asI] at h2
    exact ⟨A', c', h1, h2, hb⟩
  · exact absurd (chk_of hN hL hok) hz
theorem reach_at {N : Nat} {L : Arcs} (hN : N ≤ 64) (hL : L.length ≤ 512) (hok : Ok N L) {s : Nat} (hs : s < N) (A : Option Addr) (c : Nat) (w : World) (ha : Ars w A (asI L)) (q : Nat) (hq : (asI L).length = q) :
    Calls Try.prog 21 #[.agg #[.int .i64 (N : Int), .slice A q c], .int .i64 (s : Int)] w fun e w' => ∃ A' c' o, e = .returned (.tuple #[.slice A' N c', .int .i64 0]) ∧ IsR N L s o ∧ Cl eB w' A' o ∧ Below w.heap.size w w' := by
  subst hq
  refine (graph_Reach (N : Int) (asI L) (s : Int) A c w ha (by rw [asI_len]; omega)).mono fun e w' h => ?_
  obtain ⟨A', c', o, E, h1, _, h2, h3, h4⟩ := h
  rcases h2 with ⟨h5, _⟩ | ⟨_, h5, _⟩ | ⟨M, K, t, kg, ht, ht2, rfl, ho⟩
  · exact absurd (chk_of hN hL hok) h5
  · rw [node_lt hs] at h5; cases h5
  · have e1 : M = N := by have := kg.n; omega
    have e2 : K = L := asI_inj kg.zs.symm
    subst e1 e2
    obtain rfl : t = s := by omega
    rw [ho.1] at h1
    exact ⟨A', c', o, h1, ho, h3, h4⟩
def ordE (N : Nat) (L : Arcs) : Int := if ordO N L = none then 11 else 0
theorem ordE_rev {N : Nat} {L : Arcs} (hok : Ok N L) : ordE N (rev L) = ordE N L := by
  unfold ordE
  have h : (ordO N (rev L) = none) ↔ (ordO N L = none) := by
    rw [ord_none (ok_rev hok), ord_none hok]
    exact ⟨fun ⟨n, hn⟩ => ⟨n, Cy.rev_iff.mp hn⟩, fun ⟨n, hn⟩ => ⟨n, Cy.rev_iff.mpr hn⟩⟩
  by_cases h1 : ordO N L = none
  · rw [if_pos h1, if_pos (h.mpr h1)]
  · rw [if_neg h1, if_neg fun k => h1 (h.mp k)]
theorem order_at {N : Nat} {L : Arcs} (hN : N ≤ 64) (hL : L.length ≤ 512) (hok : Ok N L) (A : Option Addr) (c : Nat) (w : World) (ha : Ars w A (asI L)) (q : Nat) (hq : (asI L).length = q) :
    Calls Try.prog 16 #[.agg #[.int .i64 (N : Int), .slice A q c]] w fun e w' => ∃ A' m c', e = .returned (.tuple #[.slice A' m c', .int .i64 (ordE N L)]) ∧ Below w.heap.size w w' := by
  subst hq
  refine (graph_Order (N : Int) (asI L) A c w ha (by rw [asI_len]; omega)).mono fun e w' h => ?_
  obtain ⟨A', c', o, E, h1, _, h2, h3, h4⟩ := h
  rcases h2 with ⟨h5, _⟩ | ⟨M, K, kg, h2⟩
  · exact absurd (chk_of hN hL hok) h5
  · have e1 : M = N := by have := kg.n; omega
    have e2 : K = L := asI_inj kg.zs.symm
    subst e1 e2
    refine ⟨A', o.length, c', ?_, h4⟩
    rw [h1]
    rcases h2 with ⟨h5, rfl, _⟩ | ⟨R, h5, rfl, _⟩
    · unfold ordE; rw [if_pos h5]
    · unfold ordE; rw [if_neg (by rw [h5]; simp)]
theorem tmod_nat (n m : Nat) : ((n : Int)).tmod (m : Int) = ((n % m : Nat) : Int) := by rw [Int.tmod_eq_emod_of_nonneg (by omega)]; rfl
end Go.Proofs.Ytlbknnafecdakaa.Graph
