/- The next node; shortest. -/
import Derived.Test.YtlbknnafecdakaaGraphBB
namespace Go.Proofs.Ytlbknnafecdakaa.Graph
open Go.ChangeShapes Go.WideShapes Go.RowKit Go.Lib
set_option linter.unusedVariables false
set_option maxRecDepth 100000

/-! ### The next node (pure) -/
def PickS (l S : List Int) (p : Nat) : Prop := ∃ j : Nat, l[j]? = some (p : Int) ∧ (∀ k y : Nat, l[k]? = some (y : Int) → S.getD p 0 ≤ S.getD y 0) ∧ ∀ k y : Nat, k < j → l[k]? = some (y : Int) → S.getD p 0 < S.getD y 0
theorem IsS.at_ {N : Nat} {L : Arcs} {n : Nat} {S : List Int} (h : IsS N L n S) {b : Nat} (hb : b < N) : (S.getD b 0 = (N : Int) ∧ ¬ Rp L b n) ∨ ∃ u : Nat, S.getD b 0 = (u : Int) ∧ u < N ∧ Dst L b n u := by
  rcases h.2 b hb with ⟨h1, h2⟩ | ⟨u, h1, h2, h3⟩
  · exact Or.inl ⟨by rw [List.getD_eq_getElem?_getD, h1]; rfl, h2⟩
  · exact Or.inr ⟨u, by rw [List.getD_eq_getElem?_getD, h1]; rfl, h2, h3⟩
theorem pick_next {N : Nat} {L : Arcs} {n m j x k p : Nat} {S l : List Int} (hok : Ok N L) (hm : ∀ i, 0 < i → i < m → ¬ W L i n n) (hS : IsS N L n S) (hx : W L j n x) (he : j + 1 + k = m) (hw : W L (k + 1) x n)
    (ha : Asc l) (hl : ∀ b : Int, b ∈ l ↔ ∃ y : Nat, b = (y : Int) ∧ (x, y) ∈ L) (hp : PickS l S p) : (x, p) ∈ L ∧ W L k p n ∧ ∀ z, z < p → (x, z) ∈ L → ¬ W L k z n := by
  obtain ⟨t, ht, h1, h2⟩ := hp
  have hxp : (x, p) ∈ L := by
    obtain ⟨y, e, h⟩ := (hl _).mp (List.mem_of_getElem? ht)
    have : p = y := by omega
    subst this; exact h
  have val : ∀ z, (x, z) ∈ L → W L k z n → S.getD z 0 = (k : Int) := by
    intro z hz hwz
    have hd := (dst_step hm hx hz he).mpr hwz
    rcases hS.at_ (hok x z hz).2 with ⟨_, h4⟩ | ⟨u, h3, _, h5⟩
    · exact absurd ⟨k, hwz⟩ h4
    · rw [h3, hd.one h5]
  obtain ⟨z, hz, hwz⟩ := hw
  have hvz := val z hz hwz
  obtain ⟨tz, htz⟩ := List.mem_iff_getElem?.mp ((hl (z : Int)).mpr ⟨z, rfl, hz⟩)
  have hpz := h1 tz z htz
  have hkN : (k : Int) < N := by
    rcases hS.at_ (hok x z hz).2 with ⟨_, h4⟩ | ⟨u, h3, h4, _⟩
    · exact absurd ⟨k, hwz⟩ h4
    · omega
  have hpk : W L k p n := by
    rcases hS.at_ (hok x p hxp).2 with ⟨h3, h4⟩ | ⟨u, h3, h4, h5⟩
    · omega
    · have hku : k ≤ u := by
        rcases Nat.lt_or_ge u k with h6 | h6
        · exact absurd ((hx.snoc hxp).app h5.1) (hm (j + 1 + u) (by omega) (by omega))
        · exact h6
      have : u = k := by omega
      subst this; exact h5.1
  refine ⟨hxp, hpk, fun y hy hxy hwy => ?_⟩
  obtain ⟨ty, hty⟩ := List.mem_iff_getElem?.mp ((hl (y : Int)).mpr ⟨y, rfl, hxy⟩)
  have e1 := val y hxy hwy
  have e2 := val p hxp hpk
  have htt : ty < t := by
    rcases Nat.lt_or_ge ty t with h6 | h6
    · exact h6
    · have hl1 := lt_of_get hty
      have hl2 := lt_of_get ht
      rw [List.getElem?_eq_getElem hl1] at hty
      rw [List.getElem?_eq_getElem hl2] at ht
      have a1 := Option.some.inj hty
      have a2 := Option.some.inj ht
      rcases Nat.lt_or_eq_of_le h6 with h7 | h7
      · have := List.pairwise_iff_getElem.mp ha t ty hl2 hl1 h7
        omega
      · subst h7; omega
  have := h2 ty y htt hty
  omega

/-! ### The closure -/
structure Nx (w0 w : World) (gh gs gS N : Nat) (A : Option Addr) (H : List (List Int)) (S : List Int) : Prop where
  h : w.cell? ⟨gh, 0, none⟩ = some (.slice A N N)
  s : w.cell? ⟨gs, 0, none⟩ = some (.slice (some ⟨gS, 0, none⟩) N N)
  st : ∀ (i : Nat) (z : Int), S[i]? = some z → w.cell? ⟨gS, i, none⟩ = some (.int .i64 z)
  hd : Hd w0 A H
  len : S.length = N
  bel : Below w0.heap.size w0 w
  ge1 : w0.heap.size ≤ gs
  ge2 : w0.heap.size ≤ gS
  lt1 : gh < w.heap.size
  lt2 : gs < w.heap.size
  lt3 : 0 < N → gS < w.heap.size
theorem Nx.on {w0 w w' : World} {gh gs gS N : Nat} {A : Option Addr} {H : List (List Int)} {S : List Int} (h : Nx w0 w gh gs gS N A H S) (hb : Below w.heap.size w w') : Nx w0 w' gh gs gS N A H S :=
  ⟨(hb.cell (p := ⟨gh, 0, none⟩) h.lt1).trans h.h, (hb.cell (p := ⟨gs, 0, none⟩) h.lt2).trans h.s, fun i z hz => (hb.cell (p := ⟨gS, i, none⟩) (h.lt3 (by have := lt_of_get hz; have := h.len; omega))).trans (h.st i z hz), h.hd, h.len, h.bel.trans (hb.mono h.bel.size), h.ge1, h.ge2,
   Nat.lt_of_lt_of_le h.lt1 hb.size, Nat.lt_of_lt_of_le h.lt2 hb.size, fun h0 => Nat.lt_of_lt_of_le (h.lt3 h0) hb.size⟩
set_option maxHeartbeats 800000 in
theorem next_run (N : Nat) (L : Arcs) (H : List (List Int)) (S : List Int) (A : Option Addr) (gh gs gS x : Nat) (w0 w : World) (hN : N ≤ 64) (hL : L.length ≤ 512) (hok : Ok N L) (hH : IsH N L H) (hx : x < N) (h : Nx w0 w gh gs gS N A H S) (l : List Int) (hl : H[x]? = some l) (hl0 : 0 < l.length) :
    Calls Try.prog 43 #[.int .i64 (x : Int), .pointer (some ⟨gh, 0, none⟩), .pointer (some ⟨gs, 0, none⟩)] w fun e w' => ∃ p : Nat, e = .returned (.int .i64 (p : Int)) ∧ PickS l S p ∧ Below w.heap.size w w' := by
  obtain ⟨b, off, rfl, hb, A', c', e1, e2, ⟨e3, e5⟩, e4⟩ := h.hd x l hl
  have e1 := (h.bel.cell (p := ⟨b, off + x, none⟩) hb).trans e1
  obtain ⟨z, hz⟩ := get_lt hl0
  obtain ⟨b1, off1, rfl, hb1, _⟩ := e4 0 z hz
  have hL2 := hH.2 x l hl
  have hb1' := (e5 b1 off1 rfl).1
  have HM := Lib.hid (min_run N (by omega) S h.len l (fun z hz => by
    obtain ⟨m, e, hm⟩ := (hL2.2.2 z).mp hz
    exact ⟨m, e, (hok x m hm).2⟩) hl0 (by omega) gs gS b1 off1 c' w (e4.on h.bel) (e5.on h.bel) h.s h.st (by have := h.ge1; omega) (by have := h.ge2; omega))
  have c1 := h.h
  have i1 : (x : Int) < (N : Int) := by omega
  have i2 : (0 : Int) ≤ (x : Int) := by omega
  obtain ⟨q, hq⟩ : ∃ q, q = l.length := ⟨_, rfl⟩
  rw [← hq] at e1 e2 HM
  clear h hH hL2 hl hl0 hq hz e4 e5 hb1'
  go_enter Try.func43, Try.ntmps43
  go_wp2_with fail
  refine HM.out.mono ?_
  rintro e w2 ⟨j, p, rfl, q1, q2, q3, hb2⟩
  have HP : Hid (PickS l S p) := ⟨j, q1, q2, q3⟩
  have HB := Lib.hid hb2
  clear q1 q2 q3 hb2
  go_wp2_with fail
  go_ret
  exact ⟨p, rfl, HP.out, HB.out⟩
#print axioms pick_next
#print axioms next_run
end Go.Proofs.Ytlbknnafecdakaa.Graph
