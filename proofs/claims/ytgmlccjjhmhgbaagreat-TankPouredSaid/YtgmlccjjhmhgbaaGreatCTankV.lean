/- Tanks that come in (gen17/v.py out of CardKitR). -/
import Derived.Test.YtgmlccjjhmhgbaaGreatPk24
import Derived.Test.YtgmlccjjhmhgbaaGreatPk1
import Derived.OpenShut
import Derived.Deep.Slices
namespace Go.Proofs.YtgmlccjjhmhgbaaGreat.Tank
open Go Go.ChangeShapes Go.WideShapes Go.RowKit Go.Joins
set_option linter.unusedVariables false
set_option maxRecDepth 100000

section
variable {H : Type} {enc : TypeId × Value → H} {P : Program} {w : World} {held : Bool} {t e : TypeId} {n : Nat}
/-- The limbs in a field that came in. -/
theorem in_trod {v : Value} {y : DataW H × List MemPlace} (ht : P.underlying t = some (.slice e)) (he : P.underlying e = some (.int .i64)) (hce : P.cellsOf e = 1)
    (hf : DataW.trod enc P w 0 (fun _ => true) held n t [v] = some y) : ∃ zs, In w v zs := by
  rcases open_ints ht he hce hf with ⟨hcs, _⟩ | ⟨x, l, c, zs, hcs, _, hl, hm, hz, _, hcell, hwz⟩
  · simp at hcs
    exact ⟨[], none, 0, hcs, Nat.le_refl _, by unfold maxLen; omega, fun k z hz => by simp at hz⟩
  · simp at hcs
    subst hcs
    have hz' : zs.length = c := by simpa using hz
    have hlen : (zs.take l).length = l := by rw [List.length_take]; omega
    refine ⟨zs.take l, some x, c, by rw [hlen], by omega, hm, fun i z hi => ?_⟩
    have hin : i < l := by
      rcases Nat.lt_or_ge i l with h1 | h1
      · exact h1
      · rw [List.getElem?_take, if_neg (by omega)] at hi; cases hi
    rw [List.getElem?_take, if_pos hin] at hi
    obtain ⟨b, off, rfl, hc⟩ := ints_at hcell (by omega)
    have hci := hc i (by omega)
    have ez : zs.getD i 0 = z := by rw [List.getD_eq_getElem?_getD, hi]; rfl
    rw [ez] at hci
    exact ⟨b, off, rfl, ⟨Nat.zero_le _, Or.inl rfl⟩, World.block_lt_of_cell? w _ hci, hci⟩
end
theorem list_of {α : Type} {P : Nat → α → Prop} (n : Nat) (h : ∀ i, i < n → ∃ t, P i t) : ∃ L : List α, L.length = n ∧ ∀ i t, L[i]? = some t → P i t := by
  induction n with
  | zero => exact ⟨[], rfl, fun i t hi => by simp at hi⟩
  | succ n ih =>
    obtain ⟨L, hl, hL⟩ := ih fun i hi => h i (by omega)
    obtain ⟨t, ht⟩ := h n (by omega)
    refine ⟨L ++ [t], by simp [hl], fun i u hu => ?_⟩
    rcases Nat.lt_or_ge i L.length with h1 | h1
    · rw [List.getElem?_append_left h1] at hu; exact hL i u hu
    · rw [List.getElem?_append_right h1] at hu
      have : i - L.length = 0 := by
        rcases Nat.eq_zero_or_pos (i - L.length) with h2 | h2
        · exact h2
        · rw [List.getElem?_eq_none (by simp; omega)] at hu; cases hu
      rw [this] at hu
      simp at hu
      have e : i = n := by omega
      subst hu e; exact ht

section
variable {H : Type} {enc : TypeId × Value → H} {w : World} {held : Bool}
theorem rats_of {fuel : Nat} {cs : List Value} {x : DataW H × List MemPlace} (hf : DataW.trod enc Tryz.prog w 0 (fun _ => true) held fuel 22 cs = some x) :
    ∃ (A : Option Addr) (c : Nat) (L : List Trip), cs = [.slice A L.length c] ∧ Rats w A L ∧ L.length ≤ c ∧ L.length ≤ 9223372036854775807 := by
  rcases Deep.open_slice Tryz.underlying22 hf with ⟨hcs, _⟩ | ⟨a, n, cap, m, k, D, Pl, hcs, _, hl, hm, hmm, _, hel⟩
  · exact ⟨none, 0, [], hcs, Rats.nil _ _, Nat.le_refl _, by simp⟩
  · have hmc : m = cap := by simpa using hmm
    subst hmc
    have hC : Tryz.prog.cellsOf 33 = 3 := by kernel_rfl
    have key : ∀ i, i < n → ∃ t : Trip, ∃ b off A1 c1 A2 c2, a = ⟨b, off, none⟩ ∧ b < w.heap.size ∧
        (w.cell? ⟨b, off + i * 3, none⟩ = some (.bool t.1) ∧ w.cell? ⟨b, off + i * 3 + 1, none⟩ = some (.slice A1 t.2.1.length c1) ∧ w.cell? ⟨b, off + i * 3 + 2, none⟩ = some (.slice A2 t.2.2.length c2)) ∧
        In w (.slice A1 t.2.1.length c1) t.2.1 ∧ In w (.slice A2 t.2.2.length c2) t.2.2 := by
      intro i hi
      obtain ⟨cs, hc, ht⟩ := hel i (by omega)
      rw [hC] at hc
      obtain ⟨xs, n', _, _, hlen, hyl, hg⟩ := DataW.trod_struct Tryz.underlying33 ht
      obtain ⟨_, hcl, hat⟩ := World.cells?_some hc
      obtain ⟨c0, c1, c2, rfl⟩ : ∃ c0 c1 c2, cs = [c0, c1, c2] := by
        match cs, hcl with
        | [c0, c1, c2], _ => exact ⟨c0, c1, c2, rfl⟩
      obtain ⟨y0, y1, y2, rfl⟩ : ∃ y0 y1 y2, xs = [y0, y1, y2] := by
        match xs, hyl with
        | [y0, y1, y2], _ => exact ⟨y0, y1, y2, rfl⟩
      have g0 := hg 0 _ rfl
      have g1 := hg 1 _ rfl
      have g2 := hg 2 _ rfl
      change DataW.trod enc Tryz.prog w 0 (fun _ => true) held n' 4 (([c0, c1, c2].drop 0).take (Tryz.prog.cellsOf 4)) = some y0 at g0
      change DataW.trod enc Tryz.prog w 0 (fun _ => true) held n' 31 (([c0, c1, c2].drop 1).take (Tryz.prog.cellsOf 31)) = some y1 at g1
      change DataW.trod enc Tryz.prog w 0 (fun _ => true) held n' 31 (([c0, c1, c2].drop 2).take (Tryz.prog.cellsOf 31)) = some y2 at g2
      rw [show Tryz.prog.cellsOf 4 = 1 by kernel_rfl] at g0
      rw [show Tryz.prog.cellsOf 31 = 1 by kernel_rfl] at g1 g2
      obtain ⟨bb, hbb, _⟩ := DataW.trod_bool Tryz.underlying4 g0
      obtain ⟨xs, hx⟩ := in_trod (v := c1) Tryz.underlying31 Tryz.underlying3 (by kernel_rfl) g1
      obtain ⟨ys, hy⟩ := in_trod (v := c2) Tryz.underlying31 Tryz.underlying3 (by kernel_rfl) g2
      obtain ⟨A1, d1, rfl, hx'⟩ := in_open hx
      obtain ⟨A2, d2, rfl, hy'⟩ := in_open hy
      have hb0 : c0 = .bool bb := by simpa using hbb
      subst hb0
      obtain ⟨b, off, spot⟩ := a
      have hspot : spot = none := by
        obtain ⟨cs0, hc0, ht0⟩ := hel 0 (by omega)
        rw [hC] at hc0
        obtain ⟨_, hl0, hat0⟩ := World.cells?_some hc0
        match cs0, hl0 with
        | [z0, z1, z2], _ =>
          have h := hat0 0 (by omega)
          have e : ∀ x : Addr, x.add 0 = x := fun x => by unfold Addr.add; rw [if_pos rfl]
          rw [Nat.zero_mul, e, e] at h
          exact World.cell?_spot h
      subst hspot
      have k : ∀ j, j < 3 → w.cell? ⟨b, off + i * 3 + j, none⟩ = [Value.bool bb, .slice A1 xs.length d1, .slice A2 ys.length d2][j]? := fun j hj => by
        have := hat j (by omega)
        rw [Go.WideShapes.add_plain, Go.WideShapes.add_plain] at this
        exact this
      have k0 := k 0 (by omega)
      exact ⟨(bb, xs, ys), b, off, A1, d1, A2, d2, rfl, World.block_lt_of_cell? w _ k0, ⟨k0, k 1 (by omega), k 2 (by omega)⟩, hx', hy'⟩
    obtain ⟨L, rfl, hL⟩ := list_of n key
    refine ⟨some a, m, L, hcs, fun k t hk => ?_, hl, by unfold maxLen at hm; omega⟩
    obtain ⟨b, off, A1, c1, A2, c2, rfl, h⟩ := hL k t hk
    exact ⟨b, off, A1, c1, A2, c2, rfl, h⟩
/-- A tank that came in. -/
theorem open_tank {r : Reach} {b0 : Nat} {v : Value} {d : DataW H} {p : List MemPlace} (hv : Value.okWide Tryz.prog w r b0 24 v) (h : DataW.Trod enc Tryz.prog w 0 (fun _ => true) held 24 v d p) :
    ∃ (cap : Int) (A : Option Addr) (c : Nat) (L : List Trip), v = .agg #[.int .i64 cap, .slice A L.length c] ∧ Rats w A L ∧ L.length ≤ 9223372036854775807 := by
  obtain ⟨v0, v1, y0, y1, n, rfl, _, _, h0, h1⟩ := open_agg2 Tryz.underlying24 (by kernel_rfl) (by kernel_rfl) hv h
  obtain ⟨x0, f0, _, _⟩ := DataW.trod_int Tryz.underlying3 h0
  simp at f0
  subst f0
  obtain ⟨A, c, L, hcs, h2, h3, h4⟩ := rats_of h1
  simp at hcs
  subst hcs
  exact ⟨x0, A, c, L, rfl, h2, h4⟩
end
#print axioms open_tank
end Go.Proofs.YtgmlccjjhmhgbaaGreat.Tank
