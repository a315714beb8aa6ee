/- Slices of slices of bytes. -/
import Derived.Test.YtahgkohnamnljaaDoorWireB
namespace Go.Proofs.YtahgkohnamnljaaDoor.Crc
open Go.ChangeShapes Go.WideShapes Go.RowKit
open Wire (Byt InY OwnY below_alloc lt_get bstep cells)
set_option linter.unusedVariables false
set_option maxRecDepth 100000

theorem byt_keep {w w' : World} {A : Option Addr} {l : List UInt8} (h : Byt w A l) (hs : w.heap.size ≤ w'.heap.size) (hk : ∀ b off, A = some ⟨b, off, none⟩ → b < w.heap.size → w'.heap[b]? = w.heap[b]?) : Byt w' A l := by
  intro k z hz
  obtain ⟨b, off, e, hlt, h0⟩ := h k z hz
  exact ⟨b, off, e, Nat.lt_of_lt_of_le hlt hs, (World.cell?_of_block (a := ⟨b, off + k, none⟩) (hk b off e hlt)).trans h0⟩
/-- At the address lie slices of the bytes of each list. -/
def Grd (w : World) (A : Option Addr) (M : List (List UInt8)) : Prop :=
  ∀ (k : Nat) (l : List UInt8), M[k]? = some l → ∃ b off, A = some ⟨b, off, none⟩ ∧ b < w.heap.size ∧
    ∃ A' c', w.cell? ⟨b, off + k, none⟩ = some (.slice A' l.length c') ∧ l.length ≤ c' ∧ c' ≤ maxLen ∧ Byt w A' l
theorem Grd.nil (w : World) (A : Option Addr) : Grd w A [] := fun k s h => by simp at h
theorem Grd.on {w w' : World} {A : Option Addr} {M : List (List UInt8)} (h : Grd w A M) (hb : Below w.heap.size w w') : Grd w' A M := by
  intro k l hk
  obtain ⟨b, off, e, hlt, A', c', hc, h1, h2, h3⟩ := h k l hk
  exact ⟨b, off, e, Nat.lt_of_lt_of_le hlt hb.size, A', c', (hb.cell (p := ⟨b, off + k, none⟩) hlt).trans hc, h1, h2, h3.on hb⟩
/-- A slice of the call's own that holds such slices, none of them in its own block. -/
def OwnG (B : Nat) (w : World) (v : Value) (M : List (List UInt8)) : Prop :=
  ∃ xs, w.ownsRow B 22 1 v M.length xs ∧ ∀ (k : Nat) (l : List UInt8), M[k]? = some l →
    ∃ A c, xs[k]? = some (.slice A l.length c) ∧ l.length ≤ c ∧ c ≤ maxLen ∧ Byt w A l ∧ ∀ a, A = some a → v.ownBlock ≠ some a.block ∧ a.block < w.heap.size
theorem OwnG.nil (B : Nat) (w : World) : OwnG B w (.slice none 0 0) [] := ⟨[], World.ownsRow_nil _ _ _ _, fun k L h => by simp at h⟩
theorem OwnG.lt {B : Nat} {w : World} {v : Value} {M : List (List UInt8)} (h : OwnG B w v M) : ∀ k, v.ownBlock = some k → k < w.heap.size := fun k hk => by obtain ⟨xs, h1, _⟩ := h; exact (World.ownsRow.lt h1 k hk).2
theorem OwnG.ge {B : Nat} {w : World} {v : Value} {M : List (List UInt8)} (h : OwnG B w v M) : ∀ k, v.ownBlock = some k → B ≤ k := fun k hk => by obtain ⟨xs, h1, _⟩ := h; exact (World.ownsRow.lt h1 k hk).1
theorem row_keep {B : Nat} {e : TypeId} {w w' : World} {v : Value} {n : Nat} {xs : List Value} (h : w.ownsRow B e 1 v n xs) (hk : ∀ k, v.ownBlock = some k → w'.heap[k]? = w.heap[k]?) : w'.ownsRow B e 1 v n xs := by
  obtain ⟨h1, h0 | ⟨g, cap, cur, rfl, h2, h3, h4⟩⟩ := h
  · exact ⟨h1, Or.inl h0⟩
  · exact ⟨h1, Or.inr ⟨g, cap, cur, rfl, h2, (hk g rfl).trans h3, h4⟩⟩
theorem OwnG.on {B : Nat} {w w' : World} {v : Value} {M : List (List UInt8)} (h : OwnG B w v M) (hb : Below w.heap.size w w') : OwnG B w' v M := by
  have hlt := h.lt
  obtain ⟨xs, h1, h2⟩ := h
  refine ⟨xs, row_keep h1 fun k hk => hb.block k (hlt k hk), fun k L hk => ?_⟩
  obtain ⟨A, c, hx, g1, g2, g3, g4⟩ := h2 k L hk
  exact ⟨A, c, hx, g1, g2, g3.on hb, fun a e => ⟨(g4 a e).1, Nat.lt_of_lt_of_le (g4 a e).2 hb.size⟩⟩
theorem OwnG.grd {B : Nat} {w : World} {v : Value} {M : List (List UInt8)} (h : OwnG B w v M) : ∃ A c, v = .slice A M.length c ∧ M.length ≤ c ∧ c ≤ maxLen ∧ Grd w A M := by
  obtain ⟨xs, ⟨h1, ⟨rfl, h0⟩ | ⟨g, cap, cur, rfl, h2, h3, h4, h5, h6, h7⟩⟩, hx⟩ := h
  · have : M = [] := List.eq_nil_of_length_eq_zero h0
    subst this
    exact ⟨none, 0, rfl, Nat.le_refl _, by unfold maxLen; omega, Grd.nil _ _⟩
  · refine ⟨_, cap, rfl, h4, h5, fun k L hk => ?_⟩
    obtain ⟨A, c, e, g1, g2, g3, g4⟩ := hx k L hk
    refine ⟨g, 0, rfl, (Array.getElem?_eq_some_iff.mp h3).1, A, c, ?_, g1, g2, g3⟩
    rw [cell_of_row w g _ cur _ (0, 0) h3, Nat.zero_add]
    rw [← h7, List.getElem?_take] at e
    split at e
    · simpa using e
    · cases e
theorem info_bytes : (Tryd.prog.info? 22).map (fun i => (i.zero, i.size, i.bytes)) = some (some (.slice none 0 0), 1, 24) := by kernel_rfl
theorem sl_one (w : World) (A : Option Addr) (n c : Nat) (t : TypeId) {g : Nat} (hg : w.heap.size = g) : (w.alloc (.cells #[.slice A n c] t)).cell? ⟨g, 0, none⟩ = some (.slice A n c) := by subst hg; simp
theorem ownG_below {B : Nat} {w w' : World} {v : Value} {M : List (List UInt8)} (h : OwnG B w v M) (hg : w.grownBy w' v.ownBlock) (hB : B ≤ w.heap.size) : Below B w w' :=
  ⟨hg.os, hg.tape, hg.output, hg.size, fun i hi => hg.block i (Nat.lt_of_lt_of_le hi hB) fun e => by have := h.ge i e.symm; omega⟩
theorem OwnG.alloc {B : Nat} {w : World} {v : Value} {M : List (List UInt8)} (h : OwnG B w v M) (o : Obj) : OwnG B (w.alloc o) v M := h.on (below_alloc w o)
/-- 'append(s, x)', x a slice of bytes in a block of its own; T: the type of the slice of slices. -/
theorem append_bytes (T : TypeId) (hT : Tryd.prog.underlying T = some (.slice 22)) {w : World} {ops : Array Oper} {rest : List Oper} {o : Oper} {a : Act} {Q : Exit → Act → World → Prop} (hgd : o.guard = none) (s x : Operand)
    (ho : o.op = .call { callee := .builtin .append, args := #[s, x], argTypes := #[T, T] })
    (B : Nat) (v : Value) (M : List (List UInt8)) (hs : a.eval s = v) (hown : OwnG B w v M) (g c0 : Nat) (A : Option Addr) (l : List UInt8) (m c : Nat) (hm : m = l.length) (hx : a.eval x = .slice (some ⟨g, 0, none⟩) 1 c0) (hz : w.cell? ⟨g, 0, none⟩ = some (.slice A m c))
    (hc : l.length ≤ c) (hc2 : c ≤ maxLen) (hL : Byt w A l) (hA : ∀ a, A = some a → v.ownBlock ≠ some a.block) (hAl : ∀ a, A = some a → a.block < w.heap.size)
    (hlen : M.length + 1 ≤ 1000000) (hB : B ≤ w.heap.size)
    (h : ∀ v' w', OwnG B w' v' (M ++ [l]) → Below B w w' → wpList Tryd.prog ops Q rest (a.put o.dst v') w') : wpList Tryd.prog ops Q (o :: rest) a w := by
  subst hm
  obtain ⟨i0, hi0, hz0, hz1, hz2⟩ := info_parts info_bytes
  have hlt := hown.lt
  have hown0 := hown
  obtain ⟨xs, h1, h2⟩ := hown
  have hxl : xs.length = M.length := by have := h1.1; omega
  refine wpList_append_own_at w hgd s x _ ho B 22 i0 (.slice none 0 0) 1 24 hT hi0 hz0 hz1 hz2 rfl (by decide) v M.length xs hs h1 ⟨g, 0, none⟩ 1 c0 [.slice A l.length c] hx rfl ?_ (by intro u hu; simp at hu; subst hu; rfl) (by unfold maxLen; omega) (by omega) hB ?_
  · intro j u hj
    match j, hj with
    | 0, hj => simp at hj; subst hj; rw [Addr.add_lit]; exact hz
  · intro v' w' hown' hg _ hat
    refine h v' w' ⟨xs ++ [.slice A l.length c], by rw [List.length_append, List.length_singleton]; exact hown', ?_⟩ (ownG_below hown0 hg hB)
    intro k L' hk
    have keep : ∀ (A' : Option Addr) (L' : List UInt8), Byt w A' L' → (∀ a, A' = some a → v.ownBlock ≠ some a.block) → Byt w' A' L' := fun A' L' hS hA' =>
      byt_keep hS hg.size fun b off e hlt => hg.block b hlt fun e2 => hA' ⟨b, off, none⟩ e e2.symm
    have sep : ∀ (A' : Option Addr), (∀ a, A' = some a → v.ownBlock ≠ some a.block) → (∀ a, A' = some a → a.block < w.heap.size) → ∀ a, A' = some a → v'.ownBlock ≠ some a.block ∧ a.block < w'.heap.size := fun A' h1 h2 a e => ⟨fun e2 => by
      rcases hat with e3 | e3
      · exact h1 a e (e3.symm.trans e2)
      · rw [e3] at e2
        have := h2 a e
        have := Option.some.inj e2
        omega, Nat.lt_of_lt_of_le (h2 a e) hg.size⟩
    rcases Nat.lt_or_ge k M.length with hl | hl
    · rw [List.getElem?_append_left hl] at hk
      obtain ⟨A', c', hx', g1, g2, g3, g4⟩ := h2 k L' hk
      exact ⟨A', c', by rw [List.getElem?_append_left (by omega)]; exact hx', g1, g2, keep _ _ g3 (fun a e => (g4 a e).1), sep A' (fun a e => (g4 a e).1) (fun a e => (g4 a e).2)⟩
    · have : k = M.length := by have := lt_get hk; simp at this; omega
      subst this
      rw [List.getElem?_append_right (Nat.le_refl _), Nat.sub_self] at hk
      simp at hk; subst hk
      exact ⟨A, c, by rw [← hxl, List.getElem?_append_right (Nat.le_refl _), Nat.sub_self]; rfl, hc, hc2, keep _ _ hL hA, sep A hA hAl⟩
/-- What an own slice of bytes gives for it: made behind the slice of slices. -/
theorem own_apart {B B' : Nat} {w : World} {v u : Value} {M : List (List UInt8)} {l : List UInt8} {w0 : World} (h : OwnG B w0 v M) (hB : w0.heap.size ≤ B') (hu : OwnY B' w u l) :
    ∃ A c, u = .slice A l.length c ∧ l.length ≤ c ∧ c ≤ maxLen ∧ Byt w A l ∧ (∀ a, A = some a → v.ownBlock ≠ some a.block) ∧ ∀ a, A = some a → a.block < w.heap.size := by
  obtain ⟨A, c, e, h1, h2, h3⟩ := hu.inY
  refine ⟨A, c, e, h1, h2, h3, fun a ea e2 => ?_, fun a ea => ?_⟩
  · subst e ea
    have hlt := h.lt _ e2
    obtain ⟨_, ⟨h0, _⟩ | ⟨g, cap, cur, h0, hg, _⟩⟩ := hu
    · cases h0
    · cases h0
      have h5 : g < w0.heap.size := hlt
      omega
  · subst e ea
    obtain ⟨_, ⟨h0, _⟩ | ⟨g, cap, cur, h0, hg, hc, _⟩⟩ := hu
    · cases h0
    · cases h0
      exact (Array.getElem?_eq_some_iff.mp hc).1
#print axioms append_bytes
#print axioms own_apart
end Go.Proofs.YtahgkohnamnljaaDoor.Crc
