/- Slices of strings and tables in memory; what a step leaves as it was. -/
import Derived.Test.YtbmedekfhifcpaaIdentB
import Derived.Maps.AppendAt
namespace Go.Proofs.Ytbmedekfhifcpaa.Ident
open Go.ChangeShapes Go.WideShapes Go.RowKit
set_option linter.unusedVariables false
set_option maxRecDepth 100000

/-- Of what was there all but the blocks in S is as it was. -/
structure Off (S : Nat → Prop) (w w' : World) : Prop where
  os : w'.os = w.os
  tape : w'.tape = w.tape
  output : w'.output = w.output
  size : w.heap.size ≤ w'.heap.size
  block : ∀ k, k < w.heap.size → ¬ S k → w'.heap[k]? = w.heap[k]?
theorem Off.refl (S : Nat → Prop) (w : World) : Off S w w := ⟨rfl, rfl, rfl, Nat.le_refl _, fun _ _ _ => rfl⟩
theorem Off.trans {S S' : Nat → Prop} {a b c : World} (h : Off S a b) (k : Off S' b c) (hs : ∀ x, S' x → S x ∨ a.heap.size ≤ x) : Off S a c :=
  ⟨k.os.trans h.os, k.tape.trans h.tape, k.output.trans h.output, Nat.le_trans h.size k.size, fun i hi hn =>
    (k.block i (Nat.lt_of_lt_of_le hi h.size) fun e => by rcases hs i e with h1 | h1; exact hn h1; omega).trans (h.block i hi hn)⟩
theorem Off.mono {S S' : Nat → Prop} {a b : World} (h : Off S a b) (hs : ∀ x, x < a.heap.size → S x → S' x) : Off S' a b :=
  ⟨h.os, h.tape, h.output, h.size, fun i hi hn => h.block i hi fun e => hn (hs i hi e)⟩
theorem Off.below {S : Nat → Prop} {a b : World} {B : Nat} (h : Off S a b) (hB : B ≤ a.heap.size) (hs : ∀ x, S x → B ≤ x) : Below B a b :=
  ⟨h.os, h.tape, h.output, h.size, fun i hi => h.block i (by omega) fun e => by have := hs i e; omega⟩
theorem Off.of_below {S : Nat → Prop} {a b : World} (h : Below a.heap.size a b) : Off S a b := ⟨h.os, h.tape, h.output, h.size, fun i hi _ => h.block i hi⟩
theorem Off.alloc {S : Nat → Prop} {a b : World} (h : Off S a b) (o : Obj) : Off S a (b.alloc o) :=
  h.trans (Off.of_below (S := fun _ => False) ((Below.refl _ _).alloc (Nat.le_refl _) _)) fun x e => e.elim
theorem Off.drew {S : Nat → Prop} {a b : World} (h : Off S a b) : Off S a b.drew := ⟨h.os, h.tape, h.output, h.size, h.block⟩
theorem Off.set {S : Nat → Prop} {a b : World} (h : Off S a b) {p : Addr} (hp : S p.block ∨ a.heap.size ≤ p.block) (u : Value) : Off S a (b.setCell p u) :=
  h.trans (S' := fun k => k = p.block) ⟨rfl, rfl, rfl, by simp [World.setCell], fun i hi hn => Below.heap_setCell _ _ _ _ hn⟩ fun x e => e ▸ hp
theorem Off.grown {S : Nat → Prop} {a b c : World} {row : Option Nat} (h : Off S a b) (hg : b.grownBy c row) (hr : ∀ k, row = some k → S k ∨ a.heap.size ≤ k) : Off S a c :=
  h.trans (S' := fun k => row = some k) ⟨hg.os, hg.tape, hg.output, hg.size, fun i hi hn => hg.block i hi fun e => hn e.symm⟩ fun x e => hr x e
theorem below_alloc (w : World) (o : Obj) : Below w.heap.size w (w.alloc o) := (Below.refl _ _).alloc (Nat.le_refl _) _
theorem bstep {a b c : World} (h : Below a.heap.size a b) (k : Below b.heap.size b c) : Below a.heap.size a c := h.trans (k.mono h.size)
theorem below_drewN {B : Nat} {a w : World} (h : Below B a w) (n : Nat) : Below B a (w.drewN n) := ⟨h.os, h.tape, h.output, h.size, h.block⟩
theorem get_lt {α : Type} {L : List α} {k : Nat} (h : k < L.length) : ∃ s, L[k]? = some s := ⟨_, List.getElem?_eq_getElem h⟩
theorem lt_get {α : Type} {L : List α} {k : Nat} {s : α} (h : L[k]? = some s) : k < L.length := by
  rcases Nat.lt_or_ge k L.length with h1 | h1
  · exact h1
  · rw [List.getElem?_eq_none h1] at h; cases h
theorem take_snoc_of {α : Type} {l : List α} {k : Nat} {z : α} (h : l[k]? = some z) : l.take (k + 1) = l.take k ++ [z] := by
  rw [List.take_add_one, h]; rfl

/-! ### Slices of strings -/
/-- At the address lie the strings L. -/
def Strs (w : World) (A : Option Addr) (L : List ByteArray) : Prop :=
  ∀ (k : Nat) (s : ByteArray), L[k]? = some s → ∃ b off, A = some ⟨b, off, none⟩ ∧ b < w.heap.size ∧ w.cell? ⟨b, off + k, none⟩ = some (.string s)
def Siz (L : List ByteArray) : Prop := ∀ s ∈ L, s.size ≤ maxLen
theorem Siz.at_ {L : List ByteArray} (h : Siz L) {k : Nat} {s : ByteArray} (hk : L[k]? = some s) : s.size ≤ 9223372036854775807 ∧ s.size ≤ maxLen := by
  have := h s (List.mem_of_getElem? hk)
  exact ⟨by unfold maxLen at this; omega, this⟩
theorem Strs.nil (w : World) (A : Option Addr) : Strs w A [] := fun k s h => by simp at h
theorem Strs.keep {w w' : World} {A : Option Addr} {L : List ByteArray} (h : Strs w A L) (hs : w.heap.size ≤ w'.heap.size) (hk : ∀ b off, A = some ⟨b, off, none⟩ → b < w.heap.size → w'.heap[b]? = w.heap[b]?) : Strs w' A L := by
  intro k s hl
  obtain ⟨b, off, e, hlt, hc⟩ := h k s hl
  exact ⟨b, off, e, by omega, (World.cell?_of_block (a := ⟨b, off + k, none⟩) (hk b off e hlt)).trans hc⟩
theorem Strs.on {w w' : World} {A : Option Addr} {L : List ByteArray} (h : Strs w A L) (hb : Below w.heap.size w w') : Strs w' A L := h.keep hb.size fun b _ _ hlt => hb.block b hlt
theorem Strs.take {w : World} {A : Option Addr} {L : List ByteArray} (h : Strs w A L) (n : Nat) : Strs w A (L.take n) := by
  intro k s hk
  rw [List.getElem?_take] at hk
  split at hk
  · exact h k s hk
  · cases hk
/-- A slice of the call's own that holds the strings L. -/
def OwnS (w : World) (v : Value) (L : List ByteArray) : Prop := w.ownsRow 0 9 1 v L.length (L.map Value.string)
theorem OwnS.nil (w : World) : OwnS w (.slice none 0 0) [] := World.ownsRow_nil _ _ _ _
theorem OwnS.open_ {w : World} {v : Value} {L : List ByteArray} (h : OwnS w v L) :
    (v = .slice none 0 0 ∧ L = []) ∨ (∃ g c, v = .slice (some ⟨g, 0, none⟩) L.length c ∧ L.length ≤ c ∧ c ≤ maxLen ∧ Strs w (some ⟨g, 0, none⟩) L ∧ g < w.heap.size) := by
  obtain ⟨h1, ⟨rfl, h2⟩ | ⟨g, cap, cur, rfl, h2, h3, h4, h5, h6, h7⟩⟩ := h
  · exact Or.inl ⟨rfl, List.eq_nil_of_length_eq_zero h2⟩
  · refine Or.inr ⟨g, cap, rfl, h4, h5, fun k z hz => ⟨g, 0, rfl, (Array.getElem?_eq_some_iff.mp h3).1, ?_⟩, (Array.getElem?_eq_some_iff.mp h3).1⟩
    rw [cell_of_row w g _ cur _ (0, 0) h3, Nat.zero_add]
    have hu : (cur.toList.take (L.length * 1))[k]? = some (.string z) := by rw [h7, List.getElem?_map, hz]; rfl
    rw [List.getElem?_take] at hu
    split at hu
    · simpa using hu
    · cases hu
/-- Its value, in one form. -/
theorem OwnS.one {w : World} {v : Value} {L : List ByteArray} (h : OwnS w v L) : ∃ A c, v = .slice A L.length c ∧ L.length ≤ c ∧ c ≤ maxLen ∧ Strs w A L ∧ (∀ a, A = some a → a.spot = none ∧ a.off = 0 ∧ a.block < w.heap.size) ∧ v.ownBlock = A.map (·.block) := by
  rcases h.open_ with ⟨rfl, rfl⟩ | ⟨g, c, rfl, h1, h2, h3, h4⟩
  · exact ⟨none, 0, rfl, Nat.le_refl _, by unfold maxLen; omega, Strs.nil _ _, by simp, rfl⟩
  · exact ⟨_, c, rfl, h1, h2, h3, fun a e => by cases e; exact ⟨rfl, rfl, h4⟩, rfl⟩
theorem OwnS.keep {w w' : World} {v : Value} {L : List ByteArray} (h : OwnS w v L) (hk : ∀ k, v.ownBlock = some k → w'.heap[k]? = w.heap[k]?) : OwnS w' v L := by
  obtain ⟨h1, h0 | ⟨g, cap, cur, rfl, h2, h3, h4⟩⟩ := h
  · exact ⟨h1, Or.inl h0⟩
  · exact ⟨h1, Or.inr ⟨g, cap, cur, rfl, h2, (hk g rfl).trans h3, h4⟩⟩
theorem OwnS.lt {w : World} {v : Value} {L : List ByteArray} (h : OwnS w v L) : ∀ k, v.ownBlock = some k → k < w.heap.size := fun k hk => (World.ownsRow.lt h k hk).2
theorem OwnS.alloc {w : World} {v : Value} {L : List ByteArray} (h : OwnS w v L) (o : Obj) : OwnS (w.alloc o) v L := World.ownsRow.alloc h o
theorem own_empty (w : World) : OwnS (w.alloc (.cells #[] 9)) (.slice (some ⟨w.heap.size, 0, none⟩) 0 0) [] :=
  World.ownsRow_lit (base := 0) (e := 9) (size := 1) w #[] 0 (Nat.zero_le _) (by unfold maxLen; omega) rfl
theorem info_string : (Try.prog.info? 9).map (fun i => (i.zero, i.size, i.bytes)) = some (some (.string ByteArray.empty), 1, 16) := by kernel_rfl
theorem run_append_empty {P : Program} {w : World} (base : Nat) (t ty e : TypeId) (i : TypeInfo) (size c : Nat) (ht : P.underlying t = some (.slice e)) (hi : P.info? e = some i)
    (v : Value) (n : Nat) (xs : List Value) (hown : w.ownsRow base e size v n xs) :
    (Builtin.append_ #[t, t] ty #[v, .slice none 0 c]).run P w = .ok v w := by
  rcases hown.2 with ⟨rfl, rfl⟩ | ⟨g, cap, cur, rfl, _, _, hnc, _⟩
  · simp [Builtin.append_, run_underlying ht, sizeOf, typeInfo, hi, Builtin.lenOf, Builtin.firstCells]
  · simp [Builtin.append_, run_underlying ht, sizeOf, typeInfo, hi, Builtin.lenOf, Builtin.firstCells, hnc, storeCells]
theorem wpList_append_empty {P : Program} {w : World} {ops : Array Oper} {rest : List Oper} {o : Oper} {a : Act} {Q : Exit → Act → World → Prop} (hgd : o.guard = none) (s x : Operand) (t : TypeId)
    (ho : o.op = .call { callee := .builtin .append, args := #[s, x], argTypes := #[t, t] })
    (base : Nat) (e : TypeId) (i : TypeInfo) (size c : Nat) (ht : P.underlying t = some (.slice e)) (hi : P.info? e = some i)
    (v : Value) (n : Nat) (xs : List Value) (hs : a.eval s = v) (hown : w.ownsRow base e size v n xs) (hx : a.eval x = .slice none 0 c)
    (h : wpList P ops Q rest (a.put o.dst v) w) : wpList P ops Q (o :: rest) a w := by
  refine wpList_plain hgd fun K hK => ?_
  have hrun := run_append_empty (P := P) (w := w) base t o.type e i size c ht hi v n xs hown
  unfold Oper.wp
  simp [execOp, ho, resolve, invoke, builtin, hs, hx, hrun, Result.andThen]
  exact hK _ _ h
theorem cells_strs {L : List ByteArray} : ∀ u ∈ L.map Value.string, u.oneCell' = true := by
  intro u hu
  obtain ⟨z, _, rfl⟩ := List.mem_map.mp hu
  rfl
/-- 'append(s, x...)', s the call's own, x a slice of strings that is there. -/
theorem append_strs {w : World} {ops : Array Oper} {rest : List Oper} {o : Oper} {a : Act} {Q : Exit → Act → World → Prop} (hgd : o.guard = none) (s x : Operand)
    (ho : o.op = .call { callee := .builtin .append, args := #[s, x], argTypes := #[24, 24] })
    (v : Value) (ds : List ByteArray) (hs : a.eval s = v) (hown : OwnS w v ds)
    (A : Option Addr) (c : Nat) (L : List ByteArray) (m : Nat) (hm : m = L.length) (hx : a.eval x = .slice A m c) (hz : Strs w A L)
    (hlen : ds.length + L.length ≤ 1000000)
    (h : ∀ v' w', OwnS w' v' (ds ++ L) → w.grownBy w' v.ownBlock → (v'.ownBlock = v.ownBlock ∨ v'.ownBlock = some w.heap.size) → wpList Try.prog ops Q rest (a.put o.dst v') w') : wpList Try.prog ops Q (o :: rest) a w := by
  subst hm
  obtain ⟨i0, hi0, hz0, hz1, hz2⟩ := info_parts info_string
  cases A with
  | none =>
    have hnil : L = [] := by
      cases L with
      | nil => rfl
      | cons z zs => obtain ⟨b, off, hA, _⟩ := hz 0 z rfl; cases hA
    subst hnil
    refine wpList_append_empty hgd s x _ ho 0 9 i0 1 c Try.underlying24 hi0 v ds.length _ hs hown hx (h v w (by rw [List.append_nil]; exact hown) ⟨rfl, rfl, rfl, Nat.le_refl _, fun _ _ _ => rfl⟩ (Or.inl rfl))
  | some ad =>
    refine wpList_append_own_at w hgd s x _ ho 0 9 i0 (.string ByteArray.empty) 1 16 Try.underlying24 hi0 hz0 hz1 hz2 rfl (by decide) v ds.length _ hs hown ad L.length c (L.map Value.string) hx (by simp) ?_ cells_strs (by unfold maxLen; omega) (by omega) (Nat.zero_le _) ?_
    · intro j u hj
      rw [List.getElem?_map] at hj
      cases hzj : L[j]? with
      | none => rw [hzj] at hj; cases hj
      | some z =>
        rw [hzj] at hj
        obtain ⟨b, off, e, _, hc⟩ := hz j z hzj
        cases e
        rw [Addr.add_lit, hc]; exact hj
    · intro v' w' hown' hg _ hat
      exact h v' w' (by unfold OwnS; rw [List.length_append, List.map_append]; exact hown') hg hat
/-- A block of one string, as the source of an append. -/
theorem strs_one (w : World) (s : ByteArray) (t : TypeId) : Strs (w.alloc (.cells #[.string s] t)) (some ⟨w.heap.size, 0, none⟩) [s] := by
  intro k z hz
  match k, hz with
  | 0, hz => simp at hz; subst hz; exact ⟨_, 0, rfl, by simp, by simp⟩

/-! ### Tables -/
theorem law_string : Maps.Keyed Try.prog 9 := Maps.string_keyed Try.underlying9
theorem zero_int (w : World) : (zeroValue 3).run Try.prog w = .ok (.int .i64 0) w := by kernel_rfl
theorem frozen_of {W : World} {g : Nat} {cs : Array Value} {t : TypeId} (h : W.heap[g]? = some (.cells cs t (0, 0))) (i : Nat) : W.frozen? ⟨g, i, none⟩ = false := by simp [World.frozen?, h]
/-- A map's block, kept. -/
theorem map_keep {w w' : World} {bm n : Nat} {D : DataW Unit} (h : w.ownsMap Try.prog 9 (plainElem Try.prog 3) bm n D) (hk : w'.heap[bm]? = w.heap[bm]?) : w'.ownsMap Try.prog 9 (plainElem Try.prog 3) bm n D := by
  obtain ⟨es, clock, hb, r⟩ := h
  exact ⟨es, clock, hk.trans hb, r⟩
/-- The table at block b has the names L; its blocks are in S. -/
structure Tb (w : World) (b : Nat) (S : Nat → Prop) (L : List ByteArray) : Prop where
  good : Good L
  sb : S b
  lt : ∀ k, S k → k < w.heap.size
  ex : ∃ bm v D, w.heap[b]? = some (.cells #[v, .map (some bm)] 62 (0, 0)) ∧ OwnS w v L ∧ w.ownsMap Try.prog 9 (plainElem Try.prog 3) bm L.length D ∧ Dct D L ∧
    S bm ∧ b ≠ bm ∧ (∀ g, v.ownBlock = some g → S g ∧ g ≠ b ∧ g ≠ bm)
/-- The reference's table. -/
structure Rt (w : World) (b : Nat) (S : Nat → Prop) (L : List ByteArray) : Prop where
  good : Good L
  sb : S b
  lt : ∀ k, S k → k < w.heap.size
  ex : ∃ v, w.heap[b]? = some (.cells #[v] 35 (0, 0)) ∧ OwnS w v L ∧ (∀ g, v.ownBlock = some g → S g ∧ g ≠ b)
theorem Tb.keep {w w' : World} {b : Nat} {S : Nat → Prop} {L : List ByteArray} (h : Tb w b S L) (hs : w.heap.size ≤ w'.heap.size) (hk : ∀ k, S k → w'.heap[k]? = w.heap[k]?) : Tb w' b S L := by
  obtain ⟨bm, v, D, h1, h2, h3, h4, h5, h6, h7⟩ := h.ex
  exact ⟨h.good, h.sb, fun k hk => Nat.lt_of_lt_of_le (h.lt k hk) hs, bm, v, D, (hk b h.sb).trans h1, h2.keep fun k e => hk k (h7 k e).1, map_keep h3 (hk bm h5), h4, h5, h6, h7⟩
theorem Tb.off {w w' : World} {b : Nat} {S S' : Nat → Prop} {L : List ByteArray} (h : Tb w b S L) (ho : Off S' w w') (hd : ∀ k, S k → ¬ S' k) : Tb w' b S L :=
  h.keep ho.size fun k hk => ho.block k (h.lt k hk) (hd k hk)
theorem Tb.on {w w' : World} {b : Nat} {S : Nat → Prop} {L : List ByteArray} (h : Tb w b S L) (hb : Below w.heap.size w w') : Tb w' b S L :=
  h.keep hb.size fun k hk => hb.block k (h.lt k hk)
theorem Rt.keep {w w' : World} {b : Nat} {S : Nat → Prop} {L : List ByteArray} (h : Rt w b S L) (hs : w.heap.size ≤ w'.heap.size) (hk : ∀ k, S k → w'.heap[k]? = w.heap[k]?) : Rt w' b S L := by
  obtain ⟨v, h1, h2, h7⟩ := h.ex
  exact ⟨h.good, h.sb, fun k hk => Nat.lt_of_lt_of_le (h.lt k hk) hs, v, (hk b h.sb).trans h1, h2.keep fun k e => hk k (h7 k e).1, h7⟩
theorem Rt.off {w w' : World} {b : Nat} {S S' : Nat → Prop} {L : List ByteArray} (h : Rt w b S L) (ho : Off S' w w') (hd : ∀ k, S k → ¬ S' k) : Rt w' b S L :=
  h.keep ho.size fun k hk => ho.block k (h.lt k hk) (hd k hk)
theorem Rt.on {w w' : World} {b : Nat} {S : Nat → Prop} {L : List ByteArray} (h : Rt w b S L) (hb : Below w.heap.size w w') : Rt w' b S L :=
  h.keep hb.size fun k hk => hb.block k (h.lt k hk)
/-- What the walks read of a table. -/
theorem Tb.reads {w : World} {b : Nat} {S : Nat → Prop} {L : List ByteArray} (h : Tb w b S L) :
    ∃ A c bm D, w.cell? ⟨b, 0, none⟩ = some (.slice A L.length c) ∧ w.cell? ⟨b, 1, none⟩ = some (.map (some bm)) ∧ w.frozen? ⟨b, 0, none⟩ = false ∧ OwnS w (.slice A L.length c) L ∧ Strs w A L ∧
      w.ownsMap Try.prog 9 (plainElem Try.prog 3) bm L.length D ∧ Dct D L ∧ w.heap[b]? = some (.cells #[.slice A L.length c, .map (some bm)] 62 (0, 0)) ∧
      S bm ∧ b ≠ bm ∧ (∀ g, (Value.slice A L.length c).ownBlock = some g → S g ∧ g ≠ b ∧ g ≠ bm) := by
  obtain ⟨bm, v, D, h1, h2, h3, h4, h5, h6, h7⟩ := h.ex
  obtain ⟨A, c, rfl, -, -, hs, -, -⟩ := h2.one
  exact ⟨A, c, bm, D, by rw [cell_of_row _ _ _ _ _ _ h1]; rfl, by rw [cell_of_row _ _ _ _ _ _ h1]; rfl, frozen_of h1 _, h2, hs, h3, h4, h1, h5, h6, h7⟩
theorem Rt.reads {w : World} {b : Nat} {S : Nat → Prop} {L : List ByteArray} (h : Rt w b S L) :
    ∃ A c, w.cell? ⟨b, 0, none⟩ = some (.slice A L.length c) ∧ w.frozen? ⟨b, 0, none⟩ = false ∧ OwnS w (.slice A L.length c) L ∧ Strs w A L ∧
      w.heap[b]? = some (.cells #[.slice A L.length c] 35 (0, 0)) ∧ (∀ g, (Value.slice A L.length c).ownBlock = some g → S g ∧ g ≠ b) := by
  obtain ⟨v, h1, h2, h7⟩ := h.ex
  obtain ⟨A, c, rfl, -, -, hs, -, -⟩ := h2.one
  exact ⟨A, c, by rw [cell_of_row _ _ _ _ _ _ h1]; rfl, frozen_of h1 _, h2, hs, h1, h7⟩
/-- What Add leaves: the table of other names, its old blocks and new ones; all else as it was. -/
def Adds (w : World) (b : Nat) (S : Nat → Prop) (L : List ByteArray) (w' : World) : Prop := ∃ S', Tb w' b S' L ∧ (∀ k, S' k → S k ∨ w.heap.size ≤ k) ∧ Off S w w'
def RAdds (w : World) (b : Nat) (S : Nat → Prop) (L : List ByteArray) (w' : World) : Prop := ∃ S', Rt w' b S' L ∧ (∀ k, S' k → S k ∨ w.heap.size ≤ k) ∧ Off S w w'
theorem Tb.stay {w : World} {b : Nat} {S : Nat → Prop} {L : List ByteArray} (h : Tb w b S L) : Adds w b S L w := ⟨S, h, fun _ hk => Or.inl hk, Off.refl _ _⟩
theorem Rt.stay {w : World} {b : Nat} {S : Nat → Prop} {L : List ByteArray} (h : Rt w b S L) : RAdds w b S L w := ⟨S, h, fun _ hk => Or.inl hk, Off.refl _ _⟩
#print axioms append_strs
#print axioms Tb.reads
end Go.Proofs.Ytbmedekfhifcpaa.Ident
