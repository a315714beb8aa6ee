/- Several texts in one: IdentC, IdentD, IdentE, FibreI. -/
import Derived.Test.YtgomokdklajlcaaPk8
import Derived.Maps.AppendAt
import Derived.Test.YtgomokdklajlcaaPk12
/- Slices of strings and tables in memory; what a step leaves as it was. -/
namespace Go.Proofs.Ytgomokdklajlcaa.Ident
open Go.ChangeShapes Go.WideShapes Go.RowKit
set_option linter.unusedVariables false
set_option maxRecDepth 100000

/-- Of what was there all but the blocks in S is as it was. -/
structure Off (S : Nat → Prop) (w w' : World) : Prop where
  os : w'.os = w.os
  tape : w'.tape = w.tape
  output : w'.output = w.output
  size : w.heap.size ≤ w'.heap.size
  block : ∀ k, k < w.heap.size → ¬ S k → w'.heap[k]? = w.heap[k]?
theorem Off.refl (S : Nat → Prop) (w : World) : Off S w w := ⟨rfl, rfl, rfl, Nat.le_refl _, fun _ _ _ => rfl⟩
theorem Off.trans {S S' : Nat → Prop} {a b c : World} (h : Off S a b) (k : Off S' b c) (hs : ∀ x, S' x → S x ∨ a.heap.size ≤ x) : Off S a c :=
  ⟨k.os.trans h.os, k.tape.trans h.tape, k.output.trans h.output, Nat.le_trans h.size k.size, fun i hi hn =>
    (k.block i (Nat.lt_of_lt_of_le hi h.size) fun e => by rcases hs i e with h1 | h1; exact hn h1; omega).trans (h.block i hi hn)⟩
theorem Off.mono {S S' : Nat → Prop} {a b : World} (h : Off S a b) (hs : ∀ x, x < a.heap.size → S x → S' x) : Off S' a b :=
  ⟨h.os, h.tape, h.output, h.size, fun i hi hn => h.block i hi fun e => hn (hs i hi e)⟩
theorem Off.below {S : Nat → Prop} {a b : World} {B : Nat} (h : Off S a b) (hB : B ≤ a.heap.size) (hs : ∀ x, S x → B ≤ x) : Below B a b :=
  ⟨h.os, h.tape, h.output, h.size, fun i hi => h.block i (by omega) fun e => by have := hs i e; omega⟩
theorem Off.of_below {S : Nat → Prop} {a b : World} (h : Below a.heap.size a b) : Off S a b := ⟨h.os, h.tape, h.output, h.size, fun i hi _ => h.block i hi⟩
theorem Off.alloc {S : Nat → Prop} {a b : World} (h : Off S a b) (o : Obj) : Off S a (b.alloc o) :=
  h.trans (Off.of_below (S := fun _ => False) ((Below.refl _ _).alloc (Nat.le_refl _) _)) fun x e => e.elim
theorem Off.drew {S : Nat → Prop} {a b : World} (h : Off S a b) : Off S a b.drew := ⟨h.os, h.tape, h.output, h.size, h.block⟩
theorem Off.set {S : Nat → Prop} {a b : World} (h : Off S a b) {p : Addr} (hp : S p.block ∨ a.heap.size ≤ p.block) (u : Value) : Off S a (b.setCell p u) :=
  h.trans (S' := fun k => k = p.block) ⟨rfl, rfl, rfl, by simp [World.setCell], fun i hi hn => Below.heap_setCell _ _ _ _ hn⟩ fun x e => e ▸ hp
theorem Off.grown {S : Nat → Prop} {a b c : World} {row : Option Nat} (h : Off S a b) (hg : b.grownBy c row) (hr : ∀ k, row = some k → S k ∨ a.heap.size ≤ k) : Off S a c :=
  h.trans (S' := fun k => row = some k) ⟨hg.os, hg.tape, hg.output, hg.size, fun i hi hn => hg.block i hi fun e => hn e.symm⟩ fun x e => hr x e
theorem below_alloc (w : World) (o : Obj) : Below w.heap.size w (w.alloc o) := (Below.refl _ _).alloc (Nat.le_refl _) _
theorem bstep {a b c : World} (h : Below a.heap.size a b) (k : Below b.heap.size b c) : Below a.heap.size a c := h.trans (k.mono h.size)
theorem below_drewN {B : Nat} {a w : World} (h : Below B a w) (n : Nat) : Below B a (w.drewN n) := ⟨h.os, h.tape, h.output, h.size, h.block⟩
theorem get_lt {α : Type} {L : List α} {k : Nat} (h : k < L.length) : ∃ s, L[k]? = some s := ⟨_, List.getElem?_eq_getElem h⟩
theorem lt_get {α : Type} {L : List α} {k : Nat} {s : α} (h : L[k]? = some s) : k < L.length := by
  rcases Nat.lt_or_ge k L.length with h1 | h1
  · exact h1
  · rw [List.getElem?_eq_none h1] at h; cases h
theorem take_snoc_of {α : Type} {l : List α} {k : Nat} {z : α} (h : l[k]? = some z) : l.take (k + 1) = l.take k ++ [z] := by
  rw [List.take_add_one, h]; rfl

/-! ### Slices of strings -/
/-- At the address lie the strings L. -/
def Strs (w : World) (A : Option Addr) (L : List ByteArray) : Prop :=
  ∀ (k : Nat) (s : ByteArray), L[k]? = some s → ∃ b off, A = some ⟨b, off, none⟩ ∧ b < w.heap.size ∧ w.cell? ⟨b, off + k, none⟩ = some (.string s)
def Siz (L : List ByteArray) : Prop := ∀ s ∈ L, s.size ≤ maxLen
theorem Siz.at_ {L : List ByteArray} (h : Siz L) {k : Nat} {s : ByteArray} (hk : L[k]? = some s) : s.size ≤ 9223372036854775807 ∧ s.size ≤ maxLen := by
  have := h s (List.mem_of_getElem? hk)
  exact ⟨by unfold maxLen at this; omega, this⟩
theorem Strs.nil (w : World) (A : Option Addr) : Strs w A [] := fun k s h => by simp at h
theorem Strs.keep {w w' : World} {A : Option Addr} {L : List ByteArray} (h : Strs w A L) (hs : w.heap.size ≤ w'.heap.size) (hk : ∀ b off, A = some ⟨b, off, none⟩ → b < w.heap.size → w'.heap[b]? = w.heap[b]?) : Strs w' A L := by
  intro k s hl
  obtain ⟨b, off, e, hlt, hc⟩ := h k s hl
  exact ⟨b, off, e, by omega, (World.cell?_of_block (a := ⟨b, off + k, none⟩) (hk b off e hlt)).trans hc⟩
theorem Strs.on {w w' : World} {A : Option Addr} {L : List ByteArray} (h : Strs w A L) (hb : Below w.heap.size w w') : Strs w' A L := h.keep hb.size fun b _ _ hlt => hb.block b hlt
theorem Strs.take {w : World} {A : Option Addr} {L : List ByteArray} (h : Strs w A L) (n : Nat) : Strs w A (L.take n) := by
  intro k s hk
  rw [List.getElem?_take] at hk
  split at hk
  · exact h k s hk
  · cases hk
/-- A slice of the call's own that holds the strings L. -/
def OwnS (w : World) (v : Value) (L : List ByteArray) : Prop := w.ownsRow 0 9 1 v L.length (L.map Value.string)
theorem OwnS.nil (w : World) : OwnS w (.slice none 0 0) [] := World.ownsRow_nil _ _ _ _
theorem OwnS.open_ {w : World} {v : Value} {L : List ByteArray} (h : OwnS w v L) :
    (v = .slice none 0 0 ∧ L = []) ∨ (∃ g c, v = .slice (some ⟨g, 0, none⟩) L.length c ∧ L.length ≤ c ∧ c ≤ maxLen ∧ Strs w (some ⟨g, 0, none⟩) L ∧ g < w.heap.size) := by
  obtain ⟨h1, ⟨rfl, h2⟩ | ⟨g, cap, cur, rfl, h2, h3, h4, h5, h6, h7⟩⟩ := h
  · exact Or.inl ⟨rfl, List.eq_nil_of_length_eq_zero h2⟩
  · refine Or.inr ⟨g, cap, rfl, h4, h5, fun k z hz => ⟨g, 0, rfl, (Array.getElem?_eq_some_iff.mp h3).1, ?_⟩, (Array.getElem?_eq_some_iff.mp h3).1⟩
    rw [cell_of_row w g _ cur _ (0, 0) h3, Nat.zero_add]
    have hu : (cur.toList.take (L.length * 1))[k]? = some (.string z) := by rw [h7, List.getElem?_map, hz]; rfl
    rw [List.getElem?_take] at hu
    split at hu
    · simpa using hu
    · cases hu
/-- Its value, in one form. -/
theorem OwnS.one {w : World} {v : Value} {L : List ByteArray} (h : OwnS w v L) : ∃ A c, v = .slice A L.length c ∧ L.length ≤ c ∧ c ≤ maxLen ∧ Strs w A L ∧ (∀ a, A = some a → a.spot = none ∧ a.off = 0 ∧ a.block < w.heap.size) ∧ v.ownBlock = A.map (·.block) := by
  rcases h.open_ with ⟨rfl, rfl⟩ | ⟨g, c, rfl, h1, h2, h3, h4⟩
  · exact ⟨none, 0, rfl, Nat.le_refl _, by unfold maxLen; omega, Strs.nil _ _, by simp, rfl⟩
  · exact ⟨_, c, rfl, h1, h2, h3, fun a e => by cases e; exact ⟨rfl, rfl, h4⟩, rfl⟩
theorem OwnS.keep {w w' : World} {v : Value} {L : List ByteArray} (h : OwnS w v L) (hk : ∀ k, v.ownBlock = some k → w'.heap[k]? = w.heap[k]?) : OwnS w' v L := by
  obtain ⟨h1, h0 | ⟨g, cap, cur, rfl, h2, h3, h4⟩⟩ := h
  · exact ⟨h1, Or.inl h0⟩
  · exact ⟨h1, Or.inr ⟨g, cap, cur, rfl, h2, (hk g rfl).trans h3, h4⟩⟩
theorem OwnS.lt {w : World} {v : Value} {L : List ByteArray} (h : OwnS w v L) : ∀ k, v.ownBlock = some k → k < w.heap.size := fun k hk => (World.ownsRow.lt h k hk).2
theorem OwnS.alloc {w : World} {v : Value} {L : List ByteArray} (h : OwnS w v L) (o : Obj) : OwnS (w.alloc o) v L := World.ownsRow.alloc h o
theorem own_empty (w : World) : OwnS (w.alloc (.cells #[] 9)) (.slice (some ⟨w.heap.size, 0, none⟩) 0 0) [] :=
  World.ownsRow_lit (base := 0) (e := 9) (size := 1) w #[] 0 (Nat.zero_le _) (by unfold maxLen; omega) rfl
theorem info_string : (Try.prog.info? 9).map (fun i => (i.zero, i.size, i.bytes)) = some (some (.string ByteArray.empty), 1, 16) := by kernel_rfl
theorem run_append_empty {P : Program} {w : World} (base : Nat) (t ty e : TypeId) (i : TypeInfo) (size c : Nat) (ht : P.underlying t = some (.slice e)) (hi : P.info? e = some i)
    (v : Value) (n : Nat) (xs : List Value) (hown : w.ownsRow base e size v n xs) :
    (Builtin.append_ #[t, t] ty #[v, .slice none 0 c]).run P w = .ok v w := by
  rcases hown.2 with ⟨rfl, rfl⟩ | ⟨g, cap, cur, rfl, _, _, hnc, _⟩
  · simp [Builtin.append_, run_underlying ht, sizeOf, typeInfo, hi, Builtin.lenOf, Builtin.firstCells]
  · simp [Builtin.append_, run_underlying ht, sizeOf, typeInfo, hi, Builtin.lenOf, Builtin.firstCells, hnc, storeCells]
theorem wpList_append_empty {P : Program} {w : World} {ops : Array Oper} {rest : List Oper} {o : Oper} {a : Act} {Q : Exit → Act → World → Prop} (hgd : o.guard = none) (s x : Operand) (t : TypeId)
    (ho : o.op = .call { callee := .builtin .append, args := #[s, x], argTypes := #[t, t] })
    (base : Nat) (e : TypeId) (i : TypeInfo) (size c : Nat) (ht : P.underlying t = some (.slice e)) (hi : P.info? e = some i)
    (v : Value) (n : Nat) (xs : List Value) (hs : a.eval s = v) (hown : w.ownsRow base e size v n xs) (hx : a.eval x = .slice none 0 c)
    (h : wpList P ops Q rest (a.put o.dst v) w) : wpList P ops Q (o :: rest) a w := by
  refine wpList_plain hgd fun K hK => ?_
  have hrun := run_append_empty (P := P) (w := w) base t o.type e i size c ht hi v n xs hown
  unfold Oper.wp
  simp [execOp, ho, resolve, invoke, builtin, hs, hx, hrun, Result.andThen]
  exact hK _ _ h
theorem cells_strs {L : List ByteArray} : ∀ u ∈ L.map Value.string, u.oneCell' = true := by
  intro u hu
  obtain ⟨z, _, rfl⟩ := List.mem_map.mp hu
  rfl
/-- 'append(s, x...)', s the call's own, x a slice of strings that is there. -/
theorem append_strs {w : World} {ops : Array Oper} {rest : List Oper} {o : Oper} {a : Act} {Q : Exit → Act → World → Prop} (hgd : o.guard = none) (s x : Operand)
    (ho : o.op = .call { callee := .builtin .append, args := #[s, x], argTypes := #[57, 57] })
    (v : Value) (ds : List ByteArray) (hs : a.eval s = v) (hown : OwnS w v ds)
    (A : Option Addr) (c : Nat) (L : List ByteArray) (m : Nat) (hm : m = L.length) (hx : a.eval x = .slice A m c) (hz : Strs w A L)
    (hlen : ds.length + L.length ≤ 1000000)
    (h : ∀ v' w', OwnS w' v' (ds ++ L) → w.grownBy w' v.ownBlock → (v'.ownBlock = v.ownBlock ∨ v'.ownBlock = some w.heap.size) → wpList Try.prog ops Q rest (a.put o.dst v') w') : wpList Try.prog ops Q (o :: rest) a w := by
  subst hm
  obtain ⟨i0, hi0, hz0, hz1, hz2⟩ := info_parts info_string
  cases A with
  | none =>
    have hnil : L = [] := by
      cases L with
      | nil => rfl
      | cons z zs => obtain ⟨b, off, hA, _⟩ := hz 0 z rfl; cases hA
    subst hnil
    refine wpList_append_empty hgd s x _ ho 0 9 i0 1 c Try.underlying57 hi0 v ds.length _ hs hown hx (h v w (by rw [List.append_nil]; exact hown) ⟨rfl, rfl, rfl, Nat.le_refl _, fun _ _ _ => rfl⟩ (Or.inl rfl))
  | some ad =>
    refine wpList_append_own_at w hgd s x _ ho 0 9 i0 (.string ByteArray.empty) 1 16 Try.underlying57 hi0 hz0 hz1 hz2 rfl (by decide) v ds.length _ hs hown ad L.length c (L.map Value.string) hx (by simp) ?_ cells_strs (by unfold maxLen; omega) (by omega) (Nat.zero_le _) ?_
    · intro j u hj
      rw [List.getElem?_map] at hj
      cases hzj : L[j]? with
      | none => rw [hzj] at hj; cases hj
      | some z =>
        rw [hzj] at hj
        obtain ⟨b, off, e, _, hc⟩ := hz j z hzj
        cases e
        rw [Addr.add_lit, hc]; exact hj
    · intro v' w' hown' hg _ hat
      exact h v' w' (by unfold OwnS; rw [List.length_append, List.map_append]; exact hown') hg hat
/-- A block of one string, as the source of an append. -/
theorem strs_one (w : World) (s : ByteArray) (t : TypeId) : Strs (w.alloc (.cells #[.string s] t)) (some ⟨w.heap.size, 0, none⟩) [s] := by
  intro k z hz
  match k, hz with
  | 0, hz => simp at hz; subst hz; exact ⟨_, 0, rfl, by simp, by simp⟩

/-! ### Tables -/
theorem law_string : Maps.Keyed Try.prog 9 := Maps.string_keyed Try.underlying9
theorem zero_int (w : World) : (zeroValue 3).run Try.prog w = .ok (.int .i64 0) w := by kernel_rfl
theorem frozen_of {W : World} {g : Nat} {cs : Array Value} {t : TypeId} (h : W.heap[g]? = some (.cells cs t (0, 0))) (i : Nat) : W.frozen? ⟨g, i, none⟩ = false := by simp [World.frozen?, h]
/-- A map's block, kept. -/
theorem map_keep {w w' : World} {bm n : Nat} {D : DataW Unit} (h : w.ownsMap Try.prog 9 (plainElem Try.prog 3) bm n D) (hk : w'.heap[bm]? = w.heap[bm]?) : w'.ownsMap Try.prog 9 (plainElem Try.prog 3) bm n D := by
  obtain ⟨es, clock, hb, r⟩ := h
  exact ⟨es, clock, hk.trans hb, r⟩
/-- The table at block b has the names L; its blocks are in S. -/
structure Tb (w : World) (b : Nat) (S : Nat → Prop) (L : List ByteArray) : Prop where
  good : Good L
  sb : S b
  lt : ∀ k, S k → k < w.heap.size
  ex : ∃ bm v D, w.heap[b]? = some (.cells #[v, .map (some bm)] 60 (0, 0)) ∧ OwnS w v L ∧ w.ownsMap Try.prog 9 (plainElem Try.prog 3) bm L.length D ∧ Dct D L ∧
    S bm ∧ b ≠ bm ∧ (∀ g, v.ownBlock = some g → S g ∧ g ≠ b ∧ g ≠ bm)
theorem Tb.keep {w w' : World} {b : Nat} {S : Nat → Prop} {L : List ByteArray} (h : Tb w b S L) (hs : w.heap.size ≤ w'.heap.size) (hk : ∀ k, S k → w'.heap[k]? = w.heap[k]?) : Tb w' b S L := by
  obtain ⟨bm, v, D, h1, h2, h3, h4, h5, h6, h7⟩ := h.ex
  exact ⟨h.good, h.sb, fun k hk => Nat.lt_of_lt_of_le (h.lt k hk) hs, bm, v, D, (hk b h.sb).trans h1, h2.keep fun k e => hk k (h7 k e).1, map_keep h3 (hk bm h5), h4, h5, h6, h7⟩
theorem Tb.off {w w' : World} {b : Nat} {S S' : Nat → Prop} {L : List ByteArray} (h : Tb w b S L) (ho : Off S' w w') (hd : ∀ k, S k → ¬ S' k) : Tb w' b S L :=
  h.keep ho.size fun k hk => ho.block k (h.lt k hk) (hd k hk)
theorem Tb.on {w w' : World} {b : Nat} {S : Nat → Prop} {L : List ByteArray} (h : Tb w b S L) (hb : Below w.heap.size w w') : Tb w' b S L :=
  h.keep hb.size fun k hk => hb.block k (h.lt k hk)
/-- What the walks read of a table. -/
theorem Tb.reads {w : World} {b : Nat} {S : Nat → Prop} {L : List ByteArray} (h : Tb w b S L) :
    ∃ A c bm D, w.cell? ⟨b, 0, none⟩ = some (.slice A L.length c) ∧ w.cell? ⟨b, 1, none⟩ = some (.map (some bm)) ∧ w.frozen? ⟨b, 0, none⟩ = false ∧ OwnS w (.slice A L.length c) L ∧ Strs w A L ∧
      w.ownsMap Try.prog 9 (plainElem Try.prog 3) bm L.length D ∧ Dct D L ∧ w.heap[b]? = some (.cells #[.slice A L.length c, .map (some bm)] 60 (0, 0)) ∧
      S bm ∧ b ≠ bm ∧ (∀ g, (Value.slice A L.length c).ownBlock = some g → S g ∧ g ≠ b ∧ g ≠ bm) := by
  obtain ⟨bm, v, D, h1, h2, h3, h4, h5, h6, h7⟩ := h.ex
  obtain ⟨A, c, rfl, -, -, hs, -, -⟩ := h2.one
  exact ⟨A, c, bm, D, by rw [cell_of_row _ _ _ _ _ _ h1]; rfl, by rw [cell_of_row _ _ _ _ _ _ h1]; rfl, frozen_of h1 _, h2, hs, h3, h4, h1, h5, h6, h7⟩
/-- What Add leaves: the table of other names, its old blocks and new ones; all else as it was. -/
def Adds (w : World) (b : Nat) (S : Nat → Prop) (L : List ByteArray) (w' : World) : Prop := ∃ S', Tb w' b S' L ∧ (∀ k, S' k → S k ∨ w.heap.size ≤ k) ∧ Off S w w'
theorem Tb.stay {w : World} {b : Nat} {S : Nat → Prop} {L : List ByteArray} (h : Tb w b S L) : Adds w b S L w := ⟨S, h, fun _ hk => Or.inl hk, Off.refl _ _⟩
end Go.Proofs.Ytgomokdklajlcaa.Ident
/- Contracts of the methods Add, Find, Name, Len of ident. -/
namespace Go.Proofs.Ytgomokdklajlcaa.Ident
open Go.ChangeShapes Go.WideShapes Go.RowKit Go.Lib
set_option linter.unusedVariables false
set_option maxRecDepth 100000

theorem key_of {s : ByteArray} (hs : s.size ≤ maxLen) : keyOf Try.prog 9 (.string s) = some (key s) := WideMaps.keyOf_string_mk Try.underlying9 hs
theorem wf_nat {n : Nat} (h : n ≤ 512) : (Lit.int .i64 (n : Int)).wf = true := WalkArith.wf_i64 (by omega)
theorem max_small {n : Nat} (h : n ≤ maxLen) : n ≤ 9223372036854775807 := by unfold maxLen at h; omega
theorem ret_two {k : IntKind} {a b c d : Int} (h : a = c) (h' : b = d) : Ending.returned (.tuple #[.int .i64 a, .int k b]) = .returned (.tuple #[.int .i64 c, .int k d]) := by rw [h, h']
theorem ret_fnd {a c : Int} {b d : Bool} (h : a = c) (h' : b = d) : Ending.returned (.tuple #[.int .i64 a, .bool b]) = .returned (.tuple #[.int .i64 c, .bool d]) := by rw [h, h']

/-- The table of one name more. -/
theorem Tb.more {w w1 w2 : World} {b bm c : Nat} {S : Nat → Prop} {L : List ByteArray} {A : Option Addr} {D : DataW Unit} {v' : Value} {s : ByteArray}
    (h : Tb w b S L) (hb : w.heap[b]? = some (.cells #[.slice A L.length c, .map (some bm)] 60 (0, 0))) (hD : Dct D L) (hbm : S bm) (hne : b ≠ bm)
    (hrow : ∀ g, (Value.slice A L.length c).ownBlock = some g → S g ∧ g ≠ b ∧ g ≠ bm) (hz : addE L s = 0)
    (hown1 : w1.ownsMap Try.prog 9 (plainElem Try.prog 3) bm (L.length + 1) (D.put (key s) (.lit (.int .i64 (L.length : Int))))) (hg1 : w.grownBy w1 (some bm))
    (T : TypeId) (hown2 : OwnS w2 v' (L ++ [s])) (hg2 : (w1.alloc (.cells #[.string s] T)).grownBy w2 (Value.slice A L.length c).ownBlock)
    (hat : v'.ownBlock = (Value.slice A L.length c).ownBlock ∨ v'.ownBlock = some (w1.alloc (.cells #[.string s] T)).heap.size) :
    Adds w b S (L ++ [s]) (w2.setCell ⟨b, 0, none⟩ v') := by
  obtain ⟨e1, e2, e3⟩ := addE_zero hz
  have hlt : b < w.heap.size := h.lt b h.sb
  have hs1 := hg1.size
  have hs2 : w1.heap.size + 1 ≤ w2.heap.size := by have := hg2.size; simpa using this
  have hblt : ∀ g, (Value.slice A L.length c).ownBlock = some g → g < w.heap.size := fun g hg => h.lt g (hrow g hg).1
  have kb : w2.heap[b]? = w.heap[b]? := by
    rw [hg2.block b (by simp; omega) fun e => (hrow b e.symm).2.1 rfl, Below.heap_alloc _ _ _ (by omega), hg1.block b hlt fun e => hne (by cases e; rfl)]
  have kbm : w2.heap[bm]? = w1.heap[bm]? := by
    have := h.lt bm hbm
    rw [hg2.block bm (by simp; omega) fun e => (hrow bm e.symm).2.2 rfl, Below.heap_alloc _ _ _ (by omega)]
  have hv' : ∀ g, v'.ownBlock = some g → (S g ∧ g < w.heap.size ∨ w.heap.size ≤ g) ∧ g ≠ b ∧ g ≠ bm := fun g hg => by
    rcases hat with e | e
    · rw [e] at hg; exact ⟨Or.inl ⟨(hrow g hg).1, hblt g hg⟩, (hrow g hg).2⟩
    · rw [e] at hg; cases hg
      have := h.lt bm hbm
      simp
      omega
  refine ⟨fun k => S k ∨ v'.ownBlock = some k, ⟨?_, Or.inl h.sb, ?_, bm, v', _, ?_, ?_, by rw [List.length_append, List.length_singleton]; exact map_keep hown1 ((Below.heap_setCell _ _ _ _ hne.symm).trans kbm), ?_, Or.inl hbm, hne, ?_⟩, ?_, ?_⟩
  · exact h.good.snoc e1 (fndB_no e2) e3
  · intro k hk
    have hsz : (w2.setCell ⟨b, 0, none⟩ v').heap.size = w2.heap.size := by simp [World.setCell]
    rw [hsz]
    rcases hk with hk | hk
    · have := h.lt k hk; omega
    · exact hown2.lt k hk
  · rw [heap_setCell_same w2 b 0 _ _ _ (kb.trans hb)]; rfl
  · exact hown2.keep fun k hk => Below.heap_setCell _ _ _ _ (hv' k hk).2.1
  · exact hD.snoc (fndB_no e2)
  · intro g hg
    exact ⟨Or.inr hg, (hv' g hg).2⟩
  · intro k hk
    rcases hk with hk | hk
    · exact Or.inl hk
    · rcases (hv' k hk).1 with h1 | h1
      · exact Or.inl h1.1
      · exact Or.inr h1
  · refine ((((Off.refl S w).grown hg1 fun k e => ?_).alloc _).grown hg2 fun k e => ?_).set (Or.inl h.sb) _
    · cases e; exact Or.inl hbm
    · exact Or.inl (hrow k e).1

set_option maxHeartbeats 1600000 in
theorem ident_Add {b : Nat} {S : Nat → Prop} {L : List ByteArray} {s : ByteArray} {w : World} (ht : Tb w b S L) (hs : s.size ≤ maxLen) :
    Calls Try.prog 35 #[.pointer (some ⟨b, 0, none⟩), .string s] w fun e w' => e = .returned (.tuple #[.int .i64 (addI L s), .int .i64 (addE L s)]) ∧ Adds w b S (addL L s) w' := by
  obtain ⟨A, c, bm, D, c0, c1, f0, hown, hstr, hmap, hD, hb, hbm, hne, hrow⟩ := ht.reads
  have hm := max_small hs
  have hlen := ht.good.len
  have HT := Lib.hid ht
  have HO := Lib.hid hown
  have HM := Lib.hid hmap
  have HD := Lib.hid hD
  have HB := Lib.hid hb
  have HR := Lib.hid hrow
  have HBM := Lib.hid hbm
  have HNE := Lib.hid hne
  have HK := Lib.hid (key_of hs)
  clear ht hstr hown hmap hD hb hrow hs
  cases hv : validB s with
  | false =>
    have HC := valid_is hv hm w
    have HE := Lib.hid (addE_bad (L := L) hv)
    clear hv
    go_enter Try.func35, Try.ntmps35
    go_wp2_with fail
    refine HC.mono ?_
    rintro e w' ⟨rfl, rfl⟩
    go_wp2_with fail
    go_ret2
    obtain ⟨n1, n2⟩ := add_no (L := L) (s := s) (by rw [HE.out]; decide)
    exact ⟨ret_two n1.symm HE.out.symm, by rw [n2]; exact HT.out.stay⟩
  | true =>
    have HC := valid_is hv hm w
    cases hf : fndB s L with
    | true =>
      have HE := Lib.hid (addE_twice hv hf)
      have hh : Maps.has D (key s) = true := (HD.out.has s).trans hf
      clear hv hf
      go_enter Try.func35, Try.ntmps35
      go_wp2_with fail
      refine HC.mono ?_
      rintro e w' ⟨rfl, rfl⟩
      go_wp2_with (first
        | (at_lookup; refine wpList_lookup_own_ok_int _ rfl _ _ 58 rfl 9 3 .i64 law_string Try.underlying58 Try.underlying3 (zero_int _) bm L.length D rfl HM.out _ _ rfl HK.out ?_; intro cc hat hwc)
        | fail)
      go_ret2
      obtain ⟨n1, n2⟩ := add_no (L := L) (s := s) (by rw [HE.out]; decide)
      exact ⟨ret_two n1.symm HE.out.symm, by rw [n2]; exact HT.out.stay⟩
    | false =>
      have hh : Maps.has D (key s) = false := (HD.out.has s).trans hf
      by_cases h5 : L.length = 512
      · have HE := Lib.hid (addE_full hv hf h5)
        have h5' : ((L.length : Int) == 512) = true := by simp [h5]
        clear hv hf h5
        go_enter Try.func35, Try.ntmps35
        go_wp2_with fail
        refine HC.mono ?_
        rintro e w' ⟨rfl, rfl⟩
        go_wp2_with (first
          | (at_lookup; refine wpList_lookup_own_ok_int _ rfl _ _ 58 rfl 9 3 .i64 law_string Try.underlying58 Try.underlying3 (zero_int _) bm L.length D rfl HM.out _ _ rfl HK.out ?_; intro cc hat hwc)
          | fail)
        go_ret2
        obtain ⟨n1, n2⟩ := add_no (L := L) (s := s) (by rw [HE.out]; decide)
        exact ⟨ret_two n1.symm HE.out.symm, by rw [n2]; exact HT.out.stay⟩
      · have HE := Lib.hid (addE_ok hv hf h5)
        have h5' : ((L.length : Int) == 512) = false := by simp; omega
        clear hv hf h5
        go_enter Try.func35, Try.ntmps35
        go_wp2_with fail
        refine HC.mono ?_
        rintro e w' ⟨rfl, rfl⟩
        go_wp2_with (first
          | (at_lookup; refine wpList_lookup_own_ok_int _ rfl _ _ 58 rfl 9 3 .i64 law_string Try.underlying58 Try.underlying3 (zero_int _) bm L.length D rfl HM.out _ _ rfl HK.out ?_; intro cc hat hwc)
          | (at_mapUpdate; refine wpList_mapUpdate_own _ rfl _ _ _ 58 rfl 9 3 law_string Try.underlying58 _ bm L.length D rfl HM.out (by unfold maxLen; omega) _ _ _ rfl rfl HK.out _ [] (plainElem_int Try.underlying3 (wf_nat hlen)) ?_; intro w1 hown1 hgrow1; refine Hid.out ?_)
          | fail)
        have HW1 := Lib.hid hown1
        have HG1 := Lib.hid hgrow1
        have kb : w1.heap[b]? = w.heap[b]? := hgrow1.block b (HT.out.lt b HT.out.sb) fun e => HNE.out (by cases e; rfl)
        have d0 : w1.cell? ⟨b, 0, none⟩ = some (.slice A L.length c) := (World.cell?_of_block (a := ⟨b, 0, none⟩) kb).trans c0
        have HO1 := Lib.hid (HO.out.keep fun k hk => hgrow1.block k (HO.out.lt k hk) fun e => (HR.out k hk).2.2 (by cases e; rfl))
        have KB := Lib.hid kb
        clear hown1 hgrow1 kb hat hwc
        refine Lib.hid ?_
        go_wp2_with (at_builtin; refine append_strs rfl _ _ rfl (.slice A L.length c) L rfl (HO1.out.alloc _) (some ⟨w1.heap.size, 0, none⟩) 1 [s] 1 rfl rfl (strs_one _ _ _) (by simp; omega) ?_; intro v' w2 hown2 hgrow2 hat2; refine Hid.out ?_)
        obtain ⟨A2, cp2, rfl, -, -, -, -, -⟩ := hown2.one
        rw [show (L ++ [s]).length = L.length + 1 by simp] at hown2 hat2
        have HW2 := Lib.hid hown2
        have HG2 := Lib.hid hgrow2
        have HA2 := Lib.hid hat2
        have kb2 : w2.heap[b]? = some (.cells #[.slice A L.length c, .map (some bm)] 60 (0, 0)) := by
          have hlt := HT.out.lt b HT.out.sb
          have := HG1.out.size
          rw [hgrow2.block b (by simp; omega) fun e => (HR.out b e.symm).2.1 rfl, Below.heap_alloc _ _ _ (by omega), KB.out, HB.out]
        have d1 : w2.cell? ⟨b, 0, none⟩ = some (.slice A L.length c) := by rw [cell_of_row _ _ _ _ _ _ kb2]; rfl
        have f1 : w2.frozen? ⟨b, 0, none⟩ = false := frozen_of kb2 _
        clear hown2 hgrow2 hat2 kb2
        refine Lib.hid ?_
        go_wp2_with fail
        go_ret2
        obtain ⟨n1, n2⟩ := add_yes HE.out
        refine ⟨ret_two n1.symm HE.out.symm, ?_⟩
        rw [n2]
        exact HT.out.more HB.out HD.out HBM.out HNE.out HR.out HE.out HW1.out HG1.out _ HW2.out HG2.out HA2.out
theorem ident_Add_nil (s : ByteArray) (w : World) : Calls Try.prog 35 #[.pointer none, .string s] w fun e w' => e = .returned (.tuple #[.int .i64 0, .int .i64 14]) ∧ w = w' := by
  go_enter Try.func35, Try.ntmps35
  go_wp2_with fail
  go_ret2
  exact ⟨rfl, rfl⟩

/-- The name with an index. -/
def namS (i : Int) (L : List ByteArray) : ByteArray := if 0 ≤ i then (L[i.toNat]?).getD ByteArray.empty else ByteArray.empty
def namB (i : Int) (L : List ByteArray) : Bool := decide (0 ≤ i) && decide (i < (L.length : Int))
theorem nam_at {L : List ByteArray} {k : Nat} {s : ByteArray} (h : L[k]? = some s) : namS (k : Int) L = s ∧ namB (k : Int) L = true := by
  have := lt_get h
  refine ⟨?_, ?_⟩
  · unfold namS; rw [if_pos (by omega), Int.toNat_natCast, h]; rfl
  · unfold namB; rw [decide_eq_true (by omega), decide_eq_true (by omega)]; rfl
theorem nam_out {L : List ByteArray} {i : Int} (h : ¬ (0 ≤ i ∧ i < (L.length : Int))) : namS i L = ByteArray.empty ∧ namB i L = false := by
  refine ⟨?_, ?_⟩
  · unfold namS
    by_cases h0 : 0 ≤ i
    · rw [if_pos h0, List.getElem?_eq_none (by omega)]; rfl
    · rw [if_neg h0]
  · unfold namB
    by_cases h0 : 0 ≤ i
    · rw [decide_eq_false (p := i < (L.length : Int)) (by omega), Bool.and_false]
    · rw [decide_eq_false h0]; rfl
theorem ret_nam {a c : ByteArray} {b d : Bool} (h : a = c) (h' : b = d) : Ending.returned (.tuple #[.string a, .bool b]) = .returned (.tuple #[.string c, .bool d]) := by rw [h, h']
end Go.Proofs.Ytgomokdklajlcaa.Ident
/- Contract of ident.New. -/
namespace Go.Proofs.Ytgomokdklajlcaa.Ident
open Go.ChangeShapes Go.WideShapes Go.RowKit Go.Lib
set_option linter.unusedVariables false
set_option maxRecDepth 100000

/-- What New returns: a table of the names, in blocks of its own, or the error. -/
def NewRes (L : List ByteArray) (w : World) (e : Ending) (w' : World) : Prop :=
  Below w.heap.size w w' ∧
  ((newE L = 0 ∧ ∃ b S, e = .returned (.tuple #[.pointer (some ⟨b, 0, none⟩), .int .i64 0]) ∧ Tb w' b S L ∧ ∀ k, S k → w.heap.size ≤ k) ∨
   (newE L ≠ 0 ∧ e = .returned (.tuple #[.pointer none, .int .i64 (newE L)])))
theorem Tb.new (w : World) : Tb ((w.alloc (.map #[] 0)).alloc (.cells #[.slice none 0 0, .map (some w.heap.size)] 60)) (w.heap.size + 1) (fun k => k = w.heap.size ∨ k = w.heap.size + 1) [] := by
  have h1 : (w.alloc (.map #[] 0)).heap.size = w.heap.size + 1 := by simp
  refine ⟨Good.nil, Or.inr rfl, fun k hk => ?_, w.heap.size, .slice none 0 0, .map [], ?_, OwnS.nil _, ?_, Dct.nil, Or.inl rfl, by omega, fun g hg => by cases hg⟩
  · simp; omega
  · have := heap_alloc_new (w.alloc (.map #[] 0)) (.cells #[.slice none 0 0, .map (some w.heap.size)] 60)
    rwa [h1] at this
  · exact (World.ownsMap_made w _ _ _).alloc _
theorem ret_err {a b : Int} (h : a = b) : Ending.returned (.tuple #[.pointer none, .int .i64 b]) = .returned (.tuple #[.pointer none, .int .i64 a]) := by rw [h]
theorem dup_of {L : List ByteArray} {k : Nat} {s : ByteArray} (h : L[k]? = some s) (hf : fndB s (L.take k) = true) : ¬ L.Nodup := by
  intro hn
  have hm := fndB_iff.mp hf
  obtain ⟨j, hj⟩ := List.mem_iff_getElem?.mp hm
  have hlt := lt_get hj
  rw [List.length_take] at hlt
  rw [List.getElem?_take, if_pos (by omega)] at hj
  have h1 := pos_at hn hj
  rw [pos_at hn h] at h1
  simp at h1; omega

set_option maxHeartbeats 1600000 in
theorem ident_New (L : List ByteArray) (A : Option Addr) (c : Nat) (w : World) (ha : Strs w A L) (hz : Siz L) (hm : L.length ≤ 9223372036854775807) :
    Calls Try.prog 33 #[.slice A L.length c] w (NewRes L w) := by
  have HA := Lib.hid ha
  have HZ := Lib.hid hz
  clear ha hz
  have hmm := @run_makeMap Try.prog
  by_cases hf : 512 < L.length
  · have HE := Lib.hid (newE_full hf)
    have hf' : (512 : Int) < (L.length : Int) := by omega
    clear hf
    go_enter Try.func33, Try.ntmps33
    go_wp2_with fail
    go_ret2
    exact ⟨Below.refl _ _, Or.inr ⟨by rw [HE.out]; decide, ret_err HE.out⟩⟩
  · have hf' : decide ((512 : Int) < (L.length : Int)) = false := decide_eq_false (by omega)
    have HF := Lib.hid hf
    have hl512 : L.length ≤ 512 := by omega
    clear hf
    go_enter Try.func33, Try.ntmps33
    go_wp2_with fail
    go_loop [16] (fun i => ∃ k : Nat, k ≤ L.length ∧ i = .int .i64 k ∧ (∀ j s, j < k → L[j]? = some s → validB s = true)) (fun i => L.length - (RowKit.intOf i).toNat)
    case atStart => exact ⟨0, Nat.zero_le _, rfl, fun j s h => absurd h (by omega)⟩
    case round =>
      obtain ⟨k, hk, rfl, hv⟩ := hrel
      have HV := Lib.hid hv
      clear hv
      rcases Nat.lt_or_ge k L.length with hlt | hge
      · obtain ⟨s, hs⟩ := get_lt hlt
        obtain ⟨b', off, rfl, hb', hc⟩ := HA.out k s hs
        have HS := Lib.hid hs
        have hsz := (HZ.out.at_ hs).1
        clear hs
        cases hv : validB s with
        | false =>
          have HC := valid_is hv hsz w
          have HE : Hid (newE L = 5) := newE_bad HF.out (by rw [List.all_eq_false]; exact ⟨s, List.mem_of_getElem? HS.out, by simp [hv]⟩)
          clear hv
          go_wp2_with fail
          refine HC.mono ?_
          rintro e w' ⟨rfl, rfl⟩
          go_wp2_with fail
          go_ret2
          exact ⟨Below.refl _ _, Or.inr ⟨by rw [HE.out]; decide, ret_err HE.out⟩⟩
        | true =>
          have HC := valid_is hv hsz w
          have HVV := Lib.hid hv
          clear hv
          go_wp2_with fail
          refine HC.mono ?_
          rintro e w' ⟨rfl, rfl⟩
          go_wp2_with fail
          go_round
          case rel =>
            refine ⟨k + 1, by omega, by go_num, fun j u hj hu => ?_⟩
            rcases Nat.lt_or_eq_of_le (Nat.le_of_lt_succ hj) with h | h
            · exact HV.out j u h hu
            · subst h
              have e := HS.out
              rw [hu] at e; cases e; exact HVV.out
          case measure => simp [RowKit.intOf]; omega
      · obtain rfl : k = L.length := by omega
        have HALL : Hid (L.all validB = true) := List.all_eq_true.mpr fun s hs => by
          obtain ⟨j, hj⟩ := List.mem_iff_getElem?.mp hs
          exact HV.out j s (lt_get hj) hj
        clear hk
        go_wp2_with fail
        go_loopw [29] (fun i wr => ∃ k : Nat, k ≤ L.length ∧ i = .int .i64 k ∧ (∃ S, Tb wr (w.heap.size + 1) S (L.take k) ∧ ∀ x, S x → w.heap.size ≤ x) ∧ Below w.heap.size w wr) (fun i _ => L.length - (RowKit.intOf i).toNat)
        case atStart =>
          exact ⟨0, Nat.zero_le _, rfl, ⟨_, Tb.new w, fun x hx => by omega⟩, ((Below.refl _ w).alloc (Nat.le_refl _) _).alloc (by simp) _⟩
        case round =>
          obtain ⟨k, hk, rfl, ⟨S, ht, hS⟩, hbel⟩ := hrel
          have HT := Lib.hid ht
          have HS0 := Lib.hid hS
          have HB := Lib.hid hbel
          clear ht hS hbel
          rcases Nat.lt_or_ge k L.length with hlt | hge
          · obtain ⟨s, hs⟩ := get_lt hlt
            obtain ⟨b', off, rfl, hb', hc⟩ := HA.out.keep HB.out.size (fun b off e hb => HB.out.block b hb) k s hs
            have HS := Lib.hid hs
            have HSZ := Lib.hid (HZ.out.at_ hs).2
            have HADD := Lib.hid (ident_Add HT.out (HZ.out.at_ hs).2)
            have hvs : validB s = true := List.all_eq_true.mp HALL.out s (List.mem_of_getElem? hs)
            have hlk : (L.take k).length = k := by rw [List.length_take]; omega
            cases hd : fndB s (L.take k) with
            | true =>
              have he : addE (L.take k) s = 6 := addE_twice hvs hd
              have HE : Hid (newE L = 6) := newE_twice HF.out HALL.out (dup_of hs hd)
              rw [he] at HADD
              clear hd he hvs hlk hs
              go_wp2_with fail
              refine HADD.out.mono ?_
              rintro e w' ⟨rfl, hadd⟩
              have HAD := Lib.hid hadd
              clear hadd
              go_wp2_with fail
              go_ret2
              obtain ⟨S', h1, h2, h3⟩ := HAD.out
              exact ⟨HB.out.trans (h3.below HB.out.size HS0.out), Or.inr ⟨by rw [HE.out]; decide, ret_err HE.out⟩⟩
            | false =>
              have he : addE (L.take k) s = 0 := addE_ok hvs hd (by omega)
              have hal := (add_yes he).2
              rw [he, hal, ← take_snoc_of hs] at HADD
              clear hd he hvs hlk hs hal
              go_wp2_with fail
              refine HADD.out.mono ?_
              rintro e w' ⟨rfl, hadd⟩
              have HAD := Lib.hid hadd
              clear hadd
              go_wp2_with fail
              go_roundw
              case rel =>
                obtain ⟨S', h1, h2, h3⟩ := HAD.out
                exact ⟨k + 1, by omega, by go_num, ⟨S', h1, fun x hx => by rcases h2 x hx with h | h; exact HS0.out x h; have := HB.out.size; omega⟩, HB.out.trans (h3.below HB.out.size HS0.out)⟩
              case measure => simp [RowKit.intOf]; omega
          · obtain rfl : k = L.length := by omega
            have HTT := HT
            rw [List.take_length] at HTT
            go_wp2_with fail
            go_ret2
            exact ⟨HB.out, Or.inl ⟨newE_zero.mpr HTT.out.good, _, S, rfl, HTT.out, HS0.out⟩⟩
end Go.Proofs.Ytgomokdklajlcaa.Ident
/- The program: checkKind, visit of kinds, Check. -/
namespace Go.Proofs.Ytgomokdklajlcaa.Fibre
open Go.ChangeShapes Go.WideShapes Go.RowKit Go.Lib
open Go.Proofs.Ytgomokdklajlcaa.Rw (Rd Cel Off glt get_lt ret_bool ret_int wrap_id bstep below_drewN below_drew drew_below below_alloc take_snoc_of)
open Go.Proofs.Ytgomokdklajlcaa.Ident (validB valid_is Tb Adds addE fndB fndB_iff addE_bad addE_twice addE_ok addE_zero add_yes add_no addI ident_New ident_Add NewRes)
set_option linter.unusedVariables false
set_option maxRecDepth 100000

/-! ### checkKind -/
set_option maxHeartbeats 800000 in
theorem p_checkKind (f : Fb) (w : World) (hs : f.1.size ≤ 9223372036854775807) :
    Calls Try.prog 32 #[.agg #[.string f.1, .int .i64 f.2]] w fun e w' => e = .returned (.int .i64 (elE f)) ∧ Below w.heap.size w w' := by
  cases hv : validB f.1 with
  | false =>
    have HC := Lib.hid fun W => valid_is hv hs W
    rw [elE_name hv]
    clear hv hs
    go_enter Try.func32, Try.ntmps32
    go_wp2_with fail
    refine (HC.out _).mono ?_
    rintro e w' ⟨rfl, rfl⟩
    go_wp2_with fail
    go_ret
    exact ⟨rfl, below_alloc _ _⟩
  | true =>
    have HC := Lib.hid fun W => valid_is hv hs W
    have he : elE f = nuE 1000000000 f.2 := by unfold elE nuE; rw [hv]; rfl
    rw [he]
    clear hv hs he
    have HN := Lib.hid fun W => p_checkNumber f.2 1000000000 W
    go_enter Try.func32, Try.ntmps32
    go_wp2_with fail
    refine (HC.out _).mono ?_
    rintro e w' ⟨rfl, rfl⟩
    go_wp2_with fail
    refine (HN.out _).mono ?_
    rintro e w' ⟨rfl, rfl⟩
    go_wp2_with fail
    go_ret
    exact ⟨rfl, below_alloc _ _⟩

/-! ### visit -/
/-- The first error of kinds, each asked for after those before it. -/
def firD (g : List Fb → Fb → Int) : List Fb → List Fb → Int
  | _, [] => 0
  | D, f :: l => if g D f = 0 then firD g (D ++ [f]) l else g D f
theorem firD_bad {g : List Fb → Fb → Int} : ∀ {l D : List Fb} {k : Nat} {f : Fb}, l[k]? = some f → ¬ g (D ++ l.take k) f = 0 → (∀ (j : Nat) (y : Fb), j < k → l[j]? = some y → g (D ++ l.take j) y = 0) → firD g D l = g (D ++ l.take k) f
  | [], _, _, _, h, _, _ => by simp at h
  | y :: l, D, 0, f, h, hb, _ => by
    simp at h; subst h
    simp at hb
    rw [firD, if_neg hb]; simp
  | y :: l, D, k + 1, f, h, hb, ha => by
    rw [List.getElem?_cons_succ] at h
    have h0 := ha 0 y (by omega) rfl
    simp at h0
    rw [List.take_succ_cons, List.append_cons] at hb ⊢
    rw [firD, if_pos h0]
    exact firD_bad h hb fun j x hj hx => by
      have := ha (j + 1) x (by omega) (by rw [List.getElem?_cons_succ]; exact hx)
      rwa [List.take_succ_cons, List.append_cons] at this
theorem firD_ok {g : List Fb → Fb → Int} : ∀ {l D : List Fb}, (∀ (j : Nat) (y : Fb), l[j]? = some y → g (D ++ l.take j) y = 0) → firD g D l = 0
  | [], _, _ => rfl
  | y :: l, D, ha => by
    have h0 := ha 0 y rfl
    simp at h0
    rw [firD, if_pos h0]
    exact firD_ok fun j x hx => by
      have := ha (j + 1) x (by rw [List.getElem?_cons_succ]; exact hx)
      rwa [List.take_succ_cons, List.append_cons] at this

/-- A function that answers of a kind: what holds of the memory after the kinds D; its blocks. -/
structure VisK (fn : Nat) (ba ca : Array Value) (g : List Fb → Fb → Int) (P : Fb → Prop) (N : Nat) (J : List Fb → (Nat → Prop) → World → Prop) : Prop where
  eg : ∀ args w, (callFunc fn args).run Try.prog w = .ok (.enter fn args) w
  lt : ∀ D S W, J D S W → ∀ y, S y → y < W.heap.size
  keep : ∀ D S W W', J D S W → W.heap.size ≤ W'.heap.size → (∀ y, S y → W'.heap[y]? = W.heap[y]?) → J D S W'
  step : ∀ D S W f, J D S W → D.length < N → P f → Calls Try.prog fn (ba ++ #[.agg #[.string f.1, .int .i64 f.2]] ++ ca) W fun e W' =>
    e = .returned (.int .i64 (g D f)) ∧ Off S W W' ∧ (g D f = 0 → ∃ S', J (D ++ [f]) S' W' ∧ (∀ y, S' y → S y ∨ W.heap.size ≤ y))
set_option maxHeartbeats 1600000 in
theorem visit_kinds {fn : Nat} {ba ca : Array Value} {g : List Fb → Fb → Int} {P : Fb → Prop} {J : List Fb → (Nat → Prop) → World → Prop} {S : Nat → Prop} {w : World} (l : List Fb) (hv : VisK fn ba ca g P l.length J) (h0 : J [] S w) (A : Option Addr) (n c : Nat) (hn : n = l.length) (ha : Kds w A l)
    (hA : ∀ (k : Nat) (f : Fb), l[k]? = some f → ∀ (b off : Nat), A = some ⟨b, off, none⟩ → ¬ S b) (hz : ∀ f ∈ l, P f) (hm : n ≤ 9223372036854775807) :
    Calls Try.prog 31 #[.slice A n c, .func (.func fn) ba ca] w fun e w' => e = .returned (.int .i64 (firD g [] l)) ∧ Off S w w' := by
  have HA := Lib.hid ha
  have HNA := Lib.hid hA
  have HN := Lib.hid hn
  have HV := Lib.hid hv
  have HZ := Lib.hid hz
  have eg := hv.eg
  have HJ0 := Lib.hid h0
  have HLT : Hid (∀ y, S y → y < w.heap.size) := hv.lt _ _ _ h0
  obtain ⟨E, hE⟩ : ∃ E, firD g [] l = E := ⟨_, rfl⟩
  rw [hE]
  have HE := Lib.hid hE
  clear ha hA hn hv h0 hz hE
  go_enter Try.func31, Try.ntmps31
  go_wp2_with fail
  go_loopw [10, 6, 7] (fun i _ _ wr => ∃ (k : Nat) (S' : Nat → Prop), k ≤ n ∧ i = .int .i64 k ∧ J (l.take k) S' wr ∧ (∀ y, S' y → S y ∨ w.heap.size ≤ y) ∧ Off S w wr ∧ (∀ (j : Nat) (y : Fb), j < k → l[j]? = some y → g (l.take j) y = 0)) (fun i _ _ _ => n - (RowKit.intOf i).toNat)
  case atStart => exact ⟨0, S, Nat.zero_le _, rfl, HJ0.out, fun y hy => Or.inl hy, Off.refl S w, fun j y h => absurd h (by omega)⟩
  case round =>
    obtain ⟨k, S', hk, rfl, hj, hs, hoff, hg⟩ := hrel
    have HJ := Lib.hid hj
    have HS := Lib.hid hs
    have HO := Lib.hid hoff
    have HG := Lib.hid hg
    clear hj hs hoff hg
    rcases Nat.lt_or_ge k n with hlt | hge
    · obtain ⟨f, hf⟩ := get_lt (L := l) (k := k) (by have := HN.out; omega)
      obtain ⟨b, off, hA0, hb, d0, d1⟩ := kd_at (HA.out.off HO.out (HNA.out k f hf)) hf
      subst hA0
      have HF := Lib.hid hf
      have HLT2 : Hid (∀ y, S' y → y < wr.heap.size) := HV.out.lt _ _ _ HJ.out
      have i1 : (k : Int) < (n : Int) := by omega
      have i2 : (0 : Int) ≤ (k : Int) := by omega
      have HTk := Lib.hid (take_snoc_of hf)
      have HSZ := Lib.hid (HZ.out f (List.mem_of_getElem? hf))
      have HLk : Hid ((l.take k).length < l.length) := Lib.hid (by rw [List.length_take]; have := HN.out; omega)
      clear hf
      go_upto_region 4 with fail
      generalize hw1 : wr.alloc (.cells #[.string f.1, .int .i64 f.2] TF) = w1
      have HB1 : Hid (Below wr.heap.size wr w1) := hw1 ▸ below_alloc _ _
      have HC1 : Hid (Cel w1 wr.heap.size [.string f.1, .int .i64 f.2]) := hw1 ▸ Cel.new _ _ _
      have HJ1 : Hid (J (l.take k) S' w1) := HV.out.keep _ _ _ _ HJ.out HB1.out.size fun y hy => HB1.out.block y (HLT2.out y hy)
      have HO1 : Hid (Off S w w1) := HO.out.then_below HB1.out
      have HST := Lib.hid (HV.out.step _ S' w1 f HJ1.out HLk.out HSZ.out)
      clear hw1 d0 d1
      obtain ⟨c0, c1⟩ := HC1.out.two
      obtain ⟨F, hF⟩ : ∃ F, g (l.take k) f = F := ⟨_, rfl⟩
      rw [hF] at HST
      have HFe := Lib.hid hF
      clear hF
      have HOS : Hid (∀ W, Off S' w1 W → Off S w W) := fun W h => HO1.out.trans h fun z hz => (HS.out z hz)
      by_cases hz : F = 0
      · subst hz
        go_wp2_with (go_at_fn fn; refine HST.out.mono ?_; rintro e w5 ⟨rfl, ho5, hj5⟩; have HJ5 := Lib.hid (hj5 rfl); have HO5 := Lib.hid ho5; clear hj5 ho5)
        obtain ⟨S5, h1, h2⟩ := HJ5.out
        go_roundw
        case rel =>
          refine ⟨k + 1, S5, by omega, by go_num, by rw [HTk.out]; exact h1, fun z hz => ?_, HOS.out _ HO5.out, ?_⟩
          · rcases h2 z hz with h | h
            · exact HS.out z h
            · exact Or.inr (Nat.le_trans HO1.out.size h)
          · intro j y hj hy
            rcases Nat.lt_or_eq_of_le (Nat.le_of_lt_succ hj) with h | h
            · exact HG.out j y h hy
            · subst h
              have e := HF.out
              rw [hy] at e; cases e; exact HFe.out
        case measure => simp [RowKit.intOf]; omega
      · obtain ⟨z1, z2⟩ := ne_zero hz
        obtain rfl : E = F := by
          rw [← HE.out, ← HFe.out]
          have h1 := firD_bad (g := g) (D := []) HF.out (by rw [List.nil_append, HFe.out]; exact hz) (by simpa using HG.out)
          rw [List.nil_append] at h1
          exact h1
        clear hz
        go_wp2_with (go_at_fn fn; refine HST.out.mono ?_; rintro e w5 ⟨rfl, ho5, hj5⟩; have HO5 := Lib.hid ho5; clear hj5 ho5)
        go_ret
        exact ⟨rfl, HOS.out _ HO5.out⟩
    · obtain rfl : k = n := by omega
      obtain rfl : E = 0 := by rw [← HE.out]; exact firD_ok fun j y hy => by rw [List.nil_append]; exact HG.out j y (by rw [HN.out]; exact glt hy) hy
      go_wp2_with fail
      go_ret
      exact ⟨rfl, HO.out⟩
end Go.Proofs.Ytgomokdklajlcaa.Fibre
