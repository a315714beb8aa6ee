/- Bytes in memory: slices that are there, slices of the call's own, what is appended; contracts of decoded and withoutRoom. -/
import Derived.Test.YtahgkohnamnljaaDoorWireA
import Derived.Maps.AppendAt
import Derived.ArgAppend
import Derived.Lib.AppendStr
import Derived.Laws.IdiomStrings
import Derived.Laws.BitsAllLaws
import Derived.Laws.DeepNot64
import Derived.BigQuiet
import Derived.Deep.QuietTactic
namespace Go.Proofs.YtahgkohnamnljaaDoor.Wire
open Go.ChangeShapes Go.WideShapes Go.RowKit
set_option linter.unusedVariables false
set_option maxRecDepth 100000

theorem ret_bool {a b : Bool} (h : a = b) : Ending.returned (.bool a) = .returned (.bool b) := by rw [h]
theorem ret_int {k : IntKind} {a b : Int} (h : a = b) : Ending.returned (.int k a) = .returned (.int k b) := by rw [h]
theorem wrap_id {x : Int} (h1 : -9223372036854775808 ≤ x) (h2 : x ≤ 9223372036854775807) : IntKind.i64.wrap x = x := by rw [IntKind.wrap_i64]; omega
theorem below_alloc (w : World) (o : Obj) : Below w.heap.size w (w.alloc o) := (Below.refl _ _).alloc (Nat.le_refl _) _
theorem bstep {a b c : World} (h : Below a.heap.size a b) (k : Below b.heap.size b c) : Below a.heap.size a c := h.trans (k.mono h.size)
theorem info_byte : (Tryd.prog.info? 5).map (fun i => (i.zero, i.size, i.bytes)) = some (some (.int .u8 0), 1, 1) := by kernel_rfl
def cells (l : List UInt8) : List Value := l.map fun b => Value.int .u8 (b.toNat : Int)
theorem cells_len (l : List UInt8) : (cells l).length = l.length := by simp [cells]
theorem cells_get {l : List UInt8} {k : Nat} {u : Value} (h : (cells l)[k]? = some u) : ∃ b, l[k]? = some b ∧ u = .int .u8 (b.toNat : Int) := by
  unfold cells at h
  rw [List.getElem?_map] at h
  cases hb : l[k]? with
  | none => rw [hb] at h; cases h
  | some b => rw [hb] at h; cases h; exact ⟨b, rfl, rfl⟩
theorem cells_one {l : List UInt8} : ∀ u ∈ cells l, u.oneCell' = true := by
  intro u hu
  obtain ⟨b, _, rfl⟩ := List.mem_map.mp hu
  rfl

/-! ### Bytes that are there -/
/-- At the address lie the bytes l. -/
def Byt (w : World) (A : Option Addr) (l : List UInt8) : Prop :=
  ∀ (k : Nat) (b : UInt8), l[k]? = some b → ∃ g off, A = some ⟨g, off, none⟩ ∧ g < w.heap.size ∧ w.cell? ⟨g, off + k, none⟩ = some (.int .u8 (b.toNat : Int))
def InY (w : World) (v : Value) (l : List UInt8) : Prop := ∃ A c, v = .slice A l.length c ∧ l.length ≤ c ∧ c ≤ maxLen ∧ Byt w A l
theorem Byt.nil (w : World) (A : Option Addr) : Byt w A [] := fun k z h => by simp at h
theorem Byt.on {w w' : World} {A : Option Addr} {l : List UInt8} (h : Byt w A l) (hb : Below w.heap.size w w') : Byt w' A l := by
  intro k z hk
  obtain ⟨b, off, e, hlt, h0⟩ := h k z hk
  exact ⟨b, off, e, Nat.lt_of_lt_of_le hlt hb.size, (hb.cell (p := ⟨b, off + k, none⟩) hlt).trans h0⟩
theorem Byt.none_nil {w : World} {l : List UInt8} (h : Byt w none l) : l = [] := by
  cases l with
  | nil => rfl
  | cons b r => obtain ⟨g, off, e, _⟩ := h 0 b rfl; cases e
theorem Byt.take {w : World} {A : Option Addr} {l : List UInt8} (h : Byt w A l) (k : Nat) : Byt w A (l.take k) := by
  intro j z hz
  rw [List.getElem?_take] at hz
  split at hz
  · exact h j z hz
  · cases hz
theorem InY.on {w w' : World} {v : Value} {l : List UInt8} (h : InY w v l) (hb : Below w.heap.size w w') : InY w' v l := by
  obtain ⟨A, c, e, h1, h2, h3⟩ := h; exact ⟨A, c, e, h1, h2, h3.on hb⟩
theorem InY.nil (w : World) : InY w (.slice none 0 0) [] := ⟨none, 0, rfl, Nat.le_refl _, by unfold maxLen; omega, Byt.nil _ _⟩
theorem cell_new (w : World) (cs : Array Value) (t : TypeId) (k : Nat) : (w.alloc (.cells cs t)).cell? ⟨w.heap.size, k, none⟩ = cs[k]? :=
  cell_of_row (w.alloc (.cells cs t)) w.heap.size k cs t (0, 0) (heap_alloc_new w _)
/-- A literal. -/
theorem byt_lit (w : World) (t : TypeId) (l : List UInt8) : Byt (w.alloc (.cells (cells l).toArray t)) (some ⟨w.heap.size, 0, none⟩) l := by
  intro k z hz
  refine ⟨w.heap.size, 0, rfl, by simp, ?_⟩
  rw [cell_new, Nat.zero_add]
  simp [cells, hz]
theorem in_lit (w : World) (t : TypeId) (l : List UInt8) (h : l.length ≤ 1000000) : InY (w.alloc (.cells (cells l).toArray t)) (.slice (some ⟨w.heap.size, 0, none⟩) l.length l.length) l :=
  ⟨_, _, rfl, Nat.le_refl _, by unfold maxLen; omega, byt_lit w t l⟩
theorem byt_one (w : World) (t : TypeId) (i : Int) (b : UInt8) (hi : i = (b.toNat : Int)) {g : Nat} (hg : w.heap.size = g) : Byt (w.alloc (.cells #[.int .u8 i] t)) (some ⟨g, 0, none⟩) [b] := by
  subst hi hg
  exact byt_lit w t [b]

/-! ### Bytes of the call's own -/
def OwnY (B : Nat) (w : World) (v : Value) (l : List UInt8) : Prop := w.ownsRow B 5 1 v l.length (cells l)
theorem OwnY.nil (B : Nat) (w : World) : OwnY B w (.slice none 0 0) [] := World.ownsRow_nil _ _ _ _
theorem OwnY.empty (w : World) : OwnY w.heap.size (w.alloc (.cells #[] 5)) (.slice (some ⟨w.heap.size, 0, none⟩) 0 0) [] :=
  World.ownsRow_lit (base := w.heap.size) (e := 5) (size := 1) w #[] 0 (Nat.le_refl _) (by unfold maxLen; omega) rfl
theorem OwnY.keep {B : Nat} {w w' : World} {v : Value} {l : List UInt8} (h : OwnY B w v l) (hk : ∀ k, v.ownBlock = some k → w'.heap[k]? = w.heap[k]?) : OwnY B w' v l := by
  obtain ⟨h1, h0 | ⟨g, cap, cur, rfl, h2, h3, h4⟩⟩ := h
  · exact ⟨h1, Or.inl h0⟩
  · exact ⟨h1, Or.inr ⟨g, cap, cur, rfl, h2, (hk g rfl).trans h3, h4⟩⟩
theorem OwnY.base {B B' : Nat} {w : World} {v : Value} {l : List UInt8} (h : OwnY B' w v l) (hB : B ≤ B') : OwnY B w v l := by
  obtain ⟨h1, h0 | ⟨g, cap, cur, rfl, h2, h3, h4⟩⟩ := h
  · exact ⟨h1, Or.inl h0⟩
  · exact ⟨h1, Or.inr ⟨g, cap, cur, rfl, Nat.le_trans hB h2, h3, h4⟩⟩
theorem OwnY.lt {B : Nat} {w : World} {v : Value} {l : List UInt8} (h : OwnY B w v l) : ∀ k, v.ownBlock = some k → k < w.heap.size := fun k hk => (World.ownsRow.lt h k hk).2
theorem OwnY.ge {B : Nat} {w : World} {v : Value} {l : List UInt8} (h : OwnY B w v l) : ∀ k, v.ownBlock = some k → B ≤ k := fun k hk => (World.ownsRow.lt h k hk).1
theorem OwnY.alloc {B : Nat} {w : World} {v : Value} {l : List UInt8} (h : OwnY B w v l) (o : Obj) : OwnY B (w.alloc o) v l := World.ownsRow.alloc h o
theorem OwnY.on {B : Nat} {w w' : World} {v : Value} {l : List UInt8} (h : OwnY B w v l) (hb : Below w.heap.size w w') : OwnY B w' v l := h.keep fun k hk => hb.block k (h.lt k hk)
theorem OwnY.len {B : Nat} {w : World} {v : Value} {l : List UInt8} (h : OwnY B w v l) : ∃ A c, v = .slice A l.length c ∧ l.length ≤ c ∧ c ≤ maxLen := by
  obtain ⟨h1, ⟨rfl, h2⟩ | ⟨g, cap, cur, rfl, h2, h3, h4, h5, _⟩⟩ := h
  · exact ⟨none, 0, by rw [h2], by omega, by unfold maxLen; omega⟩
  · exact ⟨_, cap, rfl, h4, h5⟩
theorem OwnY.inY {B : Nat} {w : World} {v : Value} {l : List UInt8} (h : OwnY B w v l) : InY w v l := by
  obtain ⟨h1, ⟨rfl, h2⟩ | ⟨g, cap, cur, rfl, h2, h3, h4, h5, h6, h7⟩⟩ := h
  · obtain rfl : l = [] := List.eq_nil_of_length_eq_zero h2
    exact InY.nil w
  · refine ⟨_, cap, rfl, h4, h5, fun k z hz => ⟨g, 0, rfl, (Array.getElem?_eq_some_iff.mp h3).1, ?_⟩⟩
    rw [cell_of_row w g _ cur _ (0, 0) h3, Nat.zero_add]
    have hu : (cur.toList.take (l.length * 1))[k]? = some (.int .u8 (z.toNat : Int)) := by rw [h7, cells, List.getElem?_map, hz]; rfl
    rw [List.getElem?_take] at hu
    split at hu
    · simpa using hu
    · cases hu
/-- What a step on an own slice leaves as it was. -/
theorem own_below {B : Nat} {w w' : World} {v : Value} {l : List UInt8} (h : OwnY B w v l) (hg : w.grownBy w' v.ownBlock) (hB : B ≤ w.heap.size) : Below B w w' :=
  ⟨hg.os, hg.tape, hg.output, hg.size, fun i hi => hg.block i (Nat.lt_of_lt_of_le hi hB) fun e => by have := h.ge i e.symm; omega⟩
theorem none_below {B : Nat} {w w' : World} (hg : w.grownBy w' none) (hB : B ≤ w.heap.size) : Below B w w' :=
  ⟨hg.os, hg.tape, hg.output, hg.size, fun i hi => hg.block i (Nat.lt_of_lt_of_le hi hB) (by simp)⟩

/-- A slice without room, or the call's own. -/
def Grw (B : Nat) (w : World) (v : Value) (l : List UInt8) : Prop := (∃ A, v = .slice A l.length l.length ∧ Byt w A l) ∨ OwnY B w v l
theorem Grw.on {B : Nat} {w w' : World} {v : Value} {l : List UInt8} (h : Grw B w v l) (hb : Below w.heap.size w w') : Grw B w' v l := by
  rcases h with ⟨A, rfl, h1⟩ | h
  · exact Or.inl ⟨A, rfl, h1.on hb⟩
  · exact Or.inr (h.on hb)
/-- 'append(s, x..)', x a slice of bytes that is there and not empty. -/
theorem append_grw {w : World} {ops : Array Oper} {rest : List Oper} {o : Oper} {a : Act} {Q : Exit → Act → World → Prop} (hgd : o.guard = none) (s x : Operand)
    (ho : o.op = .call { callee := .builtin .append, args := #[s, x], argTypes := #[22, 22] })
    (B : Nat) (v : Value) (l : List UInt8) (hs : a.eval s = v) (hown : Grw B w v l)
    (A : Option Addr) (c : Nat) (t : List UInt8) (m : Nat) (hm : m = t.length) (hx : a.eval x = .slice A m c) (hz : Byt w A t) (h0 : 0 < t.length)
    (hlen : l.length + t.length ≤ 1000000) (hB : B ≤ w.heap.size)
    (h : ∀ v' w', OwnY B w' v' (l ++ t) → Below B w w' → wpList Tryd.prog ops Q rest (a.put o.dst v') w') : wpList Tryd.prog ops Q (o :: rest) a w := by
  subst hm
  obtain ⟨i0, hi0, hz0, hz1, hz2⟩ := info_parts info_byte
  have ow : ∀ {B' : Nat} {w' : World} {v' : Value}, w'.ownsRow B' 5 1 v' (l.length + t.length) (cells l ++ cells t) → OwnY B' w' v' (l ++ t) := by
    intro B' w' v' h1
    unfold OwnY
    rw [List.length_append, cells, List.map_append]; exact h1
  cases A with
  | none => have := hz.none_nil; subst this; simp at h0
  | some ad =>
    have hnews : ∀ j u, (cells t)[j]? = some u → w.cell? (ad.add j) = some u := by
      intro j u hj
      obtain ⟨b, hb, rfl⟩ := cells_get hj
      obtain ⟨g, off, e, _, hc⟩ := hz j b hb
      cases e
      rw [Addr.add_lit, hc]
    rcases hown with ⟨A', rfl, hb⟩ | hown
    · refine wpList_append_grows w hgd s x _ ho 5 i0 (.int .u8 0) 1 1 Tryd.underlying22 hi0 hz0 hz1 hz2 rfl (by decide) A' l.length l.length (cells l) hs ?_ (by simp [cells]) ?_ ad t.length c (cells t) hx (by simp [cells]) hnews cells_one (by omega) (by unfold maxLen; omega) (by omega) ?_
      · rintro rfl; have := hb.none_nil; subst this; exact ⟨rfl, rfl⟩
      · rintro ad' rfl j u hj
        obtain ⟨b, hb', rfl⟩ := cells_get hj
        obtain ⟨g, off, e, _, hc⟩ := hb j b hb'
        cases e
        rw [Addr.add_lit, hc]
      · intro v' w' hown' hg
        exact h v' w' ((ow hown').base hB) (none_below hg hB)
    · refine wpList_append_own w hgd s x _ ho B 5 i0 (.int .u8 0) 1 1 Tryd.underlying22 hi0 hz0 hz1 hz2 rfl (by decide) v l.length _ hs hown ad t.length c (cells t) hx (by simp [cells]) hnews cells_one (by unfold maxLen; omega) (by omega) hB ?_
      intro v' w' hown' hg _
      exact h v' w' (ow hown') (own_below hown hg hB)
theorem run_append_empty {P : Program} {w : World} (base : Nat) (t ty e : TypeId) (i : TypeInfo) (size : Nat) (A : Option Addr) (c : Nat) (ht : P.underlying t = some (.slice e)) (hi : P.info? e = some i)
    (v : Value) (n : Nat) (xs : List Value) (hown : w.ownsRow base e size v n xs) :
    (Builtin.append_ #[t, t] ty #[v, .slice A 0 c]).run P w = .ok v w := by
  rcases hown.2 with ⟨rfl, rfl⟩ | ⟨g, cap, cur, rfl, _, _, hnc, _⟩
  · cases A <;> simp [Builtin.append_, run_underlying ht, sizeOf, typeInfo, hi, Builtin.lenOf, Builtin.firstCells, loadCells, loadCellsFrom]
  · cases A <;> simp [Builtin.append_, run_underlying ht, sizeOf, typeInfo, hi, Builtin.lenOf, Builtin.firstCells, hnc, storeCells, loadCells, loadCellsFrom]
/-- 'append(s, x..)', s the call's own, x a slice of bytes that is there. -/
theorem append_own {w : World} {ops : Array Oper} {rest : List Oper} {o : Oper} {a : Act} {Q : Exit → Act → World → Prop} (hgd : o.guard = none) (s x : Operand)
    (ho : o.op = .call { callee := .builtin .append, args := #[s, x], argTypes := #[22, 22] })
    (B : Nat) (v : Value) (l : List UInt8) (hs : a.eval s = v) (hown : OwnY B w v l)
    (A : Option Addr) (c : Nat) (t : List UInt8) (m : Nat) (hm : m = t.length) (hx : a.eval x = .slice A m c) (hz : Byt w A t)
    (hlen : l.length + t.length ≤ 1000000) (hB : B ≤ w.heap.size)
    (h : ∀ v' w', OwnY B w' v' (l ++ t) → Below B w w' → wpList Tryd.prog ops Q rest (a.put o.dst v') w') : wpList Tryd.prog ops Q (o :: rest) a w := by
  cases t with
  | cons b r => exact append_grw hgd s x ho B v l hs (Or.inr hown) A c (b :: r) m hm hx hz (by simp) hlen hB h
  | nil =>
    subst hm
    obtain ⟨i0, hi0, hz0, hz1, hz2⟩ := info_parts info_byte
    refine wpList_plain hgd fun K hK => ?_
    have hrun := run_append_empty (P := Tryd.prog) (w := w) B 22 o.type 5 i0 1 A c Tryd.underlying22 hi0 v l.length _ hown
    unfold Oper.wp
    simp only [List.length_nil] at hx
    simp [execOp, ho, resolve, invoke, builtin, hs, hx, hrun, Result.andThen]
    exact hK _ _ (h v w (by rw [List.append_nil]; exact hown) (Below.refl _ _))
/-- 'append(s, t...)', t a string. -/
theorem append_text {w : World} {ops : Array Oper} {rest : List Oper} {o : Oper} {a : Act} {Q : Exit → Act → World → Prop} (hgd : o.guard = none) (s x : Operand)
    (ho : o.op = .call { callee := .builtin .append, args := #[s, x], argTypes := #[22, 9] })
    (B : Nat) (v : Value) (l : List UInt8) (hs : a.eval s = v) (hown : OwnY B w v l) (t : ByteArray) (hx : a.eval x = .string t) (hlen : l.length + t.size ≤ 1000000) (hB : B ≤ w.heap.size)
    (h : ∀ v' w', OwnY B w' v' (l ++ ls t) → Below B w w' → wpList Tryd.prog ops Q rest (a.put o.dst v') w') : wpList Tryd.prog ops Q (o :: rest) a w := by
  obtain ⟨i0, hi0, hz0, hz1, hz2⟩ := info_parts info_byte
  refine Lib.wpList_append_own_string w hgd s x 22 9 ho B 5 i0 Tryd.underlying22 Tryd.underlying9 hi0 hz0 hz1 hz2 v l.length _ hs hown t hx (by unfold maxLen; omega) (by omega) hB ?_
  intro v' w' hown' hg _
  refine h v' w' ?_ (own_below hown hg hB)
  unfold OwnY
  rw [List.length_append, show (ls t).length = t.size from str_len t]
  have e : cells (l ++ ls t) = cells l ++ Lib.strCells t := by simp [cells, Lib.strCells, ls]
  rw [e]; exact hown'

/-! ### Slicing, and strings of bytes -/
theorem slice_full (A : Option Addr) (n c : Nat) (hc : n ≤ c) (W : World) : (Instr.slice 22 (.slice A n c) none (some (.int .i64 (n : Int))) (some (.int .i64 (n : Int)))).run Tryd.prog W = .ok (.slice A n n) W := by
  have ht : Tryd.prog.underlying 22 = some (.slice (Tryd.prog.elem 22)) := by kernel_rfl
  have hs : (sizeOf (Tryd.prog.elem 22)).run Tryd.prog W = .ok 1 W := Tryd.sizeOf5 W
  rw [run_slice_hm W 22 A n c ht .i64 .i64 n n (by omega) (by omega) (by omega), hs]
  simp [sliced, Result.andThen]
  intro _
  cases A <;> simp [Addr.add]
theorem slice_to (A : Option Addr) (n c k : Nat) (hk : k ≤ c) (W : World) : (Instr.slice 22 (.slice A n c) none (some (.int .i64 (k : Int))) none).run Tryd.prog W = .ok (.slice A k c) W := by
  have ht : Tryd.prog.underlying 22 = some (.slice (Tryd.prog.elem 22)) := by kernel_rfl
  have hs : (sizeOf (Tryd.prog.elem 22)).run Tryd.prog W = .ok 1 W := Tryd.sizeOf5 W
  rw [run_slice_h W 22 A n c ht .i64 k (by omega) (by omega), hs]
  simp [sliced, Result.andThen]
  intro _
  cases A <;> simp [Addr.add]
theorem slice_from {w : World} {A : Option Addr} {c : Nat} {l : List UInt8} (h : Byt w A l) (hc : l.length ≤ c) (k : Nat) (hk : k ≤ l.length) :
    ∃ A' c' m, (l.drop k).length = m ∧ m ≤ c' ∧ c' ≤ c ∧ (∀ W : World, (Instr.slice 22 (.slice A l.length c) (some (.int .i64 (k : Int))) none none).run Tryd.prog W = .ok (.slice A' m c') W) ∧ Byt w A' (l.drop k) := by
  have ht : Tryd.prog.underlying 22 = some (.slice (Tryd.prog.elem 22)) := by kernel_rfl
  refine ⟨if c = k then A else A.map (·.add (k * 1)), c - k, l.length - k, List.length_drop, by omega, by omega, fun W => ?_, fun j z hz => ?_⟩
  · have hs : (sizeOf (Tryd.prog.elem 22)).run Tryd.prog W = .ok 1 W := Tryd.sizeOf5 W
    rw [run_slice_l W 22 A l.length c ht .i64 k (by omega) (by omega), hs]
    simp [sliced, Result.andThen]
  · rw [List.getElem?_drop] at hz
    obtain ⟨b, off, rfl, hlt, hcell⟩ := h (k + j) z hz
    have := lt_get hz
    rw [if_neg (by omega)]
    refine ⟨b, off + k, by simp [Addr.add_lit], hlt, ?_⟩
    rw [show off + k + j = off + (k + j) by omega]; exact hcell
theorem slice_mid {w : World} {A : Option Addr} {c : Nat} {l : List UInt8} (h : Byt w A l) (hc : l.length ≤ c) (k d : Nat) (hk : k + d ≤ l.length) :
    ∃ A' c' m, ((l.drop k).take d).length = m ∧ (∀ W : World, (Instr.slice 22 (.slice A l.length c) (some (.int .i64 (k : Int))) (some (.int .i64 ((k + d : Nat) : Int))) none).run Tryd.prog W = .ok (.slice A' m c') W) ∧ Byt w A' ((l.drop k).take d) := by
  have ht : Tryd.prog.underlying 22 = some (.slice (Tryd.prog.elem 22)) := by kernel_rfl
  refine ⟨if c = k then A else A.map (·.add (k * 1)), c - k, d, by rw [List.length_take, List.length_drop]; omega, fun W => ?_, fun j z hz => ?_⟩
  · have hs : (sizeOf (Tryd.prog.elem 22)).run Tryd.prog W = .ok 1 W := Tryd.sizeOf5 W
    rw [run_slice_lh W 22 A l.length c ht .i64 .i64 k (k + d : Nat) (by omega) (by omega) (by omega), hs]
    simp [sliced, Result.andThen]
    omega
  · rw [List.getElem?_take] at hz
    split at hz
    · rw [List.getElem?_drop] at hz
      obtain ⟨b, off, rfl, hlt, hcell⟩ := h (k + j) z hz
      have := lt_get hz
      rw [if_neg (by omega)]
      refine ⟨b, off + k, by simp [Addr.add_lit], hlt, ?_⟩
      rw [show off + k + j = off + (k + j) by omega]; exact hcell
    · cases hz
theorem conv_at {w : World} {A : Option Addr} {c m : Nat} {l : List UInt8} (h : Byt w A l) (hm : l.length = m) : (convert 22 9 (.slice A m c)).run Tryd.prog w = .ok (.string (bs l)) w := by
  subst hm
  cases A with
  | none =>
    obtain rfl := h.none_nil
    rw [List.length_nil, run_convert_bytes_string w 22 9 5 none 0 c Tryd.underlying22 Tryd.underlying5 Tryd.underlying9]
    rfl
  | some ad =>
    refine run_convert_bytes_back (P := Tryd.prog) w 22 9 5 ad c l Tryd.underlying22 Tryd.underlying5 Tryd.underlying9 (fun j hj => ?_)
    obtain ⟨g, off, e, _, hc⟩ := h j l[j] (List.getElem?_eq_getElem hj)
    cases e
    rw [Addr.add_lit]; exact hc

/-! ### decoded, withoutRoom -/
theorem wire_decoded (u : Nat) (w : World) (h1 : u < 18446744073709551616) : Calls Tryd.prog 33 #[.int .u64 (u : Int)] w fun e w' => e = .returned (.int .i64 (decI u)) ∧ w = w' := by
  have hb : bits .and .u64 (u : Int) 1 = ((u % 2 : Nat) : Int) := by
    have := u64_and_nat u 1 h1 (by omega)
    rw [Nat.and_one_is_mod] at this; exact this
  obtain ⟨H, hH⟩ : ∃ H, H = -1 - (u : Int) / 2 := ⟨_, rfl⟩
  have hs : IntKind.i64.signed = true := rfl
  have hx : bits .xor .i64 (-1) ((u : Int) / 2) = H := by rw [hH]; exact i64_not (u / 2) (by omega)
  have HH := Lib.hid hH
  clear hH
  have h2 : (0 : Int) ≤ (u : Int) := by omega
  have h3 : (u : Int) < 18446744073709551616 := by omega
  have HD : Hid (decI u = if u % 2 = 1 then -((u / 2 : Nat) : Int) - 1 else ((u / 2 : Nat) : Int)) := rfl
  rcases Nat.mod_two_eq_zero_or_one u with h | h
  · have hb1 : bits .and .u64 (u : Int) 1 = 0 := by rw [hb, h]; rfl
    have HD1 := Lib.hid (show decI u = ((u / 2 : Nat) : Int) by rw [HD.out, if_neg (by omega)])
    clear h hb HD
    go_enter Tryd.func33, Tryd.ntmps33
    go_wp2_with fail
    go_ret
    exact ⟨ret_int (by rw [HD1.out]; rfl), rfl⟩
  · have hb1 : bits .and .u64 (u : Int) 1 = 1 := by rw [hb, h]; rfl
    have HD1 := Lib.hid (show decI u = H by rw [HD.out, if_pos h, HH.out]; omega)
    clear h hb HD
    go_enter Tryd.func33, Tryd.ntmps33
    go_wp2_with fail
    go_ret
    exact ⟨ret_int (by rw [HD1.out]), rfl⟩
theorem wire_room (A : Option Addr) (n c : Nat) (hc : n ≤ c) (w : World) (hm : n ≤ 1000000) : Calls Tryd.prog 35 #[.slice A n c] w fun e w' => e = .returned (.slice A n n) ∧ w = w' := by
  have C := slice_full A n c hc
  go_enter Tryd.func35, Tryd.ntmps35
  go_wp2_with fail
  go_ret
  exact ⟨rfl, rfl⟩
#print axioms append_own
#print axioms append_text
#print axioms wire_decoded
#print axioms wire_room
end Go.Proofs.YtahgkohnamnljaaDoor.Wire
