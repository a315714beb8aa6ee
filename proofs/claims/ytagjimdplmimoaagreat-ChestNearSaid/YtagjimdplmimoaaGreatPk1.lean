/- Several texts in one: LawKit, MemA, RowA, RowB, RowC, RowD, TankK. -/
import Derived.Test.YtagjimdplmimoaaGreatRows
import Derived.WalkKit
import Derived.ProofKit
import Derived.OpenShut
import Derived.ShutString
import Derived.ChangeOld
import Derived.Below
import Derived.Lib.SmallJoins
import Derived.WalkLawsBesides
import Derived.WalkSpells
import Derived.Outline
import Derived.Laws.OwnMore
import Derived.Laws.CopyOwn
import Derived.OwnWalk
import Derived.Deep.QuietTactic
import Derived.BigQuiet
import Derived.Laws.StructEq
import Derived.Laws.AppendOwnNone
import Derived.Laws.EntriesVeiled
import Derived.Deep.AppendLies
import Derived.Deep.RegionLaw
import Derived.Deep.RegionHeld3
import Derived.Deep.Cut
import Derived.Deep.CutRange
import Derived.Shelf.Abstract
import Derived.Lib.Hide
import Derived.StillTailTactics
import Derived.Maps.AppendAt
import Derived.Defers
import Derived.Recover
import Derived.ArgAppend
/- For the frames of laws: opening an array of four integers; slices of integers that came in. -/
namespace Go.Proofs.YtagjimdplmimoaaGreat
open Go Go.ChangeShapes Go.WideShapes Go.RowKit Go.Joins
set_option linter.unusedVariables false
set_option maxRecDepth 100000

theorem own : ownKnob Tryz.prog.godebug = none := by kernel_rfl
theorem laidOut : laidOutB Tryz.prog = true := by kernel_rfl

section
variable {H : Type} {enc : TypeId × Value → H} {P : Program} {w : World} {base b0 : Nat} {spare : Nat → Bool} {held : Bool} {t e : TypeId} {v : Value} {d : DataW H} {p : List MemPlace} {k : IntKind} {r : Reach}

theorem okWide_arr {n : Nat} (ht : P.underlying t = some (.array n e)) (h : Value.okWide P w r b0 t v) : ∃ cs, v = .agg cs ∧ cs.size = P.cellsOf t := by
  simp only [Value.okWide, ht] at h
  obtain ⟨cs, h1, h2, _⟩ := h
  exact ⟨cs, h1, h2⟩

theorem open_arr4 (ht : P.underlying t = some (.array 4 e)) (he : P.underlying e = some (.int k)) (hce : P.cellsOf e = 1) (hct : P.cellsOf t = 4)
    (hv : Value.okWide P w r b0 t v) (h : DataW.Trod enc P w base spare held t v d p) :
    ∃ x0 x1 x2 x3 : Int, v = .agg #[.int k x0, .int k x1, .int k x2, .int k x3] ∧ (Lit.int k x0).wf = true ∧ (Lit.int k x1).wf = true ∧ (Lit.int k x2).wf = true ∧ (Lit.int k x3).wf = true := by
  obtain ⟨cs, rfl, hsz⟩ := okWide_arr ht hv
  obtain ⟨c0, c1, c2, c3, rfl⟩ := array4 (hsz.trans hct)
  obtain ⟨fuel, hf⟩ := h
  obtain ⟨xs, m, rfl, hx, hl, hn, hi⟩ := DataW.trod_array ht hf
  have g0 := hi 0 (by omega)
  have g1 := hi 1 (by omega)
  have g2 := hi 2 (by omega)
  have g3 := hi 3 (by omega)
  rw [hce] at g0 g1 g2 g3
  obtain ⟨y0, y1, y2, y3, rfl⟩ : ∃ y0 y1 y2 y3, xs = [y0, y1, y2, y3] := by
    match xs, hn with
    | [y0, y1, y2, y3], _ => exact ⟨y0, y1, y2, y3, rfl⟩
  simp [Value.cells] at g0 g1 g2 g3
  obtain ⟨x0, e0, _, w0⟩ := DataW.trod_int he g0
  obtain ⟨x1, e1, _, w1⟩ := DataW.trod_int he g1
  obtain ⟨x2, e2, _, w2⟩ := DataW.trod_int he g2
  obtain ⟨x3, e3, _, w3⟩ := DataW.trod_int he g3
  simp at e0 e1 e2 e3
  subst e0 e1 e2 e3
  exact ⟨x0, x1, x2, x3, rfl, w0, w1, w2, w3⟩

/-- A slice of integers of kind k that came in: its elements are zs, and it lies below the heap's size. -/
def InInts (k : IntKind) (w : World) (A : Option Addr) (n c : Nat) (zs : List Int) : Prop :=
  n = zs.length ∧ n ≤ c ∧ c ≤ maxLen ∧ (∀ z ∈ zs, (Lit.int k z).wf = true) ∧
  ∀ i z, zs[i]? = some z → ∃ b off, A = some ⟨b, off, none⟩ ∧ b < w.heap.size ∧ w.cell? ⟨b, off + i, none⟩ = some (.int k z)
theorem InInts.len {A : Option Addr} {n c : Nat} {zs : List Int} (h : InInts k w A n c zs) : n = zs.length := h.1
theorem open_slice_ints (ht : P.underlying t = some (.slice e)) (he : P.underlying e = some (.int k)) (hce : P.cellsOf e = 1)
    (hv : Value.okWide P w r b0 t v) (h : DataW.Trod enc P w 0 (fun _ => true) held t v d p) :
    ∃ A n c zs, v = .slice A n c ∧ InInts k w A n c zs := by
  obtain ⟨A, n, c, rfl⟩ := okWide_slice ht hv
  refine ⟨A, n, c, ?_⟩
  obtain ⟨fuel, hf⟩ := h
  rcases open_ints ht he hce hf with ⟨hcs, _⟩ | ⟨x, l, c', zs, hcs, _, hl, hm, hz, _, hcell, hwz⟩
  · simp [Value.cells] at hcs
    obtain ⟨rfl, rfl, rfl⟩ := hcs
    exact ⟨[], rfl, rfl, Nat.le_refl _, by unfold maxLen; omega, by simp, by simp⟩
  · simp [Value.cells] at hcs
    obtain ⟨rfl, rfl, rfl⟩ := hcs
    have hz' : zs.length = c := by simpa using hz
    refine ⟨zs.take n, rfl, by simp; omega, hl, hm, fun z hz => hwz z (List.mem_of_mem_take hz), fun i z hi => ?_⟩
    have hin : i < n := by
      rcases Nat.lt_or_ge i n with h1 | h1
      · exact h1
      · rw [List.getElem?_take, if_neg (by omega)] at hi; cases hi
    rw [List.getElem?_take, if_pos hin] at hi
    obtain ⟨b, off, rfl, hc⟩ := ints_at hcell (by omega)
    have hci := hc i (by omega)
    have ez : zs.getD i 0 = z := by rw [List.getD_eq_getElem?_getD, hi]; rfl
    rw [ez] at hci
    exact ⟨b, off, rfl, World.block_lt_of_cell? w _ hci, hci⟩
end
end Go.Proofs.YtagjimdplmimoaaGreat
/- Slices of one-cell elements in memory: what is there, what is the call's own; made, set, appended to. What a step leaves as it was. -/
namespace Go.Proofs.YtagjimdplmimoaaGreat.Mem
open Go.ChangeShapes Go.WideShapes Go.RowKit Go.Lib
set_option linter.unusedVariables false
set_option maxRecDepth 100000

theorem lt_of_get {α : Type} {l : List α} {j : Nat} {x : α} (h : l[j]? = some x) : j < l.length := by
  rw [List.getElem?_eq_some_iff] at h; exact h.1
/-- Of what was there all but the blocks in S is as it was. -/
structure Off (S : Nat → Prop) (w w' : World) : Prop where
  os : w'.os = w.os
  tape : w'.tape = w.tape
  output : w'.output = w.output
  size : w.heap.size ≤ w'.heap.size
  block : ∀ k, k < w.heap.size → ¬ S k → w'.heap[k]? = w.heap[k]?
theorem Off.refl (S : Nat → Prop) (w : World) : Off S w w := ⟨rfl, rfl, rfl, Nat.le_refl _, fun _ _ _ => rfl⟩
theorem Off.trans {S S' : Nat → Prop} {a b c : World} (h : Off S a b) (k : Off S' b c) (hs : ∀ x, S' x → S x ∨ a.heap.size ≤ x) : Off S a c :=
  ⟨k.os.trans h.os, k.tape.trans h.tape, k.output.trans h.output, Nat.le_trans h.size k.size, fun i hi hn =>
    (k.block i (Nat.lt_of_lt_of_le hi h.size) fun e => by rcases hs i e with h1 | h1; exact hn h1; omega).trans (h.block i hi hn)⟩
theorem Off.below {S : Nat → Prop} {a b : World} {B : Nat} (h : Off S a b) (hB : B ≤ a.heap.size) (hs : ∀ x, S x → B ≤ x) : Below B a b :=
  ⟨h.os, h.tape, h.output, h.size, fun i hi => h.block i (by omega) fun e => by have := hs i e; omega⟩
theorem Off.of_below {S : Nat → Prop} {a b : World} (h : Below a.heap.size a b) : Off S a b := ⟨h.os, h.tape, h.output, h.size, fun i hi _ => h.block i hi⟩
theorem Off.then_below {S : Nat → Prop} {a b c : World} (h : Off S a b) (k : Below b.heap.size b c) : Off S a c := h.trans (Off.of_below (S := fun _ => False) k) fun x e => e.elim
theorem Off.alloc {S : Nat → Prop} {a b : World} (h : Off S a b) (o : Obj) : Off S a (b.alloc o) := h.then_below ((Below.refl _ _).alloc (Nat.le_refl _) _)
theorem Off.drew {S : Nat → Prop} {a b : World} (h : Off S a b) : Off S a b.drew := ⟨h.os, h.tape, h.output, h.size, h.block⟩
theorem Off.set {S : Nat → Prop} {a b : World} (h : Off S a b) {p : Addr} (hp : S p.block ∨ a.heap.size ≤ p.block) (u : Value) : Off S a (b.setCell p u) :=
  h.trans (S' := fun k => k = p.block) ⟨rfl, rfl, rfl, by simp [World.setCell], fun i hi hn => Below.heap_setCell _ _ _ _ hn⟩ fun x e => e ▸ hp
theorem Off.grown {S : Nat → Prop} {a b c : World} {row : Option Nat} (h : Off S a b) (hg : b.grownBy c row) (hr : ∀ k, row = some k → S k ∨ a.heap.size ≤ k) : Off S a c :=
  h.trans (S' := fun k => row = some k) ⟨hg.os, hg.tape, hg.output, hg.size, fun i hi hn => hg.block i hi fun e => hn e.symm⟩ fun x e => hr x e
theorem Off.before {S : Nat → Prop} {a b c : World} (h : Below a.heap.size a b) (k : Off S b c) : Off S a c :=
  (Off.of_below h).trans k fun x e => Or.inl e
theorem Off.mono {S S' : Nat → Prop} {a b : World} (h : Off S a b) (hs : ∀ x, S x → S' x ∨ a.heap.size ≤ x) : Off S' a b :=
  ⟨h.os, h.tape, h.output, h.size, fun i hi hn => h.block i hi fun e => by rcases hs i e with h1 | h1; exact hn h1; omega⟩
theorem below_alloc (w : World) (o : Obj) : Below w.heap.size w (w.alloc o) := (Below.refl _ _).alloc (Nat.le_refl _) _
theorem bstep {a b c : World} (h : Below a.heap.size a b) (k : Below b.heap.size b c) : Below a.heap.size a c := h.trans (k.mono h.size)
theorem below_drewN {B : Nat} {a w : World} (h : Below B a w) (n : Nat) : Below B a (w.drewN n) := ⟨h.os, h.tape, h.output, h.size, h.block⟩
theorem below_drew {B : Nat} {a w : World} (h : Below B a w) : Below B a w.drew := ⟨h.os, h.tape, h.output, h.size, h.block⟩
theorem below_set {B : Nat} {a w : World} (h : Below B a w) {p : Addr} (hp : B ≤ p.block) (u : Value) : Below B a (w.setCell p u) :=
  ⟨h.os, h.tape, h.output, by simpa using h.size, fun k hk => (Below.heap_setCell w p u k (by omega)).trans (h.block k hk)⟩
theorem ret_bool {a b : Bool} (h : a = b) : Ending.returned (.bool a) = .returned (.bool b) := by rw [h]
theorem ret_int {k : IntKind} {a b : Int} (h : a = b) : Ending.returned (.int k a) = .returned (.int k b) := by rw [h]
theorem get_lt {α : Type} {L : List α} {k : Nat} (h : k < L.length) : ∃ s, L[k]? = some s := ⟨_, List.getElem?_eq_getElem h⟩
theorem all_of {α : Type} {p : α → Bool} {L : List α} (h : ∀ (j : Nat) s, j < L.length → L[j]? = some s → p s = true) : L.all p = true := by
  rw [List.all_eq_true]
  intro s hs
  obtain ⟨j, hj⟩ := List.mem_iff_getElem?.mp hs
  exact h j s (lt_of_get hj) hj
theorem all_not {α : Type} {p : α → Bool} {L : List α} {j : Nat} {s : α} (h : L[j]? = some s) (hs : p s = false) : L.all p = false := by
  rw [List.all_eq_false]; exact ⟨s, List.mem_of_getElem? h, by simpa using hs⟩
theorem wrap_id {x : Int} (h : -9223372036854775808 ≤ x ∧ x ≤ 9223372036854775807) : IntKind.i64.wrap x = x := by rw [IntKind.wrap_i64]; omega

/-! ### One-cell elements -/
section
variable {α : Type} {enc : α → Value} {t : TypeId} {B : Nat} {w w' : World} {v : Value} {L : List α} {g n cap : Nat} {A : Option Addr}
/-- At the address lie the elements of L. -/
def Cl (enc : α → Value) (w : World) (A : Option Addr) (L : List α) : Prop :=
  ∀ (k : Nat) (z : α), L[k]? = some z → ∃ b off, A = some ⟨b, off, none⟩ ∧ b < w.heap.size ∧ w.cell? ⟨b, off + k, none⟩ = some (enc z)
/-- A slice that holds L. -/
def InS (enc : α → Value) (w : World) (v : Value) (L : List α) : Prop := ∃ A c, v = .slice A L.length c ∧ L.length ≤ c ∧ c ≤ maxLen ∧ Cl enc w A L
/-- A slice of the call's own that holds L. -/
def Own (enc : α → Value) (t : TypeId) (B : Nat) (w : World) (v : Value) (L : List α) : Prop := w.ownsRow B t 1 v L.length (L.map enc)
theorem Cl.nil (enc : α → Value) (w : World) (A : Option Addr) : Cl enc w A [] := fun k z h => by simp at h
theorem Cl.on (h : Cl enc w A L) (hb : Below w.heap.size w w') : Cl enc w' A L := by
  intro k z hk
  obtain ⟨b, off, e, hlt, h0⟩ := h k z hk
  exact ⟨b, off, e, Nat.lt_of_lt_of_le hlt hb.size, (hb.cell (p := ⟨b, off + k, none⟩) hlt).trans h0⟩
theorem Cl.drew (h : Cl enc w A L) : Cl enc w.drew A L := h
theorem InS.nil (enc : α → Value) (w : World) : InS enc w (.slice none 0 0) [] := ⟨none, 0, rfl, Nat.le_refl _, by unfold maxLen; omega, Cl.nil _ _ _⟩
theorem InS.on (h : InS enc w v L) (hb : Below w.heap.size w w') : InS enc w' v L := by
  obtain ⟨A, c, e, h1, h2, h3⟩ := h; exact ⟨A, c, e, h1, h2, h3.on hb⟩
theorem InS.open_ (h : InS enc w v L) : ∃ A c, v = .slice A L.length c ∧ L.length ≤ 9223372036854775807 ∧ Cl enc w A L := by
  obtain ⟨A, c, rfl, h1, h2, h3⟩ := h
  exact ⟨A, c, rfl, by unfold maxLen at h2; omega, h3⟩
theorem Own.nil (enc : α → Value) (t : TypeId) (B : Nat) (w : World) : Own enc t B w (.slice none 0 0) [] := World.ownsRow_nil _ _ _ _
theorem Own.lt (h : Own enc t B w v L) : ∀ k, v.ownBlock = some k → B ≤ k ∧ k < w.heap.size := World.ownsRow.lt h
theorem Own.inS (h : Own enc t B w v L) : InS enc w v L := by
  obtain ⟨h1, ⟨rfl, h2⟩ | ⟨g, cap, cur, rfl, h2, h3, h4, h5, h6, h7⟩⟩ := h
  · obtain rfl : L = [] := List.eq_nil_of_length_eq_zero h2
    exact InS.nil enc w
  · refine ⟨_, cap, rfl, h4, h5, fun k z hz => ⟨g, 0, rfl, (Array.getElem?_eq_some_iff.mp h3).1, ?_⟩⟩
    rw [cell_of_row w g _ cur _ (0, 0) h3, Nat.zero_add]
    have hu : (cur.toList.take (L.length * 1))[k]? = some (enc z) := by rw [h7, List.getElem?_map, hz]; rfl
    rw [List.getElem?_take] at hu
    split at hu
    · simpa using hu
    · cases hu
theorem Own.blk (h : Own enc t B w v L) (h0 : 0 < L.length) : ∃ g cap, v = .slice (some ⟨g, 0, none⟩) L.length cap ∧ B ≤ g ∧ g < w.heap.size ∧ L.length ≤ cap := by
  obtain ⟨_, ⟨_, h1⟩ | ⟨g, cap, cur, h1, h2, h3, h4, _⟩⟩ := h
  · omega
  · exact ⟨g, cap, h1, h2, (Array.getElem?_eq_some_iff.mp h3).1, h4⟩
theorem Own.keep (h : Own enc t B w v L) (hk : ∀ k, v.ownBlock = some k → w'.heap[k]? = w.heap[k]?) : Own enc t B w' v L := by
  obtain ⟨h1, h0 | ⟨g, cap, cur, rfl, h2, h3, h4⟩⟩ := h
  · exact ⟨h1, Or.inl h0⟩
  · exact ⟨h1, Or.inr ⟨g, cap, cur, rfl, h2, (hk g rfl).trans h3, h4⟩⟩
theorem Own.on (h : Own enc t B w v L) (hb : Below w.heap.size w w') : Own enc t B w' v L := h.keep fun k hk => hb.block k (h.lt k hk).2
theorem Own.drew (h : Own enc t B w v L) : Own enc t B w.drew v L := h
theorem Own.drewN (h : Own enc t B w v L) (n : Nat) : Own enc t B (w.drewN n) v L := h.keep fun _ _ => rfl
theorem Own.alloc (h : Own enc t B w v L) (o : Obj) : Own enc t B (w.alloc o) v L := World.ownsRow.alloc h o
theorem Own.less {B' : Nat} (h : Own enc t B w v L) (hB : B' ≤ B) : Own enc t B' w v L := by
  obtain ⟨h1, h0 | ⟨g, cap, cur, e, h2, h3⟩⟩ := h
  · exact ⟨h1, Or.inl h0⟩
  · exact ⟨h1, Or.inr ⟨g, cap, cur, e, Nat.le_trans hB h2, h3⟩⟩
theorem Own.other (h : Own enc t B w v L) {p : Addr} (hp : v.ownBlock ≠ some p.block) (u : Value) : Own enc t B (w.setCell p u) v L :=
  h.keep fun k hk => Below.heap_setCell w p u k fun e => hp (by rw [hk, e])
theorem Own.warm (h : Own enc t B w (.slice (some ⟨g, 0, none⟩) n cap) L) (hn : n = L.length) (j : Nat) : w.frozen? ⟨g, j, none⟩ = false := by
  subst hn
  exact World.ownsRow.frozenAt (h : w.ownsRow B t 1 (.slice (some ⟨g, 0, none⟩) L.length cap) L.length (L.map enc)) j
theorem Own.set (h : Own enc t B w (.slice (some ⟨g, 0, none⟩) n cap) L) (hn : n = L.length) (j : Nat) (z : α) : Own enc t B (w.setCell ⟨g, j, none⟩ (enc z)) (.slice (some ⟨g, 0, none⟩) n cap) (L.set j z) := by
  subst hn
  have h1 := (World.ownsRow.stored (h : w.ownsRow B t 1 (.slice (some ⟨g, 0, none⟩) L.length cap) L.length (L.map enc)) j (enc z)).1
  unfold Own
  rw [List.length_set, List.map_set]; exact h1
theorem Own.cell (h : Own enc t B w (.slice (some ⟨g, 0, none⟩) n cap) L) {j : Nat} {b : α} (hb : L[j]? = some b) : w.cell? ⟨g, j, none⟩ = some (enc b) := by
  obtain ⟨A, c, e, _, _, hy⟩ := h.inS
  cases e
  obtain ⟨g', off, e, _, hc⟩ := hy j b hb
  cases e
  rw [Nat.zero_add] at hc; exact hc
theorem Own.cl (h : Own enc t B w (.slice (some ⟨g, 0, none⟩) n cap) L) : Cl enc w (some ⟨g, 0, none⟩) L := by
  obtain ⟨A, c, e, _, _, hy⟩ := h.inS
  cases e
  exact hy
theorem Own.below (h : Own enc t B w v L) (hg : w.grownBy w' v.ownBlock) (hB : B ≤ w.heap.size) : Below B w w' :=
  ⟨hg.os, hg.tape, hg.output, hg.size, fun i hi => hg.block i (Nat.lt_of_lt_of_le hi hB) fun e => by have := (h.lt i e.symm).1; omega⟩
end

/-! ### Appending, making -/
theorem info_int : (Tryz.prog.info? 3).map (fun i => (i.zero, i.size, i.bytes)) = some (some (.int .i64 0), 1, 8) := by kernel_rfl
abbrev eI : Int → Value := Value.int .i64
abbrev eB : Bool → Value := Value.bool
/-- 'append(s, x)' of integers. -/
theorem append_int {w : World} {ops : Array Oper} {rest : List Oper} {o : Oper} {a : Act} {Q : Exit → Act → World → Prop} (hgd : o.guard = none) (s x : Operand)
    (ho : o.op = .call { callee := .builtin .append, args := #[s, x], argTypes := #[22, 22] })
    (B : Nat) (v : Value) (L : List Int) (hs : a.eval s = v) (hown : Own eI 3 B w v L) (g c0 : Nat) (z : Int) (hx : a.eval x = .slice (some ⟨g, 0, none⟩) 1 c0) (hz : w.cell? ⟨g, 0, none⟩ = some (.int .i64 z))
    (hlen : L.length + 1 ≤ 1000000) (hB : B ≤ w.heap.size)
    (h : ∀ v' w', Own eI 3 B w' v' (L ++ [z]) → w.grownBy w' v.ownBlock → (v'.ownBlock = v.ownBlock ∨ v'.ownBlock = some w.heap.size) → wpList Tryz.prog ops Q rest (a.put o.dst v') w') : wpList Tryz.prog ops Q (o :: rest) a w := by
  obtain ⟨i0, hi0, hz0, hz1, hz2⟩ := info_parts info_int
  refine wpList_append_own_at w hgd s x _ ho B 3 i0 (.int .i64 0) 1 8 Tryz.underlying22 hi0 hz0 hz1 hz2 rfl (by decide) v L.length (L.map eI) hs hown ⟨g, 0, none⟩ 1 c0 [.int .i64 z] hx rfl ?_ (by intro u hu; simp at hu; subst hu; rfl) (by unfold maxLen; omega) (by omega) hB ?_
  · intro j u hj
    match j, hj with
    | 0, hj => simp at hj; subst hj; rw [Addr.add_lit]; exact hz
  · intro v' w' hown' hg _ hat
    exact h v' w' (by unfold Own; rw [List.length_append, List.map_append]; exact hown') hg hat
theorem int_one (w : World) (x : Int) (T : TypeId) {g : Nat} (hg : w.heap.size = g) : (w.alloc (.cells #[.int .i64 x] T)).cell? ⟨g, 0, none⟩ = some (.int .i64 x) := by subst hg; simp
theorem make_ints (n : Nat) (hn : n ≤ 100000) (W : World) :
    (Instr.makeSlice 22 (.int .i64 (n : Int)) (.int .i64 (n : Int))).run Tryz.prog W = .ok (.slice (some ⟨W.heap.size, 0, none⟩) n n) (W.alloc (.cells (madeCells #[.int .i64 0] n) 3)) := by
  obtain ⟨i, hi, hz, hs, hb⟩ := info_parts info_int
  have h := run_make (P := Tryz.prog) (w := W) 22 3 i _ Tryz.underlying22 hi hz .i64 .i64 (n : Int) (n : Int) (by omega) (by omega) (by rw [hb]; omega) (by omega)
  rw [hs, Int.toNat_natCast, Nat.mul_one] at h
  exact h
/-- What make made. -/
theorem own_made {α : Type} (enc : α → Value) (t : TypeId) (W : World) (n : Nat) (x : α) (hn : n ≤ 100000) : Own enc t W.heap.size (W.alloc (.cells (madeCells #[enc x] n) t)) (.slice (some ⟨W.heap.size, 0, none⟩) n n) (List.replicate n x) := by
  have h := World.ownsRow_lit (base := W.heap.size) (e := t) (size := 1) W (madeCells #[enc x] n) n (Nat.le_refl _) (by unfold maxLen; omega) (by rw [size_madeCells, Nat.mul_one])
  unfold Own
  rw [List.length_replicate, List.map_replicate]
  rw [toList_madeCells_one] at h
  exact h
theorem slice_lo (A : Addr) (n c k : Nat) (hA : A.spot = none) (hk : k ≤ n) (hc : k < c) (W : World) : (Instr.slice 22 (.slice (some A) n c) (some (.int .i64 (k : Int))) none none).run Tryz.prog W = .ok (.slice (some ⟨A.block, A.off + k, none⟩) (n - k) (c - k)) W := by
  have ht : Tryz.prog.underlying 22 = some (.slice (Tryz.prog.elem 22)) := by kernel_rfl
  have hs : (sizeOf (Tryz.prog.elem 22)).run Tryz.prog W = .ok 1 W := Tryz.sizeOf3 W
  obtain ⟨b, off, sp⟩ := A
  simp at hA
  subst hA
  rw [run_slice_l W 22 (some ⟨b, off, none⟩) n c ht .i64 k (by omega) (by omega), hs]
  simp [sliced, Result.andThen, Addr.add_lit]
  intro h
  omega
theorem slice_hi (A : Option Addr) (n c k : Nat) (hk : k ≤ c) (W : World) : (Instr.slice 22 (.slice A n c) none (some (.int .i64 (k : Int))) none).run Tryz.prog W = .ok (.slice A k c) W := by
  have ht : Tryz.prog.underlying 22 = some (.slice (Tryz.prog.elem 22)) := by kernel_rfl
  have hs : (sizeOf (Tryz.prog.elem 22)).run Tryz.prog W = .ok 1 W := Tryz.sizeOf3 W
  rw [run_slice_h W 22 A n c ht .i64 k (by omega) (by omega), hs]
  simp [sliced, Result.andThen]
  intro _
  cases A <;> simp [Addr.add]
theorem drew_below (w : World) : Below w.heap.size w w.drew := below_drew (Below.refl _ _)
theorem take_snoc_of {α : Type} {l : List α} {k : Nat} {z : α} (h : l[k]? = some z) : l.take (k + 1) = l.take k ++ [z] := by
  rw [List.take_add_one, h]; rfl
end Go.Proofs.YtagjimdplmimoaaGreat.Mem
/- Rows of elements in memory, whatever their cells; what a step leaves as it was. -/
namespace Go.Proofs.YtagjimdplmimoaaGreat.Rw
open Go.ChangeShapes Go.WideShapes Go.RowKit
set_option linter.unusedVariables false
set_option maxRecDepth 100000

theorem glt {β : Type} {L : List β} {k : Nat} {x : β} (h : L[k]? = some x) : k < L.length := by
  rw [List.getElem?_eq_some_iff] at h; exact h.1
/-- Of what was there all but the blocks in S is as it was. -/
structure Off (S : Nat → Prop) (w w' : World) : Prop where
  os : w'.os = w.os
  tape : w'.tape = w.tape
  output : w'.output = w.output
  size : w.heap.size ≤ w'.heap.size
  block : ∀ k, k < w.heap.size → ¬ S k → w'.heap[k]? = w.heap[k]?
theorem Off.refl (S : Nat → Prop) (w : World) : Off S w w := ⟨rfl, rfl, rfl, Nat.le_refl _, fun _ _ _ => rfl⟩
theorem Off.trans {S S' : Nat → Prop} {a b c : World} (h : Off S a b) (k : Off S' b c) (hs : ∀ x, S' x → S x ∨ a.heap.size ≤ x) : Off S a c :=
  ⟨k.os.trans h.os, k.tape.trans h.tape, k.output.trans h.output, Nat.le_trans h.size k.size, fun i hi hn =>
    (k.block i (Nat.lt_of_lt_of_le hi h.size) fun e => by rcases hs i e with h1 | h1; exact hn h1; omega).trans (h.block i hi hn)⟩
theorem Off.below {S : Nat → Prop} {a b : World} {B : Nat} (h : Off S a b) (hB : B ≤ a.heap.size) (hs : ∀ x, S x → B ≤ x) : Below B a b :=
  ⟨h.os, h.tape, h.output, h.size, fun i hi => h.block i (by omega) fun e => by have := hs i e; omega⟩
theorem Off.of_below {S : Nat → Prop} {a b : World} (h : Below a.heap.size a b) : Off S a b := ⟨h.os, h.tape, h.output, h.size, fun i hi _ => h.block i hi⟩
theorem Off.then_below {S : Nat → Prop} {a b c : World} (h : Off S a b) (k : Below b.heap.size b c) : Off S a c := h.trans (Off.of_below (S := fun _ => False) k) fun x e => e.elim
theorem Off.alloc {S : Nat → Prop} {a b : World} (h : Off S a b) (o : Obj) : Off S a (b.alloc o) := h.then_below ((Below.refl _ _).alloc (Nat.le_refl _) _)
theorem Off.drew {S : Nat → Prop} {a b : World} (h : Off S a b) : Off S a b.drew := ⟨h.os, h.tape, h.output, h.size, h.block⟩
theorem Off.set {S : Nat → Prop} {a b : World} (h : Off S a b) {p : Addr} (hp : S p.block ∨ a.heap.size ≤ p.block) (u : Value) : Off S a (b.setCell p u) :=
  h.trans (S' := fun k => k = p.block) ⟨rfl, rfl, rfl, by simp [World.setCell], fun i hi hn => Below.heap_setCell _ _ _ _ hn⟩ fun x e => e ▸ hp
theorem Off.grown {S : Nat → Prop} {a b c : World} {row : Option Nat} (h : Off S a b) (hg : b.grownBy c row) (hr : ∀ k, row = some k → S k ∨ a.heap.size ≤ k) : Off S a c :=
  h.trans (S' := fun k => row = some k) ⟨hg.os, hg.tape, hg.output, hg.size, fun i hi hn => hg.block i hi fun e => hn e.symm⟩ fun x e => hr x e
theorem Off.before {S : Nat → Prop} {a b c : World} (h : Below a.heap.size a b) (k : Off S b c) : Off S a c :=
  (Off.of_below h).trans k fun x e => Or.inl e
theorem Off.mono {S S' : Nat → Prop} {a b : World} (h : Off S a b) (hs : ∀ x, S x → S' x ∨ a.heap.size ≤ x) : Off S' a b :=
  ⟨h.os, h.tape, h.output, h.size, fun i hi hn => h.block i hi fun e => by rcases hs i e with h1 | h1; exact hn h1; omega⟩
theorem below_alloc (w : World) (o : Obj) : Below w.heap.size w (w.alloc o) := (Below.refl _ _).alloc (Nat.le_refl _) _
theorem bstep {a b c : World} (h : Below a.heap.size a b) (k : Below b.heap.size b c) : Below a.heap.size a c := h.trans (k.mono h.size)
theorem below_drewN {B : Nat} {a w : World} (h : Below B a w) (n : Nat) : Below B a (w.drewN n) := ⟨h.os, h.tape, h.output, h.size, h.block⟩
theorem below_drew {B : Nat} {a w : World} (h : Below B a w) : Below B a w.drew := ⟨h.os, h.tape, h.output, h.size, h.block⟩
theorem drew_below (w : World) : Below w.heap.size w w.drew := below_drew (Below.refl _ _)
theorem ret_bool {a b : Bool} (h : a = b) : Ending.returned (.bool a) = .returned (.bool b) := by rw [h]
theorem ret_int {k : IntKind} {a b : Int} (h : a = b) : Ending.returned (.int k a) = .returned (.int k b) := by rw [h]
theorem get_lt {α : Type} {L : List α} {k : Nat} (h : k < L.length) : ∃ s, L[k]? = some s := ⟨_, List.getElem?_eq_getElem h⟩
theorem take_snoc_of {α : Type} {l : List α} {k : Nat} {z : α} (h : l[k]? = some z) : l.take (k + 1) = l.take k ++ [z] := by
  rw [List.take_add_one, h]; rfl
theorem wrap_id {x : Int} (h : -9223372036854775808 ≤ x ∧ x ≤ 9223372036854775807) : IntKind.i64.wrap x = x := by rw [IntKind.wrap_i64]; omega
theorem frozen_of {W : World} {g : Nat} {cs : Array Value} {t : TypeId} (h : W.heap[g]? = some (.cells cs t (0, 0))) (i : Nat) : W.frozen? ⟨g, i, none⟩ = false := by simp [World.frozen?, h]

section
variable {α : Type} {cs : α → List Value} {s : Nat} {t : TypeId} {B : Nat} {w w' : World} {v : Value} {L : List α} {g n cap : Nat} {A : Option Addr}
/-- At the address lie the elements of L; cs: the cells of an element, s of them. -/
def Rd (cs : α → List Value) (s : Nat) (w : World) (A : Option Addr) (L : List α) : Prop :=
  ∀ (k : Nat) (z : α), L[k]? = some z → ∃ b off, A = some ⟨b, off, none⟩ ∧ b < w.heap.size ∧ ∀ j u, (cs z)[j]? = some u → w.cell? ⟨b, off + (k * s + j), none⟩ = some u
/-- A row of the call's own that holds L. -/
def Row (cs : α → List Value) (s : Nat) (t : TypeId) (B : Nat) (w : World) (v : Value) (L : List α) : Prop := w.ownsRow B t s v L.length (L.flatMap cs)
theorem Rd.nil (cs : α → List Value) (s : Nat) (w : World) (A : Option Addr) : Rd cs s w A [] := fun k z h => by simp at h
theorem Rd.keep (h : Rd cs s w A L) (hs : w.heap.size ≤ w'.heap.size) (hk : ∀ b off, A = some ⟨b, off, none⟩ → b < w.heap.size → w'.heap[b]? = w.heap[b]?) : Rd cs s w' A L := by
  intro k z hz
  obtain ⟨b, off, e, hlt, h0⟩ := h k z hz
  exact ⟨b, off, e, Nat.lt_of_lt_of_le hlt hs, fun j u hu => (World.cell?_of_block (a := ⟨b, off + (k * s + j), none⟩) (hk b off e hlt)).trans (h0 j u hu)⟩
theorem Rd.on (h : Rd cs s w A L) (hb : Below w.heap.size w w') : Rd cs s w' A L := h.keep hb.size fun b _ _ hlt => hb.block b hlt
theorem Rd.take (h : Rd cs s w A L) (n : Nat) : Rd cs s w A (L.take n) := by
  intro k z hk
  rw [List.getElem?_take] at hk
  split at hk
  · exact h k z hk
  · cases hk
theorem Rd.none_ (h : Rd cs s w none L) : L = [] := by
  cases L with
  | nil => rfl
  | cons z zs => obtain ⟨b, off, hA, _⟩ := h 0 z rfl; cases hA
theorem flat_len (hc : ∀ z, (cs z).length = s) (L : List α) : (L.flatMap cs).length = L.length * s := by
  induction L with
  | nil => simp
  | cons z L ih => rw [List.flatMap_cons, List.length_append, hc, ih, List.length_cons, Nat.succ_mul]; omega
theorem flat_at (hc : ∀ z, (cs z).length = s) {L : List α} {k : Nat} {z : α} (hk : L[k]? = some z) {j : Nat} {u : Value} (hu : (cs z)[j]? = some u) : (L.flatMap cs)[k * s + j]? = some u := by
  induction L generalizing k with
  | nil => simp at hk
  | cons y L ih =>
    rw [List.flatMap_cons]
    cases k with
    | zero =>
      simp at hk; subst hk
      rw [Nat.zero_mul, Nat.zero_add, List.getElem?_append_left (glt hu)]
      exact hu
    | succ k =>
      have := ih (k := k) (by simpa using hk)
      rw [List.getElem?_append_right (by rw [hc, Nat.succ_mul]; omega), hc, Nat.succ_mul, show k * s + s + j - s = k * s + j by omega]
      exact this
theorem Row.nil (cs : α → List Value) (s : Nat) (t : TypeId) (B : Nat) (w : World) : Row cs s t B w (.slice none 0 0) [] := World.ownsRow_nil _ _ _ _
theorem Row.lt (h : Row cs s t B w v L) : ∀ k, v.ownBlock = some k → B ≤ k ∧ k < w.heap.size := World.ownsRow.lt h
theorem Row.one (hc : ∀ z, (cs z).length = s) (h : Row cs s t B w v L) : ∃ A c, v = .slice A L.length c ∧ L.length ≤ c ∧ c ≤ maxLen ∧ Rd cs s w A L ∧ v.ownBlock = A.map (·.block) ∧ (A = none ∨ ∃ g, A = some ⟨g, 0, none⟩ ∧ B ≤ g ∧ g < w.heap.size) := by
  obtain ⟨h1, ⟨rfl, h2⟩ | ⟨g, cap, cur, rfl, h2, h3, h4, h5, h6, h7⟩⟩ := h
  · obtain rfl : L = [] := List.eq_nil_of_length_eq_zero h2
    exact ⟨none, 0, rfl, Nat.le_refl _, by unfold maxLen; omega, Rd.nil _ _ _ _, rfl, Or.inl rfl⟩
  · have hg := (Array.getElem?_eq_some_iff.mp h3).1
    refine ⟨some ⟨g, 0, none⟩, cap, rfl, h4, h5, fun k z hz => ⟨g, 0, rfl, hg, fun j u hu => ?_⟩, rfl, Or.inr ⟨g, rfl, h2, hg⟩⟩
    rw [cell_of_row w g _ cur _ (0, 0) h3, Nat.zero_add]
    have hu' := flat_at hc hz hu
    rw [← h7, List.getElem?_take] at hu'
    split at hu'
    · simpa using hu'
    · cases hu'
theorem Row.blk (h : Row cs s t B w v L) (h0 : 0 < L.length) : ∃ g cap, v = .slice (some ⟨g, 0, none⟩) L.length cap ∧ B ≤ g ∧ g < w.heap.size ∧ L.length ≤ cap ∧ cap ≤ maxLen := by
  obtain ⟨_, ⟨_, h1⟩ | ⟨g, cap, cur, h1, h2, h3, h4, h5, _⟩⟩ := h
  · omega
  · exact ⟨g, cap, h1, h2, (Array.getElem?_eq_some_iff.mp h3).1, h4, h5⟩
theorem Row.cell (hc : ∀ z, (cs z).length = s) (h : Row cs s t B w (.slice (some ⟨g, 0, none⟩) n cap) L) {k : Nat} {z : α} (hk : L[k]? = some z) {j : Nat} {u : Value} (hu : (cs z)[j]? = some u) : w.cell? ⟨g, k * s + j, none⟩ = some u := by
  obtain ⟨A, c, e, _, _, hy, _⟩ := h.one hc
  cases e
  obtain ⟨g', off, e, _, hcell⟩ := hy k z hk
  cases e
  have := hcell j u hu
  rw [Nat.zero_add] at this; exact this
theorem Row.keep (h : Row cs s t B w v L) (hk : ∀ k, v.ownBlock = some k → w'.heap[k]? = w.heap[k]?) : Row cs s t B w' v L := by
  obtain ⟨h1, h0 | ⟨g, cap, cur, rfl, h2, h3, h4⟩⟩ := h
  · exact ⟨h1, Or.inl h0⟩
  · exact ⟨h1, Or.inr ⟨g, cap, cur, rfl, h2, (hk g rfl).trans h3, h4⟩⟩
theorem Row.on (h : Row cs s t B w v L) (hb : Below w.heap.size w w') : Row cs s t B w' v L := h.keep fun k hk => hb.block k (h.lt k hk).2
theorem Row.less {B' : Nat} (h : Row cs s t B w v L) (hB : B' ≤ B) : Row cs s t B' w v L := by
  obtain ⟨h1, h0 | ⟨g, cap, cur, e, h2, h3⟩⟩ := h
  · exact ⟨h1, Or.inl h0⟩
  · exact ⟨h1, Or.inr ⟨g, cap, cur, e, Nat.le_trans hB h2, h3⟩⟩
theorem Row.warm (h : Row cs s t B w (.slice (some ⟨g, 0, none⟩) n cap) L) (hn : n = L.length) (j : Nat) : w.frozen? ⟨g, j, none⟩ = false := by
  subst hn
  exact World.ownsRow.frozenAt (h : w.ownsRow B t s (.slice (some ⟨g, 0, none⟩) L.length cap) L.length (L.flatMap cs)) j
/-- A cell that is set. -/
theorem own_set {xs : List Value} {m : Nat} (h : w.ownsRow B t s (.slice (some ⟨g, 0, none⟩) m cap) m xs) (j : Nat) (u : Value) : (w.setCell ⟨g, j, none⟩ u).ownsRow B t s (.slice (some ⟨g, 0, none⟩) m cap) m (xs.set j u) := (World.ownsRow.stored h j u).1
theorem Row.below (h : Row cs s t B w v L) (hg : w.grownBy w' v.ownBlock) (hB : B ≤ w.heap.size) : Below B w w' :=
  ⟨hg.os, hg.tape, hg.output, hg.size, fun i hi => hg.block i (Nat.lt_of_lt_of_le hi hB) fun e => by have := (h.lt i e.symm).1; omega⟩
theorem Row.empty (cs : α → List Value) (s : Nat) (t : TypeId) (w : World) (hB : B ≤ w.heap.size) : Row cs s t B (w.alloc (.cells #[] t)) (.slice (some ⟨w.heap.size, 0, none⟩) 0 0) [] :=
  World.ownsRow_lit (base := B) (e := t) (size := s) w #[] 0 hB (by unfold maxLen; omega) (by simp)
/-- The first n elements: 's[:n]'. -/
theorem Row.cut (hc : ∀ z, (cs z).length = s) (h : Row cs s t B w (.slice (some ⟨g, 0, none⟩) n cap) L) (hn : n = L.length) {m : Nat} (hm : m ≤ n) : Row cs s t B w (.slice (some ⟨g, 0, none⟩) m cap) (L.take m) := by
  subst hn
  obtain ⟨h1, ⟨h0, _⟩ | ⟨g', cap', cur, e, h2, h3, h4, h5, h6, h7⟩⟩ := h
  · cases h0
  · cases e
    have hfl : (L.take m).flatMap cs = (L.flatMap cs).take (m * s) := by
      conv => rhs; rw [← List.take_append_drop m L, List.flatMap_append]
      rw [List.take_left' (by rw [flat_len hc, List.length_take]; congr 1; omega)]
    have hlen : (L.take m).length = m := by rw [List.length_take]; omega
    refine ⟨by rw [flat_len hc], Or.inr ⟨g, cap, cur, by rw [hlen], h2, h3, by rw [hlen]; omega, h5, h6, ?_⟩⟩
    rw [hlen, hfl, ← h7, List.take_take]
    congr 1
    exact (Nat.min_eq_left (Nat.mul_le_mul_right _ hm)).symm
end
end Go.Proofs.YtagjimdplmimoaaGreat.Rw
/- append to a row of the call's own: one law, whatever the elements. -/
namespace Go.Proofs.YtagjimdplmimoaaGreat.Rw
open Go.ChangeShapes Go.WideShapes Go.RowKit Go.Lib
set_option linter.unusedVariables false
set_option maxRecDepth 100000

/-- What the dump says of a kind of elements: T the slice's type, t the element's. -/
structure Kd {α : Type} (cs : α → List Value) (s : Nat) (T t : TypeId) : Prop where
  und : Tryz.prog.underlying T = some (.slice t)
  info : ∃ i z by_, Tryz.prog.info? t = some i ∧ i.zero = some z ∧ i.size = s ∧ i.bytes = by_ ∧ z.cells.size = s ∧ by_ ≤ 1000
  len : ∀ z, (cs z).length = s
  pos : 0 < s
  one : ∀ z, ∀ u ∈ cs z, u.oneCell' = true

theorem run_append_none {P : Program} {w : World} (base : Nat) (t ty e : TypeId) (i : TypeInfo) (size c : Nat) (ht : P.underlying t = some (.slice e)) (hi : P.info? e = some i)
    (v : Value) (n : Nat) (xs : List Value) (hown : w.ownsRow base e size v n xs) :
    (Builtin.append_ #[t, t] ty #[v, .slice none 0 c]).run P w = .ok v w := by
  rcases hown.2 with ⟨rfl, rfl⟩ | ⟨g, cap, cur, rfl, _, _, hnc, _⟩
  · simp [Builtin.append_, run_underlying ht, sizeOf, typeInfo, hi, Builtin.lenOf, Builtin.firstCells]
  · simp [Builtin.append_, run_underlying ht, sizeOf, typeInfo, hi, Builtin.lenOf, Builtin.firstCells, hnc, storeCells]
theorem run_equalIn_fn_nil {P : Program} (W : World) (d : Nat) (t : TypeId) (x y z) (h : P.underlying t = some (.func x y z)) (fn : Fn) (a cap : Array Value) : (Op.equalIn (d + 1) t (.func fn a cap) .nilFunc).run P W = .ok false W := by
  simp [Op.equalIn, run_underlying h]
theorem run_eql_fn_nil {P : Program} (W : World) (t : TypeId) (x y z) (h : P.underlying t = some (.func x y z)) (fn : Fn) (a cap : Array Value) : (binOp .eql t (.func fn a cap) .nilFunc).run P W = .ok (.bool false) W := by
  simp only [binOp]
  simp [Op.equal, Op.maxDepth, run_equalIn_fn_nil W 9999 t x y z h]
theorem run_equalIn_nil_nil {P : Program} (W : World) (d : Nat) (t : TypeId) (x y z) (h : P.underlying t = some (.func x y z)) : (Op.equalIn (d + 1) t .nilFunc .nilFunc).run P W = .ok true W := by
  simp [Op.equalIn, run_underlying h]
theorem run_eql_fnil_fnil {P : Program} (W : World) (t : TypeId) (x y z) (h : P.underlying t = some (.func x y z)) : (binOp .eql t .nilFunc .nilFunc).run P W = .ok (.bool true) W := by
  simp only [binOp]
  simp [Op.equal, Op.maxDepth, run_equalIn_nil_nil W 9999 t x y z h]
section
variable {α : Type} {cs : α → List Value} {s : Nat} {T t : TypeId} {B : Nat} {w w' : World} {v : Value} {L M : List α} {A : Option Addr}
theorem rd_flat (hc : ∀ z, (cs z).length = s) (h0 : 0 < s) {ad : Addr} (h : Rd cs s w (some ad) M) : ∀ j u, (M.flatMap cs)[j]? = some u → w.cell? (ad.add j) = some u := by
  intro j u hj
  have hjl := glt hj
  rw [flat_len hc] at hjl
  have hk : j / s < M.length := by rw [Nat.div_lt_iff_lt_mul h0]; exact hjl
  obtain ⟨z, hz⟩ := get_lt hk
  obtain ⟨b, off, e, _, hcell⟩ := h _ _ hz
  cases e
  have hr : j % s < (cs z).length := by rw [hc]; exact Nat.mod_lt _ h0
  obtain ⟨u', hu'⟩ := get_lt hr
  have hf := flat_at hc hz hu'
  have hjj : j / s * s + j % s = j := by rw [Nat.mul_comm]; exact Nat.div_add_mod j s
  rw [hjj, hj] at hf
  obtain rfl := Option.some.inj hf
  have := hcell _ _ hu'
  rw [hjj] at this
  rw [Addr.add_lit]; exact this
theorem run_append_rows (K : Kd cs s T t) (hown : Row cs s t B w v L) (m c : Nat) (hm : m = M.length) (hz : Rd cs s w A M) (hlen : L.length + m ≤ 1000000) (hB : B ≤ w.heap.size) (ty : TypeId) :
    ∃ v' w', (Builtin.append_ #[T, T] ty #[v, .slice A m c]).run Tryz.prog w = .ok v' w' ∧ Row cs s t B w' v' (L ++ M) ∧ w.grownBy w' v.ownBlock ∧ (v'.ownBlock = v.ownBlock ∨ v'.ownBlock = some w.heap.size) := by
  obtain ⟨i, zv, by_, hi, hzv, hs, hby, hzc, hb1⟩ := K.info
  subst hm
  cases A with
  | none =>
    obtain rfl := hz.none_
    exact ⟨v, w, run_append_none B T ty t i s c K.und hi v L.length _ hown, by rw [List.append_nil]; exact hown, World.grownBy.refl _ _, Or.inl rfl⟩
  | some ad =>
    have hbb : (L.length + M.length) * by_ ≤ 140737488355328 := Nat.le_trans (Nat.mul_le_mul hlen hb1) (by decide)
    obtain ⟨v', w', hr, h1, h2, _, h3⟩ := run_append_own_at (P := Tryz.prog) w B T ty t i zv s by_ K.und hi hzv hs hby hzc K.pos v L.length _ hown ad M.length c (M.flatMap cs) (flat_len K.len M) (rd_flat K.len K.pos hz)
      (fun u hu => by obtain ⟨z, hz, hu⟩ := List.mem_flatMap.mp hu; exact K.one z u hu) (by unfold maxLen; omega) hbb hB
    exact ⟨v', w', hr, by unfold Row; rw [List.length_append, List.flatMap_append]; exact h1, h2, h3⟩
/-- 'append(s, x...)' in a plain region. -/
theorem append_rows (K : Kd cs s T t) {ops : Array Oper} {rest : List Oper} {o : Oper} {a : Act} {Q : Exit → Act → World → Prop} (hgd : o.guard = none) (x y : Operand)
    (ho : o.op = .call { callee := .builtin .append, args := #[x, y], argTypes := #[T, T] })
    (v : Value) (L : List α) (hs : a.eval x = v) (hown : Row cs s t B w v L) (A : Option Addr) (m c : Nat) (M : List α) (hm : m = M.length) (hx : a.eval y = .slice A m c) (hz : Rd cs s w A M) (hlen : L.length + m ≤ 1000000) (hB : B ≤ w.heap.size)
    (h : ∀ A' n' c' w', n' = L.length + m → Row cs s t B w' (.slice A' n' c') (L ++ M) → w.grownBy w' v.ownBlock → ((Value.slice A' n' c').ownBlock = v.ownBlock ∨ (Value.slice A' n' c').ownBlock = some w.heap.size) → wpList Tryz.prog ops Q rest (a.put o.dst (.slice A' n' c')) w') :
    wpList Tryz.prog ops Q (o :: rest) a w := by
  obtain ⟨v', w', hr, h1, h2, h3⟩ := run_append_rows K hown m c hm hz hlen hB o.type
  obtain ⟨A', c', rfl, -⟩ := h1.one K.len
  refine wpList_plain hgd fun K' hK => ?_
  unfold Oper.wp execOp
  simp only [ho, resolve, invoke, builtin, Sem.run_bind, Sem.run_pure, Result.andThen_ok, List.map_toArray, List.map_cons, List.map_nil, hs, hx, hr]
  exact hK _ _ (h A' _ c' w' (by rw [List.length_append, hm]) h1 h2 h3)
/-- 'append(s, x...)' at a step of a region that draws its order; w0: the world ahead of the region, in which the row lies. -/
theorem step_rows (K : Kd cs s T t) (w0 : World) {ops : Array Oper} {o : Oper} {a : Act} {K' : Act → World → Prop} {Q : Exit → Act → World → Prop} {E : Prop} (hgd : o.guard = none) (x y : Operand)
    (ho : o.op = .call { callee := .builtin .append, args := #[x, y], argTypes := #[T, T] })
    (v : Value) (L : List α) (hs : a.eval x = v) (hown : Row cs s t B w0 v L) (hbm : Below w0.heap.size w0 w) (A : Option Addr) (m c : Nat) (M : List α) (hm : m = M.length) (hx : a.eval y = .slice A m c) (hz : Rd cs s w A M) (hlen : L.length + m ≤ 1000000) (hB : B ≤ w0.heap.size)
    (h : ∀ A' n' c' w', n' = L.length + m → Row cs s t B w' (.slice A' n' c') (L ++ M) → (∀ b, b < w.heap.size → v.ownBlock ≠ some b → w'.heap[b]? = w.heap[b]?) → w0.grownBy w' v.ownBlock → ((Value.slice A' n' c').ownBlock = v.ownBlock ∨ ∃ b, (Value.slice A' n' c').ownBlock = some b ∧ w0.heap.size ≤ b) → K' (a.put o.dst (.slice A' n' c')) w') :
    if Region.wanted o (yielded ops a.tmps) = true then Oper.wp Tryz.prog o a w K' Q else E := by
  have hw : Region.wanted o (yielded ops a.tmps) = true := by simp [Region.wanted, hgd]
  rw [if_pos hw]
  obtain ⟨v', w', hr, h1, h2, h3⟩ := run_append_rows K (hown.on hbm) m c hm hz hlen (Nat.le_trans hB hbm.size) o.type
  obtain ⟨A', c', rfl, -⟩ := h1.one K.len
  unfold Oper.wp execOp
  simp only [ho, resolve, invoke, builtin, Sem.run_bind, Sem.run_pure, Result.andThen_ok, List.map_toArray, List.map_cons, List.map_nil, hs, hx, hr]
  refine h A' _ c' w' (by rw [List.length_append, hm]) h1 (fun b hb hv => h2.block b hb fun e => hv e.symm) ⟨h2.os.trans hbm.os, h2.tape.trans hbm.tape, h2.output.trans hbm.output, Nat.le_trans hbm.size h2.size, fun b hb hv => (h2.block b (Nat.lt_of_lt_of_le hb hbm.size) hv).trans (hbm.block b hb)⟩ (h3.imp_right fun h => ⟨_, h, hbm.size⟩)
/-- One element that lies in a block of its own. -/
theorem rd_one (hc : ∀ z, (cs z).length = s) {g : Nat} {z : α} {ty : TypeId} (h : w.heap[g]? = some (.cells (cs z).toArray ty (0, 0))) : Rd cs s w (some ⟨g, 0, none⟩) [z] := by
  intro k y hk
  match k, hk with
  | 0, hk =>
    simp at hk; subst hk
    refine ⟨g, 0, rfl, (Array.getElem?_eq_some_iff.mp h).1, fun j u hu => ?_⟩
    rw [cell_of_row _ _ _ _ _ _ h]
    simpa using hu
end
end Go.Proofs.YtagjimdplmimoaaGreat.Rw
/- A struct in a block of its own, whatever its cells. -/
namespace Go.Proofs.YtagjimdplmimoaaGreat.Rw
open Go.ChangeShapes Go.WideShapes Go.RowKit Go.Lib
set_option linter.unusedVariables false
set_option maxRecDepth 100000

/-- In block g lie the cells us, none frozen. -/
structure Cel (w : World) (g : Nat) (us : List Value) : Prop where
  lt : g < w.heap.size
  at_ : ∀ (j : Nat) (u : Value), us[j]? = some u → w.cell? ⟨g, j, none⟩ = some u
  warm : ∀ (j : Nat), w.frozen? ⟨g, j, none⟩ = false
section
variable {w w' : World} {g : Nat} {us : List Value} {u0 u1 u2 : Value}
theorem Cel.keep (h : Cel w g us) (hs : w.heap.size ≤ w'.heap.size) (hk : w'.heap[g]? = w.heap[g]?) : Cel w' g us :=
  ⟨Nat.lt_of_lt_of_le h.lt hs, fun j u hu => (World.cell?_of_block (a := ⟨g, j, none⟩) hk).trans (h.at_ j u hu), fun j => by
    have := h.warm j
    unfold World.frozen? at *
    simp only at *
    rw [hk]; exact this⟩
theorem Cel.on (h : Cel w g us) (hb : Below w.heap.size w w') : Cel w' g us := h.keep hb.size (hb.block g h.lt)
theorem Cel.below {B : Nat} (h : Cel w g us) (hb : Below B w w') (hg : g < B) : Cel w' g us := h.keep hb.size (hb.block g hg)
theorem Cel.drew (h : Cel w g us) : Cel w.drew g us := h.keep (Nat.le_refl _) rfl
theorem Cel.alloc (h : Cel w g us) (o : Obj) : Cel (w.alloc o) g us := h.on (below_alloc w o)
theorem Cel.off {S : Nat → Prop} (h : Cel w g us) (ho : Off S w w') (hS : ¬ S g) : Cel w' g us := h.keep ho.size (ho.block g h.lt hS)
theorem Cel.grown {row : Option Nat} (h : Cel w g us) (hg : w.grownBy w' row) (hr : row ≠ some g) : Cel w' g us := h.keep hg.size (hg.block g h.lt fun e => hr e.symm)
theorem Cel.far (h : Cel w g us) {p : Addr} (hp : p.block ≠ g) (u : Value) : Cel (w.setCell p u) g us :=
  h.keep (by simp [World.setCell]) (Below.heap_setCell w p u g fun e => hp e.symm)
theorem Cel.new (w : World) (us : List Value) (t : TypeId) : Cel (w.alloc (.cells us.toArray t)) w.heap.size us := by
  have hb := heap_alloc_new w (.cells us.toArray t)
  refine ⟨by simp, fun j u hu => ?_, fun j => frozen_of hb _⟩
  rw [cell_of_row _ _ _ _ _ _ hb]
  simpa using hu
theorem Cel.new_at (w : World) (us : List Value) (t : TypeId) {k : Nat} (hk : w.heap.size = k) : Cel (w.alloc (.cells us.toArray t)) k us := hk ▸ Cel.new w us t
theorem Cel.set (h : Cel w g us) (i : Nat) (x : Value) : Cel (w.setCell ⟨g, i, none⟩ x) g (us.set i x) := by
  refine ⟨by simp [World.setCell]; exact h.lt, fun j u hu => ?_, fun j => by simpa using h.warm j⟩
  by_cases hij : i = j
  · subst hij
    have hl : i < us.length := by
      have := glt hu
      rwa [List.length_set] at this
    rw [List.getElem?_set_self hl] at hu
    cases hu
    exact World.cell?_setCell_same w _ _ (h.at_ i _ (List.getElem?_eq_getElem hl))
  · rw [List.getElem?_set_ne hij] at hu
    rw [World.cell?_setCell_other w _ _ _ (fun e => hij (by cases e; rfl))]
    exact h.at_ j u hu
theorem Cel.two (h : Cel w g [u0, u1]) : w.cell? ⟨g, 0, none⟩ = some u0 ∧ w.cell? ⟨g, 1, none⟩ = some u1 := ⟨h.at_ 0 _ rfl, h.at_ 1 _ rfl⟩
theorem Cel.three (h : Cel w g [u0, u1, u2]) : w.cell? ⟨g, 0, none⟩ = some u0 ∧ w.cell? ⟨g, 1, none⟩ = some u1 ∧ w.cell? ⟨g, 2, none⟩ = some u2 := ⟨h.at_ 0 _ rfl, h.at_ 1 _ rfl, h.at_ 2 _ rfl⟩
theorem Cel.warm2 (h : Cel w g us) : w.frozen? ⟨g, 0, none⟩ = false ∧ w.frozen? ⟨g, 1, none⟩ = false := ⟨h.warm 0, h.warm 1⟩
theorem Cel.warm3 (h : Cel w g us) : w.frozen? ⟨g, 0, none⟩ = false ∧ w.frozen? ⟨g, 1, none⟩ = false ∧ w.frozen? ⟨g, 2, none⟩ = false := ⟨h.warm 0, h.warm 1, h.warm 2⟩
def put2 (w : World) (g : Nat) (x0 x1 : Value) : World := (w.setCell ⟨g, 0, none⟩ x0).setCell ⟨g, 1, none⟩ x1
def put3 (w : World) (g : Nat) (x0 x1 x2 : Value) : World := ((w.setCell ⟨g, 0, none⟩ x0).setCell ⟨g, 1, none⟩ x1).setCell ⟨g, 2, none⟩ x2
theorem Cel.put2 (h : Cel w g [u0, u1]) (x0 x1 : Value) : Cel ((w.setCell ⟨g, 0, none⟩ x0).setCell ⟨g, 1, none⟩ x1) g [x0, x1] := (h.set 0 x0).set 1 x1
theorem Cel.put3 (h : Cel w g [u0, u1, u2]) (x0 x1 x2 : Value) : Cel (((w.setCell ⟨g, 0, none⟩ x0).setCell ⟨g, 1, none⟩ x1).setCell ⟨g, 2, none⟩ x2) g [x0, x1, x2] := ((h.set 0 x0).set 1 x1).set 2 x2
theorem off_put3 (w : World) (g : Nat) (x0 x1 x2 : Value) : Off (fun k => k = g) w (((w.setCell ⟨g, 0, none⟩ x0).setCell ⟨g, 1, none⟩ x1).setCell ⟨g, 2, none⟩ x2) :=
  (((Off.refl (fun k => k = g) w).set (p := ⟨g, 0, none⟩) (Or.inl rfl) _).set (p := ⟨g, 1, none⟩) (Or.inl rfl) _).set (p := ⟨g, 2, none⟩) (Or.inl rfl) _
theorem off_put2 (w : World) (g : Nat) (x0 x1 : Value) : Off (fun k => k = g) w ((w.setCell ⟨g, 0, none⟩ x0).setCell ⟨g, 1, none⟩ x1) :=
  ((Off.refl (fun k => k = g) w).set (p := ⟨g, 0, none⟩) (Or.inl rfl) _).set (p := ⟨g, 1, none⟩) (Or.inl rfl) _
theorem below_put3 {B : Nat} (h : Below B w w') (hg : B ≤ g) (x0 x1 x2 : Value) : Below B w (((w'.setCell ⟨g, 0, none⟩ x0).setCell ⟨g, 1, none⟩ x1).setCell ⟨g, 2, none⟩ x2) :=
  ((h.setCell (p := ⟨g, 0, none⟩) hg _).setCell (p := ⟨g, 1, none⟩) hg _).setCell (p := ⟨g, 2, none⟩) hg _
theorem below_put2 {B : Nat} (h : Below B w w') (hg : B ≤ g) (x0 x1 : Value) : Below B w ((w'.setCell ⟨g, 0, none⟩ x0).setCell ⟨g, 1, none⟩ x1) :=
  (h.setCell (p := ⟨g, 0, none⟩) hg _).setCell (p := ⟨g, 1, none⟩) hg _
/-- An address in a block of one's own or an old one. -/
theorem Rd.off {α : Type} {cs : α → List Value} {s : Nat} {A : Option Addr} {L : List α} {S : Nat → Prop} (h : Rd cs s w A L) (ho : Off S w w') (hS : ∀ b off, A = some ⟨b, off, none⟩ → ¬ S b) : Rd cs s w' A L :=
  h.keep ho.size fun b off e hlt => ho.block b hlt (hS b off e)
end
end Go.Proofs.YtagjimdplmimoaaGreat.Rw
/- append to a slice without room, whatever the elements. -/
namespace Go.Proofs.YtagjimdplmimoaaGreat.Rw
open Go.ChangeShapes Go.WideShapes Go.RowKit Go.Lib
set_option linter.unusedVariables false
set_option maxRecDepth 100000

theorem none_below {B : Nat} {w w' : World} (hg : w.grownBy w' none) (hB : B ≤ w.heap.size) : Below B w w' :=
  ⟨hg.os, hg.tape, hg.output, hg.size, fun i hi => hg.block i (Nat.lt_of_lt_of_le hi hB) (by simp)⟩
theorem run_append_zero {P : Program} {w : World} (t ty e : TypeId) (i : TypeInfo) (A B : Option Addr) (n c d : Nat) (ht : P.underlying t = some (.slice e)) (hi : P.info? e = some i) (hn : n ≤ d) (h0 : A = none → n = 0 ∧ d = 0) :
    (Builtin.append_ #[t, t] ty #[.slice A n d, .slice B 0 c]).run P w = .ok (.slice A n d) w := by
  cases A with
  | none =>
    obtain ⟨rfl, rfl⟩ := h0 rfl
    cases B <;> simp [Builtin.append_, run_underlying ht, sizeOf, typeInfo, hi, Builtin.lenOf, Builtin.firstCells, loadCells, loadCellsFrom]
  | some ad =>
    cases B <;> simp [Builtin.append_, run_underlying ht, sizeOf, typeInfo, hi, Builtin.lenOf, Builtin.firstCells, hn, storeCells, loadCells, loadCellsFrom]
section
variable {α : Type} {cs : α → List Value} {s : Nat} {T t : TypeId} {w : World} {L M : List α}
/-- 'append(s[:len(s):len(s)], x...)' in a plain region. -/
theorem append_full (K : Kd cs s T t) {ops : Array Oper} {rest : List Oper} {o : Oper} {a : Act} {Q : Exit → Act → World → Prop} (hgd : o.guard = none) (x y : Operand)
    (ho : o.op = .call { callee := .builtin .append, args := #[x, y], argTypes := #[T, T] })
    (A : Option Addr) (n : Nat) (L : List α) (hs : a.eval x = .slice A n n) (hn : n = L.length) (hr : Rd cs s w A L) (B : Option Addr) (m c : Nat) (M : List α) (hx : a.eval y = .slice B m c) (hm : m = M.length) (hz : Rd cs s w B M) (hlen : n + m ≤ 1000000)
    (h : ∀ A' n' c' w', n' = n + m → n' ≤ c' → Rd cs s w' A' (L ++ M) → Below w.heap.size w w' → wpList Tryz.prog ops Q rest (a.put o.dst (.slice A' n' c')) w') :
    wpList Tryz.prog ops Q (o :: rest) a w := by
  obtain ⟨i, zv, by_, hi, hzv, hsz, hby, hzc, hb1⟩ := K.info
  have hA0 : A = none → n = 0 ∧ n = 0 := by
    rintro rfl
    have := hr.none_
    subst this
    exact ⟨hn, hn⟩
  subst hn
  by_cases hM : M = []
  · subst hM
    have hm0 : m = 0 := hm
    subst hm0
    refine wpList_plain hgd fun K' hK => ?_
    have hrun := run_append_zero (P := Tryz.prog) (w := w) T o.type t i A B L.length c L.length K.und hi (Nat.le_refl _) hA0
    unfold Oper.wp execOp
    simp only [ho, resolve, invoke, builtin, Sem.run_bind, Sem.run_pure, Result.andThen_ok, List.map_toArray, List.map_cons, List.map_nil, hs, hx, hrun]
    exact hK _ _ (h A _ L.length w rfl (Nat.le_refl _) (by rw [List.append_nil]; exact hr) (Below.refl _ _))
  · subst hm
    cases B with
    | none => exact absurd hz.none_ hM
    | some ad =>
      have hpos : 0 < M.length := List.length_pos_iff.mpr hM
      have hbb : (L.length + M.length) * by_ ≤ 140737488355328 := Nat.le_trans (Nat.mul_le_mul hlen hb1) (by decide)
      refine wpList_append_grows w hgd x y T ho t i zv s by_ K.und hi hzv hsz hby hzc K.pos A L.length L.length (L.flatMap cs) hs hA0 (flat_len K.len L) ?_ ad M.length c (M.flatMap cs) hx (flat_len K.len M) (rd_flat K.len K.pos hz) (fun u hu => by obtain ⟨z, hz, hu⟩ := List.mem_flatMap.mp hu; exact K.one z u hu) (by omega) (by unfold maxLen; omega) hbb ?_
      · rintro b rfl
        exact rd_flat K.len K.pos hr
      · intro v' w' hown hg
        have hrow : Row cs s t w.heap.size w' v' (L ++ M) := by unfold Row; rw [List.length_append, List.flatMap_append]; exact hown
        obtain ⟨A', c', rfl, hle, -, hrd, -, -⟩ := hrow.one K.len
        exact h A' _ c' w' (by rw [List.length_append]) hle hrd (none_below hg (Nat.le_refl _))
end
end Go.Proofs.YtagjimdplmimoaaGreat.Rw
/- Lists of masses: errors; list, Parts of layer 16's reference (gen17/k.py out of FibreA, FibreC). -/
namespace Go.Proofs.YtagjimdplmimoaaGreat.Tank
open Go.ChangeShapes Go.WideShapes Go.RowKit Go.Lib
open Go.Proofs.YtagjimdplmimoaaGreat.Mem (Cl eI Own)
open Go.Proofs.YtagjimdplmimoaaGreat.Rw (glt get_lt ret_bool ret_int wrap_id bstep below_drewN below_drew drew_below)
set_option linter.unusedVariables false
set_option maxRecDepth 100000

abbrev MM : Int := 1099511627776
def inM (most z : Int) : Bool := decide (0 ≤ z) && decide (z ≤ most)
theorem inM_iff {most z : Int} : inM most z = true ↔ 0 ≤ z ∧ z ≤ most := by unfold inM; simp only [Bool.and_eq_true, decide_eq_true_iff]
/-- The error of a list for a number of kinds. -/
def kiB (l : List Int) (kinds : Int) : Bool := decide (1 ≤ kinds) && (decide (kinds ≤ 8) && decide ((l.length : Int) = kinds))
theorem kiB_iff {l : List Int} {kinds : Int} : kiB l kinds = true ↔ 1 ≤ kinds ∧ kinds ≤ 8 ∧ (l.length : Int) = kinds := by unfold kiB; simp only [Bool.and_eq_true, decide_eq_true_iff]
def lisE (l : List Int) (kinds most : Int) : Int := if kiB l kinds then (if l.all (inM most) then 0 else 1) else 17
theorem lisE_no {l : List Int} {kinds most : Int} (h : kiB l kinds = false) : lisE l kinds most = 17 := by unfold lisE; rw [h]; rfl
theorem lisE_bad {l : List Int} {kinds most : Int} (h : kiB l kinds = true) {k : Nat} {z : Int} (hz : l[k]? = some z) (hb : inM most z = false) : lisE l kinds most = 1 := by
  unfold lisE
  have : ¬ l.all (inM most) = true := fun ha => by
    have := List.all_eq_true.mp ha z (List.mem_of_getElem? hz)
    rw [hb] at this; cases this
  rw [h, if_pos rfl, if_neg this]
theorem lisE_ok {l : List Int} {kinds most : Int} (h : kiB l kinds = true) (ha : ∀ (k : Nat) (z : Int), l[k]? = some z → inM most z = true) : lisE l kinds most = 0 := by
  unfold lisE
  rw [h, if_pos rfl, if_pos (List.all_eq_true.mpr fun z hz => by
    obtain ⟨k, hk⟩ := List.mem_iff_getElem?.mp hz
    exact ha k z hk)]
theorem lisE_of {l : List Int} {kinds most : Int} (h : lisE l kinds most = 0) : 1 ≤ l.length ∧ l.length ≤ 8 ∧ (l.length : Int) = kinds ∧ ∀ z ∈ l, 0 ≤ z ∧ z ≤ most := by
  unfold lisE at h
  cases hk : kiB l kinds with
  | false => rw [hk] at h; cases h
  | true =>
    rw [hk, if_pos rfl] at h
    have h1 := kiB_iff.mp hk
    by_cases h2 : l.all (inM most) = true
    · exact ⟨by omega, by omega, h1.2.2, fun z hz => inM_iff.mp (List.all_eq_true.mp h2 z hz)⟩
    · rw [if_neg h2] at h; cases h
theorem lisE_mk {l : List Int} {kinds most : Int} (h0 : 1 ≤ kinds) (h1 : kinds ≤ 8) (h2 : (l.length : Int) = kinds) (ha : ∀ z ∈ l, 0 ≤ z ∧ z ≤ most) : lisE l kinds most = 0 :=
  lisE_ok (kiB_iff.mpr ⟨h0, h1, h2⟩) fun k z hz => inM_iff.mpr (ha z (List.mem_of_getElem? hz))
theorem lisE_cases (l : List Int) (kinds most : Int) : lisE l kinds most = 0 ∨ lisE l kinds most = 1 ∨ lisE l kinds most = 17 := by
  unfold lisE
  split
  · split
    · exact Or.inl rfl
    · exact Or.inr (Or.inl rfl)
  · exact Or.inr (Or.inr rfl)
def lenI (l : List Int) : Int := l.length
def parE (m : List Int) (kinds : Int) : Int := lisE m kinds MM
theorem cl_at {w : World} {A : Option Addr} {L : List Int} (h : Cl eI w A L) {k : Nat} {z : Int} (hz : L[k]? = some z) : ∃ b off, A = some ⟨b, off, none⟩ ∧ b < w.heap.size ∧ w.cell? ⟨b, off + k, none⟩ = some (.int .i64 z) := h k z hz
end Go.Proofs.YtagjimdplmimoaaGreat.Tank
