/- Several texts in one: MemA, TankK, TankA, RowF. -/
import Derived.Test.YtohfaoclemcfaaaRows
import Derived.WalkKit
import Derived.WalkLawsBesides
import Derived.WalkSpells
import Derived.Outline
import Derived.Laws.OwnMore
import Derived.Laws.CopyOwn
import Derived.OwnWalk
import Derived.Deep.QuietTactic
import Derived.BigQuiet
import Derived.Laws.StructEq
import Derived.Laws.AppendOwnNone
import Derived.Laws.EntriesVeiled
import Derived.Deep.AppendLies
import Derived.Deep.RegionLaw
import Derived.Deep.RegionHeld3
import Derived.Deep.Cut
import Derived.Deep.CutRange
import Derived.Shelf.Abstract
import Derived.Lib.Hide
import Derived.StillTailTactics
import Derived.Test.YtohfaoclemcfaaaPk13
import Derived.Test.YtohfaoclemcfaaaPk15
import Derived.Test.YtohfaoclemcfaaaPk12
/- Slices of one-cell elements in memory: what is there, what is the call's own; made, set, appended to. What a step leaves as it was. -/
namespace Go.Proofs.Ytohfaoclemcfaaa.Mem
open Go.ChangeShapes Go.WideShapes Go.RowKit Go.Lib
set_option linter.unusedVariables false
set_option maxRecDepth 100000

theorem lt_of_get {α : Type} {l : List α} {j : Nat} {x : α} (h : l[j]? = some x) : j < l.length := by
  rw [List.getElem?_eq_some_iff] at h; exact h.1
/-- Of what was there all but the blocks in S is as it was. -/
structure Off (S : Nat → Prop) (w w' : World) : Prop where
  os : w'.os = w.os
  tape : w'.tape = w.tape
  output : w'.output = w.output
  size : w.heap.size ≤ w'.heap.size
  block : ∀ k, k < w.heap.size → ¬ S k → w'.heap[k]? = w.heap[k]?
theorem Off.refl (S : Nat → Prop) (w : World) : Off S w w := ⟨rfl, rfl, rfl, Nat.le_refl _, fun _ _ _ => rfl⟩
theorem Off.trans {S S' : Nat → Prop} {a b c : World} (h : Off S a b) (k : Off S' b c) (hs : ∀ x, S' x → S x ∨ a.heap.size ≤ x) : Off S a c :=
  ⟨k.os.trans h.os, k.tape.trans h.tape, k.output.trans h.output, Nat.le_trans h.size k.size, fun i hi hn =>
    (k.block i (Nat.lt_of_lt_of_le hi h.size) fun e => by rcases hs i e with h1 | h1; exact hn h1; omega).trans (h.block i hi hn)⟩
theorem Off.below {S : Nat → Prop} {a b : World} {B : Nat} (h : Off S a b) (hB : B ≤ a.heap.size) (hs : ∀ x, S x → B ≤ x) : Below B a b :=
  ⟨h.os, h.tape, h.output, h.size, fun i hi => h.block i (by omega) fun e => by have := hs i e; omega⟩
theorem Off.of_below {S : Nat → Prop} {a b : World} (h : Below a.heap.size a b) : Off S a b := ⟨h.os, h.tape, h.output, h.size, fun i hi _ => h.block i hi⟩
theorem Off.then_below {S : Nat → Prop} {a b c : World} (h : Off S a b) (k : Below b.heap.size b c) : Off S a c := h.trans (Off.of_below (S := fun _ => False) k) fun x e => e.elim
theorem Off.alloc {S : Nat → Prop} {a b : World} (h : Off S a b) (o : Obj) : Off S a (b.alloc o) := h.then_below ((Below.refl _ _).alloc (Nat.le_refl _) _)
theorem Off.drew {S : Nat → Prop} {a b : World} (h : Off S a b) : Off S a b.drew := ⟨h.os, h.tape, h.output, h.size, h.block⟩
theorem Off.set {S : Nat → Prop} {a b : World} (h : Off S a b) {p : Addr} (hp : S p.block ∨ a.heap.size ≤ p.block) (u : Value) : Off S a (b.setCell p u) :=
  h.trans (S' := fun k => k = p.block) ⟨rfl, rfl, rfl, by simp [World.setCell], fun i hi hn => Below.heap_setCell _ _ _ _ hn⟩ fun x e => e ▸ hp
theorem Off.grown {S : Nat → Prop} {a b c : World} {row : Option Nat} (h : Off S a b) (hg : b.grownBy c row) (hr : ∀ k, row = some k → S k ∨ a.heap.size ≤ k) : Off S a c :=
  h.trans (S' := fun k => row = some k) ⟨hg.os, hg.tape, hg.output, hg.size, fun i hi hn => hg.block i hi fun e => hn e.symm⟩ fun x e => hr x e
theorem Off.before {S : Nat → Prop} {a b c : World} (h : Below a.heap.size a b) (k : Off S b c) : Off S a c :=
  (Off.of_below h).trans k fun x e => Or.inl e
theorem Off.mono {S S' : Nat → Prop} {a b : World} (h : Off S a b) (hs : ∀ x, S x → S' x ∨ a.heap.size ≤ x) : Off S' a b :=
  ⟨h.os, h.tape, h.output, h.size, fun i hi hn => h.block i hi fun e => by rcases hs i e with h1 | h1; exact hn h1; omega⟩
theorem below_alloc (w : World) (o : Obj) : Below w.heap.size w (w.alloc o) := (Below.refl _ _).alloc (Nat.le_refl _) _
theorem bstep {a b c : World} (h : Below a.heap.size a b) (k : Below b.heap.size b c) : Below a.heap.size a c := h.trans (k.mono h.size)
theorem below_drewN {B : Nat} {a w : World} (h : Below B a w) (n : Nat) : Below B a (w.drewN n) := ⟨h.os, h.tape, h.output, h.size, h.block⟩
theorem below_drew {B : Nat} {a w : World} (h : Below B a w) : Below B a w.drew := ⟨h.os, h.tape, h.output, h.size, h.block⟩
theorem below_set {B : Nat} {a w : World} (h : Below B a w) {p : Addr} (hp : B ≤ p.block) (u : Value) : Below B a (w.setCell p u) :=
  ⟨h.os, h.tape, h.output, by simpa using h.size, fun k hk => (Below.heap_setCell w p u k (by omega)).trans (h.block k hk)⟩
theorem ret_bool {a b : Bool} (h : a = b) : Ending.returned (.bool a) = .returned (.bool b) := by rw [h]
theorem ret_int {k : IntKind} {a b : Int} (h : a = b) : Ending.returned (.int k a) = .returned (.int k b) := by rw [h]
theorem get_lt {α : Type} {L : List α} {k : Nat} (h : k < L.length) : ∃ s, L[k]? = some s := ⟨_, List.getElem?_eq_getElem h⟩
theorem all_of {α : Type} {p : α → Bool} {L : List α} (h : ∀ (j : Nat) s, j < L.length → L[j]? = some s → p s = true) : L.all p = true := by
  rw [List.all_eq_true]
  intro s hs
  obtain ⟨j, hj⟩ := List.mem_iff_getElem?.mp hs
  exact h j s (lt_of_get hj) hj
theorem all_not {α : Type} {p : α → Bool} {L : List α} {j : Nat} {s : α} (h : L[j]? = some s) (hs : p s = false) : L.all p = false := by
  rw [List.all_eq_false]; exact ⟨s, List.mem_of_getElem? h, by simpa using hs⟩
theorem wrap_id {x : Int} (h : -9223372036854775808 ≤ x ∧ x ≤ 9223372036854775807) : IntKind.i64.wrap x = x := by rw [IntKind.wrap_i64]; omega

/-! ### One-cell elements -/
section
variable {α : Type} {enc : α → Value} {t : TypeId} {B : Nat} {w w' : World} {v : Value} {L : List α} {g n cap : Nat} {A : Option Addr}
/-- At the address lie the elements of L. -/
def Cl (enc : α → Value) (w : World) (A : Option Addr) (L : List α) : Prop :=
  ∀ (k : Nat) (z : α), L[k]? = some z → ∃ b off, A = some ⟨b, off, none⟩ ∧ b < w.heap.size ∧ w.cell? ⟨b, off + k, none⟩ = some (enc z)
/-- A slice that holds L. -/
def InS (enc : α → Value) (w : World) (v : Value) (L : List α) : Prop := ∃ A c, v = .slice A L.length c ∧ L.length ≤ c ∧ c ≤ maxLen ∧ Cl enc w A L
/-- A slice of the call's own that holds L. -/
def Own (enc : α → Value) (t : TypeId) (B : Nat) (w : World) (v : Value) (L : List α) : Prop := w.ownsRow B t 1 v L.length (L.map enc)
theorem Cl.nil (enc : α → Value) (w : World) (A : Option Addr) : Cl enc w A [] := fun k z h => by simp at h
theorem Cl.on (h : Cl enc w A L) (hb : Below w.heap.size w w') : Cl enc w' A L := by
  intro k z hk
  obtain ⟨b, off, e, hlt, h0⟩ := h k z hk
  exact ⟨b, off, e, Nat.lt_of_lt_of_le hlt hb.size, (hb.cell (p := ⟨b, off + k, none⟩) hlt).trans h0⟩
theorem Cl.drew (h : Cl enc w A L) : Cl enc w.drew A L := h
theorem InS.nil (enc : α → Value) (w : World) : InS enc w (.slice none 0 0) [] := ⟨none, 0, rfl, Nat.le_refl _, by unfold maxLen; omega, Cl.nil _ _ _⟩
theorem InS.on (h : InS enc w v L) (hb : Below w.heap.size w w') : InS enc w' v L := by
  obtain ⟨A, c, e, h1, h2, h3⟩ := h; exact ⟨A, c, e, h1, h2, h3.on hb⟩
theorem InS.open_ (h : InS enc w v L) : ∃ A c, v = .slice A L.length c ∧ L.length ≤ 9223372036854775807 ∧ Cl enc w A L := by
  obtain ⟨A, c, rfl, h1, h2, h3⟩ := h
  exact ⟨A, c, rfl, by unfold maxLen at h2; omega, h3⟩
theorem Own.nil (enc : α → Value) (t : TypeId) (B : Nat) (w : World) : Own enc t B w (.slice none 0 0) [] := World.ownsRow_nil _ _ _ _
theorem Own.lt (h : Own enc t B w v L) : ∀ k, v.ownBlock = some k → B ≤ k ∧ k < w.heap.size := World.ownsRow.lt h
theorem Own.inS (h : Own enc t B w v L) : InS enc w v L := by
  obtain ⟨h1, ⟨rfl, h2⟩ | ⟨g, cap, cur, rfl, h2, h3, h4, h5, h6, h7⟩⟩ := h
  · obtain rfl : L = [] := List.eq_nil_of_length_eq_zero h2
    exact InS.nil enc w
  · refine ⟨_, cap, rfl, h4, h5, fun k z hz => ⟨g, 0, rfl, (Array.getElem?_eq_some_iff.mp h3).1, ?_⟩⟩
    rw [cell_of_row w g _ cur _ (0, 0) h3, Nat.zero_add]
    have hu : (cur.toList.take (L.length * 1))[k]? = some (enc z) := by rw [h7, List.getElem?_map, hz]; rfl
    rw [List.getElem?_take] at hu
    split at hu
    · simpa using hu
    · cases hu
theorem Own.blk (h : Own enc t B w v L) (h0 : 0 < L.length) : ∃ g cap, v = .slice (some ⟨g, 0, none⟩) L.length cap ∧ B ≤ g ∧ g < w.heap.size ∧ L.length ≤ cap := by
  obtain ⟨_, ⟨_, h1⟩ | ⟨g, cap, cur, h1, h2, h3, h4, _⟩⟩ := h
  · omega
  · exact ⟨g, cap, h1, h2, (Array.getElem?_eq_some_iff.mp h3).1, h4⟩
theorem Own.keep (h : Own enc t B w v L) (hk : ∀ k, v.ownBlock = some k → w'.heap[k]? = w.heap[k]?) : Own enc t B w' v L := by
  obtain ⟨h1, h0 | ⟨g, cap, cur, rfl, h2, h3, h4⟩⟩ := h
  · exact ⟨h1, Or.inl h0⟩
  · exact ⟨h1, Or.inr ⟨g, cap, cur, rfl, h2, (hk g rfl).trans h3, h4⟩⟩
theorem Own.on (h : Own enc t B w v L) (hb : Below w.heap.size w w') : Own enc t B w' v L := h.keep fun k hk => hb.block k (h.lt k hk).2
theorem Own.drew (h : Own enc t B w v L) : Own enc t B w.drew v L := h
theorem Own.drewN (h : Own enc t B w v L) (n : Nat) : Own enc t B (w.drewN n) v L := h.keep fun _ _ => rfl
theorem Own.alloc (h : Own enc t B w v L) (o : Obj) : Own enc t B (w.alloc o) v L := World.ownsRow.alloc h o
theorem Own.less {B' : Nat} (h : Own enc t B w v L) (hB : B' ≤ B) : Own enc t B' w v L := by
  obtain ⟨h1, h0 | ⟨g, cap, cur, e, h2, h3⟩⟩ := h
  · exact ⟨h1, Or.inl h0⟩
  · exact ⟨h1, Or.inr ⟨g, cap, cur, e, Nat.le_trans hB h2, h3⟩⟩
theorem Own.other (h : Own enc t B w v L) {p : Addr} (hp : v.ownBlock ≠ some p.block) (u : Value) : Own enc t B (w.setCell p u) v L :=
  h.keep fun k hk => Below.heap_setCell w p u k fun e => hp (by rw [hk, e])
theorem Own.warm (h : Own enc t B w (.slice (some ⟨g, 0, none⟩) n cap) L) (hn : n = L.length) (j : Nat) : w.frozen? ⟨g, j, none⟩ = false := by
  subst hn
  exact World.ownsRow.frozenAt (h : w.ownsRow B t 1 (.slice (some ⟨g, 0, none⟩) L.length cap) L.length (L.map enc)) j
theorem Own.set (h : Own enc t B w (.slice (some ⟨g, 0, none⟩) n cap) L) (hn : n = L.length) (j : Nat) (z : α) : Own enc t B (w.setCell ⟨g, j, none⟩ (enc z)) (.slice (some ⟨g, 0, none⟩) n cap) (L.set j z) := by
  subst hn
  have h1 := (World.ownsRow.stored (h : w.ownsRow B t 1 (.slice (some ⟨g, 0, none⟩) L.length cap) L.length (L.map enc)) j (enc z)).1
  unfold Own
  rw [List.length_set, List.map_set]; exact h1
theorem Own.cell (h : Own enc t B w (.slice (some ⟨g, 0, none⟩) n cap) L) {j : Nat} {b : α} (hb : L[j]? = some b) : w.cell? ⟨g, j, none⟩ = some (enc b) := by
  obtain ⟨A, c, e, _, _, hy⟩ := h.inS
  cases e
  obtain ⟨g', off, e, _, hc⟩ := hy j b hb
  cases e
  rw [Nat.zero_add] at hc; exact hc
theorem Own.cl (h : Own enc t B w (.slice (some ⟨g, 0, none⟩) n cap) L) : Cl enc w (some ⟨g, 0, none⟩) L := by
  obtain ⟨A, c, e, _, _, hy⟩ := h.inS
  cases e
  exact hy
theorem Own.below (h : Own enc t B w v L) (hg : w.grownBy w' v.ownBlock) (hB : B ≤ w.heap.size) : Below B w w' :=
  ⟨hg.os, hg.tape, hg.output, hg.size, fun i hi => hg.block i (Nat.lt_of_lt_of_le hi hB) fun e => by have := (h.lt i e.symm).1; omega⟩
end

/-! ### Appending, making -/
theorem info_int : (Try.prog.info? 3).map (fun i => (i.zero, i.size, i.bytes)) = some (some (.int .i64 0), 1, 8) := by kernel_rfl
abbrev eI : Int → Value := Value.int .i64
abbrev eB : Bool → Value := Value.bool
/-- 'append(s, x)' of integers. -/
theorem append_int {w : World} {ops : Array Oper} {rest : List Oper} {o : Oper} {a : Act} {Q : Exit → Act → World → Prop} (hgd : o.guard = none) (s x : Operand)
    (ho : o.op = .call { callee := .builtin .append, args := #[s, x], argTypes := #[24, 24] })
    (B : Nat) (v : Value) (L : List Int) (hs : a.eval s = v) (hown : Own eI 3 B w v L) (g c0 : Nat) (z : Int) (hx : a.eval x = .slice (some ⟨g, 0, none⟩) 1 c0) (hz : w.cell? ⟨g, 0, none⟩ = some (.int .i64 z))
    (hlen : L.length + 1 ≤ 1000000) (hB : B ≤ w.heap.size)
    (h : ∀ v' w', Own eI 3 B w' v' (L ++ [z]) → w.grownBy w' v.ownBlock → (v'.ownBlock = v.ownBlock ∨ v'.ownBlock = some w.heap.size) → wpList Try.prog ops Q rest (a.put o.dst v') w') : wpList Try.prog ops Q (o :: rest) a w := by
  obtain ⟨i0, hi0, hz0, hz1, hz2⟩ := info_parts info_int
  refine wpList_append_own_at w hgd s x _ ho B 3 i0 (.int .i64 0) 1 8 Try.underlying24 hi0 hz0 hz1 hz2 rfl (by decide) v L.length (L.map eI) hs hown ⟨g, 0, none⟩ 1 c0 [.int .i64 z] hx rfl ?_ (by intro u hu; simp at hu; subst hu; rfl) (by unfold maxLen; omega) (by omega) hB ?_
  · intro j u hj
    match j, hj with
    | 0, hj => simp at hj; subst hj; rw [Addr.add_lit]; exact hz
  · intro v' w' hown' hg _ hat
    exact h v' w' (by unfold Own; rw [List.length_append, List.map_append]; exact hown') hg hat
theorem int_one (w : World) (x : Int) (T : TypeId) {g : Nat} (hg : w.heap.size = g) : (w.alloc (.cells #[.int .i64 x] T)).cell? ⟨g, 0, none⟩ = some (.int .i64 x) := by subst hg; simp
theorem make_ints (n : Nat) (hn : n ≤ 100000) (W : World) :
    (Instr.makeSlice 24 (.int .i64 (n : Int)) (.int .i64 (n : Int))).run Try.prog W = .ok (.slice (some ⟨W.heap.size, 0, none⟩) n n) (W.alloc (.cells (madeCells #[.int .i64 0] n) 3)) := by
  obtain ⟨i, hi, hz, hs, hb⟩ := info_parts info_int
  have h := run_make (P := Try.prog) (w := W) 24 3 i _ Try.underlying24 hi hz .i64 .i64 (n : Int) (n : Int) (by omega) (by omega) (by rw [hb]; omega) (by omega)
  rw [hs, Int.toNat_natCast, Nat.mul_one] at h
  exact h
/-- What make made. -/
theorem own_made {α : Type} (enc : α → Value) (t : TypeId) (W : World) (n : Nat) (x : α) (hn : n ≤ 100000) : Own enc t W.heap.size (W.alloc (.cells (madeCells #[enc x] n) t)) (.slice (some ⟨W.heap.size, 0, none⟩) n n) (List.replicate n x) := by
  have h := World.ownsRow_lit (base := W.heap.size) (e := t) (size := 1) W (madeCells #[enc x] n) n (Nat.le_refl _) (by unfold maxLen; omega) (by rw [size_madeCells, Nat.mul_one])
  unfold Own
  rw [List.length_replicate, List.map_replicate]
  rw [toList_madeCells_one] at h
  exact h
theorem slice_lo (A : Addr) (n c k : Nat) (hA : A.spot = none) (hk : k ≤ n) (hc : k < c) (W : World) : (Instr.slice 24 (.slice (some A) n c) (some (.int .i64 (k : Int))) none none).run Try.prog W = .ok (.slice (some ⟨A.block, A.off + k, none⟩) (n - k) (c - k)) W := by
  have ht : Try.prog.underlying 24 = some (.slice (Try.prog.elem 24)) := by kernel_rfl
  have hs : (sizeOf (Try.prog.elem 24)).run Try.prog W = .ok 1 W := Try.sizeOf3 W
  obtain ⟨b, off, sp⟩ := A
  simp at hA
  subst hA
  rw [run_slice_l W 24 (some ⟨b, off, none⟩) n c ht .i64 k (by omega) (by omega), hs]
  simp [sliced, Result.andThen, Addr.add_lit]
  intro h
  omega
theorem slice_hi (A : Option Addr) (n c k : Nat) (hk : k ≤ c) (W : World) : (Instr.slice 24 (.slice A n c) none (some (.int .i64 (k : Int))) none).run Try.prog W = .ok (.slice A k c) W := by
  have ht : Try.prog.underlying 24 = some (.slice (Try.prog.elem 24)) := by kernel_rfl
  have hs : (sizeOf (Try.prog.elem 24)).run Try.prog W = .ok 1 W := Try.sizeOf3 W
  rw [run_slice_h W 24 A n c ht .i64 k (by omega) (by omega), hs]
  simp [sliced, Result.andThen]
  intro _
  cases A <;> simp [Addr.add]
theorem drew_below (w : World) : Below w.heap.size w w.drew := below_drew (Below.refl _ _)
theorem take_snoc_of {α : Type} {l : List α} {k : Nat} {z : α} (h : l[k]? = some z) : l.take (k + 1) = l.take k ++ [z] := by
  rw [List.take_add_one, h]; rfl
end Go.Proofs.Ytohfaoclemcfaaa.Mem
/- Lists of masses: errors; list, Parts of layer 16's reference (gen17/k.py out of FibreA, FibreC). -/
namespace Go.Proofs.Ytohfaoclemcfaaa.Tank
open Go.ChangeShapes Go.WideShapes Go.RowKit Go.Lib
open Go.Proofs.Ytohfaoclemcfaaa.Mem (Cl eI Own)
open Go.Proofs.Ytohfaoclemcfaaa.Rw (glt get_lt ret_bool ret_int wrap_id bstep below_drewN below_drew drew_below)
set_option linter.unusedVariables false
set_option maxRecDepth 100000

abbrev MM : Int := 1099511627776
def inM (most z : Int) : Bool := decide (0 ≤ z) && decide (z ≤ most)
theorem inM_iff {most z : Int} : inM most z = true ↔ 0 ≤ z ∧ z ≤ most := by unfold inM; simp only [Bool.and_eq_true, decide_eq_true_iff]
/-- The error of a list for a number of kinds. -/
def kiB (l : List Int) (kinds : Int) : Bool := decide (1 ≤ kinds) && (decide (kinds ≤ 8) && decide ((l.length : Int) = kinds))
theorem kiB_iff {l : List Int} {kinds : Int} : kiB l kinds = true ↔ 1 ≤ kinds ∧ kinds ≤ 8 ∧ (l.length : Int) = kinds := by unfold kiB; simp only [Bool.and_eq_true, decide_eq_true_iff]
def lisE (l : List Int) (kinds most : Int) : Int := if kiB l kinds then (if l.all (inM most) then 0 else 1) else 17
theorem lisE_no {l : List Int} {kinds most : Int} (h : kiB l kinds = false) : lisE l kinds most = 17 := by unfold lisE; rw [h]; rfl
theorem lisE_bad {l : List Int} {kinds most : Int} (h : kiB l kinds = true) {k : Nat} {z : Int} (hz : l[k]? = some z) (hb : inM most z = false) : lisE l kinds most = 1 := by
  unfold lisE
  have : ¬ l.all (inM most) = true := fun ha => by
    have := List.all_eq_true.mp ha z (List.mem_of_getElem? hz)
    rw [hb] at this; cases this
  rw [h, if_pos rfl, if_neg this]
theorem lisE_ok {l : List Int} {kinds most : Int} (h : kiB l kinds = true) (ha : ∀ (k : Nat) (z : Int), l[k]? = some z → inM most z = true) : lisE l kinds most = 0 := by
  unfold lisE
  rw [h, if_pos rfl, if_pos (List.all_eq_true.mpr fun z hz => by
    obtain ⟨k, hk⟩ := List.mem_iff_getElem?.mp hz
    exact ha k z hk)]
theorem lisE_of {l : List Int} {kinds most : Int} (h : lisE l kinds most = 0) : 1 ≤ l.length ∧ l.length ≤ 8 ∧ (l.length : Int) = kinds ∧ ∀ z ∈ l, 0 ≤ z ∧ z ≤ most := by
  unfold lisE at h
  cases hk : kiB l kinds with
  | false => rw [hk] at h; cases h
  | true =>
    rw [hk, if_pos rfl] at h
    have h1 := kiB_iff.mp hk
    by_cases h2 : l.all (inM most) = true
    · exact ⟨by omega, by omega, h1.2.2, fun z hz => inM_iff.mp (List.all_eq_true.mp h2 z hz)⟩
    · rw [if_neg h2] at h; cases h
theorem lisE_mk {l : List Int} {kinds most : Int} (h0 : 1 ≤ kinds) (h1 : kinds ≤ 8) (h2 : (l.length : Int) = kinds) (ha : ∀ z ∈ l, 0 ≤ z ∧ z ≤ most) : lisE l kinds most = 0 :=
  lisE_ok (kiB_iff.mpr ⟨h0, h1, h2⟩) fun k z hz => inM_iff.mpr (ha z (List.mem_of_getElem? hz))
theorem lisE_cases (l : List Int) (kinds most : Int) : lisE l kinds most = 0 ∨ lisE l kinds most = 1 ∨ lisE l kinds most = 17 := by
  unfold lisE
  split
  · split
    · exact Or.inl rfl
    · exact Or.inr (Or.inl rfl)
  · exact Or.inr (Or.inr rfl)
def lenI (l : List Int) : Int := l.length
def parE (m : List Int) (kinds : Int) : Int := lisE m kinds MM
theorem cl_at {w : World} {A : Option Addr} {L : List Int} (h : Cl eI w A L) {k : Nat} {z : Int} (hz : L[k]? = some z) : ∃ b off, A = some ⟨b, off, none⟩ ∧ b < w.heap.size ∧ w.cell? ⟨b, off + k, none⟩ = some (.int .i64 z) := h k z hz
end Go.Proofs.Ytohfaoclemcfaaa.Tank
/- Tanks: errors and values (pure). -/
namespace Go.Proofs.Ytohfaoclemcfaaa.Tank
open Go.ChangeShapes Go.WideShapes Go.RowKit
set_option linter.unusedVariables false

/-! ### Numbers -/
theorem fit_mul {r s : Rat} (h : mulOk r s = true) : fitR (r * s) = true := by
  unfold mulOk at h
  rw [Bool.and_eq_true] at h
  rw [← mul_form]
  exact mk_fit (of_decide_eq_true h.1) (of_decide_eq_true h.2) (Nat.mul_ne_zero r.den_nz s.den_nz)
theorem fit_sub {r s : Rat} (hr : fitR r = true) (hs : fitR s = true) (h : subOk r s = true) : fitR (subOp r s) = true := fit_sum hr (fit_neg hs) h
theorem divEr_of {r s : Rat} (h : divEr r s = 0) : s.num ≠ 0 ∧ mulOk r s⁻¹ = true := by
  unfold divEr at h
  by_cases h0 : s.num = 0
  · rw [if_pos h0] at h; cases h
  · rw [if_neg h0] at h
    cases hm : mulOk r s⁻¹ with
    | true => exact ⟨h0, rfl⟩
    | false => rw [hm] at h; cases h
theorem fit_div {r s : Rat} (h : divEr r s = 0) : fitR (divOp r s) = true := fit_mul (divEr_of h).2
theorem okE_zero {b : Bool} : okE b = 0 ↔ b = true := by cases b <;> simp [okE]
theorem okE_two {b : Bool} (h : ¬ okE b = 0) : okE b = 2 := by cases b <;> simp_all [okE]
/-- The number of an integer. -/
def qI (n : Int) : Rat := mkV n 1
theorem qI_ok {n : Int} (h : 0 ≤ n) (h2 : n ≤ MM) : mkE n 1 = 0 := by
  have hM : MM = 1099511627776 := rfl
  unfold mkE inRB
  rw [decide_eq_true (by omega), decide_eq_true (by omega)]; rfl
theorem qI_fit {n : Int} (h : 0 ≤ n) (h2 : n ≤ MM) : fitR (qI n) = true := by
  have hM : MM = 1099511627776 := rfl
  exact mk_fit (Nat.lt_trans (show n.natAbs < 1000000000000000000 by omega) (by decide +kernel)) (by decide +kernel) (by decide)
theorem qI_val (n : Int) : qI n = (n : Rat) := by
  unfold qI mkV mkNeg
  have : sgI (decide (n < 0) != decide ((1 : Int) < 0)) n.natAbs = n := by
    unfold sgI
    by_cases h : n < 0
    · rw [decide_eq_true h]; simp; omega
    · rw [decide_eq_false h]; simp; omega
  rw [this]
  show mkRat n 1 = _
  rw [Rat.mkRat_one]
/-- The form of a number. -/
def triR (r : Rat) : Trip := (negR r, topL r, botL r)
theorem vT_tri {r : Rat} (h : fitR r = true) : vT (triR r) = true := (form_val h).1
theorem rT_tri {r : Rat} (h : fitR r = true) : rT (triR r) = r := (form_val h).2
theorem tri_rT {t : Trip} (h : vT t = true) : triR (rT t) = t := by
  obtain ⟨_, h1, h2, h3⟩ := trip_form h
  obtain ⟨b, xs, ys⟩ := t
  unfold triR
  rw [← h1, ← h2, ← h3]
theorem tri_inj {r s : Rat} (h : triR r = triR s) : r = s := by
  unfold triR at h
  simp only [Prod.mk.injEq] at h
  exact form_inj h.1 h.2.1 h.2.2
/-- Parts that are numbers. -/
def qs (L : List Trip) : List Rat := L.map rT
def ts (Q : List Rat) : List Trip := Q.map triR
theorem ts_len (Q : List Rat) : (ts Q).length = Q.length := List.length_map ..
theorem qs_len (L : List Trip) : (qs L).length = L.length := List.length_map ..
theorem ts_qs {L : List Trip} (h : ∀ t ∈ L, vT t = true) : ts (qs L) = L := by
  unfold ts qs
  rw [List.map_map]
  conv => rhs; rw [← List.map_id L]
  exact List.map_congr_left fun t ht => tri_rT (h t ht)
theorem qs_ts {Q : List Rat} (h : ∀ r ∈ Q, fitR r = true) : qs (ts Q) = Q := by
  unfold ts qs
  rw [List.map_map]
  conv => rhs; rw [← List.map_id Q]
  exact List.map_congr_left fun t ht => rT_tri (h t ht)
theorem qs_at {L : List Trip} {k : Nat} {t : Trip} (h : L[k]? = some t) : (qs L)[k]? = some (rT t) := by unfold qs; rw [List.getElem?_map, h]; rfl
theorem ts_at {Q : List Rat} {k : Nat} {r : Rat} (h : Q[k]? = some r) : (ts Q)[k]? = some (triR r) := by unfold ts; rw [List.getElem?_map, h]; rfl

/-! ### Check -/
def ckP : List Trip → Int
  | [] => 0
  | t :: l => if vT t then (if t.1 then 1 else ckP l) else 3
theorem ckP_bad : ∀ {l : List Trip} {k : Nat} {t : Trip}, l[k]? = some t → (∀ (j : Nat) (u : Trip), j < k → l[j]? = some u → vT u = true ∧ u.1 = false) → (vT t = false → ckP l = 3) ∧ (vT t = true → t.1 = true → ckP l = 1)
  | [], _, _, h, _ => by simp at h
  | u :: l, 0, t, h, _ => by
    simp at h; subst h
    exact ⟨fun hv => by rw [ckP, if_neg (by rw [hv]; decide)], fun hv hn => by rw [ckP, if_pos hv, if_pos hn]⟩
  | u :: l, k + 1, t, h, ha => by
    rw [List.getElem?_cons_succ] at h
    obtain ⟨h1, h2⟩ := ha 0 u (by omega) rfl
    rw [ckP, if_pos h1, if_neg (by rw [h2]; decide)]
    exact ckP_bad h fun j x hj hx => ha (j + 1) x (by omega) (by rw [List.getElem?_cons_succ]; exact hx)
theorem ckP_ok : ∀ {l : List Trip}, (∀ (j : Nat) (u : Trip), l[j]? = some u → vT u = true ∧ u.1 = false) → ckP l = 0
  | [], _ => rfl
  | u :: l, h => by
    obtain ⟨h1, h2⟩ := h 0 u rfl
    rw [ckP, if_pos h1, if_neg (by rw [h2]; decide)]
    exact ckP_ok fun j x hx => h (j + 1) x (by rw [List.getElem?_cons_succ]; exact hx)
theorem ckP_of : ∀ {l : List Trip}, ckP l = 0 → ∀ t ∈ l, vT t = true ∧ t.1 = false
  | [], _, t, ht => by simp at ht
  | u :: l, h, t, ht => by
    rw [ckP] at h
    by_cases h1 : vT u = true
    · rw [if_pos h1] at h
      by_cases h2 : u.1 = true
      · rw [if_pos h2] at h; cases h
      · rw [if_neg h2] at h
        rcases List.mem_cons.mp ht with rfl | ht
        · exact ⟨h1, by simpa using h2⟩
        · exact ckP_of h t ht
    · rw [if_neg h1] at h; cases h
theorem ckP_cases : ∀ (l : List Trip), ckP l = 0 ∨ ckP l = 1 ∨ ckP l = 3
  | [] => Or.inl rfl
  | u :: l => by
    rw [ckP]
    split
    · split
      · exact Or.inr (Or.inl rfl)
      · exact ckP_cases l
    · exact Or.inr (Or.inr rfl)
/-- The sum, and whether it is greater than the capacity. -/
def ckS (cap : Int) (L : List Trip) : Int :=
  if sumE L = 0 then (if crossOk (sumV L) (qI cap) then (if 0 < cmpG (sumV L) (qI cap) then 8 else 0) else 2) else sumE L
def ckN (cap : Int) (L : List Trip) : Int := if 1 ≤ L.length ∧ L.length ≤ 8 then (if ckP L = 0 then ckS cap L else ckP L) else 17
def ckT (cap : Int) (L : List Trip) : Int := if 1 ≤ cap ∧ cap ≤ MM then ckN cap L else 1
structure TOk (cap : Int) (L : List Trip) : Prop where
  c0 : 1 ≤ cap
  c1 : cap ≤ MM
  n0 : 1 ≤ L.length
  n1 : L.length ≤ 8
  all : ∀ t ∈ L, vT t = true ∧ t.1 = false
  sum : sumE L = 0
  cross : crossOk (sumV L) (qI cap) = true
  le : ¬ 0 < cmpG (sumV L) (qI cap)
theorem ckT_of {cap : Int} {L : List Trip} (h : ckT cap L = 0) : TOk cap L := by
  unfold ckT at h
  by_cases h1 : 1 ≤ cap ∧ cap ≤ MM
  · rw [if_pos h1] at h
    unfold ckN at h
    by_cases h2 : 1 ≤ L.length ∧ L.length ≤ 8
    · rw [if_pos h2] at h
      by_cases h3 : ckP L = 0
      · rw [if_pos h3] at h
        unfold ckS at h
        by_cases h4 : sumE L = 0
        · rw [if_pos h4] at h
          by_cases h5 : crossOk (sumV L) (qI cap) = true
          · rw [if_pos h5] at h
            by_cases h6 : 0 < cmpG (sumV L) (qI cap)
            · rw [if_pos h6] at h; cases h
            · exact ⟨h1.1, h1.2, h2.1, h2.2, ckP_of h3, h4, h5, h6⟩
          · rw [if_neg h5] at h; cases h
        · rw [if_neg h4] at h; exact absurd h h4
      · rw [if_neg h3] at h; exact absurd h h3
    · rw [if_neg h2] at h; cases h
  · rw [if_neg h1] at h; cases h
theorem TOk.err {cap : Int} {L : List Trip} (h : TOk cap L) : ckT cap L = 0 := by
  unfold ckT ckN ckS
  rw [if_pos ⟨h.c0, h.c1⟩, if_pos ⟨h.n0, h.n1⟩, if_pos (ckP_ok fun j u hu => h.all u (List.mem_of_getElem? hu)), if_pos h.sum, if_pos h.cross, if_neg h.le]
/-- The sum of valid parts fits. -/
theorem tot_fit : ∀ {l : List Rat} {s r : Rat}, fitR s = true → (∀ x ∈ l, fitR x = true) → tot l s = some r → fitR r = true
  | [], s, r, hs, _, h => by rw [tot] at h; cases h; exact hs
  | a :: l, s, r, hs, hl, h => by
    rw [tot] at h
    by_cases h1 : sumOk s a = true
    · rw [if_pos h1] at h
      exact tot_fit (fit_sum hs (hl a (List.mem_cons_self ..)) h1) (fun x hx => hl x (List.mem_cons_of_mem _ hx)) h
    · rw [if_neg h1] at h; cases h
theorem sumE_of {L : List Trip} (h : sumE L = 0) : (∀ t ∈ L, vT t = true) ∧ tot (qs L) 0 = some (sumV L) := by
  unfold sumE at h
  by_cases h1 : 4096 < L.length
  · rw [if_pos h1] at h; cases h
  · rw [if_neg h1] at h
    cases h2 : L.all vT with
    | false => rw [h2] at h; cases h
    | true =>
      rw [h2, if_pos rfl] at h
      refine ⟨fun t ht => List.all_eq_true.mp h2 t ht, ?_⟩
      unfold sumV qs
      cases h3 : tot (L.map rT) 0 with
      | none => rw [h3] at h; cases h
      | some r => rfl
theorem sumE_fit {L : List Trip} (h : sumE L = 0) : fitR (sumV L) = true := by
  obtain ⟨h1, h2⟩ := sumE_of h
  refine tot_fit fit_zero (fun x hx => ?_) h2
  obtain ⟨t, ht, rfl⟩ := List.mem_map.mp hx
  exact (trip_form (h1 t ht)).1
/-! ### Sums part by part -/
def poB : List Rat → List Rat → Bool
  | q :: l, x :: m => sumOk q x && poB l m
  | _, _ => true
def poV : List Rat → List Rat → List Rat
  | q :: l, x :: m => (q + x) :: poV l m
  | _, _ => []
theorem poV_len : ∀ {l m : List Rat}, l.length = m.length → (poV l m).length = l.length
  | [], [], _ => rfl
  | q :: l, x :: m, h => by
    have := poV_len (l := l) (m := m) (by simpa using h)
    rw [poV, List.length_cons, List.length_cons, this]
  | [], x :: m, h => by cases h
  | q :: l, [], h => by cases h
theorem poV_at : ∀ {l m : List Rat} {k : Nat} {q x : Rat}, l[k]? = some q → m[k]? = some x → (poV l m)[k]? = some (q + x)
  | [], _, _, _, _, h, _ => by simp at h
  | _ :: _, [], _, _, _, _, h => by simp at h
  | q :: l, x :: m, 0, _, _, h, k => by
    simp at h k; subst h; subst k; rfl
  | q :: l, x :: m, n + 1, _, _, h, k => by
    rw [List.getElem?_cons_succ] at h k
    rw [poV, List.getElem?_cons_succ]
    exact poV_at h k
theorem poV_get : ∀ {l m : List Rat} {k : Nat} {z : Rat}, (poV l m)[k]? = some z → ∃ q x, l[k]? = some q ∧ m[k]? = some x ∧ z = q + x
  | [], _, _, _, h => by simp [poV] at h
  | _ :: _, [], _, _, h => by simp [poV] at h
  | q :: l, x :: m, 0, z, h => by
    simp [poV] at h
    exact ⟨q, x, rfl, rfl, h.symm⟩
  | q :: l, x :: m, k + 1, z, h => by
    rw [poV, List.getElem?_cons_succ] at h
    obtain ⟨u, v, h1, h2, h3⟩ := poV_get h
    exact ⟨u, v, by rw [List.getElem?_cons_succ]; exact h1, by rw [List.getElem?_cons_succ]; exact h2, h3⟩
theorem poB_bad : ∀ {l m : List Rat} {k : Nat} {q x : Rat}, l[k]? = some q → m[k]? = some x → sumOk q x = false → poB l m = false
  | [], _, _, _, _, h, _, _ => by simp at h
  | _ :: _, [], _, _, _, _, h, _ => by simp at h
  | q :: l, x :: m, 0, _, _, h, k, hb => by
    simp at h k; subst h; subst k
    rw [poB, hb]; rfl
  | q :: l, x :: m, n + 1, _, _, h, k, hb => by
    rw [List.getElem?_cons_succ] at h k
    rw [poB, poB_bad h k hb, Bool.and_false]
theorem poB_ok : ∀ {l m : List Rat}, (∀ (k : Nat) (q x : Rat), l[k]? = some q → m[k]? = some x → sumOk q x = true) → poB l m = true
  | [], _, _ => by rw [poB]; intro _ _ _ _ h; cases h
  | _ :: _, [], _ => by rw [poB]; intro _ _ _ _ _ h; cases h
  | q :: l, x :: m, h => by
    rw [poB, h 0 q x rfl rfl, Bool.true_and]
    exact poB_ok fun k q x hq hx => h (k + 1) q x (by rw [List.getElem?_cons_succ]; exact hq) (by rw [List.getElem?_cons_succ]; exact hx)
theorem poB_at {l m : List Rat} (h : poB l m = true) {k : Nat} {q x : Rat} (hq : l[k]? = some q) (hx : m[k]? = some x) : sumOk q x = true := by
  cases hs : sumOk q x with
  | true => rfl
  | false => rw [poB_bad hq hx hs] at h; cases h
theorem poV_fit {l m : List Rat} (hl : ∀ q ∈ l, fitR q = true) (hm : ∀ x ∈ m, fitR x = true) (h : poB l m = true) : ∀ z ∈ poV l m, fitR z = true := fun z hz => by
  obtain ⟨k, hk⟩ := List.mem_iff_getElem?.mp hz
  obtain ⟨q, x, hq, hx, rfl⟩ := poV_get hk
  exact fit_sum (hl q (List.mem_of_getElem? hq)) (hm x (List.mem_of_getElem? hx)) (poB_at h hq hx)
/-! ### Fill -/
def qIs (m : List Int) : List Rat := m.map qI
theorem qIs_at {m : List Int} {k : Nat} {z : Int} (h : m[k]? = some z) : (qIs m)[k]? = some (qI z) := by unfold qIs; rw [List.getElem?_map, h]; rfl
theorem qIs_len (m : List Int) : (qIs m).length = m.length := List.length_map ..
def filB (l : List Rat) (m : List Int) : Bool := poB l (qIs m)
def filV (l : List Rat) (m : List Int) : List Rat := poV l (qIs m)
def filE (cap : Int) (L : List Trip) (m : List Int) : Int :=
  if ckT cap L = 0 then (if parE m (L.length : Int) = 0 then (if filB (qs L) m then ckT cap (ts (filV (qs L) m)) else 2) else parE m (L.length : Int)) else ckT cap L
def filC (cap : Int) (L : List Trip) (m : List Int) : Int := if filE cap L m = 0 then cap else 0
def filL (cap : Int) (L : List Trip) (m : List Int) : List Trip := if filE cap L m = 0 then ts (filV (qs L) m) else []
/-! ### Draw -/
/-- What is taken of a part: its error, its value, what is left. -/
def tkE (p m v : Rat) : Int :=
  if mulOk p m then (if divEr (p * m) v = 0 then okE (subOk p (divOp (p * m) v)) else divEr (p * m) v) else 2
def tkX (p m v : Rat) : Rat := divOp (p * m) v
def tkY (p m v : Rat) : Rat := subOp p (tkX p m v)
theorem tkE_of {p m v : Rat} (h : tkE p m v = 0) : mulOk p m = true ∧ divEr (p * m) v = 0 ∧ subOk p (tkX p m v) = true := by
  unfold tkE at h
  by_cases h1 : mulOk p m = true
  · rw [if_pos h1] at h
    by_cases h2 : divEr (p * m) v = 0
    · rw [if_pos h2] at h; exact ⟨h1, h2, okE_zero.mp h⟩
    · rw [if_neg h2] at h; exact absurd h h2
  · rw [if_neg h1] at h; cases h
def tkF (m v : Rat) : List Rat → Int
  | [] => 0
  | p :: l => if tkE p m v = 0 then tkF m v l else tkE p m v
theorem tkF_bad {m v : Rat} : ∀ {l : List Rat} {k : Nat} {p : Rat}, l[k]? = some p → ¬ tkE p m v = 0 → (∀ (j : Nat) (u : Rat), j < k → l[j]? = some u → tkE u m v = 0) → tkF m v l = tkE p m v
  | [], _, _, h, _, _ => by simp at h
  | u :: l, 0, p, h, hb, _ => by simp at h; subst h; rw [tkF, if_neg hb]
  | u :: l, k + 1, p, h, hb, ha => by
    rw [List.getElem?_cons_succ] at h
    rw [tkF, if_pos (ha 0 u (by omega) rfl)]
    exact tkF_bad h hb fun j x hj hx => ha (j + 1) x (by omega) (by rw [List.getElem?_cons_succ]; exact hx)
theorem tkF_ok {m v : Rat} : ∀ {l : List Rat}, (∀ (j : Nat) (u : Rat), l[j]? = some u → tkE u m v = 0) → tkF m v l = 0
  | [], _ => rfl
  | u :: l, h => by
    rw [tkF, if_pos (h 0 u rfl)]
    exact tkF_ok fun j x hx => h (j + 1) x (by rw [List.getElem?_cons_succ]; exact hx)
theorem tkF_of {m v : Rat} : ∀ {l : List Rat}, tkF m v l = 0 → ∀ p ∈ l, tkE p m v = 0
  | [], _, t, ht => by simp at ht
  | u :: l, h, t, ht => by
    rw [tkF] at h
    by_cases h1 : tkE u m v = 0
    · rw [if_pos h1] at h
      rcases List.mem_cons.mp ht with rfl | ht
      · exact h1
      · exact tkF_of h t ht
    · rw [if_neg h1] at h; exact absurd h h1
/-- The errors of Draw behind Check. -/
def drM (cap : Int) (L : List Trip) (mass : Int) : Int :=
  if inM MM mass then (if cap < mass ∨ 0 < cmpG (qI mass) (sumV L) then 19 else if mass = 0 then 0 else tkF (qI mass) (sumV L) (qs L)) else 1
def drE (cap : Int) (L : List Trip) (mass : Int) : Int := if ckT cap L = 0 then drM cap L mass else ckT cap L
/-- What was taken, and what is left. -/
def drX (L : List Trip) (mass : Int) : List Rat := (qs L).map fun p => if mass = 0 then 0 else tkX p (qI mass) (sumV L)
def drY (L : List Trip) (mass : Int) : List Rat := (qs L).map fun p => if mass = 0 then p else tkY p (qI mass) (sumV L)
def drC (cap : Int) (L : List Trip) (mass : Int) : Int := if drE cap L mass = 0 then cap else 0
def drT (cap : Int) (L : List Trip) (mass : Int) : List Trip := if drE cap L mass = 0 then ts (drX L mass) else []
def drP (cap : Int) (L : List Trip) (mass : Int) : List Trip := if drE cap L mass = 0 then ts (drY L mass) else []
structure DOk (cap : Int) (L : List Trip) (mass : Int) : Prop where
  t : TOk cap L
  m0 : 0 ≤ mass
  m1 : mass ≤ MM
  mc : mass ≤ cap
  ml : ¬ 0 < cmpG (qI mass) (sumV L)
  tk : ¬ mass = 0 → ∀ p ∈ qs L, tkE p (qI mass) (sumV L) = 0
theorem drE_of {cap : Int} {L : List Trip} {mass : Int} (h : drE cap L mass = 0) : DOk cap L mass := by
  unfold drE at h
  by_cases h1 : ckT cap L = 0
  · rw [if_pos h1] at h
    unfold drM at h
    by_cases h2 : inM MM mass = true
    · rw [if_pos h2] at h
      by_cases h3 : cap < mass ∨ 0 < cmpG (qI mass) (sumV L)
      · rw [if_pos h3] at h; cases h
      · rw [if_neg h3] at h
        have h4 := inM_iff.mp h2
        refine ⟨ckT_of h1, h4.1, h4.2, by omega, fun k => h3 (Or.inr k), fun h5 => ?_⟩
        rw [if_neg h5] at h
        exact tkF_of h
    · rw [if_neg h2] at h; cases h
  · rw [if_neg h1] at h; exact absurd h h1
/-! ### Pour -/
def poE (c : Int) (L : List Trip) (d : Int) (M : List Trip) (mass : Int) : Int :=
  if ckT c L = 0 then (if ckT d M = 0 then (if L.length = M.length then (if drE c L mass = 0 then (if poB (qs M) (drX L mass) then ckT d (ts (poV (qs M) (drX L mass))) else 2) else drE c L mass) else 17) else ckT d M) else ckT c L
def poC (c : Int) (L : List Trip) (d : Int) (M : List Trip) (mass : Int) (x : Int) : Int := if poE c L d M mass = 0 then x else 0
def poX (c : Int) (L : List Trip) (d : Int) (M : List Trip) (mass : Int) : List Trip := if poE c L d M mass = 0 then ts (drY L mass) else []
def poY (c : Int) (L : List Trip) (d : Int) (M : List Trip) (mass : Int) : List Trip := if poE c L d M mass = 0 then ts (poV (qs M) (drX L mass)) else []
/-! ### Part -/
def paM (L : List Trip) (kind : Int) : Int :=
  if 0 ≤ kind ∧ kind < (L.length : Int) then (if (sumV L).num = 0 then 10 else divEr ((qs L).getD kind.toNat 0) (sumV L)) else 7
def paE (cap : Int) (L : List Trip) (kind : Int) : Int := if ckT cap L = 0 then paM L kind else ckT cap L
def paV (L : List Trip) (kind : Int) : Rat := divOp ((qs L).getD kind.toNat 0) (sumV L)
end Go.Proofs.Ytohfaoclemcfaaa.Tank
/- Rows whose cells hold no integers: integers elsewhere in memory are left alone by an append to such a row, wherever they lie. -/
namespace Go.Proofs.Ytohfaoclemcfaaa.Rw
open Go.ChangeShapes Go.WideShapes Go.RowKit Go.Lib
set_option linter.unusedVariables false
set_option maxRecDepth 100000

def noI (u : Value) : Prop := ∀ (k : IntKind) (z : Int), u ≠ .int k z
/-- The row's own block holds no integer. -/
def NoI (w : World) (v : Value) : Prop := ∀ g, v.ownBlock = some g → ∀ (j : Nat) (k : IntKind) (z : Int), w.cell? ⟨g, j, none⟩ ≠ some (.int k z)
theorem NoI.nil (w : World) : NoI w (.slice none 0 0) := fun g h => by cases h
theorem NoI.keep {w w' : World} {v : Value} (h : NoI w v) (hk : ∀ k, v.ownBlock = some k → w'.heap[k]? = w.heap[k]?) : NoI w' v := fun g hg j k z hc =>
  h g hg j k z ((World.cell?_of_block (a := ⟨g, j, none⟩) (hk g hg)).symm.trans hc)
theorem noI_block {w : World} {g : Nat} {cur : Array Value} {e : TypeId} (hg : w.heap[g]? = some (.cells cur e (0, 0))) (h : ∀ u ∈ cur.toList, noI u) (j : Nat) (k : IntKind) (z : Int) : w.cell? ⟨g, j, none⟩ ≠ some (.int k z) := by
  intro hc
  rw [cell_of_row _ _ _ _ _ _ hg] at hc
  exact h _ (Array.mem_toList_iff.mpr (Array.mem_of_getElem? hc)) k z rfl
theorem mem_zero {z : Array Value} {n : Nat} {u : Value} (h : u ∈ (Builtin.zeroCells z n).toList) : u ∈ z.toList := by
  unfold Builtin.zeroCells at h
  rw [Array.toList_map, List.mem_map] at h
  obtain ⟨i, hi, rfl⟩ := h
  have hi' : i < n * z.size := by simpa using hi
  have hpos : 0 < z.size := by
    rcases Nat.eq_zero_or_pos z.size with h0 | h0
    · rw [h0, Nat.mul_zero] at hi'; omega
    · exact h0
  have hlt : i % z.size < z.size := Nat.mod_lt _ hpos
  rw [getElem!_pos z (i % z.size) hlt]
  exact Array.mem_toList_iff.mpr (Array.getElem_mem hlt)
section
variable {α : Type} {cs : α → List Value} {s : Nat} {T t : TypeId} {B : Nat} {w : World} {v : Value} {L M : List α} {A : Option Addr}
theorem run_append_noI (K : Kd cs s T t) (hcs : ∀ z, ∀ u ∈ cs z, noI u) (hzr : ∀ i zv, Try.prog.info? t = some i → i.zero = some zv → ∀ u ∈ zv.cells.toList, noI u)
    (hown : Row cs s t B w v L) (hno : NoI w v) (m c : Nat) (hm : m = M.length) (hpos : 0 < m) (hz : Rd cs s w A M) (hlen : L.length + m ≤ 1000000) (hB : B ≤ w.heap.size) (ty : TypeId) :
    ∃ v' w', (Builtin.append_ #[T, T] ty #[v, .slice A m c]).run Try.prog w = .ok v' w' ∧ Row cs s t B w' v' (L ++ M) ∧ w.grownBy w' v.ownBlock ∧ (v'.ownBlock = v.ownBlock ∨ v'.ownBlock = some w.heap.size) ∧ NoI w' v' := by
  obtain ⟨v', w', hr, h1, h2, h3⟩ := run_append_rows K hown m c hm hz hlen hB ty
  refine ⟨v', w', hr, h1, h2, h3, ?_⟩
  obtain ⟨i, zv, by_, hi, hzv, hs, hby, hzc, hb1⟩ := K.info
  have hz0 := hzr i zv hi hzv
  subst hm
  cases A with
  | none =>
    obtain rfl := hz.none_
    simp at hpos
  | some ad =>
    have hl : (M.flatMap cs).length = M.length * i.size := by rw [hs]; exact flat_len K.len M
    have hnews := rd_flat K.len K.pos hz
    have hM : ∀ u ∈ M.flatMap cs, noI u := fun u hu => by obtain ⟨z, hz, hu⟩ := List.mem_flatMap.mp hu; exact hcs z u hu
    have hL : ∀ u ∈ L.flatMap cs, noI u := fun u hu => by obtain ⟨z, hz, hu⟩ := List.mem_flatMap.mp hu; exact hcs z u hu
    have hone : ∀ u ∈ M.flatMap cs, u.oneCell' = true := fun u hu => by obtain ⟨z, hz, hu⟩ := List.mem_flatMap.mp hu; exact K.one z u hu
    have hbb : (L.length + M.length) * i.bytes ≤ 140737488355328 := by rw [hby]; exact Nat.le_trans (Nat.mul_le_mul hlen hb1) (by decide)
    have hbm : M.length * i.bytes ≤ 281474976710656 := Nat.le_trans (Nat.mul_le_mul_right _ (Nat.le_add_left _ L.length)) (Nat.le_trans hbb (by decide))
    rcases hown.2 with ⟨rfl, hn⟩ | ⟨g, cap, cur, rfl, hbg, hg, hnc, hcm, hcsz, htake⟩
    · have hr2 := run_append_nil (P := Try.prog) w T ty t i zv K.und hi hzv ad M.length c _ hl hnews hpos (by omega) hbm
      rw [hr2] at hr
      cases hr
      intro g' hg'
      cases hg'
      refine noI_block (heap_alloc_new w.drew _) fun u hu => ?_
      rw [Array.toList_append, List.mem_append] at hu
      rcases hu with hu | hu
      · exact hM u (by simpa using hu)
      · exact hz0 u (mem_zero hu)
    · have hcur : ∀ u ∈ cur.toList, noI u := fun u hu k z e => by
        obtain ⟨j, hj⟩ := List.mem_iff_getElem?.mp hu
        subst e
        exact hno g rfl j k z (by rw [cell_of_row _ _ _ _ _ _ hg]; simpa using hj)
      by_cases hroom : L.length + M.length ≤ cap
      · have hfit : L.length * i.size + (M.flatMap cs).length ≤ cur.size := by rw [hl, hcsz, hs, ← Nat.add_mul]; exact Nat.mul_le_mul_right _ hroom
        have hr2 := run_append_room (P := Try.prog) w T ty t i K.und hi g L.length cap cur hg ad M.length c _ hl hnews hone hroom hfit
        rw [hr2] at hr
        cases hr
        intro g' hg'
        cases hg'
        refine noI_block (setRow_heap w g cur _ t _ hg) fun u hu => ?_
        rw [List.toList_toArray, List.mem_append, List.mem_append] at hu
        rcases hu with (hu | hu) | hu
        · exact hcur u (List.mem_of_mem_take hu)
        · exact hM u hu
        · exact hcur u (List.mem_of_mem_drop hu)
      · have holds : ∀ j u, (L.flatMap cs)[j]? = some u → w.cell? ((⟨g, 0, none⟩ : Addr).add j) = some u := World.ownsRow.cells hown (g := g) rfl
        have hr2 := run_append_grow (P := Try.prog) w T ty t i zv K.und hi hzv ⟨g, 0, none⟩ L.length cap _ (by rw [hs]; exact flat_len K.len L) holds ad M.length c _ hl hnews (by omega) (by omega) (growslice_fits (by omega) hbb)
        rw [hr2] at hr
        cases hr
        intro g' hg'
        cases hg'
        refine noI_block (heap_alloc_new w.drew _) fun u hu => ?_
        rw [Array.toList_append, List.mem_append, Array.toList_append, List.mem_append] at hu
        rcases hu with (hu | hu) | hu
        · exact hL u (by simpa using hu)
        · exact hM u (by simpa using hu)
        · exact hz0 u (mem_zero hu)
/-- 'append(s, x...)' in a plain region. -/
theorem append_rowsF (K : Kd cs s T t) (hcs : ∀ z, ∀ u ∈ cs z, noI u) (hzr : ∀ i zv, Try.prog.info? t = some i → i.zero = some zv → ∀ u ∈ zv.cells.toList, noI u)
    {ops : Array Oper} {rest : List Oper} {o : Oper} {a : Act} {Q : Exit → Act → World → Prop} (hgd : o.guard = none) (x y : Operand)
    (ho : o.op = .call { callee := .builtin .append, args := #[x, y], argTypes := #[T, T] })
    (v : Value) (L : List α) (hs : a.eval x = v) (hown : Row cs s t B w v L) (hno : NoI w v) (A : Option Addr) (m c : Nat) (M : List α) (hm : m = M.length) (hpos : 0 < m) (hx : a.eval y = .slice A m c) (hz : Rd cs s w A M) (hlen : L.length + m ≤ 1000000) (hB : B ≤ w.heap.size)
    (h : ∀ A' n' c' w', n' = L.length + m → Row cs s t B w' (.slice A' n' c') (L ++ M) → NoI w' (.slice A' n' c') → w.grownBy w' v.ownBlock → wpList Try.prog ops Q rest (a.put o.dst (.slice A' n' c')) w') :
    wpList Try.prog ops Q (o :: rest) a w := by
  obtain ⟨v', w', hr, h1, h2, h3, h4⟩ := run_append_noI K hcs hzr hown hno m c hm hpos hz hlen hB o.type
  obtain ⟨A', c', rfl, -⟩ := h1.one K.len
  refine wpList_plain hgd fun K' hK => ?_
  unfold Oper.wp execOp
  simp only [ho, resolve, invoke, builtin, Sem.run_bind, Sem.run_pure, Result.andThen_ok, List.map_toArray, List.map_cons, List.map_nil, hs, hx, hr]
  exact hK _ _ (h A' _ c' w' (by rw [List.length_append, hm]) h1 h4 h2)
/-- 'append(s, x...)' at a step of a region that draws its order. -/
theorem step_rowsF (K : Kd cs s T t) (hcs : ∀ z, ∀ u ∈ cs z, noI u) (hzr : ∀ i zv, Try.prog.info? t = some i → i.zero = some zv → ∀ u ∈ zv.cells.toList, noI u)
    {ops : Array Oper} {o : Oper} {a : Act} {K' : Act → World → Prop} {Q : Exit → Act → World → Prop} {E : Prop} (hgd : o.guard = none) (x y : Operand)
    (ho : o.op = .call { callee := .builtin .append, args := #[x, y], argTypes := #[T, T] })
    (v : Value) (L : List α) (hs : a.eval x = v) (hown : Row cs s t B w v L) (hno : NoI w v) (A : Option Addr) (m c : Nat) (M : List α) (hm : m = M.length) (hpos : 0 < m) (hx : a.eval y = .slice A m c) (hz : Rd cs s w A M) (hlen : L.length + m ≤ 1000000) (hB : B ≤ w.heap.size)
    (h : ∀ A' n' c' w', n' = L.length + m → Row cs s t B w' (.slice A' n' c') (L ++ M) → NoI w' (.slice A' n' c') → w.grownBy w' v.ownBlock → K' (a.put o.dst (.slice A' n' c')) w') :
    if Region.wanted o (yielded ops a.tmps) = true then Oper.wp Try.prog o a w K' Q else E := by
  have hw : Region.wanted o (yielded ops a.tmps) = true := by simp [Region.wanted, hgd]
  rw [if_pos hw]
  obtain ⟨v', w', hr, h1, h2, h3, h4⟩ := run_append_noI K hcs hzr hown hno m c hm hpos hz hlen hB o.type
  obtain ⟨A', c', rfl, -⟩ := h1.one K.len
  unfold Oper.wp execOp
  simp only [ho, resolve, invoke, builtin, Sem.run_bind, Sem.run_pure, Result.andThen_ok, List.map_toArray, List.map_cons, List.map_nil, hs, hx, hr]
  exact h A' _ c' w' (by rw [List.length_append, hm]) h1 h4 h2
end
end Go.Proofs.Ytohfaoclemcfaaa.Rw
