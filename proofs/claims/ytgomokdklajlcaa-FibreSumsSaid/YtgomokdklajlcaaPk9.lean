/- Several texts in one: RowA, RowB, RowC, FibreV, FibreC. -/
import Derived.Test.YtgomokdklajlcaaRows
import Derived.WalkKit
import Derived.WalkLawsBesides
import Derived.WalkSpells
import Derived.Outline
import Derived.Laws.OwnMore
import Derived.OwnWalk
import Derived.Deep.QuietTactic
import Derived.BigQuiet
import Derived.Laws.StructEq
import Derived.Laws.AppendOwnNone
import Derived.Laws.EntriesVeiled
import Derived.Deep.AppendLies
import Derived.Deep.RegionLaw
import Derived.Deep.RegionHeld3
import Derived.Deep.Cut
import Derived.Maps.AppendAt
import Derived.Shelf.Abstract
import Derived.Lib.Hide
import Derived.Deep.CutRange
import Derived.StillTailTactics
import Derived.Defers
import Derived.Recover
import Derived.Test.YtgomokdklajlcaaPk8
import Derived.Test.YtgomokdklajlcaaPk2
import Derived.Test.YtgomokdklajlcaaPk1
import Derived.OpenShut
/- Rows of elements in memory, whatever their cells; what a step leaves as it was. -/
namespace Go.Proofs.Ytgomokdklajlcaa.Rw
open Go.ChangeShapes Go.WideShapes Go.RowKit
set_option linter.unusedVariables false
set_option maxRecDepth 100000

theorem glt {β : Type} {L : List β} {k : Nat} {x : β} (h : L[k]? = some x) : k < L.length := by
  rw [List.getElem?_eq_some_iff] at h; exact h.1
/-- Of what was there all but the blocks in S is as it was. -/
structure Off (S : Nat → Prop) (w w' : World) : Prop where
  os : w'.os = w.os
  tape : w'.tape = w.tape
  output : w'.output = w.output
  size : w.heap.size ≤ w'.heap.size
  block : ∀ k, k < w.heap.size → ¬ S k → w'.heap[k]? = w.heap[k]?
theorem Off.refl (S : Nat → Prop) (w : World) : Off S w w := ⟨rfl, rfl, rfl, Nat.le_refl _, fun _ _ _ => rfl⟩
theorem Off.trans {S S' : Nat → Prop} {a b c : World} (h : Off S a b) (k : Off S' b c) (hs : ∀ x, S' x → S x ∨ a.heap.size ≤ x) : Off S a c :=
  ⟨k.os.trans h.os, k.tape.trans h.tape, k.output.trans h.output, Nat.le_trans h.size k.size, fun i hi hn =>
    (k.block i (Nat.lt_of_lt_of_le hi h.size) fun e => by rcases hs i e with h1 | h1; exact hn h1; omega).trans (h.block i hi hn)⟩
theorem Off.below {S : Nat → Prop} {a b : World} {B : Nat} (h : Off S a b) (hB : B ≤ a.heap.size) (hs : ∀ x, S x → B ≤ x) : Below B a b :=
  ⟨h.os, h.tape, h.output, h.size, fun i hi => h.block i (by omega) fun e => by have := hs i e; omega⟩
theorem Off.of_below {S : Nat → Prop} {a b : World} (h : Below a.heap.size a b) : Off S a b := ⟨h.os, h.tape, h.output, h.size, fun i hi _ => h.block i hi⟩
theorem Off.then_below {S : Nat → Prop} {a b c : World} (h : Off S a b) (k : Below b.heap.size b c) : Off S a c := h.trans (Off.of_below (S := fun _ => False) k) fun x e => e.elim
theorem Off.alloc {S : Nat → Prop} {a b : World} (h : Off S a b) (o : Obj) : Off S a (b.alloc o) := h.then_below ((Below.refl _ _).alloc (Nat.le_refl _) _)
theorem Off.drew {S : Nat → Prop} {a b : World} (h : Off S a b) : Off S a b.drew := ⟨h.os, h.tape, h.output, h.size, h.block⟩
theorem Off.set {S : Nat → Prop} {a b : World} (h : Off S a b) {p : Addr} (hp : S p.block ∨ a.heap.size ≤ p.block) (u : Value) : Off S a (b.setCell p u) :=
  h.trans (S' := fun k => k = p.block) ⟨rfl, rfl, rfl, by simp [World.setCell], fun i hi hn => Below.heap_setCell _ _ _ _ hn⟩ fun x e => e ▸ hp
theorem Off.grown {S : Nat → Prop} {a b c : World} {row : Option Nat} (h : Off S a b) (hg : b.grownBy c row) (hr : ∀ k, row = some k → S k ∨ a.heap.size ≤ k) : Off S a c :=
  h.trans (S' := fun k => row = some k) ⟨hg.os, hg.tape, hg.output, hg.size, fun i hi hn => hg.block i hi fun e => hn e.symm⟩ fun x e => hr x e
theorem Off.before {S : Nat → Prop} {a b c : World} (h : Below a.heap.size a b) (k : Off S b c) : Off S a c :=
  (Off.of_below h).trans k fun x e => Or.inl e
theorem Off.mono {S S' : Nat → Prop} {a b : World} (h : Off S a b) (hs : ∀ x, S x → S' x ∨ a.heap.size ≤ x) : Off S' a b :=
  ⟨h.os, h.tape, h.output, h.size, fun i hi hn => h.block i hi fun e => by rcases hs i e with h1 | h1; exact hn h1; omega⟩
theorem below_alloc (w : World) (o : Obj) : Below w.heap.size w (w.alloc o) := (Below.refl _ _).alloc (Nat.le_refl _) _
theorem bstep {a b c : World} (h : Below a.heap.size a b) (k : Below b.heap.size b c) : Below a.heap.size a c := h.trans (k.mono h.size)
theorem below_drewN {B : Nat} {a w : World} (h : Below B a w) (n : Nat) : Below B a (w.drewN n) := ⟨h.os, h.tape, h.output, h.size, h.block⟩
theorem below_drew {B : Nat} {a w : World} (h : Below B a w) : Below B a w.drew := ⟨h.os, h.tape, h.output, h.size, h.block⟩
theorem drew_below (w : World) : Below w.heap.size w w.drew := below_drew (Below.refl _ _)
theorem ret_bool {a b : Bool} (h : a = b) : Ending.returned (.bool a) = .returned (.bool b) := by rw [h]
theorem ret_int {k : IntKind} {a b : Int} (h : a = b) : Ending.returned (.int k a) = .returned (.int k b) := by rw [h]
theorem get_lt {α : Type} {L : List α} {k : Nat} (h : k < L.length) : ∃ s, L[k]? = some s := ⟨_, List.getElem?_eq_getElem h⟩
theorem take_snoc_of {α : Type} {l : List α} {k : Nat} {z : α} (h : l[k]? = some z) : l.take (k + 1) = l.take k ++ [z] := by
  rw [List.take_add_one, h]; rfl
theorem wrap_id {x : Int} (h : -9223372036854775808 ≤ x ∧ x ≤ 9223372036854775807) : IntKind.i64.wrap x = x := by rw [IntKind.wrap_i64]; omega
theorem frozen_of {W : World} {g : Nat} {cs : Array Value} {t : TypeId} (h : W.heap[g]? = some (.cells cs t (0, 0))) (i : Nat) : W.frozen? ⟨g, i, none⟩ = false := by simp [World.frozen?, h]

section
variable {α : Type} {cs : α → List Value} {s : Nat} {t : TypeId} {B : Nat} {w w' : World} {v : Value} {L : List α} {g n cap : Nat} {A : Option Addr}
/-- At the address lie the elements of L; cs: the cells of an element, s of them. -/
def Rd (cs : α → List Value) (s : Nat) (w : World) (A : Option Addr) (L : List α) : Prop :=
  ∀ (k : Nat) (z : α), L[k]? = some z → ∃ b off, A = some ⟨b, off, none⟩ ∧ b < w.heap.size ∧ ∀ j u, (cs z)[j]? = some u → w.cell? ⟨b, off + (k * s + j), none⟩ = some u
/-- A row of the call's own that holds L. -/
def Row (cs : α → List Value) (s : Nat) (t : TypeId) (B : Nat) (w : World) (v : Value) (L : List α) : Prop := w.ownsRow B t s v L.length (L.flatMap cs)
theorem Rd.nil (cs : α → List Value) (s : Nat) (w : World) (A : Option Addr) : Rd cs s w A [] := fun k z h => by simp at h
theorem Rd.keep (h : Rd cs s w A L) (hs : w.heap.size ≤ w'.heap.size) (hk : ∀ b off, A = some ⟨b, off, none⟩ → b < w.heap.size → w'.heap[b]? = w.heap[b]?) : Rd cs s w' A L := by
  intro k z hz
  obtain ⟨b, off, e, hlt, h0⟩ := h k z hz
  exact ⟨b, off, e, Nat.lt_of_lt_of_le hlt hs, fun j u hu => (World.cell?_of_block (a := ⟨b, off + (k * s + j), none⟩) (hk b off e hlt)).trans (h0 j u hu)⟩
theorem Rd.on (h : Rd cs s w A L) (hb : Below w.heap.size w w') : Rd cs s w' A L := h.keep hb.size fun b _ _ hlt => hb.block b hlt
theorem Rd.take (h : Rd cs s w A L) (n : Nat) : Rd cs s w A (L.take n) := by
  intro k z hk
  rw [List.getElem?_take] at hk
  split at hk
  · exact h k z hk
  · cases hk
theorem Rd.none_ (h : Rd cs s w none L) : L = [] := by
  cases L with
  | nil => rfl
  | cons z zs => obtain ⟨b, off, hA, _⟩ := h 0 z rfl; cases hA
theorem flat_len (hc : ∀ z, (cs z).length = s) (L : List α) : (L.flatMap cs).length = L.length * s := by
  induction L with
  | nil => simp
  | cons z L ih => rw [List.flatMap_cons, List.length_append, hc, ih, List.length_cons, Nat.succ_mul]; omega
theorem flat_at (hc : ∀ z, (cs z).length = s) {L : List α} {k : Nat} {z : α} (hk : L[k]? = some z) {j : Nat} {u : Value} (hu : (cs z)[j]? = some u) : (L.flatMap cs)[k * s + j]? = some u := by
  induction L generalizing k with
  | nil => simp at hk
  | cons y L ih =>
    rw [List.flatMap_cons]
    cases k with
    | zero =>
      simp at hk; subst hk
      rw [Nat.zero_mul, Nat.zero_add, List.getElem?_append_left (glt hu)]
      exact hu
    | succ k =>
      have := ih (k := k) (by simpa using hk)
      rw [List.getElem?_append_right (by rw [hc, Nat.succ_mul]; omega), hc, Nat.succ_mul, show k * s + s + j - s = k * s + j by omega]
      exact this
theorem Row.nil (cs : α → List Value) (s : Nat) (t : TypeId) (B : Nat) (w : World) : Row cs s t B w (.slice none 0 0) [] := World.ownsRow_nil _ _ _ _
theorem Row.lt (h : Row cs s t B w v L) : ∀ k, v.ownBlock = some k → B ≤ k ∧ k < w.heap.size := World.ownsRow.lt h
theorem Row.one (hc : ∀ z, (cs z).length = s) (h : Row cs s t B w v L) : ∃ A c, v = .slice A L.length c ∧ L.length ≤ c ∧ c ≤ maxLen ∧ Rd cs s w A L ∧ v.ownBlock = A.map (·.block) ∧ (A = none ∨ ∃ g, A = some ⟨g, 0, none⟩ ∧ B ≤ g ∧ g < w.heap.size) := by
  obtain ⟨h1, ⟨rfl, h2⟩ | ⟨g, cap, cur, rfl, h2, h3, h4, h5, h6, h7⟩⟩ := h
  · obtain rfl : L = [] := List.eq_nil_of_length_eq_zero h2
    exact ⟨none, 0, rfl, Nat.le_refl _, by unfold maxLen; omega, Rd.nil _ _ _ _, rfl, Or.inl rfl⟩
  · have hg := (Array.getElem?_eq_some_iff.mp h3).1
    refine ⟨some ⟨g, 0, none⟩, cap, rfl, h4, h5, fun k z hz => ⟨g, 0, rfl, hg, fun j u hu => ?_⟩, rfl, Or.inr ⟨g, rfl, h2, hg⟩⟩
    rw [cell_of_row w g _ cur _ (0, 0) h3, Nat.zero_add]
    have hu' := flat_at hc hz hu
    rw [← h7, List.getElem?_take] at hu'
    split at hu'
    · simpa using hu'
    · cases hu'
theorem Row.blk (h : Row cs s t B w v L) (h0 : 0 < L.length) : ∃ g cap, v = .slice (some ⟨g, 0, none⟩) L.length cap ∧ B ≤ g ∧ g < w.heap.size ∧ L.length ≤ cap ∧ cap ≤ maxLen := by
  obtain ⟨_, ⟨_, h1⟩ | ⟨g, cap, cur, h1, h2, h3, h4, h5, _⟩⟩ := h
  · omega
  · exact ⟨g, cap, h1, h2, (Array.getElem?_eq_some_iff.mp h3).1, h4, h5⟩
theorem Row.cell (hc : ∀ z, (cs z).length = s) (h : Row cs s t B w (.slice (some ⟨g, 0, none⟩) n cap) L) {k : Nat} {z : α} (hk : L[k]? = some z) {j : Nat} {u : Value} (hu : (cs z)[j]? = some u) : w.cell? ⟨g, k * s + j, none⟩ = some u := by
  obtain ⟨A, c, e, _, _, hy, _⟩ := h.one hc
  cases e
  obtain ⟨g', off, e, _, hcell⟩ := hy k z hk
  cases e
  have := hcell j u hu
  rw [Nat.zero_add] at this; exact this
theorem Row.keep (h : Row cs s t B w v L) (hk : ∀ k, v.ownBlock = some k → w'.heap[k]? = w.heap[k]?) : Row cs s t B w' v L := by
  obtain ⟨h1, h0 | ⟨g, cap, cur, rfl, h2, h3, h4⟩⟩ := h
  · exact ⟨h1, Or.inl h0⟩
  · exact ⟨h1, Or.inr ⟨g, cap, cur, rfl, h2, (hk g rfl).trans h3, h4⟩⟩
theorem Row.on (h : Row cs s t B w v L) (hb : Below w.heap.size w w') : Row cs s t B w' v L := h.keep fun k hk => hb.block k (h.lt k hk).2
theorem Row.less {B' : Nat} (h : Row cs s t B w v L) (hB : B' ≤ B) : Row cs s t B' w v L := by
  obtain ⟨h1, h0 | ⟨g, cap, cur, e, h2, h3⟩⟩ := h
  · exact ⟨h1, Or.inl h0⟩
  · exact ⟨h1, Or.inr ⟨g, cap, cur, e, Nat.le_trans hB h2, h3⟩⟩
theorem Row.warm (h : Row cs s t B w (.slice (some ⟨g, 0, none⟩) n cap) L) (hn : n = L.length) (j : Nat) : w.frozen? ⟨g, j, none⟩ = false := by
  subst hn
  exact World.ownsRow.frozenAt (h : w.ownsRow B t s (.slice (some ⟨g, 0, none⟩) L.length cap) L.length (L.flatMap cs)) j
/-- A cell that is set. -/
theorem own_set {xs : List Value} {m : Nat} (h : w.ownsRow B t s (.slice (some ⟨g, 0, none⟩) m cap) m xs) (j : Nat) (u : Value) : (w.setCell ⟨g, j, none⟩ u).ownsRow B t s (.slice (some ⟨g, 0, none⟩) m cap) m (xs.set j u) := (World.ownsRow.stored h j u).1
theorem Row.below (h : Row cs s t B w v L) (hg : w.grownBy w' v.ownBlock) (hB : B ≤ w.heap.size) : Below B w w' :=
  ⟨hg.os, hg.tape, hg.output, hg.size, fun i hi => hg.block i (Nat.lt_of_lt_of_le hi hB) fun e => by have := (h.lt i e.symm).1; omega⟩
theorem Row.empty (cs : α → List Value) (s : Nat) (t : TypeId) (w : World) (hB : B ≤ w.heap.size) : Row cs s t B (w.alloc (.cells #[] t)) (.slice (some ⟨w.heap.size, 0, none⟩) 0 0) [] :=
  World.ownsRow_lit (base := B) (e := t) (size := s) w #[] 0 hB (by unfold maxLen; omega) (by simp)
/-- The first n elements: 's[:n]'. -/
theorem Row.cut (hc : ∀ z, (cs z).length = s) (h : Row cs s t B w (.slice (some ⟨g, 0, none⟩) n cap) L) (hn : n = L.length) {m : Nat} (hm : m ≤ n) : Row cs s t B w (.slice (some ⟨g, 0, none⟩) m cap) (L.take m) := by
  subst hn
  obtain ⟨h1, ⟨h0, _⟩ | ⟨g', cap', cur, e, h2, h3, h4, h5, h6, h7⟩⟩ := h
  · cases h0
  · cases e
    have hfl : (L.take m).flatMap cs = (L.flatMap cs).take (m * s) := by
      conv => rhs; rw [← List.take_append_drop m L, List.flatMap_append]
      rw [List.take_left' (by rw [flat_len hc, List.length_take]; congr 1; omega)]
    have hlen : (L.take m).length = m := by rw [List.length_take]; omega
    refine ⟨by rw [flat_len hc], Or.inr ⟨g, cap, cur, by rw [hlen], h2, h3, by rw [hlen]; omega, h5, h6, ?_⟩⟩
    rw [hlen, hfl, ← h7, List.take_take]
    congr 1
    exact (Nat.min_eq_left (Nat.mul_le_mul_right _ hm)).symm
end
end Go.Proofs.Ytgomokdklajlcaa.Rw
/- append to a row of the call's own: one law, whatever the elements. -/
namespace Go.Proofs.Ytgomokdklajlcaa.Rw
open Go.ChangeShapes Go.WideShapes Go.RowKit Go.Lib
set_option linter.unusedVariables false
set_option maxRecDepth 100000

/-- What the dump says of a kind of elements: T the slice's type, t the element's. -/
structure Kd {α : Type} (cs : α → List Value) (s : Nat) (T t : TypeId) : Prop where
  und : Try.prog.underlying T = some (.slice t)
  info : ∃ i z by_, Try.prog.info? t = some i ∧ i.zero = some z ∧ i.size = s ∧ i.bytes = by_ ∧ z.cells.size = s ∧ by_ ≤ 1000
  len : ∀ z, (cs z).length = s
  pos : 0 < s
  one : ∀ z, ∀ u ∈ cs z, u.oneCell' = true

theorem run_append_none {P : Program} {w : World} (base : Nat) (t ty e : TypeId) (i : TypeInfo) (size c : Nat) (ht : P.underlying t = some (.slice e)) (hi : P.info? e = some i)
    (v : Value) (n : Nat) (xs : List Value) (hown : w.ownsRow base e size v n xs) :
    (Builtin.append_ #[t, t] ty #[v, .slice none 0 c]).run P w = .ok v w := by
  rcases hown.2 with ⟨rfl, rfl⟩ | ⟨g, cap, cur, rfl, _, _, hnc, _⟩
  · simp [Builtin.append_, run_underlying ht, sizeOf, typeInfo, hi, Builtin.lenOf, Builtin.firstCells]
  · simp [Builtin.append_, run_underlying ht, sizeOf, typeInfo, hi, Builtin.lenOf, Builtin.firstCells, hnc, storeCells]
theorem run_equalIn_fn_nil {P : Program} (W : World) (d : Nat) (t : TypeId) (x y z) (h : P.underlying t = some (.func x y z)) (fn : Fn) (a cap : Array Value) : (Op.equalIn (d + 1) t (.func fn a cap) .nilFunc).run P W = .ok false W := by
  simp [Op.equalIn, run_underlying h]
theorem run_eql_fn_nil {P : Program} (W : World) (t : TypeId) (x y z) (h : P.underlying t = some (.func x y z)) (fn : Fn) (a cap : Array Value) : (binOp .eql t (.func fn a cap) .nilFunc).run P W = .ok (.bool false) W := by
  simp only [binOp]
  simp [Op.equal, Op.maxDepth, run_equalIn_fn_nil W 9999 t x y z h]
theorem run_equalIn_nil_nil {P : Program} (W : World) (d : Nat) (t : TypeId) (x y z) (h : P.underlying t = some (.func x y z)) : (Op.equalIn (d + 1) t .nilFunc .nilFunc).run P W = .ok true W := by
  simp [Op.equalIn, run_underlying h]
theorem run_eql_fnil_fnil {P : Program} (W : World) (t : TypeId) (x y z) (h : P.underlying t = some (.func x y z)) : (binOp .eql t .nilFunc .nilFunc).run P W = .ok (.bool true) W := by
  simp only [binOp]
  simp [Op.equal, Op.maxDepth, run_equalIn_nil_nil W 9999 t x y z h]
section
variable {α : Type} {cs : α → List Value} {s : Nat} {T t : TypeId} {B : Nat} {w w' : World} {v : Value} {L M : List α} {A : Option Addr}
theorem rd_flat (hc : ∀ z, (cs z).length = s) (h0 : 0 < s) {ad : Addr} (h : Rd cs s w (some ad) M) : ∀ j u, (M.flatMap cs)[j]? = some u → w.cell? (ad.add j) = some u := by
  intro j u hj
  have hjl := glt hj
  rw [flat_len hc] at hjl
  have hk : j / s < M.length := by rw [Nat.div_lt_iff_lt_mul h0]; exact hjl
  obtain ⟨z, hz⟩ := get_lt hk
  obtain ⟨b, off, e, _, hcell⟩ := h _ _ hz
  cases e
  have hr : j % s < (cs z).length := by rw [hc]; exact Nat.mod_lt _ h0
  obtain ⟨u', hu'⟩ := get_lt hr
  have hf := flat_at hc hz hu'
  have hjj : j / s * s + j % s = j := by rw [Nat.mul_comm]; exact Nat.div_add_mod j s
  rw [hjj, hj] at hf
  obtain rfl := Option.some.inj hf
  have := hcell _ _ hu'
  rw [hjj] at this
  rw [Addr.add_lit]; exact this
theorem run_append_rows (K : Kd cs s T t) (hown : Row cs s t B w v L) (m c : Nat) (hm : m = M.length) (hz : Rd cs s w A M) (hlen : L.length + m ≤ 1000000) (hB : B ≤ w.heap.size) (ty : TypeId) :
    ∃ v' w', (Builtin.append_ #[T, T] ty #[v, .slice A m c]).run Try.prog w = .ok v' w' ∧ Row cs s t B w' v' (L ++ M) ∧ w.grownBy w' v.ownBlock ∧ (v'.ownBlock = v.ownBlock ∨ v'.ownBlock = some w.heap.size) := by
  obtain ⟨i, zv, by_, hi, hzv, hs, hby, hzc, hb1⟩ := K.info
  subst hm
  cases A with
  | none =>
    obtain rfl := hz.none_
    exact ⟨v, w, run_append_none B T ty t i s c K.und hi v L.length _ hown, by rw [List.append_nil]; exact hown, World.grownBy.refl _ _, Or.inl rfl⟩
  | some ad =>
    have hbb : (L.length + M.length) * by_ ≤ 140737488355328 := Nat.le_trans (Nat.mul_le_mul hlen hb1) (by decide)
    obtain ⟨v', w', hr, h1, h2, _, h3⟩ := run_append_own_at (P := Try.prog) w B T ty t i zv s by_ K.und hi hzv hs hby hzc K.pos v L.length _ hown ad M.length c (M.flatMap cs) (flat_len K.len M) (rd_flat K.len K.pos hz)
      (fun u hu => by obtain ⟨z, hz, hu⟩ := List.mem_flatMap.mp hu; exact K.one z u hu) (by unfold maxLen; omega) hbb hB
    exact ⟨v', w', hr, by unfold Row; rw [List.length_append, List.flatMap_append]; exact h1, h2, h3⟩
/-- 'append(s, x...)' in a plain region. -/
theorem append_rows (K : Kd cs s T t) {ops : Array Oper} {rest : List Oper} {o : Oper} {a : Act} {Q : Exit → Act → World → Prop} (hgd : o.guard = none) (x y : Operand)
    (ho : o.op = .call { callee := .builtin .append, args := #[x, y], argTypes := #[T, T] })
    (v : Value) (L : List α) (hs : a.eval x = v) (hown : Row cs s t B w v L) (A : Option Addr) (m c : Nat) (M : List α) (hm : m = M.length) (hx : a.eval y = .slice A m c) (hz : Rd cs s w A M) (hlen : L.length + m ≤ 1000000) (hB : B ≤ w.heap.size)
    (h : ∀ A' n' c' w', n' = L.length + m → Row cs s t B w' (.slice A' n' c') (L ++ M) → w.grownBy w' v.ownBlock → ((Value.slice A' n' c').ownBlock = v.ownBlock ∨ (Value.slice A' n' c').ownBlock = some w.heap.size) → wpList Try.prog ops Q rest (a.put o.dst (.slice A' n' c')) w') :
    wpList Try.prog ops Q (o :: rest) a w := by
  obtain ⟨v', w', hr, h1, h2, h3⟩ := run_append_rows K hown m c hm hz hlen hB o.type
  obtain ⟨A', c', rfl, -⟩ := h1.one K.len
  refine wpList_plain hgd fun K' hK => ?_
  unfold Oper.wp execOp
  simp only [ho, resolve, invoke, builtin, Sem.run_bind, Sem.run_pure, Result.andThen_ok, List.map_toArray, List.map_cons, List.map_nil, hs, hx, hr]
  exact hK _ _ (h A' _ c' w' (by rw [List.length_append, hm]) h1 h2 h3)
/-- 'append(s, x...)' at a step of a region that draws its order; w0: the world ahead of the region, in which the row lies. -/
theorem step_rows (K : Kd cs s T t) (w0 : World) {ops : Array Oper} {o : Oper} {a : Act} {K' : Act → World → Prop} {Q : Exit → Act → World → Prop} {E : Prop} (hgd : o.guard = none) (x y : Operand)
    (ho : o.op = .call { callee := .builtin .append, args := #[x, y], argTypes := #[T, T] })
    (v : Value) (L : List α) (hs : a.eval x = v) (hown : Row cs s t B w0 v L) (hbm : Below w0.heap.size w0 w) (A : Option Addr) (m c : Nat) (M : List α) (hm : m = M.length) (hx : a.eval y = .slice A m c) (hz : Rd cs s w A M) (hlen : L.length + m ≤ 1000000) (hB : B ≤ w0.heap.size)
    (h : ∀ A' n' c' w', n' = L.length + m → Row cs s t B w' (.slice A' n' c') (L ++ M) → (∀ b, b < w.heap.size → v.ownBlock ≠ some b → w'.heap[b]? = w.heap[b]?) → w0.grownBy w' v.ownBlock → ((Value.slice A' n' c').ownBlock = v.ownBlock ∨ ∃ b, (Value.slice A' n' c').ownBlock = some b ∧ w0.heap.size ≤ b) → K' (a.put o.dst (.slice A' n' c')) w') :
    if Region.wanted o (yielded ops a.tmps) = true then Oper.wp Try.prog o a w K' Q else E := by
  have hw : Region.wanted o (yielded ops a.tmps) = true := by simp [Region.wanted, hgd]
  rw [if_pos hw]
  obtain ⟨v', w', hr, h1, h2, h3⟩ := run_append_rows K (hown.on hbm) m c hm hz hlen (Nat.le_trans hB hbm.size) o.type
  obtain ⟨A', c', rfl, -⟩ := h1.one K.len
  unfold Oper.wp execOp
  simp only [ho, resolve, invoke, builtin, Sem.run_bind, Sem.run_pure, Result.andThen_ok, List.map_toArray, List.map_cons, List.map_nil, hs, hx, hr]
  refine h A' _ c' w' (by rw [List.length_append, hm]) h1 (fun b hb hv => h2.block b hb fun e => hv e.symm) ⟨h2.os.trans hbm.os, h2.tape.trans hbm.tape, h2.output.trans hbm.output, Nat.le_trans hbm.size h2.size, fun b hb hv => (h2.block b (Nat.lt_of_lt_of_le hb hbm.size) hv).trans (hbm.block b hb)⟩ (h3.imp_right fun h => ⟨_, h, hbm.size⟩)
/-- One element that lies in a block of its own. -/
theorem rd_one (hc : ∀ z, (cs z).length = s) {g : Nat} {z : α} {ty : TypeId} (h : w.heap[g]? = some (.cells (cs z).toArray ty (0, 0))) : Rd cs s w (some ⟨g, 0, none⟩) [z] := by
  intro k y hk
  match k, hk with
  | 0, hk =>
    simp at hk; subst hk
    refine ⟨g, 0, rfl, (Array.getElem?_eq_some_iff.mp h).1, fun j u hu => ?_⟩
    rw [cell_of_row _ _ _ _ _ _ h]
    simpa using hu
end
end Go.Proofs.Ytgomokdklajlcaa.Rw
/- A struct in a block of its own, whatever its cells. -/
namespace Go.Proofs.Ytgomokdklajlcaa.Rw
open Go.ChangeShapes Go.WideShapes Go.RowKit Go.Lib
set_option linter.unusedVariables false
set_option maxRecDepth 100000

/-- In block g lie the cells us, none frozen. -/
structure Cel (w : World) (g : Nat) (us : List Value) : Prop where
  lt : g < w.heap.size
  at_ : ∀ (j : Nat) (u : Value), us[j]? = some u → w.cell? ⟨g, j, none⟩ = some u
  warm : ∀ (j : Nat), w.frozen? ⟨g, j, none⟩ = false
section
variable {w w' : World} {g : Nat} {us : List Value} {u0 u1 u2 : Value}
theorem Cel.keep (h : Cel w g us) (hs : w.heap.size ≤ w'.heap.size) (hk : w'.heap[g]? = w.heap[g]?) : Cel w' g us :=
  ⟨Nat.lt_of_lt_of_le h.lt hs, fun j u hu => (World.cell?_of_block (a := ⟨g, j, none⟩) hk).trans (h.at_ j u hu), fun j => by
    have := h.warm j
    unfold World.frozen? at *
    simp only at *
    rw [hk]; exact this⟩
theorem Cel.on (h : Cel w g us) (hb : Below w.heap.size w w') : Cel w' g us := h.keep hb.size (hb.block g h.lt)
theorem Cel.below {B : Nat} (h : Cel w g us) (hb : Below B w w') (hg : g < B) : Cel w' g us := h.keep hb.size (hb.block g hg)
theorem Cel.drew (h : Cel w g us) : Cel w.drew g us := h.keep (Nat.le_refl _) rfl
theorem Cel.alloc (h : Cel w g us) (o : Obj) : Cel (w.alloc o) g us := h.on (below_alloc w o)
theorem Cel.off {S : Nat → Prop} (h : Cel w g us) (ho : Off S w w') (hS : ¬ S g) : Cel w' g us := h.keep ho.size (ho.block g h.lt hS)
theorem Cel.grown {row : Option Nat} (h : Cel w g us) (hg : w.grownBy w' row) (hr : row ≠ some g) : Cel w' g us := h.keep hg.size (hg.block g h.lt fun e => hr e.symm)
theorem Cel.far (h : Cel w g us) {p : Addr} (hp : p.block ≠ g) (u : Value) : Cel (w.setCell p u) g us :=
  h.keep (by simp [World.setCell]) (Below.heap_setCell w p u g fun e => hp e.symm)
theorem Cel.new (w : World) (us : List Value) (t : TypeId) : Cel (w.alloc (.cells us.toArray t)) w.heap.size us := by
  have hb := heap_alloc_new w (.cells us.toArray t)
  refine ⟨by simp, fun j u hu => ?_, fun j => frozen_of hb _⟩
  rw [cell_of_row _ _ _ _ _ _ hb]
  simpa using hu
theorem Cel.new_at (w : World) (us : List Value) (t : TypeId) {k : Nat} (hk : w.heap.size = k) : Cel (w.alloc (.cells us.toArray t)) k us := hk ▸ Cel.new w us t
theorem Cel.set (h : Cel w g us) (i : Nat) (x : Value) : Cel (w.setCell ⟨g, i, none⟩ x) g (us.set i x) := by
  refine ⟨by simp [World.setCell]; exact h.lt, fun j u hu => ?_, fun j => by simpa using h.warm j⟩
  by_cases hij : i = j
  · subst hij
    have hl : i < us.length := by
      have := glt hu
      rwa [List.length_set] at this
    rw [List.getElem?_set_self hl] at hu
    cases hu
    exact World.cell?_setCell_same w _ _ (h.at_ i _ (List.getElem?_eq_getElem hl))
  · rw [List.getElem?_set_ne hij] at hu
    rw [World.cell?_setCell_other w _ _ _ (fun e => hij (by cases e; rfl))]
    exact h.at_ j u hu
theorem Cel.two (h : Cel w g [u0, u1]) : w.cell? ⟨g, 0, none⟩ = some u0 ∧ w.cell? ⟨g, 1, none⟩ = some u1 := ⟨h.at_ 0 _ rfl, h.at_ 1 _ rfl⟩
theorem Cel.three (h : Cel w g [u0, u1, u2]) : w.cell? ⟨g, 0, none⟩ = some u0 ∧ w.cell? ⟨g, 1, none⟩ = some u1 ∧ w.cell? ⟨g, 2, none⟩ = some u2 := ⟨h.at_ 0 _ rfl, h.at_ 1 _ rfl, h.at_ 2 _ rfl⟩
theorem Cel.warm2 (h : Cel w g us) : w.frozen? ⟨g, 0, none⟩ = false ∧ w.frozen? ⟨g, 1, none⟩ = false := ⟨h.warm 0, h.warm 1⟩
theorem Cel.warm3 (h : Cel w g us) : w.frozen? ⟨g, 0, none⟩ = false ∧ w.frozen? ⟨g, 1, none⟩ = false ∧ w.frozen? ⟨g, 2, none⟩ = false := ⟨h.warm 0, h.warm 1, h.warm 2⟩
def put2 (w : World) (g : Nat) (x0 x1 : Value) : World := (w.setCell ⟨g, 0, none⟩ x0).setCell ⟨g, 1, none⟩ x1
def put3 (w : World) (g : Nat) (x0 x1 x2 : Value) : World := ((w.setCell ⟨g, 0, none⟩ x0).setCell ⟨g, 1, none⟩ x1).setCell ⟨g, 2, none⟩ x2
theorem Cel.put2 (h : Cel w g [u0, u1]) (x0 x1 : Value) : Cel ((w.setCell ⟨g, 0, none⟩ x0).setCell ⟨g, 1, none⟩ x1) g [x0, x1] := (h.set 0 x0).set 1 x1
theorem Cel.put3 (h : Cel w g [u0, u1, u2]) (x0 x1 x2 : Value) : Cel (((w.setCell ⟨g, 0, none⟩ x0).setCell ⟨g, 1, none⟩ x1).setCell ⟨g, 2, none⟩ x2) g [x0, x1, x2] := ((h.set 0 x0).set 1 x1).set 2 x2
theorem off_put3 (w : World) (g : Nat) (x0 x1 x2 : Value) : Off (fun k => k = g) w (((w.setCell ⟨g, 0, none⟩ x0).setCell ⟨g, 1, none⟩ x1).setCell ⟨g, 2, none⟩ x2) :=
  (((Off.refl (fun k => k = g) w).set (p := ⟨g, 0, none⟩) (Or.inl rfl) _).set (p := ⟨g, 1, none⟩) (Or.inl rfl) _).set (p := ⟨g, 2, none⟩) (Or.inl rfl) _
theorem off_put2 (w : World) (g : Nat) (x0 x1 : Value) : Off (fun k => k = g) w ((w.setCell ⟨g, 0, none⟩ x0).setCell ⟨g, 1, none⟩ x1) :=
  ((Off.refl (fun k => k = g) w).set (p := ⟨g, 0, none⟩) (Or.inl rfl) _).set (p := ⟨g, 1, none⟩) (Or.inl rfl) _
theorem below_put3 {B : Nat} (h : Below B w w') (hg : B ≤ g) (x0 x1 x2 : Value) : Below B w (((w'.setCell ⟨g, 0, none⟩ x0).setCell ⟨g, 1, none⟩ x1).setCell ⟨g, 2, none⟩ x2) :=
  ((h.setCell (p := ⟨g, 0, none⟩) hg _).setCell (p := ⟨g, 1, none⟩) hg _).setCell (p := ⟨g, 2, none⟩) hg _
theorem below_put2 {B : Nat} (h : Below B w w') (hg : B ≤ g) (x0 x1 : Value) : Below B w ((w'.setCell ⟨g, 0, none⟩ x0).setCell ⟨g, 1, none⟩ x1) :=
  (h.setCell (p := ⟨g, 0, none⟩) hg _).setCell (p := ⟨g, 1, none⟩) hg _
/-- An address in a block of one's own or an old one. -/
theorem Rd.off {α : Type} {cs : α → List Value} {s : Nat} {A : Option Addr} {L : List α} {S : Nat → Prop} (h : Rd cs s w A L) (ho : Off S w w') (hS : ∀ b off, A = some ⟨b, off, none⟩ → ¬ S b) : Rd cs s w' A L :=
  h.keep ho.size fun b off e hlt => ho.block b hlt (hS b off e)
end
end Go.Proofs.Ytgomokdklajlcaa.Rw
/- Kinds of fibre in memory; what comes in. -/
namespace Go.Proofs.Ytgomokdklajlcaa.Fibre
open Go.ChangeShapes Go.WideShapes Go.RowKit Go.Lib Go.Joins
open Go.Proofs.Ytgomokdklajlcaa.Rw (Rd glt)
set_option linter.unusedVariables false
set_option maxRecDepth 100000

abbrev TF : TypeId := 43
/-- A kind's cells. -/
abbrev cF (f : Fb) : List Value := [.string f.1, .int .i64 f.2]
theorem cF_len (f : Fb) : (cF f).length = 2 := rfl
abbrev Kds (w : World) (A : Option Addr) (L : List Fb) : Prop := Rd cF 2 w A L
/-- No name is longer than a string can be. -/
def Sz (L : List Fb) : Prop := ∀ f ∈ L, f.1.size ≤ 9223372036854775807
theorem kd_at {w : World} {A : Option Addr} {L : List Fb} (h : Kds w A L) {k : Nat} {f : Fb} (hf : L[k]? = some f) : ∃ b off, A = some ⟨b, off, none⟩ ∧ b < w.heap.size ∧ w.cell? ⟨b, off + k * 2, none⟩ = some (.string f.1) ∧ w.cell? ⟨b, off + k * 2 + 1, none⟩ = some (.int .i64 f.2) := by
  obtain ⟨b, off, e, hlt, hc⟩ := h k f hf
  exact ⟨b, off, e, hlt, hc 0 _ rfl, hc 1 _ rfl⟩

section
variable {H : Type} {enc : TypeId × Value → H} {w : World} {held : Bool}
theorem kinds_of {fuel : Nat} {cs : List Value} {x : DataW H × List MemPlace} (hf : DataW.trod enc Try.prog w 0 (fun _ => true) held fuel 22 cs = some x) :
    ∃ (A : Option Addr) (c : Nat) (L : List Fb), cs = [.slice A L.length c] ∧ Kds w A L ∧ Sz L ∧ L.length ≤ c ∧ L.length ≤ 9223372036854775807 := by
  rcases Deep.open_slice Try.underlying22 hf with ⟨hcs, _⟩ | ⟨a, n, cap, m, k, D, Pl, hcs, _, hl, hm, hmm, _, hel⟩
  · exact ⟨none, 0, [], hcs, Rd.nil _ _ _ _, fun f hf => by simp at hf, Nat.le_refl _, by simp⟩
  · have hmc : m = cap := by simpa using hmm
    subst hmc
    have hC : Try.prog.cellsOf 43 = 2 := by kernel_rfl
    have key : ∀ i, i < n → ∃ s : Fb, ∃ b off, a = ⟨b, off, none⟩ ∧ b < w.heap.size ∧ s.1.size ≤ maxLen ∧ ∀ j u, (cF s)[j]? = some u → w.cell? ⟨b, off + (i * 2 + j), none⟩ = some u := by
      intro i hi
      obtain ⟨cs, hc, ht⟩ := hel i (by omega)
      rw [hC] at hc
      obtain ⟨xs, n', _, _, hlen, hyl, hg⟩ := DataW.trod_struct Try.underlying43 ht
      obtain ⟨_, hcl, hat⟩ := World.cells?_some hc
      obtain ⟨c0, c1, rfl⟩ : ∃ c0 c1, cs = [c0, c1] := by
        match cs, hcl with
        | [c0, c1], _ => exact ⟨c0, c1, rfl⟩
      obtain ⟨y0, y1, rfl⟩ : ∃ y0 y1, xs = [y0, y1] := by
        match xs, hyl with
        | [y0, y1], _ => exact ⟨y0, y1, rfl⟩
      have g0 := hg 0 _ rfl
      have g1 := hg 1 _ rfl
      change DataW.trod enc Try.prog w 0 (fun _ => true) held n' 9 (([c0, c1].drop 0).take (Try.prog.cellsOf 9)) = some y0 at g0
      change DataW.trod enc Try.prog w 0 (fun _ => true) held n' 3 (([c0, c1].drop 1).take (Try.prog.cellsOf 3)) = some y1 at g1
      rw [show Try.prog.cellsOf 9 = 1 by kernel_rfl] at g0
      rw [show Try.prog.cellsOf 3 = 1 by kernel_rfl] at g1
      obtain ⟨x0, f0, _, hsz⟩ := DataW.trod_string Try.underlying9 g0
      obtain ⟨x1, f1, _, _⟩ := DataW.trod_int Try.underlying3 g1
      have e0 : c0 = .string x0 := by simpa using f0
      have e1 : c1 = .int .i64 x1 := by simpa using f1
      clear f0 f1
      subst e0 e1
      obtain ⟨b, off, spot⟩ := a
      have hspot : spot = none := by
        obtain ⟨cs0, hc0, ht0⟩ := hel 0 (by omega)
        rw [hC] at hc0
        obtain ⟨_, hl0, hat0⟩ := World.cells?_some hc0
        match cs0, hl0 with
        | [z0, z1], _ =>
          have h := hat0 0 (by omega)
          have e : ∀ x : Addr, x.add 0 = x := fun x => by unfold Addr.add; rw [if_pos rfl]
          rw [Nat.zero_mul, e, e] at h
          exact World.cell?_spot h
      subst hspot
      have kk : ∀ j, j < 2 → w.cell? ⟨b, off + i * 2 + j, none⟩ = [Value.string x0, Value.int .i64 x1][j]? := fun j hj => by
        have := hat j (by omega)
        rw [Go.WideShapes.add_plain, Go.WideShapes.add_plain] at this
        exact this
      have k0 := kk 0 (by omega)
      refine ⟨(x0, x1), b, off, rfl, World.block_lt_of_cell? w _ k0, hsz, fun j u hu => ?_⟩
      have hj : j < 2 := by have := glt hu; exact this
      rw [← Nat.add_assoc, kk j hj]
      exact hu
    have lists : ∀ n, (∀ i, i < n → ∃ s : Fb, ∃ b off, a = ⟨b, off, none⟩ ∧ b < w.heap.size ∧ s.1.size ≤ maxLen ∧ ∀ j u, (cF s)[j]? = some u → w.cell? ⟨b, off + (i * 2 + j), none⟩ = some u) →
        ∃ L : List Fb, L.length = n ∧ ∀ (i : Nat) (s : Fb), L[i]? = some s → ∃ b off, a = ⟨b, off, none⟩ ∧ b < w.heap.size ∧ s.1.size ≤ maxLen ∧ ∀ j u, (cF s)[j]? = some u → w.cell? ⟨b, off + (i * 2 + j), none⟩ = some u := by
      intro n
      induction n with
      | zero => intro _; exact ⟨[], rfl, fun i s hs => by simp at hs⟩
      | succ n ih =>
        intro h
        obtain ⟨L, hl, hL⟩ := ih fun i hi => h i (by omega)
        obtain ⟨t, ht⟩ := h n (by omega)
        refine ⟨L ++ [t], by simp [hl], fun i u hu => ?_⟩
        have hlt := glt hu
        rw [List.length_append, List.length_singleton] at hlt
        rcases Nat.lt_or_ge i L.length with h1 | h1
        · rw [List.getElem?_append_left h1] at hu; exact hL i u hu
        · obtain rfl : i = n := by omega
          rw [List.getElem?_append_right h1, hl, Nat.sub_self] at hu
          obtain rfl : t = u := by simpa using hu
          exact ht
    obtain ⟨L, rfl, hL⟩ := lists n key
    refine ⟨some a, m, L, hcs, fun k s hk => ?_, fun f hf => ?_, hl, by unfold maxLen at hm; omega⟩
    · obtain ⟨b, off, e, h1, _, h⟩ := hL k s hk
      exact ⟨b, off, by rw [e], h1, h⟩
    · obtain ⟨j, hj⟩ := List.mem_iff_getElem?.mp hf
      obtain ⟨_, _, _, _, h, _⟩ := hL j f hj
      unfold maxLen at h; omega
/-- A slice of kinds that came in. -/
theorem open_kinds {r : Reach} {b0 : Nat} {v : Value} {d : DataW H} {p : List MemPlace} (hv : Value.okWide Try.prog w r b0 22 v) (h : DataW.Trod enc Try.prog w 0 (fun _ => true) held 22 v d p) :
    ∃ (A : Option Addr) (c : Nat) (L : List Fb), v = .slice A L.length c ∧ Kds w A L ∧ Sz L ∧ L.length ≤ c ∧ L.length ≤ 9223372036854775807 := by
  obtain ⟨A, n, c, rfl⟩ := okWide_slice Try.underlying22 hv
  obtain ⟨fuel, hf⟩ := h
  obtain ⟨A', c', L, hcs, h1, h2, h3, h4⟩ := kinds_of hf
  simp [Value.cells] at hcs
  obtain ⟨rfl, rfl, rfl⟩ := hcs
  exact ⟨A, c, L, rfl, h1, h2, h3, h4⟩
end
end Go.Proofs.Ytgomokdklajlcaa.Fibre
/- list, Sum, Recipe, Parts, Total, Same of the reference. -/
namespace Go.Proofs.Ytgomokdklajlcaa.Fibre
open Go.ChangeShapes Go.WideShapes Go.RowKit Go.Lib
open Go.Proofs.Ytgomokdklajlcaa.Mem (Cl eI Own)
open Go.Proofs.Ytgomokdklajlcaa.Rw (glt get_lt ret_bool ret_int wrap_id bstep below_drewN below_drew drew_below)
open Go.Proofs.Ytgomokdklajlcaa.Share (sumK sumK_zero sumK_succ)
set_option linter.unusedVariables false
set_option maxRecDepth 100000

theorem cl_at {w : World} {A : Option Addr} {L : List Int} (h : Cl eI w A L) {k : Nat} {z : Int} (hz : L[k]? = some z) : ∃ b off, A = some ⟨b, off, none⟩ ∧ b < w.heap.size ∧ w.cell? ⟨b, off + k, none⟩ = some (.int .i64 z) := h k z hz
theorem ne_zero {E : Int} (h : ¬ E = 0) : (E == 0) = false ∧ (E != 0) = true := by
  have : (E == 0) = false := beq_false_of_ne h
  exact ⟨this, by rw [bne, this]; rfl⟩
set_option maxHeartbeats 800000 in
theorem rr_list (l : List Int) (A : Option Addr) (n c : Nat) (hn : n = l.length) (kinds most : Int) (w : World) (ha : Cl eI w A l) (hm : n ≤ 9223372036854775807) :
    Calls Try.prog 39 #[.slice A n c, .int .i64 kinds, .int .i64 most] w fun e w' => e = .returned (.int .i64 (lisE l kinds most)) ∧ Below w.heap.size w w' := by
  have HA := Lib.hid ha
  have HN := Lib.hid hn
  obtain ⟨E, hE⟩ : ∃ E, lisE l kinds most = E := ⟨_, rfl⟩
  rw [hE]
  have HE := Lib.hid hE
  clear ha
  rcases Int.lt_or_le kinds 1 with h0 | h0
  · have d0 : decide (kinds < 1) = true := decide_eq_true h0
    obtain rfl : E = 17 := by rw [← hE]; exact lisE_no (Bool.eq_false_iff.mpr fun h => by have := kiB_iff.mp h; omega)
    clear h0 hE hn
    go_enter Try.func39, Try.ntmps39
    go_wp2_with fail
    go_ret
    exact ⟨rfl, Below.refl _ _⟩
  have d0 : decide (kinds < 1) = false := decide_eq_false (by omega)
  rcases Int.lt_or_le 8 kinds with h1 | h1
  · have d1 : decide (8 < kinds) = true := decide_eq_true h1
    obtain rfl : E = 17 := by rw [← hE]; exact lisE_no (Bool.eq_false_iff.mpr fun h => by have := kiB_iff.mp h; omega)
    clear h0 h1 hE hn
    go_enter Try.func39, Try.ntmps39
    go_wp2_with fail
    go_ret
    exact ⟨rfl, Below.refl _ _⟩
  have d1 : decide (8 < kinds) = false := decide_eq_false (by omega)
  by_cases h2 : (n : Int) = kinds
  rotate_left
  · have d2 : ((n : Int) != kinds) = true := by simpa using h2
    have d3 : ((n : Int) == kinds) = false := by simpa using h2
    obtain rfl : E = 17 := by rw [← hE]; exact lisE_no (Bool.eq_false_iff.mpr fun h => by have := kiB_iff.mp h; omega)
    clear h0 h1 h2 hE hn
    go_enter Try.func39, Try.ntmps39
    go_wp2_with fail
    go_ret
    exact ⟨rfl, Below.refl _ _⟩
  have HK : Hid (kiB l kinds = true) := Lib.hid (kiB_iff.mpr ⟨h0, h1, by omega⟩)
  subst h2
  have d2 : ((n : Int) != (n : Int)) = false := by simp
  have d3 : ((n : Int) == (n : Int)) = true := by simp
  clear h0 h1 hE hn
  go_enter Try.func39, Try.ntmps39
  go_wp2_with fail
  go_loopw [7] (fun i wr => ∃ k : Nat, k ≤ n ∧ i = .int .i64 k ∧ (∀ (j : Nat) (z : Int), j < k → l[j]? = some z → inM most z = true) ∧ Below w.heap.size w wr) (fun i _ => n - (RowKit.intOf i).toNat)
  case atStart => exact ⟨0, Nat.zero_le _, rfl, fun j z h => absurd h (by omega), Below.refl _ _⟩
  case round =>
    obtain ⟨k, hk, rfl, hv, hbel⟩ := hrel
    have HV := Lib.hid hv
    have HB := Lib.hid hbel
    clear hv hbel
    rcases Nat.lt_or_ge k n with hlt | hge
    · obtain ⟨z, hz⟩ := get_lt (L := l) (k := k) (by have := HN.out; omega)
      obtain ⟨b, off, rfl, hb, e0⟩ := cl_at (HA.out.on HB.out) hz
      have HZ := Lib.hid hz
      have i1 : (k : Int) < (n : Int) := by omega
      have i2 : (0 : Int) ≤ (k : Int) := by omega
      clear hz
      rcases Int.lt_or_le z 0 with h0 | h0
      · have t0 : decide (z < 0) = true := decide_eq_true h0
        obtain rfl : E = 1 := by rw [← HE.out]; exact lisE_bad HK.out HZ.out (Bool.eq_false_iff.mpr fun h => by have := inM_iff.mp h; omega)
        clear h0
        go_wp2_with fail
        go_ret
        exact ⟨rfl, HB.out⟩
      have t0 : decide (z < 0) = false := decide_eq_false (by omega)
      rcases Int.lt_or_le most z with h1 | h1
      · have t1 : decide (most < z) = true := decide_eq_true h1
        obtain rfl : E = 1 := by rw [← HE.out]; exact lisE_bad HK.out HZ.out (Bool.eq_false_iff.mpr fun h => by have := inM_iff.mp h; omega)
        clear h0 h1
        go_wp2_with fail
        go_ret
        exact ⟨rfl, HB.out⟩
      have t1 : decide (most < z) = false := decide_eq_false (by omega)
      have HI : Hid (inM most z = true) := Lib.hid (inM_iff.mpr ⟨h0, h1⟩)
      clear h0 h1
      go_wp2_with fail
      go_roundw
      case rel =>
        refine ⟨k + 1, by omega, by go_num, ?_, HB.out⟩
        intro j y hj hy
        rcases Nat.lt_or_eq_of_le (Nat.le_of_lt_succ hj) with h | h
        · exact HV.out j y h hy
        · subst h
          have e := HZ.out
          rw [hy] at e; cases e; exact HI.out
      case measure => simp [RowKit.intOf]; omega
    · obtain rfl : k = n := by omega
      obtain rfl : E = 0 := by rw [← HE.out]; exact lisE_ok HK.out fun j z hz => HV.out j z (by rw [HN.out]; exact glt hz) hz
      go_wp2_with fail
      go_ret
      exact ⟨rfl, HB.out⟩

set_option maxHeartbeats 800000 in
theorem rr_Sum (l : List Int) (A : Option Addr) (n c : Nat) (hn : n = l.length) (w : World) (ha : Cl eI w A l) (hl : n ≤ 8) (hz : ∀ z ∈ l, 0 ≤ z ∧ z ≤ MM) :
    Calls Try.prog 40 #[.slice A n c] w fun e w' => e = .returned (.int .i64 (sumZ l)) ∧ Below w.heap.size w w' := by
  have HA := Lib.hid ha
  have HN := Lib.hid hn
  have HL := Lib.hid (sumK_lim hz)
  have HF : Hid (sumZ l = sumK l n) := Lib.hid (by unfold sumZ; rw [hn])
  clear ha hz hn
  go_enter Try.func40, Try.ntmps40
  go_wp2_with fail
  go_loopw [3, 4] (fun s i wr => ∃ (k : Nat) (S : Int), k ≤ n ∧ i = .int .i64 k ∧ s = .int .i64 S ∧ S = sumK l k ∧ Below w.heap.size w wr) (fun _ i _ => n - (RowKit.intOf i).toNat)
  case atStart => exact ⟨0, 0, Nat.zero_le _, rfl, rfl, rfl, Below.refl _ _⟩
  case round =>
    obtain ⟨k, S, hk, rfl, rfl, hS, hbel⟩ := hrel
    have HS := Lib.hid hS
    have HB := Lib.hid hbel
    clear hS hbel
    rcases Nat.lt_or_ge k n with hlt | hge
    · obtain ⟨z, hz⟩ := get_lt (L := l) (k := k) (by have := HN.out; omega)
      obtain ⟨b, off, rfl, hb, e0⟩ := cl_at (HA.out.on HB.out) hz
      have HZ := Lib.hid hz
      have i1 : (k : Int) < (n : Int) := by omega
      have i2 : (0 : Int) ≤ (k : Int) := by omega
      obtain ⟨S2, hS2⟩ : ∃ S2, sumK l (k + 1) = S2 := ⟨_, rfl⟩
      have hl1 := HL.out (k + 1) (by have := HN.out; omega)
      have he := sumK_succ hz
      rw [hS2, ← HS.out] at he
      rw [hS2] at hl1
      have hM : MM = 1099511627776 := rfl
      have wS : IntKind.i64.wrap S2 = S2 := wrap_id (by rw [hM] at hl1; omega)
      have hs : S + z = S2 := he.symm
      have HS2 := Lib.hid hS2
      clear hz hS2 hl1 he hM
      go_wp2_with fail
      go_roundw
      case rel => exact ⟨k + 1, S2, by omega, by go_num, rfl, HS2.out.symm, HB.out⟩
      case measure => simp [RowKit.intOf]; omega
    · obtain rfl : k = n := by omega
      have HV : Hid (S = sumZ l) := Lib.hid (by rw [HS.out, HF.out])
      go_wp2_with fail
      go_ret
      exact ⟨ret_int HV.out, HB.out⟩

set_option maxHeartbeats 800000 in
theorem rr_Recipe (r : List Int) (A : Option Addr) (n c : Nat) (hn : n = r.length) (kinds : Int) (w : World) (ha : Cl eI w A r) (hm : n ≤ 9223372036854775807) :
    Calls Try.prog 17 #[.slice A n c, .int .i64 kinds] w fun e w' => e = .returned (.int .i64 (recE r kinds)) ∧ Below w.heap.size w w' := by
  have HA := Lib.hid ha
  have HL := Lib.hid (rr_list r A n c hn kinds 1000 w ha hm)
  obtain ⟨F, hF⟩ : ∃ F, lisE r kinds 1000 = F := ⟨_, rfl⟩
  rw [hF] at HL
  by_cases hz : F = 0
  rotate_left
  · obtain ⟨z1, z2⟩ := ne_zero hz
    have he : recE r kinds = F := by unfold recE; rw [hF, if_neg hz]
    rw [he]
    clear ha hn hF hz he
    go_enter Try.func17, Try.ntmps17
    go_wp2_with fail
    refine HL.out.mono ?_
    rintro e w1 ⟨rfl, hb⟩
    have B1 := Lib.hid hb
    clear hb
    go_wp2_with fail
    go_ret
    exact ⟨rfl, B1.out⟩
  subst hz
  obtain ⟨h1, h2, h3, h4⟩ := lisE_of hF
  have HS := Lib.hid fun (W : World) (h : Cl eI W A r) => rr_Sum r A n c hn W h (by omega) fun z hz => by have := h4 z hz; have hM : MM = 1099511627776 := rfl; omega
  obtain ⟨S, hS⟩ : ∃ S, sumZ r = S := ⟨_, rfl⟩
  rw [hS] at HS
  have he : recE r kinds = if S = 1000 then 0 else 18 := by unfold recE; rw [hF, if_pos rfl, hS]
  rw [he]
  clear ha hn hF h1 h2 h3 h4 hS he
  by_cases hs : S = 1000
  · subst hs
    rw [if_pos rfl]
    go_enter Try.func17, Try.ntmps17
    go_wp2_with fail
    refine HL.out.mono ?_
    rintro e w1 ⟨rfl, hb⟩
    have B1 := Lib.hid hb
    clear hb
    go_wp2_with fail
    refine (HS.out w1 (HA.out.on B1.out)).mono ?_
    rintro e w2 ⟨rfl, hb⟩
    have B2 := Lib.hid (bstep B1.out hb)
    clear hb
    go_wp2_with fail
    go_ret
    exact ⟨rfl, B2.out⟩
  · have s1 : (S == 1000) = false := beq_false_of_ne hs
    have s2 : (S != 1000) = true := by rw [bne, s1]; rfl
    rw [if_neg hs]
    clear hs
    go_enter Try.func17, Try.ntmps17
    go_wp2_with fail
    refine HL.out.mono ?_
    rintro e w1 ⟨rfl, hb⟩
    have B1 := Lib.hid hb
    clear hb
    go_wp2_with fail
    refine (HS.out w1 (HA.out.on B1.out)).mono ?_
    rintro e w2 ⟨rfl, hb⟩
    have B2 := Lib.hid (bstep B1.out hb)
    clear hb
    go_wp2_with fail
    go_ret
    exact ⟨rfl, B2.out⟩

theorem rr_Parts (m : List Int) (A : Option Addr) (n c : Nat) (hn : n = m.length) (kinds : Int) (w : World) (ha : Cl eI w A m) (hm : n ≤ 9223372036854775807) :
    Calls Try.prog 19 #[.slice A n c, .int .i64 kinds] w fun e w' => e = .returned (.int .i64 (parE m kinds)) ∧ Below w.heap.size w w' := by
  have HL := Lib.hid (rr_list m A n c hn kinds MM w ha hm)
  clear ha hn
  go_enter Try.func19, Try.ntmps19
  go_wp2_with fail
  refine HL.out.mono ?_
  rintro e w1 ⟨rfl, hb⟩
  have B1 := Lib.hid hb
  clear hb
  go_wp2_with fail
  go_ret
  exact ⟨rfl, B1.out⟩

set_option maxHeartbeats 800000 in
theorem rr_Total (m : List Int) (A : Option Addr) (n c : Nat) (hn : n = m.length) (w : World) (ha : Cl eI w A m) (hm : n ≤ 9223372036854775807) :
    Calls Try.prog 23 #[.slice A n c] w fun e w' => e = .returned (.tuple #[.int .i64 (totV m), .int .i64 (totE m)]) ∧ Below w.heap.size w w' := by
  have HA := Lib.hid ha
  have HP := Lib.hid (rr_Parts m A n c hn n w ha hm)
  have hlen : lenI m = (n : Int) := by unfold lenI; rw [hn]
  obtain ⟨F, hF⟩ : ∃ F, totE m = F := ⟨_, rfl⟩
  have hF2 : parE m (n : Int) = F := by rw [← hF]; unfold totE; rw [hlen]
  rw [hF2] at HP
  rw [hF]
  by_cases hz : F = 0
  rotate_left
  · obtain ⟨z1, z2⟩ := ne_zero hz
    have he : totV m = 0 := by unfold totV; rw [hF, if_neg hz]
    rw [he]
    clear ha hn hF hF2 hz he hlen
    go_enter Try.func23, Try.ntmps23
    go_wp2_with fail
    refine HP.out.mono ?_
    rintro e w1 ⟨rfl, hb⟩
    have B1 := Lib.hid hb
    clear hb
    go_wp2_with fail
    go_ret2
    exact ⟨rfl, B1.out⟩
  subst hz
  obtain ⟨h1, h2, h3, h4⟩ := lisE_of hF2
  have HS := Lib.hid fun (W : World) (h : Cl eI W A m) => rr_Sum m A n c hn W h (by omega) h4
  have he : totV m = sumZ m := by unfold totV; rw [hF, if_pos rfl]
  rw [he]
  obtain ⟨S, hS⟩ : ∃ S, sumZ m = S := ⟨_, rfl⟩
  rw [hS] at HS
  rw [hS]
  clear ha hn hF hF2 h1 h2 h3 h4 hS he hlen
  go_enter Try.func23, Try.ntmps23
  go_wp2_with fail
  refine HP.out.mono ?_
  rintro e w1 ⟨rfl, hb⟩
  have B1 := Lib.hid hb
  clear hb
  go_wp2_with fail
  refine (HS.out w1 (HA.out.on B1.out)).mono ?_
  rintro e w2 ⟨rfl, hb⟩
  have B2 := Lib.hid (bstep B1.out hb)
  clear hb
  go_wp2_with fail
  go_ret2
  exact ⟨rfl, B2.out⟩

set_option maxHeartbeats 800000 in
theorem rr_Same (L M : List Int) (A B : Option Addr) (c d n n' : Nat) (hn : n = L.length) (hn' : n' = M.length) (w : World) (ha : Cl eI w A L) (hb : Cl eI w B M) (hm : n ≤ 9223372036854775807) (hm2 : n' ≤ 9223372036854775807) :
    Calls Try.prog 24 #[.slice A n c, .slice B n' d] w fun e w' => e = .returned (.bool (decide (L = M))) ∧ Below w.heap.size w w' := by
  have HA := Lib.hid ha
  have HB := Lib.hid hb
  have HN := Lib.hid hn
  have HN' := Lib.hid hn'
  clear ha hb
  by_cases hl : n = n'
  · subst hl
    have HL : Hid (L.length = M.length) := hn.symm.trans hn'
    have hl' : ((n : Int) == (n : Int)) = true := by simp
    have hl2 : ((n : Int) != (n : Int)) = false := by simp
    clear hn hn'
    go_enter Try.func24, Try.ntmps24
    go_wp2_with fail
    go_loopw [5] (fun i wr => ∃ k : Nat, k ≤ n ∧ i = .int .i64 k ∧ (∀ (j : Nat) (s t : Int), j < k → L[j]? = some s → M[j]? = some t → s = t) ∧ Below w.heap.size w wr) (fun i _ => n - (RowKit.intOf i).toNat)
    case atStart => exact ⟨0, Nat.zero_le _, rfl, fun j s t h => absurd h (by omega), Below.refl _ _⟩
    case round =>
      obtain ⟨k, hk, rfl, hv, hbel⟩ := hrel
      have HV := Lib.hid hv
      have HW := Lib.hid hbel
      clear hv hbel
      rcases Nat.lt_or_ge k n with hlt | hge
      · obtain ⟨s, hs⟩ := get_lt (L := L) (k := k) (by have := HN.out; omega)
        obtain ⟨t, ht⟩ := get_lt (L := M) (k := k) (by have := HN'.out; omega)
        obtain ⟨b1, off1, hA0, hb1, h0⟩ := cl_at (HA.out.on HW.out) hs
        obtain ⟨b2, off2, hB0, hb2, h3⟩ := cl_at (HB.out.on HW.out) ht
        subst hA0
        subst hB0
        have HS := Lib.hid hs
        have HT := Lib.hid ht
        have i1 : (k : Int) < (n : Int) := by omega
        have i2 : (0 : Int) ≤ (k : Int) := by omega
        clear hs ht
        by_cases e : s = t
        · have hq : (s != t) = false := by simpa using e
          have hq2 : (s == t) = true := by simpa using e
          have E := Lib.hid e
          clear e
          go_wp2_with fail
          go_quiet (fail)
          go_wp2_with fail
          go_roundw
          case rel =>
            refine ⟨k + 1, by omega, by go_num, ?_, below_drewN HW.out _⟩
            intro j u v hj hu hv
            rcases Nat.lt_or_eq_of_le (Nat.le_of_lt_succ hj) with h | h
            · exact HV.out j u v h hu hv
            · subst h
              have e1 := HS.out
              have e2 := HT.out
              rw [hu] at e1; rw [hv] at e2; cases e1; cases e2; exact E.out
          case measure => simp [RowKit.intOf]; omega
        · have hq : (s != t) = true := by simpa using e
          have hq2 : (s == t) = false := by simpa using e
          have E : Hid (decide (L = M) = false) := decide_eq_false fun h => by
            subst h
            have e1 := HS.out
            rw [HT.out] at e1; exact e (Option.some.inj e1).symm
          clear e
          go_wp2_with fail
          go_quiet (fail)
          go_wp2_with fail
          go_ret
          exact ⟨ret_bool E.out.symm, below_drewN HW.out _⟩
      · obtain rfl : k = n := by omega
        have E : Hid (decide (L = M) = true) := decide_eq_true (by
          apply List.ext_getElem HL.out
          intro j h1 h2
          exact HV.out j _ _ (by have := HN.out; omega) (List.getElem?_eq_getElem h1) (List.getElem?_eq_getElem h2))
        go_wp2_with fail
        go_ret
        exact ⟨ret_bool E.out.symm, HW.out⟩
  · have hl' : ((n : Int) == (n' : Int)) = false := beq_false_of_ne (by omega)
    have hl2 : ((n : Int) != (n' : Int)) = true := by simp; omega
    have E : Hid (decide (L = M) = false) := decide_eq_false fun h => hl (by rw [hn, hn', h])
    clear hl hn hn'
    go_enter Try.func24, Try.ntmps24
    go_wp2_with fail
    go_ret
    exact ⟨ret_bool E.out.symm, Below.refl _ _⟩
end Go.Proofs.Ytgomokdklajlcaa.Fibre
