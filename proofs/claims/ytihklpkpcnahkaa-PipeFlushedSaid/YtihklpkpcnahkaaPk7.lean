/- Several texts in one: PipeA, RowA, RowB, RowC, RowD, RowF, PipeB. -/
import Derived.Test.YtihklpkpcnahkaaPk6
import Derived.Test.YtihklpkpcnahkaaRows
import Derived.WalkKit
import Derived.WalkLawsBesides
import Derived.WalkSpells
import Derived.Outline
import Derived.Laws.OwnMore
import Derived.OwnWalk
import Derived.Deep.QuietTactic
import Derived.BigQuiet
import Derived.Laws.StructEq
import Derived.Laws.AppendOwnNone
import Derived.Laws.EntriesVeiled
import Derived.Deep.AppendLies
import Derived.Deep.RegionLaw
import Derived.Deep.RegionHeld3
import Derived.Deep.Cut
import Derived.Maps.AppendAt
import Derived.Shelf.Abstract
import Derived.Lib.Hide
import Derived.Deep.CutRange
import Derived.StillTailTactics
import Derived.Defers
import Derived.Recover
import Derived.ArgAppend
/- Pipes: what leaves and what is left (pure). -/
namespace Go.Proofs.Ytihklpkpcnahkaa.Pipe
open Go.Proofs.Ytihklpkpcnahkaa.Vec (sumZ plusL lessL plus_at less_at plus_len less_len vec_ext plus_get less_get sumZ_less sumZ_plus sumZ_nonneg le_sum sumZ_cons sumZ_nil sumZ_append zero_of_sum sumZ_zeros zero_plus plus_zero plus_assoc plus_comm less_plus parts_sum parts_part)
open Go.Proofs.Ytihklpkpcnahkaa.Share (partsL partsL_len)
open Go.Proofs.Ytihklpkpcnahkaa.Fibre (MM)
set_option linter.unusedVariables false

/-- The sum of all plugs. -/
def tot : List (List Int) → Int
  | [] => 0
  | l :: P => sumZ l + tot P
/-- The sums of all plugs for each kind. -/
def cont (kinds : Nat) : List (List Int) → List Int
  | [] => List.replicate kinds 0
  | l :: P => plusL l (cont kinds P)
/-- What leaves, and the plugs that are left. -/
def outP (kinds : Nat) : Int → List (List Int) → List Int
  | _, [] => List.replicate kinds 0
  | s, l :: P => if sumZ l ≤ s then plusL l (outP kinds (s - sumZ l) P) else if 0 < s then partsL s l else List.replicate kinds 0
def rmnP : Int → List (List Int) → List (List Int)
  | _, [] => []
  | s, l :: P => if sumZ l ≤ s then rmnP (s - sumZ l) P else if 0 < s then lessL l (partsL s l) :: P else l :: P
/-- A plug without an error. -/
structure Pg (kinds : Nat) (l : List Int) : Prop where
  len : l.length = kinds
  all : ∀ z ∈ l, 0 ≤ z ∧ z ≤ MM
  pos : 0 < sumZ l
def Pgs (kinds : Nat) (P : List (List Int)) : Prop := ∀ l ∈ P, Pg kinds l
section
variable {kinds : Nat} {s : Int} {P X : List (List Int)} {l : List Int}
theorem Pgs.tail (h : Pgs kinds (l :: P)) : Pgs kinds P := fun x hx => h x (List.mem_cons_of_mem _ hx)
theorem Pgs.head (h : Pgs kinds (l :: P)) : Pg kinds l := h l (List.mem_cons_self ..)
theorem Pgs.cons (h : Pg kinds l) (k : Pgs kinds P) : Pgs kinds (l :: P) := fun x hx => by
  rcases List.mem_cons.mp hx with rfl | hx
  · exact h
  · exact k x hx
theorem Pgs.append (h : Pgs kinds P) (k : Pgs kinds X) : Pgs kinds (P ++ X) := fun x hx => by
  rcases List.mem_append.mp hx with hx | hx
  · exact h x hx
  · exact k x hx
theorem tot_append : ∀ P X : List (List Int), tot (P ++ X) = tot P + tot X
  | [], X => by rw [List.nil_append, tot, Int.zero_add]
  | l :: P, X => by rw [List.cons_append, tot, tot, tot_append P X, Int.add_assoc]
theorem tot_nonneg : ∀ {P : List (List Int)}, Pgs kinds P → 0 ≤ tot P
  | [], _ => Int.le_refl _
  | l :: P, h => by
    have h1 := h.head.pos
    have h2 := tot_nonneg h.tail
    rw [tot]; omega
/-- Pipes of nothing have no plugs. -/
theorem tot_zero : ∀ {P : List (List Int)}, Pgs kinds P → tot P = 0 → P = []
  | [], _, _ => rfl
  | l :: P, h, e => by
    have h1 := h.head.pos
    have h2 := tot_nonneg h.tail
    rw [tot] at e; omega
theorem cont_len : ∀ {P : List (List Int)}, Pgs kinds P → (cont kinds P).length = kinds
  | [], _ => List.length_replicate
  | l :: P, h => by rw [cont, plus_len (by rw [cont_len h.tail, h.head.len])]; exact h.head.len
theorem cont_sum : ∀ {P : List (List Int)}, Pgs kinds P → sumZ (cont kinds P) = tot P
  | [], _ => sumZ_zeros _
  | l :: P, h => by rw [cont, sumZ_plus (by rw [cont_len h.tail, h.head.len]), cont_sum h.tail, tot]
theorem cont_append : ∀ {P X : List (List Int)}, Pgs kinds P → Pgs kinds X → cont kinds (P ++ X) = plusL (cont kinds P) (cont kinds X)
  | [], X, _, h => by rw [List.nil_append, cont, zero_plus (cont_len h)]
  | l :: P, X, h, k => by
    rw [List.cons_append, cont, cont, cont_append h.tail k, plus_assoc (by rw [cont_len h.tail, h.head.len]) (by rw [cont_len k, h.head.len])]
/-- Parts of a plug that leave in part. -/
theorem Pg.ok (h : Pg kinds l) (h8 : kinds ≤ 8) (s0 : 0 ≤ s) (hs : s < sumZ l) : Share.Ok s l := by
  have hM : MM = 1099511627776 := rfl
  have hX : Share.mx = 1125899906842624 := rfl
  have hk : 1 ≤ l.length := by
    rcases Nat.eq_zero_or_pos l.length with h0 | h0
    · have := h.pos
      have e : l = [] := List.eq_nil_of_length_eq_zero h0
      rw [e, sumZ_nil] at this
      omega
    · exact h0
  have h1 := (Vec.sumK_lim h.all l.length (Nat.le_refl _)).2
  have hl := h.len
  have h2 : (l.length : Int) * MM ≤ 8 * MM := Int.mul_le_mul_of_nonneg_right (by omega) (by decide)
  have h3 : sumZ l ≤ 8 * MM := Int.le_trans h1 h2
  exact ⟨s0, by omega, hk, by omega, fun z hz => by have := h.all z hz; omega, by unfold Vec.sumZ at h3; omega, fun hz => by unfold Vec.sumZ at hs; omega⟩
theorem Pg.rest (h : Pg kinds l) (h8 : kinds ≤ 8) (s0 : 0 < s) (hs : s < sumZ l) : Pg kinds (lessL l (partsL s l)) ∧ sumZ (lessL l (partsL s l)) = sumZ l - s := by
  have ok := h.ok h8 (Int.le_of_lt s0) hs
  have hp := partsL_len s l
  have he : sumZ (lessL l (partsL s l)) = sumZ l - s := by rw [sumZ_less hp, parts_sum ok]
  refine ⟨⟨by rw [less_len hp]; exact h.len, fun z hz => ?_, by omega⟩, he⟩
  obtain ⟨k, hk⟩ := List.mem_iff_getElem?.mp hz
  obtain ⟨x, y, hx, hy, rfl⟩ := less_get hp hk
  have h1 := parts_part ok (Int.le_of_lt hs) hy hx
  have h2 := h.all x (List.mem_of_getElem? hx)
  omega
/-- What is left has no error. -/
theorem rmn_ok (h8 : kinds ≤ 8) : ∀ {P : List (List Int)} {s : Int}, 0 ≤ s → Pgs kinds P → Pgs kinds (rmnP s P)
  | [], s, _, _ => fun x hx => by simp [rmnP] at hx
  | l :: P, s, s0, h => by
    rw [rmnP]
    split
    · exact rmn_ok h8 (by omega) h.tail
    · split
      · exact Pgs.cons (h.head.rest h8 (by omega) (by omega)).1 h.tail
      · exact h
theorem rmn_tot (h8 : kinds ≤ 8) : ∀ {P : List (List Int)} {s : Int}, 0 ≤ s → s ≤ tot P → Pgs kinds P → tot (rmnP s P) = tot P - s
  | [], s, s0, hs, _ => by rw [tot] at hs; rw [rmnP, tot]; omega
  | l :: P, s, s0, hs, h => by
    rw [tot] at hs
    rw [rmnP]
    split
    · rw [rmn_tot h8 (by omega) (by omega) h.tail, tot]; omega
    · split
      · rw [tot, (h.head.rest h8 (by omega) (by omega)).2, tot]; omega
      · omega
theorem out_len (h8 : kinds ≤ 8) : ∀ {P : List (List Int)} {s : Int}, Pgs kinds P → (outP kinds s P).length = kinds
  | [], s, _ => List.length_replicate
  | l :: P, s, h => by
    rw [outP]
    split
    · rw [plus_len (by rw [out_len h8 h.tail, h.head.len])]; exact h.head.len
    · split
      · rw [partsL_len]; exact h.head.len
      · exact List.length_replicate
theorem out_sum (h8 : kinds ≤ 8) : ∀ {P : List (List Int)} {s : Int}, 0 ≤ s → s ≤ tot P → Pgs kinds P → sumZ (outP kinds s P) = s
  | [], s, s0, hs, _ => by rw [tot] at hs; rw [outP, sumZ_zeros]; omega
  | l :: P, s, s0, hs, h => by
    rw [tot] at hs
    rw [outP]
    split
    · rw [sumZ_plus (by rw [out_len h8 h.tail, h.head.len]), out_sum h8 (by omega) (by omega) h.tail]; omega
    · split
      · exact parts_sum (h.head.ok h8 (by omega) (by omega))
      · rw [sumZ_zeros]; omega
/-- What is left and what left are together what was there. -/
theorem out_cont (h8 : kinds ≤ 8) : ∀ {P : List (List Int)} {s : Int}, 0 ≤ s → Pgs kinds P → plusL (cont kinds (rmnP s P)) (outP kinds s P) = cont kinds P
  | [], s, s0, _ => by rw [rmnP, outP, cont, zero_plus List.length_replicate]
  | l :: P, s, s0, h => by
    have hcl := cont_len h.tail
    rw [rmnP, outP]
    split
    · have ih := out_cont h8 (s := s - sumZ l) (by omega) h.tail
      have hol := out_len (s := s - sumZ l) h8 h.tail
      have hrl := cont_len (rmn_ok h8 (s := s - sumZ l) (by omega) h.tail)
      have hl := h.head.len
      rw [plus_comm l, ← plus_assoc (by omega) (by omega), ih, plus_comm]
      rfl
    · split
      · have hp := partsL_len s l
        have hl := h.head.len
        have hll := less_len hp
        rw [cont, cont, plus_assoc (by omega) (by omega), plus_comm (cont kinds P), ← plus_assoc (by omega) (by omega), less_plus hp]
      · exact plus_zero (cont_len h)
/-- What is behind does not matter, as long as there is enough. -/
theorem out_front : ∀ {P : List (List Int)} {s : Int}, 0 ≤ s → s ≤ tot P → Pgs kinds X → outP kinds s (P ++ X) = outP kinds s P
  | [], s, s0, hs, hX => by
    rw [tot] at hs
    obtain rfl : s = 0 := by omega
    rw [List.nil_append]
    match X, hX with
    | [], _ => rfl
    | x :: X, hX =>
      have := hX.head.pos
      show (if sumZ x ≤ 0 then _ else if (0 : Int) < 0 then _ else List.replicate kinds 0) = List.replicate kinds 0
      rw [if_neg (by omega), if_neg (by omega)]
  | l :: P, s, s0, hs, hX => by
    rw [tot] at hs
    rw [List.cons_append, outP, outP]
    split
    · rw [out_front (by omega) (by omega) hX]
    · rfl
theorem rmn_front : ∀ {P : List (List Int)} {s : Int}, 0 ≤ s → s ≤ tot P → Pgs kinds X → rmnP s (P ++ X) = rmnP s P ++ X
  | [], s, s0, hs, hX => by
    rw [tot] at hs
    obtain rfl : s = 0 := by omega
    rw [List.nil_append, rmnP, List.nil_append]
    match X, hX with
    | [], _ => rfl
    | x :: X, hX =>
      have := hX.head.pos
      rw [rmnP, if_neg (by omega), if_neg (by omega)]
  | l :: P, s, s0, hs, hX => by
    rw [tot] at hs
    rw [List.cons_append, rmnP, rmnP]
    split
    · rw [rmn_front (by omega) (by omega) hX]
    · split
      · rfl
      · rfl
theorem rmn_len : ∀ (P : List (List Int)) (s : Int), (rmnP s P).length ≤ P.length
  | [], s => Nat.le_refl _
  | l :: P, s => by
    rw [rmnP]
    split
    · have := rmn_len P (s - sumZ l)
      rw [List.length_cons]; omega
    · split
      · rw [List.length_cons, List.length_cons]; omega
      · exact Nat.le_refl _
/-- Whole plugs. -/
theorem whole_front (h8 : kinds ≤ 8) : ∀ {P X : List (List Int)}, Pgs kinds P → Pgs kinds X → rmnP (tot P) (P ++ X) = X ∧ outP kinds (tot P) (P ++ X) = cont kinds P
  | [], X, _, hX => by
    rw [List.nil_append, tot, cont]
    match X, hX with
    | [], _ => exact ⟨rfl, rfl⟩
    | x :: X, hX =>
      have := hX.head.pos
      rw [rmnP, outP, if_neg (by omega), if_neg (by omega), if_neg (by omega), if_neg (by omega)]; exact ⟨rfl, rfl⟩
  | l :: P, X, h, hX => by
    have h1 := tot_nonneg h.tail
    obtain ⟨e1, e2⟩ := whole_front h8 h.tail hX
    rw [List.cons_append, rmnP, outP, tot, cont, if_pos (by omega), if_pos (by omega), show sumZ l + tot P - sumZ l = tot P by omega, e1, e2]
    exact ⟨rfl, rfl⟩
/-- What is left is the end of what was there, its first plug perhaps lighter. -/
theorem rmn_tail (h8 : kinds ≤ 8) : ∀ {P : List (List Int)} {s : Int}, 0 ≤ s → Pgs kinds P → rmnP s P = [] ∨ ∃ F l l' R, P = F ++ l :: R ∧ rmnP s P = l' :: R ∧ l'.length = l.length ∧ ∀ (k : Nat) (x y : Int), l'[k]? = some x → l[k]? = some y → x ≤ y
  | [], s, _, _ => Or.inl rfl
  | l :: P, s, s0, h => by
    rw [rmnP]
    split
    · rcases rmn_tail h8 (s := s - sumZ l) (by omega) h.tail with h1 | ⟨F, a, a', R, e1, e2, e3, e4⟩
      · exact Or.inl h1
      · exact Or.inr ⟨l :: F, a, a', R, by rw [e1]; rfl, e2, e3, e4⟩
    · split
      · have hp := partsL_len s l
        refine Or.inr ⟨[], l, _, P, rfl, rfl, less_len hp, fun k x y hx hy => ?_⟩
        obtain ⟨u, v, hu, hv, rfl⟩ := less_get hp hx
        rw [hy] at hu
        cases hu
        have := parts_part (h.head.ok h8 (by omega) (by omega)) (by omega) hv hy
        omega
      · exact Or.inr ⟨[], l, l, P, rfl, rfl, rfl, fun k x y hx hy => by rw [hx] at hy; cases hy; exact Int.le_refl _⟩
end
end Go.Proofs.Ytihklpkpcnahkaa.Pipe
/- Rows of elements in memory, whatever their cells; what a step leaves as it was. -/
namespace Go.Proofs.Ytihklpkpcnahkaa.Rw
open Go.ChangeShapes Go.WideShapes Go.RowKit
set_option linter.unusedVariables false
set_option maxRecDepth 100000

theorem glt {β : Type} {L : List β} {k : Nat} {x : β} (h : L[k]? = some x) : k < L.length := by
  rw [List.getElem?_eq_some_iff] at h; exact h.1
/-- Of what was there all but the blocks in S is as it was. -/
structure Off (S : Nat → Prop) (w w' : World) : Prop where
  os : w'.os = w.os
  tape : w'.tape = w.tape
  output : w'.output = w.output
  size : w.heap.size ≤ w'.heap.size
  block : ∀ k, k < w.heap.size → ¬ S k → w'.heap[k]? = w.heap[k]?
theorem Off.refl (S : Nat → Prop) (w : World) : Off S w w := ⟨rfl, rfl, rfl, Nat.le_refl _, fun _ _ _ => rfl⟩
theorem Off.trans {S S' : Nat → Prop} {a b c : World} (h : Off S a b) (k : Off S' b c) (hs : ∀ x, S' x → S x ∨ a.heap.size ≤ x) : Off S a c :=
  ⟨k.os.trans h.os, k.tape.trans h.tape, k.output.trans h.output, Nat.le_trans h.size k.size, fun i hi hn =>
    (k.block i (Nat.lt_of_lt_of_le hi h.size) fun e => by rcases hs i e with h1 | h1; exact hn h1; omega).trans (h.block i hi hn)⟩
theorem Off.below {S : Nat → Prop} {a b : World} {B : Nat} (h : Off S a b) (hB : B ≤ a.heap.size) (hs : ∀ x, S x → B ≤ x) : Below B a b :=
  ⟨h.os, h.tape, h.output, h.size, fun i hi => h.block i (by omega) fun e => by have := hs i e; omega⟩
theorem Off.of_below {S : Nat → Prop} {a b : World} (h : Below a.heap.size a b) : Off S a b := ⟨h.os, h.tape, h.output, h.size, fun i hi _ => h.block i hi⟩
theorem Off.then_below {S : Nat → Prop} {a b c : World} (h : Off S a b) (k : Below b.heap.size b c) : Off S a c := h.trans (Off.of_below (S := fun _ => False) k) fun x e => e.elim
theorem Off.alloc {S : Nat → Prop} {a b : World} (h : Off S a b) (o : Obj) : Off S a (b.alloc o) := h.then_below ((Below.refl _ _).alloc (Nat.le_refl _) _)
theorem Off.drew {S : Nat → Prop} {a b : World} (h : Off S a b) : Off S a b.drew := ⟨h.os, h.tape, h.output, h.size, h.block⟩
theorem Off.set {S : Nat → Prop} {a b : World} (h : Off S a b) {p : Addr} (hp : S p.block ∨ a.heap.size ≤ p.block) (u : Value) : Off S a (b.setCell p u) :=
  h.trans (S' := fun k => k = p.block) ⟨rfl, rfl, rfl, by simp [World.setCell], fun i hi hn => Below.heap_setCell _ _ _ _ hn⟩ fun x e => e ▸ hp
theorem Off.grown {S : Nat → Prop} {a b c : World} {row : Option Nat} (h : Off S a b) (hg : b.grownBy c row) (hr : ∀ k, row = some k → S k ∨ a.heap.size ≤ k) : Off S a c :=
  h.trans (S' := fun k => row = some k) ⟨hg.os, hg.tape, hg.output, hg.size, fun i hi hn => hg.block i hi fun e => hn e.symm⟩ fun x e => hr x e
theorem Off.before {S : Nat → Prop} {a b c : World} (h : Below a.heap.size a b) (k : Off S b c) : Off S a c :=
  (Off.of_below h).trans k fun x e => Or.inl e
theorem Off.mono {S S' : Nat → Prop} {a b : World} (h : Off S a b) (hs : ∀ x, S x → S' x ∨ a.heap.size ≤ x) : Off S' a b :=
  ⟨h.os, h.tape, h.output, h.size, fun i hi hn => h.block i hi fun e => by rcases hs i e with h1 | h1; exact hn h1; omega⟩
theorem below_alloc (w : World) (o : Obj) : Below w.heap.size w (w.alloc o) := (Below.refl _ _).alloc (Nat.le_refl _) _
theorem bstep {a b c : World} (h : Below a.heap.size a b) (k : Below b.heap.size b c) : Below a.heap.size a c := h.trans (k.mono h.size)
theorem below_drewN {B : Nat} {a w : World} (h : Below B a w) (n : Nat) : Below B a (w.drewN n) := ⟨h.os, h.tape, h.output, h.size, h.block⟩
theorem below_drew {B : Nat} {a w : World} (h : Below B a w) : Below B a w.drew := ⟨h.os, h.tape, h.output, h.size, h.block⟩
theorem drew_below (w : World) : Below w.heap.size w w.drew := below_drew (Below.refl _ _)
theorem ret_bool {a b : Bool} (h : a = b) : Ending.returned (.bool a) = .returned (.bool b) := by rw [h]
theorem ret_int {k : IntKind} {a b : Int} (h : a = b) : Ending.returned (.int k a) = .returned (.int k b) := by rw [h]
theorem get_lt {α : Type} {L : List α} {k : Nat} (h : k < L.length) : ∃ s, L[k]? = some s := ⟨_, List.getElem?_eq_getElem h⟩
theorem take_snoc_of {α : Type} {l : List α} {k : Nat} {z : α} (h : l[k]? = some z) : l.take (k + 1) = l.take k ++ [z] := by
  rw [List.take_add_one, h]; rfl
theorem wrap_id {x : Int} (h : -9223372036854775808 ≤ x ∧ x ≤ 9223372036854775807) : IntKind.i64.wrap x = x := by rw [IntKind.wrap_i64]; omega
theorem frozen_of {W : World} {g : Nat} {cs : Array Value} {t : TypeId} (h : W.heap[g]? = some (.cells cs t (0, 0))) (i : Nat) : W.frozen? ⟨g, i, none⟩ = false := by simp [World.frozen?, h]

section
variable {α : Type} {cs : α → List Value} {s : Nat} {t : TypeId} {B : Nat} {w w' : World} {v : Value} {L : List α} {g n cap : Nat} {A : Option Addr}
/-- At the address lie the elements of L; cs: the cells of an element, s of them. -/
def Rd (cs : α → List Value) (s : Nat) (w : World) (A : Option Addr) (L : List α) : Prop :=
  ∀ (k : Nat) (z : α), L[k]? = some z → ∃ b off, A = some ⟨b, off, none⟩ ∧ b < w.heap.size ∧ ∀ j u, (cs z)[j]? = some u → w.cell? ⟨b, off + (k * s + j), none⟩ = some u
/-- A row of the call's own that holds L. -/
def Row (cs : α → List Value) (s : Nat) (t : TypeId) (B : Nat) (w : World) (v : Value) (L : List α) : Prop := w.ownsRow B t s v L.length (L.flatMap cs)
theorem Rd.nil (cs : α → List Value) (s : Nat) (w : World) (A : Option Addr) : Rd cs s w A [] := fun k z h => by simp at h
theorem Rd.keep (h : Rd cs s w A L) (hs : w.heap.size ≤ w'.heap.size) (hk : ∀ b off, A = some ⟨b, off, none⟩ → b < w.heap.size → w'.heap[b]? = w.heap[b]?) : Rd cs s w' A L := by
  intro k z hz
  obtain ⟨b, off, e, hlt, h0⟩ := h k z hz
  exact ⟨b, off, e, Nat.lt_of_lt_of_le hlt hs, fun j u hu => (World.cell?_of_block (a := ⟨b, off + (k * s + j), none⟩) (hk b off e hlt)).trans (h0 j u hu)⟩
theorem Rd.on (h : Rd cs s w A L) (hb : Below w.heap.size w w') : Rd cs s w' A L := h.keep hb.size fun b _ _ hlt => hb.block b hlt
theorem Rd.take (h : Rd cs s w A L) (n : Nat) : Rd cs s w A (L.take n) := by
  intro k z hk
  rw [List.getElem?_take] at hk
  split at hk
  · exact h k z hk
  · cases hk
theorem Rd.none_ (h : Rd cs s w none L) : L = [] := by
  cases L with
  | nil => rfl
  | cons z zs => obtain ⟨b, off, hA, _⟩ := h 0 z rfl; cases hA
theorem flat_len (hc : ∀ z, (cs z).length = s) (L : List α) : (L.flatMap cs).length = L.length * s := by
  induction L with
  | nil => simp
  | cons z L ih => rw [List.flatMap_cons, List.length_append, hc, ih, List.length_cons, Nat.succ_mul]; omega
theorem flat_at (hc : ∀ z, (cs z).length = s) {L : List α} {k : Nat} {z : α} (hk : L[k]? = some z) {j : Nat} {u : Value} (hu : (cs z)[j]? = some u) : (L.flatMap cs)[k * s + j]? = some u := by
  induction L generalizing k with
  | nil => simp at hk
  | cons y L ih =>
    rw [List.flatMap_cons]
    cases k with
    | zero =>
      simp at hk; subst hk
      rw [Nat.zero_mul, Nat.zero_add, List.getElem?_append_left (glt hu)]
      exact hu
    | succ k =>
      have := ih (k := k) (by simpa using hk)
      rw [List.getElem?_append_right (by rw [hc, Nat.succ_mul]; omega), hc, Nat.succ_mul, show k * s + s + j - s = k * s + j by omega]
      exact this
theorem Row.nil (cs : α → List Value) (s : Nat) (t : TypeId) (B : Nat) (w : World) : Row cs s t B w (.slice none 0 0) [] := World.ownsRow_nil _ _ _ _
theorem Row.lt (h : Row cs s t B w v L) : ∀ k, v.ownBlock = some k → B ≤ k ∧ k < w.heap.size := World.ownsRow.lt h
theorem Row.one (hc : ∀ z, (cs z).length = s) (h : Row cs s t B w v L) : ∃ A c, v = .slice A L.length c ∧ L.length ≤ c ∧ c ≤ maxLen ∧ Rd cs s w A L ∧ v.ownBlock = A.map (·.block) ∧ (A = none ∨ ∃ g, A = some ⟨g, 0, none⟩ ∧ B ≤ g ∧ g < w.heap.size) := by
  obtain ⟨h1, ⟨rfl, h2⟩ | ⟨g, cap, cur, rfl, h2, h3, h4, h5, h6, h7⟩⟩ := h
  · obtain rfl : L = [] := List.eq_nil_of_length_eq_zero h2
    exact ⟨none, 0, rfl, Nat.le_refl _, by unfold maxLen; omega, Rd.nil _ _ _ _, rfl, Or.inl rfl⟩
  · have hg := (Array.getElem?_eq_some_iff.mp h3).1
    refine ⟨some ⟨g, 0, none⟩, cap, rfl, h4, h5, fun k z hz => ⟨g, 0, rfl, hg, fun j u hu => ?_⟩, rfl, Or.inr ⟨g, rfl, h2, hg⟩⟩
    rw [cell_of_row w g _ cur _ (0, 0) h3, Nat.zero_add]
    have hu' := flat_at hc hz hu
    rw [← h7, List.getElem?_take] at hu'
    split at hu'
    · simpa using hu'
    · cases hu'
theorem Row.blk (h : Row cs s t B w v L) (h0 : 0 < L.length) : ∃ g cap, v = .slice (some ⟨g, 0, none⟩) L.length cap ∧ B ≤ g ∧ g < w.heap.size ∧ L.length ≤ cap ∧ cap ≤ maxLen := by
  obtain ⟨_, ⟨_, h1⟩ | ⟨g, cap, cur, h1, h2, h3, h4, h5, _⟩⟩ := h
  · omega
  · exact ⟨g, cap, h1, h2, (Array.getElem?_eq_some_iff.mp h3).1, h4, h5⟩
theorem Row.cell (hc : ∀ z, (cs z).length = s) (h : Row cs s t B w (.slice (some ⟨g, 0, none⟩) n cap) L) {k : Nat} {z : α} (hk : L[k]? = some z) {j : Nat} {u : Value} (hu : (cs z)[j]? = some u) : w.cell? ⟨g, k * s + j, none⟩ = some u := by
  obtain ⟨A, c, e, _, _, hy, _⟩ := h.one hc
  cases e
  obtain ⟨g', off, e, _, hcell⟩ := hy k z hk
  cases e
  have := hcell j u hu
  rw [Nat.zero_add] at this; exact this
theorem Row.keep (h : Row cs s t B w v L) (hk : ∀ k, v.ownBlock = some k → w'.heap[k]? = w.heap[k]?) : Row cs s t B w' v L := by
  obtain ⟨h1, h0 | ⟨g, cap, cur, rfl, h2, h3, h4⟩⟩ := h
  · exact ⟨h1, Or.inl h0⟩
  · exact ⟨h1, Or.inr ⟨g, cap, cur, rfl, h2, (hk g rfl).trans h3, h4⟩⟩
theorem Row.on (h : Row cs s t B w v L) (hb : Below w.heap.size w w') : Row cs s t B w' v L := h.keep fun k hk => hb.block k (h.lt k hk).2
theorem Row.less {B' : Nat} (h : Row cs s t B w v L) (hB : B' ≤ B) : Row cs s t B' w v L := by
  obtain ⟨h1, h0 | ⟨g, cap, cur, e, h2, h3⟩⟩ := h
  · exact ⟨h1, Or.inl h0⟩
  · exact ⟨h1, Or.inr ⟨g, cap, cur, e, Nat.le_trans hB h2, h3⟩⟩
theorem Row.warm (h : Row cs s t B w (.slice (some ⟨g, 0, none⟩) n cap) L) (hn : n = L.length) (j : Nat) : w.frozen? ⟨g, j, none⟩ = false := by
  subst hn
  exact World.ownsRow.frozenAt (h : w.ownsRow B t s (.slice (some ⟨g, 0, none⟩) L.length cap) L.length (L.flatMap cs)) j
/-- A cell that is set. -/
theorem own_set {xs : List Value} {m : Nat} (h : w.ownsRow B t s (.slice (some ⟨g, 0, none⟩) m cap) m xs) (j : Nat) (u : Value) : (w.setCell ⟨g, j, none⟩ u).ownsRow B t s (.slice (some ⟨g, 0, none⟩) m cap) m (xs.set j u) := (World.ownsRow.stored h j u).1
theorem Row.below (h : Row cs s t B w v L) (hg : w.grownBy w' v.ownBlock) (hB : B ≤ w.heap.size) : Below B w w' :=
  ⟨hg.os, hg.tape, hg.output, hg.size, fun i hi => hg.block i (Nat.lt_of_lt_of_le hi hB) fun e => by have := (h.lt i e.symm).1; omega⟩
theorem Row.empty (cs : α → List Value) (s : Nat) (t : TypeId) (w : World) (hB : B ≤ w.heap.size) : Row cs s t B (w.alloc (.cells #[] t)) (.slice (some ⟨w.heap.size, 0, none⟩) 0 0) [] :=
  World.ownsRow_lit (base := B) (e := t) (size := s) w #[] 0 hB (by unfold maxLen; omega) (by simp)
/-- The first n elements: 's[:n]'. -/
theorem Row.cut (hc : ∀ z, (cs z).length = s) (h : Row cs s t B w (.slice (some ⟨g, 0, none⟩) n cap) L) (hn : n = L.length) {m : Nat} (hm : m ≤ n) : Row cs s t B w (.slice (some ⟨g, 0, none⟩) m cap) (L.take m) := by
  subst hn
  obtain ⟨h1, ⟨h0, _⟩ | ⟨g', cap', cur, e, h2, h3, h4, h5, h6, h7⟩⟩ := h
  · cases h0
  · cases e
    have hfl : (L.take m).flatMap cs = (L.flatMap cs).take (m * s) := by
      conv => rhs; rw [← List.take_append_drop m L, List.flatMap_append]
      rw [List.take_left' (by rw [flat_len hc, List.length_take]; congr 1; omega)]
    have hlen : (L.take m).length = m := by rw [List.length_take]; omega
    refine ⟨by rw [flat_len hc], Or.inr ⟨g, cap, cur, by rw [hlen], h2, h3, by rw [hlen]; omega, h5, h6, ?_⟩⟩
    rw [hlen, hfl, ← h7, List.take_take]
    congr 1
    exact (Nat.min_eq_left (Nat.mul_le_mul_right _ hm)).symm
end
end Go.Proofs.Ytihklpkpcnahkaa.Rw
/- append to a row of the call's own: one law, whatever the elements. -/
namespace Go.Proofs.Ytihklpkpcnahkaa.Rw
open Go.ChangeShapes Go.WideShapes Go.RowKit Go.Lib
set_option linter.unusedVariables false
set_option maxRecDepth 100000

/-- What the dump says of a kind of elements: T the slice's type, t the element's. -/
structure Kd {α : Type} (cs : α → List Value) (s : Nat) (T t : TypeId) : Prop where
  und : Try.prog.underlying T = some (.slice t)
  info : ∃ i z by_, Try.prog.info? t = some i ∧ i.zero = some z ∧ i.size = s ∧ i.bytes = by_ ∧ z.cells.size = s ∧ by_ ≤ 1000
  len : ∀ z, (cs z).length = s
  pos : 0 < s
  one : ∀ z, ∀ u ∈ cs z, u.oneCell' = true

theorem run_append_none {P : Program} {w : World} (base : Nat) (t ty e : TypeId) (i : TypeInfo) (size c : Nat) (ht : P.underlying t = some (.slice e)) (hi : P.info? e = some i)
    (v : Value) (n : Nat) (xs : List Value) (hown : w.ownsRow base e size v n xs) :
    (Builtin.append_ #[t, t] ty #[v, .slice none 0 c]).run P w = .ok v w := by
  rcases hown.2 with ⟨rfl, rfl⟩ | ⟨g, cap, cur, rfl, _, _, hnc, _⟩
  · simp [Builtin.append_, run_underlying ht, sizeOf, typeInfo, hi, Builtin.lenOf, Builtin.firstCells]
  · simp [Builtin.append_, run_underlying ht, sizeOf, typeInfo, hi, Builtin.lenOf, Builtin.firstCells, hnc, storeCells]
theorem run_equalIn_fn_nil {P : Program} (W : World) (d : Nat) (t : TypeId) (x y z) (h : P.underlying t = some (.func x y z)) (fn : Fn) (a cap : Array Value) : (Op.equalIn (d + 1) t (.func fn a cap) .nilFunc).run P W = .ok false W := by
  simp [Op.equalIn, run_underlying h]
theorem run_eql_fn_nil {P : Program} (W : World) (t : TypeId) (x y z) (h : P.underlying t = some (.func x y z)) (fn : Fn) (a cap : Array Value) : (binOp .eql t (.func fn a cap) .nilFunc).run P W = .ok (.bool false) W := by
  simp only [binOp]
  simp [Op.equal, Op.maxDepth, run_equalIn_fn_nil W 9999 t x y z h]
theorem run_equalIn_nil_nil {P : Program} (W : World) (d : Nat) (t : TypeId) (x y z) (h : P.underlying t = some (.func x y z)) : (Op.equalIn (d + 1) t .nilFunc .nilFunc).run P W = .ok true W := by
  simp [Op.equalIn, run_underlying h]
theorem run_eql_fnil_fnil {P : Program} (W : World) (t : TypeId) (x y z) (h : P.underlying t = some (.func x y z)) : (binOp .eql t .nilFunc .nilFunc).run P W = .ok (.bool true) W := by
  simp only [binOp]
  simp [Op.equal, Op.maxDepth, run_equalIn_nil_nil W 9999 t x y z h]
section
variable {α : Type} {cs : α → List Value} {s : Nat} {T t : TypeId} {B : Nat} {w w' : World} {v : Value} {L M : List α} {A : Option Addr}
theorem rd_flat (hc : ∀ z, (cs z).length = s) (h0 : 0 < s) {ad : Addr} (h : Rd cs s w (some ad) M) : ∀ j u, (M.flatMap cs)[j]? = some u → w.cell? (ad.add j) = some u := by
  intro j u hj
  have hjl := glt hj
  rw [flat_len hc] at hjl
  have hk : j / s < M.length := by rw [Nat.div_lt_iff_lt_mul h0]; exact hjl
  obtain ⟨z, hz⟩ := get_lt hk
  obtain ⟨b, off, e, _, hcell⟩ := h _ _ hz
  cases e
  have hr : j % s < (cs z).length := by rw [hc]; exact Nat.mod_lt _ h0
  obtain ⟨u', hu'⟩ := get_lt hr
  have hf := flat_at hc hz hu'
  have hjj : j / s * s + j % s = j := by rw [Nat.mul_comm]; exact Nat.div_add_mod j s
  rw [hjj, hj] at hf
  obtain rfl := Option.some.inj hf
  have := hcell _ _ hu'
  rw [hjj] at this
  rw [Addr.add_lit]; exact this
theorem run_append_rows (K : Kd cs s T t) (hown : Row cs s t B w v L) (m c : Nat) (hm : m = M.length) (hz : Rd cs s w A M) (hlen : L.length + m ≤ 1000000) (hB : B ≤ w.heap.size) (ty : TypeId) :
    ∃ v' w', (Builtin.append_ #[T, T] ty #[v, .slice A m c]).run Try.prog w = .ok v' w' ∧ Row cs s t B w' v' (L ++ M) ∧ w.grownBy w' v.ownBlock ∧ (v'.ownBlock = v.ownBlock ∨ v'.ownBlock = some w.heap.size) := by
  obtain ⟨i, zv, by_, hi, hzv, hs, hby, hzc, hb1⟩ := K.info
  subst hm
  cases A with
  | none =>
    obtain rfl := hz.none_
    exact ⟨v, w, run_append_none B T ty t i s c K.und hi v L.length _ hown, by rw [List.append_nil]; exact hown, World.grownBy.refl _ _, Or.inl rfl⟩
  | some ad =>
    have hbb : (L.length + M.length) * by_ ≤ 140737488355328 := Nat.le_trans (Nat.mul_le_mul hlen hb1) (by decide)
    obtain ⟨v', w', hr, h1, h2, _, h3⟩ := run_append_own_at (P := Try.prog) w B T ty t i zv s by_ K.und hi hzv hs hby hzc K.pos v L.length _ hown ad M.length c (M.flatMap cs) (flat_len K.len M) (rd_flat K.len K.pos hz)
      (fun u hu => by obtain ⟨z, hz, hu⟩ := List.mem_flatMap.mp hu; exact K.one z u hu) (by unfold maxLen; omega) hbb hB
    exact ⟨v', w', hr, by unfold Row; rw [List.length_append, List.flatMap_append]; exact h1, h2, h3⟩
/-- 'append(s, x...)' in a plain region. -/
theorem append_rows (K : Kd cs s T t) {ops : Array Oper} {rest : List Oper} {o : Oper} {a : Act} {Q : Exit → Act → World → Prop} (hgd : o.guard = none) (x y : Operand)
    (ho : o.op = .call { callee := .builtin .append, args := #[x, y], argTypes := #[T, T] })
    (v : Value) (L : List α) (hs : a.eval x = v) (hown : Row cs s t B w v L) (A : Option Addr) (m c : Nat) (M : List α) (hm : m = M.length) (hx : a.eval y = .slice A m c) (hz : Rd cs s w A M) (hlen : L.length + m ≤ 1000000) (hB : B ≤ w.heap.size)
    (h : ∀ A' n' c' w', n' = L.length + m → Row cs s t B w' (.slice A' n' c') (L ++ M) → w.grownBy w' v.ownBlock → ((Value.slice A' n' c').ownBlock = v.ownBlock ∨ (Value.slice A' n' c').ownBlock = some w.heap.size) → wpList Try.prog ops Q rest (a.put o.dst (.slice A' n' c')) w') :
    wpList Try.prog ops Q (o :: rest) a w := by
  obtain ⟨v', w', hr, h1, h2, h3⟩ := run_append_rows K hown m c hm hz hlen hB o.type
  obtain ⟨A', c', rfl, -⟩ := h1.one K.len
  refine wpList_plain hgd fun K' hK => ?_
  unfold Oper.wp execOp
  simp only [ho, resolve, invoke, builtin, Sem.run_bind, Sem.run_pure, Result.andThen_ok, List.map_toArray, List.map_cons, List.map_nil, hs, hx, hr]
  exact hK _ _ (h A' _ c' w' (by rw [List.length_append, hm]) h1 h2 h3)
/-- 'append(s, x...)' at a step of a region that draws its order; w0: the world ahead of the region, in which the row lies. -/
theorem step_rows (K : Kd cs s T t) (w0 : World) {ops : Array Oper} {o : Oper} {a : Act} {K' : Act → World → Prop} {Q : Exit → Act → World → Prop} {E : Prop} (hgd : o.guard = none) (x y : Operand)
    (ho : o.op = .call { callee := .builtin .append, args := #[x, y], argTypes := #[T, T] })
    (v : Value) (L : List α) (hs : a.eval x = v) (hown : Row cs s t B w0 v L) (hbm : Below w0.heap.size w0 w) (A : Option Addr) (m c : Nat) (M : List α) (hm : m = M.length) (hx : a.eval y = .slice A m c) (hz : Rd cs s w A M) (hlen : L.length + m ≤ 1000000) (hB : B ≤ w0.heap.size)
    (h : ∀ A' n' c' w', n' = L.length + m → Row cs s t B w' (.slice A' n' c') (L ++ M) → (∀ b, b < w.heap.size → v.ownBlock ≠ some b → w'.heap[b]? = w.heap[b]?) → w0.grownBy w' v.ownBlock → ((Value.slice A' n' c').ownBlock = v.ownBlock ∨ ∃ b, (Value.slice A' n' c').ownBlock = some b ∧ w0.heap.size ≤ b) → K' (a.put o.dst (.slice A' n' c')) w') :
    if Region.wanted o (yielded ops a.tmps) = true then Oper.wp Try.prog o a w K' Q else E := by
  have hw : Region.wanted o (yielded ops a.tmps) = true := by simp [Region.wanted, hgd]
  rw [if_pos hw]
  obtain ⟨v', w', hr, h1, h2, h3⟩ := run_append_rows K (hown.on hbm) m c hm hz hlen (Nat.le_trans hB hbm.size) o.type
  obtain ⟨A', c', rfl, -⟩ := h1.one K.len
  unfold Oper.wp execOp
  simp only [ho, resolve, invoke, builtin, Sem.run_bind, Sem.run_pure, Result.andThen_ok, List.map_toArray, List.map_cons, List.map_nil, hs, hx, hr]
  refine h A' _ c' w' (by rw [List.length_append, hm]) h1 (fun b hb hv => h2.block b hb fun e => hv e.symm) ⟨h2.os.trans hbm.os, h2.tape.trans hbm.tape, h2.output.trans hbm.output, Nat.le_trans hbm.size h2.size, fun b hb hv => (h2.block b (Nat.lt_of_lt_of_le hb hbm.size) hv).trans (hbm.block b hb)⟩ (h3.imp_right fun h => ⟨_, h, hbm.size⟩)
/-- One element that lies in a block of its own. -/
theorem rd_one (hc : ∀ z, (cs z).length = s) {g : Nat} {z : α} {ty : TypeId} (h : w.heap[g]? = some (.cells (cs z).toArray ty (0, 0))) : Rd cs s w (some ⟨g, 0, none⟩) [z] := by
  intro k y hk
  match k, hk with
  | 0, hk =>
    simp at hk; subst hk
    refine ⟨g, 0, rfl, (Array.getElem?_eq_some_iff.mp h).1, fun j u hu => ?_⟩
    rw [cell_of_row _ _ _ _ _ _ h]
    simpa using hu
end
end Go.Proofs.Ytihklpkpcnahkaa.Rw
/- A struct in a block of its own, whatever its cells. -/
namespace Go.Proofs.Ytihklpkpcnahkaa.Rw
open Go.ChangeShapes Go.WideShapes Go.RowKit Go.Lib
set_option linter.unusedVariables false
set_option maxRecDepth 100000

/-- In block g lie the cells us, none frozen. -/
structure Cel (w : World) (g : Nat) (us : List Value) : Prop where
  lt : g < w.heap.size
  at_ : ∀ (j : Nat) (u : Value), us[j]? = some u → w.cell? ⟨g, j, none⟩ = some u
  warm : ∀ (j : Nat), w.frozen? ⟨g, j, none⟩ = false
section
variable {w w' : World} {g : Nat} {us : List Value} {u0 u1 u2 : Value}
theorem Cel.keep (h : Cel w g us) (hs : w.heap.size ≤ w'.heap.size) (hk : w'.heap[g]? = w.heap[g]?) : Cel w' g us :=
  ⟨Nat.lt_of_lt_of_le h.lt hs, fun j u hu => (World.cell?_of_block (a := ⟨g, j, none⟩) hk).trans (h.at_ j u hu), fun j => by
    have := h.warm j
    unfold World.frozen? at *
    simp only at *
    rw [hk]; exact this⟩
theorem Cel.on (h : Cel w g us) (hb : Below w.heap.size w w') : Cel w' g us := h.keep hb.size (hb.block g h.lt)
theorem Cel.below {B : Nat} (h : Cel w g us) (hb : Below B w w') (hg : g < B) : Cel w' g us := h.keep hb.size (hb.block g hg)
theorem Cel.drew (h : Cel w g us) : Cel w.drew g us := h.keep (Nat.le_refl _) rfl
theorem Cel.alloc (h : Cel w g us) (o : Obj) : Cel (w.alloc o) g us := h.on (below_alloc w o)
theorem Cel.off {S : Nat → Prop} (h : Cel w g us) (ho : Off S w w') (hS : ¬ S g) : Cel w' g us := h.keep ho.size (ho.block g h.lt hS)
theorem Cel.grown {row : Option Nat} (h : Cel w g us) (hg : w.grownBy w' row) (hr : row ≠ some g) : Cel w' g us := h.keep hg.size (hg.block g h.lt fun e => hr e.symm)
theorem Cel.far (h : Cel w g us) {p : Addr} (hp : p.block ≠ g) (u : Value) : Cel (w.setCell p u) g us :=
  h.keep (by simp [World.setCell]) (Below.heap_setCell w p u g fun e => hp e.symm)
theorem Cel.new (w : World) (us : List Value) (t : TypeId) : Cel (w.alloc (.cells us.toArray t)) w.heap.size us := by
  have hb := heap_alloc_new w (.cells us.toArray t)
  refine ⟨by simp, fun j u hu => ?_, fun j => frozen_of hb _⟩
  rw [cell_of_row _ _ _ _ _ _ hb]
  simpa using hu
theorem Cel.new_at (w : World) (us : List Value) (t : TypeId) {k : Nat} (hk : w.heap.size = k) : Cel (w.alloc (.cells us.toArray t)) k us := hk ▸ Cel.new w us t
theorem Cel.set (h : Cel w g us) (i : Nat) (x : Value) : Cel (w.setCell ⟨g, i, none⟩ x) g (us.set i x) := by
  refine ⟨by simp [World.setCell]; exact h.lt, fun j u hu => ?_, fun j => by simpa using h.warm j⟩
  by_cases hij : i = j
  · subst hij
    have hl : i < us.length := by
      have := glt hu
      rwa [List.length_set] at this
    rw [List.getElem?_set_self hl] at hu
    cases hu
    exact World.cell?_setCell_same w _ _ (h.at_ i _ (List.getElem?_eq_getElem hl))
  · rw [List.getElem?_set_ne hij] at hu
    rw [World.cell?_setCell_other w _ _ _ (fun e => hij (by cases e; rfl))]
    exact h.at_ j u hu
theorem Cel.two (h : Cel w g [u0, u1]) : w.cell? ⟨g, 0, none⟩ = some u0 ∧ w.cell? ⟨g, 1, none⟩ = some u1 := ⟨h.at_ 0 _ rfl, h.at_ 1 _ rfl⟩
theorem Cel.three (h : Cel w g [u0, u1, u2]) : w.cell? ⟨g, 0, none⟩ = some u0 ∧ w.cell? ⟨g, 1, none⟩ = some u1 ∧ w.cell? ⟨g, 2, none⟩ = some u2 := ⟨h.at_ 0 _ rfl, h.at_ 1 _ rfl, h.at_ 2 _ rfl⟩
theorem Cel.warm2 (h : Cel w g us) : w.frozen? ⟨g, 0, none⟩ = false ∧ w.frozen? ⟨g, 1, none⟩ = false := ⟨h.warm 0, h.warm 1⟩
theorem Cel.warm3 (h : Cel w g us) : w.frozen? ⟨g, 0, none⟩ = false ∧ w.frozen? ⟨g, 1, none⟩ = false ∧ w.frozen? ⟨g, 2, none⟩ = false := ⟨h.warm 0, h.warm 1, h.warm 2⟩
def put2 (w : World) (g : Nat) (x0 x1 : Value) : World := (w.setCell ⟨g, 0, none⟩ x0).setCell ⟨g, 1, none⟩ x1
def put3 (w : World) (g : Nat) (x0 x1 x2 : Value) : World := ((w.setCell ⟨g, 0, none⟩ x0).setCell ⟨g, 1, none⟩ x1).setCell ⟨g, 2, none⟩ x2
theorem Cel.put2 (h : Cel w g [u0, u1]) (x0 x1 : Value) : Cel ((w.setCell ⟨g, 0, none⟩ x0).setCell ⟨g, 1, none⟩ x1) g [x0, x1] := (h.set 0 x0).set 1 x1
theorem Cel.put3 (h : Cel w g [u0, u1, u2]) (x0 x1 x2 : Value) : Cel (((w.setCell ⟨g, 0, none⟩ x0).setCell ⟨g, 1, none⟩ x1).setCell ⟨g, 2, none⟩ x2) g [x0, x1, x2] := ((h.set 0 x0).set 1 x1).set 2 x2
theorem off_put3 (w : World) (g : Nat) (x0 x1 x2 : Value) : Off (fun k => k = g) w (((w.setCell ⟨g, 0, none⟩ x0).setCell ⟨g, 1, none⟩ x1).setCell ⟨g, 2, none⟩ x2) :=
  (((Off.refl (fun k => k = g) w).set (p := ⟨g, 0, none⟩) (Or.inl rfl) _).set (p := ⟨g, 1, none⟩) (Or.inl rfl) _).set (p := ⟨g, 2, none⟩) (Or.inl rfl) _
theorem off_put2 (w : World) (g : Nat) (x0 x1 : Value) : Off (fun k => k = g) w ((w.setCell ⟨g, 0, none⟩ x0).setCell ⟨g, 1, none⟩ x1) :=
  ((Off.refl (fun k => k = g) w).set (p := ⟨g, 0, none⟩) (Or.inl rfl) _).set (p := ⟨g, 1, none⟩) (Or.inl rfl) _
theorem below_put3 {B : Nat} (h : Below B w w') (hg : B ≤ g) (x0 x1 x2 : Value) : Below B w (((w'.setCell ⟨g, 0, none⟩ x0).setCell ⟨g, 1, none⟩ x1).setCell ⟨g, 2, none⟩ x2) :=
  ((h.setCell (p := ⟨g, 0, none⟩) hg _).setCell (p := ⟨g, 1, none⟩) hg _).setCell (p := ⟨g, 2, none⟩) hg _
theorem below_put2 {B : Nat} (h : Below B w w') (hg : B ≤ g) (x0 x1 : Value) : Below B w ((w'.setCell ⟨g, 0, none⟩ x0).setCell ⟨g, 1, none⟩ x1) :=
  (h.setCell (p := ⟨g, 0, none⟩) hg _).setCell (p := ⟨g, 1, none⟩) hg _
/-- An address in a block of one's own or an old one. -/
theorem Rd.off {α : Type} {cs : α → List Value} {s : Nat} {A : Option Addr} {L : List α} {S : Nat → Prop} (h : Rd cs s w A L) (ho : Off S w w') (hS : ∀ b off, A = some ⟨b, off, none⟩ → ¬ S b) : Rd cs s w' A L :=
  h.keep ho.size fun b off e hlt => ho.block b hlt (hS b off e)
end
end Go.Proofs.Ytihklpkpcnahkaa.Rw
/- append to a slice without room, whatever the elements. -/
namespace Go.Proofs.Ytihklpkpcnahkaa.Rw
open Go.ChangeShapes Go.WideShapes Go.RowKit Go.Lib
set_option linter.unusedVariables false
set_option maxRecDepth 100000

theorem none_below {B : Nat} {w w' : World} (hg : w.grownBy w' none) (hB : B ≤ w.heap.size) : Below B w w' :=
  ⟨hg.os, hg.tape, hg.output, hg.size, fun i hi => hg.block i (Nat.lt_of_lt_of_le hi hB) (by simp)⟩
theorem run_append_zero {P : Program} {w : World} (t ty e : TypeId) (i : TypeInfo) (A B : Option Addr) (n c d : Nat) (ht : P.underlying t = some (.slice e)) (hi : P.info? e = some i) (hn : n ≤ d) (h0 : A = none → n = 0 ∧ d = 0) :
    (Builtin.append_ #[t, t] ty #[.slice A n d, .slice B 0 c]).run P w = .ok (.slice A n d) w := by
  cases A with
  | none =>
    obtain ⟨rfl, rfl⟩ := h0 rfl
    cases B <;> simp [Builtin.append_, run_underlying ht, sizeOf, typeInfo, hi, Builtin.lenOf, Builtin.firstCells, loadCells, loadCellsFrom]
  | some ad =>
    cases B <;> simp [Builtin.append_, run_underlying ht, sizeOf, typeInfo, hi, Builtin.lenOf, Builtin.firstCells, hn, storeCells, loadCells, loadCellsFrom]
section
variable {α : Type} {cs : α → List Value} {s : Nat} {T t : TypeId} {w : World} {L M : List α}
/-- 'append(s[:len(s):len(s)], x...)' in a plain region. -/
theorem append_full (K : Kd cs s T t) {ops : Array Oper} {rest : List Oper} {o : Oper} {a : Act} {Q : Exit → Act → World → Prop} (hgd : o.guard = none) (x y : Operand)
    (ho : o.op = .call { callee := .builtin .append, args := #[x, y], argTypes := #[T, T] })
    (A : Option Addr) (n : Nat) (L : List α) (hs : a.eval x = .slice A n n) (hn : n = L.length) (hr : Rd cs s w A L) (B : Option Addr) (m c : Nat) (M : List α) (hx : a.eval y = .slice B m c) (hm : m = M.length) (hz : Rd cs s w B M) (hlen : n + m ≤ 1000000)
    (h : ∀ A' n' c' w', n' = n + m → n' ≤ c' → Rd cs s w' A' (L ++ M) → Below w.heap.size w w' → wpList Try.prog ops Q rest (a.put o.dst (.slice A' n' c')) w') :
    wpList Try.prog ops Q (o :: rest) a w := by
  obtain ⟨i, zv, by_, hi, hzv, hsz, hby, hzc, hb1⟩ := K.info
  have hA0 : A = none → n = 0 ∧ n = 0 := by
    rintro rfl
    have := hr.none_
    subst this
    exact ⟨hn, hn⟩
  subst hn
  by_cases hM : M = []
  · subst hM
    have hm0 : m = 0 := hm
    subst hm0
    refine wpList_plain hgd fun K' hK => ?_
    have hrun := run_append_zero (P := Try.prog) (w := w) T o.type t i A B L.length c L.length K.und hi (Nat.le_refl _) hA0
    unfold Oper.wp execOp
    simp only [ho, resolve, invoke, builtin, Sem.run_bind, Sem.run_pure, Result.andThen_ok, List.map_toArray, List.map_cons, List.map_nil, hs, hx, hrun]
    exact hK _ _ (h A _ L.length w rfl (Nat.le_refl _) (by rw [List.append_nil]; exact hr) (Below.refl _ _))
  · subst hm
    cases B with
    | none => exact absurd hz.none_ hM
    | some ad =>
      have hpos : 0 < M.length := List.length_pos_iff.mpr hM
      have hbb : (L.length + M.length) * by_ ≤ 140737488355328 := Nat.le_trans (Nat.mul_le_mul hlen hb1) (by decide)
      refine wpList_append_grows w hgd x y T ho t i zv s by_ K.und hi hzv hsz hby hzc K.pos A L.length L.length (L.flatMap cs) hs hA0 (flat_len K.len L) ?_ ad M.length c (M.flatMap cs) hx (flat_len K.len M) (rd_flat K.len K.pos hz) (fun u hu => by obtain ⟨z, hz, hu⟩ := List.mem_flatMap.mp hu; exact K.one z u hu) (by omega) (by unfold maxLen; omega) hbb ?_
      · rintro b rfl
        exact rd_flat K.len K.pos hr
      · intro v' w' hown hg
        have hrow : Row cs s t w.heap.size w' v' (L ++ M) := by unfold Row; rw [List.length_append, List.flatMap_append]; exact hown
        obtain ⟨A', c', rfl, hle, -, hrd, -, -⟩ := hrow.one K.len
        exact h A' _ c' w' (by rw [List.length_append]) hle hrd (none_below hg (Nat.le_refl _))
end
end Go.Proofs.Ytihklpkpcnahkaa.Rw
/- Rows whose cells hold no integers: integers elsewhere in memory are left alone by an append to such a row, wherever they lie. -/
namespace Go.Proofs.Ytihklpkpcnahkaa.Rw
open Go.ChangeShapes Go.WideShapes Go.RowKit Go.Lib
set_option linter.unusedVariables false
set_option maxRecDepth 100000

def noI (u : Value) : Prop := ∀ (k : IntKind) (z : Int), u ≠ .int k z
/-- The row's own block holds no integer. -/
def NoI (w : World) (v : Value) : Prop := ∀ g, v.ownBlock = some g → ∀ (j : Nat) (k : IntKind) (z : Int), w.cell? ⟨g, j, none⟩ ≠ some (.int k z)
theorem NoI.nil (w : World) : NoI w (.slice none 0 0) := fun g h => by cases h
theorem NoI.keep {w w' : World} {v : Value} (h : NoI w v) (hk : ∀ k, v.ownBlock = some k → w'.heap[k]? = w.heap[k]?) : NoI w' v := fun g hg j k z hc =>
  h g hg j k z ((World.cell?_of_block (a := ⟨g, j, none⟩) (hk g hg)).symm.trans hc)
theorem noI_block {w : World} {g : Nat} {cur : Array Value} {e : TypeId} (hg : w.heap[g]? = some (.cells cur e (0, 0))) (h : ∀ u ∈ cur.toList, noI u) (j : Nat) (k : IntKind) (z : Int) : w.cell? ⟨g, j, none⟩ ≠ some (.int k z) := by
  intro hc
  rw [cell_of_row _ _ _ _ _ _ hg] at hc
  exact h _ (Array.mem_toList_iff.mpr (Array.mem_of_getElem? hc)) k z rfl
theorem mem_zero {z : Array Value} {n : Nat} {u : Value} (h : u ∈ (Builtin.zeroCells z n).toList) : u ∈ z.toList := by
  unfold Builtin.zeroCells at h
  rw [Array.toList_map, List.mem_map] at h
  obtain ⟨i, hi, rfl⟩ := h
  have hi' : i < n * z.size := by simpa using hi
  have hpos : 0 < z.size := by
    rcases Nat.eq_zero_or_pos z.size with h0 | h0
    · rw [h0, Nat.mul_zero] at hi'; omega
    · exact h0
  have hlt : i % z.size < z.size := Nat.mod_lt _ hpos
  rw [getElem!_pos z (i % z.size) hlt]
  exact Array.mem_toList_iff.mpr (Array.getElem_mem hlt)
section
variable {α : Type} {cs : α → List Value} {s : Nat} {T t : TypeId} {B : Nat} {w : World} {v : Value} {L M : List α} {A : Option Addr}
theorem run_append_noI (K : Kd cs s T t) (hcs : ∀ z, ∀ u ∈ cs z, noI u) (hzr : ∀ i zv, Try.prog.info? t = some i → i.zero = some zv → ∀ u ∈ zv.cells.toList, noI u)
    (hown : Row cs s t B w v L) (hno : NoI w v) (m c : Nat) (hm : m = M.length) (hpos : 0 < m) (hz : Rd cs s w A M) (hlen : L.length + m ≤ 1000000) (hB : B ≤ w.heap.size) (ty : TypeId) :
    ∃ v' w', (Builtin.append_ #[T, T] ty #[v, .slice A m c]).run Try.prog w = .ok v' w' ∧ Row cs s t B w' v' (L ++ M) ∧ w.grownBy w' v.ownBlock ∧ (v'.ownBlock = v.ownBlock ∨ v'.ownBlock = some w.heap.size) ∧ NoI w' v' := by
  obtain ⟨v', w', hr, h1, h2, h3⟩ := run_append_rows K hown m c hm hz hlen hB ty
  refine ⟨v', w', hr, h1, h2, h3, ?_⟩
  obtain ⟨i, zv, by_, hi, hzv, hs, hby, hzc, hb1⟩ := K.info
  have hz0 := hzr i zv hi hzv
  subst hm
  cases A with
  | none =>
    obtain rfl := hz.none_
    simp at hpos
  | some ad =>
    have hl : (M.flatMap cs).length = M.length * i.size := by rw [hs]; exact flat_len K.len M
    have hnews := rd_flat K.len K.pos hz
    have hM : ∀ u ∈ M.flatMap cs, noI u := fun u hu => by obtain ⟨z, hz, hu⟩ := List.mem_flatMap.mp hu; exact hcs z u hu
    have hL : ∀ u ∈ L.flatMap cs, noI u := fun u hu => by obtain ⟨z, hz, hu⟩ := List.mem_flatMap.mp hu; exact hcs z u hu
    have hone : ∀ u ∈ M.flatMap cs, u.oneCell' = true := fun u hu => by obtain ⟨z, hz, hu⟩ := List.mem_flatMap.mp hu; exact K.one z u hu
    have hbb : (L.length + M.length) * i.bytes ≤ 140737488355328 := by rw [hby]; exact Nat.le_trans (Nat.mul_le_mul hlen hb1) (by decide)
    have hbm : M.length * i.bytes ≤ 281474976710656 := Nat.le_trans (Nat.mul_le_mul_right _ (Nat.le_add_left _ L.length)) (Nat.le_trans hbb (by decide))
    rcases hown.2 with ⟨rfl, hn⟩ | ⟨g, cap, cur, rfl, hbg, hg, hnc, hcm, hcsz, htake⟩
    · have hr2 := run_append_nil (P := Try.prog) w T ty t i zv K.und hi hzv ad M.length c _ hl hnews hpos (by omega) hbm
      rw [hr2] at hr
      cases hr
      intro g' hg'
      cases hg'
      refine noI_block (heap_alloc_new w.drew _) fun u hu => ?_
      rw [Array.toList_append, List.mem_append] at hu
      rcases hu with hu | hu
      · exact hM u (by simpa using hu)
      · exact hz0 u (mem_zero hu)
    · have hcur : ∀ u ∈ cur.toList, noI u := fun u hu k z e => by
        obtain ⟨j, hj⟩ := List.mem_iff_getElem?.mp hu
        subst e
        exact hno g rfl j k z (by rw [cell_of_row _ _ _ _ _ _ hg]; simpa using hj)
      by_cases hroom : L.length + M.length ≤ cap
      · have hfit : L.length * i.size + (M.flatMap cs).length ≤ cur.size := by rw [hl, hcsz, hs, ← Nat.add_mul]; exact Nat.mul_le_mul_right _ hroom
        have hr2 := run_append_room (P := Try.prog) w T ty t i K.und hi g L.length cap cur hg ad M.length c _ hl hnews hone hroom hfit
        rw [hr2] at hr
        cases hr
        intro g' hg'
        cases hg'
        refine noI_block (setRow_heap w g cur _ t _ hg) fun u hu => ?_
        rw [List.toList_toArray, List.mem_append, List.mem_append] at hu
        rcases hu with (hu | hu) | hu
        · exact hcur u (List.mem_of_mem_take hu)
        · exact hM u hu
        · exact hcur u (List.mem_of_mem_drop hu)
      · have holds : ∀ j u, (L.flatMap cs)[j]? = some u → w.cell? ((⟨g, 0, none⟩ : Addr).add j) = some u := World.ownsRow.cells hown (g := g) rfl
        have hr2 := run_append_grow (P := Try.prog) w T ty t i zv K.und hi hzv ⟨g, 0, none⟩ L.length cap _ (by rw [hs]; exact flat_len K.len L) holds ad M.length c _ hl hnews (by omega) (by omega) (growslice_fits (by omega) hbb)
        rw [hr2] at hr
        cases hr
        intro g' hg'
        cases hg'
        refine noI_block (heap_alloc_new w.drew _) fun u hu => ?_
        rw [Array.toList_append, List.mem_append, Array.toList_append, List.mem_append] at hu
        rcases hu with (hu | hu) | hu
        · exact hL u (by simpa using hu)
        · exact hM u (by simpa using hu)
        · exact hz0 u (mem_zero hu)
/-- 'append(s, x...)' in a plain region. -/
theorem append_rowsF (K : Kd cs s T t) (hcs : ∀ z, ∀ u ∈ cs z, noI u) (hzr : ∀ i zv, Try.prog.info? t = some i → i.zero = some zv → ∀ u ∈ zv.cells.toList, noI u)
    {ops : Array Oper} {rest : List Oper} {o : Oper} {a : Act} {Q : Exit → Act → World → Prop} (hgd : o.guard = none) (x y : Operand)
    (ho : o.op = .call { callee := .builtin .append, args := #[x, y], argTypes := #[T, T] })
    (v : Value) (L : List α) (hs : a.eval x = v) (hown : Row cs s t B w v L) (hno : NoI w v) (A : Option Addr) (m c : Nat) (M : List α) (hm : m = M.length) (hpos : 0 < m) (hx : a.eval y = .slice A m c) (hz : Rd cs s w A M) (hlen : L.length + m ≤ 1000000) (hB : B ≤ w.heap.size)
    (h : ∀ A' n' c' w', n' = L.length + m → Row cs s t B w' (.slice A' n' c') (L ++ M) → NoI w' (.slice A' n' c') → w.grownBy w' v.ownBlock → wpList Try.prog ops Q rest (a.put o.dst (.slice A' n' c')) w') :
    wpList Try.prog ops Q (o :: rest) a w := by
  obtain ⟨v', w', hr, h1, h2, h3, h4⟩ := run_append_noI K hcs hzr hown hno m c hm hpos hz hlen hB o.type
  obtain ⟨A', c', rfl, -⟩ := h1.one K.len
  refine wpList_plain hgd fun K' hK => ?_
  unfold Oper.wp execOp
  simp only [ho, resolve, invoke, builtin, Sem.run_bind, Sem.run_pure, Result.andThen_ok, List.map_toArray, List.map_cons, List.map_nil, hs, hx, hr]
  exact hK _ _ (h A' _ c' w' (by rw [List.length_append, hm]) h1 h4 h2)
/-- 'append(s, x...)' at a step of a region that draws its order. -/
theorem step_rowsF (K : Kd cs s T t) (hcs : ∀ z, ∀ u ∈ cs z, noI u) (hzr : ∀ i zv, Try.prog.info? t = some i → i.zero = some zv → ∀ u ∈ zv.cells.toList, noI u)
    {ops : Array Oper} {o : Oper} {a : Act} {K' : Act → World → Prop} {Q : Exit → Act → World → Prop} {E : Prop} (hgd : o.guard = none) (x y : Operand)
    (ho : o.op = .call { callee := .builtin .append, args := #[x, y], argTypes := #[T, T] })
    (v : Value) (L : List α) (hs : a.eval x = v) (hown : Row cs s t B w v L) (hno : NoI w v) (A : Option Addr) (m c : Nat) (M : List α) (hm : m = M.length) (hpos : 0 < m) (hx : a.eval y = .slice A m c) (hz : Rd cs s w A M) (hlen : L.length + m ≤ 1000000) (hB : B ≤ w.heap.size)
    (h : ∀ A' n' c' w', n' = L.length + m → Row cs s t B w' (.slice A' n' c') (L ++ M) → NoI w' (.slice A' n' c') → w.grownBy w' v.ownBlock → K' (a.put o.dst (.slice A' n' c')) w') :
    if Region.wanted o (yielded ops a.tmps) = true then Oper.wp Try.prog o a w K' Q else E := by
  have hw : Region.wanted o (yielded ops a.tmps) = true := by simp [Region.wanted, hgd]
  rw [if_pos hw]
  obtain ⟨v', w', hr, h1, h2, h3, h4⟩ := run_append_noI K hcs hzr hown hno m c hm hpos hz hlen hB o.type
  obtain ⟨A', c', rfl, -⟩ := h1.one K.len
  unfold Oper.wp execOp
  simp only [ho, resolve, invoke, builtin, Sem.run_bind, Sem.run_pure, Result.andThen_ok, List.map_toArray, List.map_cons, List.map_nil, hs, hx, hr]
  exact h A' _ c' w' (by rw [List.length_append, hm]) h1 h4 h2
end
end Go.Proofs.Ytihklpkpcnahkaa.Rw
/- Pipes in memory: lists of lists of integers. -/
namespace Go.Proofs.Ytihklpkpcnahkaa.Pipe
open Go.ChangeShapes Go.WideShapes Go.RowKit Go.Lib
open Go.Proofs.Ytihklpkpcnahkaa.Mem (Cl eI Own)
open Go.Proofs.Ytihklpkpcnahkaa.Rw (Rd Kd glt get_lt rd_one flat_len)
set_option linter.unusedVariables false
set_option maxRecDepth 100000

abbrev Sr := Option Addr × Nat × Nat
abbrev sr (s : Sr) : Value := .slice s.1 s.2.1 s.2.2
abbrev cP (r : Sr) : List Value := [sr r]
theorem cP_len (r : Sr) : (cP r).length = 1 := rfl
theorem info_part {T : TypeId} {zz : Option Value} {s b : Nat} (h : (Try.prog.info? T).map (fun i => (i.zero, i.size, i.bytes)) = some (zz, s, b)) : ∃ i, Try.prog.info? T = some i ∧ i.zero = zz ∧ i.size = s ∧ i.bytes = b := by
  cases hi : Try.prog.info? T with
  | none => rw [hi] at h; cases h
  | some i => rw [hi] at h; simp at h; exact ⟨i, rfl, h.1, h.2.1, h.2.2⟩
theorem info_s : (Try.prog.info? 29).map (fun i => (i.zero, i.size, i.bytes)) = some (some (.slice none 0 0), 1, 24) := by kernel_rfl
theorem kdP : Kd cP 1 22 29 := by
  obtain ⟨i, h1, h2, h3, h4⟩ := info_part info_s
  exact ⟨Try.underlying22, ⟨i, _, _, h1, h2, h3, rfl, rfl, by rw [h4]; decide⟩, cP_len, by decide, fun z u hu => by
    simp at hu
    subst hu; rfl⟩
theorem cP_noI (r : Sr) : ∀ u ∈ cP r, Rw.noI u := fun u hu => by
  simp at hu
  subst hu
  intro k z e; cases e
theorem zP_noI (i : TypeInfo) (zv : Value) (hi : Try.prog.info? 29 = some i) (hz : i.zero = some zv) : ∀ u ∈ zv.cells.toList, Rw.noI u := by
  obtain ⟨i', h1, h2, -, -⟩ := info_part info_s
  rw [hi] at h1
  cases h1
  rw [hz] at h2
  cases h2
  intro u hu
  have hu' : u ∈ [Value.slice none 0 0] := hu
  simp at hu'
  subst hu'
  intro k z e; cases e
/-- A slice of slices that holds the lists. -/
def Pls (w : World) (A : Option Addr) (P : List (List Int)) : Prop :=
  ∀ (k : Nat) (l : List Int), P[k]? = some l → ∃ b off A1 c1, A = some ⟨b, off, none⟩ ∧ b < w.heap.size ∧ w.cell? ⟨b, off + k, none⟩ = some (.slice A1 l.length c1) ∧ Cl eI w A1 l ∧ l.length ≤ 9223372036854775807
theorem Pls.nil (w : World) (A : Option Addr) : Pls w A [] := fun k l h => by simp at h
theorem Pls.on {w w' : World} {A : Option Addr} {P : List (List Int)} (h : Pls w A P) (hb : Below w.heap.size w w') : Pls w' A P := by
  intro k l hk
  obtain ⟨b, off, A1, c1, e, hlt, h0, i1, i2⟩ := h k l hk
  exact ⟨b, off, A1, c1, e, Nat.lt_of_lt_of_le hlt hb.size, (hb.cell (p := ⟨b, _, none⟩) hlt).trans h0, i1.on hb, i2⟩
/-- What lies in a row stands for the lists. -/
def InsP (w : World) (R : List Sr) (P : List (List Int)) : Prop :=
  R.length = P.length ∧ ∀ (k : Nat) (r : Sr) (l : List Int), R[k]? = some r → P[k]? = some l → r.2.1 = l.length ∧ Cl eI w r.1 l ∧ l.length ≤ 9223372036854775807
theorem InsP.nil (w : World) : InsP w [] [] := ⟨rfl, fun k r t h => by simp at h⟩
theorem InsP.on {w w' : World} {R : List Sr} {P : List (List Int)} (h : InsP w R P) (hb : Below w.heap.size w w') : InsP w' R P :=
  ⟨h.1, fun k r t hr ht => by obtain ⟨h1, h2, h3⟩ := h.2 k r t hr ht; exact ⟨h1, h2.on hb, h3⟩⟩
theorem InsP.snoc {w : World} {R : List Sr} {P : List (List Int)} {r : Sr} {l : List Int} (h : InsP w R P) (h1 : r.2.1 = l.length) (h2 : Cl eI w r.1 l) (h3 : l.length ≤ 9223372036854775807) : InsP w (R ++ [r]) (P ++ [l]) := by
  refine ⟨by rw [List.length_append, List.length_append, h.1]; rfl, fun k x u hx hu => ?_⟩
  rcases Nat.lt_or_ge k R.length with hk | hk
  · rw [List.getElem?_append_left hk] at hx
    rw [List.getElem?_append_left (by rw [← h.1]; exact hk)] at hu
    exact h.2 k x u hx hu
  · rw [List.getElem?_append_right hk] at hx
    rw [List.getElem?_append_right (by rw [← h.1]; exact hk)] at hu
    rw [← h.1] at hu
    obtain ⟨j, hj⟩ : ∃ j, k - R.length = j := ⟨_, rfl⟩
    rw [hj] at hx hu
    cases j with
    | zero => simp at hx hu; subst hx; subst hu; exact ⟨h1, h2, h3⟩
    | succ j => simp at hx
theorem InsP.pls {w : World} {A : Option Addr} {R : List Sr} {P : List (List Int)} (h : Rd cP 1 w A R) (hi : InsP w R P) : Pls w A P := by
  intro k l hl
  obtain ⟨r, hr⟩ := get_lt (L := R) (k := k) (by rw [hi.1]; exact glt hl)
  obtain ⟨b, off, e, hlt, hc⟩ := h k r hr
  obtain ⟨h1, h2, h3⟩ := hi.2 k r l hr hl
  have c0 := hc 0 _ rfl
  rw [Nat.mul_one, Nat.add_zero] at c0
  obtain ⟨A1, n1, c1⟩ := r
  simp only at h1 h2
  subst h1
  exact ⟨b, off, A1, c1, e, hlt, c0, h2, h3⟩
theorem cl_grown {w w' : World} {rv : Value} {A : Option Addr} {L : List Int} (h : Cl eI w A L) (hg : w.grownBy w' rv.ownBlock) (hn : Rw.NoI w rv) : Cl eI w' A L := by
  intro k z hz
  obtain ⟨b, off, hA, hlt, hc⟩ := h k z hz
  refine ⟨b, off, hA, Nat.lt_of_lt_of_le hlt hg.size, ?_⟩
  by_cases hb : rv.ownBlock = some b
  · exact absurd hc (hn b hb _ _ _)
  · exact (World.cell?_of_block (a := ⟨b, off + k, none⟩) (hg.block b hlt fun e => hb e.symm)).trans hc
theorem InsP.grown {w w' : World} {rv : Value} {R : List Sr} {P : List (List Int)} (h : InsP w R P) (hg : w.grownBy w' rv.ownBlock) (hn : Rw.NoI w rv) : InsP w' R P :=
  ⟨h.1, fun k r t hr ht => by obtain ⟨h1, h2, h3⟩ := h.2 k r t hr ht; exact ⟨h1, cl_grown h2 hg hn, h3⟩⟩
theorem cl_set {w : World} {A : Option Addr} {L : List Int} (h : Cl eI w A L) {p : Addr} {u : Value} (hx : w.cell? p = some u) (hu : ∀ z, u ≠ .int .i64 z) (x : Value) : Cl eI (w.setCell p x) A L := by
  intro k z hz
  obtain ⟨b, off, hA, hlt, hc⟩ := h k z hz
  refine ⟨b, off, hA, by simpa using hlt, ?_⟩
  rw [World.cell?_setCell_other w p ⟨b, off + k, none⟩ x (fun e => by rw [← e] at hc; rw [hx] at hc; exact hu _ (Option.some.inj hc))]
  exact hc
theorem InsP.set {w : World} {R : List Sr} {P : List (List Int)} (h : InsP w R P) {p : Addr} {u : Value} (hx : w.cell? p = some u) (hu : ∀ z, u ≠ .int .i64 z) (x : Value) : InsP (w.setCell p x) R P :=
  ⟨h.1, fun k r t hr ht => by obtain ⟨h1, h2, h3⟩ := h.2 k r t hr ht; exact ⟨h1, cl_set h2 hx hu x, h3⟩⟩
end Go.Proofs.Ytihklpkpcnahkaa.Pipe
