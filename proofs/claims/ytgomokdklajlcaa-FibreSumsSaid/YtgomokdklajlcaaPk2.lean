/- Several texts in one: ShareB, MemA, ZumA, ZumB, ZumF. -/
import Derived.Test.YtgomokdklajlcaaPk1
import Derived.Test.YtgomokdklajlcaaRows
import Derived.WalkKit
import Derived.WalkLawsBesides
import Derived.WalkSpells
import Derived.Outline
import Derived.Laws.OwnMore
import Derived.Laws.CopyOwn
import Derived.OwnWalk
import Derived.Deep.QuietTactic
import Derived.BigQuiet
import Derived.Laws.StructEq
import Derived.Laws.AppendOwnNone
import Derived.Laws.EntriesVeiled
import Derived.Deep.AppendLies
import Derived.Deep.RegionLaw
import Derived.Deep.RegionHeld3
import Derived.Deep.Cut
import Derived.Deep.CutRange
import Derived.Shelf.Abstract
import Derived.Lib.Hide
import Derived.StillTailTactics
import Derived.Laws.Externs
import Derived.WalkSmall
import Derived.Deep.RegionWith
/- Exact division of amounts among weights: errors, lists, the reference's loops. Pure. -/
namespace Go.Proofs.Ytgomokdklajlcaa.Share
set_option linter.unusedVariables false

/-! ### Lists of integers -/
abbrev mx : Int := 1125899906842624
def inW (z : Int) : Bool := decide (0 ≤ z) && decide (z ≤ mx)
theorem inW_iff {z : Int} : inW z = true ↔ 0 ≤ z ∧ z ≤ mx := by simp [inW]
theorem inW_no {z : Int} : inW z = false ↔ z < 0 ∨ mx < z := by
  cases h : inW z with
  | true => rw [inW_iff] at h; simp; omega
  | false =>
    have : ¬ (0 ≤ z ∧ z ≤ mx) := fun k => by rw [inW_iff.mpr k] at h; cases h
    simp; omega
def wf (ws : List Int) (i : Nat) : Nat := (ws.getD i 0).toNat
/-- The sum of the first k. -/
def sumK (ws : List Int) (k : Nat) : Int := (ws.take k).foldl (· + ·) 0
theorem sumK_zero (ws : List Int) : sumK ws 0 = 0 := rfl
theorem sumK_succ {ws : List Int} {k : Nat} {z : Int} (h : ws[k]? = some z) : sumK ws (k + 1) = sumK ws k + z := by
  unfold sumK
  rw [List.take_add_one, h]
  simp [List.foldl_append]
theorem wf_at {ws : List Int} {k : Nat} {z : Int} (h : ws[k]? = some z) (h0 : 0 ≤ z) : (wf ws k : Int) = z := by
  unfold wf
  rw [List.getD_eq_getElem?_getD, h]
  simp; omega
theorem sm_sumK {ws : List Int} (ha : ∀ z ∈ ws, 0 ≤ z) : ∀ {k : Nat}, k ≤ ws.length → (sm (wf ws) k : Int) = sumK ws k
  | 0, _ => rfl
  | k + 1, h => by
    have hk : ws[k]? = some ws[k] := List.getElem?_eq_getElem (by omega)
    rw [sm, sumK_succ hk, ← sm_sumK ha (by omega), ← wf_at hk (ha _ (List.getElem_mem _))]
    simp
/-- The errors of Split. -/
def errS (t : Int) (ws : List Int) : Nat :=
  if inW t = false then 1 else if ws.length = 0 then 10 else if 512 < ws.length then 8 else if ws.all inW = false then 1
  else if mx < sumK ws ws.length then 2 else if sumK ws ws.length = 0 ∧ t ≠ 0 then 16 else 0
def partsL (t : Int) (ws : List Int) : List Int := (List.range ws.length).map fun i => (part t.toNat (wf ws) ws.length i : Int)
def bndsL (t : Int) (ws : List Int) : List Int := (List.range ws.length).map fun i => (bnd t.toNat (wf ws) ws.length i : Int)
theorem partsL_len (t : Int) (ws : List Int) : (partsL t ws).length = ws.length := by simp [partsL]
theorem bndsL_len (t : Int) (ws : List Int) : (bndsL t ws).length = ws.length := by simp [bndsL]
theorem partsL_at (t : Int) {ws : List Int} {i : Nat} (h : i < ws.length) : (partsL t ws)[i]? = some (part t.toNat (wf ws) ws.length i : Int) := by
  unfold partsL
  rw [List.getElem?_map, List.getElem?_range h]; rfl
theorem bndsL_at (t : Int) {ws : List Int} {i : Nat} (h : i < ws.length) : (bndsL t ws)[i]? = some (bnd t.toNat (wf ws) ws.length i : Int) := by
  unfold bndsL
  rw [List.getElem?_map, List.getElem?_range h]; rfl
/-- What no error says. -/
structure Ok (t : Int) (ws : List Int) : Prop where
  t0 : 0 ≤ t
  t1 : t ≤ mx
  n0 : 0 < ws.length
  n1 : ws.length ≤ 512
  all : ∀ z ∈ ws, 0 ≤ z ∧ z ≤ mx
  sum : sumK ws ws.length ≤ mx
  nil : sumK ws ws.length = 0 → t = 0
theorem all_in {ws : List Int} : ws.all inW = true ↔ ∀ z ∈ ws, 0 ≤ z ∧ z ≤ mx := by
  simp only [List.all_eq_true, inW_iff]
theorem Ok.of {t : Int} {ws : List Int} (h : errS t ws = 0) : Ok t ws := by
  unfold errS at h
  cases h1 : inW t with
  | false => simp [h1] at h
  | true =>
    have ⟨a, b⟩ := inW_iff.mp h1
    by_cases h2 : ws.length = 0
    · simp [h1, h2] at h
    by_cases h3 : 512 < ws.length
    · simp [h1, h2, h3] at h
    cases h4 : ws.all inW with
    | false => simp [h1, h2, h3, h4] at h
    | true =>
      by_cases h5 : mx < sumK ws ws.length
      · simp [h1, h2, h3, h4, h5] at h
      by_cases h6 : sumK ws ws.length = 0 ∧ t ≠ 0
      · rw [if_neg (by rw [h1]; simp), if_neg h2, if_neg h3, if_neg (by rw [h4]; simp), if_neg h5, if_pos h6] at h; cases h
      exact ⟨a, b, by omega, by omega, all_in.mp h4, by omega, fun h7 => by
        rcases Int.lt_trichotomy t 0 with h8 | h8 | h8
        · exact absurd ⟨h7, by omega⟩ h6
        · exact h8
        · exact absurd ⟨h7, by omega⟩ h6⟩
theorem Ok.err {t : Int} {ws : List Int} (h : Ok t ws) : errS t ws = 0 := by
  unfold errS
  have h1 : inW t = true := inW_iff.mpr ⟨h.t0, h.t1⟩
  have h2 := h.n0
  have h3 := h.n1
  have h4 := all_in.mpr h.all
  have h5 := h.sum
  rw [if_neg (by rw [h1]; simp), if_neg (by omega), if_neg (by omega), if_neg (by rw [h4]; simp), if_neg (by omega), if_neg (fun k => k.2 (h.nil k.1))]
section
variable {t : Int} {ws : List Int}
theorem Ok.twI (h : Ok t ws) : (Share.tw (wf ws) ws.length : Int) = sumK ws ws.length := sm_sumK (fun z hz => (h.all z hz).1) (Nat.le_refl _)
theorem Ok.upto (h : Ok t ws) {k : Nat} (hk : k ≤ ws.length) : (sm (wf ws) k : Int) = sumK ws k := sm_sumK (fun z hz => (h.all z hz).1) hk
theorem Ok.upto_le (h : Ok t ws) {k : Nat} (hk : k ≤ ws.length) : 0 ≤ sumK ws k ∧ sumK ws k ≤ sumK ws ws.length := by
  rw [← h.upto hk, ← h.upto (Nat.le_refl _)]
  have := sm_mono (f := wf ws) hk
  omega
theorem Ok.w_le (h : Ok t ws) {i : Nat} (hi : i < ws.length) : wf ws i ≤ tw (wf ws) ws.length := sm_at (f := wf ws) hi
theorem Ok.zero (h : Ok t ws) (h0 : Share.tw (wf ws) ws.length = 0) : t = 0 := h.nil (by rw [← h.twI, h0]; rfl)
/-- The parts add up. -/
theorem Ok.parts (h : Ok t ws) : (sm (part t.toNat (wf ws) ws.length) ws.length : Int) = t := by
  have h0 := h.t0
  rcases Nat.eq_zero_or_pos (Share.tw (wf ws) ws.length) with hz | hz
  · have ht := h.zero hz
    rw [sm_congr (g := fun _ => 0) fun i _ => by unfold part; rw [if_pos hz], sm_const]
    omega
  · rw [part_sum hz]; omega
theorem Ok.part_le (h : Ok t ws) {i : Nat} (hi : i < ws.length) : (part t.toNat (wf ws) ws.length i : Int) ≤ t := by
  have h1 := h.parts
  have h2 := sm_at (f := part t.toNat (wf ws) ws.length) hi
  omega
theorem quo_le {T n : Nat} {w : Nat → Nat} {i : Nat} (hi : i < n) : quo T w n i ≤ T := by
  unfold quo
  have h1 : w i ≤ Share.tw w n := sm_at hi
  rcases Nat.eq_zero_or_pos (Share.tw w n) with hz | hz
  · rw [hz, Nat.div_zero]; exact Nat.zero_le _
  · exact Nat.div_le_of_le_mul (by rw [Nat.mul_comm]; exact Nat.mul_le_mul_right _ h1)
theorem bnd_le {T n : Nat} {w : Nat → Nat} {i : Nat} (hi : i < n) : bnd T w n i ≤ T := by
  unfold bnd
  split
  · exact Nat.zero_le _
  · have h1 : sm w (i + 1) ≤ Share.tw w n := sm_mono (by omega)
    exact Nat.div_le_of_le_mul (by rw [Nat.mul_comm]; exact Nat.mul_le_mul_right _ h1)
/-- The last bound is the total. -/
theorem Ok.last (h : Ok t ws) : (bnd t.toNat (wf ws) ws.length (ws.length - 1) : Int) = t := by
  have h0 := h.t0
  have hn := h.n0
  unfold bnd
  split
  · have := h.zero (by assumption); omega
  · rw [show ws.length - 1 + 1 = ws.length by omega]
    show ((t.toNat * Share.tw (wf ws) ws.length / Share.tw (wf ws) ws.length : Nat) : Int) = t
    rw [Nat.mul_div_cancel _ (by omega)]; omega
end

/-! ### The reference's division, bit by bit -/
theorem div_bit (b k : Nat) : b / 2 ^ k = 2 * (b / 2 ^ (k + 1)) + b / 2 ^ k % 2 := by
  have h : b / 2 ^ (k + 1) = b / 2 ^ k / 2 := by rw [Nat.pow_succ, Nat.div_div_eq_div_mul]
  rw [h]; omega
/-- Quotient and remainder behind the bits k and above. -/
def Dv (a b c k q r : Nat) : Prop := q * c + r = a * (b / 2 ^ k) ∧ r < c
theorem Dv.start {a b c k : Nat} (hb : b < 2 ^ k) (hc : 0 < c) : Dv a b c k 0 0 := by
  unfold Dv; rw [Nat.div_eq_of_lt hb]; simp [hc]
/-- Within a bit: what is still to be taken off. -/
def Dw (a b c k q r : Nat) : Prop := q * c + r = a * (b / 2 ^ k)
theorem Dv.one {a b c k q r : Nat} (h : Dv a b c (k + 1) q r) (hb : b / 2 ^ k % 2 = 1) : Dw a b c k (2 * q) (2 * r + a) := by
  unfold Dw
  rw [div_bit b k, hb, Nat.mul_add, Nat.mul_left_comm, ← h.1, Nat.mul_add, Nat.mul_one, Nat.mul_assoc]; omega
theorem Dv.zero {a b c k q r : Nat} (h : Dv a b c (k + 1) q r) (hb : b / 2 ^ k % 2 = 0) : Dw a b c k (2 * q) (2 * r) := by
  unfold Dw
  rw [div_bit b k, hb, Nat.add_zero, Nat.mul_left_comm, ← h.1, Nat.mul_add, Nat.mul_assoc]
theorem Dw.off {a b c k q r : Nat} (h : Dw a b c k q (r + c)) : Dw a b c k (q + 1) r := by
  unfold Dw at *; rw [Nat.succ_mul]; omega
theorem Dw.done {a b c k q r : Nat} (h : Dw a b c k q r) (hr : r < c) : Dv a b c k q r := ⟨h, hr⟩
theorem Dw.q_le {a b c k q r : Nat} (h : Dw a b c k q r) (hac : a ≤ c) (hc : 0 < c) : q ≤ b := by
  have h1 : q * c ≤ c * b := Nat.le_trans (by unfold Dw at h; omega : q * c ≤ a * (b / 2 ^ k)) (Nat.mul_le_mul hac (Nat.div_le_self _ _))
  rw [Nat.mul_comm] at h1
  exact Nat.le_of_mul_le_mul_left h1 hc
theorem Dv.q_le {a b c k q r : Nat} (h : Dv a b c k q r) (hac : a ≤ c) : q ≤ b := Dw.q_le h.1 hac (by have := h.2; omega)
theorem Dv.all {a b c q r : Nat} (h : Dv a b c 0 q r) : q = a * b / c ∧ r = a * b % c := by
  obtain ⟨h1, h2⟩ := h
  rw [Nat.pow_zero, Nat.div_one] at h1
  rw [← h1, Nat.mul_comm q c, Nat.add_comm, Nat.add_mul_div_left _ _ (by omega), Nat.add_mul_mod_self_left, Nat.div_eq_of_lt h2, Nat.mod_eq_of_lt h2]
  omega

/-! ### The first greatest of a list -/
/-- b is the first greatest one of the first i. -/
def FM (f : Nat → Int) (i b : Nat) : Prop := b < i ∧ (∀ j, j < b → f j < f b) ∧ ∀ j, b < j → j < i → f j ≤ f b
theorem FM.start (f : Nat → Int) : FM f 1 0 := ⟨by omega, fun j h => by omega, fun j h1 h2 => by omega⟩
theorem FM.new {f : Nat → Int} {i b : Nat} (h : FM f i b) (hl : f b < f i) : FM f (i + 1) i := by
  obtain ⟨h0, h1, h2⟩ := h
  refine ⟨by omega, fun j hj => ?_, fun j h3 h4 => by omega⟩
  rcases Nat.lt_trichotomy j b with h | h | h
  · have := h1 j h; omega
  · rw [h]; exact hl
  · have := h2 j h hj; omega
theorem FM.old {f : Nat → Int} {i b : Nat} (h : FM f i b) (hl : f i ≤ f b) : FM f (i + 1) b := by
  obtain ⟨h0, h1, h2⟩ := h
  refine ⟨by omega, h1, fun j h3 h4 => ?_⟩
  rcases Nat.lt_or_ge j i with h | h
  · exact h2 j h3 h
  · obtain rfl : j = i := by omega
    exact hl
theorem FM.one {f : Nat → Int} {i b c : Nat} (h : FM f i b) (k : FM f i c) : b = c := by
  rcases Nat.lt_trichotomy b c with h1 | h1 | h1
  · have h2 := k.2.1 b h1
    have h3 := h.2.2 c h1 k.1
    omega
  · exact h1
  · have h2 := h.2.1 c h1
    have h3 := k.2.2 b h1 h.1
    omega
/-- What is left of the remainders behind k units, and the parts then. -/
def lefts (r : Nat → Nat) (n k i : Nat) : Int := if rank r n i < k then -1 else (r i : Int)
def gots (q r : Nat → Nat) (n k i : Nat) : Nat := q i + if rank r n i < k then 1 else 0
theorem lefts_zero (r : Nat → Nat) (n i : Nat) : lefts r n 0 i = r i := by simp [lefts]
theorem gots_zero (q r : Nat → Nat) (n i : Nat) : gots q r n 0 i = q i := by simp [gots]
/-- The first greatest one is that of rank k. -/
theorem lefts_best {r : Nat → Nat} {n k b : Nat} (hk : k < n) (h : FM (lefts r n k) n b) : rank r n b = k := by
  obtain ⟨c, hc, hr⟩ := (rank_cnt (r := r) (n := n) k (by omega)).2 hk
  have hle : ∀ j, j < n → rank r n j < k → lefts r n k j = -1 := fun j _ h1 => if_pos h1
  have hge : ∀ j, ¬ rank r n j < k → lefts r n k j = r j := fun j h1 => if_neg h1
  have hcv := hge c (by omega)
  have : FM (lefts r n k) n c := by
    refine ⟨hc, fun j hj => ?_, fun j hj hjn => ?_⟩
    · rw [hcv]
      by_cases h1 : rank r n j < k
      · rw [hle j (by omega) h1]; omega
      · rw [hge j h1]
        rcases rank_best hc hr (i := j) (by omega) (by omega) with h2 | h2
        · omega
        · rw [bt_iff] at h2; omega
    · rw [hcv]
      by_cases h1 : rank r n j < k
      · rw [hle j (by omega) h1]; omega
      · rw [hge j h1]
        rcases rank_best hc hr (i := j) (by omega) (by omega) with h2 | h2
        · rw [h2]; exact Int.le_refl _
        · rw [bt_iff] at h2; omega
  rw [h.one this]; exact hr
theorem lefts_next {r : Nat → Nat} {n k b : Nat} (hb : b < n) (hr : rank r n b = k) {i : Nat} (hi : i < n) : lefts r n (k + 1) i = if i = b then -1 else lefts r n k i := by
  unfold lefts
  by_cases h : i = b
  · subst h; rw [if_pos (by omega), if_pos rfl]
  · have := rank_ne (r := r) hi hb h
    rw [if_neg h]
    by_cases h1 : rank r n i < k
    · rw [if_pos (by omega), if_pos h1]
    · rw [if_neg (by omega), if_neg h1]
theorem gots_next {q r : Nat → Nat} {n k b : Nat} (hb : b < n) (hr : rank r n b = k) {i : Nat} (hi : i < n) : gots q r n (k + 1) i = if i = b then gots q r n k i + 1 else gots q r n k i := by
  unfold gots
  by_cases h : i = b
  · subst h; rw [if_pos (by omega), if_pos rfl, if_neg (by omega)]
  · have := rank_ne (r := r) hi hb h
    rw [if_neg h]
    by_cases h1 : rank r n i < k
    · rw [if_pos (by omega), if_pos h1]
    · rw [if_neg (by omega), if_neg h1]
theorem gots_part {T n : Nat} {w : Nat → Nat} (h : 0 < tw w n) (i : Nat) : gots (quo T w n) (rst T w n) n (lft T w n) i = part T w n i := by
  unfold gots part
  rw [if_neg (by omega : ¬ tw w n = 0)]
/-- A list of a function's values. -/
def lst (f : Nat → Int) (n : Nat) : List Int := (List.range n).map f
theorem lst_len (f : Nat → Int) (n : Nat) : (lst f n).length = n := by simp [lst]
theorem lst_at (f : Nat → Int) {n i : Nat} (h : i < n) : (lst f n)[i]? = some (f i) := by
  unfold lst; rw [List.getElem?_map, List.getElem?_range h]; rfl
theorem lst_set {f g : Nat → Int} {n b : Nat} {v : Int} (hb : b < n) (h : ∀ i, i < n → g i = if i = b then v else f i) : (lst f n).set b v = lst g n := by
  apply List.ext_getElem?
  intro i
  rcases Nat.lt_or_ge i n with hi | hi
  · rw [lst_at g hi, List.getElem?_set, h i hi]
    by_cases hib : b = i
    · rw [if_pos hib, if_pos (by rw [lst_len]; omega), if_pos hib.symm]
    · rw [if_neg hib, if_neg (by omega), lst_at f hi]
  · rw [List.getElem?_eq_none (by rw [List.length_set, lst_len]; exact hi), List.getElem?_eq_none (by rw [lst_len]; exact hi)]
theorem lst_congr {f g : Nat → Int} {n : Nat} (h : ∀ i, i < n → f i = g i) : lst f n = lst g n := List.map_congr_left fun i hi => h i (List.mem_range.mp hi)
end Go.Proofs.Ytgomokdklajlcaa.Share
/- Slices of one-cell elements in memory: what is there, what is the call's own; made, set, appended to. What a step leaves as it was. -/
namespace Go.Proofs.Ytgomokdklajlcaa.Mem
open Go.ChangeShapes Go.WideShapes Go.RowKit Go.Lib
set_option linter.unusedVariables false
set_option maxRecDepth 100000

theorem lt_of_get {α : Type} {l : List α} {j : Nat} {x : α} (h : l[j]? = some x) : j < l.length := by
  rw [List.getElem?_eq_some_iff] at h; exact h.1
/-- Of what was there all but the blocks in S is as it was. -/
structure Off (S : Nat → Prop) (w w' : World) : Prop where
  os : w'.os = w.os
  tape : w'.tape = w.tape
  output : w'.output = w.output
  size : w.heap.size ≤ w'.heap.size
  block : ∀ k, k < w.heap.size → ¬ S k → w'.heap[k]? = w.heap[k]?
theorem Off.refl (S : Nat → Prop) (w : World) : Off S w w := ⟨rfl, rfl, rfl, Nat.le_refl _, fun _ _ _ => rfl⟩
theorem Off.trans {S S' : Nat → Prop} {a b c : World} (h : Off S a b) (k : Off S' b c) (hs : ∀ x, S' x → S x ∨ a.heap.size ≤ x) : Off S a c :=
  ⟨k.os.trans h.os, k.tape.trans h.tape, k.output.trans h.output, Nat.le_trans h.size k.size, fun i hi hn =>
    (k.block i (Nat.lt_of_lt_of_le hi h.size) fun e => by rcases hs i e with h1 | h1; exact hn h1; omega).trans (h.block i hi hn)⟩
theorem Off.below {S : Nat → Prop} {a b : World} {B : Nat} (h : Off S a b) (hB : B ≤ a.heap.size) (hs : ∀ x, S x → B ≤ x) : Below B a b :=
  ⟨h.os, h.tape, h.output, h.size, fun i hi => h.block i (by omega) fun e => by have := hs i e; omega⟩
theorem Off.of_below {S : Nat → Prop} {a b : World} (h : Below a.heap.size a b) : Off S a b := ⟨h.os, h.tape, h.output, h.size, fun i hi _ => h.block i hi⟩
theorem Off.then_below {S : Nat → Prop} {a b c : World} (h : Off S a b) (k : Below b.heap.size b c) : Off S a c := h.trans (Off.of_below (S := fun _ => False) k) fun x e => e.elim
theorem Off.alloc {S : Nat → Prop} {a b : World} (h : Off S a b) (o : Obj) : Off S a (b.alloc o) := h.then_below ((Below.refl _ _).alloc (Nat.le_refl _) _)
theorem Off.drew {S : Nat → Prop} {a b : World} (h : Off S a b) : Off S a b.drew := ⟨h.os, h.tape, h.output, h.size, h.block⟩
theorem Off.set {S : Nat → Prop} {a b : World} (h : Off S a b) {p : Addr} (hp : S p.block ∨ a.heap.size ≤ p.block) (u : Value) : Off S a (b.setCell p u) :=
  h.trans (S' := fun k => k = p.block) ⟨rfl, rfl, rfl, by simp [World.setCell], fun i hi hn => Below.heap_setCell _ _ _ _ hn⟩ fun x e => e ▸ hp
theorem Off.grown {S : Nat → Prop} {a b c : World} {row : Option Nat} (h : Off S a b) (hg : b.grownBy c row) (hr : ∀ k, row = some k → S k ∨ a.heap.size ≤ k) : Off S a c :=
  h.trans (S' := fun k => row = some k) ⟨hg.os, hg.tape, hg.output, hg.size, fun i hi hn => hg.block i hi fun e => hn e.symm⟩ fun x e => hr x e
theorem Off.before {S : Nat → Prop} {a b c : World} (h : Below a.heap.size a b) (k : Off S b c) : Off S a c :=
  (Off.of_below h).trans k fun x e => Or.inl e
theorem Off.mono {S S' : Nat → Prop} {a b : World} (h : Off S a b) (hs : ∀ x, S x → S' x ∨ a.heap.size ≤ x) : Off S' a b :=
  ⟨h.os, h.tape, h.output, h.size, fun i hi hn => h.block i hi fun e => by rcases hs i e with h1 | h1; exact hn h1; omega⟩
theorem below_alloc (w : World) (o : Obj) : Below w.heap.size w (w.alloc o) := (Below.refl _ _).alloc (Nat.le_refl _) _
theorem bstep {a b c : World} (h : Below a.heap.size a b) (k : Below b.heap.size b c) : Below a.heap.size a c := h.trans (k.mono h.size)
theorem below_drewN {B : Nat} {a w : World} (h : Below B a w) (n : Nat) : Below B a (w.drewN n) := ⟨h.os, h.tape, h.output, h.size, h.block⟩
theorem below_drew {B : Nat} {a w : World} (h : Below B a w) : Below B a w.drew := ⟨h.os, h.tape, h.output, h.size, h.block⟩
theorem below_set {B : Nat} {a w : World} (h : Below B a w) {p : Addr} (hp : B ≤ p.block) (u : Value) : Below B a (w.setCell p u) :=
  ⟨h.os, h.tape, h.output, by simpa using h.size, fun k hk => (Below.heap_setCell w p u k (by omega)).trans (h.block k hk)⟩
theorem ret_bool {a b : Bool} (h : a = b) : Ending.returned (.bool a) = .returned (.bool b) := by rw [h]
theorem ret_int {k : IntKind} {a b : Int} (h : a = b) : Ending.returned (.int k a) = .returned (.int k b) := by rw [h]
theorem get_lt {α : Type} {L : List α} {k : Nat} (h : k < L.length) : ∃ s, L[k]? = some s := ⟨_, List.getElem?_eq_getElem h⟩
theorem all_of {α : Type} {p : α → Bool} {L : List α} (h : ∀ (j : Nat) s, j < L.length → L[j]? = some s → p s = true) : L.all p = true := by
  rw [List.all_eq_true]
  intro s hs
  obtain ⟨j, hj⟩ := List.mem_iff_getElem?.mp hs
  exact h j s (lt_of_get hj) hj
theorem all_not {α : Type} {p : α → Bool} {L : List α} {j : Nat} {s : α} (h : L[j]? = some s) (hs : p s = false) : L.all p = false := by
  rw [List.all_eq_false]; exact ⟨s, List.mem_of_getElem? h, by simpa using hs⟩
theorem wrap_id {x : Int} (h : -9223372036854775808 ≤ x ∧ x ≤ 9223372036854775807) : IntKind.i64.wrap x = x := by rw [IntKind.wrap_i64]; omega

/-! ### One-cell elements -/
section
variable {α : Type} {enc : α → Value} {t : TypeId} {B : Nat} {w w' : World} {v : Value} {L : List α} {g n cap : Nat} {A : Option Addr}
/-- At the address lie the elements of L. -/
def Cl (enc : α → Value) (w : World) (A : Option Addr) (L : List α) : Prop :=
  ∀ (k : Nat) (z : α), L[k]? = some z → ∃ b off, A = some ⟨b, off, none⟩ ∧ b < w.heap.size ∧ w.cell? ⟨b, off + k, none⟩ = some (enc z)
/-- A slice that holds L. -/
def InS (enc : α → Value) (w : World) (v : Value) (L : List α) : Prop := ∃ A c, v = .slice A L.length c ∧ L.length ≤ c ∧ c ≤ maxLen ∧ Cl enc w A L
/-- A slice of the call's own that holds L. -/
def Own (enc : α → Value) (t : TypeId) (B : Nat) (w : World) (v : Value) (L : List α) : Prop := w.ownsRow B t 1 v L.length (L.map enc)
theorem Cl.nil (enc : α → Value) (w : World) (A : Option Addr) : Cl enc w A [] := fun k z h => by simp at h
theorem Cl.on (h : Cl enc w A L) (hb : Below w.heap.size w w') : Cl enc w' A L := by
  intro k z hk
  obtain ⟨b, off, e, hlt, h0⟩ := h k z hk
  exact ⟨b, off, e, Nat.lt_of_lt_of_le hlt hb.size, (hb.cell (p := ⟨b, off + k, none⟩) hlt).trans h0⟩
theorem Cl.drew (h : Cl enc w A L) : Cl enc w.drew A L := h
theorem InS.nil (enc : α → Value) (w : World) : InS enc w (.slice none 0 0) [] := ⟨none, 0, rfl, Nat.le_refl _, by unfold maxLen; omega, Cl.nil _ _ _⟩
theorem InS.on (h : InS enc w v L) (hb : Below w.heap.size w w') : InS enc w' v L := by
  obtain ⟨A, c, e, h1, h2, h3⟩ := h; exact ⟨A, c, e, h1, h2, h3.on hb⟩
theorem InS.open_ (h : InS enc w v L) : ∃ A c, v = .slice A L.length c ∧ L.length ≤ 9223372036854775807 ∧ Cl enc w A L := by
  obtain ⟨A, c, rfl, h1, h2, h3⟩ := h
  exact ⟨A, c, rfl, by unfold maxLen at h2; omega, h3⟩
theorem Own.nil (enc : α → Value) (t : TypeId) (B : Nat) (w : World) : Own enc t B w (.slice none 0 0) [] := World.ownsRow_nil _ _ _ _
theorem Own.lt (h : Own enc t B w v L) : ∀ k, v.ownBlock = some k → B ≤ k ∧ k < w.heap.size := World.ownsRow.lt h
theorem Own.inS (h : Own enc t B w v L) : InS enc w v L := by
  obtain ⟨h1, ⟨rfl, h2⟩ | ⟨g, cap, cur, rfl, h2, h3, h4, h5, h6, h7⟩⟩ := h
  · obtain rfl : L = [] := List.eq_nil_of_length_eq_zero h2
    exact InS.nil enc w
  · refine ⟨_, cap, rfl, h4, h5, fun k z hz => ⟨g, 0, rfl, (Array.getElem?_eq_some_iff.mp h3).1, ?_⟩⟩
    rw [cell_of_row w g _ cur _ (0, 0) h3, Nat.zero_add]
    have hu : (cur.toList.take (L.length * 1))[k]? = some (enc z) := by rw [h7, List.getElem?_map, hz]; rfl
    rw [List.getElem?_take] at hu
    split at hu
    · simpa using hu
    · cases hu
theorem Own.blk (h : Own enc t B w v L) (h0 : 0 < L.length) : ∃ g cap, v = .slice (some ⟨g, 0, none⟩) L.length cap ∧ B ≤ g ∧ g < w.heap.size ∧ L.length ≤ cap := by
  obtain ⟨_, ⟨_, h1⟩ | ⟨g, cap, cur, h1, h2, h3, h4, _⟩⟩ := h
  · omega
  · exact ⟨g, cap, h1, h2, (Array.getElem?_eq_some_iff.mp h3).1, h4⟩
theorem Own.keep (h : Own enc t B w v L) (hk : ∀ k, v.ownBlock = some k → w'.heap[k]? = w.heap[k]?) : Own enc t B w' v L := by
  obtain ⟨h1, h0 | ⟨g, cap, cur, rfl, h2, h3, h4⟩⟩ := h
  · exact ⟨h1, Or.inl h0⟩
  · exact ⟨h1, Or.inr ⟨g, cap, cur, rfl, h2, (hk g rfl).trans h3, h4⟩⟩
theorem Own.on (h : Own enc t B w v L) (hb : Below w.heap.size w w') : Own enc t B w' v L := h.keep fun k hk => hb.block k (h.lt k hk).2
theorem Own.drew (h : Own enc t B w v L) : Own enc t B w.drew v L := h
theorem Own.drewN (h : Own enc t B w v L) (n : Nat) : Own enc t B (w.drewN n) v L := h.keep fun _ _ => rfl
theorem Own.alloc (h : Own enc t B w v L) (o : Obj) : Own enc t B (w.alloc o) v L := World.ownsRow.alloc h o
theorem Own.less {B' : Nat} (h : Own enc t B w v L) (hB : B' ≤ B) : Own enc t B' w v L := by
  obtain ⟨h1, h0 | ⟨g, cap, cur, e, h2, h3⟩⟩ := h
  · exact ⟨h1, Or.inl h0⟩
  · exact ⟨h1, Or.inr ⟨g, cap, cur, e, Nat.le_trans hB h2, h3⟩⟩
theorem Own.other (h : Own enc t B w v L) {p : Addr} (hp : v.ownBlock ≠ some p.block) (u : Value) : Own enc t B (w.setCell p u) v L :=
  h.keep fun k hk => Below.heap_setCell w p u k fun e => hp (by rw [hk, e])
theorem Own.warm (h : Own enc t B w (.slice (some ⟨g, 0, none⟩) n cap) L) (hn : n = L.length) (j : Nat) : w.frozen? ⟨g, j, none⟩ = false := by
  subst hn
  exact World.ownsRow.frozenAt (h : w.ownsRow B t 1 (.slice (some ⟨g, 0, none⟩) L.length cap) L.length (L.map enc)) j
theorem Own.set (h : Own enc t B w (.slice (some ⟨g, 0, none⟩) n cap) L) (hn : n = L.length) (j : Nat) (z : α) : Own enc t B (w.setCell ⟨g, j, none⟩ (enc z)) (.slice (some ⟨g, 0, none⟩) n cap) (L.set j z) := by
  subst hn
  have h1 := (World.ownsRow.stored (h : w.ownsRow B t 1 (.slice (some ⟨g, 0, none⟩) L.length cap) L.length (L.map enc)) j (enc z)).1
  unfold Own
  rw [List.length_set, List.map_set]; exact h1
theorem Own.cell (h : Own enc t B w (.slice (some ⟨g, 0, none⟩) n cap) L) {j : Nat} {b : α} (hb : L[j]? = some b) : w.cell? ⟨g, j, none⟩ = some (enc b) := by
  obtain ⟨A, c, e, _, _, hy⟩ := h.inS
  cases e
  obtain ⟨g', off, e, _, hc⟩ := hy j b hb
  cases e
  rw [Nat.zero_add] at hc; exact hc
theorem Own.cl (h : Own enc t B w (.slice (some ⟨g, 0, none⟩) n cap) L) : Cl enc w (some ⟨g, 0, none⟩) L := by
  obtain ⟨A, c, e, _, _, hy⟩ := h.inS
  cases e
  exact hy
theorem Own.below (h : Own enc t B w v L) (hg : w.grownBy w' v.ownBlock) (hB : B ≤ w.heap.size) : Below B w w' :=
  ⟨hg.os, hg.tape, hg.output, hg.size, fun i hi => hg.block i (Nat.lt_of_lt_of_le hi hB) fun e => by have := (h.lt i e.symm).1; omega⟩
end

/-! ### Appending, making -/
theorem info_int : (Try.prog.info? 3).map (fun i => (i.zero, i.size, i.bytes)) = some (some (.int .i64 0), 1, 8) := by kernel_rfl
abbrev eI : Int → Value := Value.int .i64
abbrev eB : Bool → Value := Value.bool
/-- 'append(s, x)' of integers. -/
theorem append_int {w : World} {ops : Array Oper} {rest : List Oper} {o : Oper} {a : Act} {Q : Exit → Act → World → Prop} (hgd : o.guard = none) (s x : Operand)
    (ho : o.op = .call { callee := .builtin .append, args := #[s, x], argTypes := #[27, 27] })
    (B : Nat) (v : Value) (L : List Int) (hs : a.eval s = v) (hown : Own eI 3 B w v L) (g c0 : Nat) (z : Int) (hx : a.eval x = .slice (some ⟨g, 0, none⟩) 1 c0) (hz : w.cell? ⟨g, 0, none⟩ = some (.int .i64 z))
    (hlen : L.length + 1 ≤ 1000000) (hB : B ≤ w.heap.size)
    (h : ∀ v' w', Own eI 3 B w' v' (L ++ [z]) → w.grownBy w' v.ownBlock → (v'.ownBlock = v.ownBlock ∨ v'.ownBlock = some w.heap.size) → wpList Try.prog ops Q rest (a.put o.dst v') w') : wpList Try.prog ops Q (o :: rest) a w := by
  obtain ⟨i0, hi0, hz0, hz1, hz2⟩ := info_parts info_int
  refine wpList_append_own_at w hgd s x _ ho B 3 i0 (.int .i64 0) 1 8 Try.underlying27 hi0 hz0 hz1 hz2 rfl (by decide) v L.length (L.map eI) hs hown ⟨g, 0, none⟩ 1 c0 [.int .i64 z] hx rfl ?_ (by intro u hu; simp at hu; subst hu; rfl) (by unfold maxLen; omega) (by omega) hB ?_
  · intro j u hj
    match j, hj with
    | 0, hj => simp at hj; subst hj; rw [Addr.add_lit]; exact hz
  · intro v' w' hown' hg _ hat
    exact h v' w' (by unfold Own; rw [List.length_append, List.map_append]; exact hown') hg hat
theorem int_one (w : World) (x : Int) (T : TypeId) {g : Nat} (hg : w.heap.size = g) : (w.alloc (.cells #[.int .i64 x] T)).cell? ⟨g, 0, none⟩ = some (.int .i64 x) := by subst hg; simp
theorem make_ints (n : Nat) (hn : n ≤ 100000) (W : World) :
    (Instr.makeSlice 27 (.int .i64 (n : Int)) (.int .i64 (n : Int))).run Try.prog W = .ok (.slice (some ⟨W.heap.size, 0, none⟩) n n) (W.alloc (.cells (madeCells #[.int .i64 0] n) 3)) := by
  obtain ⟨i, hi, hz, hs, hb⟩ := info_parts info_int
  have h := run_make (P := Try.prog) (w := W) 27 3 i _ Try.underlying27 hi hz .i64 .i64 (n : Int) (n : Int) (by omega) (by omega) (by rw [hb]; omega) (by omega)
  rw [hs, Int.toNat_natCast, Nat.mul_one] at h
  exact h
/-- What make made. -/
theorem own_made {α : Type} (enc : α → Value) (t : TypeId) (W : World) (n : Nat) (x : α) (hn : n ≤ 100000) : Own enc t W.heap.size (W.alloc (.cells (madeCells #[enc x] n) t)) (.slice (some ⟨W.heap.size, 0, none⟩) n n) (List.replicate n x) := by
  have h := World.ownsRow_lit (base := W.heap.size) (e := t) (size := 1) W (madeCells #[enc x] n) n (Nat.le_refl _) (by unfold maxLen; omega) (by rw [size_madeCells, Nat.mul_one])
  unfold Own
  rw [List.length_replicate, List.map_replicate]
  rw [toList_madeCells_one] at h
  exact h
theorem slice_lo (A : Addr) (n c k : Nat) (hA : A.spot = none) (hk : k ≤ n) (hc : k < c) (W : World) : (Instr.slice 27 (.slice (some A) n c) (some (.int .i64 (k : Int))) none none).run Try.prog W = .ok (.slice (some ⟨A.block, A.off + k, none⟩) (n - k) (c - k)) W := by
  have ht : Try.prog.underlying 27 = some (.slice (Try.prog.elem 27)) := by kernel_rfl
  have hs : (sizeOf (Try.prog.elem 27)).run Try.prog W = .ok 1 W := Try.sizeOf3 W
  obtain ⟨b, off, sp⟩ := A
  simp at hA
  subst hA
  rw [run_slice_l W 27 (some ⟨b, off, none⟩) n c ht .i64 k (by omega) (by omega), hs]
  simp [sliced, Result.andThen, Addr.add_lit]
  intro h
  omega
theorem slice_hi (A : Option Addr) (n c k : Nat) (hk : k ≤ c) (W : World) : (Instr.slice 27 (.slice A n c) none (some (.int .i64 (k : Int))) none).run Try.prog W = .ok (.slice A k c) W := by
  have ht : Try.prog.underlying 27 = some (.slice (Try.prog.elem 27)) := by kernel_rfl
  have hs : (sizeOf (Try.prog.elem 27)).run Try.prog W = .ok 1 W := Try.sizeOf3 W
  rw [run_slice_h W 27 A n c ht .i64 k (by omega) (by omega), hs]
  simp [sliced, Result.andThen]
  intro _
  cases A <;> simp [Addr.add]
theorem drew_below (w : World) : Below w.heap.size w w.drew := below_drew (Below.refl _ _)
theorem take_snoc_of {α : Type} {l : List α} {k : Nat} {z : α} (h : l[k]? = some z) : l.take (k + 1) = l.take k ++ [z] := by
  rw [List.take_add_one, h]; rfl
end Go.Proofs.Ytgomokdklajlcaa.Mem
/- Contracts of num.inRange, num.checked, num.Add, num.Sub, num.magnitude, num.signWord, num.signed and of their counterparts in the reference. -/
namespace Go.Proofs.Ytgomokdklajlcaa.Num
open Go.ChangeShapes Go.WideShapes Go.RowKit
set_option linter.unusedVariables false

/-- n is from -2^50 to 2^50. -/
def InR (n : Int) : Prop := -1125899906842624 ≤ n ∧ n ≤ 1125899906842624
instance (n : Int) : Decidable (InR n) := inferInstanceAs (Decidable (_ ∧ _))
theorem inr_mk {n : Int} (h1 : -1125899906842624 ≤ n) (h2 : n ≤ 1125899906842624) : InR n := ⟨h1, h2⟩
theorem inr_not {n : Int} (h : n < -1125899906842624 ∨ 1125899906842624 < n) : ¬ InR n := by unfold InR; omega

theorem num_in_yes (n : Int) (w : World) (h1 : -1125899906842624 ≤ n) (h2 : n ≤ 1125899906842624) :
    Calls Try.prog 50 #[.int .i64 n] w fun e w' => e = .returned (.bool true) ∧ w = w' := by
  go_enter Try.func50, Try.ntmps50
  go_wp2
  go_ret
  exact ⟨rfl, rfl⟩

theorem num_in_no (n : Int) (w : World) (h : n < -1125899906842624 ∨ 1125899906842624 < n) :
    Calls Try.prog 50 #[.int .i64 n] w fun e w' => e = .returned (.bool false) ∧ w = w' := by
  rcases h with h | h
  · go_enter Try.func50, Try.ntmps50
    go_wp2
    go_ret
    exact ⟨rfl, rfl⟩
  · have h1 : -1125899906842624 ≤ n := by omega
    have h2 : decide (n ≤ 1125899906842624) = false := by simpa using h
    go_enter Try.func50, Try.ntmps50
    go_wp2
    go_ret
    exact ⟨rfl, rfl⟩

theorem ref_in_yes (n : Int) (w : World) (h1 : -1125899906842624 ≤ n) (h2 : n ≤ 1125899906842624) :
    Calls Try.prog 61 #[.int .i64 n] w fun e w' => e = .returned (.bool true) ∧ w = w' := by
  go_enter Try.func61, Try.ntmps61
  go_wp2
  go_ret
  exact ⟨rfl, rfl⟩

theorem ref_in_no (n : Int) (w : World) (h : n < -1125899906842624 ∨ 1125899906842624 < n) :
    Calls Try.prog 61 #[.int .i64 n] w fun e w' => e = .returned (.bool false) ∧ w = w' := by
  rcases h with h | h
  · go_enter Try.func61, Try.ntmps61
    go_wp2
    go_ret
    exact ⟨rfl, rfl⟩
  · have h1 : -1125899906842624 ≤ n := by omega
    have h2 : decide (n ≤ 1125899906842624) = false := by simpa using h
    go_enter Try.func61, Try.ntmps61
    go_wp2
    go_ret
    exact ⟨rfl, rfl⟩

/-- The same as a Bool. -/
def inB (n : Int) : Bool := decide (InR n)
theorem inB_yes {n : Int} (h1 : -1125899906842624 ≤ n) (h2 : n ≤ 1125899906842624) : inB n = true := decide_eq_true (inr_mk h1 h2)
theorem inB_no {n : Int} (h : n < -1125899906842624 ∨ 1125899906842624 < n) : inB n = false := decide_eq_false (inr_not h)
theorem inB_cases (n : Int) : (inB n = true ∧ -1125899906842624 ≤ n ∧ n ≤ 1125899906842624) ∨ (inB n = false ∧ ¬ InR n) := by
  by_cases h : InR n
  · exact Or.inl ⟨decide_eq_true h, h⟩
  · exact Or.inr ⟨decide_eq_false h, h⟩

theorem num_in (n : Int) (w : World) : Calls Try.prog 50 #[.int .i64 n] w fun e w' => e = .returned (.bool (inB n)) ∧ w = w' := by
  by_cases h : -1125899906842624 ≤ n ∧ n ≤ 1125899906842624
  · exact (num_in_yes n w h.1 h.2).mono fun e w' k => by rw [inB_yes h.1 h.2]; exact k
  · exact (num_in_no n w (by omega)).mono fun e w' k => by rw [inB_no (by omega)]; exact k

theorem ref_in (n : Int) (w : World) : Calls Try.prog 61 #[.int .i64 n] w fun e w' => e = .returned (.bool (inB n)) ∧ w = w' := by
  by_cases h : -1125899906842624 ≤ n ∧ n ≤ 1125899906842624
  · exact (ref_in_yes n w h.1 h.2).mono fun e w' k => by rw [inB_yes h.1 h.2]; exact k
  · exact (ref_in_no n w (by omega)).mono fun e w' k => by rw [inB_no (by omega)]; exact k

/-- What a checked result is: the value, and the error. -/
def okV (n : Int) : Int := if InR n then n else 0
def okE (n : Int) : Int := if InR n then 0 else 2
theorem okV_yes {n : Int} (h1 : -1125899906842624 ≤ n) (h2 : n ≤ 1125899906842624) : okV n = n := if_pos (inr_mk h1 h2)
theorem okE_yes {n : Int} (h1 : -1125899906842624 ≤ n) (h2 : n ≤ 1125899906842624) : okE n = 0 := if_pos (inr_mk h1 h2)
theorem okV_no {n : Int} (h : n < -1125899906842624 ∨ 1125899906842624 < n) : okV n = 0 := if_neg (inr_not h)
theorem okE_no {n : Int} (h : n < -1125899906842624 ∨ 1125899906842624 < n) : okE n = 2 := if_neg (inr_not h)
theorem ret_int {k : IntKind} {a b : Int} (h : a = b) : Ending.returned (.int k a) = .returned (.int k b) := by rw [h]
theorem ret_two {a b c d : Int} (h : a = c) (k : b = d) : Ending.returned (.tuple #[.int .i64 a, .int .i64 b]) = .returned (.tuple #[.int .i64 c, .int .i64 d]) := by rw [h, k]

theorem num_checked (n : Int) (w : World) :
    Calls Try.prog 69 #[.int .i64 n] w fun e w' => e = .returned (.tuple #[.int .i64 (okV n), .int .i64 (okE n)]) ∧ w = w' := by
  by_cases h : -1125899906842624 ≤ n ∧ n ≤ 1125899906842624
  · obtain ⟨h1, h2⟩ := h
    go_enter Try.func69, Try.ntmps69
    go_wp2_with (go_at_call 50; refine (num_in_yes _ _ h1 h2).mono ?_; rintro e w' ⟨rfl, rfl⟩)
    go_ret2
    exact ⟨ret_two (okV_yes h1 h2).symm (okE_yes h1 h2).symm, rfl⟩
  · have h' : n < -1125899906842624 ∨ 1125899906842624 < n := by omega
    have H := Lib.hid h'
    clear h h'
    go_enter Try.func69, Try.ntmps69
    go_wp2_with (go_at_call 50; refine (num_in_no _ _ H.out).mono ?_; rintro e w' ⟨rfl, rfl⟩)
    go_ret2
    exact ⟨ret_two (okV_no H.out).symm (okE_no H.out).symm, rfl⟩

theorem ref_result (n : Int) (w : World) :
    Calls Try.prog 64 #[.int .i64 n] w fun e w' => e = .returned (.tuple #[.int .i64 (okV n), .int .i64 (okE n)]) ∧ w = w' := by
  by_cases h : -1125899906842624 ≤ n ∧ n ≤ 1125899906842624
  · obtain ⟨h1, h2⟩ := h
    go_enter Try.func64, Try.ntmps64
    go_wp2_with (go_at_call 61; refine (ref_in_yes _ _ h1 h2).mono ?_; rintro e w' ⟨rfl, rfl⟩)
    go_ret2
    exact ⟨ret_two (okV_yes h1 h2).symm (okE_yes h1 h2).symm, rfl⟩
  · have h' : n < -1125899906842624 ∨ 1125899906842624 < n := by omega
    have H := Lib.hid h'
    clear h h'
    go_enter Try.func64, Try.ntmps64
    go_wp2_with (go_at_call 61; refine (ref_in_no _ _ H.out).mono ?_; rintro e w' ⟨rfl, rfl⟩)
    go_ret2
    exact ⟨ret_two (okV_no H.out).symm (okE_no H.out).symm, rfl⟩

theorem num_magnitude (n : Int) (w : World) (h1 : -1125899906842624 ≤ n) (h2 : n ≤ 1125899906842624) :
    Calls Try.prog 57 #[.int .i64 n] w fun e w' => e = .returned (.int .u64 (n.natAbs : Int)) ∧ w = w' := by
  by_cases h : n < 0
  · go_enter Try.func57, Try.ntmps57
    go_wp2
    go_ret
    exact ⟨ret_int (by omega), rfl⟩
  · go_enter Try.func57, Try.ntmps57
    go_wp2
    go_ret
    exact ⟨ret_int (by omega), rfl⟩

theorem ref_abs (n : Int) (w : World) (h1 : -9223372036854775807 ≤ n) (h2 : n ≤ 9223372036854775807) :
    Calls Try.prog 63 #[.int .i64 n] w fun e w' => e = .returned (.int .i64 (n.natAbs : Int)) ∧ w = w' := by
  by_cases h : n < 0
  · go_enter Try.func63, Try.ntmps63
    go_wp2
    go_ret
    exact ⟨ret_int (by omega), rfl⟩
  · go_enter Try.func63, Try.ntmps63
    go_wp2
    go_ret
    exact ⟨ret_int (by omega), rfl⟩

end Go.Proofs.Ytgomokdklajlcaa.Num
/- Contracts of num.Add, num.Sub, num.signed, num.signWord, and of Add and Sub of the reference. -/
namespace Go.Proofs.Ytgomokdklajlcaa.Num
open Go.ChangeShapes Go.WideShapes Go.RowKit
set_option linter.unusedVariables false

/-- The result r of two arguments a and b: r, or the error of the arguments, or the error of the result. -/
def rngV (a b r : Int) : Int := if InR a ∧ InR b then okV r else 0
def rngE (a b r : Int) : Int := if InR a ∧ InR b then okE r else 1
theorem rngV_yes {a b : Int} (r : Int) (h1 : -1125899906842624 ≤ a) (h2 : a ≤ 1125899906842624) (h3 : -1125899906842624 ≤ b) (h4 : b ≤ 1125899906842624) : rngV a b r = okV r := if_pos ⟨⟨h1, h2⟩, ⟨h3, h4⟩⟩
theorem rngE_yes {a b : Int} (r : Int) (h1 : -1125899906842624 ≤ a) (h2 : a ≤ 1125899906842624) (h3 : -1125899906842624 ≤ b) (h4 : b ≤ 1125899906842624) : rngE a b r = okE r := if_pos ⟨⟨h1, h2⟩, ⟨h3, h4⟩⟩
theorem rngV_no1 {a : Int} (b r : Int) (h : ¬ InR a) : rngV a b r = 0 := if_neg (fun k => h k.1)
theorem rngE_no1 {a : Int} (b r : Int) (h : ¬ InR a) : rngE a b r = 1 := if_neg (fun k => h k.1)
theorem rngV_no2 {b : Int} (a r : Int) (h : ¬ InR b) : rngV a b r = 0 := if_neg (fun k => h k.2)
theorem rngE_no2 {b : Int} (a r : Int) (h : ¬ InR b) : rngE a b r = 1 := if_neg (fun k => h k.2)

/-- signed: a magnitude m and a sign. -/
theorem num_signed_pos (m : Nat) (w : World) (hm : m < 18446744073709551616) :
    Calls Try.prog 60 #[.int .u64 (m : Int), .bool false] w fun e w' => e = .returned (.tuple #[.int .i64 (okV (m : Int)), .int .i64 (okE (m : Int))]) ∧ w = w' := by
  by_cases h : 1125899906842624 < (m : Int)
  · go_enter Try.func60, Try.ntmps60
    go_wp2
    go_ret2
    exact ⟨ret_two (okV_no (by omega)).symm (okE_no (by omega)).symm, rfl⟩
  · have h2 : (m : Int) ≤ 1125899906842624 := by omega
    go_enter Try.func60, Try.ntmps60
    go_wp2
    go_ret2
    exact ⟨ret_two (okV_yes (by omega) (by omega)).symm (okE_yes (by omega) (by omega)).symm, rfl⟩

theorem num_signed_neg (m : Nat) (w : World) (hm : m < 18446744073709551616) :
    Calls Try.prog 60 #[.int .u64 (m : Int), .bool true] w fun e w' => e = .returned (.tuple #[.int .i64 (okV (-(m : Int))), .int .i64 (okE (-(m : Int)))]) ∧ w = w' := by
  by_cases h : 1125899906842624 < (m : Int)
  · go_enter Try.func60, Try.ntmps60
    go_wp2
    go_ret2
    exact ⟨ret_two (okV_no (by omega)).symm (okE_no (by omega)).symm, rfl⟩
  · have h2 : (m : Int) ≤ 1125899906842624 := by omega
    go_enter Try.func60, Try.ntmps60
    go_wp2
    go_ret2
    exact ⟨ret_two (okV_yes (by omega) (by omega)).symm (okE_yes (by omega) (by omega)).symm, rfl⟩

/-- The high word of n in two's complement. -/
def signW (n : Int) : Int := if n < 0 then 18446744073709551615 else 0
theorem num_signWord (n : Int) (w : World) :
    Calls Try.prog 68 #[.int .i64 n] w fun e w' => e = .returned (.int .u64 (signW n)) ∧ w = w' := by
  by_cases h : n < 0
  · go_enter Try.func68, Try.ntmps68
    go_wp2
    go_ret
    exact ⟨ret_int (if_pos h).symm, rfl⟩
  · go_enter Try.func68, Try.ntmps68
    go_wp2
    go_ret
    exact ⟨ret_int (if_neg (by omega)).symm, rfl⟩
end Go.Proofs.Ytgomokdklajlcaa.Num
/- Contracts of num's wide integers: plus and narrow. -/
namespace Go.Proofs.Ytgomokdklajlcaa.Num
open Go.ChangeShapes Go.WideShapes Go.RowKit
set_option linter.unusedVariables false

/-- math/bits.Add64 at this program. -/
theorem bits_add64 (x y c : Int) (hx : 0 ≤ x) (hy : 0 ≤ y) (hc0 : 0 ≤ c) (hc : c ≤ 1) (w : World) :
    (callFunc 67 #[.int .u64 x, .int .u64 y, .int .u64 c]).run Try.prog w =
      .ok (.value (.tuple #[.int .u64 ((x + y + c) % 18446744073709551616), .int .u64 ((x + y + c) / 18446744073709551616)])) w := by
  rw [run_callFunc_extern Try.func67 (by kernel_rfl) (by kernel_rfl) (by kernel_rfl) (e := add64Entry) (by kernel_rfl), run_add64 x y c hx hy hc0 hc]
  rfl

/-- The words of s in two's complement, and what adding n makes of them. -/
def hiW (s : Int) : Int := s / 18446744073709551616 % 18446744073709551616
def loW (s : Int) : Int := s % 18446744073709551616
theorem hiW_bd (s : Int) : 0 ≤ hiW s ∧ hiW s < 18446744073709551616 := by unfold hiW; omega
theorem loW_bd (s : Int) : 0 ≤ loW s ∧ loW s < 18446744073709551616 := by unfold loW; omega
theorem signW_bd (n : Int) : 0 ≤ signW n ∧ signW n < 18446744073709551616 := by unfold signW; split <;> omega
def carW (s n : Int) : Int := (loW s + n % 18446744073709551616 + 0) / 18446744073709551616
def carW2 (s n : Int) : Int := (hiW s + signW n + carW s n) / 18446744073709551616
theorem loW_add (s n : Int) : (loW s + n % 18446744073709551616 + 0) % 18446744073709551616 = loW (s + n) := by unfold loW; omega
theorem hiW_add (s n : Int) (h1 : -9223372036854775808 ≤ n) (h2 : n ≤ 9223372036854775807) :
    (hiW s + signW n + carW s n) % 18446744073709551616 = hiW (s + n) := by
  unfold hiW carW loW signW
  split <;> omega
theorem add_low (s n : Int) (w : World) :
    (callFunc 67 #[.int .u64 (loW s), .int .u64 (IntKind.u64.wrap n), .int .u64 0]).run Try.prog w = .ok (.value (.tuple #[.int .u64 (loW (s + n)), .int .u64 (carW s n)])) w := by
  have e : IntKind.u64.wrap n = n % 18446744073709551616 := by rw [IntKind.wrap_u64]
  have b := loW_bd s
  rw [e, bits_add64 _ _ _ b.1 (by omega) (by omega) (by omega), loW_add]
  rfl
theorem add_high (s n : Int) (w : World) (h1 : -9223372036854775808 ≤ n) (h2 : n ≤ 9223372036854775807) :
    (callFunc 67 #[.int .u64 (hiW s), .int .u64 (signW n), .int .u64 (carW s n)]).run Try.prog w = .ok (.value (.tuple #[.int .u64 (hiW (s + n)), .int .u64 (carW2 s n)])) w := by
  have b := hiW_bd s
  have c := signW_bd n
  have l := loW_bd s
  rw [bits_add64 _ _ _ b.1 c.1 (by unfold carW; omega) (by unfold carW; omega), hiW_add s n h1 h2]
  rfl

set_option maxHeartbeats 400000 in
theorem num_plus (s n : Int) (w : World) (h1 : -1125899906842624 ≤ n) (h2 : n ≤ 1125899906842624) :
    Calls Try.prog 51 #[.agg #[.int .u64 (hiW s), .int .u64 (loW s)], .int .i64 n] w fun e w' => e = .returned (.agg #[.int .u64 (hiW (s + n)), .int .u64 (loW (s + n))]) ∧ Below w.heap.size w w' := by
  have ha := add_low s n
  have hb := fun W => add_high s n W (by omega) (by omega)
  have hbl : Below w.heap.size w (((w.alloc (.cells #[.int .u64 (hiW s), .int .u64 (loW s)] 67)).alloc (.cells #[.int .u64 0, .int .u64 0] 67)).alloc (.cells #[.int .u64 0, .int .u64 (loW (s + n))] 67)) :=
    (((Below.refl _ _).alloc (Nat.le_refl _) _).alloc (by simp) _).alloc (by simp; omega) _
  go_enter Try.func51, Try.ntmps51
  go_wp2_with fail
  go_region_with (go_at_call 68; refine (num_signWord n _).mono ?_; rintro e w' ⟨rfl, rfl⟩)
  all_goals go_wp2
  all_goals exact bodyPost_ret (v := .agg #[.int .u64 (hiW (s + n)), .int .u64 (loW (s + n))]) (by simp [results, Try.results51, go_sem]) rfl ⟨rfl, ((((Below.refl _ _).alloc (Nat.le_refl _) _).alloc (by simp) _).alloc (by simp; omega) _).drew⟩

theorem wrap_small {s : Int} (h1 : -9223372036854775808 ≤ s) (h2 : s ≤ 9223372036854775807) : wrap64 (loW s) = s := by unfold wrap64 loW; omega
theorem hi_small {s : Int} (h1 : -9223372036854775808 ≤ s) (h2 : s ≤ 9223372036854775807) : (hiW s != signW s) = false := by
  have e : hiW s = signW s := by unfold hiW signW; split <;> omega
  rw [e]; simp
theorem hi_big {s : Int} (h1 : s < -9223372036854775808 ∨ 9223372036854775807 < s) (h2 : -85070591730234615865843651857942052864 ≤ s) (h3 : s ≤ 85070591730234615865843651857942052864) : (hiW s != signW (wrap64 (loW s))) = true := by
  have e : ¬ hiW s = signW (wrap64 (loW s)) := by unfold hiW signW wrap64 loW; split <;> omega
  simpa using e

theorem num_narrow (s : Int) (w : World) (h2 : -85070591730234615865843651857942052864 ≤ s) (h3 : s ≤ 85070591730234615865843651857942052864) :
    Calls Try.prog 52 #[.agg #[.int .u64 (hiW s), .int .u64 (loW s)]] w fun e w' => e = .returned (.tuple #[.int .i64 (okV s), .int .i64 (okE s)]) ∧ Below w.heap.size w w' := by
  by_cases hs : -9223372036854775808 ≤ s ∧ s ≤ 9223372036854775807
  · have e1 := wrap_small hs.1 hs.2
    have e2 := hi_small hs.1 hs.2
    clear hs h2 h3
    go_enter Try.func52, Try.ntmps52
    go_wp2_with fail
    go_quiet ((go_at_call 68; exact Calls.quiet_of_same ((num_signWord _ _).mono fun _ _ k => ⟨k.1, k.2.symm⟩)))
    go_wp2_with (go_at_call 69; refine (num_checked _ _).mono ?_; rintro e w' ⟨rfl, rfl⟩)
    go_ret2
    exact ⟨rfl, below_drewN ((Below.refl _ _).alloc (Nat.le_refl _) _) _⟩
  · have e2 := hi_big (s := s) (by omega) h2 h3
    have HS := Lib.hid hs
    clear hs
    go_enter Try.func52, Try.ntmps52
    go_wp2_with fail
    go_quiet ((go_at_call 68; exact Calls.quiet_of_same ((num_signWord _ _).mono fun _ _ k => ⟨k.1, k.2.symm⟩)))
    go_wp2
    go_ret2
    have hh := HS.out
    exact ⟨ret_two (okV_no (by omega)).symm (okE_no (by omega)).symm, below_drewN ((Below.refl _ _).alloc (Nat.le_refl _) _) _⟩
end Go.Proofs.Ytgomokdklajlcaa.Num
