/- Several texts in one: LawKit, IdentA, ShareA. -/
import Derived.Test.YtgomokdklajlcaaRows
import Derived.WalkKit
import Derived.ProofKit
import Derived.OpenShut
import Derived.ShutString
import Derived.ChangeOld
import Derived.Below
import Derived.Lib.SmallJoins
import Derived.WalkLawsBesides
import Derived.WalkSpells
import Derived.Outline
import Derived.Laws.OwnMore
import Derived.OwnWalk
import Derived.Lib.Hide
import Derived.Maps.OwnSet
/- For the frames of laws: opening an array of four integers; slices of integers that came in. -/
namespace Go.Proofs.Ytgomokdklajlcaa
open Go Go.ChangeShapes Go.WideShapes Go.RowKit Go.Joins
set_option linter.unusedVariables false
set_option maxRecDepth 100000

theorem own : ownKnob Try.prog.godebug = none := by kernel_rfl
theorem laidOut : laidOutB Try.prog = true := by kernel_rfl

section
variable {H : Type} {enc : TypeId × Value → H} {P : Program} {w : World} {base b0 : Nat} {spare : Nat → Bool} {held : Bool} {t e : TypeId} {v : Value} {d : DataW H} {p : List MemPlace} {k : IntKind} {r : Reach}

theorem okWide_arr {n : Nat} (ht : P.underlying t = some (.array n e)) (h : Value.okWide P w r b0 t v) : ∃ cs, v = .agg cs ∧ cs.size = P.cellsOf t := by
  simp only [Value.okWide, ht] at h
  obtain ⟨cs, h1, h2, _⟩ := h
  exact ⟨cs, h1, h2⟩

theorem open_arr4 (ht : P.underlying t = some (.array 4 e)) (he : P.underlying e = some (.int k)) (hce : P.cellsOf e = 1) (hct : P.cellsOf t = 4)
    (hv : Value.okWide P w r b0 t v) (h : DataW.Trod enc P w base spare held t v d p) :
    ∃ x0 x1 x2 x3 : Int, v = .agg #[.int k x0, .int k x1, .int k x2, .int k x3] ∧ (Lit.int k x0).wf = true ∧ (Lit.int k x1).wf = true ∧ (Lit.int k x2).wf = true ∧ (Lit.int k x3).wf = true := by
  obtain ⟨cs, rfl, hsz⟩ := okWide_arr ht hv
  obtain ⟨c0, c1, c2, c3, rfl⟩ := array4 (hsz.trans hct)
  obtain ⟨fuel, hf⟩ := h
  obtain ⟨xs, m, rfl, hx, hl, hn, hi⟩ := DataW.trod_array ht hf
  have g0 := hi 0 (by omega)
  have g1 := hi 1 (by omega)
  have g2 := hi 2 (by omega)
  have g3 := hi 3 (by omega)
  rw [hce] at g0 g1 g2 g3
  obtain ⟨y0, y1, y2, y3, rfl⟩ : ∃ y0 y1 y2 y3, xs = [y0, y1, y2, y3] := by
    match xs, hn with
    | [y0, y1, y2, y3], _ => exact ⟨y0, y1, y2, y3, rfl⟩
  simp [Value.cells] at g0 g1 g2 g3
  obtain ⟨x0, e0, _, w0⟩ := DataW.trod_int he g0
  obtain ⟨x1, e1, _, w1⟩ := DataW.trod_int he g1
  obtain ⟨x2, e2, _, w2⟩ := DataW.trod_int he g2
  obtain ⟨x3, e3, _, w3⟩ := DataW.trod_int he g3
  simp at e0 e1 e2 e3
  subst e0 e1 e2 e3
  exact ⟨x0, x1, x2, x3, rfl, w0, w1, w2, w3⟩

/-- A slice of integers of kind k that came in: its elements are zs, and it lies below the heap's size. -/
def InInts (k : IntKind) (w : World) (A : Option Addr) (n c : Nat) (zs : List Int) : Prop :=
  n = zs.length ∧ n ≤ c ∧ c ≤ maxLen ∧ (∀ z ∈ zs, (Lit.int k z).wf = true) ∧
  ∀ i z, zs[i]? = some z → ∃ b off, A = some ⟨b, off, none⟩ ∧ b < w.heap.size ∧ w.cell? ⟨b, off + i, none⟩ = some (.int k z)
theorem InInts.len {A : Option Addr} {n c : Nat} {zs : List Int} (h : InInts k w A n c zs) : n = zs.length := h.1
theorem open_slice_ints (ht : P.underlying t = some (.slice e)) (he : P.underlying e = some (.int k)) (hce : P.cellsOf e = 1)
    (hv : Value.okWide P w r b0 t v) (h : DataW.Trod enc P w 0 (fun _ => true) held t v d p) :
    ∃ A n c zs, v = .slice A n c ∧ InInts k w A n c zs := by
  obtain ⟨A, n, c, rfl⟩ := okWide_slice ht hv
  refine ⟨A, n, c, ?_⟩
  obtain ⟨fuel, hf⟩ := h
  rcases open_ints ht he hce hf with ⟨hcs, _⟩ | ⟨x, l, c', zs, hcs, _, hl, hm, hz, _, hcell, hwz⟩
  · simp [Value.cells] at hcs
    obtain ⟨rfl, rfl, rfl⟩ := hcs
    exact ⟨[], rfl, rfl, Nat.le_refl _, by unfold maxLen; omega, by simp, by simp⟩
  · simp [Value.cells] at hcs
    obtain ⟨rfl, rfl, rfl⟩ := hcs
    have hz' : zs.length = c := by simpa using hz
    refine ⟨zs.take n, rfl, by simp; omega, hl, hm, fun z hz => hwz z (List.mem_of_mem_take hz), fun i z hi => ?_⟩
    have hin : i < n := by
      rcases Nat.lt_or_ge i n with h1 | h1
      · exact h1
      · rw [List.getElem?_take, if_neg (by omega)] at hi; cases hi
    rw [List.getElem?_take, if_pos hin] at hi
    obtain ⟨b, off, rfl, hc⟩ := ints_at hcell (by omega)
    have hci := hc i (by omega)
    have ez : zs.getD i 0 = z := by rw [List.getD_eq_getElem?_getD, hi]; rfl
    rw [ez] at hci
    exact ⟨b, off, rfl, World.block_lt_of_cell? w _ hci, hci⟩
end
end Go.Proofs.Ytgomokdklajlcaa
/- Identifiers and tables of them as lists of strings: what the chapter says, in Lean. -/
namespace Go.Proofs.Ytgomokdklajlcaa.Ident
open Go.ChangeShapes Go.WideShapes Go.RowKit
set_option linter.unusedVariables false
set_option maxRecDepth 100000

/-- A letter of ASCII. -/
def letN (n : Int) : Bool := (decide (65 ≤ n) && decide (n ≤ 90)) || (decide (97 ≤ n) && decide (n ≤ 122))
/-- What may stand behind the first byte. -/
def perN (n : Int) : Bool := letN n || (decide (48 ≤ n) && decide (n ≤ 57)) || decide (n = 45) || decide (n = 95) || decide (n = 46)
def byt (b : UInt8) : Int := (b.toNat : Int)
def perB (b : UInt8) : Bool := perN (byt b)
/-- An identifier: the bytes of a string. -/
def okB (l : List UInt8) : Bool := match l with
  | [] => false
  | b :: r => letN (byt b) && (b :: r).all perB && decide ((b :: r).length ≤ 32)
def validB (s : ByteArray) : Bool := okB s.data.toList
theorem letN_iff {n : Int} : letN n = true ↔ (65 ≤ n ∧ n ≤ 90) ∨ (97 ≤ n ∧ n ≤ 122) := by simp [letN]
theorem perN_iff {n : Int} : perN n = true ↔ (65 ≤ n ∧ n ≤ 90) ∨ (97 ≤ n ∧ n ≤ 122) ∨ (48 ≤ n ∧ n ≤ 57) ∨ n = 45 ∨ n = 95 ∨ n = 46 := by
  simp [perN, letN_iff, or_assoc]
theorem letN_per {n : Int} (h : letN n = true) : perN n = true := by simp [perN, h]
theorem str_get? (s : ByteArray) {k : Nat} (h : k < s.size) : s.data.toList[k]? = some s[k] := by
  rw [Array.getElem?_toList]
  exact Array.getElem?_eq_getElem h
theorem str_len (s : ByteArray) : s.data.toList.length = s.size := by rw [Array.length_toList]; rfl
theorem str_ext {a b : ByteArray} (h : a.data.toList = b.data.toList) : a = b := ByteArray.ext (Array.toList_inj.mp h)
theorem okB_nil : okB [] = false := rfl
theorem okB_long {l : List UInt8} (h : 32 < l.length) : okB l = false := by
  cases l with
  | nil => rfl
  | cons b r => simp only [okB]; rw [decide_eq_false (p := (b :: r).length ≤ 32) (by omega), Bool.and_false]
theorem okB_first {l : List UInt8} {b : UInt8} (h : l[0]? = some b) (hb : letN (byt b) = false) : okB l = false := by
  cases l with
  | nil => rfl
  | cons c r => simp at h; subst h; simp [okB, hb]
theorem okB_at {l : List UInt8} {k : Nat} {b : UInt8} (h : l[k]? = some b) (hb : perB b = false) : okB l = false := by
  have : l.all perB = false := by rw [List.all_eq_false]; exact ⟨b, List.mem_of_getElem? h, by simp [hb]⟩
  cases l with
  | nil => rfl
  | cons c r => simp only [okB]; rw [this]; simp
theorem okB_yes {l : List UInt8} {b : UInt8} (h : l[0]? = some b) (hb : letN (byt b) = true) (ha : l.all perB = true) (hl : l.length ≤ 32) : okB l = true := by
  cases l with
  | nil => simp at h
  | cons c r => simp at h; subst h; simp only [okB]; rw [hb, ha, decide_eq_true hl]; rfl
theorem okB_open {l : List UInt8} (h : okB l = true) : ∃ b r, l = b :: r ∧ letN (byt b) = true ∧ l.all perB = true ∧ l.length ≤ 32 := by
  cases l with
  | nil => cases h
  | cons b r =>
    simp only [okB, Bool.and_eq_true, decide_eq_true_eq] at h
    exact ⟨b, r, rfl, h.1.1, h.1.2, h.2⟩
theorem validB_size {s : ByteArray} (h : validB s = true) : 1 ≤ s.size ∧ s.size ≤ 32 := by
  obtain ⟨b, r, e, _, _, hl⟩ := okB_open h
  have h1 := str_len s
  rw [e] at h1 hl
  simp at h1 hl; omega

/-! ### A table's names -/
/-- Where a name stands first. -/
def pos (s : ByteArray) : List ByteArray → Option Nat
  | [] => none
  | x :: r => if x = s then some 0 else (pos s r).map (· + 1)
theorem pos_none {s : ByteArray} : ∀ {L : List ByteArray}, pos s L = none ↔ s ∉ L
  | [] => by simp [pos]
  | x :: r => by
    have ih := @pos_none s r
    unfold pos
    by_cases h : x = s
    · simp [h]
    · rw [if_neg h, Option.map_eq_none_iff, ih]
      simp only [List.mem_cons, not_or]
      exact ⟨fun h1 => ⟨fun e => h e.symm, h1⟩, fun h1 => h1.2⟩
theorem pos_some {s : ByteArray} : ∀ {L : List ByteArray} {k : Nat}, pos s L = some k → L[k]? = some s ∧ ∀ j, j < k → L[j]? ≠ some s
  | [], k, h => by simp [pos] at h
  | x :: r, k, h => by
    unfold pos at h
    by_cases e : x = s
    · rw [if_pos e] at h; cases h
      exact ⟨by simp [e], fun j hj => by omega⟩
    · rw [if_neg e] at h
      obtain ⟨j, hj, rfl⟩ := Option.map_eq_some_iff.mp h
      obtain ⟨h1, h2⟩ := pos_some hj
      refine ⟨by simpa using h1, fun i hi => ?_⟩
      cases i with
      | zero => simpa using e
      | succ i => simpa using h2 i (by omega)
theorem pos_of {s : ByteArray} : ∀ {L : List ByteArray} {k : Nat}, L[k]? = some s → (∀ j, j < k → L[j]? ≠ some s) → pos s L = some k
  | [], k, h, _ => by simp at h
  | x :: r, 0, h, _ => by simp at h; simp [pos, h]
  | x :: r, k + 1, h, hn => by
    have h0 := hn 0 (by omega)
    have e : x ≠ s := by simpa using h0
    unfold pos
    rw [if_neg e, pos_of (L := r) (k := k) (by simpa using h) (fun j hj => by simpa using hn (j + 1) (by omega))]; rfl
theorem pos_lt {s : ByteArray} {L : List ByteArray} {k : Nat} (h : pos s L = some k) : k < L.length := by
  have := (pos_some h).1
  exact (List.getElem?_eq_some_iff.mp this).1
theorem pos_mem {s : ByteArray} {L : List ByteArray} {k : Nat} (h : pos s L = some k) : s ∈ L := List.mem_of_getElem? (pos_some h).1
theorem pos_at {L : List ByteArray} (hn : L.Nodup) {k : Nat} {s : ByteArray} (h : L[k]? = some s) : pos s L = some k := by
  refine pos_of h fun j hj h' => ?_
  obtain ⟨h1, e1⟩ := List.getElem?_eq_some_iff.mp h
  obtain ⟨h2, e2⟩ := List.getElem?_eq_some_iff.mp h'
  have := (List.getElem_inj (h₀ := h2) (h₁ := h1) hn).mp (e2.trans e1.symm)
  omega
theorem pos_snoc {s x : ByteArray} {L : List ByteArray} : pos s (L ++ [x]) = match pos s L with | some k => some k | none => if x = s then some L.length else none := by
  induction L with
  | nil => simp [pos]
  | cons y r ih =>
    simp only [List.cons_append, pos]
    by_cases e : y = s
    · simp [e]
    · rw [if_neg e, if_neg e, ih]
      cases hp : pos s r with
      | some k => simp
      | none => by_cases e2 : x = s <;> simp [e2]
def fndI (s : ByteArray) (L : List ByteArray) : Int := match pos s L with | some k => (k : Int) | none => 0
def fndB (s : ByteArray) (L : List ByteArray) : Bool := (pos s L).isSome
theorem fnd_some {s : ByteArray} {L : List ByteArray} {k : Nat} (h : pos s L = some k) : fndI s L = (k : Int) ∧ fndB s L = true := by simp [fndI, fndB, h]
theorem fnd_none {s : ByteArray} {L : List ByteArray} (h : pos s L = none) : fndI s L = 0 ∧ fndB s L = false := by simp [fndI, fndB, h]
theorem fndB_iff {s : ByteArray} {L : List ByteArray} : fndB s L = true ↔ s ∈ L := by
  cases h : pos s L with
  | some k => rw [(fnd_some h).2]; exact ⟨fun _ => pos_mem h, fun _ => rfl⟩
  | none => rw [(fnd_none h).2]; exact ⟨fun e => (by cases e), fun e => absurd e (pos_none.mp h)⟩
theorem fndB_no {s : ByteArray} {L : List ByteArray} (h : fndB s L = false) : s ∉ L := fun e => by rw [fndB_iff.mpr e] at h; cases h

/-! ### Add -/
def addE (L : List ByteArray) (s : ByteArray) : Int := if validB s = false then 5 else if fndB s L = true then 6 else if L.length = 512 then 8 else 0
def addI (L : List ByteArray) (s : ByteArray) : Int := if addE L s = 0 then (L.length : Int) else 0
def addL (L : List ByteArray) (s : ByteArray) : List ByteArray := if addE L s = 0 then L ++ [s] else L
theorem addE_bad {L : List ByteArray} {s : ByteArray} (h : validB s = false) : addE L s = 5 := by simp [addE, h]
theorem addE_twice {L : List ByteArray} {s : ByteArray} (h : validB s = true) (h2 : fndB s L = true) : addE L s = 6 := by simp [addE, h, h2]
theorem addE_full {L : List ByteArray} {s : ByteArray} (h : validB s = true) (h2 : fndB s L = false) (h3 : L.length = 512) : addE L s = 8 := by simp [addE, h, h2, h3]
theorem addE_ok {L : List ByteArray} {s : ByteArray} (h : validB s = true) (h2 : fndB s L = false) (h3 : ¬ L.length = 512) : addE L s = 0 := by simp [addE, h, h2, h3]
theorem addE_zero {L : List ByteArray} {s : ByteArray} (h : addE L s = 0) : validB s = true ∧ fndB s L = false ∧ ¬ L.length = 512 := by
  unfold addE at h
  split at h
  · cases h
  split at h
  · cases h
  split at h
  · cases h
  rename_i h1 h2 h3
  exact ⟨by simpa using h1, by simpa using h2, h3⟩
theorem add_no {L : List ByteArray} {s : ByteArray} (h : ¬ addE L s = 0) : addI L s = 0 ∧ addL L s = L := by simp [addI, addL, h]
theorem add_yes {L : List ByteArray} {s : ByteArray} (h : addE L s = 0) : addI L s = (L.length : Int) ∧ addL L s = L ++ [s] := by simp [addI, addL, h]
/-- What holds of a table's names. -/
structure Good (L : List ByteArray) : Prop where
  nodup : L.Nodup
  valid : ∀ s ∈ L, validB s = true
  len : L.length ≤ 512
theorem Good.nil : Good [] := ⟨List.nodup_nil, by simp, by simp⟩
theorem Good.snoc {L : List ByteArray} {s : ByteArray} (h : Good L) (hv : validB s = true) (hf : s ∉ L) (hl : L.length ≠ 512) : Good (L ++ [s]) := by
  refine ⟨List.nodup_append.mpr ⟨h.nodup, by simp, fun a ha b hb => by simp at hb; subst hb; exact fun e => hf (e ▸ ha)⟩, fun t ht => ?_, ?_⟩
  · rcases List.mem_append.mp ht with h1 | h1
    · exact h.valid t h1
    · simp at h1; subst h1; exact hv
  · have := h.len; simp; omega
theorem Good.add {L : List ByteArray} (h : Good L) (s : ByteArray) : Good (addL L s) := by
  unfold addL
  split
  · rename_i e
    obtain ⟨h1, h2, h3⟩ := addE_zero e
    exact h.snoc h1 (fndB_no h2) h3
  · exact h
/-- What New answers. -/
def newE (L : List ByteArray) : Int := if 512 < L.length then 8 else if L.all validB = false then 5 else if L.Nodup then 0 else 6
theorem newE_full {L : List ByteArray} (h : 512 < L.length) : newE L = 8 := by simp [newE, h]
theorem newE_bad {L : List ByteArray} (h : ¬ 512 < L.length) (h2 : L.all validB = false) : newE L = 5 := by unfold newE; rw [if_neg h, if_pos h2]
theorem newE_twice {L : List ByteArray} (h : ¬ 512 < L.length) (h2 : L.all validB = true) (h3 : ¬ L.Nodup) : newE L = 6 := by unfold newE; rw [if_neg h, if_neg (by simp [h2]), if_neg h3]
theorem newE_ok {L : List ByteArray} (h : ¬ 512 < L.length) (h2 : L.all validB = true) (h3 : L.Nodup) : newE L = 0 := by unfold newE; rw [if_neg h, if_neg (by simp [h2]), if_pos h3]
theorem newE_zero {L : List ByteArray} : newE L = 0 ↔ Good L := by
  constructor
  · intro h
    unfold newE at h
    split at h
    · cases h
    split at h
    · cases h
    split at h
    · rename_i h1 h2 h3
      have h2' : L.all validB = true := by simpa using h2
      exact ⟨h3, fun s hs => List.all_eq_true.mp h2' s hs, by omega⟩
    · cases h
  · intro h
    exact newE_ok (by have := h.len; omega) (List.all_eq_true.mpr h.valid) h.nodup

/-! ### The map -/
def key (s : ByteArray) : Lit := .string s.data.toList
theorem key_inj {a b : ByteArray} (h : key a = key b) : a = b := str_ext (by simpa [key] using h)
/-- The map reads as the indices of the names. -/
def Dct (D : DataW Unit) (L : List ByteArray) : Prop :=
  Maps.IsMap D ∧ ∀ s, (∀ k, pos s L = some k → Maps.has D (key s) = true ∧ ∀ z, D.atKey (key s) z = .lit (.int .i64 (k : Int))) ∧ (pos s L = none → Maps.has D (key s) = false)
theorem Dct.nil : Dct (.map []) [] := ⟨Maps.isMap_empty, fun s => ⟨fun k h => by simp [pos] at h, fun _ => rfl⟩⟩
theorem Dct.snoc {D : DataW Unit} {L : List ByteArray} {x : ByteArray} (h : Dct D L) (hx : x ∉ L) : Dct (D.put (key x) (.lit (.int .i64 (L.length : Int)))) (L ++ [x]) := by
  have hk : WideAt.IsKeyLit (key x) := trivial
  refine ⟨h.1.put _ _, fun s => ?_⟩
  have hp := @pos_snoc s x L
  by_cases e : x = s
  · subst e
    rw [pos_none.mpr hx] at hp
    simp only [if_true] at hp
    rw [hp]
    exact ⟨fun k hk' => by cases hk'; exact ⟨Maps.has_put_same h.1 hk _, fun z => Maps.atKey_put_same h.1 hk _ z⟩, fun h => by cases h⟩
  · have hne : key s ≠ key x := fun h' => e (key_inj h').symm
    have hp' : pos s (L ++ [x]) = pos s L := by rw [hp]; cases pos s L <;> simp [e]
    rw [hp']
    refine ⟨fun k hk' => ?_, fun hk' => ?_⟩
    · rw [Maps.has_put_other hne]
      exact ⟨((h.2 s).1 k hk').1, fun z => by rw [Maps.atKey_put_other hne]; exact ((h.2 s).1 k hk').2 z⟩
    · rw [Maps.has_put_other hne]; exact (h.2 s).2 hk'
theorem Dct.has {D : DataW Unit} {L : List ByteArray} (h : Dct D L) (s : ByteArray) : Maps.has D (key s) = fndB s L := by
  cases hp : pos s L with
  | some k => rw [((h.2 s).1 k hp).1, (fnd_some hp).2]
  | none => rw [(h.2 s).2 hp, (fnd_none hp).2]
theorem Dct.at_ {D : DataW Unit} {L : List ByteArray} (h : Dct D L) (s : ByteArray) {c : Int} (hc : D.atKey (key s) (.lit (.int .i64 0)) = .lit (.int .i64 c)) : c = fndI s L := by
  cases hp : pos s L with
  | some k =>
    rw [((h.2 s).1 k hp).2] at hc
    have e : (k : Int) = c := by simpa using hc
    rw [(fnd_some hp).1, e]
  | none =>
    rw [Maps.atKey_of_not_has ((h.2 s).2 hp)] at hc
    have e : (0 : Int) = c := by simpa using hc
    rw [(fnd_none hp).1, e]
end Go.Proofs.Ytgomokdklajlcaa.Ident
/- Exact division of amounts among weights: the largest remainders. Pure. -/
namespace Go.Proofs.Ytgomokdklajlcaa.Share
set_option linter.unusedVariables false

/-! ### Counts and sums -/
/-- How many of 0 .. n-1 are so. -/
def cn (p : Nat → Bool) : Nat → Nat
  | 0 => 0
  | n + 1 => cn p n + if p n then 1 else 0
/-- The sum of 0 .. n-1. -/
def sm (f : Nat → Nat) : Nat → Nat
  | 0 => 0
  | n + 1 => sm f n + f n
theorem cn_congr {p q : Nat → Bool} : ∀ {n : Nat}, (∀ i, i < n → p i = q i) → cn p n = cn q n
  | 0, _ => rfl
  | n + 1, h => by rw [cn, cn, cn_congr fun i hi => h i (by omega), h n (by omega)]
theorem sm_congr {f g : Nat → Nat} : ∀ {n : Nat}, (∀ i, i < n → f i = g i) → sm f n = sm g n
  | 0, _ => rfl
  | n + 1, h => by rw [sm, sm, sm_congr fun i hi => h i (by omega), h n (by omega)]
theorem cn_le (p : Nat → Bool) : ∀ n, cn p n ≤ n
  | 0 => Nat.le_refl _
  | n + 1 => by have := cn_le p n; rw [cn]; split <;> omega
theorem cn_mono {p q : Nat → Bool} : ∀ {n : Nat}, (∀ i, i < n → p i = true → q i = true) → cn p n ≤ cn q n
  | 0, _ => Nat.le_refl _
  | n + 1, h => by
    have h1 := cn_mono (n := n) fun i hi => h i (by omega)
    have h2 := h n (by omega)
    rw [cn, cn]
    cases hp : p n with
    | false => simp; omega
    | true => rw [h2 hp]; omega
theorem cn_lt {p q : Nat → Bool} : ∀ {n : Nat}, (∀ i, i < n → p i = true → q i = true) → ∀ {i : Nat}, i < n → p i = false → q i = true → cn p n < cn q n
  | 0, _, i, hi, _, _ => by omega
  | n + 1, h, i, hi, h1, h2 => by
    rw [cn, cn]
    rcases Nat.lt_or_ge i n with hlt | hge
    · have h3 := cn_lt (n := n) (fun j hj => h j (by omega)) hlt h1 h2
      have h4 := h n (by omega)
      cases hp : p n with
      | false => simp; omega
      | true => rw [h4 hp]; omega
    · obtain rfl : i = n := by omega
      have h3 := cn_mono (n := i) fun j hj => h j (by omega)
      rw [h1, h2]
      simp; omega
theorem cn_none {p : Nat → Bool} : ∀ {n : Nat}, (∀ i, i < n → p i = false) → cn p n = 0
  | 0, _ => rfl
  | n + 1, h => by rw [cn, cn_none fun i hi => h i (by omega), h n (by omega)]; rfl
theorem cn_one {p : Nat → Bool} : ∀ {n i : Nat}, i < n → p i = true → (∀ j, j < n → p j = true → j = i) → cn p n = 1
  | 0, i, hi, _, _ => by omega
  | n + 1, i, hi, h1, h2 => by
    rw [cn]
    rcases Nat.lt_or_ge i n with hlt | hge
    · rw [cn_one hlt h1 fun j hj => h2 j (by omega)]
      cases hp : p n with
      | false => rfl
      | true => have := h2 n (by omega) hp; omega
    · obtain rfl : i = n := by omega
      have : cn p i = 0 := cn_none fun j hj => by
        cases hp : p j with
        | false => rfl
        | true => have := h2 j (by omega) hp; omega
      rw [this, h1]; rfl
theorem cn_or {p q : Nat → Bool} : ∀ {n : Nat}, (∀ i, i < n → ¬ (p i = true ∧ q i = true)) → cn (fun i => p i || q i) n = cn p n + cn q n
  | 0, _ => rfl
  | n + 1, h => by
    rw [cn, cn, cn, cn_or fun i hi => h i (by omega)]
    have := h n (by omega)
    cases hp : p n <;> cases hq : q n <;> simp [hp, hq] at this ⊢ <;> omega
theorem cn_not (p : Nat → Bool) : ∀ n, cn p n + cn (fun i => !p i) n = n
  | 0 => rfl
  | n + 1 => by
    have := cn_not p n
    rw [cn, cn]
    cases hp : p n <;> simp <;> omega
theorem cn_some {p : Nat → Bool} : ∀ {n : Nat}, 0 < cn p n → ∃ i, i < n ∧ p i = true
  | 0, h => by simp [cn] at h
  | n + 1, h => by
    cases hp : p n with
    | true => exact ⟨n, by omega, hp⟩
    | false =>
      rw [cn, hp] at h
      obtain ⟨i, hi, h1⟩ := cn_some (n := n) (by simpa using h)
      exact ⟨i, by omega, h1⟩
theorem sm_add (f g : Nat → Nat) : ∀ n, sm (fun i => f i + g i) n = sm f n + sm g n
  | 0 => rfl
  | n + 1 => by rw [sm, sm, sm, sm_add f g n]; omega
theorem sm_mul (c : Nat) (f : Nat → Nat) : ∀ n, sm (fun i => c * f i) n = c * sm f n
  | 0 => rfl
  | n + 1 => by rw [sm, sm, sm_mul c f n, Nat.mul_add]
theorem sm_const (c : Nat) : ∀ n, sm (fun _ => c) n = c * n
  | 0 => rfl
  | n + 1 => by rw [sm, sm_const c n, Nat.mul_succ]
theorem sm_le {f g : Nat → Nat} : ∀ {n : Nat}, (∀ i, i < n → f i ≤ g i) → sm f n ≤ sm g n
  | 0, _ => Nat.le_refl _
  | n + 1, h => Nat.add_le_add (sm_le fun i hi => h i (by omega)) (h n (by omega))
theorem sm_ite (p : Nat → Bool) : ∀ n, sm (fun i => if p i then 1 else 0) n = cn p n
  | 0 => rfl
  | n + 1 => by rw [sm, cn, sm_ite p n]
theorem sm_mono {f : Nat → Nat} {i n : Nat} (h : i ≤ n) : sm f i ≤ sm f n := by
  induction n with
  | zero => obtain rfl : i = 0 := by omega
            exact Nat.le_refl _
  | succ n ih =>
    rcases Nat.lt_or_ge n i with h1 | h1
    · obtain rfl : i = n + 1 := by omega
      exact Nat.le_refl _
    · exact Nat.le_trans (ih h1) (Nat.le_add_right _ _)
theorem sm_at {f : Nat → Nat} {i n : Nat} (h : i < n) : f i ≤ sm f n :=
  Nat.le_trans (Nat.le_add_left (f i) (sm f i)) (sm_mono (f := f) (i := i + 1) h)

/-! ### Ranks -/
/-- j comes before i: a larger remainder, of equal ones the lower index. -/
def bt (r : Nat → Nat) (j i : Nat) : Bool := decide (r i < r j) || (decide (r i = r j) && decide (j < i))
theorem bt_iff {r : Nat → Nat} {j i : Nat} : bt r j i = true ↔ r i < r j ∨ (r i = r j ∧ j < i) := by simp [bt]
theorem bt_irr (r : Nat → Nat) (i : Nat) : bt r i i = false := by simp [bt]
theorem bt_trans {r : Nat → Nat} {i j k : Nat} (h1 : bt r i j = true) (h2 : bt r j k = true) : bt r i k = true := by
  rw [bt_iff] at *; omega
theorem bt_total {r : Nat → Nat} {i j : Nat} (h : i ≠ j) : bt r i j = true ∨ bt r j i = true := by
  rw [bt_iff, bt_iff]; omega
theorem bt_as {r : Nat → Nat} {i j : Nat} (h : bt r i j = true) : bt r j i = false := by
  cases h1 : bt r j i with
  | false => rfl
  | true => rw [bt_iff] at h h1; omega
/-- How many of n come before i. -/
def rank (r : Nat → Nat) (n i : Nat) : Nat := cn (fun j => bt r j i) n
theorem rank_lt {r : Nat → Nat} {n i j : Nat} (hi : i < n) (h : bt r i j = true) : rank r n i < rank r n j :=
  cn_lt (fun k _ hk => bt_trans hk h) hi (bt_irr r i) h
theorem rank_ne {r : Nat → Nat} {n i j : Nat} (hi : i < n) (hj : j < n) (h : i ≠ j) : rank r n i ≠ rank r n j := by
  rcases bt_total (r := r) h with h1 | h1
  · have := rank_lt hi h1; omega
  · have := rank_lt hj h1; omega
theorem rank_iff {r : Nat → Nat} {n i j : Nat} (hi : i < n) (hj : j < n) : rank r n i < rank r n j ↔ bt r i j = true := by
  refine ⟨fun h => ?_, rank_lt hi⟩
  rcases Nat.decEq i j with he | he
  · rcases bt_total (r := r) he with h1 | h1
    · exact h1
    · have := rank_lt hj h1; omega
  · subst he; omega
/-- The first one of those that are so. -/
theorem best {r : Nat → Nat} {p : Nat → Bool} : ∀ {n : Nat}, (∃ i, i < n ∧ p i = true) → ∃ b, b < n ∧ p b = true ∧ ∀ i, i < n → p i = true → i = b ∨ bt r b i = true
  | 0, ⟨i, hi, _⟩ => by omega
  | n + 1, ⟨i, hi, h⟩ => by
    by_cases hex : ∃ i, i < n ∧ p i = true
    · obtain ⟨b, hb, h1, h2⟩ := best (r := r) hex
      cases hp : p n with
      | false =>
        refine ⟨b, by omega, h1, fun j hj hpj => ?_⟩
        rcases Nat.lt_or_ge j n with hlt | hge
        · exact h2 j hlt hpj
        · obtain rfl : j = n := by omega
          rw [hp] at hpj; cases hpj
      | true =>
        rcases bt_total (r := r) (i := b) (j := n) (by omega) with hbn | hbn
        · refine ⟨b, by omega, h1, fun j hj hpj => ?_⟩
          rcases Nat.lt_or_ge j n with hlt | hge
          · exact h2 j hlt hpj
          · obtain rfl : j = n := by omega
            exact Or.inr hbn
        · refine ⟨n, by omega, hp, fun j hj hpj => ?_⟩
          rcases Nat.lt_or_ge j n with hlt | hge
          · rcases h2 j hlt hpj with rfl | h3
            · exact Or.inr hbn
            · exact Or.inr (bt_trans hbn h3)
          · exact Or.inl (by omega)
    · obtain rfl : i = n := by
        rcases Nat.lt_or_ge i n with hlt | hge
        · exact absurd ⟨i, hlt, h⟩ hex
        · omega
      refine ⟨i, hi, h, fun j hj hpj => ?_⟩
      rcases Nat.lt_or_ge j i with hlt | hge
      · exact absurd ⟨j, hlt, hpj⟩ hex
      · exact Or.inl (by omega)
/-- Exactly k ranks lie below k, and one has the rank k. -/
theorem rank_cnt {r : Nat → Nat} {n : Nat} : ∀ k, k ≤ n → cn (fun i => decide (rank r n i < k)) n = k ∧ (k < n → ∃ b, b < n ∧ rank r n b = k) := by
  intro k
  induction k with
  | zero =>
    intro _
    have h0 : cn (fun i => decide (rank r n i < 0)) n = 0 := cn_none fun i _ => by simp
    refine ⟨h0, fun h => ?_⟩
    obtain ⟨b, hb, _, h2⟩ := best (r := r) (p := fun _ => true) (n := n) ⟨0, h, rfl⟩
    refine ⟨b, hb, cn_none fun j hj => ?_⟩
    rcases h2 j hj rfl with rfl | h3
    · exact bt_irr _ _
    · exact bt_as h3
  | succ k ih =>
    intro hk
    obtain ⟨h1, h2⟩ := ih (by omega)
    obtain ⟨b, hb, hr⟩ := h2 (by omega)
    have hc : cn (fun i => decide (rank r n i < k + 1)) n = k + 1 := by
      have h3 : cn (fun i => decide (rank r n i < k) || decide (rank r n i = k)) n = k + 1 := by
        rw [cn_or fun i _ h => by simp at h; omega, h1, cn_one (i := b) hb (by simp [hr]) fun j hj h => by
          rcases Nat.decEq j b with he | he
          · have := rank_ne (r := r) hj hb he; simp at h; omega
          · exact he]
      rw [← h3]
      exact cn_congr fun i _ => by
        rw [Bool.eq_iff_iff]; simp; omega
    refine ⟨hc, fun hlt => ?_⟩
    have hnot := cn_not (fun i => decide (rank r n i < k + 1)) n
    obtain ⟨b2, hb2, hp2, hbest⟩ := best (r := r) (p := fun i => !decide (rank r n i < k + 1)) (n := n) (cn_some (by omega))
    refine ⟨b2, hb2, ?_⟩
    have hge : k + 1 ≤ rank r n b2 := by simpa using hp2
    have hle : rank r n b2 ≤ k + 1 := by
      rw [← hc]
      refine cn_mono fun j hj hbj => ?_
      cases hd : decide (rank r n j < k + 1) with
      | true => rfl
      | false =>
        rcases hbest j hj (by simp only [hd]; rfl) with rfl | h3
        · rw [bt_irr] at hbj; cases hbj
        · rw [bt_as h3] at hbj; cases hbj
    omega
/-- The one of rank k is the first one of those of rank k and above. -/
theorem rank_best {r : Nat → Nat} {n k b i : Nat} (hb : b < n) (hr : rank r n b = k) (hi : i < n) (hk : k ≤ rank r n i) : i = b ∨ bt r b i = true := by
  rcases Nat.decEq i b with he | he
  · exact Or.inr ((rank_iff hb hi).mp (by have := rank_ne (r := r) hi hb he; omega))
  · exact Or.inl he
/-- In a list that is sorted so, each lies at its rank. -/
theorem rank_sorted {r : Nat → Nat} {n : Nat} {s : Nat → Nat} (hs : ∀ k, k < n → s k < n) (hord : ∀ j k, j < k → k < n → bt r (s j) (s k) = true) : ∀ k, k < n → rank r n (s k) = k := by
  have hge : ∀ k, k < n → k ≤ rank r n (s k) := by
    intro k
    induction k with
    | zero => intro _; exact Nat.zero_le _
    | succ k ih =>
      intro hk
      have h1 := ih (by omega)
      have h2 := rank_lt (r := r) (hs k (by omega)) (hord k (k + 1) (by omega) hk)
      omega
  have hlt : ∀ i, i < n → rank r n i < n := fun i hi => by
    have h := cn_lt (p := fun j => bt r j i) (q := fun _ => true) (n := n) (fun _ _ _ => rfl) hi (bt_irr r i) rfl
    have h2 := cn_le (fun _ => true) n
    exact Nat.lt_of_lt_of_le h h2
  have hle : ∀ d k, k + d + 1 = n → rank r n (s k) ≤ k := by
    intro d
    induction d with
    | zero => intro k hk; have := hlt (s k) (hs k (by omega)); omega
    | succ d ih =>
      intro k hk
      have h1 := ih (k + 1) (by omega)
      have h2 := rank_lt (r := r) (hs k (by omega)) (hord k (k + 1) (by omega) (by omega))
      omega
  intro k hk
  have h1 := hge k hk
  have h2 := hle (n - 1 - k) k (by omega)
  omega

/-! ### The parts -/
section
variable (T : Nat) (w : Nat → Nat) (n : Nat)
def tw : Nat := sm w n
def quo (i : Nat) : Nat := T * w i / tw w n
def rst (i : Nat) : Nat := T * w i % tw w n
def lft : Nat := T - sm (quo T w n) n
def part (i : Nat) : Nat := if tw w n = 0 then 0 else quo T w n i + if rank (rst T w n) n i < lft T w n then 1 else 0
def bnd (i : Nat) : Nat := if tw w n = 0 then 0 else T * sm w (i + 1) / tw w n
end
variable {T : Nat} {w : Nat → Nat} {n : Nat}
theorem quo_rst (i : Nat) : tw w n * quo T w n i + rst T w n i = T * w i := Nat.div_add_mod _ _
theorem sum_all : tw w n * sm (quo T w n) n + sm (rst T w n) n = T * tw w n := by
  rw [← sm_mul, ← sm_add, sm_congr (g := fun i => T * w i) fun i _ => quo_rst i, sm_mul]
  rfl
theorem sum_le (h : 0 < tw w n) : sm (quo T w n) n ≤ T := by
  have h1 := sum_all (T := T) (w := w) (n := n)
  have h2 : tw w n * sm (quo T w n) n ≤ tw w n * T := by rw [Nat.mul_comm (tw w n) T]; omega
  exact Nat.le_of_mul_le_mul_left h2 h
theorem lft_eq (h : 0 < tw w n) : tw w n * lft T w n = sm (rst T w n) n := by
  have h1 := sum_all (T := T) (w := w) (n := n)
  have h2 := sum_le (T := T) h
  unfold lft
  rw [Nat.mul_sub, Nat.mul_comm (tw w n) T]; omega
theorem rst_lt (h : 0 < tw w n) (i : Nat) : rst T w n i < tw w n := Nat.mod_lt _ h
/-- Fewer units are left than there are remainders above zero. -/
theorem lft_pos (h : 0 < tw w n) : lft T w n ≤ cn (fun i => decide (0 < rst T w n i)) n := by
  have h1 := lft_eq (T := T) h
  have h2 : sm (rst T w n) n ≤ tw w n * cn (fun i => decide (0 < rst T w n i)) n := by
    rw [← sm_ite, ← sm_mul]
    refine sm_le fun i _ => ?_
    have := rst_lt (T := T) h i
    by_cases h0 : 0 < rst T w n i
    · simp [h0]; omega
    · simp [h0]; omega
  exact Nat.le_of_mul_le_mul_left (by rw [h1]; exact h2) h
theorem lft_lt (h : 0 < tw w n) : lft T w n < n := by
  have h0 : 0 < n := by
    rcases Nat.eq_zero_or_pos n with rfl | h1
    · simp [tw, sm] at h
    · exact h1
  have h1 := lft_eq (T := T) h
  have h2 : sm (rst T w n) n ≤ (tw w n - 1) * n := by
    have : sm (rst T w n) n ≤ sm (fun _ => tw w n - 1) n := sm_le fun i _ => by have := rst_lt (T := T) h i; omega
    refine Nat.le_trans this ?_
    exact Nat.le_of_eq (sm_const _ n)
  rcases Nat.lt_or_ge (lft T w n) n with h3 | h3
  · exact h3
  · have h4 : tw w n * n ≤ tw w n * lft T w n := Nat.mul_le_mul_left _ h3
    have h5 : (tw w n - 1) * n + n = tw w n * n := by
      obtain ⟨c, hc⟩ : ∃ c, tw w n = c + 1 := ⟨tw w n - 1, by omega⟩
      rw [hc, Nat.add_sub_cancel, Nat.succ_mul]
    omega
/-- A part whose exact share is an integer gets no unit. -/
theorem whole_rank (h : 0 < tw w n) {i : Nat} (h0 : rst T w n i = 0) : lft T w n ≤ rank (rst T w n) n i := by
  refine Nat.le_trans (lft_pos h) (cn_mono fun j hj h1 => ?_)
  rw [bt_iff]
  have : 0 < rst T w n j := by simpa using h1
  omega
/-- The parts add up to the total. -/
theorem part_sum (h : 0 < tw w n) : sm (part T w n) n = T := by
  have h1 : sm (part T w n) n = sm (fun i => quo T w n i + if decide (rank (rst T w n) n i < lft T w n) then 1 else 0) n :=
    sm_congr fun i _ => by unfold part; rw [if_neg (by omega)]; simp
  rw [h1, sm_add, sm_ite, (rank_cnt (r := rst T w n) (lft T w n) (Nat.le_of_lt (lft_lt h))).1]
  have := sum_le (T := T) h
  unfold lft
  omega
/-- Each part is the exact share, rounded down or up. -/
theorem part_near (h : 0 < tw w n) (i : Nat) : quo T w n i ≤ part T w n i ∧ part T w n i ≤ quo T w n i + (if rst T w n i = 0 then 0 else 1) := by
  unfold part
  rw [if_neg (by omega)]
  by_cases h0 : rst T w n i = 0
  · have := whole_rank (T := T) h h0
    rw [if_pos h0, if_neg (by omega)]
    omega
  · rw [if_neg h0]
    split <;> omega
/-- Greater weights, greater parts. -/
theorem part_order (h : 0 < tw w n) {i j : Nat} (hi : i < n) (hj : j < n) (hw : w j < w i) : part T w n j ≤ part T w n i := by
  have h1 := quo_rst (T := T) (w := w) (n := n) i
  have h2 := quo_rst (T := T) (w := w) (n := n) j
  have r1 := rst_lt (T := T) (w := w) h i
  have r2 := rst_lt (T := T) (w := w) h j
  have hq : quo T w n j ≤ quo T w n i := Nat.div_le_div_right (Nat.mul_le_mul_left _ (by omega))
  have hz : ¬ tw w n = 0 := by omega
  simp only [part, if_neg hz]
  rcases Nat.lt_or_ge (quo T w n j) (quo T w n i) with hlt | hge
  · split <;> split <;> omega
  · have hqe : quo T w n j = quo T w n i := by omega
    rw [hqe] at h2 ⊢
    have hm : T * w j ≤ T * w i := Nat.mul_le_mul_left _ (by omega)
    rcases Nat.lt_or_ge (rst T w n j) (rst T w n i) with hr | hr
    · have := (rank_iff (r := rst T w n) hi hj).mpr (by rw [bt_iff]; exact Or.inl hr)
      split <;> split <;> omega
    · have hTe : T * w j = T * w i := by omega
      have hT : T = 0 := by
        rcases Nat.eq_zero_or_pos T with h0 | h0
        · exact h0
        · have := Nat.mul_lt_mul_of_pos_left hw h0; omega
      have hl : lft T w n = 0 := by unfold lft; omega
      rw [hl]
      simp
/-- Equal weights: the earlier part is not less, and at most 1 greater. -/
theorem part_equal (h : 0 < tw w n) {i j : Nat} (hi : i < n) (hj : j < n) (hij : i < j) (hw : w i = w j) : part T w n j ≤ part T w n i ∧ part T w n i ≤ part T w n j + 1 := by
  have hq : quo T w n i = quo T w n j := by unfold quo; rw [hw]
  have hr : rst T w n i = rst T w n j := by unfold rst; rw [hw]
  have := (rank_iff (r := rst T w n) hi hj).mpr (by rw [bt_iff]; exact Or.inr ⟨hr.symm, hij⟩)
  have hz : ¬ tw w n = 0 := by omega
  simp only [part, if_neg hz, hq]
  split <;> split <;> omega
/-- Scale. -/
theorem tw_scale (b : Nat) : tw (fun i => b * w i) n = b * tw w n := sm_mul b w n
theorem quo_scale {b : Nat} (hb : 0 < b) (i : Nat) : quo T (fun i => b * w i) n i = quo T w n i := by
  unfold quo
  rw [tw_scale, Nat.mul_left_comm, Nat.mul_div_mul_left _ _ hb]
theorem rst_scale {b : Nat} (i : Nat) : rst T (fun i => b * w i) n i = b * rst T w n i := by
  unfold rst
  rw [tw_scale, Nat.mul_left_comm, Nat.mul_mod_mul_left]
theorem part_scale {b : Nat} (hb : 0 < b) {i : Nat} : part T (fun i => b * w i) n i = part T w n i := by
  unfold part
  have h1 : lft T (fun i => b * w i) n = lft T w n := by
    unfold lft
    rw [sm_congr fun i _ => quo_scale hb i]
  have h2 : rank (rst T (fun i => b * w i) n) n i = rank (rst T w n) n i := cn_congr fun j _ => by
    unfold bt
    rw [rst_scale, rst_scale]
    have e1 : (b * rst T w n i < b * rst T w n j) ↔ (rst T w n i < rst T w n j) := Nat.mul_lt_mul_left hb
    have e2 : (b * rst T w n i = b * rst T w n j) ↔ (rst T w n i = rst T w n j) := Nat.mul_right_inj (by omega)
    simp only [e1, e2]
  rw [h1, h2, quo_scale hb, tw_scale]
  by_cases h0 : tw w n = 0
  · simp [h0]
  · rw [if_neg h0, if_neg (by have := Nat.mul_pos hb (Nat.pos_of_ne_zero h0); omega)]
theorem bnd_scale {b : Nat} (hb : 0 < b) {i : Nat} : bnd T (fun i => b * w i) n i = bnd T w n i := by
  unfold bnd
  rw [tw_scale, sm_mul, Nat.mul_left_comm, Nat.mul_div_mul_left _ _ hb]
  by_cases h0 : tw w n = 0
  · simp [h0]
  · rw [if_neg h0, if_neg (by have := Nat.mul_pos hb (Nat.pos_of_ne_zero h0); omega)]
end Go.Proofs.Ytgomokdklajlcaa.Share
