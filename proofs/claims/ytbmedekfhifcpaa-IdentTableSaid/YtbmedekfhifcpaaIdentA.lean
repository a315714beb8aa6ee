/- Identifiers and tables of them as lists of strings: what the chapter says, in Lean. -/
import Derived.Test.YtbmedekfhifcpaaRows
import Derived.WalkKit
import Derived.WalkLawsBesides
import Derived.WalkSpells
import Derived.Outline
import Derived.Laws.OwnMore
import Derived.OwnWalk
import Derived.Lib.Hide
import Derived.Maps.OwnSet
namespace Go.Proofs.Ytbmedekfhifcpaa.Ident
open Go.ChangeShapes Go.WideShapes Go.RowKit
set_option linter.unusedVariables false
set_option maxRecDepth 100000

/-- A letter of ASCII. -/
def letN (n : Int) : Bool := (decide (65 ≤ n) && decide (n ≤ 90)) || (decide (97 ≤ n) && decide (n ≤ 122))
/-- What may stand behind the first byte. -/
def perN (n : Int) : Bool := letN n || (decide (48 ≤ n) && decide (n ≤ 57)) || decide (n = 45) || decide (n = 95) || decide (n = 46)
def byt (b : UInt8) : Int := (b.toNat : Int)
def perB (b : UInt8) : Bool := perN (byt b)
/-- An identifier: the bytes of a string. -/
def okB (l : List UInt8) : Bool := match l with
  | [] => false
  | b :: r => letN (byt b) && (b :: r).all perB && decide ((b :: r).length ≤ 32)
def validB (s : ByteArray) : Bool := okB s.data.toList
theorem letN_iff {n : Int} : letN n = true ↔ (65 ≤ n ∧ n ≤ 90) ∨ (97 ≤ n ∧ n ≤ 122) := by simp [letN]
theorem perN_iff {n : Int} : perN n = true ↔ (65 ≤ n ∧ n ≤ 90) ∨ (97 ≤ n ∧ n ≤ 122) ∨ (48 ≤ n ∧ n ≤ 57) ∨ n = 45 ∨ n = 95 ∨ n = 46 := by
  simp [perN, letN_iff, or_assoc]
theorem letN_per {n : Int} (h : letN n = true) : perN n = true := by simp [perN, h]
theorem str_get? (s : ByteArray) {k : Nat} (h : k < s.size) : s.data.toList[k]? = some s[k] := by
  rw [Array.getElem?_toList]
  exact Array.getElem?_eq_getElem h
theorem str_len (s : ByteArray) : s.data.toList.length = s.size := by rw [Array.length_toList]; rfl
theorem str_ext {a b : ByteArray} (h : a.data.toList = b.data.toList) : a = b := ByteArray.ext (Array.toList_inj.mp h)
theorem okB_nil : okB [] = false := rfl
theorem okB_long {l : List UInt8} (h : 32 < l.length) : okB l = false := by
  cases l with
  | nil => rfl
  | cons b r => simp only [okB]; rw [decide_eq_false (p := (b :: r).length ≤ 32) (by omega), Bool.and_false]
theorem okB_first {l : List UInt8} {b : UInt8} (h : l[0]? = some b) (hb : letN (byt b) = false) : okB l = false := by
  cases l with
  | nil => rfl
  | cons c r => simp at h; subst h; simp [okB, hb]
theorem okB_at {l : List UInt8} {k : Nat} {b : UInt8} (h : l[k]? = some b) (hb : perB b = false) : okB l = false := by
  have : l.all perB = false := by rw [List.all_eq_false]; exact ⟨b, List.mem_of_getElem? h, by simp [hb]⟩
  cases l with
  | nil => rfl
  | cons c r => simp only [okB]; rw [this]; simp
theorem okB_yes {l : List UInt8} {b : UInt8} (h : l[0]? = some b) (hb : letN (byt b) = true) (ha : l.all perB = true) (hl : l.length ≤ 32) : okB l = true := by
  cases l with
  | nil => simp at h
  | cons c r => simp at h; subst h; simp only [okB]; rw [hb, ha, decide_eq_true hl]; rfl
theorem okB_open {l : List UInt8} (h : okB l = true) : ∃ b r, l = b :: r ∧ letN (byt b) = true ∧ l.all perB = true ∧ l.length ≤ 32 := by
  cases l with
  | nil => cases h
  | cons b r =>
    simp only [okB, Bool.and_eq_true, decide_eq_true_eq] at h
    exact ⟨b, r, rfl, h.1.1, h.1.2, h.2⟩
theorem validB_size {s : ByteArray} (h : validB s = true) : 1 ≤ s.size ∧ s.size ≤ 32 := by
  obtain ⟨b, r, e, _, _, hl⟩ := okB_open h
  have h1 := str_len s
  rw [e] at h1 hl
  simp at h1 hl; omega

/-! ### A table's names -/
/-- Where a name stands first. -/
def pos (s : ByteArray) : List ByteArray → Option Nat
  | [] => none
  | x :: r => if x = s then some 0 else (pos s r).map (· + 1)
theorem pos_none {s : ByteArray} : ∀ {L : List ByteArray}, pos s L = none ↔ s ∉ L
  | [] => by simp [pos]
  | x :: r => by
    have ih := @pos_none s r
    unfold pos
    by_cases h : x = s
    · simp [h]
    · rw [if_neg h, Option.map_eq_none_iff, ih]
      simp only [List.mem_cons, not_or]
      exact ⟨fun h1 => ⟨fun e => h e.symm, h1⟩, fun h1 => h1.2⟩
theorem pos_some {s : ByteArray} : ∀ {L : List ByteArray} {k : Nat}, pos s L = some k → L[k]? = some s ∧ ∀ j, j < k → L[j]? ≠ some s
  | [], k, h => by simp [pos] at h
  | x :: r, k, h => by
    unfold pos at h
    by_cases e : x = s
    · rw [if_pos e] at h; cases h
      exact ⟨by simp [e], fun j hj => by omega⟩
    · rw [if_neg e] at h
      obtain ⟨j, hj, rfl⟩ := Option.map_eq_some_iff.mp h
      obtain ⟨h1, h2⟩ := pos_some hj
      refine ⟨by simpa using h1, fun i hi => ?_⟩
      cases i with
      | zero => simpa using e
      | succ i => simpa using h2 i (by omega)
theorem pos_of {s : ByteArray} : ∀ {L : List ByteArray} {k : Nat}, L[k]? = some s → (∀ j, j < k → L[j]? ≠ some s) → pos s L = some k
  | [], k, h, _ => by simp at h
  | x :: r, 0, h, _ => by simp at h; simp [pos, h]
  | x :: r, k + 1, h, hn => by
    have h0 := hn 0 (by omega)
    have e : x ≠ s := by simpa using h0
    unfold pos
    rw [if_neg e, pos_of (L := r) (k := k) (by simpa using h) (fun j hj => by simpa using hn (j + 1) (by omega))]; rfl
theorem pos_lt {s : ByteArray} {L : List ByteArray} {k : Nat} (h : pos s L = some k) : k < L.length := by
  have := (pos_some h).1
  exact (List.getElem?_eq_some_iff.mp this).1
theorem pos_mem {s : ByteArray} {L : List ByteArray} {k : Nat} (h : pos s L = some k) : s ∈ L := List.mem_of_getElem? (pos_some h).1
theorem pos_at {L : List ByteArray} (hn : L.Nodup) {k : Nat} {s : ByteArray} (h : L[k]? = some s) : pos s L = some k := by
  refine pos_of h fun j hj h' => ?_
  obtain ⟨h1, e1⟩ := List.getElem?_eq_some_iff.mp h
  obtain ⟨h2, e2⟩ := List.getElem?_eq_some_iff.mp h'
  have := (List.getElem_inj (h₀ := h2) (h₁ := h1) hn).mp (e2.trans e1.symm)
  omega
theorem pos_snoc {s x : ByteArray} {L : List ByteArray} : pos s (L ++ [x]) = match pos s L with | some k => some k | none => if x = s then some L.length else none := by
  induction L with
  | nil => simp [pos]
  | cons y r ih =>
    simp only [List.cons_append, pos]
    by_cases e : y = s
    · simp [e]
    · rw [if_neg e, if_neg e, ih]
      cases hp : pos s r with
      | some k => simp
      | none => by_cases e2 : x = s <;> simp [e2]
def fndI (s : ByteArray) (L : List ByteArray) : Int := match pos s L with | some k => (k : Int) | none => 0
def fndB (s : ByteArray) (L : List ByteArray) : Bool := (pos s L).isSome
theorem fnd_some {s : ByteArray} {L : List ByteArray} {k : Nat} (h : pos s L = some k) : fndI s L = (k : Int) ∧ fndB s L = true := by simp [fndI, fndB, h]
theorem fnd_none {s : ByteArray} {L : List ByteArray} (h : pos s L = none) : fndI s L = 0 ∧ fndB s L = false := by simp [fndI, fndB, h]
theorem fndB_iff {s : ByteArray} {L : List ByteArray} : fndB s L = true ↔ s ∈ L := by
  cases h : pos s L with
  | some k => rw [(fnd_some h).2]; exact ⟨fun _ => pos_mem h, fun _ => rfl⟩
  | none => rw [(fnd_none h).2]; exact ⟨fun e => (by cases e), fun e => absurd e (pos_none.mp h)⟩
theorem fndB_no {s : ByteArray} {L : List ByteArray} (h : fndB s L = false) : s ∉ L := fun e => by rw [fndB_iff.mpr e] at h; cases h

/-! ### Add -/
def addE (L : List ByteArray) (s : ByteArray) : Int := if validB s = false then 5 else if fndB s L = true then 6 else if L.length = 512 then 8 else 0
def addI (L : List ByteArray) (s : ByteArray) : Int := if addE L s = 0 then (L.length : Int) else 0
def addL (L : List ByteArray) (s : ByteArray) : List ByteArray := if addE L s = 0 then L ++ [s] else L
theorem addE_bad {L : List ByteArray} {s : ByteArray} (h : validB s = false) : addE L s = 5 := by simp [addE, h]
theorem addE_twice {L : List ByteArray} {s : ByteArray} (h : validB s = true) (h2 : fndB s L = true) : addE L s = 6 := by simp [addE, h, h2]
theorem addE_full {L : List ByteArray} {s : ByteArray} (h : validB s = true) (h2 : fndB s L = false) (h3 : L.length = 512) : addE L s = 8 := by simp [addE, h, h2, h3]
theorem addE_ok {L : List ByteArray} {s : ByteArray} (h : validB s = true) (h2 : fndB s L = false) (h3 : ¬ L.length = 512) : addE L s = 0 := by simp [addE, h, h2, h3]
theorem addE_zero {L : List ByteArray} {s : ByteArray} (h : addE L s = 0) : validB s = true ∧ fndB s L = false ∧ ¬ L.length = 512 := by
  unfold addE at h
  split at h
  · cases h
  split at h
  · cases h
  split at h
  · cases h
  rename_i h1 h2 h3
  exact ⟨by simpa using h1, by simpa using h2, h3⟩
theorem add_no {L : List ByteArray} {s : ByteArray} (h : ¬ addE L s = 0) : addI L s = 0 ∧ addL L s = L := by simp [addI, addL, h]
theorem add_yes {L : List ByteArray} {s : ByteArray} (h : addE L s = 0) : addI L s = (L.length : Int) ∧ addL L s = L ++ [s] := by simp [addI, addL, h]
/-- What holds of a table's names. -/
structure Good (L : List ByteArray) : Prop where
  nodup : L.Nodup
  valid : ∀ s ∈ L, validB s = true
  len : L.length ≤ 512
theorem Good.nil : Good [] := ⟨List.nodup_nil, by simp, by simp⟩
theorem Good.snoc {L : List ByteArray} {s : ByteArray} (h : Good L) (hv : validB s = true) (hf : s ∉ L) (hl : L.length ≠ 512) : Good (L ++ [s]) := by
  refine ⟨List.nodup_append.mpr ⟨h.nodup, by simp, fun a ha b hb => by simp at hb; subst hb; exact fun e => hf (e ▸ ha)⟩, fun t ht => ?_, ?_⟩
  · rcases List.mem_append.mp ht with h1 | h1
    · exact h.valid t h1
    · simp at h1; subst h1; exact hv
  · have := h.len; simp; omega
theorem Good.add {L : List ByteArray} (h : Good L) (s : ByteArray) : Good (addL L s) := by
  unfold addL
  split
  · rename_i e
    obtain ⟨h1, h2, h3⟩ := addE_zero e
    exact h.snoc h1 (fndB_no h2) h3
  · exact h
/-- What New answers. -/
def newE (L : List ByteArray) : Int := if 512 < L.length then 8 else if L.all validB = false then 5 else if L.Nodup then 0 else 6
theorem newE_full {L : List ByteArray} (h : 512 < L.length) : newE L = 8 := by simp [newE, h]
theorem newE_bad {L : List ByteArray} (h : ¬ 512 < L.length) (h2 : L.all validB = false) : newE L = 5 := by unfold newE; rw [if_neg h, if_pos h2]
theorem newE_twice {L : List ByteArray} (h : ¬ 512 < L.length) (h2 : L.all validB = true) (h3 : ¬ L.Nodup) : newE L = 6 := by unfold newE; rw [if_neg h, if_neg (by simp [h2]), if_neg h3]
theorem newE_ok {L : List ByteArray} (h : ¬ 512 < L.length) (h2 : L.all validB = true) (h3 : L.Nodup) : newE L = 0 := by unfold newE; rw [if_neg h, if_neg (by simp [h2]), if_pos h3]
theorem newE_zero {L : List ByteArray} : newE L = 0 ↔ Good L := by
  constructor
  · intro h
    unfold newE at h
    split at h
    · cases h
    split at h
    · cases h
    split at h
    · rename_i h1 h2 h3
      have h2' : L.all validB = true := by simpa using h2
      exact ⟨h3, fun s hs => List.all_eq_true.mp h2' s hs, by omega⟩
    · cases h
  · intro h
    exact newE_ok (by have := h.len; omega) (List.all_eq_true.mpr h.valid) h.nodup

/-! ### The map -/
def key (s : ByteArray) : Lit := .string s.data.toList
theorem key_inj {a b : ByteArray} (h : key a = key b) : a = b := str_ext (by simpa [key] using h)
/-- The map reads as the indices of the names. -/
def Dct (D : DataW Unit) (L : List ByteArray) : Prop :=
  Maps.IsMap D ∧ ∀ s, (∀ k, pos s L = some k → Maps.has D (key s) = true ∧ ∀ z, D.atKey (key s) z = .lit (.int .i64 (k : Int))) ∧ (pos s L = none → Maps.has D (key s) = false)
theorem Dct.nil : Dct (.map []) [] := ⟨Maps.isMap_empty, fun s => ⟨fun k h => by simp [pos] at h, fun _ => rfl⟩⟩
theorem Dct.snoc {D : DataW Unit} {L : List ByteArray} {x : ByteArray} (h : Dct D L) (hx : x ∉ L) : Dct (D.put (key x) (.lit (.int .i64 (L.length : Int)))) (L ++ [x]) := by
  have hk : WideAt.IsKeyLit (key x) := trivial
  refine ⟨h.1.put _ _, fun s => ?_⟩
  have hp := @pos_snoc s x L
  by_cases e : x = s
  · subst e
    rw [pos_none.mpr hx] at hp
    simp only [if_true] at hp
    rw [hp]
    exact ⟨fun k hk' => by cases hk'; exact ⟨Maps.has_put_same h.1 hk _, fun z => Maps.atKey_put_same h.1 hk _ z⟩, fun h => by cases h⟩
  · have hne : key s ≠ key x := fun h' => e (key_inj h').symm
    have hp' : pos s (L ++ [x]) = pos s L := by rw [hp]; cases pos s L <;> simp [e]
    rw [hp']
    refine ⟨fun k hk' => ?_, fun hk' => ?_⟩
    · rw [Maps.has_put_other hne]
      exact ⟨((h.2 s).1 k hk').1, fun z => by rw [Maps.atKey_put_other hne]; exact ((h.2 s).1 k hk').2 z⟩
    · rw [Maps.has_put_other hne]; exact (h.2 s).2 hk'
theorem Dct.has {D : DataW Unit} {L : List ByteArray} (h : Dct D L) (s : ByteArray) : Maps.has D (key s) = fndB s L := by
  cases hp : pos s L with
  | some k => rw [((h.2 s).1 k hp).1, (fnd_some hp).2]
  | none => rw [(h.2 s).2 hp, (fnd_none hp).2]
theorem Dct.at_ {D : DataW Unit} {L : List ByteArray} (h : Dct D L) (s : ByteArray) {c : Int} (hc : D.atKey (key s) (.lit (.int .i64 0)) = .lit (.int .i64 c)) : c = fndI s L := by
  cases hp : pos s L with
  | some k =>
    rw [((h.2 s).1 k hp).2] at hc
    have e : (k : Int) = c := by simpa using hc
    rw [(fnd_some hp).1, e]
  | none =>
    rw [Maps.atKey_of_not_has ((h.2 s).2 hp)] at hc
    have e : (0 : Int) = c := by simpa using hc
    rw [(fnd_none hp).1, e]
#print axioms newE_zero
#print axioms Dct.at_
end Go.Proofs.Ytbmedekfhifcpaa.Ident
