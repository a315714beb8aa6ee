/- Fields, lines and texts as lists of bytes: what the chapter says, in Lean. -/
import Derived.Test.YthiebggamfmjgaaDoorRows
import Derived.WalkKit
import Derived.WalkLawsBesides
import Derived.WalkSpells
import Derived.Outline
import Derived.Laws.OwnMore
import Derived.OwnWalk
import Derived.Lib.Hide
namespace Go.Proofs.YthiebggamfmjgaaDoor.Field
open Go.ChangeShapes Go.WideShapes Go.RowKit
set_option linter.unusedVariables false
set_option maxRecDepth 100000

theorem str_get? (s : ByteArray) {k : Nat} (h : k < s.size) : s.data.toList[k]? = some s[k] := by
  rw [Array.getElem?_toList]
  exact Array.getElem?_eq_getElem h
theorem str_len (s : ByteArray) : s.data.toList.length = s.size := by rw [Array.length_toList]; rfl
theorem str_ext {a b : ByteArray} (h : a.data.toList = b.data.toList) : a = b := ByteArray.ext (Array.toList_inj.mp h)
/-- A string of these bytes. -/
def bs (l : List UInt8) : ByteArray := ⟨l.toArray⟩
theorem bs_list (l : List UInt8) : (bs l).data.toList = l := by simp [bs]
theorem bs_size (l : List UInt8) : (bs l).size = l.length := by rw [← str_len, bs_list]
theorem bs_of (s : ByteArray) : bs s.data.toList = s := str_ext (bs_list _)
def ls (s : ByteArray) : List UInt8 := s.data.toList
theorem bs_inj {a b : List UInt8} (h : bs a = bs b) : a = b := by rw [← bs_list a, h, bs_list]
theorem bs_eq {s : ByteArray} {l : List UInt8} (h : s.data.toList = l) : s = bs l := by rw [← h, bs_of]
def LL (L : List ByteArray) : List (List UInt8) := L.map fun s => s.data.toList
def BB (M : List (List UInt8)) : List ByteArray := M.map bs
theorem LL_BB (M : List (List UInt8)) : LL (BB M) = M := by
  unfold LL BB; rw [List.map_map]; conv => rhs; rw [← List.map_id M]
  exact List.map_congr_left fun x _ => bs_list x
theorem BB_LL (L : List ByteArray) : BB (LL L) = L := by
  unfold LL BB; rw [List.map_map]; conv => rhs; rw [← List.map_id L]
  exact List.map_congr_left fun x _ => bs_of x
theorem LL_len (L : List ByteArray) : (LL L).length = L.length := by simp [LL]
theorem BB_len (M : List (List UInt8)) : (BB M).length = M.length := by simp [BB]
theorem LL_inj {a b : List ByteArray} (h : LL a = LL b) : a = b := by rw [← BB_LL a, h, BB_LL]
theorem BB_inj {a b : List (List UInt8)} (h : BB a = BB b) : a = b := by rw [← LL_BB a, h, LL_BB]
theorem BB_snoc (M : List (List UInt8)) (x : List UInt8) : BB (M ++ [x]) = BB M ++ [bs x] := by simp [BB]
theorem LL_get {L : List ByteArray} {k : Nat} {s : ByteArray} (h : L[k]? = some s) : (LL L)[k]? = some s.data.toList := by unfold LL; rw [List.getElem?_map, h]; rfl
theorem LL_take (L : List ByteArray) (k : Nat) : LL (L.take k) = (LL L).take k := by unfold LL; rw [List.map_take]
theorem take_snoc_of {α : Type} {l : List α} {k : Nat} {z : α} (h : l[k]? = some z) : l.take (k + 1) = l.take k ++ [z] := by
  rw [List.take_add_one, h]; rfl
theorem drop_cons_of {α : Type} {l : List α} {k : Nat} {z : α} (h : l[k]? = some z) : l.drop k = z :: l.drop (k + 1) := by
  obtain ⟨h1, rfl⟩ := List.getElem?_eq_some_iff.mp h
  exact List.drop_eq_getElem_cons h1

/-! ### Fields and lines -/
/-- What a field may hold. -/
def okB (b : UInt8) : Bool := decide (32 ≤ b.toNat) && decide (b.toNat ≤ 126)
def isQ (b : UInt8) : Bool := b == 34 || b == 92
def isS (b : UInt8) : Bool := b == 32 || b == 34 || b == 92
def esc : List UInt8 → List UInt8
  | [] => []
  | b :: r => if isQ b then 92 :: b :: esc r else b :: esc r
theorem esc_append (a b : List UInt8) : esc (a ++ b) = esc a ++ esc b := by
  induction a with
  | nil => rfl
  | cons x r ih => simp only [List.cons_append, esc]; split <;> simp [ih]
theorem esc_one (b : UInt8) : esc [b] = if isQ b then [92, b] else [b] := rfl
theorem esc_len (a : List UInt8) : (esc a).length ≤ 2 * a.length := by
  induction a with
  | nil => simp [esc]
  | cons x r ih => simp only [esc]; split <;> simp <;> omega
def plainF (l : List UInt8) : Bool := !l.isEmpty && !l.any isS
/-- A field's form. -/
def formL (l : List UInt8) : List UInt8 := if plainF l then l else 34 :: (esc l ++ [34])
def tailL : List (List UInt8) → List UInt8
  | [] => []
  | x :: r => 32 :: (formL x ++ tailL r)
/-- The line of some fields. -/
def lineL : List (List UInt8) → List UInt8
  | [] => []
  | x :: r => formL x ++ tailL r
theorem tailL_snoc (M : List (List UInt8)) (x : List UInt8) : tailL (M ++ [x]) = tailL M ++ 32 :: formL x := by
  induction M with
  | nil => simp [tailL]
  | cons y r ih => simp [tailL, ih]
theorem lineL_one (x : List UInt8) : lineL [x] = formL x := by simp [lineL, tailL]
theorem lineL_snoc {M : List (List UInt8)} (h : M ≠ []) (x : List UInt8) : lineL (M ++ [x]) = lineL M ++ 32 :: formL x := by
  cases M with
  | nil => exact absurd rfl h
  | cons y r => simp [lineL, tailL_snoc]
theorem plainF_iff {l : List UInt8} : plainF l = true ↔ l ≠ [] ∧ l.any isS = false := by
  unfold plainF; cases l <;> simp
theorem formL_ne (x : List UInt8) : formL x ≠ [] := by
  unfold formL; split
  · next h => exact (plainF_iff.mp h).1
  · simp
theorem formL_len (x : List UInt8) : (formL x).length ≤ 2 * x.length + 2 := by
  unfold formL; split
  · omega
  · have := esc_len x; simp; omega
theorem lineL_ne {M : List (List UInt8)} (h : M ≠ []) : lineL M ≠ [] := by
  cases M with
  | nil => exact absurd rfl h
  | cons y r => simp [lineL, formL_ne]
theorem lineL_grows (M N : List (List UInt8)) : (lineL M).length ≤ (lineL (M ++ N)).length := by
  have ht : ∀ M : List (List UInt8), (tailL M).length ≤ (tailL (M ++ N)).length := by
    intro M
    induction M with
    | nil => simp [tailL]
    | cons y r ih => simp [tailL]; omega
  cases M with
  | nil => simp [lineL]
  | cons y r => have := ht r; simp [lineL]; omega
theorem lineL_take (M : List (List UInt8)) (k : Nat) : (lineL (M.take k)).length ≤ (lineL M).length := by
  have := lineL_grows (M.take k) (M.drop k)
  rwa [List.take_append_drop] at this

/-! ### The program's reader -/
def rdE : Bool → Bool → List UInt8 → List (List UInt8) → List UInt8 → List (List UInt8)
  | _, _, f, fs, [] => fs ++ [f]
  | q, e, f, fs, b :: r =>
    if e then rdE q false (f ++ [b]) fs r
    else if b = 34 then rdE (!q) false f fs r
    else if (b == 32 && !q) = true then rdE q false [] (fs ++ [f]) r
    else if b = 92 then rdE q true f fs r
    else rdE q false (f ++ [b]) fs r
def rd (q : Bool) (f : List UInt8) (fs : List (List UInt8)) (l : List UInt8) : List (List UInt8) := rdE q false f fs l
theorem rd_nil (q : Bool) (f : List UInt8) (fs : List (List UInt8)) : rd q f fs [] = fs ++ [f] := by simp [rd, rdE]
theorem rd_quote (q : Bool) (f : List UInt8) (fs : List (List UInt8)) (r : List UInt8) : rd q f fs (34 :: r) = rd (!q) f fs r := by simp [rd, rdE]
theorem rd_space (f : List UInt8) (fs : List (List UInt8)) (r : List UInt8) : rd false f fs (32 :: r) = rd false [] (fs ++ [f]) r := by simp [rd, rdE]
theorem rd_back (q : Bool) (f : List UInt8) (fs : List (List UInt8)) (c : UInt8) (r : List UInt8) : rd q f fs (92 :: c :: r) = rd q (f ++ [c]) fs r := by
  cases q <;> simp [rd, rdE]
theorem rd_last (q : Bool) (f : List UInt8) (fs : List (List UInt8)) : rd q f fs [92] = fs ++ [f] := by cases q <;> simp [rd, rdE]
theorem rd_other (q : Bool) (f : List UInt8) (fs : List (List UInt8)) (b : UInt8) (r : List UInt8) (h : b ≠ 34) (h2 : (b == 32 && !q) = false) (h3 : b ≠ 92) : rd q f fs (b :: r) = rd q (f ++ [b]) fs r := by
  rw [rd, rdE, if_neg (by simp), if_neg h, if_neg (by simp [h2]), if_neg h3, rd]
theorem isS_no {b : UInt8} (h : isS b = false) : b ≠ 32 ∧ b ≠ 34 ∧ b ≠ 92 := by
  simp [isS] at h; exact ⟨h.1.1, h.1.2, h.2⟩
theorem isQ_no {b : UInt8} (h : isQ b = false) : b ≠ 34 ∧ b ≠ 92 := by
  simp [isQ] at h; exact h
theorem rd_plain {x : List UInt8} (hx : x.any isS = false) : ∀ (f : List UInt8) (fs : List (List UInt8)) (r : List UInt8), rd false f fs (x ++ r) = rd false (f ++ x) fs r := by
  induction x with
  | nil => intro f fs r; simp
  | cons b y ih =>
    intro f fs r
    simp only [List.any_cons, Bool.or_eq_false_iff] at hx
    obtain ⟨h1, h2, h3⟩ := isS_no hx.1
    rw [List.cons_append, rd_other _ _ _ _ _ h2 (by simp [h1]) h3, ih hx.2]
    simp
theorem rd_esc (x : List UInt8) : ∀ (f : List UInt8) (fs : List (List UInt8)) (r : List UInt8), rd true f fs (esc x ++ 34 :: r) = rd false (f ++ x) fs r := by
  induction x with
  | nil => intro f fs r; simp [esc, rd_quote]
  | cons b y ih =>
    intro f fs r
    cases hq : isQ b with
    | true =>
      simp only [esc, hq, if_true, List.cons_append]
      rw [rd_back, ih]; simp
    | false =>
      obtain ⟨h1, h2⟩ := isQ_no hq
      simp only [esc, hq]
      rw [if_neg (by simp), List.cons_append, rd_other _ _ _ _ _ h1 (by simp) h2, ih]; simp
theorem rd_form (x : List UInt8) (fs : List (List UInt8)) (r : List UInt8) : rd false [] fs (formL x ++ r) = rd false x fs r := by
  unfold formL; split
  · next h => rw [rd_plain (plainF_iff.mp h).2]; simp
  · rw [List.cons_append, rd_quote, List.append_assoc]; simpa using rd_esc x [] fs r
theorem rd_tail (M : List (List UInt8)) : ∀ (x : List UInt8) (fs : List (List UInt8)), rd false x fs (tailL M) = fs ++ x :: M := by
  induction M with
  | nil => intro x fs; simp [tailL, rd_nil]
  | cons y r ih => intro x fs; rw [tailL, rd_space, rd_form, ih]; simp
/-- The fields that are read. -/
def readL (l : List UInt8) : List (List UInt8) := if l = [] then [] else rd false [] [] l
theorem readL_line (M : List (List UInt8)) : readL (lineL M) = M := by
  unfold readL
  cases M with
  | nil => rfl
  | cons x r => rw [if_neg (lineL_ne (by simp)), lineL, rd_form, rd_tail]; simp

/-! ### The reference's reader -/
def quE : Bool → List UInt8 → Nat → List UInt8 → List UInt8 × Nat
  | e, s, i, [] => if e then (s ++ [92], i) else (s, i)
  | e, s, i, b :: r =>
    if e then quE false (s ++ [b]) (i + 1) r
    else if b = 34 then (s, i + 1)
    else if b = 92 then quE true s (i + 1) r
    else quE false (s ++ [b]) (i + 1) r
def qu (s : List UInt8) (i : Nat) (l : List UInt8) : List UInt8 × Nat := quE false s i l
theorem qu_nil (s : List UInt8) (i : Nat) : qu s i [] = (s, i) := by simp [qu, quE]
theorem qu_quote (s : List UInt8) (i : Nat) (r : List UInt8) : qu s i (34 :: r) = (s, i + 1) := by simp [qu, quE]
theorem qu_back (s : List UInt8) (i : Nat) (c : UInt8) (r : List UInt8) : qu s i (92 :: c :: r) = qu (s ++ [c]) (i + 2) r := by simp [qu, quE]
theorem qu_last (s : List UInt8) (i : Nat) : qu s i [92] = (s ++ [92], i + 1) := by simp [qu, quE]
theorem qu_other (s : List UInt8) (i : Nat) (b : UInt8) (r : List UInt8) (h : b ≠ 34) (h2 : b ≠ 92) : qu s i (b :: r) = qu (s ++ [b]) (i + 1) r := by
  rw [qu, quE, if_neg (by simp), if_neg h, if_neg h2, qu]
theorem qu_esc (x : List UInt8) : ∀ (s : List UInt8) (i : Nat) (r : List UInt8), qu s i (esc x ++ 34 :: r) = (s ++ x, i + (esc x).length + 1) := by
  induction x with
  | nil => intro s i r; simp [esc, qu_quote]
  | cons b y ih =>
    intro s i r
    cases hq : isQ b with
    | true =>
      simp only [esc, hq, if_true, List.cons_append]
      rw [qu_back, ih]; simp; omega
    | false =>
      obtain ⟨h1, h2⟩ := isQ_no hq
      simp only [esc, hq]
      rw [if_neg (by simp), List.cons_append, qu_other _ _ _ _ h1 h2, ih]; simp; omega
/-- The field at the beginning, and the number of its bytes. -/
def nospc (b : UInt8) : Bool := b != 32
def stp (l : List UInt8) : List UInt8 × Nat := if l.head? = some 34 then qu [] 1 l.tail else (l.takeWhile nospc, (l.takeWhile nospc).length)
def rq (l : List UInt8) : List (List UInt8) := if h : l = [] then [] else (stp l).1 :: rq (l.drop ((stp l).2 + 1))
termination_by l.length
decreasing_by
  have : 0 < l.length := List.length_pos_iff.mpr h
  rw [List.length_drop]; omega
theorem rq_nil : rq [] = [] := by rw [rq]; simp
theorem rq_cons {l : List UInt8} (h : l ≠ []) : rq l = (stp l).1 :: rq (l.drop ((stp l).2 + 1)) := by rw [rq, dif_neg h]
theorem tailL_head (M : List (List UInt8)) : (tailL M).takeWhile nospc = [] := by cases M <;> simp [tailL, nospc]
theorem takeWhile_plain {x : List UInt8} (hx : x.any isS = false) (r : List UInt8) (hr : r.takeWhile nospc = []) : (x ++ r).takeWhile nospc = x := by
  induction x with
  | nil => simpa using hr
  | cons b y ih =>
    simp only [List.any_cons, Bool.or_eq_false_iff] at hx
    have h1 := (isS_no hx.1).1
    rw [List.cons_append, List.takeWhile_cons, if_pos (by simp [nospc, h1]), ih hx.2]
theorem stp_form (x : List UInt8) (M : List (List UInt8)) : stp (formL x ++ tailL M) = (x, (formL x).length) := by
  unfold formL; split
  · next h =>
    have hp := plainF_iff.mp h
    unfold stp
    rw [if_neg, takeWhile_plain hp.2 _ (tailL_head M)]
    cases x with
    | nil => exact absurd rfl hp.1
    | cons b y =>
      simp only [List.any_cons, Bool.or_eq_false_iff] at hp
      have h1 := (isS_no hp.2.1).2.1
      simp [h1]
  · unfold stp
    rw [if_pos (by simp)]
    have := qu_esc x [] 1 (tailL M)
    simp at this ⊢
    rw [this]; simp; omega
theorem rq_line (M : List (List UInt8)) : rq (lineL M) = M := by
  have h : ∀ (M : List (List UInt8)) (x : List UInt8), rq (formL x ++ tailL M) = x :: M := by
    intro M
    induction M with
    | nil =>
      intro x
      rw [rq_cons (by simp [formL_ne]), stp_form]
      show x :: rq ((formL x ++ tailL []).drop ((formL x).length + 1)) = _
      rw [List.drop_eq_nil_of_le (by simp [tailL]), rq_nil]
    | cons y r ih =>
      intro x
      rw [rq_cons (by simp [formL_ne]), stp_form]
      have e : (formL x ++ tailL (y :: r)).drop ((formL x).length + 1) = formL y ++ tailL r := by
        rw [List.drop_append, List.drop_eq_nil_of_le (by omega)]; simp [tailL]
      show x :: rq ((formL x ++ tailL (y :: r)).drop ((formL x).length + 1)) = _
      rw [e, ih]
  cases M with
  | nil => exact rq_nil
  | cons x r => exact h r x

/-! ### Errors -/
def fldE (l : List UInt8) : Int := if 256 < l.length then 8 else if l.all okB then 0 else 3
def fstE : List (List UInt8) → Int
  | [] => 0
  | l :: r => if fldE l = 0 then fstE r else fldE l
def joinE (M : List (List UInt8)) : Int := if fstE M ≠ 0 then fstE M else if 1024 < (lineL M).length then 8 else 0
def joinL (M : List (List UInt8)) : List UInt8 := if joinE M = 0 then lineL M else []
theorem fldE_cases (l : List UInt8) : fldE l = 0 ∨ fldE l = 3 ∨ fldE l = 8 := by
  unfold fldE; split
  · simp
  · split <;> simp
theorem fldE_ok {l : List UInt8} : fldE l = 0 ↔ l.length ≤ 256 ∧ l.all okB = true := by
  unfold fldE; split
  · simp; omega
  · split <;> simp_all
theorem fstE_snoc {M : List (List UInt8)} (h : fstE M = 0) (x : List UInt8) : fstE (M ++ [x]) = fldE x := by
  induction M with
  | nil =>
    simp only [List.nil_append, fstE]
    split
    · next h1 => exact h1.symm
    · rfl
  | cons y r ih =>
    simp only [fstE] at h
    split at h
    · next h1 => rw [List.cons_append, fstE, if_pos h1, ih h]
    · next h1 => exact absurd h h1
theorem fstE_bad {M : List (List UInt8)} (h : fstE M ≠ 0) (N : List (List UInt8)) : fstE (M ++ N) = fstE M := by
  induction M with
  | nil => exact absurd rfl h
  | cons y r ih =>
    simp only [fstE] at h
    rw [List.cons_append, fstE, fstE]
    split at h
    · next h1 => rw [if_pos h1, if_pos h1, ih h]
    · next h1 => rw [if_neg h1, if_neg h1]
/-- A field is the first bad one. -/
theorem fstE_at {M : List (List UInt8)} {k : Nat} {x : List UInt8} (h : fstE (M.take k) = 0) (hx : M[k]? = some x) (hb : fldE x ≠ 0) : fstE M = fldE x := by
  have e := List.take_append_drop (k + 1) M
  rw [take_snoc_of hx] at e
  have e2 := fstE_snoc h x
  rw [← e, fstE_bad (by rw [e2]; exact hb), e2]
theorem fstE_next {M : List (List UInt8)} {k : Nat} {x : List UInt8} (h : fstE (M.take k) = 0) (hx : M[k]? = some x) (hb : fldE x = 0) : fstE (M.take (k + 1)) = 0 := by
  rw [take_snoc_of hx, fstE_snoc h, hb]
theorem joinE_first {M : List (List UInt8)} (h : fstE M ≠ 0) : joinE M = fstE M := by unfold joinE; rw [if_pos h]
theorem joinE_line {M : List (List UInt8)} (h : fstE M = 0) : joinE M = if 1024 < (lineL M).length then 8 else 0 := by unfold joinE; rw [if_neg (by simp [h])]
theorem joinE_ok {M : List (List UInt8)} : joinE M = 0 ↔ fstE M = 0 ∧ (lineL M).length ≤ 1024 := by
  unfold joinE
  split
  · next h => simp [h]
  · next h =>
    have : fstE M = 0 := by simpa using h
    split <;> simp_all <;> omega

/-! ### Split -/
/-- The line is that of these fields. -/
def Sp (l : List UInt8) (M : List (List UInt8)) : Prop := joinE M = 0 ∧ lineL M = l
instance (l : List UInt8) (M : List (List UInt8)) : Decidable (Sp l M) := inferInstanceAs (Decidable (_ ∧ _))
theorem Sp.read {l : List UInt8} {M : List (List UInt8)} (h : Sp l M) : readL l = M := by rw [← h.2, readL_line]
theorem Sp.rq {l : List UInt8} {M : List (List UInt8)} (h : Sp l M) : rq l = M := by rw [← h.2, rq_line]
def splitE (l : List UInt8) : Int := if 1024 < l.length then 8 else if Sp l (readL l) then 0 else 3
def splitL (l : List UInt8) : List (List UInt8) := if splitE l = 0 then readL l else []
theorem splitE_ok {l : List UInt8} : splitE l = 0 ↔ Sp l (readL l) := by
  unfold splitE
  constructor
  · intro h
    split at h
    · cases h
    · split at h
      · assumption
      · cases h
  · intro h
    have := (joinE_ok.mp h.1).2
    rw [h.2] at this
    rw [if_neg (by omega), if_pos h]
theorem splitE_big {l : List UInt8} (h : 1024 < l.length) : splitE l = 8 := by unfold splitE; rw [if_pos h]
theorem splitE_no {l : List UInt8} (h : ¬ 1024 < l.length) (h2 : ¬ Sp l (readL l)) : splitE l = 3 := by unfold splitE; rw [if_neg h, if_neg h2]
theorem splitE_no' {l : List UInt8} (h : ¬ 1024 < l.length) (h2 : ¬ Sp l (rq l)) : splitE l = 3 := splitE_no h fun e => h2 (by rw [e.rq]; exact e)
theorem splitE_cases (l : List UInt8) : splitE l = 0 ∨ splitE l = 3 ∨ splitE l = 8 := by
  unfold splitE; split
  · simp
  · split <;> simp
theorem splitL_ok {l : List UInt8} (h : Sp l (readL l)) : splitL l = readL l := by unfold splitL; rw [if_pos (splitE_ok.mpr h)]
theorem splitL_ok' {l : List UInt8} (h : Sp l (rq l)) : splitE l = 0 ∧ splitL l = rq l := by
  have e := h.read
  have h2 : Sp l (readL l) := by rw [e]; exact h
  exact ⟨splitE_ok.mpr h2, by rw [splitL_ok h2, e]⟩
theorem splitL_no {l : List UInt8} (h : splitE l ≠ 0) : splitL l = [] := by unfold splitL; rw [if_neg h]
/-- What is joined is split again (P7.5). -/
theorem split_line {M : List (List UInt8)} (h : joinE M = 0) : splitE (lineL M) = 0 ∧ splitL (lineL M) = M := by
  have h2 : Sp (lineL M) (readL (lineL M)) := by rw [readL_line]; exact ⟨h, rfl⟩
  exact ⟨splitE_ok.mpr h2, by rw [splitL_ok h2, readL_line]⟩
theorem join_split {l : List UInt8} (h : splitE l = 0) : joinE (splitL l) = 0 ∧ lineL (splitL l) = l := by
  have h2 := splitE_ok.mp h
  rw [splitL_ok h2]; exact h2

/-! ### Texts -/
def cutL : List UInt8 → List UInt8 → List (List UInt8)
  | _, [] => []
  | a, b :: r => if b = 10 then a :: cutL [] r else cutL (a ++ [b]) r
/-- The lines of a text. -/
def lns (t : List UInt8) : List (List UInt8) := cutL [] t
/-- A line that is left out. -/
def skp (l : List UInt8) : Bool := l.isEmpty || l.head? == some 35
def linA : List (List (List UInt8)) → List (List UInt8) → List (List (List UInt8)) × Int
  | acc, [] => (acc, 0)
  | acc, l :: r => if skp l then linA acc r else if splitE l = 0 then linA (acc ++ [splitL l]) r else ([], splitE l)
/-- A text ends with a line feed, or is empty. -/
def endsB (t : List UInt8) : Bool := t.isEmpty || t.getLast? == some 10
def linesE (t : List UInt8) : Int := if endsB t then (linA [] (lns t)).2 else 3
def linesL (t : List UInt8) : List (List (List UInt8)) := if endsB t then (linA [] (lns t)).1 else []
theorem cutL_line {x : List UInt8} (hx : (10 : UInt8) ∉ x) : ∀ (a r : List UInt8), cutL a (x ++ 10 :: r) = (a ++ x) :: cutL [] r := by
  induction x with
  | nil => intro a r; simp [cutL]
  | cons b y ih =>
    intro a r
    simp only [List.mem_cons, not_or] at hx
    rw [List.cons_append, cutL, if_neg (fun e => hx.1 e.symm), ih hx.2]; simp
theorem lns_line {x : List UInt8} (hx : (10 : UInt8) ∉ x) (r : List UInt8) : lns (x ++ 10 :: r) = x :: lns r := by unfold lns; rw [cutL_line hx]; simp
theorem cutL_append (x : List UInt8) : ∀ (a b : List UInt8), (x = [] → a = []) → (∀ h : x ≠ [], x.getLast h = 10) → cutL a (x ++ b) = cutL a x ++ cutL [] b := by
  induction x with
  | nil => intro a b ha _; rw [ha rfl]; simp [cutL]
  | cons c y ih =>
    intro a b _ hl
    have hl2 : ∀ h : y ≠ [], y.getLast h = 10 := fun h => by have := hl (by simp); rwa [List.getLast_cons h] at this
    rw [List.cons_append, cutL, cutL]
    split
    · rw [ih [] b (fun _ => rfl) hl2]; simp
    · next hc =>
      refine ih _ b (fun e => ?_) hl2
      subst e
      exact absurd (by simpa using hl (by simp)) hc
theorem endsB_iff {t : List UInt8} : endsB t = true ↔ ∀ h : t ≠ [], t.getLast h = 10 := by
  unfold endsB
  cases t with
  | nil => simp
  | cons b r => simp [List.getLast?_eq_some_getLast]
theorem lns_append {a b : List UInt8} (h : endsB a = true) : lns (a ++ b) = lns a ++ lns b := cutL_append a [] b (fun _ => rfl) (endsB_iff.mp h)
theorem linA_append (x : List (List UInt8)) : ∀ (acc : List (List (List UInt8))) (y : List (List UInt8)), linA acc (x ++ y) = if (linA acc x).2 = 0 then linA (linA acc x).1 y else linA acc x := by
  induction x with
  | nil => intro acc y; simp [linA]
  | cons l r ih =>
    intro acc y
    rw [List.cons_append, linA, linA]
    split
    · exact ih acc y
    · split
      · exact ih _ y
      · rfl
theorem linA_acc (x : List (List UInt8)) : ∀ (acc : List (List (List UInt8))), linA acc x = if (linA [] x).2 = 0 then (acc ++ (linA [] x).1, 0) else linA [] x := by
  induction x with
  | nil => intro acc; simp [linA]
  | cons l r ih =>
    intro acc
    rw [linA, linA]
    split
    · exact ih acc
    · split
      · rw [ih (acc ++ [splitL l]), ih ([] ++ [splitL l])]
        by_cases h0 : (linA [] r).2 = 0
        · rw [if_pos h0, if_pos h0, if_pos rfl, List.nil_append, List.append_assoc]
        · rw [if_neg h0, if_neg h0, if_neg h0]
      · rfl
/-- P7.6. -/
theorem lines_append {a b : List UInt8} (ha : linesE a = 0) (hb : linesE b = 0) : linesE (a ++ b) = 0 ∧ linesL (a ++ b) = linesL a ++ linesL b := by
  unfold linesE at ha hb
  have h1 : endsB a = true := by
    cases h : endsB a with
    | true => rfl
    | false => rw [h] at ha; cases ha
  have h2 : endsB b = true := by
    cases h : endsB b with
    | true => rfl
    | false => rw [h] at hb; cases hb
  rw [if_pos h1] at ha
  rw [if_pos h2] at hb
  have h3 : endsB (a ++ b) = true := by
    rw [endsB_iff] at h1 h2 ⊢
    intro h
    cases b with
    | nil => simpa using h1 (by simpa using h)
    | cons c r => rw [List.getLast_append_of_ne_nil _ (by simp)]; exact h2 (by simp)
  have e : linA [] (lns (a ++ b)) = (linesL a ++ linesL b, 0) := by
    unfold linesL
    rw [lns_append h1, linA_append, if_pos ha, linA_acc, if_pos hb, if_pos h1, if_pos h2]
  unfold linesE linesL
  rw [if_pos h3, if_pos h3, e]
  simp [linesL]
#print axioms lines_append
#print axioms rq_line
end Go.Proofs.YthiebggamfmjgaaDoor.Field
