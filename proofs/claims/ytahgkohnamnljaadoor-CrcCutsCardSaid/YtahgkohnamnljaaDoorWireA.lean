/- Codes, encodings and what is taken of bytes: what the chapter says, in Lean. -/
import Derived.Test.YtahgkohnamnljaaDoorRows
import Derived.WalkKit
import Derived.WalkLawsBesides
import Derived.WalkSpells
import Derived.Outline
import Derived.Laws.OwnMore
import Derived.OwnWalk
import Derived.Lib.Hide
namespace Go.Proofs.YtahgkohnamnljaaDoor.Wire
open Go.ChangeShapes Go.WideShapes Go.RowKit
set_option linter.unusedVariables false
set_option maxRecDepth 100000

theorem str_get? (s : ByteArray) {k : Nat} (h : k < s.size) : s.data.toList[k]? = some s[k] := by
  rw [Array.getElem?_toList]
  exact Array.getElem?_eq_getElem h
theorem str_len (s : ByteArray) : s.data.toList.length = s.size := by rw [Array.length_toList]; rfl
theorem str_ext {a b : ByteArray} (h : a.data.toList = b.data.toList) : a = b := ByteArray.ext (Array.toList_inj.mp h)
/-- A string of these bytes. -/
def bs (l : List UInt8) : ByteArray := ⟨l.toArray⟩
theorem bs_list (l : List UInt8) : (bs l).data.toList = l := by simp [bs]
theorem bs_size (l : List UInt8) : (bs l).size = l.length := by rw [← str_len, bs_list]
theorem bs_of (s : ByteArray) : bs s.data.toList = s := str_ext (bs_list _)
def ls (s : ByteArray) : List UInt8 := s.data.toList
theorem ls_len (s : ByteArray) : (ls s).length = s.size := str_len s
theorem bs_ls (s : ByteArray) : bs (ls s) = s := bs_of s
theorem ls_bs (l : List UInt8) : ls (bs l) = l := bs_list l
theorem bs_inj {a b : List UInt8} (h : bs a = bs b) : a = b := by rw [← bs_list a, h, bs_list]
theorem take_snoc_of {α : Type} {l : List α} {k : Nat} {z : α} (h : l[k]? = some z) : l.take (k + 1) = l.take k ++ [z] := by
  rw [List.take_add_one, h]; rfl
theorem drop_cons_of {α : Type} {l : List α} {k : Nat} {z : α} (h : l[k]? = some z) : l.drop k = z :: l.drop (k + 1) := by
  obtain ⟨h1, rfl⟩ := List.getElem?_eq_some_iff.mp h
  exact List.drop_eq_getElem_cons h1
theorem get_lt {α : Type} {L : List α} {k : Nat} (h : k < L.length) : ∃ s, L[k]? = some s := ⟨_, List.getElem?_eq_getElem h⟩
theorem lt_get {α : Type} {L : List α} {k : Nat} {s : α} (h : L[k]? = some s) : k < L.length := by
  rcases Nat.lt_or_ge k L.length with h1 | h1
  · exact h1
  · rw [List.getElem?_eq_none h1] at h; cases h

/-! ### Codes -/
def codeN (n : Int) : Nat := if n < 0 then (-2 * n - 1).toNat else (2 * n).toNat
def decI (u : Nat) : Int := if u % 2 = 1 then -((u / 2 : Nat) : Int) - 1 else ((u / 2 : Nat) : Int)
theorem dec_code (n : Int) : decI (codeN n) = n := by
  rcases Int.lt_or_le n 0 with h | h
  · have e : codeN n = (-2 * n - 1).toNat := if_pos h
    rw [e]; unfold decI; rw [if_pos (by omega)]; omega
  · have e : codeN n = (2 * n).toNat := if_neg (by omega)
    rw [e]; unfold decI; rw [if_neg (by omega)]; omega
theorem code_dec (u : Nat) : codeN (decI u) = u := by
  unfold decI codeN
  by_cases h : u % 2 = 1
  · rw [if_pos h, if_pos (by omega)]; omega
  · rw [if_neg h, if_neg (by omega)]; omega
def isI (n : Int) : Prop := -9223372036854775808 ≤ n ∧ n ≤ 9223372036854775807
theorem code_lt {n : Int} (h : isI n) : codeN n < 18446744073709551616 := by
  unfold codeN isI at *
  split <;> omega
theorem dec_isI {u : Nat} (h : u < 18446744073709551616) : isI (decI u) := by
  unfold decI isI
  split <;> omega

/-! ### Encodings -/
def enc (u : Nat) : List UInt8 := if u < 128 then [UInt8.ofNat u] else UInt8.ofNat (u % 128 + 128) :: enc (u / 128)
termination_by u
decreasing_by omega
theorem enc_one {u : Nat} (h : u < 128) : enc u = [UInt8.ofNat u] := by rw [enc, if_pos h]
theorem enc_more {u : Nat} (h : 128 ≤ u) : enc u = UInt8.ofNat (u % 128 + 128) :: enc (u / 128) := by rw [enc, if_neg (by omega)]
theorem enc_pos (u : Nat) : 1 ≤ (enc u).length := by
  rcases Nat.lt_or_ge u 128 with h | h
  · rw [enc_one h]; exact Nat.le_refl 1
  · rw [enc_more h, List.length_cons]; omega
theorem enc_len (m : Nat) : ∀ u, u < 128 ^ (m + 1) → (enc u).length ≤ m + 1 := by
  induction m with
  | zero => intro u h; rw [enc_one (by omega)]; exact Nat.le_refl 1
  | succ m ih =>
    intro u h
    rcases Nat.lt_or_ge u 128 with h1 | h1
    · rw [enc_one h1, List.length_singleton]; omega
    · rw [enc_more h1, List.length_cons]
      have := ih (u / 128) (by rw [Nat.pow_succ] at h; omega)
      omega
theorem enc_ten {u : Nat} (h : u < 18446744073709551616) : (enc u).length ≤ 10 := enc_len 9 u (by omega)
def encI (n : Int) : List UInt8 := enc (codeN n)
theorem encI_pos (n : Int) : 1 ≤ (encI n).length := enc_pos _
theorem encI_ten {n : Int} (h : isI n) : (encI n).length ≤ 10 := enc_ten (code_lt h)
def encT (s : List UInt8) : List UInt8 := encI (s.length : Int) ++ s
def encs : List Int → List UInt8
  | [] => []
  | n :: l => encI n ++ encs l
theorem encs_append (a b : List Int) : encs (a ++ b) = encs a ++ encs b := by
  induction a with
  | nil => rfl
  | cons n l ih => simp only [List.cons_append, encs, ih, List.append_assoc]
theorem encs_one (n : Int) : encs [n] = encI n := by simp [encs]
theorem encs_ten {l : List Int} (h : ∀ n ∈ l, isI n) : (encs l).length ≤ 10 * l.length := by
  induction l with
  | nil => simp [encs]
  | cons n l ih =>
    have h1 := encI_ten (h n (List.mem_cons_self ..))
    have h2 := ih fun m hm => h m (List.mem_cons_of_mem _ hm)
    simp only [encs, List.length_append, List.length_cons]; omega
theorem encs_ge (l : List Int) : l.length ≤ (encs l).length := by
  induction l with
  | nil => simp
  | cons n l ih =>
    have h1 := encI_pos n
    simp only [encs, List.length_append, List.length_cons]; omega
def encL (l : List Int) : List UInt8 := encI (l.length : Int) ++ encs l
theorem len_isI {n : Nat} (h : n ≤ 1000000) : isI (n : Int) := ⟨by omega, by omega⟩
theorem encT_len {s : List UInt8} (h : s.length ≤ 1000000) : (encT s).length ≤ 10 + s.length := by
  have := encI_ten (len_isI h)
  unfold encT; rw [List.length_append]; omega
theorem encL_len {l : List Int} (h : l.length ≤ 1000000) (hi : ∀ n ∈ l, isI n) : (encL l).length ≤ 10 + 10 * l.length := by
  have := encI_ten (len_isI h)
  have := encs_ten hi
  unfold encL; rw [List.length_append]; omega
theorem encT_pos (s : List UInt8) : 1 ≤ (encT s).length := by
  have := encI_pos (s.length : Int)
  unfold encT; rw [List.length_append]; omega
theorem encL_pos (l : List Int) : 1 ≤ (encL l).length := by
  have := encI_pos (l.length : Int)
  unfold encL; rw [List.length_append]; omega

/-! ### What is taken -/
structure TR where
  x : Int
  k : Nat
  e : Int
def scan (i acc : Nat) : List UInt8 → TR
  | [] => ⟨0, 0, 4⟩
  | b :: r => if i = 9 ∧ 1 < b.toNat then ⟨0, 0, 2⟩
      else if 128 ≤ b.toNat then scan (i + 1) (acc + b.toNat % 128 * 128 ^ i) r
      else if b.toNat = 0 ∧ 0 < i then ⟨0, 0, 3⟩
      else ⟨decI (acc + b.toNat * 128 ^ i), i + 1, 0⟩
def takeI (b : List UInt8) : TR := scan 0 0 b
theorem scan_over {i acc : Nat} {b : UInt8} {r : List UInt8} (h : i = 9) (hb : 1 < b.toNat) : scan i acc (b :: r) = ⟨0, 0, 2⟩ := by rw [scan, if_pos ⟨h, hb⟩]
theorem scan_more {i acc : Nat} {b : UInt8} {r : List UInt8} (h : i < 9) (hb : 128 ≤ b.toNat) : scan i acc (b :: r) = scan (i + 1) (acc + b.toNat % 128 * 128 ^ i) r := by
  rw [scan, if_neg (by omega), if_pos hb]
theorem scan_form {i acc : Nat} {b : UInt8} {r : List UInt8} (h : 0 < i) (hb : b.toNat = 0) : scan i acc (b :: r) = ⟨0, 0, 3⟩ := by
  rw [scan, if_neg (by omega), if_neg (by omega), if_pos ⟨hb, h⟩]
theorem scan_last {i acc : Nat} {b : UInt8} {r : List UInt8} (h1 : ¬ (i = 9 ∧ 1 < b.toNat)) (h2 : b.toNat < 128) (h3 : ¬ (b.toNat = 0 ∧ 0 < i)) : scan i acc (b :: r) = ⟨decI (acc + b.toNat * 128 ^ i), i + 1, 0⟩ := by
  rw [scan, if_neg h1, if_neg (by omega), if_neg h3]
theorem byte_of {n : Nat} (h : n < 256) : (UInt8.ofNat n).toNat = n := by rw [UInt8.toNat_ofNat', Nat.mod_eq_of_lt h]
theorem of_byte (b : UInt8) : UInt8.ofNat b.toNat = b := UInt8.toNat_inj.mp (byte_of (UInt8.toNat_lt b))
/-- What an encoding gives. -/
theorem scan_enc (more : List UInt8) : ∀ u i acc : Nat, i ≤ 9 → acc + u * 128 ^ i < 18446744073709551616 → (0 < i → u ≠ 0) →
    scan i acc (enc u ++ more) = ⟨decI (acc + u * 128 ^ i), i + (enc u).length, 0⟩ := by
  intro u
  induction u using Nat.strongRecOn with
  | _ u ih =>
    intro i acc hi hb h0
    have h9 : i = 9 → u ≤ 1 := by
      rintro rfl
      omega
    rcases Nat.lt_or_ge u 128 with h | h
    · rw [enc_one h, List.singleton_append, scan_last (by rw [byte_of (by omega)]; omega) (by rw [byte_of (by omega)]; exact h) (by rw [byte_of (by omega)]; omega), byte_of (by omega)]
      rfl
    · have hi9 : i < 9 := by omega
      have hp : 128 ^ (i + 1) = 128 * 128 ^ i := by rw [Nat.pow_succ, Nat.mul_comm]
      have hs : acc + u % 128 * 128 ^ i + u / 128 * 128 ^ (i + 1) = acc + u * 128 ^ i := by
        rw [hp, ← Nat.mul_assoc, Nat.add_assoc, ← Nat.add_mul]
        congr 2; omega
      rw [enc_more h, List.cons_append, scan_more hi9 (by rw [byte_of (by omega)]; omega), byte_of (by omega), show (u % 128 + 128) % 128 = u % 128 by omega,
        ih (u / 128) (by omega) (i + 1) _ (by omega) (by rw [hs]; exact hb) (by omega), hs, List.length_cons]
      congr 1; omega
theorem pow_le_nine {i : Nat} (h : i ≤ 9) : 128 ^ i ≤ 9223372036854775808 := Nat.le_trans (Nat.pow_le_pow_right (by omega) h) (by decide)
/-- What is taken has the bytes of its encoding. -/
theorem scan_ok : ∀ (l : List UInt8) (i acc : Nat), i ≤ 9 → acc < 128 ^ i → (scan i acc l).e = 0 →
    ∃ u, (scan i acc l).k = i + (enc u).length ∧ (enc u).length ≤ l.length ∧ l.take (enc u).length = enc u ∧ (scan i acc l).x = decI (acc + u * 128 ^ i) ∧ acc + u * 128 ^ i < 18446744073709551616 ∧ (0 < i → u ≠ 0) := by
  intro l
  induction l with
  | nil => intro i acc _ _ h; simp [scan] at h
  | cons b r ih =>
    intro i acc hi ha h
    have hb := UInt8.toNat_lt b
    have hp9 := pow_le_nine hi
    by_cases c1 : i = 9 ∧ 1 < b.toNat
    · rw [scan_over c1.1 c1.2] at h; simp at h
    · rcases Nat.lt_or_ge b.toNat 128 with c2 | c2
      · by_cases c3 : b.toNat = 0 ∧ 0 < i
        · rw [scan_form c3.2 c3.1] at h; simp at h
        · rw [scan_last c1 c2 c3]
          refine ⟨b.toNat, ?_⟩
          rw [enc_one c2, of_byte]
          refine ⟨rfl, by simp, rfl, rfl, ?_, by omega⟩
          rcases Nat.lt_or_ge i 9 with h9 | h9
          · have h8 : 128 ^ i ≤ 128 ^ 8 := Nat.pow_le_pow_right (by omega) (by omega)
            have : b.toNat * 128 ^ i ≤ 127 * 128 ^ 8 := Nat.mul_le_mul (by omega) h8
            omega
          · obtain rfl : i = 9 := by omega
            have : b.toNat ≤ 1 := by omega
            omega
      · have h9 : i < 9 := by omega
        rw [scan_more h9 c2] at h ⊢
        have hp : 128 ^ (i + 1) = 128 * 128 ^ i := by rw [Nat.pow_succ, Nat.mul_comm]
        have hm : b.toNat % 128 * 128 ^ i ≤ 127 * 128 ^ i := Nat.mul_le_mul_right _ (by omega)
        obtain ⟨u, e1, e2, e3, e4, e5, e6⟩ := ih (i + 1) _ (by omega) (by rw [hp]; omega) h
        have hu := e6 (by omega)
        have hs : acc + b.toNat % 128 * 128 ^ i + u * 128 ^ (i + 1) = acc + (b.toNat % 128 + u * 128) * 128 ^ i := by
          rw [hp, Nat.add_mul, Nat.mul_assoc]; omega
        have he : enc (b.toNat % 128 + u * 128) = b :: enc u := by
          rw [enc_more (by omega), show (b.toNat % 128 + u * 128) % 128 + 128 = b.toNat by omega, of_byte, show (b.toNat % 128 + u * 128) / 128 = u by omega]
        refine ⟨b.toNat % 128 + u * 128, ?_⟩
        rw [he, List.length_cons, List.length_cons, List.take_succ_cons, e3]
        exact ⟨by rw [e1]; omega, by omega, rfl, by rw [e4, hs], by rw [← hs]; exact e5, by omega⟩
theorem take_enc {n : Int} (h : isI n) (more : List UInt8) : takeI (encI n ++ more) = ⟨n, (encI n).length, 0⟩ := by
  have h1 := scan_enc more (codeN n) 0 0 (by omega) (by have := code_lt h; omega) (by omega)
  simp only [Nat.pow_zero, Nat.mul_one, Nat.zero_add, dec_code] at h1
  exact h1
theorem take_ok {b : List UInt8} (h : (takeI b).e = 0) : (takeI b).k = (encI (takeI b).x).length ∧ 1 ≤ (takeI b).k ∧ (takeI b).k ≤ b.length ∧ b.take (takeI b).k = encI (takeI b).x ∧ isI (takeI b).x := by
  obtain ⟨u, e1, e2, e3, e4, e5, _⟩ := scan_ok b 0 0 (by omega) (by decide) h
  rw [Nat.pow_zero, Nat.mul_one, Nat.zero_add] at e4 e5
  rw [Nat.zero_add] at e1
  have ex : encI (takeI b).x = enc u := by unfold encI takeI; rw [e4, code_dec]
  have ek : (takeI b).k = (enc u).length := e1
  rw [ex, ek]
  exact ⟨rfl, enc_pos u, e2, e3, by unfold takeI; rw [e4]; exact dec_isI e5⟩
theorem scan_err : ∀ (l : List UInt8) (i acc : Nat), ¬ (scan i acc l).e = 0 → (scan i acc l).x = 0 ∧ (scan i acc l).k = 0 := by
  intro l
  induction l with
  | nil => intro i acc _; exact ⟨rfl, rfl⟩
  | cons b r ih =>
    intro i acc h
    rw [scan] at h ⊢
    split
    · exact ⟨rfl, rfl⟩
    · rename_i c1
      rw [if_neg c1] at h
      split
      · rename_i c2
        rw [if_pos c2] at h
        exact ih _ _ h
      · rename_i c2
        rw [if_neg c2] at h
        split
        · exact ⟨rfl, rfl⟩
        · rename_i c3
          rw [if_neg c3] at h
          exact absurd rfl h

/-! ### Lengths, strings, lists -/
def lenR (b : List UInt8) (most : Int) : TR :=
  if (takeI b).e = 0 then (if (takeI b).x < 0 then ⟨0, 0, 3⟩ else if most < (takeI b).x then ⟨0, 0, 8⟩ else ⟨(takeI b).x, (takeI b).k, 0⟩) else ⟨0, 0, (takeI b).e⟩
theorem len_ok {b : List UInt8} {most : Int} (h : (lenR b most).e = 0) : (takeI b).e = 0 ∧ 0 ≤ (takeI b).x ∧ (takeI b).x ≤ most ∧ lenR b most = ⟨(takeI b).x, (takeI b).k, 0⟩ := by
  unfold lenR at h ⊢
  by_cases h1 : (takeI b).e = 0
  · rw [if_pos h1] at h ⊢
    by_cases h2 : (takeI b).x < 0
    · rw [if_pos h2] at h; simp at h
    · rw [if_neg h2] at h ⊢
      by_cases h3 : most < (takeI b).x
      · rw [if_pos h3] at h; simp at h
      · rw [if_neg h3]; exact ⟨h1, by omega, by omega, rfl⟩
  · rw [if_neg h1] at h; exact absurd h h1
structure SR where
  s : List UInt8
  k : Nat
  e : Int
def takeT (b : List UInt8) (most : Int) : SR :=
  if (lenR b most).e = 0 then (if (b.length : Int) - ((lenR b most).k : Int) < (lenR b most).x then ⟨[], 0, 4⟩ else ⟨(b.drop (lenR b most).k).take (lenR b most).x.toNat, (lenR b most).k + (lenR b most).x.toNat, 0⟩) else ⟨[], 0, (lenR b most).e⟩
structure LR where
  l : List Int
  k : Nat
  e : Int
def items (b : List UInt8) : Nat → Nat → List Int → LR
  | 0, k, acc => ⟨acc, k, 0⟩
  | n + 1, k, acc => if (takeI (b.drop k)).e = 0 then items b n (k + (takeI (b.drop k)).k) (acc ++ [(takeI (b.drop k)).x]) else ⟨[], 0, (takeI (b.drop k)).e⟩
def takeL (b : List UInt8) (most : Int) : LR :=
  if (lenR b most).e = 0 then items b (lenR b most).x.toNat (lenR b most).k [] else ⟨[], 0, (lenR b most).e⟩
theorem lenR_enc {n : Nat} (h : n ≤ 1000000) (more : List UInt8) : lenR (encI (n : Int) ++ more) (n : Int) = ⟨(n : Int), (encI (n : Int)).length, 0⟩ := by
  unfold lenR
  rw [take_enc (len_isI h)]
  simp only
  rw [if_pos trivial, if_neg (by omega), if_neg (by omega)]
theorem takeT_enc {s : List UInt8} (h : s.length ≤ 1000000) (more : List UInt8) : takeT (encT s ++ more) (s.length : Int) = ⟨s, (encT s).length, 0⟩ := by
  unfold takeT
  have e : encT s ++ more = encI (s.length : Int) ++ (s ++ more) := by unfold encT; rw [List.append_assoc]
  rw [e, lenR_enc h]
  simp only
  rw [if_pos trivial, if_neg (by simp only [List.length_append]; omega), List.drop_left, Int.toNat_natCast, List.take_left]
  congr 1
  unfold encT; rw [List.length_append]
theorem items_enc (b more : List UInt8) : ∀ (l : List Int) (k : Nat) (acc : List Int), (∀ n ∈ l, isI n) → b.drop k = encs l ++ more → items b l.length k acc = ⟨acc ++ l, k + (encs l).length, 0⟩ := by
  intro l
  induction l with
  | nil => intro k acc _ _; simp [items, encs]
  | cons n l ih =>
    intro k acc hi hd
    have h1 : takeI (b.drop k) = ⟨n, (encI n).length, 0⟩ := by rw [hd, encs, List.append_assoc]; exact take_enc (hi n (List.mem_cons_self ..)) _
    rw [List.length_cons, items, h1]
    simp only
    rw [if_pos trivial, ih _ _ (fun m hm => hi m (List.mem_cons_of_mem _ hm)) (by rw [← List.drop_drop, hd, encs, List.append_assoc, List.drop_left]), encs, List.length_append]
    congr 1
    · simp
    · omega
theorem takeL_enc {l : List Int} (h : l.length ≤ 1000000) (hi : ∀ n ∈ l, isI n) (more : List UInt8) : takeL (encL l ++ more) (l.length : Int) = ⟨l, (encL l).length, 0⟩ := by
  unfold takeL
  have e : encL l ++ more = encI (l.length : Int) ++ (encs l ++ more) := by unfold encL; rw [List.append_assoc]
  rw [e, lenR_enc h]
  simp only
  rw [if_pos trivial, Int.toNat_natCast, items_enc _ more l _ [] hi (by rw [List.drop_left]), List.nil_append]
  congr 1
  unfold encL; rw [List.length_append]
theorem takeT_ok {b : List UInt8} {most : Int} (h : (takeT b most).e = 0) :
    1 ≤ (takeT b most).k ∧ (takeT b most).k ≤ b.length ∧ ((takeT b most).s.length : Int) ≤ most ∧ b.take (takeT b most).k = encT (takeT b most).s := by
  unfold takeT at h ⊢
  by_cases h1 : (lenR b most).e = 0
  · obtain ⟨a1, a2, a3, a4⟩ := len_ok h1
    obtain ⟨c1, c2, c3, c4, c5⟩ := take_ok a1
    rw [if_pos h1] at h ⊢
    rw [a4] at h ⊢
    simp only at h ⊢
    by_cases h2 : (b.length : Int) - ((takeI b).k : Int) < (takeI b).x
    · rw [if_pos h2] at h; simp at h
    · rw [if_neg h2]
      simp only
      have hl : ((b.drop (takeI b).k).take (takeI b).x.toNat).length = (takeI b).x.toNat := by rw [List.length_take, List.length_drop]; omega
      refine ⟨by omega, by omega, by omega, ?_⟩
      unfold encT
      rw [hl, Int.toNat_of_nonneg a2, ← c4, List.take_add]
  · rw [if_neg h1] at h; exact absurd h h1
theorem items_ok (b : List UInt8) : ∀ (n k : Nat) (acc : List Int), k ≤ b.length → (items b n k acc).e = 0 →
    ∃ l, (items b n k acc).l = acc ++ l ∧ l.length = n ∧ (items b n k acc).k = k + (encs l).length ∧ (items b n k acc).k ≤ b.length ∧ (b.drop k).take (encs l).length = encs l ∧ ∀ z ∈ l, isI z := by
  intro n
  induction n with
  | zero => intro k acc hk _; exact ⟨[], by simp [items], rfl, by simp [items, encs], by simpa [items] using hk, by simp [encs], by simp⟩
  | succ n ih =>
    intro k acc hk h
    rw [items] at h ⊢
    by_cases h1 : (takeI (b.drop k)).e = 0
    · rw [if_pos h1] at h ⊢
      obtain ⟨c1, c2, c3, c4, c5⟩ := take_ok h1
      rw [List.length_drop] at c3
      obtain ⟨l, e1, e2, e3, e4, e5, e6⟩ := ih _ _ (by omega) h
      refine ⟨(takeI (b.drop k)).x :: l, by rw [e1]; simp, by rw [List.length_cons, e2], ?_, e4, ?_, ?_⟩
      · rw [e3, encs, List.length_append, ← c1]; omega
      · rw [encs, List.length_append, ← c1, List.take_add, c4, List.drop_drop, e5]
      · intro z hz
        rcases List.mem_cons.mp hz with rfl | hz
        · exact c5
        · exact e6 z hz
    · rw [if_neg h1] at h; exact absurd h h1
theorem takeL_ok {b : List UInt8} {most : Int} (h : (takeL b most).e = 0) :
    1 ≤ (takeL b most).k ∧ (takeL b most).k ≤ b.length ∧ ((takeL b most).l.length : Int) ≤ most ∧ b.take (takeL b most).k = encL (takeL b most).l ∧ ∀ z ∈ (takeL b most).l, isI z := by
  unfold takeL at h ⊢
  by_cases h1 : (lenR b most).e = 0
  · obtain ⟨a1, a2, a3, a4⟩ := len_ok h1
    obtain ⟨c1, c2, c3, c4, c5⟩ := take_ok a1
    rw [if_pos h1] at h ⊢
    rw [a4] at h ⊢
    simp only at h ⊢
    obtain ⟨l, e1, e2, e3, e4, e5, e6⟩ := items_ok b _ _ _ c3 h
    rw [List.nil_append] at e1
    rw [e1, e2]
    refine ⟨by omega, e4, by omega, ?_, e6⟩
    unfold encL
    rw [e2, Int.toNat_of_nonneg a2, e3, List.take_add, e5, c4]
  · rw [if_neg h1] at h; exact absurd h h1
#print axioms takeT_ok
#print axioms takeL_ok
#print axioms takeL_enc
end Go.Proofs.YtahgkohnamnljaaDoor.Wire
