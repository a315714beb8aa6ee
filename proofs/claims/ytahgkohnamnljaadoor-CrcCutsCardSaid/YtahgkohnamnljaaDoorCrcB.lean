/- Frames that are opened, cut, damaged; frames one after the other. Pure. -/
import Derived.Test.YtahgkohnamnljaaDoorCrcA
namespace Go.Proofs.YtahgkohnamnljaaDoor.Crc
open Go.ChangeShapes Go.WideShapes Go.RowKit
open Wire (encI takeI take_enc take_ok isI len_isI encI_ten encI_pos scan enc TR byte_of of_byte scan_more scan_last scan_err enc_one enc_more codeN code_lt)
set_option linter.unusedVariables false
set_option maxRecDepth 100000

theorem openR_def (b : List UInt8) : openR b = if (takeI b).e = 0 then
    (if (takeI b).x < 0 then ⟨[], 0, 3⟩
     else if 65536 < (takeI b).x then ⟨[], 0, 8⟩
     else if (b.length : Int) < ((takeI b).k : Int) + (takeI b).x + 4 then ⟨[], 0, 4⟩
     else if (b.drop ((takeI b).k + (takeI b).x.toNat)).take 4 = four (chk ((b.drop (takeI b).k).take (takeI b).x.toNat)) then ⟨(b.drop (takeI b).k).take (takeI b).x.toNat, (takeI b).k + (takeI b).x.toNat + 4, 0⟩
     else ⟨[], 0, 15⟩)
  else ⟨[], 0, (takeI b).e⟩ := rfl
/-- What follows the length. -/
theorem openR_len {n : Nat} (h : n ≤ 65536) (r : List UInt8) : openR (encI (n : Int) ++ r) =
    if r.length < n + 4 then ⟨[], 0, 4⟩ else if (r.drop n).take 4 = four (chk (r.take n)) then ⟨r.take n, (encI (n : Int)).length + n + 4, 0⟩ else ⟨[], 0, 15⟩ := by
  have ht := take_enc (len_isI (n := n) (by omega)) r
  rw [openR_def, ht]
  simp only
  rw [if_pos trivial, if_neg (by omega), if_neg (by omega), Int.toNat_natCast, List.drop_left, ← List.drop_drop, List.drop_left, List.length_append]
  by_cases h1 : r.length < n + 4
  · rw [if_pos h1, if_pos (by omega)]
  · rw [if_neg h1, if_neg (by omega)]
theorem open_frame {l : List UInt8} (h : l.length ≤ 65536) (more : List UInt8) : openR (frame l ++ more) = ⟨l, (frame l).length, 0⟩ := by
  have e : frame l ++ more = encI (l.length : Int) ++ (l ++ (four (chk l) ++ more)) := by unfold frame; simp only [List.append_assoc]
  rw [e, openR_len h, if_neg (by simp only [List.length_append, four_len]; omega), List.take_left, List.drop_left, if_pos (List.take_left' (four_len _))]
  congr 1
  unfold frame; simp only [List.length_append, four_len]; omega
theorem open_err {b : List UInt8} (h : ¬ (openR b).e = 0) : (openR b).c = [] ∧ (openR b).k = 0 := by
  rw [openR_def] at h ⊢
  split
  · rename_i h0
    rw [if_pos h0] at h
    split
    · exact ⟨rfl, rfl⟩
    · rename_i h1
      rw [if_neg h1] at h
      split
      · exact ⟨rfl, rfl⟩
      · rename_i h2
        rw [if_neg h2] at h
        split
        · exact ⟨rfl, rfl⟩
        · rename_i h3
          rw [if_neg h3] at h
          split
          · rename_i h4
            rw [if_pos h4] at h; exact absurd rfl h
          · exact ⟨rfl, rfl⟩
  · exact ⟨rfl, rfl⟩
/-- What can be opened is a frame. -/
theorem open_ok {b : List UInt8} (h : (openR b).e = 0) : (openR b).k ≤ b.length ∧ (openR b).c.length ≤ 65536 ∧ (openR b).k = (frame (openR b).c).length ∧ b.take (openR b).k = frame (openR b).c := by
  rw [openR_def] at h ⊢
  by_cases h0 : (takeI b).e = 0
  · obtain ⟨c1, c2, c3, c4, c5⟩ := take_ok h0
    rw [if_pos h0] at h ⊢
    by_cases h1 : (takeI b).x < 0
    · rw [if_pos h1] at h; simp at h
    · rw [if_neg h1] at h ⊢
      by_cases h2 : 65536 < (takeI b).x
      · rw [if_pos h2] at h; simp at h
      · rw [if_neg h2] at h ⊢
        by_cases h3 : (b.length : Int) < ((takeI b).k : Int) + (takeI b).x + 4
        · rw [if_pos h3] at h; simp at h
        · rw [if_neg h3] at h ⊢
          by_cases h4 : (b.drop ((takeI b).k + (takeI b).x.toNat)).take 4 = four (chk ((b.drop (takeI b).k).take (takeI b).x.toNat))
          · rw [if_pos h4]
            simp only
            have hl : ((b.drop (takeI b).k).take (takeI b).x.toNat).length = (takeI b).x.toNat := by rw [List.length_take, List.length_drop]; omega
            have hf : frame ((b.drop (takeI b).k).take (takeI b).x.toNat) = b.take ((takeI b).k + (takeI b).x.toNat + 4) := by
              unfold frame
              rw [hl, Int.toNat_of_nonneg (by omega), ← c4, ← h4, List.take_add, List.take_add, List.append_assoc]
            rw [hf]
            exact ⟨by omega, by omega, by rw [List.length_take]; omega, rfl⟩
          · rw [if_neg h4] at h; simp at h
  · rw [if_neg h0] at h; exact absurd h h0
theorem open_pos {b : List UInt8} (h : (openR b).e = 0) : 5 ≤ (openR b).k := by
  rw [(open_ok h).2.2.1]
  unfold frame
  have := encI_pos ((openR b).c.length : Int)
  simp only [List.length_append, four_len]; omega

/-! ### Cuts (P9.10) -/
theorem scan_cut : ∀ (u j i acc : Nat), i + (enc u).length ≤ 10 → j < (enc u).length → scan i acc ((enc u).take j) = ⟨0, 0, 4⟩ := by
  intro u
  induction u using Nat.strongRecOn with
  | _ u ih =>
    intro j i acc hi hj
    cases j with
    | zero => rfl
    | succ j =>
      rcases Nat.lt_or_ge u 128 with h | h
      · rw [enc_one h] at hj; simp at hj
      · rw [enc_more h] at hi hj ⊢
        rw [List.length_cons] at hi hj
        rw [List.take_succ_cons, scan_more (by have := Wire.enc_pos (u / 128); omega) (by rw [byte_of (by omega)]; omega)]
        exact ih (u / 128) (by omega) j (i + 1) _ (by omega) (by omega)
theorem take_cut {n : Int} (h : isI n) {j : Nat} (hj : j < (encI n).length) : takeI ((encI n).take j) = ⟨0, 0, 4⟩ :=
  scan_cut _ j 0 0 (by have := encI_ten h; unfold encI at this; omega) hj
theorem open_cut {l : List UInt8} (h : l.length ≤ 65536) {j : Nat} (hj : j < (frame l).length) : openR ((frame l).take j) = ⟨[], 0, 4⟩ := by
  have hl := len_isI (n := l.length) (by omega)
  unfold frame at hj ⊢
  rcases Nat.lt_or_ge j (encI (l.length : Int)).length with h1 | h1
  · rw [List.take_append_of_le_length (by omega), openR_def, take_cut hl h1]
    simp
  · obtain ⟨d, rfl⟩ : ∃ d, j = (encI (l.length : Int)).length + d := ⟨j - (encI (l.length : Int)).length, by omega⟩
    rw [List.take_length_add_append, openR_len h, if_pos (by simp only [List.length_append, four_len] at hj; rw [List.length_take]; simp only [List.length_append, four_len]; omega)]

/-! ### Damage (P9.9) -/
/-- A byte behind the length. -/
theorem open_behind {l : List UInt8} (h : l.length ≤ 65536) {p q : List UInt8} {x y : UInt8} (e1 : l ++ four (chk l) = p ++ x :: q) (hxy : x ≠ y) : openR (encI (l.length : Int) ++ (p ++ y :: q)) = ⟨[], 0, 15⟩ := by
  have ep : (l ++ four (chk l)).length = p.length + 1 + q.length := by rw [e1]; simp; omega
  rw [List.length_append, four_len] at ep
  obtain ⟨r, e2⟩ : ∃ r, r = p ++ y :: q := ⟨_, rfl⟩
  rw [← e2]
  have hr : r.length = l.length + 4 := by rw [e2]; simp; omega
  rw [openR_len h, if_neg (by omega), if_neg]
  intro hc
  have el : l = (p ++ x :: q).take l.length := by rw [← e1, List.take_left]
  have ef : four (chk l) = (p ++ x :: q).drop l.length := by rw [← e1, List.drop_left]
  rcases Nat.lt_or_ge p.length l.length with hp | hp
  · obtain ⟨d, hd⟩ : ∃ d, l.length = p.length + (d + 1) := ⟨l.length - p.length - 1, by omega⟩
    have a1 : l = p ++ x :: q.take d := by rw [hd, List.take_length_add_append, List.take_succ_cons] at el; exact el
    have a2 : r.take l.length = p ++ y :: q.take d := by rw [e2, hd, List.take_length_add_append, List.take_succ_cons]
    have a3 : r.drop l.length = four (chk l) := by
      rw [ef, e2, hd, List.drop_length_add_append, List.drop_length_add_append, List.drop_succ_cons, List.drop_succ_cons]
    rw [a3, List.take_of_length_le (by rw [four_len]; exact Nat.le_refl _)] at hc
    have hk := four_inj (chk_lt _) (chk_lt _) hc
    rw [a2] at hk
    rw [a1] at hk
    exact hxy (chk_one p (q.take d) hk)
  · obtain ⟨d, hd⟩ : ∃ d, p.length = l.length + d := ⟨p.length - l.length, by omega⟩
    have b1 : (p ++ x :: q).take l.length = p.take l.length := List.take_append_of_le_length hp
    have b2 : (p ++ y :: q).take l.length = p.take l.length := List.take_append_of_le_length hp
    have a2 : r.take l.length = l := by rw [e2, b2, ← b1, ← el]
    rw [a2, ef, e2, List.take_of_length_le (by simp only [List.length_drop, List.length_append, List.length_cons]; omega), List.drop_append_of_le_length hp, List.drop_append_of_le_length hp] at hc
    have hq := List.append_cancel_left hc
    simp only [List.cons.injEq, and_true] at hq
    exact hxy hq.symm
/-- A byte of the length: what is opened has another length. -/
theorem open_length {l c : List UInt8} {j : Nat} {y : UInt8} (hj : j < (encI (l.length : Int)).length) (hl : l.length ≤ 65536) {b : List UInt8} (hb : b.length = (frame l).length)
    (hsame : ∀ i, i ≠ j → b[i]? = (frame l)[i]?) (hdiff : b[j]? ≠ (frame l)[j]?) (h : (openR b).e = 0) : (openR b).c.length ≠ l.length := by
  intro he
  obtain ⟨h1, h2, h3, h4⟩ := open_ok h
  apply hdiff
  have e1 : b.take (encI (l.length : Int)).length = encI (l.length : Int) := by
    have := congrArg (List.take (encI (l.length : Int)).length) h4
    rw [List.take_take] at this
    have hk : (encI (l.length : Int)).length ≤ (openR b).k := by rw [h3]; unfold frame; rw [he]; simp
    rw [Nat.min_eq_left hk] at this
    rw [this]; unfold frame; rw [he, List.take_left]
  have e2 : (frame l).take (encI (l.length : Int)).length = encI (l.length : Int) := by unfold frame; rw [List.take_left]
  have e3 := congrArg (fun t => t[j]?) (e1.trans e2.symm)
  simp only [List.getElem?_take, if_pos hj] at e3
  exact e3

/-! ### Frames one after the other -/
structure AR where
  l : List (List UInt8)
  k : Nat
def allF (b : List UInt8) : Nat → Nat → List (List UInt8) → AR
  | 0, at_, acc => ⟨acc, at_⟩
  | n + 1, at_, acc => if (openR (b.drop at_)).e = 0 then allF b n (at_ + (openR (b.drop at_)).k) (acc ++ [(openR (b.drop at_)).c]) else ⟨acc, at_⟩
def allR (b : List UInt8) : AR := allF b (b.length + 1) 0 []
theorem allF_go (b : List UInt8) {n : Nat} (at_ : Nat) (acc : List (List UInt8)) (hn : 0 < n) (h : (openR (b.drop at_)).e = 0) : allF b n at_ acc = allF b (n - 1) (at_ + (openR (b.drop at_)).k) (acc ++ [(openR (b.drop at_)).c]) := by
  obtain ⟨m, rfl⟩ : ∃ m, n = m + 1 := ⟨n - 1, by omega⟩
  rw [allF, if_pos h]; rfl
theorem allF_no (b : List UInt8) {n : Nat} (at_ : Nat) (acc : List (List UInt8)) (hn : 0 < n) (h : ¬ (openR (b.drop at_)).e = 0) : allF b n at_ acc = ⟨acc, at_⟩ := by
  obtain ⟨m, rfl⟩ : ∃ m, n = m + 1 := ⟨n - 1, by omega⟩
  rw [allF, if_neg h]
def frames : List (List UInt8) → List UInt8
  | [] => []
  | c :: L => frame c ++ frames L
theorem frames_append (a b : List (List UInt8)) : frames (a ++ b) = frames a ++ frames b := by
  induction a with
  | nil => rfl
  | cons c L ih => simp only [List.cons_append, frames, ih, List.append_assoc]
theorem open_nil : openR [] = ⟨[], 0, 4⟩ := rfl
theorem allF_frames (b : List UInt8) : ∀ (L : List (List UInt8)) (n at_ : Nat) (acc : List (List UInt8)), (∀ c ∈ L, c.length ≤ 65536) → b.drop at_ = frames L → L.length < n →
    allF b n at_ acc = ⟨acc ++ L, at_ + (frames L).length⟩ := by
  intro L
  induction L with
  | nil =>
    intro n at_ acc _ hd hn
    have he : (openR (b.drop at_)).e = 4 := by rw [hd]; rfl
    rw [allF_no b at_ acc (by omega) (by rw [he]; decide)]
    simp [frames]
  | cons c L ih =>
    intro n at_ acc hc hd hn
    have ho : openR (b.drop at_) = ⟨c, (frame c).length, 0⟩ := by rw [hd, frames]; exact open_frame (hc c (List.mem_cons_self ..)) _
    rw [List.length_cons] at hn
    rw [allF_go b at_ acc (by omega) (by rw [ho]), ho]
    simp only
    rw [ih (n - 1) _ _ (fun d hd => hc d (List.mem_cons_of_mem _ hd)) (by rw [← List.drop_drop, hd, frames, List.drop_left]) (by omega), frames, List.length_append, List.append_assoc]
    congr 1
    omega
theorem frames_ge (L : List (List UInt8)) : L.length ≤ (frames L).length := by
  induction L with
  | nil => exact Nat.le_refl _
  | cons c L ih =>
    have := encI_pos (c.length : Int)
    rw [frames, List.length_cons, List.length_append]
    unfold frame; rw [List.length_append]; omega
/-- P9.7. -/
theorem all_frames {L : List (List UInt8)} (hc : ∀ c ∈ L, c.length ≤ 65536) : allR (frames L) = ⟨L, (frames L).length⟩ := by
  unfold allR
  rw [allF_frames _ L _ 0 [] hc rfl (by have := frames_ge L; omega)]
  simp
/-- What the rounds of All hold: 'at_' lies within, and each content fits. -/
theorem allF_le (b : List UInt8) : ∀ (n at_ : Nat) (acc : List (List UInt8)), at_ ≤ b.length → (allF b n at_ acc).k ≤ b.length := by
  intro n
  induction n with
  | zero => intro at_ acc h; exact h
  | succ n ih =>
    intro at_ acc h
    rw [allF]
    split
    · rename_i he
      have := (open_ok he).1
      rw [List.length_drop] at this
      exact ih _ _ (by omega)
    · exact h
#print axioms open_behind
#print axioms open_length
#print axioms open_cut
#print axioms all_frames
end Go.Proofs.YtahgkohnamnljaaDoor.Crc
