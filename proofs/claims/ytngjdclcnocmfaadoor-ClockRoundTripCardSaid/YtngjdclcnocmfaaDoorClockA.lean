/- Moments: forms, what two readers make of a string, the parts of a span. No walk. -/
import Derived.Test.YtngjdclcnocmfaaDoorRows
import Derived.WalkKit
import Derived.Lib.Hide
import Derived.WalkLawsBesides
import Derived.WalkSpells
import Derived.Outline
import Derived.Lib.ItoaNum
import Derived.Lib.ItoaLen
namespace Go.Proofs.YtngjdclcnocmfaaDoor.Clock
open Go.ChangeShapes Go.WideShapes Go.RowKit
set_option linter.unusedVariables false
set_option maxRecDepth 100000

/-- t is a moment. -/
def mom (t : Int) : Bool := decide (0 ≤ t) && decide (t ≤ 2147483647)
theorem mom_iff {t : Int} : mom t = true ↔ 0 ≤ t ∧ t ≤ 2147483647 := by simp [mom]
theorem mom_nat {t : Int} (h : mom t = true) : ∃ n : Nat, t = n ∧ n ≤ 2147483647 := by
  obtain ⟨h1, h2⟩ := mom_iff.mp h
  exact ⟨t.toNat, by omega, by omega⟩
theorem mom_no {t : Int} (h : mom t = false) : t < 0 ∨ (0 ≤ t ∧ 2147483647 < t) := by
  have : ¬ (0 ≤ t ∧ t ≤ 2147483647) := fun k => by rw [mom_iff.mpr k] at h; cases h
  omega

/-- Two digits. -/
def two (n : Nat) : List UInt8 := [UInt8.ofNat (48 + n / 10), UInt8.ofNat (48 + n % 10)]
/-- The form of a moment. -/
def fmtL (t : Nat) : List UInt8 := Lib.decDigits (t / 86400) ++ 32 :: (two (t % 86400 / 3600) ++ 58 :: (two (t % 3600 / 60) ++ 58 :: two (t % 60)))
def fmtS (t : Int) : ByteArray := if mom t = true then ⟨(fmtL t.toNat).toArray⟩ else ⟨#[]⟩
def rngE (t : Int) : Int := if mom t = true then 0 else 1
theorem fmtS_yes {n : Nat} (h : n ≤ 2147483647) : fmtS (n : Int) = ⟨(fmtL n).toArray⟩ := by
  unfold fmtS; rw [if_pos (mom_iff.mpr ⟨by omega, by omega⟩)]; rfl
theorem rngE_yes {t : Int} (h : mom t = true) : rngE t = 0 := if_pos h
theorem rngE_no {t : Int} (h : mom t = false) : rngE t = 1 := if_neg (by rw [h]; decide)
theorem fmtS_no {t : Int} (h : mom t = false) : fmtS t = ⟨#[]⟩ := if_neg (by rw [h]; decide)

/-- What a reader holds: the field that it reads, and four numbers. -/
structure RS where
  f : Nat
  a : Int
  b : Int
  c : Int
  d : Int
def RS.zero : RS := ⟨0, 0, 0, 0, 0⟩
def RS.get (s : RS) : Int := match s.f with | 0 => s.a | 1 => s.b | 2 => s.c | _ => s.d
def RS.put (s : RS) (x : Int) : RS := match s.f with | 0 => { s with a := x } | 1 => { s with b := x } | 2 => { s with c := x } | _ => { s with d := x }
def RS.next (s : RS) : RS := { s with f := s.f + 1 }
def isD (x : UInt8) : Bool := decide (48 ≤ x.toNat) && decide (x.toNat ≤ 57)
theorem isD_iff {x : UInt8} : isD x = true ↔ 48 ≤ x.toNat ∧ x.toNat ≤ 57 := by simp [isD]
def RS.dig (s : RS) (x : UInt8) : RS := s.put (10 * s.get + ((x.toNat : Int) - 48))
/-- One byte, as the program reads it. -/
def rstep (s : RS) (x : UInt8) : RS := if isD x = true then (if s.f < 4 ∧ s.get ≤ 2147483647 then s.dig x else s) else s.next
def readS (L : List UInt8) : RS := L.foldl rstep RS.zero
def RS.sum (s : RS) : Int := 86400 * s.a + 3600 * s.b + 60 * s.c + s.d
theorem readS_snoc (L : List UInt8) (x : UInt8) : readS (L ++ [x]) = rstep (readS L) x := by simp [readS]
structure RS.Ok (s : RS) : Prop where
  a0 : 0 ≤ s.a
  a1 : s.a ≤ 21474836479
  b0 : 0 ≤ s.b
  b1 : s.b ≤ 21474836479
  c0 : 0 ≤ s.c
  c1 : s.c ≤ 21474836479
  d0 : 0 ≤ s.d
  d1 : s.d ≤ 21474836479
theorem RS.Ok.zero : RS.zero.Ok := by constructor <;> simp [RS.zero]
theorem RS.Ok.get {s : RS} (h : s.Ok) : 0 ≤ s.get ∧ s.get ≤ 21474836479 := by
  obtain ⟨a0, a1, b0, b1, c0, c1, d0, d1⟩ := h
  unfold RS.get; split <;> exact ⟨by assumption, by assumption⟩
theorem RS.Ok.put {s : RS} (h : s.Ok) {x : Int} (h0 : 0 ≤ x) (h1 : x ≤ 21474836479) : (s.put x).Ok := by
  obtain ⟨a0, a1, b0, b1, c0, c1, d0, d1⟩ := h
  unfold RS.put; split <;> constructor <;> assumption
theorem RS.Ok.dig {s : RS} (h : s.Ok) (hg : s.get ≤ 2147483647) {x : UInt8} (hx : isD x = true) : (s.dig x).Ok := by
  have g := h.get
  obtain ⟨x0, x1⟩ := isD_iff.mp hx
  exact h.put (by omega) (by omega)
theorem RS.Ok.step {s : RS} (h : s.Ok) (x : UInt8) : (rstep s x).Ok := by
  unfold rstep
  split
  · rename_i hx
    split
    · rename_i hg; exact h.dig hg.2 hx
    · exact h
  · obtain ⟨a0, a1, b0, b1, c0, c1, d0, d1⟩ := h
    constructor <;> assumption
theorem readS_ok (L : List UInt8) : (readS L).Ok := by
  have : ∀ (L : List UInt8) (s : RS), s.Ok → (L.foldl rstep s).Ok := by
    intro L
    induction L with
    | nil => intro s h; exact h
    | cons x L ih => intro s h; exact ih _ (h.step x)
  exact this L _ RS.Ok.zero
theorem put_f (s : RS) (x : Int) : (s.put x).f = s.f := by obtain ⟨f, a, b, c, d⟩ := s; rcases f with _ | _ | _ | f <;> rfl
theorem step_f (s : RS) (x : UInt8) : (rstep s x).f ≤ s.f + 1 := by
  unfold rstep
  split
  · split
    · unfold RS.dig; rw [put_f]; omega
    · omega
  · exact Nat.le_refl _
theorem readS_f (L : List UInt8) : (readS L).f ≤ L.length := by
  have : ∀ (L : List UInt8) (s : RS), (L.foldl rstep s).f ≤ s.f + L.length := by
    intro L
    induction L with
    | nil => intro s; simp
    | cons x L ih => intro s; have := ih (rstep s x); have := step_f s x; simp only [List.foldl_cons, List.length_cons]; omega
  have := this L RS.zero
  simpa [readS, RS.zero] using this

/-- One byte, as the reference reads it. -/
def pstep (s : RS) (x : UInt8) : Option RS :=
  if x.toNat = 32 ∨ x.toNat = 58 then (if 3 < s.f + 1 then none else some s.next)
  else if isD x = true ∧ s.get ≤ 2147483647 then some (s.dig x) else none
def prun (s : RS) : List UInt8 → Option RS
  | [] => some s
  | x :: L => match pstep s x with
    | none => none
    | some s' => prun s' L
theorem prun_append (s : RS) (L M : List UInt8) : prun s (L ++ M) = (prun s L).bind fun s' => prun s' M := by
  induction L generalizing s with
  | nil => rfl
  | cons x L ih =>
    simp only [List.cons_append, prun]
    cases pstep s x with
    | none => rfl
    | some s' => exact ih s'
theorem prun_snoc {s s' : RS} {L : List UInt8} (h : prun s L = some s') (x : UInt8) : prun s (L ++ [x]) = pstep s' x := by
  rw [prun_append, h]
  simp only [Option.bind_some, prun]
  cases pstep s' x <;> rfl
theorem prun_none {s : RS} {L : List UInt8} {k : Nat} (h : prun s (L.take k) = none) : prun s L = none := by
  rw [← List.take_append_drop k L, prun_append, h]; rfl
theorem pstep_f {s s' : RS} {x : UInt8} (h : pstep s x = some s') (hf : s.f ≤ 3) : s'.f ≤ 3 := by
  unfold pstep at h
  split at h
  · split at h
    · cases h
    · cases h; show s.f + 1 ≤ 3; omega
  · split at h
    · cases h; unfold RS.dig; rw [put_f]; exact hf
    · cases h
theorem pstep_ok {s s' : RS} {x : UInt8} (h : pstep s x = some s') (ho : s.Ok) : s'.Ok := by
  unfold pstep at h
  split at h
  · split at h
    · cases h
    · cases h; obtain ⟨a0, a1, b0, b1, c0, c1, d0, d1⟩ := ho; constructor <;> assumption
  · split at h
    · rename_i hg; cases h; exact ho.dig hg.2 hg.1
    · cases h
theorem prun_inv {s s' : RS} {L : List UInt8} (h : prun s L = some s') (hf : s.f ≤ 3) (ho : s.Ok) : s'.f ≤ 3 ∧ s'.Ok := by
  induction L generalizing s with
  | nil => cases h; exact ⟨hf, ho⟩
  | cons x L ih =>
    simp only [prun] at h
    split at h
    · cases h
    · rename_i s1 h1; exact ih h (pstep_f h1 hf) (pstep_ok h1 ho)

/-- Digits of small numbers. -/
theorem ofNat_digit {n : Nat} (h : n < 10) : (UInt8.ofNat (48 + n)).toNat = 48 + n := by
  simp only [UInt8.toNat_ofNat']; omega
theorem isD_digit {n : Nat} (h : n < 10) : isD (UInt8.ofNat (48 + n)) = true := by
  rw [isD_iff, ofNat_digit h]; omega
theorem rstep_digit {s : RS} {n : Nat} (h : n < 10) (hf : s.f < 4) (hg : s.get ≤ 2147483647) : rstep s (UInt8.ofNat (48 + n)) = s.put (10 * s.get + n) := by
  unfold rstep
  rw [if_pos (isD_digit h), if_pos ⟨hf, hg⟩]
  unfold RS.dig
  rw [ofNat_digit h]
  congr 1
  omega
theorem pstep_digit {s : RS} {n : Nat} (h : n < 10) (hg : s.get ≤ 2147483647) : pstep s (UInt8.ofNat (48 + n)) = some (s.put (10 * s.get + n)) := by
  unfold pstep
  rw [if_neg (by rw [ofNat_digit h]; omega), if_pos ⟨isD_digit h, hg⟩]
  unfold RS.dig
  rw [ofNat_digit h]
  congr 2
  omega
theorem put_get (s : RS) (x : Int) : (s.put x).get = x := by obtain ⟨f, a, b, c, d⟩ := s; rcases f with _ | _ | _ | f <;> rfl
theorem put_put (s : RS) (x y : Int) : (s.put x).put y = s.put y := by obtain ⟨f, a, b, c, d⟩ := s; rcases f with _ | _ | _ | f <;> rfl
theorem run_dec (q : Nat) (hq : q ≤ 2147483647) : ∀ s : RS, s.f < 4 → s.get = 0 → (Lib.decDigits q).foldl rstep s = s.put q ∧ prun s (Lib.decDigits q) = some (s.put q) := by
  induction q using Nat.strongRecOn with
  | ind q ih =>
    intro s hf hg
    by_cases h : q < 10
    · rw [Lib.decDigits_one h]
      refine ⟨?_, ?_⟩
      · rw [List.foldl_cons, List.foldl_nil, rstep_digit h hf (by omega), hg]; congr 1; omega
      · rw [prun, pstep_digit h (by omega), hg]; simp only [prun]; congr 2; omega
    · rw [Lib.decDigits, dif_neg h]
      obtain ⟨h1, h2⟩ := ih (q / 10) (by omega) (by omega) s hf hg
      have e : (s.put ((q / 10 : Nat) : Int)).get ≤ 2147483647 := by rw [put_get]; omega
      have m : q % 10 < 10 := Nat.mod_lt _ (by decide)
      have v : (10 * ((q / 10 : Nat) : Int) + ((q % 10 : Nat) : Int)) = (q : Int) := by omega
      refine ⟨?_, ?_⟩
      · rw [List.foldl_append, h1, List.foldl_cons, List.foldl_nil, rstep_digit m (by rw [put_f]; exact hf) e, put_get, put_put, v]
      · rw [prun_snoc h2, pstep_digit m e, put_get, put_put, v]
theorem run_two (n : Nat) (hn : n < 100) (s : RS) (hf : s.f < 4) (hg : s.get = 0) : (two n).foldl rstep s = s.put n ∧ prun s (two n) = some (s.put n) := by
  have h1 : n / 10 < 10 := by omega
  have h2 : n % 10 < 10 := by omega
  have e0 : 10 * (0 : Int) + ((n / 10 : Nat) : Int) = ((n / 10 : Nat) : Int) := by omega
  have e : (s.put ((n / 10 : Nat) : Int)).get ≤ 2147483647 := by rw [put_get]; omega
  have v : (10 * ((n / 10 : Nat) : Int) + ((n % 10 : Nat) : Int)) = (n : Int) := by omega
  refine ⟨?_, ?_⟩
  · rw [two, List.foldl_cons, List.foldl_cons, List.foldl_nil, rstep_digit h1 hf (by omega), hg, e0, rstep_digit h2 (by rw [put_f]; exact hf) e, put_get, put_put, v]
  · rw [two, prun, pstep_digit h1 (by omega), hg, e0]
    simp only [prun]
    rw [pstep_digit h2 e, put_get, put_put, v]
theorem rstep_mark (s : RS) {x : UInt8} (h : x = 32 ∨ x = 58) : rstep s x = s.next := by
  unfold rstep; rw [if_neg (by rcases h with rfl | rfl <;> decide)]
theorem pstep_mark (s : RS) {x : UInt8} (h : x = 32 ∨ x = 58) (hf : s.f < 3) : pstep s x = some s.next := by
  unfold pstep; rw [if_pos (by rcases h with rfl | rfl <;> decide), if_neg (by omega)]
theorem foldl_mark (s : RS) (x : UInt8) (L : List UInt8) (h : x = 32 ∨ x = 58) : (x :: L).foldl rstep s = L.foldl rstep s.next := by
  rw [List.foldl_cons, rstep_mark s h]
theorem prun_mark (s : RS) (x : UInt8) (L : List UInt8) (h : x = 32 ∨ x = 58) (hf : s.f < 3) : prun s (x :: L) = prun s.next L := by
  rw [prun, pstep_mark s h hf]
/-- What both readers hold behind the form of a moment. -/
def RS.of (t : Nat) : RS := ⟨3, ((t / 86400 : Nat) : Int), ((t % 86400 / 3600 : Nat) : Int), ((t % 3600 / 60 : Nat) : Int), ((t % 60 : Nat) : Int)⟩
theorem read_fmt {t : Nat} (h : t ≤ 2147483647) : readS (fmtL t) = RS.of t ∧ prun RS.zero (fmtL t) = some (RS.of t) := by
  have h0 := run_dec (t / 86400) (by omega) ⟨0, 0, 0, 0, 0⟩ (by decide) rfl
  have h1 := run_two (t % 86400 / 3600) (by omega) ⟨1, ((t / 86400 : Nat) : Int), 0, 0, 0⟩ (by show 1 < 4; decide) rfl
  have h2 := run_two (t % 3600 / 60) (by omega) ⟨2, ((t / 86400 : Nat) : Int), ((t % 86400 / 3600 : Nat) : Int), 0, 0⟩ (by show 2 < 4; decide) rfl
  have h3 := run_two (t % 60) (by omega) ⟨3, ((t / 86400 : Nat) : Int), ((t % 86400 / 3600 : Nat) : Int), ((t % 3600 / 60 : Nat) : Int), 0⟩ (by show 3 < 4; decide) rfl
  simp only [RS.put] at h0 h1 h2 h3
  refine ⟨?_, ?_⟩
  · unfold readS fmtL RS.zero
    rw [List.foldl_append, h0.1, foldl_mark _ _ _ (Or.inl rfl)]
    simp only [RS.next]
    rw [List.foldl_append, h1.1, foldl_mark _ _ _ (Or.inr rfl)]
    simp only [RS.next]
    rw [List.foldl_append, h2.1, foldl_mark _ _ _ (Or.inr rfl)]
    simp only [RS.next]
    rw [h3.1]
    rfl
  · unfold fmtL RS.zero
    rw [prun_append, h0.2]
    simp only [Option.bind_some]
    rw [prun_mark _ _ _ (Or.inl rfl) (by show 0 < 3; decide)]
    simp only [RS.next]
    rw [prun_append, h1.2]
    simp only [Option.bind_some]
    rw [prun_mark _ _ _ (Or.inr rfl) (by show 1 < 3; decide)]
    simp only [RS.next]
    rw [prun_append, h2.2]
    simp only [Option.bind_some]
    rw [prun_mark _ _ _ (Or.inr rfl) (by show 2 < 3; decide)]
    simp only [RS.next]
    rw [h3.2]
    rfl
theorem of_sum (t : Nat) : (RS.of t).sum = t := by
  simp only [RS.sum, RS.of]; omega
theorem fmt_sum {t : Nat} (h : t ≤ 2147483647) : (readS (fmtL t)).sum = t := by rw [(read_fmt h).1, of_sum]
theorem fmt_inj {s t : Nat} (hs : s ≤ 2147483647) (ht : t ≤ 2147483647) (h : fmtL s = fmtL t) : s = t := by
  have a := fmt_sum hs
  rw [h, fmt_sum ht] at a; omega
theorem two_length (n : Nat) : (two n).length = 2 := rfl
theorem dec5 {q : Nat} (h : q < 100000) : (Lib.decDigits q).length ≤ 5 := by
  rw [Lib.decDigits_length]
  have a := Lib.lt_pow_nDigits q
  rcases Nat.lt_or_ge 5 (Lib.nDigits q) with h5 | h5
  · exfalso
    have hn : ∀ (k : Nat) (q : Nat), q < 10 ^ (k + 1) → Lib.nDigits q ≤ k + 1 := by
      intro k
      induction k with
      | zero => intro q hq; rw [Lib.nDigits_small (by omega)]; omega
      | succ k ih =>
        intro q hq
        by_cases h : q < 10
        · rw [Lib.nDigits_small h]; omega
        · rw [Lib.nDigits_big h]
          have := ih (q / 10) (by rw [Nat.pow_succ] at hq; omega)
          omega
    have := hn 4 q (by omega)
    omega
  · exact h5
theorem fmtL_length {t : Nat} (h : t ≤ 2147483647) : (fmtL t).length ≤ 14 := by
  have := dec5 (q := t / 86400) (by omega)
  simp only [fmtL, List.length_append, List.length_cons, two_length]
  omega

/-- What Parse returns: the moment whose form s is, or the error. -/
def ParR (L : List UInt8) (x e : Int) : Prop := (e = 0 ∧ mom x = true ∧ fmtL x.toNat = L) ∨ (e = 3 ∧ x = 0 ∧ ∀ t : Nat, t ≤ 2147483647 → fmtL t ≠ L)
theorem ParR.one {L : List UInt8} {x e y f : Int} (h : ParR L x e) (k : ParR L y f) : x = y ∧ e = f := by
  rcases h with ⟨rfl, h1, h2⟩ | ⟨rfl, rfl, h2⟩ <;> rcases k with ⟨rfl, k1, k2⟩ | ⟨rfl, rfl, k2⟩
  · obtain ⟨m, rfl, hm⟩ := mom_nat h1
    obtain ⟨n, rfl, hn⟩ := mom_nat k1
    have := fmt_inj hm hn (h2.trans k2.symm)
    exact ⟨by omega, rfl⟩
  · obtain ⟨m, rfl, hm⟩ := mom_nat h1
    exact absurd h2 (k2 m hm)
  · obtain ⟨m, rfl, hm⟩ := mom_nat k1
    exact absurd k2 (h2 m hm)
  · exact ⟨rfl, rfl⟩
theorem ParR.fmt {t : Nat} (h : t ≤ 2147483647) {x e : Int} (k : ParR (fmtL t) x e) : e = 0 ∧ x = t := by
  rcases k with ⟨rfl, k1, k2⟩ | ⟨rfl, rfl, k2⟩
  · obtain ⟨n, rfl, hn⟩ := mom_nat k1
    exact ⟨rfl, by have := fmt_inj hn h k2; omega⟩
  · exact absurd rfl (k2 t h)
/-- The program's way: the form of what is read is s, or not. -/
theorem ParR.read_yes {L : List UInt8} (hm : mom (readS L).sum = true) (hf : fmtL (readS L).sum.toNat = L) : ParR L (readS L).sum 0 := Or.inl ⟨rfl, hm, hf⟩
theorem ParR.read_no {L : List UInt8} (h : mom (readS L).sum = false ∨ fmtL (readS L).sum.toNat ≠ L) : ParR L 0 3 := by
  refine Or.inr ⟨rfl, rfl, fun t ht e => ?_⟩
  subst e
  rw [fmt_sum ht] at h
  rcases h with h | h
  · rw [mom_iff.mpr ⟨by omega, by omega⟩] at h; cases h
  · exact h rfl
#print axioms read_fmt
#print axioms ParR.one
end Go.Proofs.YtngjdclcnocmfaaDoor.Clock
