/- Lists of spans in memory; contracts of span.Check, span.Has and of Check, Has, Same of the reference. -/
import Derived.Test.YtccbnobpighckaaSpanB
import Derived.Test.YtccbnobpighckaaRows
import Derived.WalkKit
import Derived.WalkLawsBesides
import Derived.WalkSpells
import Derived.Outline
import Derived.Laws.OwnMore
import Derived.OwnWalk
import Derived.Deep.QuietTactic
import Derived.BigQuiet
namespace Go.Proofs.Ytccbnobpighckaa.Span
open Go.ChangeShapes Go.WideShapes Go.RowKit
set_option linter.unusedVariables false
set_option maxRecDepth 100000

/-- At the address lie the spans L. -/
def Sps (w : World) (A : Option Addr) (L : List Sp) : Prop :=
  ∀ (k : Nat) (s : Sp), L[k]? = some s → ∃ b off, A = some ⟨b, off, none⟩ ∧ b < w.heap.size ∧
    w.cell? ⟨b, off + k * 2, none⟩ = some (.int .i64 s.1) ∧ w.cell? ⟨b, off + k * 2 + 1, none⟩ = some (.int .i64 s.2)
/-- A slice that holds the spans L. -/
def InL (w : World) (v : Value) (L : List Sp) : Prop := ∃ A c, v = .slice A L.length c ∧ L.length ≤ c ∧ c ≤ maxLen ∧ Sps w A L
theorem Sps.nil (w : World) (A : Option Addr) : Sps w A [] := fun k s h => by simp at h
theorem Sps.on {w w' : World} {A : Option Addr} {L : List Sp} (h : Sps w A L) (hb : Below w.heap.size w w') : Sps w' A L := by
  intro k s hk
  obtain ⟨b, off, e, hlt, h0, h1⟩ := h k s hk
  exact ⟨b, off, e, Nat.lt_of_lt_of_le hlt hb.size, (hb.cell (p := ⟨b, off + k * 2, none⟩) hlt).trans h0, (hb.cell (p := ⟨b, off + k * 2 + 1, none⟩) hlt).trans h1⟩
theorem InL.on {w w' : World} {v : Value} {L : List Sp} (h : InL w v L) (hb : Below w.heap.size w w') : InL w' v L := by
  obtain ⟨A, c, e, h1, h2, h3⟩ := h; exact ⟨A, c, e, h1, h2, h3.on hb⟩
theorem InL.nil (w : World) : InL w (.slice none 0 0) [] := ⟨none, 0, rfl, Nat.le_refl _, by unfold maxLen; omega, Sps.nil _ _⟩
theorem InL.open_ {w : World} {v : Value} {L : List Sp} (h : InL w v L) : ∃ A c, v = .slice A L.length c ∧ L.length ≤ 9223372036854775807 ∧ Sps w A L ∧ InL w (.slice A L.length c) L := by
  obtain ⟨A, c, rfl, h1, h2, h3⟩ := h
  exact ⟨A, c, rfl, by unfold maxLen at h2; omega, h3, A, c, rfl, h1, h2, h3⟩
theorem below_alloc (w : World) (o : Obj) : Below w.heap.size w (w.alloc o) := (Below.refl _ _).alloc (Nat.le_refl _) _
theorem bstep {a b c : World} (h : Below a.heap.size a b) (k : Below b.heap.size b c) : Below a.heap.size a c := h.trans (k.mono h.size)
theorem below_drewN {B : Nat} {a w : World} (h : Below B a w) (n : Nat) : Below B a (w.drewN n) := ⟨h.os, h.tape, h.output, h.size, h.block⟩
theorem ret_bool {a b : Bool} (h : a = b) : Ending.returned (.bool a) = .returned (.bool b) := by rw [h]
theorem ret_int {k : IntKind} {a b : Int} (h : a = b) : Ending.returned (.int k a) = .returned (.int k b) := by rw [h]
theorem get_lt {α : Type} {L : List α} {k : Nat} (h : k < L.length) : ∃ s, L[k]? = some s := ⟨_, List.getElem?_eq_getElem h⟩
theorem lt_get {α : Type} {L : List α} {k : Nat} {s : α} (h : L[k]? = some s) : k < L.length := by
  rcases Nat.lt_or_ge k L.length with h1 | h1
  · exact h1
  · rw [List.getElem?_eq_none h1] at h; cases h
theorem take_snoc_of {α : Type} {l : List α} {k : Nat} {z : α} (h : l[k]? = some z) : l.take (k + 1) = l.take k ++ [z] := by
  rw [List.take_add_one, h]; rfl
theorem all_of {α : Type} {p : α → Bool} {L : List α} (h : ∀ (j : Nat) s, j < L.length → L[j]? = some s → p s = true) : L.all p = true := by
  rw [List.all_eq_true]
  intro s hs
  obtain ⟨j, hj⟩ := List.mem_iff_getElem?.mp hs
  exact h j s (lt_get hj) hj
theorem all_not {α : Type} {p : α → Bool} {L : List α} {j : Nat} {s : α} (h : L[j]? = some s) (hs : p s = false) : L.all p = false := by
  rw [List.all_eq_false]; exact ⟨s, List.mem_of_getElem? h, by simpa using hs⟩
theorem okS_cases (s : Sp) : (okS s = false ∧ (s.1 < 0 ∨ (0 ≤ s.1 ∧ s.2 < s.1) ∨ (0 ≤ s.1 ∧ s.1 ≤ s.2 ∧ 17179869184 < s.2))) ∨ (okS s = true ∧ 0 ≤ s.1 ∧ s.1 ≤ s.2 ∧ s.2 ≤ 17179869184) := by
  cases h : okS s with
  | true => exact Or.inr ⟨rfl, okS_iff.mp h⟩
  | false =>
    refine Or.inl ⟨rfl, ?_⟩
    have : ¬ (0 ≤ s.1 ∧ s.1 ≤ s.2 ∧ s.2 ≤ 17179869184) := fun k => by rw [okS_iff.mpr k] at h; cases h
    omega

set_option maxHeartbeats 800000 in
theorem span_Check (L : List Sp) (A : Option Addr) (c : Nat) (w : World) (ha : Sps w A L) (hm : L.length ≤ 9223372036854775807) :
    Calls Try.prog 92 #[.slice A L.length c] w fun e w' => e = .returned (.int .i64 (chkE L)) ∧ Below w.heap.size w w' := by
  have HA := Lib.hid ha
  clear ha
  by_cases hf : 256 < L.length
  · have hf' : (256 : Int) < (L.length : Int) := by omega
    have HF := Lib.hid (chkE_full hf)
    clear hf
    go_enter Try.func92, Try.ntmps92
    go_wp2_with fail
    go_ret
    exact ⟨ret_int HF.out.symm, Below.refl _ _⟩
  · have hf' : decide ((256 : Int) < (L.length : Int)) = false := decide_eq_false (by omega)
    have HF := Lib.hid hf
    clear hf
    go_enter Try.func92, Try.ntmps92
    go_wp2_with fail
    go_loopw [10] (fun i wr => ∃ k : Nat, k ≤ L.length ∧ i = .int .i64 k ∧ (∀ j s, j < k → L[j]? = some s → okS s = true) ∧ Below w.heap.size w wr) (fun i _ => L.length - (intOf i).toNat)
    case atStart => exact ⟨0, Nat.zero_le _, rfl, fun j t h => absurd h (by omega), Below.refl _ _⟩
    case round =>
      obtain ⟨k, hk, rfl, hv, hbel⟩ := hrel
      have HV := Lib.hid hv
      have HB := Lib.hid hbel
      clear hv hbel
      rcases Nat.lt_or_ge k L.length with hlt | hge
      · obtain ⟨s, hs⟩ := get_lt hlt
        obtain ⟨b, off, rfl, hb, h0, h1⟩ := HA.out.on HB.out k s hs
        have HS := Lib.hid hs
        clear hs
        rcases okS_cases s with ⟨ho, h | ⟨g1, h⟩ | ⟨g1, g2, h⟩⟩ | ⟨ho, g1, g2, g3⟩
        · have HE := Lib.hid (chkE_bad HF.out (all_not HS.out ho))
          clear ho
          go_wp2_with fail
          go_ret
          exact ⟨ret_int HE.out.symm, HB.out.alloc HB.out.size _⟩
        · have HE := Lib.hid (chkE_bad HF.out (all_not HS.out ho))
          have d1 : decide (s.1 < 0) = false := decide_eq_false (by omega)
          clear ho
          go_wp2_with fail
          go_ret
          exact ⟨ret_int HE.out.symm, HB.out.alloc HB.out.size _⟩
        · have HE := Lib.hid (chkE_bad HF.out (all_not HS.out ho))
          have d1 : decide (s.1 < 0) = false := decide_eq_false (by omega)
          have d2 : decide (s.2 < s.1) = false := decide_eq_false (by omega)
          clear ho
          go_wp2_with fail
          go_ret
          exact ⟨ret_int HE.out.symm, HB.out.alloc HB.out.size _⟩
        · have HO := Lib.hid ho
          have d1 : decide (s.1 < 0) = false := decide_eq_false (by omega)
          have d2 : decide (s.2 < s.1) = false := decide_eq_false (by omega)
          have d3 : decide (17179869184 < s.2) = false := decide_eq_false (by omega)
          clear ho
          go_wp2_with fail
          go_roundw
          case rel =>
            refine ⟨k + 1, by omega, by go_num, ?_, HB.out.alloc HB.out.size _⟩
            intro j u hj hu
            rcases Nat.lt_or_eq_of_le (Nat.le_of_lt_succ hj) with h | h
            · exact HV.out j u h hu
            · subst h
              have e := HS.out
              rw [hu] at e; cases e; exact HO.out
          case measure => simp [intOf]; omega
      · obtain rfl : k = L.length := by omega
        have HE := Lib.hid (chkE_ok HF.out (all_of HV.out))
        go_wp2_with fail
        go_ret
        exact ⟨ret_int HE.out.symm, HB.out⟩

set_option maxHeartbeats 800000 in
theorem ref_Check (L : List Sp) (A : Option Addr) (c : Nat) (w : World) (ha : Sps w A L) (hm : L.length ≤ 9223372036854775807) :
    Calls Try.prog 71 #[.slice A L.length c] w fun e w' => e = .returned (.int .i64 (chkE L)) ∧ Below w.heap.size w w' := by
  have HA := Lib.hid ha
  clear ha
  by_cases hf : 256 < L.length
  · have hf' : (256 : Int) < (L.length : Int) := by omega
    have HF := Lib.hid (chkE_full hf)
    clear hf
    go_enter Try.func71, Try.ntmps71
    go_wp2_with fail
    go_ret
    exact ⟨ret_int HF.out.symm, Below.refl _ _⟩
  · have hf' : decide ((256 : Int) < (L.length : Int)) = false := decide_eq_false (by omega)
    have HF := Lib.hid hf
    clear hf
    go_enter Try.func71, Try.ntmps71
    go_wp2_with fail
    go_loopw [3] (fun i wr => ∃ k : Nat, k ≤ L.length ∧ i = .int .i64 k ∧ (∀ j s, j < k → L[j]? = some s → okS s = true) ∧ Below w.heap.size w wr) (fun i _ => L.length - (intOf i).toNat)
    case atStart => exact ⟨0, Nat.zero_le _, rfl, fun j t h => absurd h (by omega), Below.refl _ _⟩
    case round =>
      obtain ⟨k, hk, rfl, hv, hbel⟩ := hrel
      have HV := Lib.hid hv
      have HB := Lib.hid hbel
      clear hv hbel
      rcases Nat.lt_or_ge k L.length with hlt | hge
      · obtain ⟨s, hs⟩ := get_lt hlt
        obtain ⟨b, off, rfl, hb, h0, h1⟩ := HA.out.on HB.out k s hs
        have HS := Lib.hid hs
        have i1 : (k : Int) < (L.length : Int) := by omega
        have i2 : (0 : Int) ≤ (k : Int) := by omega
        clear hs
        rcases okS_cases s with ⟨ho, h | ⟨g1, h⟩ | ⟨g1, g2, h⟩⟩ | ⟨ho, g1, g2, g3⟩
        · have HE := Lib.hid (chkE_bad HF.out (all_not HS.out ho))
          clear ho
          go_wp2_with fail
          go_quiet (fail)
          go_wp2_with fail
          go_ret
          exact ⟨ret_int HE.out.symm, below_drewN HB.out _⟩
        · have HE := Lib.hid (chkE_bad HF.out (all_not HS.out ho))
          have d1 : decide (s.1 < 0) = false := decide_eq_false (by omega)
          clear ho
          go_wp2_with fail
          go_quiet (fail)
          go_wp2_with fail
          go_ret
          exact ⟨ret_int HE.out.symm, below_drewN HB.out _⟩
        · have HE := Lib.hid (chkE_bad HF.out (all_not HS.out ho))
          have d1 : decide (s.1 < 0) = false := decide_eq_false (by omega)
          have d2 : decide (s.2 < s.1) = false := decide_eq_false (by omega)
          clear ho
          go_wp2_with fail
          go_quiet (fail)
          go_wp2_with fail
          go_ret
          exact ⟨ret_int HE.out.symm, below_drewN HB.out _⟩
        · have HO := Lib.hid ho
          have d1 : decide (s.1 < 0) = false := decide_eq_false (by omega)
          have d2 : decide (s.2 < s.1) = false := decide_eq_false (by omega)
          have d3 : decide (17179869184 < s.2) = false := decide_eq_false (by omega)
          clear ho
          go_wp2_with fail
          go_quiet (fail)
          go_wp2_with fail
          go_roundw
          case rel =>
            refine ⟨k + 1, by omega, by go_num, ?_, below_drewN HB.out _⟩
            intro j u hj hu
            rcases Nat.lt_or_eq_of_le (Nat.le_of_lt_succ hj) with h | h
            · exact HV.out j u h hu
            · subst h
              have e := HS.out
              rw [hu] at e; cases e; exact HO.out
          case measure => simp [intOf]; omega
      · obtain rfl : k = L.length := by omega
        have HE := Lib.hid (chkE_ok HF.out (all_of HV.out))
        go_wp2_with fail
        go_ret
        exact ⟨ret_int HE.out.symm, HB.out⟩
#print axioms span_Check
#print axioms ref_Check
end Go.Proofs.Ytccbnobpighckaa.Span
