/- Contracts of span.Has and of Has of the reference; the closures that say which integers are left. -/
import Derived.Test.YtccbnobpighckaaSpanC
import Derived.Test.YtccbnobpighckaaShelf
import Derived.Lib.SliceRun
namespace Go.Proofs.Ytccbnobpighckaa.Span
open Go.ChangeShapes Go.WideShapes Go.RowKit Go.Lib
set_option linter.unusedVariables false
set_option maxRecDepth 100000

/-- A span's two cells. -/
def encS (s : Sp) : List Value := [.int .i64 s.1, .int .i64 s.2]
theorem has_inst (s : Sp) (x : Int) (h : inS s x = true) : s.1 ≤ x ∧ x < s.2 := inS_iff.mp h

/-- The closure of span.Has. -/
theorem has_pred (x : Int) (B : Nat) (w : World) (hB : B < w.heap.size) (hcell : w.cell? ⟨B, 0, none⟩ = some (.int .i64 x)) :
    PredBelow Try.prog 56 #[.pointer (some ⟨B, 0, none⟩)] (fun s => .agg (encS s).toArray) (fun s => inS s x) w := fun W s hb => by
  have hc : W.cell? ⟨B, 0, none⟩ = some (.int .i64 x) := (hb.cell (p := ⟨B, 0, none⟩) hB).trans hcell
  have hBW : B < W.heap.size := Nat.lt_of_lt_of_le hB hb.size
  have hne : B ≠ W.heap.size := by omega
  have HB := Lib.hid hb
  clear hb hcell hB
  show Calls Try.prog 56 #[.agg #[.int .i64 s.1, .int .i64 s.2], .pointer (some ⟨B, 0, none⟩)] W _
  by_cases h1 : s.1 ≤ x
  · by_cases h2 : x < s.2
    · have HE := Lib.hid (show inS s x = true from inS_iff.mpr ⟨h1, h2⟩)
      go_enter Try.func56, Try.ntmps56
      go_wp2
      go_ret
      exact ⟨ret_bool HE.out.symm, HB.out.alloc HB.out.size _⟩
    · have HE := Lib.hid (show inS s x = false from Bool.eq_false_iff.mpr (mt inS_iff.mp (by omega)))
      have d2 : decide (x < s.2) = false := decide_eq_false h2
      go_enter Try.func56, Try.ntmps56
      go_wp2
      go_ret
      exact ⟨ret_bool HE.out.symm, HB.out.alloc HB.out.size _⟩
  · have HE := Lib.hid (show inS s x = false from Bool.eq_false_iff.mpr (mt inS_iff.mp (by omega)))
    have d1 : decide (s.1 ≤ x) = false := decide_eq_false h1
    go_enter Try.func56, Try.ntmps56
    go_wp2
    go_ret
    exact ⟨ret_bool HE.out.symm, HB.out.alloc HB.out.size _⟩

/-- In no spans there is none. -/
theorem index_empty (A : Option Addr) (c : Nat) (g : Nat) (lb : Array Value) (w : World) :
    Calls Try.prog 67 #[.slice A 0 c, .func (.func g) #[] lb] w fun e w' => e = .returned (.int .i64 (-1)) ∧ w = w' := by
  go_enter Try.func67, Try.ntmps67
  go_wp2_with fail
  go_loop [8] (fun i => i = .int .i64 0) (fun _ => 0)
  case atStart => rfl
  case round =>
    subst hrel
    go_wp2_with fail
    go_ret
    exact ⟨rfl, rfl⟩
theorem any_empty (A : Option Addr) (c : Nat) (g : Nat) (lb : Array Value) (w : World) :
    Calls Try.prog 55 #[.slice A 0 c, .func (.func g) #[] lb] w fun e w' => e = .returned (.bool false) ∧ w = w' := by
  go_enter Try.func55, Try.ntmps55
  go_wp2_with fail
  refine (index_empty _ _ _ _ _).mono ?_
  rintro e w' ⟨rfl, rfl⟩
  go_wp2_with fail
  go_ret
  exact ⟨rfl, rfl⟩
theorem any_span (L : List Sp) (A : Option Addr) (c : Nat) (x : Int) (B : Nat) (w : World) (ha : Sps w A L) (hm : L.length ≤ 9223372036854775807) (hB : B < w.heap.size) (hcell : w.cell? ⟨B, 0, none⟩ = some (.int .i64 x)) :
    Calls Try.prog 55 #[.slice A L.length c, .func (.func 56) #[] #[.pointer (some ⟨B, 0, none⟩)]] w fun e w' => e = .returned (.bool (hasB L x)) ∧ Below w.heap.size w w' := by
  cases L with
  | nil => exact (any_empty A c _ _ w).mono fun e w' ⟨h1, h2⟩ => ⟨h1, h2 ▸ Below.refl _ _⟩
  | cons s L =>
    obtain ⟨b, off, rfl, hb, _, _⟩ := ha 0 s rfl
    have eg : ∀ args w, (callFunc 56 args).run Try.prog w = .ok (.enter 56 args) w := enters_of Try.func56 (by kernel_rfl) rfl
    have hcon := AnyQ.slices_ContainsFunc Try.anySpan 2 Try.isAgg52 Try.sizeOf52 encS (fun _ => rfl) (fun s => inS s x) 56 #[.pointer (some ⟨B, 0, none⟩)] eg b off (s :: L).length c (s :: L) w
      (has_pred x B w hB hcell) (Nat.le_refl _) hm hb (fun j hj i v hi => by
        obtain ⟨b', off', e, _, h0, h1⟩ := ha j (s :: L)[j] (List.getElem?_eq_getElem hj)
        cases e
        have e1 : (s :: L)[j]! = (s :: L)[j] := getElem!_pos (s :: L) j hj
        rw [e1] at hi
        match i, hi with
        | 0, hi => simp [encS] at hi; rw [← hi]; exact h0
        | 1, hi => simp [encS] at hi; rw [← hi]; exact h1
        | i + 2, hi => simp [encS] at hi)
    rw [List.take_length] at hcon
    exact hcon
theorem span_Has (L : List Sp) (x : Int) (A : Option Addr) (c : Nat) (w : World) (ha : Sps w A L) (hm : L.length ≤ 9223372036854775807) :
    Calls Try.prog 35 #[.slice A L.length c, .int .i64 x] w fun e w' => e = .returned (.bool (hasB L x)) ∧ Below w.heap.size w w' := by
  have HA := Lib.hid ha
  clear ha
  go_enter Try.func35, Try.ntmps35
  go_wp2_with fail
  refine (any_span L A c x w.heap.size _ (HA.out.on (below_alloc _ _)) hm (by simp) (by simp)).mono ?_
  rintro e w' ⟨rfl, hb⟩
  have HB := Lib.hid (bstep (below_alloc _ _) hb)
  clear hb
  go_wp2_with fail
  go_ret
  exact ⟨rfl, HB.out⟩

set_option maxHeartbeats 400000 in
theorem ref_Has (L : List Sp) (x : Int) (A : Option Addr) (c : Nat) (w : World) (ha : Sps w A L) (hm : L.length ≤ 9223372036854775807) :
    Calls Try.prog 95 #[.slice A L.length c, .int .i64 x] w fun e w' => e = .returned (.bool (hasB L x)) ∧ w = w' := by
  have HA := Lib.hid ha
  clear ha
  go_enter Try.func95, Try.ntmps95
  go_wp2_with fail
  go_loop [5] (fun i => ∃ k : Nat, k ≤ L.length ∧ i = .int .i64 k ∧ (∀ j s, j < k → L[j]? = some s → ¬ (s.1 ≤ x ∧ x < s.2))) (fun i => L.length - (intOf i).toNat)
  case atStart => exact ⟨0, Nat.zero_le _, rfl, fun j t h => absurd h (by omega)⟩
  case round =>
    obtain ⟨k, hk, rfl, hv⟩ := hrel
    have HV := Lib.hid hv
    clear hv
    rcases Nat.lt_or_ge k L.length with hlt | hge
    · obtain ⟨s, hs⟩ := get_lt hlt
      obtain ⟨b, off, rfl, hb, h0, h1⟩ := HA.out k s hs
      have HS := Lib.hid hs
      clear hs
      have next : ¬ (s.1 ≤ x ∧ x < s.2) → ∀ j t, j < k + 1 → L[j]? = some t → ¬ (t.1 ≤ x ∧ x < t.2) := by
        intro hno j t hj ht
        rcases Nat.lt_or_eq_of_le (Nat.le_of_lt_succ hj) with h | h
        · exact HV.out j t h ht
        · subst h
          have e := HS.out
          rw [ht] at e; cases e; exact hno
      have NX := Lib.hid next
      clear next
      by_cases g1 : s.1 ≤ x
      · by_cases g2 : x < s.2
        · have HE := Lib.hid (show hasB L x = true from hasB_iff.mpr ⟨s, List.mem_of_getElem? HS.out, g1, g2⟩)
          go_wp2_with fail
          go_ret
          exact ⟨ret_bool HE.out.symm, rfl⟩
        · have d2 : decide (x < s.2) = false := decide_eq_false g2
          go_wp2_with fail
          go_round
          case rel => exact ⟨k + 1, by omega, by go_num, NX.out (by omega)⟩
          case measure => simp [intOf]; omega
      · have d1 : decide (s.1 ≤ x) = false := decide_eq_false g1
        go_wp2_with fail
        go_round
        case rel => exact ⟨k + 1, by omega, by go_num, NX.out (by omega)⟩
        case measure => simp [intOf]; omega
    · obtain rfl : k = L.length := by omega
      have HE := Lib.hid (show hasB L x = false from hasB_false fun s hs => by
        obtain ⟨j, hj⟩ := List.mem_iff_getElem?.mp hs
        exact HV.out j s (lt_get hj) hj)
      go_wp2_with fail
      go_ret
      exact ⟨ret_bool HE.out.symm, rfl⟩

/-- What a closure says of two Bools. -/
def Left (g : Nat) (comb : Bool → Bool → Bool) : Prop := ∀ (p q : Bool) (w : World), Calls Try.prog g #[.bool p, .bool q] w fun e w' => e = .returned (.bool (comb p q)) ∧ w = w'
theorem left_or : Left 70 fun p q => p || q := by
  intro p q w
  cases p <;> cases q <;>
  · go_enter Try.func70, Try.ntmps70
    go_wp2_with fail
    go_ret
    exact ⟨rfl, rfl⟩
#print axioms span_Has
#print axioms ref_Has
end Go.Proofs.Ytccbnobpighckaa.Span
