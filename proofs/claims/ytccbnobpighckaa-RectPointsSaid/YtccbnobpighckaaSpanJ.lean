/- Contracts of span.limited, span.Norm, span.Union, span.Common, span.Minus, span.Total. -/
import Derived.Test.YtccbnobpighckaaSpanI
namespace Go.Proofs.Ytccbnobpighckaa.Span
open Go.ChangeShapes Go.WideShapes Go.RowKit Go.Lib Go.Proofs
set_option linter.unusedVariables false
set_option maxRecDepth 100000

/-- The error of a call that returns the normal form N of what is made of a and b. -/
def nfE (N : List Sp) : Int := if 256 < N.length then 8 else 0
def cmbE (a b N : List Sp) : Int := if chkE a = 0 then (if chkE b = 0 then nfE N else chkE b) else chkE a
def cmbL (a b N : List Sp) : List Sp := if cmbE a b N = 0 then N else []
theorem cmbE_a {a b N : List Sp} (h : ¬ chkE a = 0) : cmbE a b N = chkE a := if_neg h
theorem cmbE_b {a b N : List Sp} (h : chkE a = 0) (h2 : ¬ chkE b = 0) : cmbE a b N = chkE b := by unfold cmbE; rw [if_pos h, if_neg h2]
theorem cmbE_ok {a b N : List Sp} (h : chkE a = 0) (h2 : chkE b = 0) : cmbE a b N = nfE N := by unfold cmbE; rw [if_pos h, if_pos h2]
theorem nfE_full {N : List Sp} (h : 256 < N.length) : nfE N = 8 := if_pos h
theorem nfE_ok {N : List Sp} (h : ¬ 256 < N.length) : nfE N = 0 := if_neg h
theorem cmbL_no {a b N : List Sp} (h : ¬ cmbE a b N = 0) : cmbL a b N = [] := if_neg h
theorem cmbL_ok {a b N : List Sp} (h : cmbE a b N = 0) : cmbL a b N = N := if_pos h
theorem nfE_zero {N : List Sp} (h : nfE N = 0) : N.length ≤ 256 := by
  unfold nfE at h
  by_cases h1 : 256 < N.length
  · rw [if_pos h1] at h; cases h
  · omega
theorem cmbE_zero {a b N : List Sp} (h : cmbE a b N = 0) : chkE a = 0 ∧ chkE b = 0 ∧ N.length ≤ 256 := by
  by_cases ha : chkE a = 0
  · by_cases hb : chkE b = 0
    · rw [cmbE_ok ha hb] at h; exact ⟨ha, hb, nfE_zero h⟩
    · rw [cmbE_b ha hb] at h; exact absurd h hb
  · rw [cmbE_a ha] at h; exact absurd h ha
theorem cmbE_cases (a b N : List Sp) (ha : chkE a = 0) (hb : chkE b = 0) : cmbE a b N = 0 ∨ cmbE a b N = 8 := by
  rw [cmbE_ok ha hb]
  by_cases h : 256 < N.length
  · exact Or.inr (nfE_full h)
  · exact Or.inl (nfE_ok h)

def SetRes (f : Int → Bool) (a b : List Sp) (w : World) (e : Ending) (w' : World) : Prop :=
  ∃ N v, e = .returned (.tuple #[v, .int .i64 (cmbE a b N)]) ∧ InL w' v (cmbL a b N) ∧ (chkE a = 0 → chkE b = 0 → IsNf f N) ∧ Below w.heap.size w w'
theorem SetRes.err {f : Int → Bool} {a b N : List Sp} {w w' : World} {z : Int} (hz : cmbE a b N = z) (h0 : ¬ z = 0) (hn : chkE a = 0 → chkE b = 0 → IsNf f N) (hb : Below w.heap.size w w') :
    SetRes f a b w (.returned (.tuple #[.slice none 0 0, .int .i64 z])) w' :=
  ⟨N, _, by rw [hz], by rw [cmbL_no (by rw [hz]; exact h0)]; exact InL.nil _, hn, hb⟩

set_option maxHeartbeats 1600000 in
theorem span_limited (comb : Bool → Bool → Bool) (g : Nat) (hleft : Left g comb) (hc : comb false false = false) (eg : ∀ args w, (callFunc g args).run Try.prog w = .ok (.enter g args) w)
    (a b : List Sp) (A B : Option Addr) (c d : Nat) (w : World) (ha : Sps w A a) (hb : Sps w B b) (hma : a.length ≤ 9223372036854775807) (hmb : b.length ≤ 9223372036854775807) :
    Calls Try.prog 69 #[.slice A a.length c, .slice B b.length d, .func (.func g) #[] #[]] w (SetRes (setF comb a b) a b w) := by
  have HA := Lib.hid ha
  have HB := Lib.hid hb
  have HCM := Lib.hid (fun W (ha : Sps W A a) (hb : Sps W B b) => span_combined comb g hleft hc eg a b A B c d W ha hb)
  clear ha hb hleft hc eg
  go_enter Try.func69, Try.ntmps69
  go_wp2_with fail
  go_loopw [15] (fun i wr => ∃ k : Nat, k ≤ 2 ∧ i = .int .i64 k ∧ (0 < k → chkE a = 0) ∧ (1 < k → chkE b = 0) ∧ Below w.heap.size w wr) (fun i _ => 2 - (intOf i).toNat)
  case atStart => exact ⟨0, by omega, rfl, fun h => absurd h (by omega), fun h => absurd h (by omega), Below.refl _ _⟩
  case round =>
    obtain ⟨k, hk, rfl, h0, h1, hbel⟩ := hrel
    have H0 := Lib.hid h0
    have H1 := Lib.hid h1
    have HW := Lib.hid hbel
    clear h0 h1 hbel
    rcases Nat.lt_or_ge k 2 with hlt | hge
    · obtain ⟨L, X, x, D0, hcase, hL, hix⟩ := pick_list (c := c) (d := d) HA.out HB.out k hlt
      have hml : L.length ≤ 9223372036854775807 := by rcases hcase with ⟨_, _, rfl⟩ | ⟨_, _, rfl⟩ <;> assumption
      have HL := Lib.hid hL
      have HX := Lib.hid hcase
      have hk2 : (k : Int) < 2 := by omega
      clear hL hcase
      by_cases hz : chkE L = 0
      · have HZ := Lib.hid hz
        clear hz
        go_wp2_with fail
        refine (span_Check L X x wr (HL.out.on HW.out) hml).mono ?_
        rw [HZ.out]
        rintro e w1 ⟨rfl, hb1⟩
        have HW1 := Lib.hid (bstep HW.out hb1)
        clear hb1
        go_wp2_with fail
        go_roundw
        case rel =>
          refine ⟨k + 1, by omega, by go_num, fun _ => ?_, fun h => ?_, HW1.out⟩
          · rcases HX.out with ⟨rfl, _, rfl⟩ | ⟨rfl, _, rfl⟩
            · exact HZ.out
            · exact H0.out (by omega)
          · rcases HX.out with ⟨rfl, _, rfl⟩ | ⟨rfl, _, rfl⟩
            · omega
            · exact HZ.out
        case measure => simp [intOf]; omega
      · have hz1 : (chkE L == 0) = false := beq_false_of_ne hz
        have hz2 : (chkE L != 0) = true := by rw [bne, hz1]; rfl
        have HZ := Lib.hid hz
        clear hz
        go_wp2_with fail
        refine (span_Check L X x wr (HL.out.on HW.out) hml).mono ?_
        rintro e w1 ⟨rfl, hb1⟩
        have HW1 := Lib.hid (bstep HW.out hb1)
        clear hb1
        go_wp2_with fail
        go_ret2
        rcases HX.out with ⟨rfl, _, rfl⟩ | ⟨rfl, _, rfl⟩
        · exact SetRes.err (N := []) (cmbE_a HZ.out) HZ.out (fun h => absurd h HZ.out) HW1.out
        · exact SetRes.err (N := []) (cmbE_b (H0.out (by omega)) HZ.out) HZ.out (fun _ h => absurd h HZ.out) HW1.out
    · obtain rfl : k = 2 := by omega
      have HZA := Lib.hid (H0.out (by omega))
      have HZB := Lib.hid (H1.out (by omega))
      go_wp2_with fail
      refine (HCM.out wr (HA.out.on HW.out) (HB.out.on HW.out) HZA.out HZB.out).mono ?_
      rintro e w1 ⟨N, v, rfl, hin, hnf, hlen, hb1⟩
      have HW1 := Lib.hid (bstep HW.out hb1)
      have HN := Lib.hid hnf
      obtain ⟨V, cap, rfl, hml, -, hin'⟩ := hin.open_
      have HIN := Lib.hid hin'
      clear hb1 hnf hin hin'
      by_cases hf : 256 < N.length
      · have hf' : (256 : Int) < (N.length : Int) := by omega
        have HF := Lib.hid hf
        clear hf
        go_wp2_with fail
        go_ret2
        exact SetRes.err (N := N) (by rw [cmbE_ok HZA.out HZB.out, nfE_full HF.out]) (by decide) (fun _ _ => HN.out) HW1.out
      · have hf' : decide ((256 : Int) < (N.length : Int)) = false := decide_eq_false (by omega)
        have HF := Lib.hid (show cmbE a b N = 0 by rw [cmbE_ok HZA.out HZB.out, nfE_ok hf])
        clear hf
        go_wp2_with fail
        go_ret2
        exact ⟨N, .slice V N.length cap, by rw [HF.out]; rfl, by rw [cmbL_ok HF.out]; exact HIN.out, fun _ _ => HN.out, HW1.out⟩
theorem eg_or : ∀ args w, (callFunc 70 args).run Try.prog w = .ok (.enter 70 args) w := enters_of Try.func70 (by kernel_rfl) rfl
def orF (a b : List Sp) : Int → Bool := setF (fun p q => p || q) a b
def andF (a b : List Sp) : Int → Bool := setF (fun p q => p && q) a b
def notF (a b : List Sp) : Int → Bool := setF (fun p q => p && !q) a b
/-- What a set's call gives, opened. -/
theorem SetRes.open_ {f : Int → Bool} {a b : List Sp} {w w' : World} {e : Ending} (h : SetRes f a b w e w') : ∃ N V cap, e = .returned (.tuple #[.slice V (cmbL a b N).length cap, .int .i64 (cmbE a b N)]) ∧ (cmbL a b N).length ≤ 9223372036854775807 ∧ InL w' (.slice V (cmbL a b N).length cap) (cmbL a b N) ∧ (chkE a = 0 → chkE b = 0 → IsNf f N) ∧ Below w.heap.size w w' := by
  obtain ⟨N, v, rfl, hin, hnf, hb⟩ := h
  obtain ⟨V, cap, rfl, hm, -, hin'⟩ := hin.open_
  exact ⟨N, V, cap, rfl, hm, hin', hnf, hb⟩
section
variable (a b : List Sp) (A B : Option Addr) (c d : Nat) (w : World)
theorem span_Union (ha : Sps w A a) (hb : Sps w B b) (hma : a.length ≤ 9223372036854775807) (hmb : b.length ≤ 9223372036854775807) :
    Calls Try.prog 61 #[.slice A a.length c, .slice B b.length d] w (SetRes (orF a b) a b w) := by
  have H := Lib.hid (span_limited _ _ left_or rfl eg_or a b A B c d w ha hb hma hmb)
  clear ha hb
  go_enter Try.func61, Try.ntmps61
  go_wp2_with fail
  refine H.out.mono ?_
  intro e w1 h
  obtain ⟨N, V, cap, rfl, hm, hin, hnf, hb1⟩ := h.open_
  have HIN := Lib.hid hin
  have HN := Lib.hid hnf
  have HB := Lib.hid hb1
  clear h hin hnf hb1
  go_wp2_with fail
  go_ret2
  exact ⟨N, _, rfl, HIN.out, HN.out, HB.out⟩
end
#print axioms span_limited
end Go.Proofs.Ytccbnobpighckaa.Span
