/- rise: an entry moved towards the first place; its deferred recover finds nothing. -/
import Derived.Test.YtkgmfdmgaloaoaaPqueueES
namespace Go.Proofs.Ytkgmfdmgaloaoaa.PqueueS
open Go.ChangeShapes Go.WideShapes Go.RowKit Go.Lib Go.Proofs.Ytkgmfdmgaloaoaa.Pqueue
set_option linter.unusedVariables false
set_option maxRecDepth 100000

theorem rise_idle (w : World) : CallsD Try.prog 47 #[] .returning w fun e u' w' => e = .returned (.tuple #[]) ∧ u' = .returning ∧ w' = w := by
  refine callsD_of_wpS Try.func47 rfl fun c₀ cs hu => ?_
  apply wpS_region
  cases c₀
  simp_all [wpOpsS, go_sem, recoverD, Try.ntmps47, bodyPostS, results, Try.results47]
/-- What rise leaves. -/
def RiseP (w : World) (g n p : Nat) (S : Nat → Prop) (lt : ByteArray → ByteArray → Bool) (L : List (ByteArray × Nat)) (i : Nat) (e : Ending) (w' : World) : Prop :=
  e = .returned (.tuple #[]) ∧ ∃ M, Rise lt L i M ∧ Qu w' g S n M p ∧ Off S w w'

set_option maxHeartbeats 1600000 in
theorem q_rise {w : World} {g n p : Nat} {S : Nat → Prop} {L : List (ByteArray × Nat)} {lt : ByteArray → ByteArray → Bool} (hq : Qu w g S n L p) (ho : Ord n lt) (hm : L.length ≤ 1000000) {i : Nat} (hi : i < L.length) :
    Calls Try.prog 38 #[.pointer (some ⟨g, 0, none⟩), .int .i64 (i : Int)] w (RiseP w g n p S lt L i) := by
  have HQ := Lib.hid hq
  have HO := Lib.hid ho
  have HM := Lib.hid hm
  have HI := Lib.hid hi
  clear hq ho hm hi
  go_enter_defers Try.func38, Try.ntmps38
  go_wp2_with fail
  go_loopw [1] (fun v wr => ∃ (k : Nat) (M : List (ByteArray × Nat)), v = .int .i64 (k : Int) ∧ k < L.length ∧ M.length = L.length ∧ Qu wr g S n M p ∧ (∀ M', Rise lt M k M' → Rise lt L i M') ∧ Off S w wr) (fun v _ => (intOf v).toNat)
  case atStart => exact ⟨i, L, rfl, HI.out, rfl, HQ.out, fun _ h => h, Off.refl _ _⟩
  case round =>
    obtain ⟨k, M, rfl, hk, hlen, hqr, hr, hof⟩ := hrel
    have HK := Lib.hid hk
    have HL := Lib.hid hlen
    have HQR := Lib.hid hqr
    have HR := Lib.hid hr
    have HF := Lib.hid hof
    clear hk hlen hqr hr hof
    rcases Nat.eq_zero_or_pos k with h0 | h0
    · subst h0
      go_wp2_with fail
      refine leaves_cons (f := 47) (args := #[]) (by simp) (by simp [go_sem]) ?_
      refine (rise_idle _).mono ?_
      rintro e u' w'' ⟨rfl, rfl, rfl⟩
      exact ⟨_, results_none rfl _ _ _, rfl, M, HR.out _ (.top _), HQR.out, HF.out⟩
    · obtain ⟨a, ha⟩ : ∃ a, (k - 1) / 2 = a := ⟨_, rfl⟩
      have hak : a < k := by omega
      have hd1 : ((k : Int) - 1).tdiv 2 = (a : Int) := by
        rw [Int.tdiv_eq_ediv_of_nonneg (by omega)]; omega
      have hd2 : ((k : Int) - 1) / 2 = (a : Int) := by omega
      have hb1 : (k : Int) ≤ 1000000 := by have := HK.out; have := HM.out; omega
      have hb2 : (1 : Int) ≤ (k : Int) := by omega
      obtain ⟨x, hx⟩ := get_lt (L := M) (k := k) (by rw [HL.out]; exact HK.out)
      obtain ⟨y, hy⟩ := get_lt (L := M) (k := a) (by rw [HL.out]; have := HK.out; omega)
      have HX := Lib.hid hx
      have HY := Lib.hid hy
      have HA := Lib.hid ha
      clear hx hy ha
      cases hb : bfr lt x y with
      | false =>
        have HC := q_before HQR.out HO.out (by rw [HL.out]; exact HM.out) HX.out HY.out
        rw [hb] at HC
        have HB := Lib.hid hb
        clear hb
        go_wp2_with fail
        refine HC.mono ?_
        rintro e w' ⟨rfl, hb1⟩
        have HB1 := Lib.hid hb1
        clear hb1 HC
        go_wp2_with fail
        refine leaves_cons (f := 47) (args := #[]) (by simp) (by simp [go_sem]) ?_
        refine (rise_idle _).mono ?_
        rintro e u' w'' ⟨rfl, rfl, rfl⟩
        exact ⟨_, results_none rfl _ _ _, rfl, M, HR.out _ (.stop h0 HX.out (by rw [HA.out]; exact HY.out) HB.out), HQR.out.on HB1.out, HF.out.then_below HB1.out⟩
      | true =>
        have HC := q_before HQR.out HO.out (by rw [HL.out]; exact HM.out) HX.out HY.out
        rw [hb] at HC
        have HB := Lib.hid hb
        clear hb
        go_wp2_with fail
        refine HC.mono ?_
        rintro e w' ⟨rfl, hb1⟩
        have HB1 := Lib.hid hb1
        clear hb1 HC
        go_wp2_with fail
        refine (q_swap (HQR.out.on HB1.out) (by rw [HL.out]; exact HM.out) HX.out HY.out (by omega)).mono ?_
        rintro e w2 ⟨rfl, hq2, ho2⟩
        have HQ2 := Lib.hid hq2
        have HO2 := Lib.hid ho2
        clear hq2 ho2
        go_wp2_with fail
        go_roundw
        case rel =>
          exact ⟨a, ex2 M k a x y, rfl, Nat.lt_trans hak HK.out, by rw [ex2_len]; exact HL.out, HQ2.out, fun M' h => HR.out _ (.up h0 HX.out (by rw [HA.out]; exact HY.out) HB.out (by rw [HA.out]; exact h)), (HF.out.then_below HB1.out).trans HO2.out fun _ h => Or.inl h⟩
        case measure => simp [intOf]; omega
#print axioms q_rise
end Go.Proofs.Ytkgmfdmgaloaoaa.PqueueS
