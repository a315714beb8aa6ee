/- sink: an entry moved away from the first place; its deferred recover finds nothing. -/
import Derived.Test.YtkgmfdmgaloaoaaPqueueFS
namespace Go.Proofs.Ytkgmfdmgaloaoaa.PqueueS
open Go.ChangeShapes Go.WideShapes Go.RowKit Go.Lib Go.Proofs.Ytkgmfdmgaloaoaa.Pqueue
set_option linter.unusedVariables false
set_option maxRecDepth 100000

theorem sink_idle (w : World) : CallsD Try.prog 50 #[] .returning w fun e u' w' => e = .returned (.tuple #[]) ∧ u' = .returning ∧ w' = w := by
  refine callsD_of_wpS Try.func50 rfl fun c₀ cs hu => ?_
  apply wpS_region
  cases c₀
  simp_all [wpOpsS, go_sem, recoverD, Try.ntmps50, bodyPostS, results, Try.results50]
/-- What sink leaves. -/
def SinkP (w : World) (g n p : Nat) (S : Nat → Prop) (lt : ByteArray → ByteArray → Bool) (L : List (ByteArray × Nat)) (i : Nat) (e : Ending) (w' : World) : Prop :=
  e = .returned (.tuple #[]) ∧ ∃ M, Sink lt L i M ∧ Qu w' g S n M p ∧ Off S w w'

set_option maxHeartbeats 3200000 in
theorem q_sink {w : World} {g n p : Nat} {S : Nat → Prop} {L : List (ByteArray × Nat)} {lt : ByteArray → ByteArray → Bool} (hq : Qu w g S n L p) (ho : Ord n lt) (hm : L.length ≤ 1000000) {i : Nat} (hi : i ≤ L.length) :
    Calls Try.prog 41 #[.pointer (some ⟨g, 0, none⟩), .int .i64 (i : Int)] w (SinkP w g n p S lt L i) := by
  have HQ := Lib.hid hq
  have HO := Lib.hid ho
  have HM := Lib.hid hm
  have HI := Lib.hid hi
  clear hq ho hm hi
  go_enter_defers Try.func41, Try.ntmps41
  go_wp2_with fail
  go_loopw [1] (fun v wr => ∃ (k : Nat) (M : List (ByteArray × Nat)), v = .int .i64 (k : Int) ∧ M.length = L.length ∧ Qu wr g S n M p ∧ (∀ M', Sink lt M k M' → Sink lt L i M') ∧ Off S w wr ∧ k ≤ L.length) (fun v _ => L.length - (intOf v).toNat)
  case atStart => exact ⟨i, L, rfl, rfl, HQ.out, fun _ h => h, Off.refl _ _, HI.out⟩
  case round =>
    obtain ⟨k, M, rfl, hlen, hqr, hr, hof, hkn⟩ := hrel
    have HL := Lib.hid hlen
    have HQ1 := Lib.hid hqr
    have HR := Lib.hid hr
    have HF1 := Lib.hid hof
    have HKN := Lib.hid hkn
    obtain ⟨b, hb⟩ : ∃ b, 2 * k + 1 = b := ⟨_, rfl⟩
    obtain ⟨b1, hb1⟩ : ∃ b1, b + 1 = b1 := ⟨_, rfl⟩
    have BE := Lib.hid hb
    have B1E := Lib.hid hb1
    have hbi : 2 * (k : Int) + 1 = (b : Int) := by omega
    have hbi1 : (b : Int) + 1 = (b1 : Int) := by omega
    have hk1 : (k : Int) ≤ 1000000 := by have := HM.out; omega
    have hk0 : (0 : Int) ≤ (k : Int) := by omega
    have hbb : (b : Int) ≤ 3000000 := by omega
    have hbb0 : (0 : Int) ≤ (b : Int) := by omega
    obtain ⟨A, c, c0, c1, c2, hrow, -, -, -⟩ := hqr.reads
    obtain ⟨N, hN⟩ : ∃ N, M.length = N := ⟨_, rfl⟩
    rw [hN] at c1
    have HNN := Lib.hid hN
    have hNm : N ≤ 1000000 := by have := HM.out; omega
    clear hlen hqr hr hof hkn hb hb1 hrow hN
    rcases Nat.lt_or_ge b N with hlt | hge
    · obtain ⟨z, hz⟩ := get_lt (L := M) (k := k) (by have := HNN.out; have := BE.out; omega)
      obtain ⟨x, hx⟩ := get_lt (L := M) (k := b) (by rw [HNN.out]; exact hlt)
      have HZ := Lib.hid hz
      have HX_b := Lib.hid hx
      clear hz hx
      rcases Nat.lt_or_ge b1 N with hlt1 | hge1
      · obtain ⟨x1, hx1⟩ := get_lt (L := M) (k := b1) (by rw [HNN.out]; exact hlt1)
        have HX_b1 := Lib.hid hx1
        clear hx1
        have HCB := q_before HQ1.out HO.out (by rw [HL.out]; exact HM.out) HX_b1.out HX_b.out
        cases hbb : bfr lt x1 x with
        | true =>
          rw [hbb] at HCB
          have HBB := Lib.hid hbb
          clear hbb
          go_wp2_with fail
          refine HCB.mono ?_
          rintro e w9 ⟨rfl, hb9⟩
          have HQ9 := Lib.hid (HQ1.out.on hb9)
          have HF9 := Lib.hid (HF1.out.then_below hb9)
          clear hb9 HCB c0 c1 c2 HQ1 HF1
          have HQ1 := HQ9
          have HF1 := HF9
          clear HQ9 HF9
          have HCK := Lib.hid (show Kid lt M k b1 from Or.inr ⟨by have := BE.out; have := B1E.out; omega, x1, x, by rw [show 2 * k + 1 + 1 = b1 by have := BE.out; have := B1E.out; omega]; exact HX_b1.out, by rw [show 2 * k + 1 = b by have := BE.out; omega]; exact HX_b.out, HBB.out⟩)
          cases hb : bfr lt x1 z with
          | false =>
            have HC := q_before HQ1.out HO.out (by rw [HL.out]; exact HM.out) HX_b1.out HZ.out
            rw [hb] at HC
            have HB := Lib.hid hb
            clear hb
            go_wp2_with fail
            refine HC.mono ?_
            rintro e w' ⟨rfl, hb1⟩
            have HB1 := Lib.hid hb1
            clear hb1 HC
            go_wp2_with fail
            refine leaves_cons (f := 50) (args := #[]) (by simp) (by simp [go_sem]) ?_
            refine (sink_idle _).mono ?_
            rintro e u' w'' ⟨rfl, rfl, rfl⟩
            exact ⟨_, results_none rfl _ _ _, rfl, M, HR.out _ (.stop HCK.out HX_b1.out HZ.out HB.out), HQ1.out.on HB1.out, HF1.out.then_below HB1.out⟩
          | true =>
            have HC := q_before HQ1.out HO.out (by rw [HL.out]; exact HM.out) HX_b1.out HZ.out
            rw [hb] at HC
            have HB := Lib.hid hb
            clear hb
            go_wp2_with fail
            refine HC.mono ?_
            rintro e w' ⟨rfl, hb1⟩
            have HB1 := Lib.hid hb1
            clear hb1 HC
            go_wp2_with fail
            refine (q_swap (HQ1.out.on HB1.out) (by rw [HL.out]; exact HM.out) HZ.out HX_b1.out (by have := HCK.out.lo; omega)).mono ?_
            rintro e w2 ⟨rfl, hq2, ho2⟩
            have HQ2 := Lib.hid hq2
            have HO2 := Lib.hid ho2
            clear hq2 ho2
            go_wp2_with fail
            go_roundw
            case rel =>
              exact ⟨b1, ex2 M k b1 z x1, rfl, by rw [ex2_len]; exact HL.out, HQ2.out, fun M' h => HR.out _ (.down HCK.out HX_b1.out HZ.out HB.out h), (HF1.out.then_below HB1.out).trans HO2.out fun _ h => Or.inl h, by have := glt HX_b1.out; rw [HL.out] at this; exact Nat.le_of_lt this⟩
            case measure => have := HCK.out.lo; have := glt HX_b1.out; have := HL.out; have := HKN.out; simp [intOf]; omega
        | false =>
          rw [hbb] at HCB
          have HBB := Lib.hid hbb
          clear hbb
          go_wp2_with fail
          refine HCB.mono ?_
          rintro e w9 ⟨rfl, hb9⟩
          have HQ9 := Lib.hid (HQ1.out.on hb9)
          have HF9 := Lib.hid (HF1.out.then_below hb9)
          clear hb9 HCB c0 c1 c2 HQ1 HF1
          have HQ1 := HQ9
          have HF1 := HF9
          clear HQ9 HF9
          have HCK := Lib.hid (show Kid lt M k b from Or.inl ⟨by have := BE.out; omega, fun u v hu hv => by rw [show 2 * k + 1 + 1 = b1 by have := BE.out; have := B1E.out; omega, HX_b1.out] at hu; rw [show 2 * k + 1 = b by have := BE.out; omega, HX_b.out] at hv; cases hu; cases hv; exact HBB.out⟩)
          cases hb : bfr lt x z with
          | false =>
            have HC := q_before HQ1.out HO.out (by rw [HL.out]; exact HM.out) HX_b.out HZ.out
            rw [hb] at HC
            have HB := Lib.hid hb
            clear hb
            go_wp2_with fail
            refine HC.mono ?_
            rintro e w' ⟨rfl, hb1⟩
            have HB1 := Lib.hid hb1
            clear hb1 HC
            go_wp2_with fail
            refine leaves_cons (f := 50) (args := #[]) (by simp) (by simp [go_sem]) ?_
            refine (sink_idle _).mono ?_
            rintro e u' w'' ⟨rfl, rfl, rfl⟩
            exact ⟨_, results_none rfl _ _ _, rfl, M, HR.out _ (.stop HCK.out HX_b.out HZ.out HB.out), HQ1.out.on HB1.out, HF1.out.then_below HB1.out⟩
          | true =>
            have HC := q_before HQ1.out HO.out (by rw [HL.out]; exact HM.out) HX_b.out HZ.out
            rw [hb] at HC
            have HB := Lib.hid hb
            clear hb
            go_wp2_with fail
            refine HC.mono ?_
            rintro e w' ⟨rfl, hb1⟩
            have HB1 := Lib.hid hb1
            clear hb1 HC
            go_wp2_with fail
            refine (q_swap (HQ1.out.on HB1.out) (by rw [HL.out]; exact HM.out) HZ.out HX_b.out (by have := HCK.out.lo; omega)).mono ?_
            rintro e w2 ⟨rfl, hq2, ho2⟩
            have HQ2 := Lib.hid hq2
            have HO2 := Lib.hid ho2
            clear hq2 ho2
            go_wp2_with fail
            go_roundw
            case rel =>
              exact ⟨b, ex2 M k b z x, rfl, by rw [ex2_len]; exact HL.out, HQ2.out, fun M' h => HR.out _ (.down HCK.out HX_b.out HZ.out HB.out h), (HF1.out.then_below HB1.out).trans HO2.out fun _ h => Or.inl h, by have := glt HX_b.out; rw [HL.out] at this; exact Nat.le_of_lt this⟩
            case measure => have := HCK.out.lo; have := glt HX_b.out; have := HL.out; have := HKN.out; simp [intOf]; omega
      · have HGE := Lib.hid hge1
        have hge1' : ¬ b1 < N := by omega
        have HCK := Lib.hid (show Kid lt M k b from Or.inl ⟨by have := BE.out; omega, fun u v hu hv => by have := glt hu; have := HL.out; have := BE.out; have := B1E.out; have := HNN.out; have := HGE.out; omega⟩)
        cases hb : bfr lt x z with
        | false =>
          have HC := q_before HQ1.out HO.out (by rw [HL.out]; exact HM.out) HX_b.out HZ.out
          rw [hb] at HC
          have HB := Lib.hid hb
          clear hb
          go_wp2_with fail
          refine HC.mono ?_
          rintro e w' ⟨rfl, hb1⟩
          have HB1 := Lib.hid hb1
          clear hb1 HC
          go_wp2_with fail
          refine leaves_cons (f := 50) (args := #[]) (by simp) (by simp [go_sem]) ?_
          refine (sink_idle _).mono ?_
          rintro e u' w'' ⟨rfl, rfl, rfl⟩
          exact ⟨_, results_none rfl _ _ _, rfl, M, HR.out _ (.stop HCK.out HX_b.out HZ.out HB.out), HQ1.out.on HB1.out, HF1.out.then_below HB1.out⟩
        | true =>
          have HC := q_before HQ1.out HO.out (by rw [HL.out]; exact HM.out) HX_b.out HZ.out
          rw [hb] at HC
          have HB := Lib.hid hb
          clear hb
          go_wp2_with fail
          refine HC.mono ?_
          rintro e w' ⟨rfl, hb1⟩
          have HB1 := Lib.hid hb1
          clear hb1 HC
          go_wp2_with fail
          refine (q_swap (HQ1.out.on HB1.out) (by rw [HL.out]; exact HM.out) HZ.out HX_b.out (by have := HCK.out.lo; omega)).mono ?_
          rintro e w2 ⟨rfl, hq2, ho2⟩
          have HQ2 := Lib.hid hq2
          have HO2 := Lib.hid ho2
          clear hq2 ho2
          go_wp2_with fail
          go_roundw
          case rel =>
            exact ⟨b, ex2 M k b z x, rfl, by rw [ex2_len]; exact HL.out, HQ2.out, fun M' h => HR.out _ (.down HCK.out HX_b.out HZ.out HB.out h), (HF1.out.then_below HB1.out).trans HO2.out fun _ h => Or.inl h, by have := glt HX_b.out; rw [HL.out] at this; exact Nat.le_of_lt this⟩
          case measure => have := HCK.out.lo; have := glt HX_b.out; have := HL.out; have := HKN.out; simp [intOf]; omega
    · have HGE := Lib.hid hge
      go_wp2_with fail
      refine leaves_cons (f := 50) (args := #[]) (by simp) (by simp [go_sem]) ?_
      refine (sink_idle _).mono ?_
      rintro e u' w'' ⟨rfl, rfl, rfl⟩
      exact ⟨_, results_none rfl _ _ _, rfl, M, HR.out _ (.leaf (by have := HGE.out; have := HNN.out; have := BE.out; omega)), HQ1.out, HF1.out⟩
#print axioms q_sink
end Go.Proofs.Ytkgmfdmgaloaoaa.PqueueS
