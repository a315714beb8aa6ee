/- Contracts of span.Move and of Move of the reference. -/
import Derived.Test.YtidgcgnedeekhaaSpanK
import Derived.Deep.RegionHeld3
namespace Go.Proofs.Ytidgcgnedeekhaa.Span
open Go.ChangeShapes Go.WideShapes Go.RowKit Go.Lib Go.Proofs
set_option linter.unusedVariables false
set_option maxRecDepth 100000

theorem mov_take {L : List Sp} {k : Nat} {s : Sp} (n : Int) (h : L[k]? = some s) : mov (L.take (k + 1)) n = mov (L.take k) n ++ [(s.1 + n, s.2 + n)] := by
  rw [take_snoc_of h, mov, List.map_append]; rfl
theorem fits_step {L : List Sp} {k : Nat} {s : Sp} {n : Int} (hs : L[k]? = some s) (h : ∀ (j : Nat) (t : Sp), j < k → L[j]? = some t → ¬ (n < -t.1) ∧ ¬ (17179869184 - t.2 < n)) (h1 : ¬ (n < -s.1) ∧ ¬ (17179869184 - s.2 < n)) :
    ∀ (j : Nat) (t : Sp), j < k + 1 → L[j]? = some t → ¬ (n < -t.1) ∧ ¬ (17179869184 - t.2 < n) := by
  intro j t hj ht
  rcases Nat.lt_or_eq_of_le (Nat.le_of_lt_succ hj) with h2 | rfl
  · exact h j t h2 ht
  · rw [hs] at ht; cases ht; exact h1

set_option maxHeartbeats 1600000 in
theorem span_Move (L : List Sp) (n : Int) (A : Option Addr) (c : Nat) (w : World) (ha : Sps w A L) (hm : L.length ≤ 9223372036854775807) :
    Calls Try.prog 29 #[.slice A L.length c, .int .i64 n] w (MovRes L n w) := by
  have HA := Lib.hid ha
  have HCK := Lib.hid (span_Check L A c w ha hm)
  clear ha
  by_cases hz : chkE L = 0
  · have HZ := Lib.hid hz
    have hl := chk_len hz
    have hmk := fun W => make_spans L.length (by omega) W
    rw [hz] at HCK
    clear hz
    go_enter Try.func29, Try.ntmps29
    go_wp2_with fail
    refine HCK.out.mono ?_
    rintro e w0 ⟨rfl, hb0⟩
    have HB0 := Lib.hid hb0
    have HF := Lib.hid (fil_start w0 L.length)
    have hz0 := hb0.size
    clear hb0
    go_wp2_with fail
    go_loopw [20] (fun i wr => ∃ k : Nat, k ≤ L.length ∧ i = .int .i64 k ∧ (∀ (j : Nat) (t : Sp), j < k → L[j]? = some t → ¬ (n < -t.1) ∧ ¬ (17179869184 - t.2 < n)) ∧ Fil wr w0.heap.size L.length (mov (L.take k) n) ∧ Below w0.heap.size w0 wr) (fun i _ => L.length - (intOf i).toNat)
    case atStart => exact ⟨0, Nat.zero_le _, rfl, fun j t h => absurd h (by omega), HF.out, below_alloc _ _⟩
    case round =>
      obtain ⟨k, hk, rfl, hv, hfil, hbel⟩ := hrel
      have HV := Lib.hid hv
      have HFI := Lib.hid hfil
      have HW := Lib.hid hbel
      have HBW : Hid (Below w.heap.size w wr) := bstep HB0.out hbel
      have hsz := hbel.size
      have hgl := hfil.lt
      clear hv hfil hbel hmk
      rcases Nat.lt_or_ge k L.length with hlt | hge
      · obtain ⟨s, hs⟩ := get_lt hlt
        obtain ⟨b, off, rfl, hb, h0, h1⟩ := HA.out.on HBW.out k s hs
        obtain ⟨g1, g2, g3⟩ := chk_all HZ.out s (List.mem_of_getElem? hs)
        have HS := Lib.hid hs
        clear hs
        by_cases c1 : n < -s.1
        · have HE := Lib.hid (movE_bad HZ.out HS.out (Or.inl c1))
          go_wp2_with fail
          go_ret2
          exact MovRes.err HE.out (by decide) (HBW.out.alloc HBW.out.size _)
        · have d1 : decide (n < -s.1) = false := decide_eq_false c1
          by_cases c2 : 17179869184 - s.2 < n
          · have HE := Lib.hid (movE_bad HZ.out HS.out (Or.inr c2))
            go_wp2_with fail
            go_ret2
            exact MovRes.err HE.out (by decide) (HBW.out.alloc HBW.out.size _)
          · have d2 : decide (17179869184 - s.2 < n) = false := decide_eq_false c2
            have v1 : 0 ≤ s.1 + n := by omega
            have v2 : s.1 + n ≤ 17179869184 := by omega
            have v3 : 0 ≤ s.2 + n := by omega
            have v4 : s.2 + n ≤ 17179869184 := by omega
            have HMT := Lib.hid (mov_take n HS.out)
            have HFS := Lib.hid (fits_step HS.out HV.out ⟨c1, c2⟩)
            obtain ⟨⟨z0, q0⟩, p0⟩ := HFI.out.at_ (j := k * 2) (by omega)
            obtain ⟨⟨z1, q1⟩, p1⟩ := HFI.out.at_ (j := k * 2 + 1) (by omega)
            have i1 : (k : Int) < (L.length : Int) := by omega
            go_wp2_with fail
            go_roundw
            case rel =>
              refine ⟨k + 1, by omega, by go_num, HFS.out, ?_, ?_⟩
              · rw [HMT.out]
                exact (HFI.out.store (by rw [mov_length, List.length_take]; omega) hlt _ _).on (below_alloc _ _)
              · exact ((HW.out.setCell (p := ⟨w0.heap.size, k * 2, none⟩) (Nat.le_refl _) _).setCell (p := ⟨w0.heap.size, k * 2 + 1, none⟩) (Nat.le_refl _) _).alloc (by simpa [World.setCell] using hsz) _
            case measure => simp [intOf]; omega
      · obtain rfl : k = L.length := by omega
        have HE := Lib.hid (movE_ok HZ.out HV.out)
        have hf := HFI.out
        rw [List.take_length] at hf
        have HR := Lib.hid (hf.inL (mov_length L n).symm (by unfold maxLen; omega))
        clear hf
        go_wp2_with fail
        go_ret2
        exact ⟨_, by rw [HE.out]; rfl, by rw [movL_ok HE.out]; exact HR.out, HBW.out⟩
  · have hz1 : (chkE L == 0) = false := beq_false_of_ne hz
    have hz2 : (chkE L != 0) = true := by rw [bne, hz1]; rfl
    have HZ := Lib.hid hz
    clear hz
    go_enter Try.func29, Try.ntmps29
    go_wp2_with fail
    refine HCK.out.mono ?_
    rintro e w0 ⟨rfl, hb0⟩
    have HB0 := Lib.hid hb0
    clear hb0
    go_wp2_with fail
    go_ret2
    exact MovRes.err (movE_chk HZ.out) HZ.out HB0.out
#print axioms span_Move
end Go.Proofs.Ytidgcgnedeekhaa.Span
