/- Contract of ends of the reference: the places where something changes. -/
import Derived.Test.YtccbnobpighckaaSpanN
namespace Go.Proofs.Ytccbnobpighckaa.Span
open Go.ChangeShapes Go.WideShapes Go.RowKit Go.Lib Go.Proofs
set_option linter.unusedVariables false
set_option maxRecDepth 100000

set_option maxHeartbeats 3200000 in
theorem ref_ends (a b : List Sp) (A B : Option Addr) (c d : Nat) (w : World) (ha : Sps w A a) (hb : Sps w B b) (hla : a.length ≤ 256) (hlb : b.length ≤ 256) :
    Calls Try.prog 94 #[.slice A a.length c, .slice B b.length d] w (WithRes (cuts a b) w) := by
  have HA := Lib.hid ha
  have HB := Lib.hid hb
  clear ha hb
  go_enter Try.func94, Try.ntmps94
  go_wp2_with fail
  go_loopw [5, 6] (fun v i wr => ∃ (k : Nat), k ≤ a.length ∧ i = .int .i64 k ∧ InI wr v (addE [] (a.take k)) ∧ Below w.heap.size w wr) (fun _ i _ => a.length - (intOf i).toNat)
  case atStart => exact ⟨0, Nat.zero_le _, rfl, InI.nil _, Below.refl _ _⟩
  case round =>
    obtain ⟨k, hk, rfl, hin, hbel⟩ := hrel
    have HW := Lib.hid hbel
    have hacc : (addE [] (a.take k)).length ≤ 1024 := by
      have h1 := addE_length [] (a.take k)
      have h2 : (a.take k).length ≤ k := List.length_take_le _ _
      rw [List.length_nil] at h1
      omega
    obtain ⟨V, cv, rfl, q1, q2, hits, hin'⟩ := hin.open_
    have HI := Lib.hid hin'
    have HT := Lib.hid hits
    clear hbel hin hin' hits
    rcases Nat.lt_or_ge k a.length with hlt | hge
    · obtain ⟨s, hs⟩ := get_lt hlt
      obtain ⟨b', off, rfl, hb, h0, h1⟩ := HA.out.on HW.out k s hs
      have HN := Lib.hid (show addE [] (a.take (k + 1)) = withL (withL (addE [] (a.take k)) s.1) s.2 by rw [take_snoc_of hs, addE_snoc])
      have HL1 := Lib.hid (show (withL (addE [] (a.take k)) s.1).length ≤ 100000 by have := with_length (addE [] (a.take k)) s.1; omega)
      have HC1 := Lib.hid (ref_with (addE [] (a.take k)) s.1 V cv wr.drew (show Its wr V _ from HT.out) q1 q2 (by omega))
      have KE : Hid (∀ W, Below wr.heap.size wr.drew W → W.cell? ⟨b', off + k * 2, none⟩ = some (.int .i64 s.1) ∧ W.cell? ⟨b', off + k * 2 + 1, none⟩ = some (.int .i64 s.2)) :=
        fun W hW => ⟨(hW.cell (p := ⟨b', off + k * 2, none⟩) hb).trans h0, (hW.cell (p := ⟨b', off + k * 2 + 1, none⟩) hb).trans h1⟩
      have i1 : (k : Int) < (a.length : Int) := by omega
      have i2 : (0 : Int) ≤ (k : Int) := by omega
      clear hs
      go_wp2_with fail
      go_region_held3 (fun W' => W'.cell? ⟨b', off + k * 2, none⟩ = some (.int .i64 s.1) ∧ W'.cell? ⟨b', off + k * 2 + 1, none⟩ = some (.int .i64 s.2))
        (first | exact ⟨h0, h1⟩ | exact KE.out _ (hb1.mono (Nat.le_refl _)) | exact KE.out _ ((hb1.mono (Nat.le_refl _)).trans (hb2.mono hb1.size)))
        (first | (go_at_call 106; (with_reducible refine HC1.out.mono ?_); rintro e w2 ⟨v1, rfl, hin1, hb1⟩; obtain ⟨A1, c1, rfl, g1, g2, g3, -⟩ := hin1.open_) | (go_at_call 106; (with_reducible refine (ref_with _ s.2 A1 c1 w2 g3 g1 g2 HL1.out).mono ?_); rintro e w3 ⟨v2, rfl, hin2, hb2⟩))
      have HI2 := Lib.hid hin2
      have HB3 : Hid (Below w.heap.size w w3) := (HW.out.drew.trans (hb1.mono HW.out.size)).trans (hb2.mono (Nat.le_trans HW.out.size hb1.size))
      clear hin1 hin2 hb1 hb2 g3 h0 h1
      go_wp2_with fail
      go_roundw
      case rel => exact ⟨k + 1, by omega, by go_num, by rw [HN.out]; exact HI2.out, HB3.out⟩
      case measure => simp [intOf]; omega
    · obtain rfl : k = a.length := by omega
      have HF := Lib.hid (show addE [] (a.take a.length) = addE [] a by rw [List.take_length])
      have HR1 := Lib.hid (show InI wr (.slice V (addE [] (a.take a.length)).length cv) (addE [] a) by have h := HI.out; rw [HF.out] at h ⊢; exact h)
      go_wp2_with fail
      obtain ⟨wo, rfl⟩ : ∃ wo : World, wo = wr := ⟨_, rfl⟩
      go_loopw [5, 7] (fun v i wr => ∃ (k : Nat), k ≤ b.length ∧ i = .int .i64 k ∧ InI wr v (addE (addE [] a) (b.take k)) ∧ Below w.heap.size w wr) (fun _ i _ => b.length - (intOf i).toNat)
      case atStart => exact ⟨0, Nat.zero_le _, rfl, by rw [List.take_zero, addE_nil]; exact HR1.out, HW.out⟩
      case round =>
        obtain ⟨k, hk, rfl, hin, hbel⟩ := hrel
        have HW := Lib.hid hbel
        have hacc : (addE (addE [] a) (b.take k)).length ≤ 1024 := by
          have h1 := addE_length (addE [] a) (b.take k)
          have h2 : (b.take k).length ≤ k := List.length_take_le _ _
          have h3 := addE_length [] a; rw [List.length_nil] at h3
          omega
        obtain ⟨V, cv, rfl, q1, q2, hits, hin'⟩ := hin.open_
        have HI := Lib.hid hin'
        have HT := Lib.hid hits
        clear hbel hin hin' hits
        rcases Nat.lt_or_ge k b.length with hlt | hge
        · obtain ⟨s, hs⟩ := get_lt hlt
          obtain ⟨b', off, rfl, hb, h0, h1⟩ := HB.out.on HW.out k s hs
          have HN := Lib.hid (show addE (addE [] a) (b.take (k + 1)) = withL (withL (addE (addE [] a) (b.take k)) s.1) s.2 by rw [take_snoc_of hs, addE_snoc])
          have HL1 := Lib.hid (show (withL (addE (addE [] a) (b.take k)) s.1).length ≤ 100000 by have := with_length (addE (addE [] a) (b.take k)) s.1; omega)
          have HC1 := Lib.hid (ref_with (addE (addE [] a) (b.take k)) s.1 V cv wr.drew (show Its wr V _ from HT.out) q1 q2 (by omega))
          have KE : Hid (∀ W, Below wr.heap.size wr.drew W → W.cell? ⟨b', off + k * 2, none⟩ = some (.int .i64 s.1) ∧ W.cell? ⟨b', off + k * 2 + 1, none⟩ = some (.int .i64 s.2)) :=
            fun W hW => ⟨(hW.cell (p := ⟨b', off + k * 2, none⟩) hb).trans h0, (hW.cell (p := ⟨b', off + k * 2 + 1, none⟩) hb).trans h1⟩
          have i1 : (k : Int) < (b.length : Int) := by omega
          have i2 : (0 : Int) ≤ (k : Int) := by omega
          clear hs
          go_wp2_with fail
          go_region_held3 (fun W' => W'.cell? ⟨b', off + k * 2, none⟩ = some (.int .i64 s.1) ∧ W'.cell? ⟨b', off + k * 2 + 1, none⟩ = some (.int .i64 s.2))
            (first | exact ⟨h0, h1⟩ | exact KE.out _ (hb1.mono (Nat.le_refl _)) | exact KE.out _ ((hb1.mono (Nat.le_refl _)).trans (hb2.mono hb1.size)))
            (first | (go_at_call 106; (with_reducible refine HC1.out.mono ?_); rintro e w2 ⟨v1, rfl, hin1, hb1⟩; obtain ⟨A1, c1, rfl, g1, g2, g3, -⟩ := hin1.open_) | (go_at_call 106; (with_reducible refine (ref_with _ s.2 A1 c1 w2 g3 g1 g2 HL1.out).mono ?_); rintro e w3 ⟨v2, rfl, hin2, hb2⟩))
          have HI2 := Lib.hid hin2
          have HB3 : Hid (Below w.heap.size w w3) := (HW.out.drew.trans (hb1.mono HW.out.size)).trans (hb2.mono (Nat.le_trans HW.out.size hb1.size))
          clear hin1 hin2 hb1 hb2 g3 h0 h1
          go_wp2_with fail
          go_roundw
          case rel => exact ⟨k + 1, by omega, by go_num, by rw [HN.out]; exact HI2.out, HB3.out⟩
          case measure => simp [intOf]; omega
        · obtain rfl : k = b.length := by omega
          have HF := Lib.hid (show addE (addE [] a) (b.take b.length) = addE (addE [] a) b by rw [List.take_length])
          have HR := Lib.hid (show InI wr (.slice V (addE (addE [] a) (b.take b.length)).length cv) (cuts a b) by have h := HI.out; rw [HF.out] at h ⊢; exact h)
          go_wp2_with fail
          go_ret
          exact ⟨_, rfl, HR.out, HW.out⟩
#print axioms ref_ends
end Go.Proofs.Ytccbnobpighckaa.Span
