/- A stable sort in memory: the merge of every two parts; the whole; slices.SortStableFunc. -/
import Derived.Test.YtdolhanniiejfaaStableG
namespace Go.Proofs.Ytdolhanniiejfaa.Stable
open Go.ChangeShapes Go.WideShapes Go.RowKit Go.Lib Go.Proofs.Ytdolhanniiejfaa.Mem
set_option linter.unusedVariables false
set_option maxRecDepth 100000

theorem merges {v : Nat → Int} {B : Nat → Nat → Bool} {g n cap F : Nat} {caps : Array Value} {cf : Nat → Nat → Int} {w0 : World} (hB : Sto B) (hc : Cm v B n g w0 F caps cf) (hn : n ≤ 1000000) : ∀ d, Smaller v B g n cap F caps w0 d := by
  intro d
  induction d with
  | zero => intro a m b s w h; omega
  | succ d ih =>
    intro a m b s w hd ham hmb hbn hh hs
    by_cases h1 : m = a + 1
    · subst h1
      exact sym_left hB hc hs hn a b hmb hbn hh
    · by_cases h2 : b = m + 1
      · subst h2
        exact sym_right hB hc hs hn a m (by omega) hbn hh
      · have hr : Smaller v B g n cap F caps w0 (b - a) := fun a' m' b' s' w' hd' => ih a' m' b' s' w' (by omega)
        rcases Nat.lt_or_ge ((a + b) / 2) m with h3 | h3
        · exact sym_hi hB hc hs hn a m b (by omega) (by omega) hbn hh hr h3
        · exact sym_lo hB hc hs hn a m b (by omega) (by omega) hbn hh hr h3

set_option maxHeartbeats 3200000 in
theorem stable {v : Nat → Int} {B : Nat → Nat → Bool} {g n cap F : Nat} {caps : Array Value} {cf : Nat → Nat → Int} {w0 w : World} {s : Nat → Nat} (hB : Sto B) (hc : Cm v B n g w0 F caps cf) (h : St v g n cap w0 w s) (hn : n ≤ 100000) (hid : ∀ k, s k = k) :
    Calls Try.prog 56 #[.slice (some ⟨g, 0, none⟩) n cap, .int .i64 (n : Int), .func (.func F) #[] caps] w fun e w' => e = .returned (.tuple #[]) ∧ ∃ s', St v g n cap w0 w' s' ∧ Srt B s' 0 n ∧ ∀ k, k < n → s' k < n := by
  have HS := Lib.hid h
  have HB := Lib.hid hB
  have HN := Lib.hid hn
  have HID := Lib.hid hid
  have HC := Lib.hid hc
  have HMG := Lib.hid (fun d => merges (cap := cap) hB hc (Nat.le_trans hn (by omega)) d)
  clear h hB hn hid hc
  go_enter Try.func56, Try.ntmps56
  go_wp2_with fail
  go_loopw [7, 8] (fun x y wr => ∃ (t a b : Nat) (c : Nat → Nat), x = .int .i64 (a : Int) ∧ y = .int .i64 (b : Int) ∧ a = t * 20 ∧ b = a + 20 ∧ St v g n cap w0 wr c ∧ Ph1 B c n t) (fun x _ _ => n - (intOf x).toNat)
  case atStart => exact ⟨0, 0, 20, s, rfl, rfl, rfl, rfl, HS.out, Ph1.start n HID.out⟩
  case round =>
    obtain ⟨t, a, b, c, rfl, rfl, ha, hb, hst, hph⟩ := hrel
    have HST := Lib.hid hst
    have HPH := Lib.hid hph
    have HA := Lib.hid (show a = t * 20 ∧ b = a + 20 ∧ a ≤ n by have := hph.le; omega)
    have hN := HN.out
    clear hst hph
    rcases Nat.lt_or_ge n b with hlt | hge
    · have b1 : ¬ b ≤ n := by omega
      have b2 : decide (b ≤ n) = false := decide_eq_false (by omega)
      have HINS := Lib.hid (insertion HB.out HC.out HST.out (by omega) a n HA.out.2.2 (Nat.le_refl _) (fun p q h1 h2 h3 => by rw [HPH.out.rest p (by omega), HPH.out.rest q (by omega)]; exact h2))
      clear ha hb hN hlt
      go_wp2_with fail
      refine HINS.out.mono ?_
      rintro e w2 ⟨rfl, s2, hst2, hsrt2, him2⟩
      have HST2 := Lib.hid hst2
      have HBLS : Hid (Bls B s2 20 n) := HPH.out.all (by have := HA.out; omega) (HA.out.1 ▸ hsrt2) (HA.out.1 ▸ him2)
      clear hst2 hsrt2 him2 HINS
      go_wp2_with fail
      go_loopw [6, 7, 8, 9] (fun x _ _ _ wr => ∃ (z : Nat) (c : Nat → Nat), x = .int .i64 (z : Int) ∧ 0 < z ∧ z ≤ 200000 ∧ St v g n cap w0 wr c ∧ Bls B c z n) (fun x _ _ _ _ => n - (intOf x).toNat)
      case atStart => exact ⟨20, s2, rfl, by omega, by omega, HST2.out, HBLS.out⟩
      case round =>
        obtain ⟨z, c3, rfl, hz, hz2, hst, hbls⟩ := hrel
        have HST3 := Lib.hid hst
        have HBL3 := Lib.hid hbls
        have hN := HN.out
        clear hst hbls
        rcases Nat.lt_or_ge z n with hlt | hge
        · obtain ⟨y, hy⟩ : ∃ y, y = 2 * z := ⟨_, rfl⟩
          have e1 : IntKind.i64.wrap (2 * (z : Int)) = (y : Int) := by rw [wrap_id (by omega)]; omega
          have e1' : IntKind.i64.wrap ((z : Int) * 2) = (y : Int) := by rw [wrap_id (by omega)]; omega
          have b1 : z < n := hlt
          have HZ := Lib.hid (show 0 < z ∧ z < n ∧ n ≤ 100000 ∧ y = 2 * z by omega)
          have HPS : Hid (Ph2 B c3 z n 0 0) := Ph2.start HBL3.out
          clear hy hz hz2 hN hlt
          go_wp2_with fail
          go_loopw [7, 8] (fun x u wr => ∃ (t a b : Nat) (c : Nat → Nat), x = .int .i64 (a : Int) ∧ u = .int .i64 (b : Int) ∧ b = a + y ∧ St v g n cap w0 wr c ∧ Ph2 B c z n t a) (fun x _ _ => n - (intOf x).toNat)
          case atStart => exact ⟨0, 0, y, c3, rfl, rfl, by omega, HST3.out, HPS.out⟩
          case round =>
            obtain ⟨t, a, b, c4, rfl, rfl, hb, hst, hph⟩ := hrel
            have HST4 := Lib.hid hst
            have HPH4 := Lib.hid hph
            have hZ := HZ.out
            have hle := hph.le
            have HB2 := Lib.hid hb
            clear hst hph
            obtain ⟨m, hm⟩ : ∃ m, m = a + z := ⟨_, rfl⟩
            have e2 : IntKind.i64.wrap ((a : Int) + (z : Int)) = (m : Int) := by rw [wrap_id (by omega)]; omega
            rcases Nat.lt_or_ge n b with hlt | hge
            · have b2 : ¬ b ≤ n := by omega
              have HFIN : Hid (n < a + 2 * z) := (by omega : n < a + 2 * z)
              rcases Nat.lt_or_ge m n with hmn | hmn
              · have HHV := Lib.hid (show Halves B c4 a m n from by
                  have q1 := HPH4.out.first
                  have q2 := HPH4.out.second
                  rw [Nat.min_eq_left (by omega)] at q1
                  rw [Nat.min_eq_right (by omega)] at q2
                  rw [hm]; exact q1.halves q2)
                have HM := Lib.hid (HMG.out (n - a + 1) a m n c4 wr (by omega) (by omega) hmn (Nat.le_refl _) HHV.out HST4.out)
                have HMA := Lib.hid (show a + z < n by omega)
                have b3 : m < n := hmn
                clear hm hZ hle hb hlt hmn
                go_wp2_with fail
                refine HM.out.mono ?_
                rintro e w5 ⟨rfl, s5, hst5, hsrt5, him5⟩
                have HST5 := Lib.hid hst5
                have HBLS5 : Hid (Bls B s5 (2 * z) n) := HPH4.out.last HFIN.out HMA.out hsrt5 him5
                clear hst5 hsrt5 him5
                go_wp2_with fail
                go_roundw
                case rel => exact ⟨y, s5, rfl, by have := HZ.out; omega, by have := HZ.out; omega, HST5.out, by rw [HZ.out.2.2.2]; exact HBLS5.out⟩
                case measure =>
                  have := HZ.out
                  simp [intOf]; omega
              · have HBLS5 : Hid (Bls B c4 (2 * z) n) := HPH4.out.alone HFIN.out (by omega)
                have b3 : ¬ m < n := by omega
                clear hm hZ hle hb hlt hmn
                go_wp2_with fail
                go_roundw
                case rel => exact ⟨y, c4, rfl, by have := HZ.out; omega, by have := HZ.out; omega, HST4.out, by rw [HZ.out.2.2.2]; exact HBLS5.out⟩
                case measure =>
                  have := HZ.out
                  simp [intOf]; omega
            · obtain ⟨b', hb'⟩ : ∃ b', b' = b + y := ⟨_, rfl⟩
              have e3 : IntKind.i64.wrap ((b : Int) + (y : Int)) = (b' : Int) := by rw [wrap_id (by omega)]; omega
              have b2 : b ≤ n := hge
              have HHV := Lib.hid (show Halves B c4 a m b from by
                have q1 := HPH4.out.first
                have q2 := HPH4.out.second
                rw [Nat.min_eq_left (by omega)] at q1 q2
                rw [hm, show b = a + 2 * z by omega]; exact q1.halves q2)
              have HM := Lib.hid (HMG.out (b - a + 1) a m b c4 wr (by omega) (by omega) (by omega) hge HHV.out HST4.out)
              have HLE : Hid (a + 2 * z ≤ n ∧ b = a + 2 * z ∧ b' = b + y) := (by omega : a + 2 * z ≤ n ∧ b = a + 2 * z ∧ b' = b + y)
              clear hm hZ hle hb hge hb'
              go_wp2_with fail
              refine HM.out.mono ?_
              rintro e w5 ⟨rfl, s5, hst5, hsrt5, him5⟩
              have HST5 := Lib.hid hst5
              have HPH5 : Hid (Ph2 B s5 z n (t + 1) b) := by
                have := HPH4.out.next (s' := s5) HLE.out.1 (HLE.out.2.1 ▸ hsrt5) (HLE.out.2.1 ▸ him5)
                rw [HLE.out.2.1]; exact this
              clear hst5 hsrt5 him5
              go_wp2_with fail
              go_roundw
              case rel => exact ⟨t + 1, b, b', s5, rfl, rfl, HLE.out.2.2, HST5.out, HPH5.out⟩
              case measure =>
                have := HZ.out
                have := HLE.out
                simp [intOf]; omega
        · have b1 : ¬ z < n := by omega
          have HD := Lib.hid (HBL3.out.all hge)
          clear hz hz2 hN hge
          go_wp2_with fail
          go_end0
          exact ⟨rfl, _, HST3.out, HD.out.1, HD.out.2⟩
    · obtain ⟨b', hb'⟩ : ∃ b', b' = b + 20 := ⟨_, rfl⟩
      have e3 : IntKind.i64.wrap ((b : Int) + 20) = (b' : Int) := by rw [wrap_id (by omega)]; omega
      have b1 : b ≤ n := hge
      have HINS := Lib.hid (insertion HB.out HC.out HST.out (by omega) a b (by omega) hge (fun p q h1 h2 h3 => by rw [HPH.out.rest p (by omega), HPH.out.rest q (by omega)]; exact h2))
      have HLE : Hid (t * 20 + 20 ≤ n ∧ b = t * 20 + 20 ∧ a = t * 20 ∧ b' = b + 20) := (by omega : t * 20 + 20 ≤ n ∧ b = t * 20 + 20 ∧ a = t * 20 ∧ b' = b + 20)
      clear ha hb hN hb' hge
      go_wp2_with fail
      refine HINS.out.mono ?_
      rintro e w2 ⟨rfl, s2, hst2, hsrt2, him2⟩
      have HST2 := Lib.hid hst2
      have HPH2 : Hid (Ph1 B s2 n (t + 1)) := HPH.out.next HLE.out.1 (by rw [← HLE.out.2.1, ← HLE.out.2.2.1]; exact hsrt2) (by rw [← HLE.out.2.1, ← HLE.out.2.2.1]; exact him2)
      clear hst2 hsrt2 him2 HINS
      go_wp2_with fail
      go_roundw
      case rel => exact ⟨t + 1, b, b', s2, rfl, rfl, by have := HLE.out; omega, HLE.out.2.2.2, HST2.out, HPH2.out⟩
      case measure =>
        have := HLE.out
        simp [intOf]; omega

set_option maxHeartbeats 800000 in
/-- slices.SortStableFunc: a row that holds the values v 0, v 1, ..; afterwards what lies where is told by s', in order. -/
theorem sort_stable {v : Nat → Int} {B : Nat → Nat → Bool} {g n cap F : Nat} {caps : Array Value} {cf : Nat → Nat → Int} {w0 w : World} {s : Nat → Nat} (hB : Sto B) (hc : Cm v B n g w0 F caps cf) (h : St v g n cap w0 w s) (hn : n ≤ 100000) (hid : ∀ k, s k = k) :
    Calls Try.prog 37 #[.slice (some ⟨g, 0, none⟩) n cap, .func (.func F) #[] caps] w fun e w' => e = .returned (.tuple #[]) ∧ ∃ s', St v g n cap w0 w' s' ∧ Srt B s' 0 n ∧ ∀ k, k < n → s' k < n := by
  have HM := Lib.hid (stable hB hc h hn hid)
  clear hB hc h hn hid
  go_enter Try.func37, Try.ntmps37
  go_wp2_with fail
  refine HM.out.mono ?_
  rintro e w2 ⟨rfl, s2, h2, h3, h4⟩
  have H2 := Lib.hid h2
  have H3 := Lib.hid h3
  have H4 := Lib.hid h4
  clear h2 h3 h4
  go_wp2_with fail
  go_end0
  exact ⟨rfl, s2, H2.out, H3.out, H4.out⟩
#print axioms stable
#print axioms sort_stable
end Go.Proofs.Ytdolhanniiejfaa.Stable
