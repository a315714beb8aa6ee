/- Several texts in one: StableG, StableH, ShareD, ShareE, FibreA, IdentB, FibreB, RowA, RowB. -/
import Derived.Test.YtgomokdklajlcaaPk2
import Derived.Deep.Cut
import Derived.Deep.CutRange
import Derived.Test.YtgomokdklajlcaaPk1
import Derived.Test.YtgomokdklajlcaaRows
import Derived.WalkKit
import Derived.WalkLawsBesides
import Derived.WalkSpells
import Derived.Outline
import Derived.Laws.OwnMore
import Derived.OwnWalk
import Derived.Deep.QuietTactic
import Derived.BigQuiet
import Derived.Laws.StructEq
import Derived.Laws.AppendOwnNone
import Derived.Laws.EntriesVeiled
import Derived.Deep.AppendLies
import Derived.Deep.RegionLaw
import Derived.Deep.RegionHeld3
import Derived.Maps.AppendAt
import Derived.Shelf.Abstract
import Derived.Lib.Hide
import Derived.StillTailTactics
import Derived.Defers
import Derived.Recover
/- A stable sort in memory: two parts merged by a rotation and two smaller merges. Written by gen12/symmany.py. -/
namespace Go.Proofs.Ytgomokdklajlcaa.Stable
open Go.ChangeShapes Go.WideShapes Go.RowKit Go.Lib Go.Proofs.Ytgomokdklajlcaa.Mem
set_option linter.unusedVariables false
set_option maxRecDepth 100000

/-- A smaller merge. -/
def Smaller (v : Nat → Int) (B : Nat → Nat → Bool) (g n cap F : Nat) (caps : Array Value) (w0 : World) (d : Nat) : Prop := ∀ (a m b : Nat) (s : Nat → Nat) (w : World), b - a < d → a < m → m < b → b ≤ n → Halves B s a m b → St v g n cap w0 w s →
  Calls Try.prog 80 #[.slice (some ⟨g, 0, none⟩) n cap, .int .i64 (a : Int), .int .i64 (m : Int), .int .i64 (b : Int), .func (.func F) #[] caps] w fun e w' => e = .returned (.tuple #[]) ∧ Mgd v B g n cap w0 s a b w'

set_option maxHeartbeats 3200000 in
theorem sym_hi {v : Nat → Int} {B : Nat → Nat → Bool} {g n cap F : Nat} {caps : Array Value} {cf : Nat → Nat → Int} {w0 w : World} {s : Nat → Nat} (hB : Sto B) (hc : Cm v B n g w0 F caps cf) (h : St v g n cap w0 w s) (hn : n ≤ 1000000) (a m b : Nat) (ham : a + 1 < m) (hmb : m + 1 < b) (hbn : b ≤ n) (hh : Halves B s a m b)
    (hr : Smaller v B g n cap F caps w0 (b - a)) (hside : (a + b) / 2 < m) :
    Calls Try.prog 80 #[.slice (some ⟨g, 0, none⟩) n cap, .int .i64 (a : Int), .int .i64 (m : Int), .int .i64 (b : Int), .func (.func F) #[] caps] w fun e w' => e = .returned (.tuple #[]) ∧ Mgd v B g n cap w0 s a b w' := by
  obtain ⟨d, hd⟩ : ∃ d, d = m - a := ⟨_, rfl⟩
  obtain ⟨d', hd'⟩ : ∃ d', d' = b - m := ⟨_, rfl⟩
  obtain ⟨q0, hq0⟩ : ∃ q, q = a + b := ⟨_, rfl⟩
  obtain ⟨mid, hmid⟩ : ∃ x, x = q0 / 2 := ⟨_, rfl⟩
  obtain ⟨nn, hnn⟩ : ∃ x, x = mid + m := ⟨_, rfl⟩
  obtain ⟨lo, hlo⟩ : ∃ x, x = nn - b := ⟨_, rfl⟩
  obtain ⟨pp, hpp⟩ : ∃ x, x = nn - 1 := ⟨_, rfl⟩
  have HS := Lib.hid h
  have HB := Lib.hid hB
  have HH := Lib.hid hh
  have HR := Lib.hid hr
  have eg := hc.eg
  have HC := Lib.hid hc
  have HX := Lib.hid (show a + 1 < m ∧ m + 1 < b ∧ b ≤ n ∧ n ≤ 1000000 ∧ mid = (a + b) / 2 ∧ nn = mid + m ∧ pp = nn - 1 ∧ lo = (if mid < m then mid + m - b else a) ∧ mid = (if mid < m then mid else m) ∧ lo ≤ mid ∧ mid ≤ mid ∧ mid ≤ m ∧ a ≤ lo by
    refine ⟨ham, hmb, hbn, hn, by omega, hnn, hpp, ?_, ?_, by omega, by omega, by omega, by omega⟩
    · split <;> omega
    · split <;> omega)
  have e1 : IntKind.i64.wrap ((m : Int) - (a : Int)) = (d : Int) := by rw [wrap_id (by omega)]; omega
  have d1 : ((d : Int) == 1) = false := by simp; omega
  have d2 : ¬ d = 1 := by omega
  have e2 : IntKind.i64.wrap ((b : Int) - (m : Int)) = (d' : Int) := by rw [wrap_id (by omega)]; omega
  have d3 : ((d' : Int) == 1) = false := by simp; omega
  have d4 : ¬ d' = 1 := by omega
  have e3 : IntKind.i64.wrap ((a : Int) + (b : Int)) = (q0 : Int) := by rw [wrap_id (by omega)]; omega
  have e4 : IntKind.u64.wrap (q0 : Int) = (q0 : Int) := by rw [IntKind.wrap_u64]; omega
  have e5 : (q0 : Int) / 2 = (mid : Int) := by omega
  have e6 : IntKind.i64.wrap (mid : Int) = (mid : Int) := wrap_id (by omega)
  have e7 : IntKind.i64.wrap ((mid : Int) + (m : Int)) = (nn : Int) := by rw [wrap_id (by omega)]; omega
  have e8 : IntKind.i64.wrap ((nn : Int) - (b : Int)) = (lo : Int) := by rw [wrap_id (by omega)]; omega
  have s1 : mid < m := by omega
  have e9 : IntKind.i64.wrap ((nn : Int) - 1) = (pp : Int) := by rw [wrap_id (by omega)]; omega
  clear h hB hc hh hr hn ham hmb hbn hside hd hd' hq0 hmid hnn hpp hlo
  go_enter Try.func80, Try.ntmps80
  go_wp2_with fail
  go_loopw [20, 21, 23] (fun x y _ wr => ∃ i j : Nat, x = .int .i64 (i : Int) ∧ y = .int .i64 (j : Int) ∧ lo ≤ i ∧ i ≤ j ∧ j ≤ mid ∧ (lo < i → B (s (pp - (i - 1))) (s (i - 1)) = false) ∧ (j < mid → B (s (pp - j)) (s j) = true) ∧ St v g n cap w0 wr s) (fun x y _ _ => (RowKit.intOf y).toNat - (RowKit.intOf x).toNat)
  case atStart => exact ⟨lo, mid, rfl, rfl, Nat.le_refl _, HX.out.2.2.2.2.2.2.2.2.2.1, Nat.le_refl _, fun h => by omega, fun h => by omega, HS.out⟩
  case round =>
    obtain ⟨i, j, rfl, rfl, h1, h2, h3, hlo, hhi, hst⟩ := hrel
    have HLO := Lib.hid hlo
    have HHI := Lib.hid hhi
    have HST := Lib.hid hst
    obtain ⟨x1, x2, x3, x4, x5, x6, x7, x8, x9, x10, x11, x12, x13⟩ := HX.out
    clear hst hlo hhi e1 e2 e3 e4 e5 e6 e7 e8 s1 e9 d1 d2 d3 d4
    rcases Nat.lt_or_ge i j with hlt | hge
    · obtain ⟨q, hq⟩ : ∃ x, x = i + j := ⟨_, rfl⟩
      obtain ⟨h, hh⟩ : ∃ x, x = q / 2 := ⟨_, rfl⟩
      obtain ⟨r, hr⟩ : ∃ x, x = pp - h := ⟨_, rfl⟩
      have e1 : IntKind.i64.wrap ((i : Int) + (j : Int)) = (q : Int) := by rw [wrap_id (by omega)]; omega
      have e2 : IntKind.u64.wrap (q : Int) = (q : Int) := by rw [IntKind.wrap_u64]; omega
      have e3 : (q : Int) / 2 = (h : Int) := by omega
      have e4 : IntKind.i64.wrap (h : Int) = (h : Int) := wrap_id (by omega)
      have e5 : IntKind.i64.wrap ((h : Int) + 1) = ((h + 1 : Nat) : Int) := wrap_id (by omega)
      have e6 : IntKind.i64.wrap ((pp : Int) - (h : Int)) = (r : Int) := by rw [wrap_id (by omega)]; omega
      have hrb : m ≤ r ∧ r < b := by
        clear HLO HHI e1 e2 e3 e4 e5 e6
        by_cases hc : mid < m
        · rw [if_pos hc] at x8 x9; omega
        · rw [if_neg hc] at x8 x9; omega
      have ht := HH.out.t h r (by omega) (by omega) hrb.1 hrb.2
      have hbd := HST.out.b r (by omega)
      have cr := HST.out.cell (k := r) (by omega)
      have ch := HST.out.cell (k := h) (by omega)
      have HNEG := Lib.hid (HC.out.neg (s r) (s h) ht hbd)
      have HCALL := Lib.hid (fun W => HC.out.call (s r) (s h) W ht hbd)
      have HP := Lib.hid (show i ≤ h ∧ h < j ∧ r < n ∧ h < n ∧ h + 1 ≤ j ∧ r = pp - h by omega)
      have i2 : (h : Int) < (n : Int) := by omega
      have i3 : (0 : Int) ≤ (h : Int) := by omega
      have i4 : (r : Int) < (n : Int) := by omega
      have i5 : (0 : Int) ≤ (r : Int) := by omega
      obtain ⟨x, hx⟩ : ∃ x, x = v (s r) := ⟨_, rfl⟩
      obtain ⟨y, hy⟩ : ∃ y, y = v (s h) := ⟨_, rfl⟩
      obtain ⟨z, hz⟩ : ∃ z, z = cf (s r) (s h) := ⟨_, rfl⟩
      rw [← hx] at cr HCALL
      rw [← hy] at ch HCALL
      rw [← hz] at HCALL HNEG
      have HX1 := Lib.hid (HCALL.out wr.drew HST.out.drew.off)
      have HK := Lib.hid (HST.out.keep HP.out.2.2.1 HP.out.2.2.2.1 hx hy)
      clear hq hh hr hrb ht hbd hx hy hz HCALL x1 x2 x3 x4 x5 x6 x7 x8 x9 x10 x11 x12 x13
      cases hb : B (s r) (s h) with
      | true =>
        rw [hb] at HNEG
        have b1 := HNEG.out
        go_wp2_with fail
        go_region_held3 (fun W' => W'.cell? ⟨g, r, none⟩ = some (.int .i64 x) ∧ W'.cell? ⟨g, h, none⟩ = some (.int .i64 y))
          (first | go_keep | exact HK.out _ hb2) (first | (go_at_fn F; (with_reducible refine HX1.out.mono ?_); rintro e w2 ⟨rfl, hb2⟩))
        have HST3 := Lib.hid (HST.out.drew.on hb2)
        clear cr ch hb2
        go_wp2_with fail
        go_roundw
        case rel =>
          have := HP.out
          exact ⟨i, h, rfl, rfl, h1, by omega, by omega, HLO.out, fun _ => by rw [← HP.out.2.2.2.2.2]; exact hb, HST3.out⟩
        case measure =>
          have := HP.out
          simp [RowKit.intOf]; omega
      | false =>
        rw [hb] at HNEG
        have b1 := HNEG.out
        go_wp2_with fail
        go_region_held3 (fun W' => W'.cell? ⟨g, r, none⟩ = some (.int .i64 x) ∧ W'.cell? ⟨g, h, none⟩ = some (.int .i64 y))
          (first | go_keep | exact HK.out _ hb2) (first | (go_at_fn F; (with_reducible refine HX1.out.mono ?_); rintro e w2 ⟨rfl, hb2⟩))
        have HST3 := Lib.hid (HST.out.drew.on hb2)
        clear cr ch hb2
        go_wp2_with fail
        go_roundw
        case rel =>
          have := HP.out
          exact ⟨h + 1, j, rfl, rfl, by omega, by omega, h3, fun _ => by rw [Nat.add_sub_cancel, ← HP.out.2.2.2.2.2]; exact hb, HHI.out, HST3.out⟩
        case measure =>
          have := HP.out
          simp [RowKit.intOf]; omega
    · obtain rfl : i = j := by omega
      obtain ⟨en, hen⟩ : ∃ x, x = nn - i := ⟨_, rfl⟩
      have e1 : IntKind.i64.wrap ((nn : Int) - (i : Int)) = (en : Int) := by rw [wrap_id (by omega)]; omega
      have HCUT : Hid (Cut B s a m b i en) := by
        have h5 := HH.out.cut HB.out x5 (by omega) (by omega) x8 x9 h1 h3 (by rw [← x6, ← x7]; exact HLO.out) (by rw [← x6, ← x7]; exact HHI.out)
        rw [hen, x6]; exact h5
      have HM := Lib.hid (show i + (en - m) = mid ∧ a < mid ∧ mid < b ∧ i ≤ mid ∧ m ≤ en ∧ en ≤ b ∧ i ≤ m ∧ a ≤ i ∧ mid ≤ en ∧ n ≤ 1000000 ∧ b ≤ n by
        have := HCUT.out.mj; have := HCUT.out.jb; have := HCUT.out.ai; have := HCUT.out.im
        refine ⟨by omega, by omega, by omega, by omega, by omega, by omega, by omega, by omega, by omega, by omega, by omega⟩)
      clear h1 h2 h3 hge hen HLO HHI x1 x2 x3 x4 x5 x6 x7 x8 x9 x10 x11 x12 x13
      obtain ⟨p1, hp⟩ : ∃ p, p = (decide (i < m) && decide (m < en)) := ⟨_, rfl⟩
      have HP1 := Lib.hid hp
      clear hp
      go_upto_region 39 with fail
      go_cut [185] from 178 to 185 (fun x wc => x = .bool p1 ∧ wr = wc)
      case first =>
        rcases Nat.lt_or_ge i m with c1 | c1
        · rcases Nat.lt_or_ge m en with c2 | c2
          · have c3 : decide (i < m) = true := decide_eq_true c1
            have c4 : decide (m < en) = true := decide_eq_true c2
            go_wp2_with fail
            go_meet
            case rel => exact ⟨congrArg Value.bool (by rw [HP1.out, c3, c4]; rfl), rfl⟩
          · have c3 : decide (i < m) = true := decide_eq_true c1
            have c4 : decide (m < en) = false := decide_eq_false (by omega)
            have c5 : ¬ m < en := by omega
            go_wp2_with fail
            go_meet
            case rel => exact ⟨congrArg Value.bool (by rw [HP1.out, c3, c4]; rfl), rfl⟩
        · have c3 : decide (i < m) = false := decide_eq_false (by omega)
          have c5 : ¬ i < m := by omega
          go_wp2_with fail
          go_meet
          case rel => exact ⟨congrArg Value.bool (by rw [HP1.out, c3]; rfl), rfl⟩
      case rest =>
        obtain ⟨rfl, rfl⟩ := hcut
        go_upto_if 185 with fail
        go_cut [] from 186 to 191 (fun wc => St v g n cap w0 wc (rot s i m en))
        case first =>
          cases p1 with
          | true =>
            have hc1 : i < m ∧ m < en := by simpa using HP1.out.symm
            have HR1 := Lib.hid (rotate HST.out HM.out.2.2.2.2.2.2.2.2.2.1 i m en hc1.1 hc1.2 (Nat.le_trans HM.out.2.2.2.2.2.1 HM.out.2.2.2.2.2.2.2.2.2.2) F caps)
            clear hc1
            go_wp2_with fail
            refine HR1.out.mono ?_
            rintro e w2 ⟨rfl, hst2⟩
            have HST2 := Lib.hid hst2
            clear hst2
            go_wp2_with fail
            go_meet
            case rel => exact HST2.out
          | false =>
            have HE : Hid (s = rot s i m en) := by
              have hM := HM.out
              have hc1 := HP1.out
              by_cases hc2 : i < m
              · have hc3 : ¬ m < en := fun hc3 => by rw [decide_eq_true hc2, decide_eq_true hc3] at hc1; cases hc1
                have he : en = m := by omega
                show s = _
                rw [he]; exact (rot_right s (by omega)).symm
              · have he : i = m := by omega
                show s = _
                rw [he]; exact (rot_left s _ (by omega)).symm
            go_wp2_with fail
            go_meet
            case rel => exact HST.out.to HE.out
        case rest =>
          have HST2 := Lib.hid hcut
          obtain ⟨w2, hw2⟩ : ∃ W, W = wc := ⟨_, rfl⟩
          rw [← hw2] at HST2 ⊢
          clear hcut hw2
          obtain ⟨p2, hp⟩ : ∃ p, p = (decide (a < i) && decide (i < mid)) := ⟨_, rfl⟩
          have HP2 := Lib.hid hp
          clear hp
          go_upto_region 41 with fail
          go_cut [199] from 192 to 199 (fun x wc => x = .bool p2 ∧ w2 = wc)
          case first =>
            rcases Nat.lt_or_ge a i with c1 | c1
            · rcases Nat.lt_or_ge i mid with c2 | c2
              · have c3 : decide (a < i) = true := decide_eq_true c1
                have c4 : decide (i < mid) = true := decide_eq_true c2
                go_wp2_with fail
                go_meet
                case rel => exact ⟨congrArg Value.bool (by rw [HP2.out, c3, c4]; rfl), rfl⟩
              · have c3 : decide (a < i) = true := decide_eq_true c1
                have c4 : decide (i < mid) = false := decide_eq_false (by omega)
                have c5 : ¬ i < mid := by omega
                go_wp2_with fail
                go_meet
                case rel => exact ⟨congrArg Value.bool (by rw [HP2.out, c3, c4]; rfl), rfl⟩
            · have c3 : decide (a < i) = false := decide_eq_false (by omega)
              have c5 : ¬ a < i := by omega
              go_wp2_with fail
              go_meet
              case rel => exact ⟨congrArg Value.bool (by rw [HP2.out, c3]; rfl), rfl⟩
          case rest =>
            obtain ⟨rfl, rfl⟩ := hcut
            go_upto_if 199 with fail
            go_cut [] from 200 to 205 (fun wc => Mgd v B g n cap w0 (rot s i m en) a mid wc)
            case first =>
              cases p2 with
              | true =>
                have hc1 : a < i ∧ i < mid := by simpa using HP2.out.symm
                have hM := HM.out
                have hlo2 := HCUT.out.low
                rw [hM.1] at hlo2
                have HR2 := Lib.hid (HR.out a i mid (rot s i m en) w2 (by omega) hc1.1 hc1.2 (by omega) hlo2 HST2.out)
                clear hc1 hM hlo2
                go_wp2_with fail
                refine HR2.out.mono ?_
                rintro e w3 ⟨rfl, hst3⟩
                have HST3 := Lib.hid hst3
                clear hst3
                go_wp2_with fail
                go_meet
                case rel => exact HST3.out
              | false =>
                have HE : Hid (Srt B (rot s i m en) a mid) := by
                  have hM := HM.out
                  have hc1 := HP2.out
                  have hlo2 := HCUT.out.low
                  rw [hM.1] at hlo2
                  by_cases hc2 : a < i
                  · have hc3 : ¬ i < mid := fun hc3 => by rw [decide_eq_true hc2, decide_eq_true hc3] at hc1; cases hc1
                    have he : mid = i := by omega
                    show Srt _ _ _ _
                    rw [he]; exact hlo2.l
                  · have he : i = a := by omega
                    have h5 := hlo2.r
                    rw [he] at h5 ⊢
                    exact h5
                go_wp2_with fail
                go_meet
                case rel => exact ⟨_, HST2.out, HE.out, Im.refl _ _ _⟩
            case rest =>
              obtain ⟨s2, hst2, hsrt2, him2⟩ := hcut
              have HST4 := Lib.hid hst2
              have HSRT2 := Lib.hid hsrt2
              have HIM2 := Lib.hid him2
              obtain ⟨w4, hw4⟩ : ∃ W, W = wc := ⟨_, rfl⟩
              rw [← hw4] at HST4 ⊢
              clear hst2 hsrt2 him2 hw4
              obtain ⟨p3, hp⟩ : ∃ p, p = (decide (mid < en) && decide (en < b)) := ⟨_, rfl⟩
              have HP3 := Lib.hid hp
              clear hp
              go_upto_region 43 with fail
              go_cut [213] from 206 to 213 (fun x wc => x = .bool p3 ∧ w4 = wc)
              case first =>
                rcases Nat.lt_or_ge mid en with c1 | c1
                · rcases Nat.lt_or_ge en b with c2 | c2
                  · have c3 : decide (mid < en) = true := decide_eq_true c1
                    have c4 : decide (en < b) = true := decide_eq_true c2
                    go_wp2_with fail
                    go_meet
                    case rel => exact ⟨congrArg Value.bool (by rw [HP3.out, c3, c4]; rfl), rfl⟩
                  · have c3 : decide (mid < en) = true := decide_eq_true c1
                    have c4 : decide (en < b) = false := decide_eq_false (by omega)
                    have c5 : ¬ en < b := by omega
                    go_wp2_with fail
                    go_meet
                    case rel => exact ⟨congrArg Value.bool (by rw [HP3.out, c3, c4]; rfl), rfl⟩
                · have c3 : decide (mid < en) = false := decide_eq_false (by omega)
                  have c5 : ¬ mid < en := by omega
                  go_wp2_with fail
                  go_meet
                  case rel => exact ⟨congrArg Value.bool (by rw [HP3.out, c3]; rfl), rfl⟩
              case rest =>
                obtain ⟨rfl, rfl⟩ := hcut
                have HHI2 : Hid (Halves B s2 mid en b) := by
                  have hM := HM.out
                  have h5 := HCUT.out.high
                  rw [hM.1] at h5
                  exact h5.congr (fun k k1 k2 => HIM2.out.out k (Or.inr k1)) (by omega) (by omega)
                cases p3 with
                | true =>
                  have hc1 : mid < en ∧ en < b := by simpa using HP3.out.symm
                  have hM := HM.out
                  have HR3 := Lib.hid (HR.out mid en b s2 w4 (by omega) hc1.1 hc1.2 (by omega) HHI2.out HST4.out)
                  clear hc1 hM
                  go_wp2_with fail
                  refine HR3.out.mono ?_
                  rintro e w5 ⟨rfl, s3, hst5, hsrt5, him5⟩
                  have HST5 := Lib.hid hst5
                  have HD := Lib.hid (HCUT.out.done HB.out (s2 := s2) (s3 := s3) (HM.out.1.symm ▸ HIM2.out) (HM.out.1.symm ▸ HSRT2.out) (HM.out.1.symm ▸ him5) (HM.out.1.symm ▸ hsrt5))
                  clear hst5 hsrt5 him5
                  go_wp2_with fail
                  go_end0
                  exact ⟨rfl, _, HST5.out, HD.out.1, HD.out.2⟩
                | false =>
                  have HE : Hid (Srt B s2 mid b) := by
                    have hM := HM.out
                    have hc1 := HP3.out
                    have h5 := HHI2.out
                    by_cases hc2 : mid < en
                    · have hc3 : ¬ en < b := fun hc3 => by rw [decide_eq_true hc2, decide_eq_true hc3] at hc1; cases hc1
                      have he : b = en := by omega
                      show Srt _ _ _ _
                      rw [he]; exact h5.l
                    · have he : en = mid := by omega
                      have h6 := h5.r
                      rw [he] at h6
                      exact h6
                  have HD := Lib.hid (HCUT.out.done HB.out (s2 := s2) (s3 := s2) (HM.out.1.symm ▸ HIM2.out) (HM.out.1.symm ▸ HSRT2.out) (Im.refl _ _ _) (HM.out.1.symm ▸ HE.out))
                  go_wp2_with fail
                  go_end0
                  exact ⟨rfl, _, HST4.out, HD.out.1, HD.out.2⟩

set_option maxHeartbeats 3200000 in
theorem sym_lo {v : Nat → Int} {B : Nat → Nat → Bool} {g n cap F : Nat} {caps : Array Value} {cf : Nat → Nat → Int} {w0 w : World} {s : Nat → Nat} (hB : Sto B) (hc : Cm v B n g w0 F caps cf) (h : St v g n cap w0 w s) (hn : n ≤ 1000000) (a m b : Nat) (ham : a + 1 < m) (hmb : m + 1 < b) (hbn : b ≤ n) (hh : Halves B s a m b)
    (hr : Smaller v B g n cap F caps w0 (b - a)) (hside : m ≤ (a + b) / 2) :
    Calls Try.prog 80 #[.slice (some ⟨g, 0, none⟩) n cap, .int .i64 (a : Int), .int .i64 (m : Int), .int .i64 (b : Int), .func (.func F) #[] caps] w fun e w' => e = .returned (.tuple #[]) ∧ Mgd v B g n cap w0 s a b w' := by
  obtain ⟨d, hd⟩ : ∃ d, d = m - a := ⟨_, rfl⟩
  obtain ⟨d', hd'⟩ : ∃ d', d' = b - m := ⟨_, rfl⟩
  obtain ⟨q0, hq0⟩ : ∃ q, q = a + b := ⟨_, rfl⟩
  obtain ⟨mid, hmid⟩ : ∃ x, x = q0 / 2 := ⟨_, rfl⟩
  obtain ⟨nn, hnn⟩ : ∃ x, x = mid + m := ⟨_, rfl⟩
  obtain ⟨pp, hpp⟩ : ∃ x, x = nn - 1 := ⟨_, rfl⟩
  have HS := Lib.hid h
  have HB := Lib.hid hB
  have HH := Lib.hid hh
  have HR := Lib.hid hr
  have eg := hc.eg
  have HC := Lib.hid hc
  have HX := Lib.hid (show a + 1 < m ∧ m + 1 < b ∧ b ≤ n ∧ n ≤ 1000000 ∧ mid = (a + b) / 2 ∧ nn = mid + m ∧ pp = nn - 1 ∧ a = (if mid < m then mid + m - b else a) ∧ m = (if mid < m then mid else m) ∧ a ≤ m ∧ m ≤ mid ∧ m ≤ m ∧ a ≤ a by
    refine ⟨ham, hmb, hbn, hn, by omega, hnn, hpp, ?_, ?_, by omega, by omega, by omega, by omega⟩
    · split <;> omega
    · split <;> omega)
  have e1 : IntKind.i64.wrap ((m : Int) - (a : Int)) = (d : Int) := by rw [wrap_id (by omega)]; omega
  have d1 : ((d : Int) == 1) = false := by simp; omega
  have d2 : ¬ d = 1 := by omega
  have e2 : IntKind.i64.wrap ((b : Int) - (m : Int)) = (d' : Int) := by rw [wrap_id (by omega)]; omega
  have d3 : ((d' : Int) == 1) = false := by simp; omega
  have d4 : ¬ d' = 1 := by omega
  have e3 : IntKind.i64.wrap ((a : Int) + (b : Int)) = (q0 : Int) := by rw [wrap_id (by omega)]; omega
  have e4 : IntKind.u64.wrap (q0 : Int) = (q0 : Int) := by rw [IntKind.wrap_u64]; omega
  have e5 : (q0 : Int) / 2 = (mid : Int) := by omega
  have e6 : IntKind.i64.wrap (mid : Int) = (mid : Int) := wrap_id (by omega)
  have e7 : IntKind.i64.wrap ((mid : Int) + (m : Int)) = (nn : Int) := by rw [wrap_id (by omega)]; omega
  have s1 : ¬ mid < m := by omega
  have e9 : IntKind.i64.wrap ((nn : Int) - 1) = (pp : Int) := by rw [wrap_id (by omega)]; omega
  clear h hB hc hh hr hn ham hmb hbn hside hd hd' hq0 hmid hnn hpp
  go_enter Try.func80, Try.ntmps80
  go_wp2_with fail
  go_loopw [20, 21, 23] (fun x y _ wr => ∃ i j : Nat, x = .int .i64 (i : Int) ∧ y = .int .i64 (j : Int) ∧ a ≤ i ∧ i ≤ j ∧ j ≤ m ∧ (a < i → B (s (pp - (i - 1))) (s (i - 1)) = false) ∧ (j < m → B (s (pp - j)) (s j) = true) ∧ St v g n cap w0 wr s) (fun x y _ _ => (RowKit.intOf y).toNat - (RowKit.intOf x).toNat)
  case atStart => exact ⟨a, m, rfl, rfl, Nat.le_refl _, HX.out.2.2.2.2.2.2.2.2.2.1, Nat.le_refl _, fun h => by omega, fun h => by omega, HS.out⟩
  case round =>
    obtain ⟨i, j, rfl, rfl, h1, h2, h3, hlo, hhi, hst⟩ := hrel
    have HLO := Lib.hid hlo
    have HHI := Lib.hid hhi
    have HST := Lib.hid hst
    obtain ⟨x1, x2, x3, x4, x5, x6, x7, x8, x9, x10, x11, x12, x13⟩ := HX.out
    clear hst hlo hhi e1 e2 e3 e4 e5 e6 e7 s1 e9 d1 d2 d3 d4
    rcases Nat.lt_or_ge i j with hlt | hge
    · obtain ⟨q, hq⟩ : ∃ x, x = i + j := ⟨_, rfl⟩
      obtain ⟨h, hh⟩ : ∃ x, x = q / 2 := ⟨_, rfl⟩
      obtain ⟨r, hr⟩ : ∃ x, x = pp - h := ⟨_, rfl⟩
      have e1 : IntKind.i64.wrap ((i : Int) + (j : Int)) = (q : Int) := by rw [wrap_id (by omega)]; omega
      have e2 : IntKind.u64.wrap (q : Int) = (q : Int) := by rw [IntKind.wrap_u64]; omega
      have e3 : (q : Int) / 2 = (h : Int) := by omega
      have e4 : IntKind.i64.wrap (h : Int) = (h : Int) := wrap_id (by omega)
      have e5 : IntKind.i64.wrap ((h : Int) + 1) = ((h + 1 : Nat) : Int) := wrap_id (by omega)
      have e6 : IntKind.i64.wrap ((pp : Int) - (h : Int)) = (r : Int) := by rw [wrap_id (by omega)]; omega
      have hrb : m ≤ r ∧ r < b := by
        clear HLO HHI e1 e2 e3 e4 e5 e6
        by_cases hc : mid < m
        · rw [if_pos hc] at x8 x9; omega
        · rw [if_neg hc] at x8 x9; omega
      have ht := HH.out.t h r (by omega) (by omega) hrb.1 hrb.2
      have hbd := HST.out.b r (by omega)
      have cr := HST.out.cell (k := r) (by omega)
      have ch := HST.out.cell (k := h) (by omega)
      have HNEG := Lib.hid (HC.out.neg (s r) (s h) ht hbd)
      have HCALL := Lib.hid (fun W => HC.out.call (s r) (s h) W ht hbd)
      have HP := Lib.hid (show i ≤ h ∧ h < j ∧ r < n ∧ h < n ∧ h + 1 ≤ j ∧ r = pp - h by omega)
      have i2 : (h : Int) < (n : Int) := by omega
      have i3 : (0 : Int) ≤ (h : Int) := by omega
      have i4 : (r : Int) < (n : Int) := by omega
      have i5 : (0 : Int) ≤ (r : Int) := by omega
      obtain ⟨x, hx⟩ : ∃ x, x = v (s r) := ⟨_, rfl⟩
      obtain ⟨y, hy⟩ : ∃ y, y = v (s h) := ⟨_, rfl⟩
      obtain ⟨z, hz⟩ : ∃ z, z = cf (s r) (s h) := ⟨_, rfl⟩
      rw [← hx] at cr HCALL
      rw [← hy] at ch HCALL
      rw [← hz] at HCALL HNEG
      have HX1 := Lib.hid (HCALL.out wr.drew HST.out.drew.off)
      have HK := Lib.hid (HST.out.keep HP.out.2.2.1 HP.out.2.2.2.1 hx hy)
      clear hq hh hr hrb ht hbd hx hy hz HCALL x1 x2 x3 x4 x5 x6 x7 x8 x9 x10 x11 x12 x13
      cases hb : B (s r) (s h) with
      | true =>
        rw [hb] at HNEG
        have b1 := HNEG.out
        go_wp2_with fail
        go_region_held3 (fun W' => W'.cell? ⟨g, r, none⟩ = some (.int .i64 x) ∧ W'.cell? ⟨g, h, none⟩ = some (.int .i64 y))
          (first | go_keep | exact HK.out _ hb2) (first | (go_at_fn F; (with_reducible refine HX1.out.mono ?_); rintro e w2 ⟨rfl, hb2⟩))
        have HST3 := Lib.hid (HST.out.drew.on hb2)
        clear cr ch hb2
        go_wp2_with fail
        go_roundw
        case rel =>
          have := HP.out
          exact ⟨i, h, rfl, rfl, h1, by omega, by omega, HLO.out, fun _ => by rw [← HP.out.2.2.2.2.2]; exact hb, HST3.out⟩
        case measure =>
          have := HP.out
          simp [RowKit.intOf]; omega
      | false =>
        rw [hb] at HNEG
        have b1 := HNEG.out
        go_wp2_with fail
        go_region_held3 (fun W' => W'.cell? ⟨g, r, none⟩ = some (.int .i64 x) ∧ W'.cell? ⟨g, h, none⟩ = some (.int .i64 y))
          (first | go_keep | exact HK.out _ hb2) (first | (go_at_fn F; (with_reducible refine HX1.out.mono ?_); rintro e w2 ⟨rfl, hb2⟩))
        have HST3 := Lib.hid (HST.out.drew.on hb2)
        clear cr ch hb2
        go_wp2_with fail
        go_roundw
        case rel =>
          have := HP.out
          exact ⟨h + 1, j, rfl, rfl, by omega, by omega, h3, fun _ => by rw [Nat.add_sub_cancel, ← HP.out.2.2.2.2.2]; exact hb, HHI.out, HST3.out⟩
        case measure =>
          have := HP.out
          simp [RowKit.intOf]; omega
    · obtain rfl : i = j := by omega
      obtain ⟨en, hen⟩ : ∃ x, x = nn - i := ⟨_, rfl⟩
      have e1 : IntKind.i64.wrap ((nn : Int) - (i : Int)) = (en : Int) := by rw [wrap_id (by omega)]; omega
      have HCUT : Hid (Cut B s a m b i en) := by
        have h5 := HH.out.cut HB.out x5 (by omega) (by omega) x8 x9 h1 h3 (by rw [← x6, ← x7]; exact HLO.out) (by rw [← x6, ← x7]; exact HHI.out)
        rw [hen, x6]; exact h5
      have HM := Lib.hid (show i + (en - m) = mid ∧ a < mid ∧ mid < b ∧ i ≤ mid ∧ m ≤ en ∧ en ≤ b ∧ i ≤ m ∧ a ≤ i ∧ mid ≤ en ∧ n ≤ 1000000 ∧ b ≤ n by
        have := HCUT.out.mj; have := HCUT.out.jb; have := HCUT.out.ai; have := HCUT.out.im
        refine ⟨by omega, by omega, by omega, by omega, by omega, by omega, by omega, by omega, by omega, by omega, by omega⟩)
      clear h1 h2 h3 hge hen HLO HHI x1 x2 x3 x4 x5 x6 x7 x8 x9 x10 x11 x12 x13
      obtain ⟨p1, hp⟩ : ∃ p, p = (decide (i < m) && decide (m < en)) := ⟨_, rfl⟩
      have HP1 := Lib.hid hp
      clear hp
      go_upto_region 39 with fail
      go_cut [185] from 178 to 185 (fun x wc => x = .bool p1 ∧ wr = wc)
      case first =>
        rcases Nat.lt_or_ge i m with c1 | c1
        · rcases Nat.lt_or_ge m en with c2 | c2
          · have c3 : decide (i < m) = true := decide_eq_true c1
            have c4 : decide (m < en) = true := decide_eq_true c2
            go_wp2_with fail
            go_meet
            case rel => exact ⟨congrArg Value.bool (by rw [HP1.out, c3, c4]; rfl), rfl⟩
          · have c3 : decide (i < m) = true := decide_eq_true c1
            have c4 : decide (m < en) = false := decide_eq_false (by omega)
            have c5 : ¬ m < en := by omega
            go_wp2_with fail
            go_meet
            case rel => exact ⟨congrArg Value.bool (by rw [HP1.out, c3, c4]; rfl), rfl⟩
        · have c3 : decide (i < m) = false := decide_eq_false (by omega)
          have c5 : ¬ i < m := by omega
          go_wp2_with fail
          go_meet
          case rel => exact ⟨congrArg Value.bool (by rw [HP1.out, c3]; rfl), rfl⟩
      case rest =>
        obtain ⟨rfl, rfl⟩ := hcut
        go_upto_if 185 with fail
        go_cut [] from 186 to 191 (fun wc => St v g n cap w0 wc (rot s i m en))
        case first =>
          cases p1 with
          | true =>
            have hc1 : i < m ∧ m < en := by simpa using HP1.out.symm
            have HR1 := Lib.hid (rotate HST.out HM.out.2.2.2.2.2.2.2.2.2.1 i m en hc1.1 hc1.2 (Nat.le_trans HM.out.2.2.2.2.2.1 HM.out.2.2.2.2.2.2.2.2.2.2) F caps)
            clear hc1
            go_wp2_with fail
            refine HR1.out.mono ?_
            rintro e w2 ⟨rfl, hst2⟩
            have HST2 := Lib.hid hst2
            clear hst2
            go_wp2_with fail
            go_meet
            case rel => exact HST2.out
          | false =>
            have HE : Hid (s = rot s i m en) := by
              have hM := HM.out
              have hc1 := HP1.out
              by_cases hc2 : i < m
              · have hc3 : ¬ m < en := fun hc3 => by rw [decide_eq_true hc2, decide_eq_true hc3] at hc1; cases hc1
                have he : en = m := by omega
                show s = _
                rw [he]; exact (rot_right s (by omega)).symm
              · have he : i = m := by omega
                show s = _
                rw [he]; exact (rot_left s _ (by omega)).symm
            go_wp2_with fail
            go_meet
            case rel => exact HST.out.to HE.out
        case rest =>
          have HST2 := Lib.hid hcut
          obtain ⟨w2, hw2⟩ : ∃ W, W = wc := ⟨_, rfl⟩
          rw [← hw2] at HST2 ⊢
          clear hcut hw2
          obtain ⟨p2, hp⟩ : ∃ p, p = (decide (a < i) && decide (i < mid)) := ⟨_, rfl⟩
          have HP2 := Lib.hid hp
          clear hp
          go_upto_region 41 with fail
          go_cut [199] from 192 to 199 (fun x wc => x = .bool p2 ∧ w2 = wc)
          case first =>
            rcases Nat.lt_or_ge a i with c1 | c1
            · rcases Nat.lt_or_ge i mid with c2 | c2
              · have c3 : decide (a < i) = true := decide_eq_true c1
                have c4 : decide (i < mid) = true := decide_eq_true c2
                go_wp2_with fail
                go_meet
                case rel => exact ⟨congrArg Value.bool (by rw [HP2.out, c3, c4]; rfl), rfl⟩
              · have c3 : decide (a < i) = true := decide_eq_true c1
                have c4 : decide (i < mid) = false := decide_eq_false (by omega)
                have c5 : ¬ i < mid := by omega
                go_wp2_with fail
                go_meet
                case rel => exact ⟨congrArg Value.bool (by rw [HP2.out, c3, c4]; rfl), rfl⟩
            · have c3 : decide (a < i) = false := decide_eq_false (by omega)
              have c5 : ¬ a < i := by omega
              go_wp2_with fail
              go_meet
              case rel => exact ⟨congrArg Value.bool (by rw [HP2.out, c3]; rfl), rfl⟩
          case rest =>
            obtain ⟨rfl, rfl⟩ := hcut
            go_upto_if 199 with fail
            go_cut [] from 200 to 205 (fun wc => Mgd v B g n cap w0 (rot s i m en) a mid wc)
            case first =>
              cases p2 with
              | true =>
                have hc1 : a < i ∧ i < mid := by simpa using HP2.out.symm
                have hM := HM.out
                have hlo2 := HCUT.out.low
                rw [hM.1] at hlo2
                have HR2 := Lib.hid (HR.out a i mid (rot s i m en) w2 (by omega) hc1.1 hc1.2 (by omega) hlo2 HST2.out)
                clear hc1 hM hlo2
                go_wp2_with fail
                refine HR2.out.mono ?_
                rintro e w3 ⟨rfl, hst3⟩
                have HST3 := Lib.hid hst3
                clear hst3
                go_wp2_with fail
                go_meet
                case rel => exact HST3.out
              | false =>
                have HE : Hid (Srt B (rot s i m en) a mid) := by
                  have hM := HM.out
                  have hc1 := HP2.out
                  have hlo2 := HCUT.out.low
                  rw [hM.1] at hlo2
                  by_cases hc2 : a < i
                  · have hc3 : ¬ i < mid := fun hc3 => by rw [decide_eq_true hc2, decide_eq_true hc3] at hc1; cases hc1
                    have he : mid = i := by omega
                    show Srt _ _ _ _
                    rw [he]; exact hlo2.l
                  · have he : i = a := by omega
                    have h5 := hlo2.r
                    rw [he] at h5 ⊢
                    exact h5
                go_wp2_with fail
                go_meet
                case rel => exact ⟨_, HST2.out, HE.out, Im.refl _ _ _⟩
            case rest =>
              obtain ⟨s2, hst2, hsrt2, him2⟩ := hcut
              have HST4 := Lib.hid hst2
              have HSRT2 := Lib.hid hsrt2
              have HIM2 := Lib.hid him2
              obtain ⟨w4, hw4⟩ : ∃ W, W = wc := ⟨_, rfl⟩
              rw [← hw4] at HST4 ⊢
              clear hst2 hsrt2 him2 hw4
              obtain ⟨p3, hp⟩ : ∃ p, p = (decide (mid < en) && decide (en < b)) := ⟨_, rfl⟩
              have HP3 := Lib.hid hp
              clear hp
              go_upto_region 43 with fail
              go_cut [213] from 206 to 213 (fun x wc => x = .bool p3 ∧ w4 = wc)
              case first =>
                rcases Nat.lt_or_ge mid en with c1 | c1
                · rcases Nat.lt_or_ge en b with c2 | c2
                  · have c3 : decide (mid < en) = true := decide_eq_true c1
                    have c4 : decide (en < b) = true := decide_eq_true c2
                    go_wp2_with fail
                    go_meet
                    case rel => exact ⟨congrArg Value.bool (by rw [HP3.out, c3, c4]; rfl), rfl⟩
                  · have c3 : decide (mid < en) = true := decide_eq_true c1
                    have c4 : decide (en < b) = false := decide_eq_false (by omega)
                    have c5 : ¬ en < b := by omega
                    go_wp2_with fail
                    go_meet
                    case rel => exact ⟨congrArg Value.bool (by rw [HP3.out, c3, c4]; rfl), rfl⟩
                · have c3 : decide (mid < en) = false := decide_eq_false (by omega)
                  have c5 : ¬ mid < en := by omega
                  go_wp2_with fail
                  go_meet
                  case rel => exact ⟨congrArg Value.bool (by rw [HP3.out, c3]; rfl), rfl⟩
              case rest =>
                obtain ⟨rfl, rfl⟩ := hcut
                have HHI2 : Hid (Halves B s2 mid en b) := by
                  have hM := HM.out
                  have h5 := HCUT.out.high
                  rw [hM.1] at h5
                  exact h5.congr (fun k k1 k2 => HIM2.out.out k (Or.inr k1)) (by omega) (by omega)
                cases p3 with
                | true =>
                  have hc1 : mid < en ∧ en < b := by simpa using HP3.out.symm
                  have hM := HM.out
                  have HR3 := Lib.hid (HR.out mid en b s2 w4 (by omega) hc1.1 hc1.2 (by omega) HHI2.out HST4.out)
                  clear hc1 hM
                  go_wp2_with fail
                  refine HR3.out.mono ?_
                  rintro e w5 ⟨rfl, s3, hst5, hsrt5, him5⟩
                  have HST5 := Lib.hid hst5
                  have HD := Lib.hid (HCUT.out.done HB.out (s2 := s2) (s3 := s3) (HM.out.1.symm ▸ HIM2.out) (HM.out.1.symm ▸ HSRT2.out) (HM.out.1.symm ▸ him5) (HM.out.1.symm ▸ hsrt5))
                  clear hst5 hsrt5 him5
                  go_wp2_with fail
                  go_end0
                  exact ⟨rfl, _, HST5.out, HD.out.1, HD.out.2⟩
                | false =>
                  have HE : Hid (Srt B s2 mid b) := by
                    have hM := HM.out
                    have hc1 := HP3.out
                    have h5 := HHI2.out
                    by_cases hc2 : mid < en
                    · have hc3 : ¬ en < b := fun hc3 => by rw [decide_eq_true hc2, decide_eq_true hc3] at hc1; cases hc1
                      have he : b = en := by omega
                      show Srt _ _ _ _
                      rw [he]; exact h5.l
                    · have he : en = mid := by omega
                      have h6 := h5.r
                      rw [he] at h6
                      exact h6
                  have HD := Lib.hid (HCUT.out.done HB.out (s2 := s2) (s3 := s2) (HM.out.1.symm ▸ HIM2.out) (HM.out.1.symm ▸ HSRT2.out) (Im.refl _ _ _) (HM.out.1.symm ▸ HE.out))
                  go_wp2_with fail
                  go_end0
                  exact ⟨rfl, _, HST4.out, HD.out.1, HD.out.2⟩
end Go.Proofs.Ytgomokdklajlcaa.Stable
/- A stable sort in memory: the merge of every two parts; the whole; slices.SortStableFunc. -/
namespace Go.Proofs.Ytgomokdklajlcaa.Stable
open Go.ChangeShapes Go.WideShapes Go.RowKit Go.Lib Go.Proofs.Ytgomokdklajlcaa.Mem
set_option linter.unusedVariables false
set_option maxRecDepth 100000

theorem merges {v : Nat → Int} {B : Nat → Nat → Bool} {g n cap F : Nat} {caps : Array Value} {cf : Nat → Nat → Int} {w0 : World} (hB : Sto B) (hc : Cm v B n g w0 F caps cf) (hn : n ≤ 1000000) : ∀ d, Smaller v B g n cap F caps w0 d := by
  intro d
  induction d with
  | zero => intro a m b s w h; omega
  | succ d ih =>
    intro a m b s w hd ham hmb hbn hh hs
    by_cases h1 : m = a + 1
    · subst h1
      exact sym_left hB hc hs hn a b hmb hbn hh
    · by_cases h2 : b = m + 1
      · subst h2
        exact sym_right hB hc hs hn a m (by omega) hbn hh
      · have hr : Smaller v B g n cap F caps w0 (b - a) := fun a' m' b' s' w' hd' => ih a' m' b' s' w' (by omega)
        rcases Nat.lt_or_ge ((a + b) / 2) m with h3 | h3
        · exact sym_hi hB hc hs hn a m b (by omega) (by omega) hbn hh hr h3
        · exact sym_lo hB hc hs hn a m b (by omega) (by omega) hbn hh hr h3

set_option maxHeartbeats 3200000 in
theorem stable {v : Nat → Int} {B : Nat → Nat → Bool} {g n cap F : Nat} {caps : Array Value} {cf : Nat → Nat → Int} {w0 w : World} {s : Nat → Nat} (hB : Sto B) (hc : Cm v B n g w0 F caps cf) (h : St v g n cap w0 w s) (hn : n ≤ 100000) (hid : ∀ k, s k = k) :
    Calls Try.prog 76 #[.slice (some ⟨g, 0, none⟩) n cap, .int .i64 (n : Int), .func (.func F) #[] caps] w fun e w' => e = .returned (.tuple #[]) ∧ ∃ s', St v g n cap w0 w' s' ∧ Srt B s' 0 n ∧ ∀ k, k < n → s' k < n := by
  have HS := Lib.hid h
  have HB := Lib.hid hB
  have HN := Lib.hid hn
  have HID := Lib.hid hid
  have HC := Lib.hid hc
  have HMG := Lib.hid (fun d => merges (cap := cap) hB hc (Nat.le_trans hn (by omega)) d)
  clear h hB hn hid hc
  go_enter Try.func76, Try.ntmps76
  go_wp2_with fail
  go_loopw [7, 8] (fun x y wr => ∃ (t a b : Nat) (c : Nat → Nat), x = .int .i64 (a : Int) ∧ y = .int .i64 (b : Int) ∧ a = t * 20 ∧ b = a + 20 ∧ St v g n cap w0 wr c ∧ Ph1 B c n t) (fun x _ _ => n - (RowKit.intOf x).toNat)
  case atStart => exact ⟨0, 0, 20, s, rfl, rfl, rfl, rfl, HS.out, Ph1.start n HID.out⟩
  case round =>
    obtain ⟨t, a, b, c, rfl, rfl, ha, hb, hst, hph⟩ := hrel
    have HST := Lib.hid hst
    have HPH := Lib.hid hph
    have HA := Lib.hid (show a = t * 20 ∧ b = a + 20 ∧ a ≤ n by have := hph.le; omega)
    have hN := HN.out
    clear hst hph
    rcases Nat.lt_or_ge n b with hlt | hge
    · have b1 : ¬ b ≤ n := by omega
      have b2 : decide (b ≤ n) = false := decide_eq_false (by omega)
      have HINS := Lib.hid (insertion HB.out HC.out HST.out (by omega) a n HA.out.2.2 (Nat.le_refl _) (fun p q h1 h2 h3 => by rw [HPH.out.rest p (by omega), HPH.out.rest q (by omega)]; exact h2))
      clear ha hb hN hlt
      go_wp2_with fail
      refine HINS.out.mono ?_
      rintro e w2 ⟨rfl, s2, hst2, hsrt2, him2⟩
      have HST2 := Lib.hid hst2
      have HBLS : Hid (Bls B s2 20 n) := HPH.out.all (by have := HA.out; omega) (HA.out.1 ▸ hsrt2) (HA.out.1 ▸ him2)
      clear hst2 hsrt2 him2 HINS
      go_wp2_with fail
      go_loopw [6, 7, 8, 9] (fun x _ _ _ wr => ∃ (z : Nat) (c : Nat → Nat), x = .int .i64 (z : Int) ∧ 0 < z ∧ z ≤ 200000 ∧ St v g n cap w0 wr c ∧ Bls B c z n) (fun x _ _ _ _ => n - (RowKit.intOf x).toNat)
      case atStart => exact ⟨20, s2, rfl, by omega, by omega, HST2.out, HBLS.out⟩
      case round =>
        obtain ⟨z, c3, rfl, hz, hz2, hst, hbls⟩ := hrel
        have HST3 := Lib.hid hst
        have HBL3 := Lib.hid hbls
        have hN := HN.out
        clear hst hbls
        rcases Nat.lt_or_ge z n with hlt | hge
        · obtain ⟨y, hy⟩ : ∃ y, y = 2 * z := ⟨_, rfl⟩
          have e1 : IntKind.i64.wrap (2 * (z : Int)) = (y : Int) := by rw [wrap_id (by omega)]; omega
          have e1' : IntKind.i64.wrap ((z : Int) * 2) = (y : Int) := by rw [wrap_id (by omega)]; omega
          have b1 : z < n := hlt
          have HZ := Lib.hid (show 0 < z ∧ z < n ∧ n ≤ 100000 ∧ y = 2 * z by omega)
          have HPS : Hid (Ph2 B c3 z n 0 0) := Ph2.start HBL3.out
          clear hy hz hz2 hN hlt
          go_wp2_with fail
          go_loopw [7, 8] (fun x u wr => ∃ (t a b : Nat) (c : Nat → Nat), x = .int .i64 (a : Int) ∧ u = .int .i64 (b : Int) ∧ b = a + y ∧ St v g n cap w0 wr c ∧ Ph2 B c z n t a) (fun x _ _ => n - (RowKit.intOf x).toNat)
          case atStart => exact ⟨0, 0, y, c3, rfl, rfl, by omega, HST3.out, HPS.out⟩
          case round =>
            obtain ⟨t, a, b, c4, rfl, rfl, hb, hst, hph⟩ := hrel
            have HST4 := Lib.hid hst
            have HPH4 := Lib.hid hph
            have hZ := HZ.out
            have hle := hph.le
            have HB2 := Lib.hid hb
            clear hst hph
            obtain ⟨m, hm⟩ : ∃ m, m = a + z := ⟨_, rfl⟩
            have e2 : IntKind.i64.wrap ((a : Int) + (z : Int)) = (m : Int) := by rw [wrap_id (by omega)]; omega
            rcases Nat.lt_or_ge n b with hlt | hge
            · have b2 : ¬ b ≤ n := by omega
              have HFIN : Hid (n < a + 2 * z) := (by omega : n < a + 2 * z)
              rcases Nat.lt_or_ge m n with hmn | hmn
              · have HHV := Lib.hid (show Halves B c4 a m n from by
                  have q1 := HPH4.out.first
                  have q2 := HPH4.out.second
                  rw [Nat.min_eq_left (by omega)] at q1
                  rw [Nat.min_eq_right (by omega)] at q2
                  rw [hm]; exact q1.halves q2)
                have HM := Lib.hid (HMG.out (n - a + 1) a m n c4 wr (by omega) (by omega) hmn (Nat.le_refl _) HHV.out HST4.out)
                have HMA := Lib.hid (show a + z < n by omega)
                have b3 : m < n := hmn
                clear hm hZ hle hb hlt hmn
                go_wp2_with fail
                refine HM.out.mono ?_
                rintro e w5 ⟨rfl, s5, hst5, hsrt5, him5⟩
                have HST5 := Lib.hid hst5
                have HBLS5 : Hid (Bls B s5 (2 * z) n) := HPH4.out.last HFIN.out HMA.out hsrt5 him5
                clear hst5 hsrt5 him5
                go_wp2_with fail
                go_roundw
                case rel => exact ⟨y, s5, rfl, by have := HZ.out; omega, by have := HZ.out; omega, HST5.out, by rw [HZ.out.2.2.2]; exact HBLS5.out⟩
                case measure =>
                  have := HZ.out
                  simp [RowKit.intOf]; omega
              · have HBLS5 : Hid (Bls B c4 (2 * z) n) := HPH4.out.alone HFIN.out (by omega)
                have b3 : ¬ m < n := by omega
                clear hm hZ hle hb hlt hmn
                go_wp2_with fail
                go_roundw
                case rel => exact ⟨y, c4, rfl, by have := HZ.out; omega, by have := HZ.out; omega, HST4.out, by rw [HZ.out.2.2.2]; exact HBLS5.out⟩
                case measure =>
                  have := HZ.out
                  simp [RowKit.intOf]; omega
            · obtain ⟨b', hb'⟩ : ∃ b', b' = b + y := ⟨_, rfl⟩
              have e3 : IntKind.i64.wrap ((b : Int) + (y : Int)) = (b' : Int) := by rw [wrap_id (by omega)]; omega
              have b2 : b ≤ n := hge
              have HHV := Lib.hid (show Halves B c4 a m b from by
                have q1 := HPH4.out.first
                have q2 := HPH4.out.second
                rw [Nat.min_eq_left (by omega)] at q1 q2
                rw [hm, show b = a + 2 * z by omega]; exact q1.halves q2)
              have HM := Lib.hid (HMG.out (b - a + 1) a m b c4 wr (by omega) (by omega) (by omega) hge HHV.out HST4.out)
              have HLE : Hid (a + 2 * z ≤ n ∧ b = a + 2 * z ∧ b' = b + y) := (by omega : a + 2 * z ≤ n ∧ b = a + 2 * z ∧ b' = b + y)
              clear hm hZ hle hb hge hb'
              go_wp2_with fail
              refine HM.out.mono ?_
              rintro e w5 ⟨rfl, s5, hst5, hsrt5, him5⟩
              have HST5 := Lib.hid hst5
              have HPH5 : Hid (Ph2 B s5 z n (t + 1) b) := by
                have := HPH4.out.next (s' := s5) HLE.out.1 (HLE.out.2.1 ▸ hsrt5) (HLE.out.2.1 ▸ him5)
                rw [HLE.out.2.1]; exact this
              clear hst5 hsrt5 him5
              go_wp2_with fail
              go_roundw
              case rel => exact ⟨t + 1, b, b', s5, rfl, rfl, HLE.out.2.2, HST5.out, HPH5.out⟩
              case measure =>
                have := HZ.out
                have := HLE.out
                simp [RowKit.intOf]; omega
        · have b1 : ¬ z < n := by omega
          have HD := Lib.hid (HBL3.out.all hge)
          clear hz hz2 hN hge
          go_wp2_with fail
          go_end0
          exact ⟨rfl, _, HST3.out, HD.out.1, HD.out.2⟩
    · obtain ⟨b', hb'⟩ : ∃ b', b' = b + 20 := ⟨_, rfl⟩
      have e3 : IntKind.i64.wrap ((b : Int) + 20) = (b' : Int) := by rw [wrap_id (by omega)]; omega
      have b1 : b ≤ n := hge
      have HINS := Lib.hid (insertion HB.out HC.out HST.out (by omega) a b (by omega) hge (fun p q h1 h2 h3 => by rw [HPH.out.rest p (by omega), HPH.out.rest q (by omega)]; exact h2))
      have HLE : Hid (t * 20 + 20 ≤ n ∧ b = t * 20 + 20 ∧ a = t * 20 ∧ b' = b + 20) := (by omega : t * 20 + 20 ≤ n ∧ b = t * 20 + 20 ∧ a = t * 20 ∧ b' = b + 20)
      clear ha hb hN hb' hge
      go_wp2_with fail
      refine HINS.out.mono ?_
      rintro e w2 ⟨rfl, s2, hst2, hsrt2, him2⟩
      have HST2 := Lib.hid hst2
      have HPH2 : Hid (Ph1 B s2 n (t + 1)) := HPH.out.next HLE.out.1 (by rw [← HLE.out.2.1, ← HLE.out.2.2.1]; exact hsrt2) (by rw [← HLE.out.2.1, ← HLE.out.2.2.1]; exact him2)
      clear hst2 hsrt2 him2 HINS
      go_wp2_with fail
      go_roundw
      case rel => exact ⟨t + 1, b, b', s2, rfl, rfl, by have := HLE.out; omega, HLE.out.2.2.2, HST2.out, HPH2.out⟩
      case measure =>
        have := HLE.out
        simp [RowKit.intOf]; omega

set_option maxHeartbeats 800000 in
/-- slices.SortStableFunc: a row that holds the values v 0, v 1, ..; afterwards what lies where is told by s', in order. -/
theorem sort_stable {v : Nat → Int} {B : Nat → Nat → Bool} {g n cap F : Nat} {caps : Array Value} {cf : Nat → Nat → Int} {w0 w : World} {s : Nat → Nat} (hB : Sto B) (hc : Cm v B n g w0 F caps cf) (h : St v g n cap w0 w s) (hn : n ≤ 100000) (hid : ∀ k, s k = k) :
    Calls Try.prog 71 #[.slice (some ⟨g, 0, none⟩) n cap, .func (.func F) #[] caps] w fun e w' => e = .returned (.tuple #[]) ∧ ∃ s', St v g n cap w0 w' s' ∧ Srt B s' 0 n ∧ ∀ k, k < n → s' k < n := by
  have HM := Lib.hid (stable hB hc h hn hid)
  clear hB hc h hn hid
  go_enter Try.func71, Try.ntmps71
  go_wp2_with fail
  refine HM.out.mono ?_
  rintro e w2 ⟨rfl, s2, h2, h3, h4⟩
  have H2 := Lib.hid h2
  have H3 := Lib.hid h3
  have H4 := Lib.hid h4
  clear h2 h3 h4
  go_wp2_with fail
  go_end0
  exact ⟨rfl, s2, H2.out, H3.out, H4.out⟩
end Go.Proofs.Ytgomokdklajlcaa.Stable
/- The comparison of remainders; share.largestFirst. -/
namespace Go.Proofs.Ytgomokdklajlcaa.Share
open Go.ChangeShapes Go.WideShapes Go.RowKit Go.Lib Go.Proofs.Ytgomokdklajlcaa.Mem Go.Proofs.Ytgomokdklajlcaa.Stable
set_option linter.unusedVariables false
set_option maxRecDepth 100000

theorem own_more {α : Type} {enc : α → Value} {t : TypeId} {B B' g n cap : Nat} {w : World} {L : List α} (h : Own enc t B w (.slice (some ⟨g, 0, none⟩) n cap) L) (hB : B' ≤ g) : Own enc t B' w (.slice (some ⟨g, 0, none⟩) n cap) L := by
  obtain ⟨h1, ⟨e, h0⟩ | ⟨g', cap', cur, e, h2, h3⟩⟩ := h
  · cases e
  · cases e
    exact ⟨h1, Or.inr ⟨g, cap, cur, rfl, hB, h3⟩⟩
/-- The remainder at k against that at i. -/
def cfR (r : Nat → Nat) (i k : Nat) : Int := Lib.compareInt (r k : Int) (r i : Int)
theorem cfR_neg (r : Nat → Nat) {i k : Nat} (h : k < i) : decide (cfR r i k < 0) = bt r i k := by
  unfold cfR Lib.compareInt
  rw [Bool.eq_iff_iff, bt_iff, decide_eq_true_iff]
  by_cases h1 : (r k : Int) < (r i : Int)
  · rw [if_pos h1]; simp; omega
  · rw [if_neg h1]
    split
    · simp; omega
    · simp; omega
theorem bt_sto (r : Nat → Nat) : Sto (bt r) := ⟨bt_irr r, fun i j k h1 h2 => bt_trans h1 h2, fun i j h => bt_total h⟩

set_option maxHeartbeats 800000 in
theorem cmp_run (n c gb : Nat) (A : Option Addr) (r : Nat → Nat) (W : World) (c1 : W.cell? ⟨gb, 0, none⟩ = some (.slice A n c)) (c2 : Cl eI W A (lst (fun i => (r i : Int)) n)) (x y : Nat) (hx : x < n) (hy : y < n) :
    Calls Try.prog 72 #[.int .i64 (x : Int), .int .i64 (y : Int), .pointer (some ⟨gb, 0, none⟩)] W fun e w' => e = .returned (.int .i64 (cfR r x y)) ∧ Below W.heap.size W w' := by
  obtain ⟨b, off, rfl, hb, k1⟩ := c2 x _ (lst_at _ hx)
  obtain ⟨b', off', e, hb', k2⟩ := c2 y _ (lst_at _ hy)
  cases e
  obtain ⟨p, hp⟩ : ∃ p : Int, p = (r x : Int) := ⟨_, rfl⟩
  obtain ⟨q, hq⟩ : ∃ q : Int, q = (r y : Int) := ⟨_, rfl⟩
  have HRES : Hid (cfR r x y = Lib.compareInt q p) := (by rw [hp, hq]; rfl : cfR r x y = Lib.compareInt q p)
  have f1 : W.cell? ⟨b, off + x, none⟩ = some (.int .i64 p) := by rw [k1, hp]
  have f2 : W.cell? ⟨b, off + y, none⟩ = some (.int .i64 q) := by rw [k2, hq]
  have i1 : (x : Int) < (n : Int) := by omega
  have i2 : (0 : Int) ≤ (x : Int) := by omega
  have i3 : (y : Int) < (n : Int) := by omega
  have i4 : (0 : Int) ≤ (y : Int) := by omega
  have hcon := fun W => Try.cmp_Compare_int q p W
  obtain ⟨z, hz⟩ : ∃ z, z = Lib.compareInt q p := ⟨_, rfl⟩
  rw [← hz] at hcon HRES
  have HCON := Lib.hid hcon
  clear hcon hz hp hq c2 k1 k2 hb'
  go_enter Try.func72, Try.ntmps72
  go_wp2_with fail
  go_quiet ((go_at_call 73; refine Calls.quiet_of_same (HCON.out _)))
  go_wp2_with fail
  go_ret
  exact ⟨ret_int HRES.out.symm, below_drewN (Below.refl _ _) _⟩

theorem cl_keep {w W : World} {A : Option Addr} {L : List Int} (h : Cl eI w A L) (hs : w.heap.size ≤ W.heap.size) (hk : ∀ b, b < w.heap.size → W.heap[b]? = w.heap[b]?) : Cl eI W A L := by
  intro k z hz
  obtain ⟨b, off, e, hlt, h0⟩ := h k z hz
  exact ⟨b, off, e, Nat.lt_of_lt_of_le hlt hs, (World.cell?_of_block (a := ⟨b, off + k, none⟩) (hk b hlt)).trans h0⟩
theorem cm_run (r : Nat → Nat) (n c gb g : Nat) (A : Option Addr) (w w0 : World) (hR : Cl eI w A (lst (fun i => (r i : Int)) n)) (hb : Below w.heap.size w w0) (hc : w0.cell? ⟨gb, 0, none⟩ = some (.slice A n c)) (hgb : gb < w0.heap.size) (hne : gb ≠ g) (hg : w.heap.size ≤ g) :
    Cm (fun k => (k : Int)) (bt r) n g w0 72 #[.pointer (some ⟨gb, 0, none⟩)] (cfR r) := by
  refine ⟨enters_of Try.func72 (by kernel_rfl) rfl, fun i j hij _ => cfR_neg r hij, fun i j W hij hi ho => ?_⟩
  have c1 : W.cell? ⟨gb, 0, none⟩ = some (.slice A n c) := (World.cell?_of_block (a := ⟨gb, 0, none⟩) (ho.block gb hgb hne)).trans hc
  have c2 : Cl eI W A (lst (fun i => (r i : Int)) n) := cl_keep hR (Nat.le_trans hb.size ho.size) fun b hlt => (ho.block b (Nat.lt_of_lt_of_le hlt hb.size) (by omega)).trans (hb.block b hlt)
  exact cmp_run n c gb A r W c1 c2 i j hi (by omega)

/-- What largestFirst returns: at place k the index of rank k. -/
def LaR (r : Nat → Nat) (n : Nat) (w : World) : Ending → World → Prop := fun e w' => ∃ (g : Nat) (s : Nat → Nat), e = .returned (.slice (some ⟨g, 0, none⟩) n n) ∧ w.heap.size ≤ g ∧ Own eI 3 w.heap.size w' (.slice (some ⟨g, 0, none⟩) n n) (lst (fun k => (s k : Int)) n) ∧ (∀ k, k < n → s k < n ∧ rank r n (s k) = k) ∧ Below w.heap.size w w'

set_option maxHeartbeats 1600000 in
theorem largest_first (r : Nat → Nat) (n c : Nat) (A : Option Addr) (w : World) (hn : n ≤ 512) (hR : Cl eI w A (lst (fun i => (r i : Int)) n)) :
    Calls Try.prog 55 #[.slice A n c] w (LaR r n w) := by
  have HR := Lib.hid hR
  have HN := Lib.hid hn
  have hmk := fun W => make_ints n (by omega) W
  clear hR
  go_enter Try.func55, Try.ntmps55
  go_upto_region 2 with fail
  obtain ⟨w1, hw1⟩ : ∃ W, w.alloc (.cells #[.slice A n c] 27) = W := ⟨_, rfl⟩
  have HB1 : Hid (Below w.heap.size w w1) := hw1 ▸ below_alloc _ _
  have hs1 : w1.heap.size = w.heap.size + 1 := by rw [← hw1]; simp
  have HC1 : Hid (w1.cell? ⟨w.heap.size, 0, none⟩ = some (.slice A n c)) := hw1 ▸ (by simp : (w.alloc (.cells #[.slice A n c] 27)).cell? ⟨w.heap.size, 0, none⟩ = some (.slice A n c))
  obtain ⟨w2, hw2⟩ : ∃ W, w1.alloc (.cells (madeCells #[.int .i64 0] n) 3) = W := ⟨_, rfl⟩
  have HOW2 : Hid (Own eI 3 w.heap.size w2 (.slice (some ⟨w.heap.size + 1, 0, none⟩) n n) (lst (fun _ => 0) n)) := by
    have h1 := (own_made eI 3 w1 n 0 (by omega)).less (B' := w.heap.size) (by omega)
    rw [hs1, hw2] at h1
    have e : List.replicate n (0 : Int) = lst (fun _ => 0) n := by unfold lst; rw [List.map_const', List.length_range]
    rw [e] at h1; exact h1
  have HBA := Lib.hid (hw2 ▸ below_alloc w1 (.cells (madeCells #[.int .i64 0] n) 3) : Below w1.heap.size w1 w2)
  have HB2 : Hid (Below w.heap.size w w2) := bstep HB1.out HBA.out
  have HC2 : Hid (w2.cell? ⟨w.heap.size, 0, none⟩ = some (.slice A n c)) := (HBA.out.cell (p := ⟨w.heap.size, 0, none⟩) (by show w.heap.size < _; omega)).trans HC1.out
  have HS2 : Hid (w.heap.size + 1 < w2.heap.size) := (HOW2.out.lt _ rfl).2
  have HCL2 : Hid (Cl eI w2 A (lst (fun i => (r i : Int)) n)) := HR.out.on HB2.out
  obtain ⟨g, hg⟩ : ∃ g, g = w.heap.size + 1 := ⟨_, rfl⟩
  obtain ⟨gb, hgb⟩ : ∃ g, g = w.heap.size := ⟨_, rfl⟩
  rw [hw1, hw2]
  rw [← hg] at HOW2 HS2 ⊢
  rw [← hgb]
  have HG := Lib.hid (show g = w.heap.size + 1 ∧ gb = w.heap.size from ⟨hg, hgb⟩)
  have HC3 : Hid (w2.cell? ⟨gb, 0, none⟩ = some (.slice A n c)) := hgb ▸ HC2.out
  clear hw1 hw2 hg hgb hs1 hmk HC1 HC2 HB1 HBA hn
  go_wp2_with fail
  go_loopw [4, 10] (fun _ x wr => ∃ k : Nat, x = .int .i64 (k : Int) ∧ k ≤ n ∧ Own eI 3 w.heap.size wr (.slice (some ⟨g, 0, none⟩) n n) (lst (fun j => if j < k then (j : Int) else 0) n) ∧ Below g w2 wr) (fun _ x _ => n - (RowKit.intOf x).toNat)
  case atStart => exact ⟨0, rfl, Nat.zero_le _, by simpa using HOW2.out, Below.refl _ _⟩
  case round =>
    obtain ⟨k, rfl, hk, hown, hbel⟩ := hrel
    have HO := Lib.hid hown
    have HB := Lib.hid hbel
    clear hown hbel
    have hN := HN.out
    rcases Nat.lt_or_ge k n with hlt | hge
    · have fk := HO.out.warm (lst_len _ n).symm k
      have ck := HO.out.cell (lst_at _ hlt)
      rw [if_neg (Nat.lt_irrefl k)] at ck
      have i1 : (k : Int) < (n : Int) := by omega
      have i2 : (0 : Int) ≤ (k : Int) := by omega
      have hk1 : IntKind.i64.wrap ((k : Int) + 1) = ((k + 1 : Nat) : Int) := wrap_id (by omega)
      have HE : Hid (Own eI 3 w.heap.size (wr.setCell ⟨g, k, none⟩ (.int .i64 (k : Int))) (.slice (some ⟨g, 0, none⟩) n n) (lst (fun j => if j < k + 1 then (j : Int) else 0) n)) := by
        have h1 := HO.out.set (lst_len _ n).symm k (k : Int)
        rw [lst_set (g := fun j => if j < k + 1 then (j : Int) else 0) hlt (fun i hi => by
          by_cases h : i = k
          · subst h; simp
          · rw [if_neg h]
            by_cases h2 : i < k
            · rw [if_pos (by omega), if_pos h2]
            · rw [if_neg (by omega), if_neg h2])] at h1
        exact h1
      have HBE : Hid (Below g w2 (wr.setCell ⟨g, k, none⟩ (.int .i64 (k : Int)))) := below_set HB.out (p := ⟨g, k, none⟩) (Nat.le_refl _) _
      clear hN hlt
      go_wp2_with fail
      go_roundw
      case rel => exact ⟨k + 1, rfl, by omega, HE.out, HBE.out⟩
      case measure => simp [RowKit.intOf]; omega
    · obtain rfl : n = k := by omega
      have HBW : Hid (Below w.heap.size w wr) := HB2.out.trans (HB.out.mono (by have := HG.out; omega))
      have HC4 : Hid (wr.cell? ⟨gb, 0, none⟩ = some (.slice A n c)) := (HB.out.cell (p := ⟨gb, 0, none⟩) (by show gb < g; have := HG.out; omega)).trans HC3.out
      have HO2 : Hid (Own eI 3 w.heap.size wr (.slice (some ⟨g, 0, none⟩) n n) (lst (fun j => (j : Int)) n)) := by
        have := HO.out
        rw [lst_congr (g := fun j => (j : Int)) fun i hi => if_pos hi] at this
        exact this
      have HST : Hid (St (fun k => (k : Int)) g n n wr wr (fun k => k)) := ⟨HO2.out.less (Nat.zero_le _), Off.refl _ _, fun k hk => hk⟩
      have HSZ : Hid (g < wr.heap.size) := (HO.out.lt g rfl).2
      have HCM := Lib.hid (cm_run r n c gb g A w wr HR.out HBW.out HC4.out (by have := HG.out; have := HSZ.out; omega) (by have := HG.out; omega) (by have := HG.out; omega))
      have HSRT := Lib.hid (sort_stable (bt_sto r) HCM.out HST.out (by omega) (fun k => rfl))
      clear hN hk hge
      go_wp2_with fail
      refine HSRT.out.mono ?_
      rintro e w3 ⟨rfl, s, hst, hsrt, hbd⟩
      have HD : Hid (Own eI 3 w.heap.size w3 (.slice (some ⟨g, 0, none⟩) n n) (lst (fun k => (s k : Int)) n)) := own_more hst.own (by have := HG.out; omega)
      have HRK : Hid (∀ k, k < n → s k < n ∧ rank r n (s k) = k) := fun k hk => ⟨hbd k hk, rank_sorted hbd (fun j k h1 h2 => hsrt j k (Nat.zero_le _) h1 h2) k hk⟩
      have HBZ : Hid (Below w.heap.size w w3) := HBW.out.trans (Off.below hst.off HBW.out.size fun x hx => by have := HG.out; omega)
      clear hst hsrt hbd
      go_wp2_with fail
      go_ret
      exact ⟨g, s, rfl, by have := HG.out; omega, HD.out, HRK.out, HBZ.out⟩
end Go.Proofs.Ytgomokdklajlcaa.Share
/- share.Split. -/
namespace Go.Proofs.Ytgomokdklajlcaa.Share
open Go.ChangeShapes Go.WideShapes Go.RowKit Go.Lib Go.Proofs.Ytgomokdklajlcaa.Mem
set_option linter.unusedVariables false
set_option maxRecDepth 100000

/-- A list of the call's own, and an error. -/
def ResL (L : List Int) (E : Nat) (w : World) : Ending → World → Prop := fun e w' => ∃ v, e = .returned (.tuple #[v, .int .i64 (E : Int)]) ∧ Own eI 3 w.heap.size w' v L ∧ Below w.heap.size w w'
def splL (t : Int) (ws : List Int) : List Int := if errS t ws = 0 then partsL t ws else []
def bouL (t : Int) (ws : List Int) : List Int := if errS t ws = 0 then bndsL t ws else []
theorem tup2 {a b : Value} {x y : Int} (h : a = b) (k : x = y) : Ending.returned (.tuple #[a, .int .i64 x]) = .returned (.tuple #[b, .int .i64 y]) := by rw [h, k]

/-! ### What the products are divided by -/
section
variable {t : Int} {ws : List Int}
theorem dvV_ok (h : errS t ws = 0) : ∃ W : Nat, dvV t ws = (W : Int) ∧ 0 < W ∧ W ≤ 1125899906842624 ∧ (∀ i, i < ws.length → wf ws i ≤ W) ∧ (∀ i, i < ws.length → sm (wf ws) (i + 1) ≤ W) ∧
    (∀ i, i < ws.length → t.toNat * wf ws i / W = quo t.toNat (wf ws) ws.length i ∧ t.toNat * wf ws i % W = rst t.toNat (wf ws) ws.length i) ∧ (∀ i, i < ws.length → t.toNat * sm (wf ws) (i + 1) / W = bnd t.toNat (wf ws) ws.length i) := by
  have ok := Ok.of h
  have hT := ok.twI
  have hs := ok.sum
  have hmx : mx = 1125899906842624 := rfl
  unfold dvV
  rw [if_pos h]
  rcases Nat.eq_zero_or_pos (Share.tw (wf ws) ws.length) with hz | hz
  · have ht := ok.zero hz
    have hw : ∀ i, i < ws.length → wf ws i = 0 := fun i hi => by have := ok.w_le hi; omega
    have hm : ∀ i, i < ws.length → sm (wf ws) (i + 1) = 0 := fun i hi => by
      have : sm (wf ws) (i + 1) ≤ Share.tw (wf ws) ws.length := sm_mono (by omega)
      omega
    refine ⟨1, by rw [if_pos (by omega)]; rfl, by omega, by omega, fun i hi => by rw [hw i hi]; omega, fun i hi => by rw [hm i hi]; omega, fun i hi => ?_, fun i hi => ?_⟩
    · unfold quo rst
      rw [hw i hi]; simp
    · unfold bnd
      rw [if_pos hz, hm i hi]; simp
  · refine ⟨Share.tw (wf ws) ws.length, by rw [if_neg (by omega)]; exact hT.symm, hz, by omega, fun i hi => ok.w_le hi, fun i hi => sm_mono (by omega), fun i hi => ⟨rfl, rfl⟩, fun i hi => ?_⟩
    unfold bnd
    rw [if_neg (by omega)]
theorem Ok.gots (h : Ok t ws) {i : Nat} (hi : i < ws.length) : gots (quo t.toNat (wf ws) ws.length) (rst t.toNat (wf ws) ws.length) ws.length (lft t.toNat (wf ws) ws.length) i = part t.toNat (wf ws) ws.length i := by
  rcases Nat.eq_zero_or_pos (Share.tw (wf ws) ws.length) with hz | hz
  · have ht := h.zero hz
    unfold Share.gots part lft quo
    rw [if_pos hz, ht]
    simp
  · exact gots_part hz i
theorem Ok.lft_le (h : Ok t ws) : lft t.toNat (wf ws) ws.length ≤ ws.length := by
  rcases Nat.eq_zero_or_pos (Share.tw (wf ws) ws.length) with hz | hz
  · have ht := h.zero hz
    unfold lft
    rw [ht]; simp
  · exact Nat.le_of_lt (lft_lt hz)
theorem Ok.quo_sum (h : Ok t ws) {k : Nat} (hk : k ≤ ws.length) : sm (quo t.toNat (wf ws) ws.length) k ≤ t.toNat := by
  have h1 : sm (quo t.toNat (wf ws) ws.length) k ≤ sm (quo t.toNat (wf ws) ws.length) ws.length := sm_mono hk
  rcases Nat.eq_zero_or_pos (Share.tw (wf ws) ws.length) with hz | hz
  · have ht := h.zero hz
    have : sm (quo t.toNat (wf ws) ws.length) ws.length = 0 := by
      rw [sm_congr (g := fun _ => 0) fun i _ => by unfold quo; rw [hz]; simp, sm_const]; omega
    omega
  · exact Nat.le_trans h1 (sum_le hz)
end
end Go.Proofs.Ytgomokdklajlcaa.Share
/- Kinds of fibre, recipes, masses: errors and values (pure). -/
namespace Go.Proofs.Ytgomokdklajlcaa.Fibre
open Go.Proofs.Ytgomokdklajlcaa.Share (sumK sumK_succ sumK_zero partsL partsL_len partsL_at wf wf_at sm part quo rst lft rank quo_rst rst_lt part_near)
open Go.Proofs.Ytgomokdklajlcaa.Ident (validB)
set_option linter.unusedVariables false

abbrev MM : Int := 1099511627776
/-! ### Lists -/
def sumZ (l : List Int) : Int := sumK l l.length
def inM (most z : Int) : Bool := decide (0 ≤ z) && decide (z ≤ most)
theorem inM_iff {most z : Int} : inM most z = true ↔ 0 ≤ z ∧ z ≤ most := by unfold inM; simp only [Bool.and_eq_true, decide_eq_true_iff]
/-- The error of a list for a number of kinds. -/
def kiB (l : List Int) (kinds : Int) : Bool := decide (1 ≤ kinds) && (decide (kinds ≤ 8) && decide ((l.length : Int) = kinds))
theorem kiB_iff {l : List Int} {kinds : Int} : kiB l kinds = true ↔ 1 ≤ kinds ∧ kinds ≤ 8 ∧ (l.length : Int) = kinds := by unfold kiB; simp only [Bool.and_eq_true, decide_eq_true_iff]
def lisE (l : List Int) (kinds most : Int) : Int := if kiB l kinds then (if l.all (inM most) then 0 else 1) else 17
theorem lisE_no {l : List Int} {kinds most : Int} (h : kiB l kinds = false) : lisE l kinds most = 17 := by unfold lisE; rw [h]; rfl
theorem lisE_bad {l : List Int} {kinds most : Int} (h : kiB l kinds = true) {k : Nat} {z : Int} (hz : l[k]? = some z) (hb : inM most z = false) : lisE l kinds most = 1 := by
  unfold lisE
  have : ¬ l.all (inM most) = true := fun ha => by
    have := List.all_eq_true.mp ha z (List.mem_of_getElem? hz)
    rw [hb] at this; cases this
  rw [h, if_pos rfl, if_neg this]
theorem lisE_ok {l : List Int} {kinds most : Int} (h : kiB l kinds = true) (ha : ∀ (k : Nat) (z : Int), l[k]? = some z → inM most z = true) : lisE l kinds most = 0 := by
  unfold lisE
  rw [h, if_pos rfl, if_pos (List.all_eq_true.mpr fun z hz => by
    obtain ⟨k, hk⟩ := List.mem_iff_getElem?.mp hz
    exact ha k z hk)]
theorem lisE_of {l : List Int} {kinds most : Int} (h : lisE l kinds most = 0) : 1 ≤ l.length ∧ l.length ≤ 8 ∧ (l.length : Int) = kinds ∧ ∀ z ∈ l, 0 ≤ z ∧ z ≤ most := by
  unfold lisE at h
  cases hk : kiB l kinds with
  | false => rw [hk] at h; cases h
  | true =>
    rw [hk, if_pos rfl] at h
    have h1 := kiB_iff.mp hk
    by_cases h2 : l.all (inM most) = true
    · exact ⟨by omega, by omega, h1.2.2, fun z hz => inM_iff.mp (List.all_eq_true.mp h2 z hz)⟩
    · rw [if_neg h2] at h; cases h
theorem lisE_mk {l : List Int} {kinds most : Int} (h0 : 1 ≤ kinds) (h1 : kinds ≤ 8) (h2 : (l.length : Int) = kinds) (ha : ∀ z ∈ l, 0 ≤ z ∧ z ≤ most) : lisE l kinds most = 0 :=
  lisE_ok (kiB_iff.mpr ⟨h0, h1, h2⟩) fun k z hz => inM_iff.mpr (ha z (List.mem_of_getElem? hz))
theorem lisE_cases (l : List Int) (kinds most : Int) : lisE l kinds most = 0 ∨ lisE l kinds most = 1 ∨ lisE l kinds most = 17 := by
  unfold lisE
  split
  · split
    · exact Or.inl rfl
    · exact Or.inr (Or.inl rfl)
  · exact Or.inr (Or.inr rfl)
/-- Partial sums are bounded. -/
theorem sumK_lim {most : Int} {l : List Int} (h : ∀ z ∈ l, 0 ≤ z ∧ z ≤ most) : ∀ k, k ≤ l.length → 0 ≤ sumK l k ∧ sumK l k ≤ most * k
  | 0, _ => by rw [sumK_zero]; simp
  | k + 1, hk => by
    have ih := sumK_lim h k (by omega)
    obtain ⟨z, hz⟩ : ∃ z, l[k]? = some z := ⟨_, List.getElem?_eq_getElem (by omega)⟩
    have hz2 := h z (List.mem_of_getElem? hz)
    rw [sumK_succ hz, show ((k + 1 : Nat) : Int) = (k : Int) + 1 by omega, Int.mul_add, Int.mul_one]
    omega
theorem sumZ_lim {most : Int} {l : List Int} (h0 : 0 ≤ most) (h : ∀ z ∈ l, 0 ≤ z ∧ z ≤ most) (hl : l.length ≤ 8) : 0 ≤ sumZ l ∧ sumZ l ≤ most * 8 := by
  have := sumK_lim h l.length (Nat.le_refl _)
  refine ⟨this.1, Int.le_trans this.2 (Int.mul_le_mul_of_nonneg_left (by omega) h0)⟩
def recE (r : List Int) (kinds : Int) : Int := if lisE r kinds 1000 = 0 then (if sumZ r = 1000 then 0 else 18) else lisE r kinds 1000
def parE (m : List Int) (kinds : Int) : Int := lisE m kinds MM
theorem recE_of {r : List Int} {kinds : Int} (h : recE r kinds = 0) : lisE r kinds 1000 = 0 ∧ sumZ r = 1000 := by
  unfold recE at h
  by_cases h1 : lisE r kinds 1000 = 0
  · rw [if_pos h1] at h
    by_cases h2 : sumZ r = 1000
    · exact ⟨h1, h2⟩
    · rw [if_neg h2] at h; cases h
  · rw [if_neg h1] at h; exact absurd h h1
def lenI (l : List Int) : Int := l.length
def masE (r : List Int) (mass : Int) : Int := if recE r (lenI r) = 0 then (if inM MM mass then 0 else 1) else recE r (lenI r)
def masL (r : List Int) (mass : Int) : List Int := if masE r mass = 0 then partsL mass r else []
def totE (m : List Int) : Int := parE m (lenI m)
def totV (m : List Int) : Int := if totE m = 0 then sumZ m else 0
theorem masE_of {r : List Int} {mass : Int} (h : masE r mass = 0) : recE r (lenI r) = 0 ∧ 0 ≤ mass ∧ mass ≤ MM := by
  unfold masE at h
  by_cases h1 : recE r (lenI r) = 0
  · rw [if_pos h1] at h
    cases h2 : inM MM mass with
    | true => exact ⟨h1, inM_iff.mp h2⟩
    | false => rw [h2] at h; cases h
  · rw [if_neg h1] at h; exact absurd h h1
/-! ### Add -/
def addZ : List Int → List Int → List Int
  | x :: a, y :: b => (x + y) :: addZ a b
  | _, _ => []
theorem addZ_len : ∀ {a b : List Int}, a.length = b.length → (addZ a b).length = a.length
  | [], [], _ => rfl
  | x :: a, y :: b, h => by
    have := addZ_len (a := a) (b := b) (by simpa using h)
    rw [addZ, List.length_cons, List.length_cons, this]
  | [], y :: b, h => by cases h
  | x :: a, [], h => by cases h
theorem addZ_at : ∀ {a b : List Int} {k : Nat} {x y : Int}, a[k]? = some x → b[k]? = some y → (addZ a b)[k]? = some (x + y)
  | [], _, _, _, _, h, _ => by simp at h
  | _ :: _, [], _, _, _, _, h => by simp at h
  | x :: a, y :: b, 0, _, _, h, k => by
    simp at h k; subst h; subst k; rfl
  | x :: a, y :: b, n + 1, _, _, h, k => by
    rw [List.getElem?_cons_succ] at h k
    rw [addZ, List.getElem?_cons_succ]
    exact addZ_at h k
theorem addZ_comm : ∀ (a b : List Int), addZ a b = addZ b a
  | [], [] => rfl
  | [], y :: b => rfl
  | x :: a, [] => rfl
  | x :: a, y :: b => by rw [addZ, addZ, addZ_comm a b, Int.add_comm]
def addE (a b : List Int) : Int :=
  if a.length = b.length then (if totE a = 0 then (if totE b = 0 then (if (addZ a b).all (fun z => decide (z ≤ MM)) then 0 else 2) else totE b) else totE a) else 17
def addL (a b : List Int) : List Int := if addE a b = 0 then addZ a b else []
theorem addE_of {a b : List Int} (h : addE a b = 0) : a.length = b.length ∧ totE a = 0 ∧ totE b = 0 ∧ ∀ z ∈ addZ a b, z ≤ MM := by
  unfold addE at h
  by_cases h1 : a.length = b.length
  · rw [if_pos h1] at h
    by_cases h2 : totE a = 0
    · rw [if_pos h2] at h
      by_cases h3 : totE b = 0
      · rw [if_pos h3] at h
        by_cases h4 : (addZ a b).all (fun z => decide (z ≤ MM)) = true
        · exact ⟨h1, h2, h3, fun z hz => of_decide_eq_true (List.all_eq_true.mp h4 z hz)⟩
        · rw [if_neg h4] at h; cases h
      · rw [if_neg h3] at h; exact absurd h h3
    · rw [if_neg h2] at h; exact absurd h h2
  · rw [if_neg h1] at h; cases h
/-! ### Kinds -/
abbrev Fb := ByteArray × Int
def elE (f : Fb) : Int := if validB f.1 then (if inM 1000000000 f.2 then 0 else 1) else 5
def firE : List Fb → Int
  | [] => 0
  | f :: l => if elE f = 0 then firE l else elE f
/-- Two kinds have one name: the later one finds an earlier one. -/
def twB : List Fb → Bool
  | [] => false
  | f :: l => l.any (fun g => decide (g.1 = f.1)) || twB l
theorem twB_iff : ∀ {l : List Fb}, twB l = true ↔ ∃ (i k : Nat) (f g : Fb), k < i ∧ l[i]? = some f ∧ l[k]? = some g ∧ f.1 = g.1
  | [] => ⟨fun h => (by cases h), fun ⟨i, k, f, g, _, h, _⟩ => (by simp at h)⟩
  | f :: l => by
    rw [twB, Bool.or_eq_true, twB_iff (l := l), List.any_eq_true]
    constructor
    · rintro (⟨g, hg, h⟩ | ⟨i, k, x, y, hk, hx, hy, h⟩)
      · obtain ⟨j, hj⟩ := List.mem_iff_getElem?.mp hg
        exact ⟨j + 1, 0, g, f, by omega, by rw [List.getElem?_cons_succ]; exact hj, rfl, of_decide_eq_true h⟩
      · exact ⟨i + 1, k + 1, x, y, by omega, by rw [List.getElem?_cons_succ]; exact hx, by rw [List.getElem?_cons_succ]; exact hy, h⟩
    · rintro ⟨i, k, x, y, hk, hx, hy, h⟩
      cases i with
      | zero => omega
      | succ i =>
        rw [List.getElem?_cons_succ] at hx
        cases k with
        | zero =>
          simp at hy; subst hy
          exact Or.inl ⟨x, List.mem_of_getElem? hx, decide_eq_true h⟩
        | succ k =>
          rw [List.getElem?_cons_succ] at hy
          exact Or.inr ⟨i, k, x, y, by omega, hx, hy, h⟩
theorem twB_no {l : List Fb} (h : ∀ (i k : Nat) (f g : Fb), k < i → l[i]? = some f → l[k]? = some g → ¬ f.1 = g.1) : twB l = false := by
  cases ht : twB l with
  | false => rfl
  | true =>
    obtain ⟨i, k, f, g, hk, hf, hg, e⟩ := twB_iff.mp ht
    exact absurd e (h i k f g hk hf hg)
theorem firE_bad : ∀ {l : List Fb} {k : Nat} {f : Fb}, l[k]? = some f → ¬ elE f = 0 → (∀ (j : Nat) (g : Fb), j < k → l[j]? = some g → elE g = 0) → firE l = elE f
  | [], _, _, h, _, _ => by simp at h
  | g :: l, 0, f, h, hb, _ => by simp at h; subst h; rw [firE, if_neg hb]
  | g :: l, k + 1, f, h, hb, ha => by
    rw [List.getElem?_cons_succ] at h
    rw [firE, if_pos (ha 0 g (by omega) rfl)]
    exact firE_bad h hb fun j x hj hx => ha (j + 1) x (by omega) (by rw [List.getElem?_cons_succ]; exact hx)
theorem firE_ok : ∀ {l : List Fb}, (∀ (j : Nat) (g : Fb), l[j]? = some g → elE g = 0) → firE l = 0
  | [], _ => rfl
  | g :: l, h => by
    rw [firE, if_pos (h 0 g rfl)]
    exact firE_ok fun j x hx => h (j + 1) x (by rw [List.getElem?_cons_succ]; exact hx)
theorem firE_of : ∀ {l : List Fb}, firE l = 0 → ∀ f ∈ l, elE f = 0
  | [], _, f, hf => by simp at hf
  | g :: l, h, f, hf => by
    rw [firE] at h
    by_cases hg : elE g = 0
    · rw [if_pos hg] at h
      rcases List.mem_cons.mp hf with rfl | hf
      · exact hg
      · exact firE_of h f hf
    · rw [if_neg hg] at h; exact absurd h hg
def chkE (l : List Fb) : Int := if l.length = 0 then 10 else if 8 < l.length then 8 else if firE l = 0 then (if twB l then 6 else 0) else firE l
theorem chkE_of {l : List Fb} (h : chkE l = 0) : 1 ≤ l.length ∧ l.length ≤ 8 ∧ ∀ f ∈ l, 0 ≤ f.2 ∧ f.2 ≤ 1000000000 := by
  unfold chkE at h
  by_cases h1 : l.length = 0
  · rw [if_pos h1] at h; cases h
  · rw [if_neg h1] at h
    by_cases h2 : 8 < l.length
    · rw [if_pos h2] at h; cases h
    · rw [if_neg h2] at h
      by_cases h3 : firE l = 0
      · refine ⟨by omega, by omega, fun f hf => ?_⟩
        have := firE_of h3 f hf
        unfold elE at this
        split at this
        · split at this
          · rename_i h5; exact inM_iff.mp h5
          · cases this
        · cases this
      · rw [if_neg h3] at h; exact absurd h h3
/-! ### Cost: whatever the product of two numbers is rounded to -/
def cosS (md : Int → Int → Int) : List Fb → List Int → Int
  | f :: l, z :: m => md f.2 z + cosS md l m
  | _, _ => 0
/-- The sum of the first k. -/
def cosK (md : Int → Int → Int) (l : List Fb) (m : List Int) (k : Nat) : Int := cosS md (l.take k) (m.take k)
theorem cosS_snoc (md : Int → Int → Int) (f : Fb) (z : Int) : ∀ {l : List Fb} {m : List Int}, l.length = m.length → cosS md (l ++ [f]) (m ++ [z]) = cosS md l m + md f.2 z
  | [], [], _ => by simp [cosS]
  | g :: l, y :: m, h => by
    have := cosS_snoc md f z (l := l) (m := m) (by simpa using h)
    rw [List.cons_append, List.cons_append, cosS, cosS, this]; omega
  | [], y :: m, h => by cases h
  | g :: l, [], h => by cases h
theorem cosK_succ {md : Int → Int → Int} {l : List Fb} {m : List Int} (hl : l.length = m.length) {k : Nat} {f : Fb} {z : Int} (hf : l[k]? = some f) (hz : m[k]? = some z) : cosK md l m (k + 1) = cosK md l m k + md f.2 z := by
  unfold cosK
  have hk : k < l.length := by rw [List.getElem?_eq_some_iff] at hf; exact hf.1
  rw [List.take_add_one, List.take_add_one, hf, hz]
  exact cosS_snoc md f z (by rw [List.length_take, List.length_take, hl])
theorem cosK_all (md : Int → Int → Int) (l : List Fb) (m : List Int) {k : Nat} (h1 : l.length ≤ k) (h2 : m.length ≤ k) : cosK md l m k = cosS md l m := by
  unfold cosK
  rw [List.take_of_length_le h1, List.take_of_length_le h2]
def cosE (md : Int → Int → Int) (l : List Fb) (m : List Int) : Int :=
  if chkE l = 0 then (if parE m (l.length : Int) = 0 then (if 1000000000000 < cosS md l m then 2 else 0) else parE m (l.length : Int)) else chkE l
def cosV (md : Int → Int → Int) (l : List Fb) (m : List Int) : Int := if cosE md l m = 0 then cosS md l m else 0
/-! ### Near -/
def nea1 (t tol x r : Int) : Bool := decide (1000 * x - r * t ≤ tol * t) && decide (-(tol * t) ≤ 1000 * x - r * t)
def neaB (t tol : Int) : List Int → List Int → Bool
  | x :: m, r :: l => nea1 t tol x r && neaB t tol m l
  | _, _ => true
theorem neaB_bad : ∀ {t tol : Int} {m l : List Int} {k : Nat} {x r : Int}, m[k]? = some x → l[k]? = some r → nea1 t tol x r = false → neaB t tol m l = false
  | _, _, [], _, _, _, _, h, _, _ => by simp at h
  | _, _, _ :: _, [], _, _, _, _, h, _ => by simp at h
  | t, tol, y :: m, s :: l, 0, x, r, h, k, hb => by
    simp at h k; subst h; subst k
    rw [neaB, hb]; rfl
  | t, tol, y :: m, s :: l, n + 1, x, r, h, k, hb => by
    rw [List.getElem?_cons_succ] at h k
    rw [neaB, neaB_bad h k hb, Bool.and_false]
theorem neaB_ok : ∀ {t tol : Int} {m l : List Int}, (∀ (k : Nat) (x r : Int), m[k]? = some x → l[k]? = some r → nea1 t tol x r = true) → neaB t tol m l = true
  | _, _, [], _, _ => by rw [neaB]; intro _ _ _ _ h; cases h
  | _, _, _ :: _, [], _ => by rw [neaB]; intro _ _ _ _ _ h; cases h
  | t, tol, y :: m, s :: l, h => by
    rw [neaB, h 0 y s rfl rfl, Bool.true_and]
    exact neaB_ok fun k x r hx hr => h (k + 1) x r (by rw [List.getElem?_cons_succ]; exact hx) (by rw [List.getElem?_cons_succ]; exact hr)
def neaE (m r : List Int) (tol : Int) : Int :=
  if recE r (lenI r) = 0 then (if parE m (lenI r) = 0 then (if inM 1000 tol then (if sumZ m = 0 then 10 else 0) else 1) else parE m (lenI r)) else recE r (lenI r)
def neaV (m r : List Int) (tol : Int) : Bool := decide (neaE m r tol = 0) && neaB (sumZ m) tol m r
theorem neaE_of {m r : List Int} {tol : Int} (h : neaE m r tol = 0) : recE r (lenI r) = 0 ∧ parE m (lenI r) = 0 ∧ (0 ≤ tol ∧ tol ≤ 1000) ∧ ¬ sumZ m = 0 := by
  unfold neaE at h
  by_cases h1 : recE r (lenI r) = 0
  · rw [if_pos h1] at h
    by_cases h2 : parE m (lenI r) = 0
    · rw [if_pos h2] at h
      cases h3 : inM 1000 tol with
      | false => rw [h3] at h; cases h
      | true =>
        rw [h3, if_pos rfl] at h
        by_cases h4 : sumZ m = 0
        · rw [if_pos h4] at h; cases h
        · exact ⟨h1, h2, inM_iff.mp h3, h4⟩
    · rw [if_neg h2] at h; exact absurd h h2
  · rw [if_neg h1] at h; exact absurd h h1
end Go.Proofs.Ytgomokdklajlcaa.Fibre
/- Contracts of ident.Valid, and of Valid of the reference, with what they call. -/
namespace Go.Proofs.Ytgomokdklajlcaa.Ident
open Go.ChangeShapes Go.WideShapes Go.RowKit
set_option linter.unusedVariables false
set_option maxRecDepth 100000

theorem ret_bool {a b : Bool} (h : a = b) : Ending.returned (.bool a) = .returned (.bool b) := by rw [h]
theorem ret_int {k : IntKind} {a b : Int} (h : a = b) : Ending.returned (.int k a) = .returned (.int k b) := by rw [h]
theorem no_let {n : Int} (h : letN n = false) : ¬ ((65 ≤ n ∧ n ≤ 90) ∨ (97 ≤ n ∧ n ≤ 122)) := fun e => by rw [letN_iff.mpr e] at h; cases h
theorem no_per {n : Int} (h : perN n = false) : ¬ ((65 ≤ n ∧ n ≤ 90) ∨ (97 ≤ n ∧ n ≤ 122) ∨ (48 ≤ n ∧ n ≤ 57) ∨ n = 45 ∨ n = 95 ∨ n = 46) := fun e => by rw [perN_iff.mpr e] at h; cases h
theorem ident_isLetter (n : Int) (w : World) : Calls Try.prog 65 #[.int .u8 n] w fun e w' => e = .returned (.bool (letN n)) ∧ w = w' := by
  go_enter Try.func65, Try.ntmps65
  go_wp2_with fail
  all_goals
    go_ret
    refine ⟨ret_bool ?_, rfl⟩
    rw [Bool.eq_iff_iff, letN_iff]
    simp
    omega
/-- A contract at the value that is known. -/
theorem letter_is {n : Int} {l : Bool} (h : letN n = l) (w : World) : Calls Try.prog 65 #[.int .u8 n] w fun e w' => e = .returned (.bool l) ∧ w = w' := h ▸ ident_isLetter n w
theorem ident_isPermitted (n : Int) (w : World) : Calls Try.prog 66 #[.int .u8 n] w fun e w' => e = .returned (.bool (perN n)) ∧ w = w' := by
  cases hl : letN n with
  | true =>
    have HP := Lib.hid (letN_per hl)
    have HC := letter_is hl w
    clear hl
    go_enter Try.func66, Try.ntmps66
    go_wp2_with fail
    refine HC.mono ?_
    rintro e w' ⟨rfl, rfl⟩
    go_wp2_with fail
    go_ret
    exact ⟨ret_bool HP.out.symm, rfl⟩
  | false =>
    have HP := Lib.hid (no_let hl)
    have HC := letter_is hl w
    clear hl
    go_enter Try.func66, Try.ntmps66
    go_wp2_with fail
    refine HC.mono ?_
    rintro e w' ⟨rfl, rfl⟩
    go_wp2_with fail
    all_goals
      go_ret
      refine ⟨ret_bool ?_, rfl⟩
      have hp := HP.out
      rw [Bool.eq_iff_iff, perN_iff]
      simp
      try omega
theorem permitted_is {n : Int} {l : Bool} (h : perN n = l) (w : World) : Calls Try.prog 66 #[.int .u8 n] w fun e w' => e = .returned (.bool l) ∧ w = w' := h ▸ ident_isPermitted n w

/-! ### Valid -/
set_option maxHeartbeats 800000 in
theorem ident_Valid (s : ByteArray) (w : World) (hm : s.size ≤ 9223372036854775807) : Calls Try.prog 46 #[.string s] w fun e w' => e = .returned (.bool (validB s)) ∧ w = w' := by
  have HL := Lib.hid (str_len s)
  rcases Nat.eq_zero_or_pos s.size with h0 | hp
  · have hz : s.size = 0 := h0
    have HV : Hid (validB s = false) := by
      have e : s.data.toList = [] := List.eq_nil_of_length_eq_zero (by have := HL.out; omega)
      show okB s.data.toList = false
      rw [e]; rfl
    have hi : ((s.size : Nat) : Int) = 0 := by omega
    clear h0
    go_enter Try.func46, Try.ntmps46
    go_wp2_with fail
    go_ret
    exact ⟨ret_bool HV.out.symm, rfl⟩
  · by_cases hl : 32 < s.size
    · have HV := Lib.hid (show validB s = false from okB_long (by have := HL.out; omega))
      have hi : (((s.size : Nat) : Int) == 0) = false := by simpa using (show ¬ ((s.size : Nat) : Int) = 0 by omega)
      have hi2 : (32 : Int) < ((s.size : Nat) : Int) := by omega
      clear hl
      go_enter Try.func46, Try.ntmps46
      go_wp2_with fail
      go_ret
      exact ⟨ret_bool HV.out.symm, rfl⟩
    · have HG := Lib.hid (str_get? s hp)
      have hi : (((s.size : Nat) : Int) == 0) = false := by simpa using (show ¬ ((s.size : Nat) : Int) = 0 by omega)
      have hi2 : decide ((32 : Int) < ((s.size : Nat) : Int)) = false := decide_eq_false (by omega)
      cases hf : letN (byt s[0]) with
      | false =>
        have HV := Lib.hid (show validB s = false from okB_first HG.out hf)
        have HC := letter_is hf w
        unfold byt at HC
        clear hf hl
        go_enter Try.func46, Try.ntmps46
        go_wp2_with fail
        refine HC.mono ?_
        rintro e w' ⟨rfl, rfl⟩
        go_wp2_with fail
        go_ret
        exact ⟨ret_bool HV.out.symm, rfl⟩
      | true =>
        have HF := Lib.hid hf
        have HC := letter_is hf w
        unfold byt at HC
        have HLL := Lib.hid hl
        clear hf hl
        go_enter Try.func46, Try.ntmps46
        go_wp2_with fail
        refine HC.mono ?_
        rintro e w' ⟨rfl, rfl⟩
        go_wp2_with fail
        go_loop [20] (fun i => ∃ k : Nat, k ≤ s.size ∧ i = .int .i64 k ∧ (∀ j b, j < k → s.data.toList[j]? = some b → perB b = true)) (fun i => s.size - (intOf i).toNat)
        case atStart => exact ⟨0, Nat.zero_le _, rfl, fun j b h => absurd h (by omega)⟩
        case round =>
          obtain ⟨k, hk, rfl, hv⟩ := hrel
          have HA := Lib.hid hv
          clear hv
          rcases Nat.lt_or_ge k s.size with hlt | hge
          · have HS := Lib.hid (str_get? s hlt)
            cases hb : perN (byt s[k]) with
            | false =>
              have HV := Lib.hid (show validB s = false from okB_at HS.out hb)
              have HC := permitted_is hb w
              unfold byt at HC
              clear hb
              go_wp2_with fail
              refine HC.mono ?_
              rintro e w' ⟨rfl, rfl⟩
              go_wp2_with fail
              go_ret
              exact ⟨ret_bool HV.out.symm, rfl⟩
            | true =>
              have HB := Lib.hid hb
              have HC := permitted_is hb w
              unfold byt at HC
              clear hb
              go_wp2_with fail
              refine HC.mono ?_
              rintro e w' ⟨rfl, rfl⟩
              go_wp2_with fail
              go_round
              case rel =>
                refine ⟨k + 1, by omega, by go_num, fun j b hj hb => ?_⟩
                rcases Nat.lt_or_eq_of_le (Nat.le_of_lt_succ hj) with h | h
                · exact HA.out j b h hb
                · subst h
                  have e := HS.out
                  rw [hb] at e; cases e; exact HB.out
              case measure => simp [intOf]; omega
          · obtain rfl : k = s.size := by omega
            have HV : Hid (validB s = true) := okB_yes HG.out HF.out (List.all_eq_true.mpr fun b hb => by
              obtain ⟨j, hj⟩ := List.mem_iff_getElem?.mp hb
              exact HA.out j b (by have := HL.out; have := (List.getElem?_eq_some_iff.mp hj).1; omega) hj) (by have := HL.out; have := HLL.out; omega)
            go_wp2_with fail
            go_ret
            exact ⟨ret_bool HV.out.symm, rfl⟩
theorem valid_is {s : ByteArray} {b : Bool} (h : validB s = b) (hm : s.size ≤ 9223372036854775807) (w : World) : Calls Try.prog 46 #[.string s] w fun e w' => e = .returned (.bool b) ∧ w = w' := h ▸ ident_Valid s w hm

end Go.Proofs.Ytgomokdklajlcaa.Ident
/- letter, name of the reference. -/
namespace Go.Proofs.Ytgomokdklajlcaa.Fibre
open Go.ChangeShapes Go.WideShapes Go.RowKit
open Go.Proofs.Ytgomokdklajlcaa.Ident (validB okB okB_long okB_first okB_at okB_yes str_get? str_len letN perN perB byt letN_iff perN_iff letN_per no_let ret_bool)
set_option linter.unusedVariables false
set_option maxRecDepth 100000

theorem rr_letter (n : Int) (w : World) : Calls Try.prog 47 #[.int .u8 n] w fun e w' => e = .returned (.bool (letN n)) ∧ w = w' := by
  go_enter Try.func47, Try.ntmps47
  go_wp2_with fail
  all_goals
    go_ret
    refine ⟨ret_bool ?_, rfl⟩
    rw [Bool.eq_iff_iff, letN_iff]
    simp
    omega
theorem rrl_is {n : Int} {l : Bool} (h : letN n = l) (w : World) : Calls Try.prog 47 #[.int .u8 n] w fun e w' => e = .returned (.bool l) ∧ w = w' := h ▸ rr_letter n w
set_option maxHeartbeats 1600000 in
theorem rr_name (s : ByteArray) (w : World) (hm : s.size ≤ 9223372036854775807) : Calls Try.prog 36 #[.string s] w fun e w' => e = .returned (.bool (validB s)) ∧ w = w' := by
  have HL := Lib.hid (str_len s)
  rcases Nat.eq_zero_or_pos s.size with h0 | hp
  · have hz : s.size = 0 := h0
    have HV : Hid (validB s = false) := by
      have e : s.data.toList = [] := List.eq_nil_of_length_eq_zero (by have := HL.out; omega)
      show okB s.data.toList = false
      rw [e]; rfl
    have hi : ((s.size : Nat) : Int) < 1 := by omega
    clear h0
    go_enter Try.func36, Try.ntmps36
    go_wp2_with fail
    go_ret
    exact ⟨ret_bool HV.out.symm, rfl⟩
  · have hi : decide (((s.size : Nat) : Int) < 1) = false := decide_eq_false (by omega)
    by_cases hl : 32 < s.size
    · have HV := Lib.hid (show validB s = false from okB_long (by have := HL.out; omega))
      have hi2 : (32 : Int) < ((s.size : Nat) : Int) := by omega
      clear hl
      go_enter Try.func36, Try.ntmps36
      go_wp2_with fail
      go_ret
      exact ⟨ret_bool HV.out.symm, rfl⟩
    · have HG := Lib.hid (str_get? s hp)
      have hi2 : decide ((32 : Int) < ((s.size : Nat) : Int)) = false := decide_eq_false (by omega)
      cases hf : letN (byt s[0]) with
      | false =>
        have HV := Lib.hid (show validB s = false from okB_first HG.out hf)
        have HC := rrl_is hf w
        unfold byt at HC
        clear hf hl
        go_enter Try.func36, Try.ntmps36
        go_wp2_with fail
        refine HC.mono ?_
        rintro e w' ⟨rfl, rfl⟩
        go_wp2_with fail
        go_ret
        exact ⟨ret_bool HV.out.symm, rfl⟩
      | true =>
        have HF := Lib.hid hf
        have HC := rrl_is hf w
        unfold byt at HC
        have HLL := Lib.hid hl
        clear hf hl
        go_enter Try.func36, Try.ntmps36
        go_wp2_with fail
        refine HC.mono ?_
        rintro e w' ⟨rfl, rfl⟩
        go_wp2_with fail
        go_loop [3] (fun i => ∃ k : Nat, k ≤ s.size ∧ i = .int .i64 k ∧ (∀ j b, j < k → s.data.toList[j]? = some b → perB b = true)) (fun i => s.size - (intOf i).toNat)
        case atStart => exact ⟨0, Nat.zero_le _, rfl, fun j b h => absurd h (by omega)⟩
        case round =>
          obtain ⟨k, hk, rfl, hv⟩ := hrel
          have HA := Lib.hid hv
          clear hv
          rcases Nat.lt_or_ge k s.size with hlt | hge
          · have HS := Lib.hid (str_get? s hlt)
            have step : perN (byt s[k]) = true → ∀ j b, j < k + 1 → s.data.toList[j]? = some b → perB b = true := fun hp j b hj hb => by
              rcases Nat.lt_or_eq_of_le (Nat.le_of_lt_succ hj) with h | h
              · exact HA.out j b h hb
              · subst h
                have e := HS.out
                rw [hb] at e; cases e; exact hp
            have bad : perN (byt s[k]) = false → validB s = false := fun h => okB_at HS.out h
            have ST := Lib.hid step
            have BAD := Lib.hid bad
            clear step bad
            cases hb : letN (byt s[k]) with
            | true =>
              have HB := Lib.hid (letN_per hb)
              have HC := rrl_is hb w
              unfold byt at HC
              clear hb
              go_wp2_with fail
              refine HC.mono ?_
              rintro e w' ⟨rfl, rfl⟩
              go_wp2_with fail
              go_round
              case rel => exact ⟨k + 1, by omega, by go_num, ST.out HB.out⟩
              case measure => simp [intOf]; omega
            | false =>
              have HB := Lib.hid (no_let hb)
              have HC := rrl_is hb w
              unfold byt at HC
              obtain ⟨n, hn⟩ : ∃ n : Int, n = ((s[k].toNat : Nat) : Int) := ⟨_, rfl⟩
              have HN := Lib.hid hn
              have HK : Hid ((48 ≤ n ∧ n ≤ 57) ∨ n = 45 ∨ n = 95 ∨ n = 46 → perN (byt s[k]) = true) := fun h => by
                have e := HN.out
                rw [perN_iff]; unfold byt; rw [← e]; omega
              have HQ : Hid (¬ ((48 ≤ n ∧ n ≤ 57) ∨ n = 45 ∨ n = 95 ∨ n = 46) → validB s = false) := fun h => BAD.out (by
                cases hp : perN (byt s[k]) with
                | false => rfl
                | true =>
                  have e := HN.out
                  have h1 := perN_iff.mp hp
                  have h2 := HB.out
                  unfold byt at h1 h2
                  rw [← e] at h1 h2
                  omega)
              rw [← hn] at HC
              have hn' := hn.symm
              clear hb hn
              go_wp2_with fail
              refine HC.mono ?_
              rintro e w' ⟨rfl, rfl⟩
              rcases (show n < 45 ∨ n = 45 ∨ n = 46 ∨ n = 47 ∨ (48 ≤ n ∧ n ≤ 57) ∨ (57 < n ∧ n < 95) ∨ n = 95 ∨ 95 < n by omega) with h | h | h | h | h | h | h | h
              · have t0 : decide (48 ≤ n) = false := decide_eq_false (by omega)
                have t1 : decide (n ≤ 57) = true := decide_eq_true (by omega)
                have u0 : (n != 45) = true := by simp; omega
                have u1 : (n != 95) = true := by simp; omega
                have u2 : (n != 46) = true := by simp; omega
                have HE := Lib.hid (HQ.out (by omega))
                clear h HN HB
                go_wp2_with fail
                go_ret
                exact ⟨ret_bool HE.out.symm, rfl⟩
              · have t0 : decide (48 ≤ n) = false := decide_eq_false (by omega)
                have t1 : decide (n ≤ 57) = true := decide_eq_true (by omega)
                have u0 : (n != 45) = false := by simp; omega
                have u1 : (n != 95) = true := by simp; omega
                have u2 : (n != 46) = true := by simp; omega
                have HE := Lib.hid (ST.out (HK.out (by omega)))
                clear h HN HB
                go_wp2_with fail
                go_round
                case rel => exact ⟨k + 1, by omega, by go_num, HE.out⟩
                case measure => simp [intOf]; omega
              · have t0 : decide (48 ≤ n) = false := decide_eq_false (by omega)
                have t1 : decide (n ≤ 57) = true := decide_eq_true (by omega)
                have u0 : (n != 45) = true := by simp; omega
                have u1 : (n != 95) = true := by simp; omega
                have u2 : (n != 46) = false := by simp; omega
                have HE := Lib.hid (ST.out (HK.out (by omega)))
                clear h HN HB
                go_wp2_with fail
                go_round
                case rel => exact ⟨k + 1, by omega, by go_num, HE.out⟩
                case measure => simp [intOf]; omega
              · have t0 : decide (48 ≤ n) = false := decide_eq_false (by omega)
                have t1 : decide (n ≤ 57) = true := decide_eq_true (by omega)
                have u0 : (n != 45) = true := by simp; omega
                have u1 : (n != 95) = true := by simp; omega
                have u2 : (n != 46) = true := by simp; omega
                have HE := Lib.hid (HQ.out (by omega))
                clear h HN HB
                go_wp2_with fail
                go_ret
                exact ⟨ret_bool HE.out.symm, rfl⟩
              · have t0 : decide (48 ≤ n) = true := decide_eq_true (by omega)
                have t1 : decide (n ≤ 57) = true := decide_eq_true (by omega)
                have u0 : (n != 45) = true := by simp; omega
                have u1 : (n != 95) = true := by simp; omega
                have u2 : (n != 46) = true := by simp; omega
                have HE := Lib.hid (ST.out (HK.out (by omega)))
                clear h HN HB
                go_wp2_with fail
                go_round
                case rel => exact ⟨k + 1, by omega, by go_num, HE.out⟩
                case measure => simp [intOf]; omega
              · have t0 : decide (48 ≤ n) = true := decide_eq_true (by omega)
                have t1 : decide (n ≤ 57) = false := decide_eq_false (by omega)
                have u0 : (n != 45) = true := by simp; omega
                have u1 : (n != 95) = true := by simp; omega
                have u2 : (n != 46) = true := by simp; omega
                have HE := Lib.hid (HQ.out (by omega))
                clear h HN HB
                go_wp2_with fail
                go_ret
                exact ⟨ret_bool HE.out.symm, rfl⟩
              · have t0 : decide (48 ≤ n) = true := decide_eq_true (by omega)
                have t1 : decide (n ≤ 57) = false := decide_eq_false (by omega)
                have u0 : (n != 45) = true := by simp; omega
                have u1 : (n != 95) = false := by simp; omega
                have u2 : (n != 46) = true := by simp; omega
                have HE := Lib.hid (ST.out (HK.out (by omega)))
                clear h HN HB
                go_wp2_with fail
                go_round
                case rel => exact ⟨k + 1, by omega, by go_num, HE.out⟩
                case measure => simp [intOf]; omega
              · have t0 : decide (48 ≤ n) = true := decide_eq_true (by omega)
                have t1 : decide (n ≤ 57) = false := decide_eq_false (by omega)
                have u0 : (n != 45) = true := by simp; omega
                have u1 : (n != 95) = true := by simp; omega
                have u2 : (n != 46) = true := by simp; omega
                have HE := Lib.hid (HQ.out (by omega))
                clear h HN HB
                go_wp2_with fail
                go_ret
                exact ⟨ret_bool HE.out.symm, rfl⟩
          · obtain rfl : k = s.size := by omega
            have HV : Hid (validB s = true) := okB_yes HG.out HF.out (List.all_eq_true.mpr fun b hb => by
              obtain ⟨j, hj⟩ := List.mem_iff_getElem?.mp hb
              exact HA.out j b (by have := HL.out; have := (List.getElem?_eq_some_iff.mp hj).1; omega) hj) (by have := HL.out; have := HLL.out; omega)
            go_wp2_with fail
            go_ret
            exact ⟨ret_bool HV.out.symm, rfl⟩
theorem rrn_is {s : ByteArray} {b : Bool} (h : validB s = b) (hm : s.size ≤ 9223372036854775807) (w : World) : Calls Try.prog 36 #[.string s] w fun e w' => e = .returned (.bool b) ∧ w = w' := h ▸ rr_name s w hm
end Go.Proofs.Ytgomokdklajlcaa.Fibre
/- Rows of elements in memory, whatever their cells; what a step leaves as it was. -/
namespace Go.Proofs.Ytgomokdklajlcaa.Rw
open Go.ChangeShapes Go.WideShapes Go.RowKit
set_option linter.unusedVariables false
set_option maxRecDepth 100000

theorem glt {β : Type} {L : List β} {k : Nat} {x : β} (h : L[k]? = some x) : k < L.length := by
  rw [List.getElem?_eq_some_iff] at h; exact h.1
/-- Of what was there all but the blocks in S is as it was. -/
structure Off (S : Nat → Prop) (w w' : World) : Prop where
  os : w'.os = w.os
  tape : w'.tape = w.tape
  output : w'.output = w.output
  size : w.heap.size ≤ w'.heap.size
  block : ∀ k, k < w.heap.size → ¬ S k → w'.heap[k]? = w.heap[k]?
theorem Off.refl (S : Nat → Prop) (w : World) : Off S w w := ⟨rfl, rfl, rfl, Nat.le_refl _, fun _ _ _ => rfl⟩
theorem Off.trans {S S' : Nat → Prop} {a b c : World} (h : Off S a b) (k : Off S' b c) (hs : ∀ x, S' x → S x ∨ a.heap.size ≤ x) : Off S a c :=
  ⟨k.os.trans h.os, k.tape.trans h.tape, k.output.trans h.output, Nat.le_trans h.size k.size, fun i hi hn =>
    (k.block i (Nat.lt_of_lt_of_le hi h.size) fun e => by rcases hs i e with h1 | h1; exact hn h1; omega).trans (h.block i hi hn)⟩
theorem Off.below {S : Nat → Prop} {a b : World} {B : Nat} (h : Off S a b) (hB : B ≤ a.heap.size) (hs : ∀ x, S x → B ≤ x) : Below B a b :=
  ⟨h.os, h.tape, h.output, h.size, fun i hi => h.block i (by omega) fun e => by have := hs i e; omega⟩
theorem Off.of_below {S : Nat → Prop} {a b : World} (h : Below a.heap.size a b) : Off S a b := ⟨h.os, h.tape, h.output, h.size, fun i hi _ => h.block i hi⟩
theorem Off.then_below {S : Nat → Prop} {a b c : World} (h : Off S a b) (k : Below b.heap.size b c) : Off S a c := h.trans (Off.of_below (S := fun _ => False) k) fun x e => e.elim
theorem Off.alloc {S : Nat → Prop} {a b : World} (h : Off S a b) (o : Obj) : Off S a (b.alloc o) := h.then_below ((Below.refl _ _).alloc (Nat.le_refl _) _)
theorem Off.drew {S : Nat → Prop} {a b : World} (h : Off S a b) : Off S a b.drew := ⟨h.os, h.tape, h.output, h.size, h.block⟩
theorem Off.set {S : Nat → Prop} {a b : World} (h : Off S a b) {p : Addr} (hp : S p.block ∨ a.heap.size ≤ p.block) (u : Value) : Off S a (b.setCell p u) :=
  h.trans (S' := fun k => k = p.block) ⟨rfl, rfl, rfl, by simp [World.setCell], fun i hi hn => Below.heap_setCell _ _ _ _ hn⟩ fun x e => e ▸ hp
theorem Off.grown {S : Nat → Prop} {a b c : World} {row : Option Nat} (h : Off S a b) (hg : b.grownBy c row) (hr : ∀ k, row = some k → S k ∨ a.heap.size ≤ k) : Off S a c :=
  h.trans (S' := fun k => row = some k) ⟨hg.os, hg.tape, hg.output, hg.size, fun i hi hn => hg.block i hi fun e => hn e.symm⟩ fun x e => hr x e
theorem Off.before {S : Nat → Prop} {a b c : World} (h : Below a.heap.size a b) (k : Off S b c) : Off S a c :=
  (Off.of_below h).trans k fun x e => Or.inl e
theorem Off.mono {S S' : Nat → Prop} {a b : World} (h : Off S a b) (hs : ∀ x, S x → S' x ∨ a.heap.size ≤ x) : Off S' a b :=
  ⟨h.os, h.tape, h.output, h.size, fun i hi hn => h.block i hi fun e => by rcases hs i e with h1 | h1; exact hn h1; omega⟩
theorem below_alloc (w : World) (o : Obj) : Below w.heap.size w (w.alloc o) := (Below.refl _ _).alloc (Nat.le_refl _) _
theorem bstep {a b c : World} (h : Below a.heap.size a b) (k : Below b.heap.size b c) : Below a.heap.size a c := h.trans (k.mono h.size)
theorem below_drewN {B : Nat} {a w : World} (h : Below B a w) (n : Nat) : Below B a (w.drewN n) := ⟨h.os, h.tape, h.output, h.size, h.block⟩
theorem below_drew {B : Nat} {a w : World} (h : Below B a w) : Below B a w.drew := ⟨h.os, h.tape, h.output, h.size, h.block⟩
theorem drew_below (w : World) : Below w.heap.size w w.drew := below_drew (Below.refl _ _)
theorem ret_bool {a b : Bool} (h : a = b) : Ending.returned (.bool a) = .returned (.bool b) := by rw [h]
theorem ret_int {k : IntKind} {a b : Int} (h : a = b) : Ending.returned (.int k a) = .returned (.int k b) := by rw [h]
theorem get_lt {α : Type} {L : List α} {k : Nat} (h : k < L.length) : ∃ s, L[k]? = some s := ⟨_, List.getElem?_eq_getElem h⟩
theorem take_snoc_of {α : Type} {l : List α} {k : Nat} {z : α} (h : l[k]? = some z) : l.take (k + 1) = l.take k ++ [z] := by
  rw [List.take_add_one, h]; rfl
theorem wrap_id {x : Int} (h : -9223372036854775808 ≤ x ∧ x ≤ 9223372036854775807) : IntKind.i64.wrap x = x := by rw [IntKind.wrap_i64]; omega
theorem frozen_of {W : World} {g : Nat} {cs : Array Value} {t : TypeId} (h : W.heap[g]? = some (.cells cs t (0, 0))) (i : Nat) : W.frozen? ⟨g, i, none⟩ = false := by simp [World.frozen?, h]

section
variable {α : Type} {cs : α → List Value} {s : Nat} {t : TypeId} {B : Nat} {w w' : World} {v : Value} {L : List α} {g n cap : Nat} {A : Option Addr}
/-- At the address lie the elements of L; cs: the cells of an element, s of them. -/
def Rd (cs : α → List Value) (s : Nat) (w : World) (A : Option Addr) (L : List α) : Prop :=
  ∀ (k : Nat) (z : α), L[k]? = some z → ∃ b off, A = some ⟨b, off, none⟩ ∧ b < w.heap.size ∧ ∀ j u, (cs z)[j]? = some u → w.cell? ⟨b, off + (k * s + j), none⟩ = some u
/-- A row of the call's own that holds L. -/
def Row (cs : α → List Value) (s : Nat) (t : TypeId) (B : Nat) (w : World) (v : Value) (L : List α) : Prop := w.ownsRow B t s v L.length (L.flatMap cs)
theorem Rd.nil (cs : α → List Value) (s : Nat) (w : World) (A : Option Addr) : Rd cs s w A [] := fun k z h => by simp at h
theorem Rd.keep (h : Rd cs s w A L) (hs : w.heap.size ≤ w'.heap.size) (hk : ∀ b off, A = some ⟨b, off, none⟩ → b < w.heap.size → w'.heap[b]? = w.heap[b]?) : Rd cs s w' A L := by
  intro k z hz
  obtain ⟨b, off, e, hlt, h0⟩ := h k z hz
  exact ⟨b, off, e, Nat.lt_of_lt_of_le hlt hs, fun j u hu => (World.cell?_of_block (a := ⟨b, off + (k * s + j), none⟩) (hk b off e hlt)).trans (h0 j u hu)⟩
theorem Rd.on (h : Rd cs s w A L) (hb : Below w.heap.size w w') : Rd cs s w' A L := h.keep hb.size fun b _ _ hlt => hb.block b hlt
theorem Rd.take (h : Rd cs s w A L) (n : Nat) : Rd cs s w A (L.take n) := by
  intro k z hk
  rw [List.getElem?_take] at hk
  split at hk
  · exact h k z hk
  · cases hk
theorem Rd.none_ (h : Rd cs s w none L) : L = [] := by
  cases L with
  | nil => rfl
  | cons z zs => obtain ⟨b, off, hA, _⟩ := h 0 z rfl; cases hA
theorem flat_len (hc : ∀ z, (cs z).length = s) (L : List α) : (L.flatMap cs).length = L.length * s := by
  induction L with
  | nil => simp
  | cons z L ih => rw [List.flatMap_cons, List.length_append, hc, ih, List.length_cons, Nat.succ_mul]; omega
theorem flat_at (hc : ∀ z, (cs z).length = s) {L : List α} {k : Nat} {z : α} (hk : L[k]? = some z) {j : Nat} {u : Value} (hu : (cs z)[j]? = some u) : (L.flatMap cs)[k * s + j]? = some u := by
  induction L generalizing k with
  | nil => simp at hk
  | cons y L ih =>
    rw [List.flatMap_cons]
    cases k with
    | zero =>
      simp at hk; subst hk
      rw [Nat.zero_mul, Nat.zero_add, List.getElem?_append_left (glt hu)]
      exact hu
    | succ k =>
      have := ih (k := k) (by simpa using hk)
      rw [List.getElem?_append_right (by rw [hc, Nat.succ_mul]; omega), hc, Nat.succ_mul, show k * s + s + j - s = k * s + j by omega]
      exact this
theorem Row.nil (cs : α → List Value) (s : Nat) (t : TypeId) (B : Nat) (w : World) : Row cs s t B w (.slice none 0 0) [] := World.ownsRow_nil _ _ _ _
theorem Row.lt (h : Row cs s t B w v L) : ∀ k, v.ownBlock = some k → B ≤ k ∧ k < w.heap.size := World.ownsRow.lt h
theorem Row.one (hc : ∀ z, (cs z).length = s) (h : Row cs s t B w v L) : ∃ A c, v = .slice A L.length c ∧ L.length ≤ c ∧ c ≤ maxLen ∧ Rd cs s w A L ∧ v.ownBlock = A.map (·.block) ∧ (A = none ∨ ∃ g, A = some ⟨g, 0, none⟩ ∧ B ≤ g ∧ g < w.heap.size) := by
  obtain ⟨h1, ⟨rfl, h2⟩ | ⟨g, cap, cur, rfl, h2, h3, h4, h5, h6, h7⟩⟩ := h
  · obtain rfl : L = [] := List.eq_nil_of_length_eq_zero h2
    exact ⟨none, 0, rfl, Nat.le_refl _, by unfold maxLen; omega, Rd.nil _ _ _ _, rfl, Or.inl rfl⟩
  · have hg := (Array.getElem?_eq_some_iff.mp h3).1
    refine ⟨some ⟨g, 0, none⟩, cap, rfl, h4, h5, fun k z hz => ⟨g, 0, rfl, hg, fun j u hu => ?_⟩, rfl, Or.inr ⟨g, rfl, h2, hg⟩⟩
    rw [cell_of_row w g _ cur _ (0, 0) h3, Nat.zero_add]
    have hu' := flat_at hc hz hu
    rw [← h7, List.getElem?_take] at hu'
    split at hu'
    · simpa using hu'
    · cases hu'
theorem Row.blk (h : Row cs s t B w v L) (h0 : 0 < L.length) : ∃ g cap, v = .slice (some ⟨g, 0, none⟩) L.length cap ∧ B ≤ g ∧ g < w.heap.size ∧ L.length ≤ cap ∧ cap ≤ maxLen := by
  obtain ⟨_, ⟨_, h1⟩ | ⟨g, cap, cur, h1, h2, h3, h4, h5, _⟩⟩ := h
  · omega
  · exact ⟨g, cap, h1, h2, (Array.getElem?_eq_some_iff.mp h3).1, h4, h5⟩
theorem Row.cell (hc : ∀ z, (cs z).length = s) (h : Row cs s t B w (.slice (some ⟨g, 0, none⟩) n cap) L) {k : Nat} {z : α} (hk : L[k]? = some z) {j : Nat} {u : Value} (hu : (cs z)[j]? = some u) : w.cell? ⟨g, k * s + j, none⟩ = some u := by
  obtain ⟨A, c, e, _, _, hy, _⟩ := h.one hc
  cases e
  obtain ⟨g', off, e, _, hcell⟩ := hy k z hk
  cases e
  have := hcell j u hu
  rw [Nat.zero_add] at this; exact this
theorem Row.keep (h : Row cs s t B w v L) (hk : ∀ k, v.ownBlock = some k → w'.heap[k]? = w.heap[k]?) : Row cs s t B w' v L := by
  obtain ⟨h1, h0 | ⟨g, cap, cur, rfl, h2, h3, h4⟩⟩ := h
  · exact ⟨h1, Or.inl h0⟩
  · exact ⟨h1, Or.inr ⟨g, cap, cur, rfl, h2, (hk g rfl).trans h3, h4⟩⟩
theorem Row.on (h : Row cs s t B w v L) (hb : Below w.heap.size w w') : Row cs s t B w' v L := h.keep fun k hk => hb.block k (h.lt k hk).2
theorem Row.less {B' : Nat} (h : Row cs s t B w v L) (hB : B' ≤ B) : Row cs s t B' w v L := by
  obtain ⟨h1, h0 | ⟨g, cap, cur, e, h2, h3⟩⟩ := h
  · exact ⟨h1, Or.inl h0⟩
  · exact ⟨h1, Or.inr ⟨g, cap, cur, e, Nat.le_trans hB h2, h3⟩⟩
theorem Row.warm (h : Row cs s t B w (.slice (some ⟨g, 0, none⟩) n cap) L) (hn : n = L.length) (j : Nat) : w.frozen? ⟨g, j, none⟩ = false := by
  subst hn
  exact World.ownsRow.frozenAt (h : w.ownsRow B t s (.slice (some ⟨g, 0, none⟩) L.length cap) L.length (L.flatMap cs)) j
/-- A cell that is set. -/
theorem own_set {xs : List Value} {m : Nat} (h : w.ownsRow B t s (.slice (some ⟨g, 0, none⟩) m cap) m xs) (j : Nat) (u : Value) : (w.setCell ⟨g, j, none⟩ u).ownsRow B t s (.slice (some ⟨g, 0, none⟩) m cap) m (xs.set j u) := (World.ownsRow.stored h j u).1
theorem Row.below (h : Row cs s t B w v L) (hg : w.grownBy w' v.ownBlock) (hB : B ≤ w.heap.size) : Below B w w' :=
  ⟨hg.os, hg.tape, hg.output, hg.size, fun i hi => hg.block i (Nat.lt_of_lt_of_le hi hB) fun e => by have := (h.lt i e.symm).1; omega⟩
theorem Row.empty (cs : α → List Value) (s : Nat) (t : TypeId) (w : World) (hB : B ≤ w.heap.size) : Row cs s t B (w.alloc (.cells #[] t)) (.slice (some ⟨w.heap.size, 0, none⟩) 0 0) [] :=
  World.ownsRow_lit (base := B) (e := t) (size := s) w #[] 0 hB (by unfold maxLen; omega) (by simp)
/-- The first n elements: 's[:n]'. -/
theorem Row.cut (hc : ∀ z, (cs z).length = s) (h : Row cs s t B w (.slice (some ⟨g, 0, none⟩) n cap) L) (hn : n = L.length) {m : Nat} (hm : m ≤ n) : Row cs s t B w (.slice (some ⟨g, 0, none⟩) m cap) (L.take m) := by
  subst hn
  obtain ⟨h1, ⟨h0, _⟩ | ⟨g', cap', cur, e, h2, h3, h4, h5, h6, h7⟩⟩ := h
  · cases h0
  · cases e
    have hfl : (L.take m).flatMap cs = (L.flatMap cs).take (m * s) := by
      conv => rhs; rw [← List.take_append_drop m L, List.flatMap_append]
      rw [List.take_left' (by rw [flat_len hc, List.length_take]; congr 1; omega)]
    have hlen : (L.take m).length = m := by rw [List.length_take]; omega
    refine ⟨by rw [flat_len hc], Or.inr ⟨g, cap, cur, by rw [hlen], h2, h3, by rw [hlen]; omega, h5, h6, ?_⟩⟩
    rw [hlen, hfl, ← h7, List.take_take]
    congr 1
    exact (Nat.min_eq_left (Nat.mul_le_mul_right _ hm)).symm
end
end Go.Proofs.Ytgomokdklajlcaa.Rw
/- append to a row of the call's own: one law, whatever the elements. -/
namespace Go.Proofs.Ytgomokdklajlcaa.Rw
open Go.ChangeShapes Go.WideShapes Go.RowKit Go.Lib
set_option linter.unusedVariables false
set_option maxRecDepth 100000

/-- What the dump says of a kind of elements: T the slice's type, t the element's. -/
structure Kd {α : Type} (cs : α → List Value) (s : Nat) (T t : TypeId) : Prop where
  und : Try.prog.underlying T = some (.slice t)
  info : ∃ i z by_, Try.prog.info? t = some i ∧ i.zero = some z ∧ i.size = s ∧ i.bytes = by_ ∧ z.cells.size = s ∧ by_ ≤ 1000
  len : ∀ z, (cs z).length = s
  pos : 0 < s
  one : ∀ z, ∀ u ∈ cs z, u.oneCell' = true

theorem run_append_none {P : Program} {w : World} (base : Nat) (t ty e : TypeId) (i : TypeInfo) (size c : Nat) (ht : P.underlying t = some (.slice e)) (hi : P.info? e = some i)
    (v : Value) (n : Nat) (xs : List Value) (hown : w.ownsRow base e size v n xs) :
    (Builtin.append_ #[t, t] ty #[v, .slice none 0 c]).run P w = .ok v w := by
  rcases hown.2 with ⟨rfl, rfl⟩ | ⟨g, cap, cur, rfl, _, _, hnc, _⟩
  · simp [Builtin.append_, run_underlying ht, sizeOf, typeInfo, hi, Builtin.lenOf, Builtin.firstCells]
  · simp [Builtin.append_, run_underlying ht, sizeOf, typeInfo, hi, Builtin.lenOf, Builtin.firstCells, hnc, storeCells]
theorem run_equalIn_fn_nil {P : Program} (W : World) (d : Nat) (t : TypeId) (x y z) (h : P.underlying t = some (.func x y z)) (fn : Fn) (a cap : Array Value) : (Op.equalIn (d + 1) t (.func fn a cap) .nilFunc).run P W = .ok false W := by
  simp [Op.equalIn, run_underlying h]
theorem run_eql_fn_nil {P : Program} (W : World) (t : TypeId) (x y z) (h : P.underlying t = some (.func x y z)) (fn : Fn) (a cap : Array Value) : (binOp .eql t (.func fn a cap) .nilFunc).run P W = .ok (.bool false) W := by
  simp only [binOp]
  simp [Op.equal, Op.maxDepth, run_equalIn_fn_nil W 9999 t x y z h]
theorem run_equalIn_nil_nil {P : Program} (W : World) (d : Nat) (t : TypeId) (x y z) (h : P.underlying t = some (.func x y z)) : (Op.equalIn (d + 1) t .nilFunc .nilFunc).run P W = .ok true W := by
  simp [Op.equalIn, run_underlying h]
theorem run_eql_fnil_fnil {P : Program} (W : World) (t : TypeId) (x y z) (h : P.underlying t = some (.func x y z)) : (binOp .eql t .nilFunc .nilFunc).run P W = .ok (.bool true) W := by
  simp only [binOp]
  simp [Op.equal, Op.maxDepth, run_equalIn_nil_nil W 9999 t x y z h]
section
variable {α : Type} {cs : α → List Value} {s : Nat} {T t : TypeId} {B : Nat} {w w' : World} {v : Value} {L M : List α} {A : Option Addr}
theorem rd_flat (hc : ∀ z, (cs z).length = s) (h0 : 0 < s) {ad : Addr} (h : Rd cs s w (some ad) M) : ∀ j u, (M.flatMap cs)[j]? = some u → w.cell? (ad.add j) = some u := by
  intro j u hj
  have hjl := glt hj
  rw [flat_len hc] at hjl
  have hk : j / s < M.length := by rw [Nat.div_lt_iff_lt_mul h0]; exact hjl
  obtain ⟨z, hz⟩ := get_lt hk
  obtain ⟨b, off, e, _, hcell⟩ := h _ _ hz
  cases e
  have hr : j % s < (cs z).length := by rw [hc]; exact Nat.mod_lt _ h0
  obtain ⟨u', hu'⟩ := get_lt hr
  have hf := flat_at hc hz hu'
  have hjj : j / s * s + j % s = j := by rw [Nat.mul_comm]; exact Nat.div_add_mod j s
  rw [hjj, hj] at hf
  obtain rfl := Option.some.inj hf
  have := hcell _ _ hu'
  rw [hjj] at this
  rw [Addr.add_lit]; exact this
theorem run_append_rows (K : Kd cs s T t) (hown : Row cs s t B w v L) (m c : Nat) (hm : m = M.length) (hz : Rd cs s w A M) (hlen : L.length + m ≤ 1000000) (hB : B ≤ w.heap.size) (ty : TypeId) :
    ∃ v' w', (Builtin.append_ #[T, T] ty #[v, .slice A m c]).run Try.prog w = .ok v' w' ∧ Row cs s t B w' v' (L ++ M) ∧ w.grownBy w' v.ownBlock ∧ (v'.ownBlock = v.ownBlock ∨ v'.ownBlock = some w.heap.size) := by
  obtain ⟨i, zv, by_, hi, hzv, hs, hby, hzc, hb1⟩ := K.info
  subst hm
  cases A with
  | none =>
    obtain rfl := hz.none_
    exact ⟨v, w, run_append_none B T ty t i s c K.und hi v L.length _ hown, by rw [List.append_nil]; exact hown, World.grownBy.refl _ _, Or.inl rfl⟩
  | some ad =>
    have hbb : (L.length + M.length) * by_ ≤ 140737488355328 := Nat.le_trans (Nat.mul_le_mul hlen hb1) (by decide)
    obtain ⟨v', w', hr, h1, h2, _, h3⟩ := run_append_own_at (P := Try.prog) w B T ty t i zv s by_ K.und hi hzv hs hby hzc K.pos v L.length _ hown ad M.length c (M.flatMap cs) (flat_len K.len M) (rd_flat K.len K.pos hz)
      (fun u hu => by obtain ⟨z, hz, hu⟩ := List.mem_flatMap.mp hu; exact K.one z u hu) (by unfold maxLen; omega) hbb hB
    exact ⟨v', w', hr, by unfold Row; rw [List.length_append, List.flatMap_append]; exact h1, h2, h3⟩
/-- 'append(s, x...)' in a plain region. -/
theorem append_rows (K : Kd cs s T t) {ops : Array Oper} {rest : List Oper} {o : Oper} {a : Act} {Q : Exit → Act → World → Prop} (hgd : o.guard = none) (x y : Operand)
    (ho : o.op = .call { callee := .builtin .append, args := #[x, y], argTypes := #[T, T] })
    (v : Value) (L : List α) (hs : a.eval x = v) (hown : Row cs s t B w v L) (A : Option Addr) (m c : Nat) (M : List α) (hm : m = M.length) (hx : a.eval y = .slice A m c) (hz : Rd cs s w A M) (hlen : L.length + m ≤ 1000000) (hB : B ≤ w.heap.size)
    (h : ∀ A' n' c' w', n' = L.length + m → Row cs s t B w' (.slice A' n' c') (L ++ M) → w.grownBy w' v.ownBlock → ((Value.slice A' n' c').ownBlock = v.ownBlock ∨ (Value.slice A' n' c').ownBlock = some w.heap.size) → wpList Try.prog ops Q rest (a.put o.dst (.slice A' n' c')) w') :
    wpList Try.prog ops Q (o :: rest) a w := by
  obtain ⟨v', w', hr, h1, h2, h3⟩ := run_append_rows K hown m c hm hz hlen hB o.type
  obtain ⟨A', c', rfl, -⟩ := h1.one K.len
  refine wpList_plain hgd fun K' hK => ?_
  unfold Oper.wp execOp
  simp only [ho, resolve, invoke, builtin, Sem.run_bind, Sem.run_pure, Result.andThen_ok, List.map_toArray, List.map_cons, List.map_nil, hs, hx, hr]
  exact hK _ _ (h A' _ c' w' (by rw [List.length_append, hm]) h1 h2 h3)
/-- 'append(s, x...)' at a step of a region that draws its order; w0: the world ahead of the region, in which the row lies. -/
theorem step_rows (K : Kd cs s T t) (w0 : World) {ops : Array Oper} {o : Oper} {a : Act} {K' : Act → World → Prop} {Q : Exit → Act → World → Prop} {E : Prop} (hgd : o.guard = none) (x y : Operand)
    (ho : o.op = .call { callee := .builtin .append, args := #[x, y], argTypes := #[T, T] })
    (v : Value) (L : List α) (hs : a.eval x = v) (hown : Row cs s t B w0 v L) (hbm : Below w0.heap.size w0 w) (A : Option Addr) (m c : Nat) (M : List α) (hm : m = M.length) (hx : a.eval y = .slice A m c) (hz : Rd cs s w A M) (hlen : L.length + m ≤ 1000000) (hB : B ≤ w0.heap.size)
    (h : ∀ A' n' c' w', n' = L.length + m → Row cs s t B w' (.slice A' n' c') (L ++ M) → (∀ b, b < w.heap.size → v.ownBlock ≠ some b → w'.heap[b]? = w.heap[b]?) → w0.grownBy w' v.ownBlock → ((Value.slice A' n' c').ownBlock = v.ownBlock ∨ ∃ b, (Value.slice A' n' c').ownBlock = some b ∧ w0.heap.size ≤ b) → K' (a.put o.dst (.slice A' n' c')) w') :
    if Region.wanted o (yielded ops a.tmps) = true then Oper.wp Try.prog o a w K' Q else E := by
  have hw : Region.wanted o (yielded ops a.tmps) = true := by simp [Region.wanted, hgd]
  rw [if_pos hw]
  obtain ⟨v', w', hr, h1, h2, h3⟩ := run_append_rows K (hown.on hbm) m c hm hz hlen (Nat.le_trans hB hbm.size) o.type
  obtain ⟨A', c', rfl, -⟩ := h1.one K.len
  unfold Oper.wp execOp
  simp only [ho, resolve, invoke, builtin, Sem.run_bind, Sem.run_pure, Result.andThen_ok, List.map_toArray, List.map_cons, List.map_nil, hs, hx, hr]
  refine h A' _ c' w' (by rw [List.length_append, hm]) h1 (fun b hb hv => h2.block b hb fun e => hv e.symm) ⟨h2.os.trans hbm.os, h2.tape.trans hbm.tape, h2.output.trans hbm.output, Nat.le_trans hbm.size h2.size, fun b hb hv => (h2.block b (Nat.lt_of_lt_of_le hb hbm.size) hv).trans (hbm.block b hb)⟩ (h3.imp_right fun h => ⟨_, h, hbm.size⟩)
/-- One element that lies in a block of its own. -/
theorem rd_one (hc : ∀ z, (cs z).length = s) {g : Nat} {z : α} {ty : TypeId} (h : w.heap[g]? = some (.cells (cs z).toArray ty (0, 0))) : Rd cs s w (some ⟨g, 0, none⟩) [z] := by
  intro k y hk
  match k, hk with
  | 0, hk =>
    simp at hk; subst hk
    refine ⟨g, 0, rfl, (Array.getElem?_eq_some_iff.mp h).1, fun j u hu => ?_⟩
    rw [cell_of_row _ _ _ _ _ _ h]
    simpa using hu
end
end Go.Proofs.Ytgomokdklajlcaa.Rw
