/- Several texts in one: StableG, StableH, ShareD, ShareE, ShareF, MemB, ShareG, ShareH. -/
import Derived.Test.YtdolhanniiejfaaPk2
import Derived.Deep.Cut
import Derived.Deep.CutRange
import Derived.Test.YtdolhanniiejfaaPk1
import Derived.BigRegion
import Derived.Laws.CopyOwn
/- A stable sort in memory: two parts merged by a rotation and two smaller merges. Written by gen12/symmany.py. -/
namespace Go.Proofs.Ytdolhanniiejfaa.Stable
open Go.ChangeShapes Go.WideShapes Go.RowKit Go.Lib Go.Proofs.Ytdolhanniiejfaa.Mem
set_option linter.unusedVariables false
set_option maxRecDepth 100000

/-- A smaller merge. -/
def Smaller (v : Nat → Int) (B : Nat → Nat → Bool) (g n cap F : Nat) (caps : Array Value) (w0 : World) (d : Nat) : Prop := ∀ (a m b : Nat) (s : Nat → Nat) (w : World), b - a < d → a < m → m < b → b ≤ n → Halves B s a m b → St v g n cap w0 w s →
  Calls Try.prog 74 #[.slice (some ⟨g, 0, none⟩) n cap, .int .i64 (a : Int), .int .i64 (m : Int), .int .i64 (b : Int), .func (.func F) #[] caps] w fun e w' => e = .returned (.tuple #[]) ∧ Mgd v B g n cap w0 s a b w'

set_option maxHeartbeats 3200000 in
theorem sym_hi {v : Nat → Int} {B : Nat → Nat → Bool} {g n cap F : Nat} {caps : Array Value} {cf : Nat → Nat → Int} {w0 w : World} {s : Nat → Nat} (hB : Sto B) (hc : Cm v B n g w0 F caps cf) (h : St v g n cap w0 w s) (hn : n ≤ 1000000) (a m b : Nat) (ham : a + 1 < m) (hmb : m + 1 < b) (hbn : b ≤ n) (hh : Halves B s a m b)
    (hr : Smaller v B g n cap F caps w0 (b - a)) (hside : (a + b) / 2 < m) :
    Calls Try.prog 74 #[.slice (some ⟨g, 0, none⟩) n cap, .int .i64 (a : Int), .int .i64 (m : Int), .int .i64 (b : Int), .func (.func F) #[] caps] w fun e w' => e = .returned (.tuple #[]) ∧ Mgd v B g n cap w0 s a b w' := by
  obtain ⟨d, hd⟩ : ∃ d, d = m - a := ⟨_, rfl⟩
  obtain ⟨d', hd'⟩ : ∃ d', d' = b - m := ⟨_, rfl⟩
  obtain ⟨q0, hq0⟩ : ∃ q, q = a + b := ⟨_, rfl⟩
  obtain ⟨mid, hmid⟩ : ∃ x, x = q0 / 2 := ⟨_, rfl⟩
  obtain ⟨nn, hnn⟩ : ∃ x, x = mid + m := ⟨_, rfl⟩
  obtain ⟨lo, hlo⟩ : ∃ x, x = nn - b := ⟨_, rfl⟩
  obtain ⟨pp, hpp⟩ : ∃ x, x = nn - 1 := ⟨_, rfl⟩
  have HS := Lib.hid h
  have HB := Lib.hid hB
  have HH := Lib.hid hh
  have HR := Lib.hid hr
  have eg := hc.eg
  have HC := Lib.hid hc
  have HX := Lib.hid (show a + 1 < m ∧ m + 1 < b ∧ b ≤ n ∧ n ≤ 1000000 ∧ mid = (a + b) / 2 ∧ nn = mid + m ∧ pp = nn - 1 ∧ lo = (if mid < m then mid + m - b else a) ∧ mid = (if mid < m then mid else m) ∧ lo ≤ mid ∧ mid ≤ mid ∧ mid ≤ m ∧ a ≤ lo by
    refine ⟨ham, hmb, hbn, hn, by omega, hnn, hpp, ?_, ?_, by omega, by omega, by omega, by omega⟩
    · split <;> omega
    · split <;> omega)
  have e1 : IntKind.i64.wrap ((m : Int) - (a : Int)) = (d : Int) := by rw [wrap_id (by omega)]; omega
  have d1 : ((d : Int) == 1) = false := by simp; omega
  have d2 : ¬ d = 1 := by omega
  have e2 : IntKind.i64.wrap ((b : Int) - (m : Int)) = (d' : Int) := by rw [wrap_id (by omega)]; omega
  have d3 : ((d' : Int) == 1) = false := by simp; omega
  have d4 : ¬ d' = 1 := by omega
  have e3 : IntKind.i64.wrap ((a : Int) + (b : Int)) = (q0 : Int) := by rw [wrap_id (by omega)]; omega
  have e4 : IntKind.u64.wrap (q0 : Int) = (q0 : Int) := by rw [IntKind.wrap_u64]; omega
  have e5 : (q0 : Int) / 2 = (mid : Int) := by omega
  have e6 : IntKind.i64.wrap (mid : Int) = (mid : Int) := wrap_id (by omega)
  have e7 : IntKind.i64.wrap ((mid : Int) + (m : Int)) = (nn : Int) := by rw [wrap_id (by omega)]; omega
  have e8 : IntKind.i64.wrap ((nn : Int) - (b : Int)) = (lo : Int) := by rw [wrap_id (by omega)]; omega
  have s1 : mid < m := by omega
  have e9 : IntKind.i64.wrap ((nn : Int) - 1) = (pp : Int) := by rw [wrap_id (by omega)]; omega
  clear h hB hc hh hr hn ham hmb hbn hside hd hd' hq0 hmid hnn hpp hlo
  go_enter Try.func74, Try.ntmps74
  go_wp2_with fail
  go_loopw [20, 21, 23] (fun x y _ wr => ∃ i j : Nat, x = .int .i64 (i : Int) ∧ y = .int .i64 (j : Int) ∧ lo ≤ i ∧ i ≤ j ∧ j ≤ mid ∧ (lo < i → B (s (pp - (i - 1))) (s (i - 1)) = false) ∧ (j < mid → B (s (pp - j)) (s j) = true) ∧ St v g n cap w0 wr s) (fun x y _ _ => (RowKit.intOf y).toNat - (RowKit.intOf x).toNat)
  case atStart => exact ⟨lo, mid, rfl, rfl, Nat.le_refl _, HX.out.2.2.2.2.2.2.2.2.2.1, Nat.le_refl _, fun h => by omega, fun h => by omega, HS.out⟩
  case round =>
    obtain ⟨i, j, rfl, rfl, h1, h2, h3, hlo, hhi, hst⟩ := hrel
    have HLO := Lib.hid hlo
    have HHI := Lib.hid hhi
    have HST := Lib.hid hst
    obtain ⟨x1, x2, x3, x4, x5, x6, x7, x8, x9, x10, x11, x12, x13⟩ := HX.out
    clear hst hlo hhi e1 e2 e3 e4 e5 e6 e7 e8 s1 e9 d1 d2 d3 d4
    rcases Nat.lt_or_ge i j with hlt | hge
    · obtain ⟨q, hq⟩ : ∃ x, x = i + j := ⟨_, rfl⟩
      obtain ⟨h, hh⟩ : ∃ x, x = q / 2 := ⟨_, rfl⟩
      obtain ⟨r, hr⟩ : ∃ x, x = pp - h := ⟨_, rfl⟩
      have e1 : IntKind.i64.wrap ((i : Int) + (j : Int)) = (q : Int) := by rw [wrap_id (by omega)]; omega
      have e2 : IntKind.u64.wrap (q : Int) = (q : Int) := by rw [IntKind.wrap_u64]; omega
      have e3 : (q : Int) / 2 = (h : Int) := by omega
      have e4 : IntKind.i64.wrap (h : Int) = (h : Int) := wrap_id (by omega)
      have e5 : IntKind.i64.wrap ((h : Int) + 1) = ((h + 1 : Nat) : Int) := wrap_id (by omega)
      have e6 : IntKind.i64.wrap ((pp : Int) - (h : Int)) = (r : Int) := by rw [wrap_id (by omega)]; omega
      have hrb : m ≤ r ∧ r < b := by
        clear HLO HHI e1 e2 e3 e4 e5 e6
        by_cases hc : mid < m
        · rw [if_pos hc] at x8 x9; omega
        · rw [if_neg hc] at x8 x9; omega
      have ht := HH.out.t h r (by omega) (by omega) hrb.1 hrb.2
      have hbd := HST.out.b r (by omega)
      have cr := HST.out.cell (k := r) (by omega)
      have ch := HST.out.cell (k := h) (by omega)
      have HNEG := Lib.hid (HC.out.neg (s r) (s h) ht hbd)
      have HCALL := Lib.hid (fun W => HC.out.call (s r) (s h) W ht hbd)
      have HP := Lib.hid (show i ≤ h ∧ h < j ∧ r < n ∧ h < n ∧ h + 1 ≤ j ∧ r = pp - h by omega)
      have i2 : (h : Int) < (n : Int) := by omega
      have i3 : (0 : Int) ≤ (h : Int) := by omega
      have i4 : (r : Int) < (n : Int) := by omega
      have i5 : (0 : Int) ≤ (r : Int) := by omega
      obtain ⟨x, hx⟩ : ∃ x, x = v (s r) := ⟨_, rfl⟩
      obtain ⟨y, hy⟩ : ∃ y, y = v (s h) := ⟨_, rfl⟩
      obtain ⟨z, hz⟩ : ∃ z, z = cf (s r) (s h) := ⟨_, rfl⟩
      rw [← hx] at cr HCALL
      rw [← hy] at ch HCALL
      rw [← hz] at HCALL HNEG
      have HX1 := Lib.hid (HCALL.out wr.drew HST.out.drew.off)
      have HK := Lib.hid (HST.out.keep HP.out.2.2.1 HP.out.2.2.2.1 hx hy)
      clear hq hh hr hrb ht hbd hx hy hz HCALL x1 x2 x3 x4 x5 x6 x7 x8 x9 x10 x11 x12 x13
      cases hb : B (s r) (s h) with
      | true =>
        rw [hb] at HNEG
        have b1 := HNEG.out
        go_wp2_with fail
        go_region_held3 (fun W' => W'.cell? ⟨g, r, none⟩ = some (.int .i64 x) ∧ W'.cell? ⟨g, h, none⟩ = some (.int .i64 y))
          (first | go_keep | exact HK.out _ hb2) (first | (go_at_fn F; (with_reducible refine HX1.out.mono ?_); rintro e w2 ⟨rfl, hb2⟩))
        have HST3 := Lib.hid (HST.out.drew.on hb2)
        clear cr ch hb2
        go_wp2_with fail
        go_roundw
        case rel =>
          have := HP.out
          exact ⟨i, h, rfl, rfl, h1, by omega, by omega, HLO.out, fun _ => by rw [← HP.out.2.2.2.2.2]; exact hb, HST3.out⟩
        case measure =>
          have := HP.out
          simp [RowKit.intOf]; omega
      | false =>
        rw [hb] at HNEG
        have b1 := HNEG.out
        go_wp2_with fail
        go_region_held3 (fun W' => W'.cell? ⟨g, r, none⟩ = some (.int .i64 x) ∧ W'.cell? ⟨g, h, none⟩ = some (.int .i64 y))
          (first | go_keep | exact HK.out _ hb2) (first | (go_at_fn F; (with_reducible refine HX1.out.mono ?_); rintro e w2 ⟨rfl, hb2⟩))
        have HST3 := Lib.hid (HST.out.drew.on hb2)
        clear cr ch hb2
        go_wp2_with fail
        go_roundw
        case rel =>
          have := HP.out
          exact ⟨h + 1, j, rfl, rfl, by omega, by omega, h3, fun _ => by rw [Nat.add_sub_cancel, ← HP.out.2.2.2.2.2]; exact hb, HHI.out, HST3.out⟩
        case measure =>
          have := HP.out
          simp [RowKit.intOf]; omega
    · obtain rfl : i = j := by omega
      obtain ⟨en, hen⟩ : ∃ x, x = nn - i := ⟨_, rfl⟩
      have e1 : IntKind.i64.wrap ((nn : Int) - (i : Int)) = (en : Int) := by rw [wrap_id (by omega)]; omega
      have HCUT : Hid (Cut B s a m b i en) := by
        have h5 := HH.out.cut HB.out x5 (by omega) (by omega) x8 x9 h1 h3 (by rw [← x6, ← x7]; exact HLO.out) (by rw [← x6, ← x7]; exact HHI.out)
        rw [hen, x6]; exact h5
      have HM := Lib.hid (show i + (en - m) = mid ∧ a < mid ∧ mid < b ∧ i ≤ mid ∧ m ≤ en ∧ en ≤ b ∧ i ≤ m ∧ a ≤ i ∧ mid ≤ en ∧ n ≤ 1000000 ∧ b ≤ n by
        have := HCUT.out.mj; have := HCUT.out.jb; have := HCUT.out.ai; have := HCUT.out.im
        refine ⟨by omega, by omega, by omega, by omega, by omega, by omega, by omega, by omega, by omega, by omega, by omega⟩)
      clear h1 h2 h3 hge hen HLO HHI x1 x2 x3 x4 x5 x6 x7 x8 x9 x10 x11 x12 x13
      obtain ⟨p1, hp⟩ : ∃ p, p = (decide (i < m) && decide (m < en)) := ⟨_, rfl⟩
      have HP1 := Lib.hid hp
      clear hp
      go_upto_region 39 with fail
      go_cut [185] from 178 to 185 (fun x wc => x = .bool p1 ∧ wr = wc)
      case first =>
        rcases Nat.lt_or_ge i m with c1 | c1
        · rcases Nat.lt_or_ge m en with c2 | c2
          · have c3 : decide (i < m) = true := decide_eq_true c1
            have c4 : decide (m < en) = true := decide_eq_true c2
            go_wp2_with fail
            go_meet
            case rel => exact ⟨congrArg Value.bool (by rw [HP1.out, c3, c4]; rfl), rfl⟩
          · have c3 : decide (i < m) = true := decide_eq_true c1
            have c4 : decide (m < en) = false := decide_eq_false (by omega)
            have c5 : ¬ m < en := by omega
            go_wp2_with fail
            go_meet
            case rel => exact ⟨congrArg Value.bool (by rw [HP1.out, c3, c4]; rfl), rfl⟩
        · have c3 : decide (i < m) = false := decide_eq_false (by omega)
          have c5 : ¬ i < m := by omega
          go_wp2_with fail
          go_meet
          case rel => exact ⟨congrArg Value.bool (by rw [HP1.out, c3]; rfl), rfl⟩
      case rest =>
        obtain ⟨rfl, rfl⟩ := hcut
        go_upto_if 185 with fail
        go_cut [] from 186 to 191 (fun wc => St v g n cap w0 wc (rot s i m en))
        case first =>
          cases p1 with
          | true =>
            have hc1 : i < m ∧ m < en := by simpa using HP1.out.symm
            have HR1 := Lib.hid (rotate HST.out HM.out.2.2.2.2.2.2.2.2.2.1 i m en hc1.1 hc1.2 (Nat.le_trans HM.out.2.2.2.2.2.1 HM.out.2.2.2.2.2.2.2.2.2.2) F caps)
            clear hc1
            go_wp2_with fail
            refine HR1.out.mono ?_
            rintro e w2 ⟨rfl, hst2⟩
            have HST2 := Lib.hid hst2
            clear hst2
            go_wp2_with fail
            go_meet
            case rel => exact HST2.out
          | false =>
            have HE : Hid (s = rot s i m en) := by
              have hM := HM.out
              have hc1 := HP1.out
              by_cases hc2 : i < m
              · have hc3 : ¬ m < en := fun hc3 => by rw [decide_eq_true hc2, decide_eq_true hc3] at hc1; cases hc1
                have he : en = m := by omega
                show s = _
                rw [he]; exact (rot_right s (by omega)).symm
              · have he : i = m := by omega
                show s = _
                rw [he]; exact (rot_left s _ (by omega)).symm
            go_wp2_with fail
            go_meet
            case rel => exact HST.out.to HE.out
        case rest =>
          have HST2 := Lib.hid hcut
          obtain ⟨w2, hw2⟩ : ∃ W, W = wc := ⟨_, rfl⟩
          rw [← hw2] at HST2 ⊢
          clear hcut hw2
          obtain ⟨p2, hp⟩ : ∃ p, p = (decide (a < i) && decide (i < mid)) := ⟨_, rfl⟩
          have HP2 := Lib.hid hp
          clear hp
          go_upto_region 41 with fail
          go_cut [199] from 192 to 199 (fun x wc => x = .bool p2 ∧ w2 = wc)
          case first =>
            rcases Nat.lt_or_ge a i with c1 | c1
            · rcases Nat.lt_or_ge i mid with c2 | c2
              · have c3 : decide (a < i) = true := decide_eq_true c1
                have c4 : decide (i < mid) = true := decide_eq_true c2
                go_wp2_with fail
                go_meet
                case rel => exact ⟨congrArg Value.bool (by rw [HP2.out, c3, c4]; rfl), rfl⟩
              · have c3 : decide (a < i) = true := decide_eq_true c1
                have c4 : decide (i < mid) = false := decide_eq_false (by omega)
                have c5 : ¬ i < mid := by omega
                go_wp2_with fail
                go_meet
                case rel => exact ⟨congrArg Value.bool (by rw [HP2.out, c3, c4]; rfl), rfl⟩
            · have c3 : decide (a < i) = false := decide_eq_false (by omega)
              have c5 : ¬ a < i := by omega
              go_wp2_with fail
              go_meet
              case rel => exact ⟨congrArg Value.bool (by rw [HP2.out, c3]; rfl), rfl⟩
          case rest =>
            obtain ⟨rfl, rfl⟩ := hcut
            go_upto_if 199 with fail
            go_cut [] from 200 to 205 (fun wc => Mgd v B g n cap w0 (rot s i m en) a mid wc)
            case first =>
              cases p2 with
              | true =>
                have hc1 : a < i ∧ i < mid := by simpa using HP2.out.symm
                have hM := HM.out
                have hlo2 := HCUT.out.low
                rw [hM.1] at hlo2
                have HR2 := Lib.hid (HR.out a i mid (rot s i m en) w2 (by omega) hc1.1 hc1.2 (by omega) hlo2 HST2.out)
                clear hc1 hM hlo2
                go_wp2_with fail
                refine HR2.out.mono ?_
                rintro e w3 ⟨rfl, hst3⟩
                have HST3 := Lib.hid hst3
                clear hst3
                go_wp2_with fail
                go_meet
                case rel => exact HST3.out
              | false =>
                have HE : Hid (Srt B (rot s i m en) a mid) := by
                  have hM := HM.out
                  have hc1 := HP2.out
                  have hlo2 := HCUT.out.low
                  rw [hM.1] at hlo2
                  by_cases hc2 : a < i
                  · have hc3 : ¬ i < mid := fun hc3 => by rw [decide_eq_true hc2, decide_eq_true hc3] at hc1; cases hc1
                    have he : mid = i := by omega
                    show Srt _ _ _ _
                    rw [he]; exact hlo2.l
                  · have he : i = a := by omega
                    have h5 := hlo2.r
                    rw [he] at h5 ⊢
                    exact h5
                go_wp2_with fail
                go_meet
                case rel => exact ⟨_, HST2.out, HE.out, Im.refl _ _ _⟩
            case rest =>
              obtain ⟨s2, hst2, hsrt2, him2⟩ := hcut
              have HST4 := Lib.hid hst2
              have HSRT2 := Lib.hid hsrt2
              have HIM2 := Lib.hid him2
              obtain ⟨w4, hw4⟩ : ∃ W, W = wc := ⟨_, rfl⟩
              rw [← hw4] at HST4 ⊢
              clear hst2 hsrt2 him2 hw4
              obtain ⟨p3, hp⟩ : ∃ p, p = (decide (mid < en) && decide (en < b)) := ⟨_, rfl⟩
              have HP3 := Lib.hid hp
              clear hp
              go_upto_region 43 with fail
              go_cut [213] from 206 to 213 (fun x wc => x = .bool p3 ∧ w4 = wc)
              case first =>
                rcases Nat.lt_or_ge mid en with c1 | c1
                · rcases Nat.lt_or_ge en b with c2 | c2
                  · have c3 : decide (mid < en) = true := decide_eq_true c1
                    have c4 : decide (en < b) = true := decide_eq_true c2
                    go_wp2_with fail
                    go_meet
                    case rel => exact ⟨congrArg Value.bool (by rw [HP3.out, c3, c4]; rfl), rfl⟩
                  · have c3 : decide (mid < en) = true := decide_eq_true c1
                    have c4 : decide (en < b) = false := decide_eq_false (by omega)
                    have c5 : ¬ en < b := by omega
                    go_wp2_with fail
                    go_meet
                    case rel => exact ⟨congrArg Value.bool (by rw [HP3.out, c3, c4]; rfl), rfl⟩
                · have c3 : decide (mid < en) = false := decide_eq_false (by omega)
                  have c5 : ¬ mid < en := by omega
                  go_wp2_with fail
                  go_meet
                  case rel => exact ⟨congrArg Value.bool (by rw [HP3.out, c3]; rfl), rfl⟩
              case rest =>
                obtain ⟨rfl, rfl⟩ := hcut
                have HHI2 : Hid (Halves B s2 mid en b) := by
                  have hM := HM.out
                  have h5 := HCUT.out.high
                  rw [hM.1] at h5
                  exact h5.congr (fun k k1 k2 => HIM2.out.out k (Or.inr k1)) (by omega) (by omega)
                cases p3 with
                | true =>
                  have hc1 : mid < en ∧ en < b := by simpa using HP3.out.symm
                  have hM := HM.out
                  have HR3 := Lib.hid (HR.out mid en b s2 w4 (by omega) hc1.1 hc1.2 (by omega) HHI2.out HST4.out)
                  clear hc1 hM
                  go_wp2_with fail
                  refine HR3.out.mono ?_
                  rintro e w5 ⟨rfl, s3, hst5, hsrt5, him5⟩
                  have HST5 := Lib.hid hst5
                  have HD := Lib.hid (HCUT.out.done HB.out (s2 := s2) (s3 := s3) (HM.out.1.symm ▸ HIM2.out) (HM.out.1.symm ▸ HSRT2.out) (HM.out.1.symm ▸ him5) (HM.out.1.symm ▸ hsrt5))
                  clear hst5 hsrt5 him5
                  go_wp2_with fail
                  go_end0
                  exact ⟨rfl, _, HST5.out, HD.out.1, HD.out.2⟩
                | false =>
                  have HE : Hid (Srt B s2 mid b) := by
                    have hM := HM.out
                    have hc1 := HP3.out
                    have h5 := HHI2.out
                    by_cases hc2 : mid < en
                    · have hc3 : ¬ en < b := fun hc3 => by rw [decide_eq_true hc2, decide_eq_true hc3] at hc1; cases hc1
                      have he : b = en := by omega
                      show Srt _ _ _ _
                      rw [he]; exact h5.l
                    · have he : en = mid := by omega
                      have h6 := h5.r
                      rw [he] at h6
                      exact h6
                  have HD := Lib.hid (HCUT.out.done HB.out (s2 := s2) (s3 := s2) (HM.out.1.symm ▸ HIM2.out) (HM.out.1.symm ▸ HSRT2.out) (Im.refl _ _ _) (HM.out.1.symm ▸ HE.out))
                  go_wp2_with fail
                  go_end0
                  exact ⟨rfl, _, HST4.out, HD.out.1, HD.out.2⟩

set_option maxHeartbeats 3200000 in
theorem sym_lo {v : Nat → Int} {B : Nat → Nat → Bool} {g n cap F : Nat} {caps : Array Value} {cf : Nat → Nat → Int} {w0 w : World} {s : Nat → Nat} (hB : Sto B) (hc : Cm v B n g w0 F caps cf) (h : St v g n cap w0 w s) (hn : n ≤ 1000000) (a m b : Nat) (ham : a + 1 < m) (hmb : m + 1 < b) (hbn : b ≤ n) (hh : Halves B s a m b)
    (hr : Smaller v B g n cap F caps w0 (b - a)) (hside : m ≤ (a + b) / 2) :
    Calls Try.prog 74 #[.slice (some ⟨g, 0, none⟩) n cap, .int .i64 (a : Int), .int .i64 (m : Int), .int .i64 (b : Int), .func (.func F) #[] caps] w fun e w' => e = .returned (.tuple #[]) ∧ Mgd v B g n cap w0 s a b w' := by
  obtain ⟨d, hd⟩ : ∃ d, d = m - a := ⟨_, rfl⟩
  obtain ⟨d', hd'⟩ : ∃ d', d' = b - m := ⟨_, rfl⟩
  obtain ⟨q0, hq0⟩ : ∃ q, q = a + b := ⟨_, rfl⟩
  obtain ⟨mid, hmid⟩ : ∃ x, x = q0 / 2 := ⟨_, rfl⟩
  obtain ⟨nn, hnn⟩ : ∃ x, x = mid + m := ⟨_, rfl⟩
  obtain ⟨pp, hpp⟩ : ∃ x, x = nn - 1 := ⟨_, rfl⟩
  have HS := Lib.hid h
  have HB := Lib.hid hB
  have HH := Lib.hid hh
  have HR := Lib.hid hr
  have eg := hc.eg
  have HC := Lib.hid hc
  have HX := Lib.hid (show a + 1 < m ∧ m + 1 < b ∧ b ≤ n ∧ n ≤ 1000000 ∧ mid = (a + b) / 2 ∧ nn = mid + m ∧ pp = nn - 1 ∧ a = (if mid < m then mid + m - b else a) ∧ m = (if mid < m then mid else m) ∧ a ≤ m ∧ m ≤ mid ∧ m ≤ m ∧ a ≤ a by
    refine ⟨ham, hmb, hbn, hn, by omega, hnn, hpp, ?_, ?_, by omega, by omega, by omega, by omega⟩
    · split <;> omega
    · split <;> omega)
  have e1 : IntKind.i64.wrap ((m : Int) - (a : Int)) = (d : Int) := by rw [wrap_id (by omega)]; omega
  have d1 : ((d : Int) == 1) = false := by simp; omega
  have d2 : ¬ d = 1 := by omega
  have e2 : IntKind.i64.wrap ((b : Int) - (m : Int)) = (d' : Int) := by rw [wrap_id (by omega)]; omega
  have d3 : ((d' : Int) == 1) = false := by simp; omega
  have d4 : ¬ d' = 1 := by omega
  have e3 : IntKind.i64.wrap ((a : Int) + (b : Int)) = (q0 : Int) := by rw [wrap_id (by omega)]; omega
  have e4 : IntKind.u64.wrap (q0 : Int) = (q0 : Int) := by rw [IntKind.wrap_u64]; omega
  have e5 : (q0 : Int) / 2 = (mid : Int) := by omega
  have e6 : IntKind.i64.wrap (mid : Int) = (mid : Int) := wrap_id (by omega)
  have e7 : IntKind.i64.wrap ((mid : Int) + (m : Int)) = (nn : Int) := by rw [wrap_id (by omega)]; omega
  have s1 : ¬ mid < m := by omega
  have e9 : IntKind.i64.wrap ((nn : Int) - 1) = (pp : Int) := by rw [wrap_id (by omega)]; omega
  clear h hB hc hh hr hn ham hmb hbn hside hd hd' hq0 hmid hnn hpp
  go_enter Try.func74, Try.ntmps74
  go_wp2_with fail
  go_loopw [20, 21, 23] (fun x y _ wr => ∃ i j : Nat, x = .int .i64 (i : Int) ∧ y = .int .i64 (j : Int) ∧ a ≤ i ∧ i ≤ j ∧ j ≤ m ∧ (a < i → B (s (pp - (i - 1))) (s (i - 1)) = false) ∧ (j < m → B (s (pp - j)) (s j) = true) ∧ St v g n cap w0 wr s) (fun x y _ _ => (RowKit.intOf y).toNat - (RowKit.intOf x).toNat)
  case atStart => exact ⟨a, m, rfl, rfl, Nat.le_refl _, HX.out.2.2.2.2.2.2.2.2.2.1, Nat.le_refl _, fun h => by omega, fun h => by omega, HS.out⟩
  case round =>
    obtain ⟨i, j, rfl, rfl, h1, h2, h3, hlo, hhi, hst⟩ := hrel
    have HLO := Lib.hid hlo
    have HHI := Lib.hid hhi
    have HST := Lib.hid hst
    obtain ⟨x1, x2, x3, x4, x5, x6, x7, x8, x9, x10, x11, x12, x13⟩ := HX.out
    clear hst hlo hhi e1 e2 e3 e4 e5 e6 e7 s1 e9 d1 d2 d3 d4
    rcases Nat.lt_or_ge i j with hlt | hge
    · obtain ⟨q, hq⟩ : ∃ x, x = i + j := ⟨_, rfl⟩
      obtain ⟨h, hh⟩ : ∃ x, x = q / 2 := ⟨_, rfl⟩
      obtain ⟨r, hr⟩ : ∃ x, x = pp - h := ⟨_, rfl⟩
      have e1 : IntKind.i64.wrap ((i : Int) + (j : Int)) = (q : Int) := by rw [wrap_id (by omega)]; omega
      have e2 : IntKind.u64.wrap (q : Int) = (q : Int) := by rw [IntKind.wrap_u64]; omega
      have e3 : (q : Int) / 2 = (h : Int) := by omega
      have e4 : IntKind.i64.wrap (h : Int) = (h : Int) := wrap_id (by omega)
      have e5 : IntKind.i64.wrap ((h : Int) + 1) = ((h + 1 : Nat) : Int) := wrap_id (by omega)
      have e6 : IntKind.i64.wrap ((pp : Int) - (h : Int)) = (r : Int) := by rw [wrap_id (by omega)]; omega
      have hrb : m ≤ r ∧ r < b := by
        clear HLO HHI e1 e2 e3 e4 e5 e6
        by_cases hc : mid < m
        · rw [if_pos hc] at x8 x9; omega
        · rw [if_neg hc] at x8 x9; omega
      have ht := HH.out.t h r (by omega) (by omega) hrb.1 hrb.2
      have hbd := HST.out.b r (by omega)
      have cr := HST.out.cell (k := r) (by omega)
      have ch := HST.out.cell (k := h) (by omega)
      have HNEG := Lib.hid (HC.out.neg (s r) (s h) ht hbd)
      have HCALL := Lib.hid (fun W => HC.out.call (s r) (s h) W ht hbd)
      have HP := Lib.hid (show i ≤ h ∧ h < j ∧ r < n ∧ h < n ∧ h + 1 ≤ j ∧ r = pp - h by omega)
      have i2 : (h : Int) < (n : Int) := by omega
      have i3 : (0 : Int) ≤ (h : Int) := by omega
      have i4 : (r : Int) < (n : Int) := by omega
      have i5 : (0 : Int) ≤ (r : Int) := by omega
      obtain ⟨x, hx⟩ : ∃ x, x = v (s r) := ⟨_, rfl⟩
      obtain ⟨y, hy⟩ : ∃ y, y = v (s h) := ⟨_, rfl⟩
      obtain ⟨z, hz⟩ : ∃ z, z = cf (s r) (s h) := ⟨_, rfl⟩
      rw [← hx] at cr HCALL
      rw [← hy] at ch HCALL
      rw [← hz] at HCALL HNEG
      have HX1 := Lib.hid (HCALL.out wr.drew HST.out.drew.off)
      have HK := Lib.hid (HST.out.keep HP.out.2.2.1 HP.out.2.2.2.1 hx hy)
      clear hq hh hr hrb ht hbd hx hy hz HCALL x1 x2 x3 x4 x5 x6 x7 x8 x9 x10 x11 x12 x13
      cases hb : B (s r) (s h) with
      | true =>
        rw [hb] at HNEG
        have b1 := HNEG.out
        go_wp2_with fail
        go_region_held3 (fun W' => W'.cell? ⟨g, r, none⟩ = some (.int .i64 x) ∧ W'.cell? ⟨g, h, none⟩ = some (.int .i64 y))
          (first | go_keep | exact HK.out _ hb2) (first | (go_at_fn F; (with_reducible refine HX1.out.mono ?_); rintro e w2 ⟨rfl, hb2⟩))
        have HST3 := Lib.hid (HST.out.drew.on hb2)
        clear cr ch hb2
        go_wp2_with fail
        go_roundw
        case rel =>
          have := HP.out
          exact ⟨i, h, rfl, rfl, h1, by omega, by omega, HLO.out, fun _ => by rw [← HP.out.2.2.2.2.2]; exact hb, HST3.out⟩
        case measure =>
          have := HP.out
          simp [RowKit.intOf]; omega
      | false =>
        rw [hb] at HNEG
        have b1 := HNEG.out
        go_wp2_with fail
        go_region_held3 (fun W' => W'.cell? ⟨g, r, none⟩ = some (.int .i64 x) ∧ W'.cell? ⟨g, h, none⟩ = some (.int .i64 y))
          (first | go_keep | exact HK.out _ hb2) (first | (go_at_fn F; (with_reducible refine HX1.out.mono ?_); rintro e w2 ⟨rfl, hb2⟩))
        have HST3 := Lib.hid (HST.out.drew.on hb2)
        clear cr ch hb2
        go_wp2_with fail
        go_roundw
        case rel =>
          have := HP.out
          exact ⟨h + 1, j, rfl, rfl, by omega, by omega, h3, fun _ => by rw [Nat.add_sub_cancel, ← HP.out.2.2.2.2.2]; exact hb, HHI.out, HST3.out⟩
        case measure =>
          have := HP.out
          simp [RowKit.intOf]; omega
    · obtain rfl : i = j := by omega
      obtain ⟨en, hen⟩ : ∃ x, x = nn - i := ⟨_, rfl⟩
      have e1 : IntKind.i64.wrap ((nn : Int) - (i : Int)) = (en : Int) := by rw [wrap_id (by omega)]; omega
      have HCUT : Hid (Cut B s a m b i en) := by
        have h5 := HH.out.cut HB.out x5 (by omega) (by omega) x8 x9 h1 h3 (by rw [← x6, ← x7]; exact HLO.out) (by rw [← x6, ← x7]; exact HHI.out)
        rw [hen, x6]; exact h5
      have HM := Lib.hid (show i + (en - m) = mid ∧ a < mid ∧ mid < b ∧ i ≤ mid ∧ m ≤ en ∧ en ≤ b ∧ i ≤ m ∧ a ≤ i ∧ mid ≤ en ∧ n ≤ 1000000 ∧ b ≤ n by
        have := HCUT.out.mj; have := HCUT.out.jb; have := HCUT.out.ai; have := HCUT.out.im
        refine ⟨by omega, by omega, by omega, by omega, by omega, by omega, by omega, by omega, by omega, by omega, by omega⟩)
      clear h1 h2 h3 hge hen HLO HHI x1 x2 x3 x4 x5 x6 x7 x8 x9 x10 x11 x12 x13
      obtain ⟨p1, hp⟩ : ∃ p, p = (decide (i < m) && decide (m < en)) := ⟨_, rfl⟩
      have HP1 := Lib.hid hp
      clear hp
      go_upto_region 39 with fail
      go_cut [185] from 178 to 185 (fun x wc => x = .bool p1 ∧ wr = wc)
      case first =>
        rcases Nat.lt_or_ge i m with c1 | c1
        · rcases Nat.lt_or_ge m en with c2 | c2
          · have c3 : decide (i < m) = true := decide_eq_true c1
            have c4 : decide (m < en) = true := decide_eq_true c2
            go_wp2_with fail
            go_meet
            case rel => exact ⟨congrArg Value.bool (by rw [HP1.out, c3, c4]; rfl), rfl⟩
          · have c3 : decide (i < m) = true := decide_eq_true c1
            have c4 : decide (m < en) = false := decide_eq_false (by omega)
            have c5 : ¬ m < en := by omega
            go_wp2_with fail
            go_meet
            case rel => exact ⟨congrArg Value.bool (by rw [HP1.out, c3, c4]; rfl), rfl⟩
        · have c3 : decide (i < m) = false := decide_eq_false (by omega)
          have c5 : ¬ i < m := by omega
          go_wp2_with fail
          go_meet
          case rel => exact ⟨congrArg Value.bool (by rw [HP1.out, c3]; rfl), rfl⟩
      case rest =>
        obtain ⟨rfl, rfl⟩ := hcut
        go_upto_if 185 with fail
        go_cut [] from 186 to 191 (fun wc => St v g n cap w0 wc (rot s i m en))
        case first =>
          cases p1 with
          | true =>
            have hc1 : i < m ∧ m < en := by simpa using HP1.out.symm
            have HR1 := Lib.hid (rotate HST.out HM.out.2.2.2.2.2.2.2.2.2.1 i m en hc1.1 hc1.2 (Nat.le_trans HM.out.2.2.2.2.2.1 HM.out.2.2.2.2.2.2.2.2.2.2) F caps)
            clear hc1
            go_wp2_with fail
            refine HR1.out.mono ?_
            rintro e w2 ⟨rfl, hst2⟩
            have HST2 := Lib.hid hst2
            clear hst2
            go_wp2_with fail
            go_meet
            case rel => exact HST2.out
          | false =>
            have HE : Hid (s = rot s i m en) := by
              have hM := HM.out
              have hc1 := HP1.out
              by_cases hc2 : i < m
              · have hc3 : ¬ m < en := fun hc3 => by rw [decide_eq_true hc2, decide_eq_true hc3] at hc1; cases hc1
                have he : en = m := by omega
                show s = _
                rw [he]; exact (rot_right s (by omega)).symm
              · have he : i = m := by omega
                show s = _
                rw [he]; exact (rot_left s _ (by omega)).symm
            go_wp2_with fail
            go_meet
            case rel => exact HST.out.to HE.out
        case rest =>
          have HST2 := Lib.hid hcut
          obtain ⟨w2, hw2⟩ : ∃ W, W = wc := ⟨_, rfl⟩
          rw [← hw2] at HST2 ⊢
          clear hcut hw2
          obtain ⟨p2, hp⟩ : ∃ p, p = (decide (a < i) && decide (i < mid)) := ⟨_, rfl⟩
          have HP2 := Lib.hid hp
          clear hp
          go_upto_region 41 with fail
          go_cut [199] from 192 to 199 (fun x wc => x = .bool p2 ∧ w2 = wc)
          case first =>
            rcases Nat.lt_or_ge a i with c1 | c1
            · rcases Nat.lt_or_ge i mid with c2 | c2
              · have c3 : decide (a < i) = true := decide_eq_true c1
                have c4 : decide (i < mid) = true := decide_eq_true c2
                go_wp2_with fail
                go_meet
                case rel => exact ⟨congrArg Value.bool (by rw [HP2.out, c3, c4]; rfl), rfl⟩
              · have c3 : decide (a < i) = true := decide_eq_true c1
                have c4 : decide (i < mid) = false := decide_eq_false (by omega)
                have c5 : ¬ i < mid := by omega
                go_wp2_with fail
                go_meet
                case rel => exact ⟨congrArg Value.bool (by rw [HP2.out, c3, c4]; rfl), rfl⟩
            · have c3 : decide (a < i) = false := decide_eq_false (by omega)
              have c5 : ¬ a < i := by omega
              go_wp2_with fail
              go_meet
              case rel => exact ⟨congrArg Value.bool (by rw [HP2.out, c3]; rfl), rfl⟩
          case rest =>
            obtain ⟨rfl, rfl⟩ := hcut
            go_upto_if 199 with fail
            go_cut [] from 200 to 205 (fun wc => Mgd v B g n cap w0 (rot s i m en) a mid wc)
            case first =>
              cases p2 with
              | true =>
                have hc1 : a < i ∧ i < mid := by simpa using HP2.out.symm
                have hM := HM.out
                have hlo2 := HCUT.out.low
                rw [hM.1] at hlo2
                have HR2 := Lib.hid (HR.out a i mid (rot s i m en) w2 (by omega) hc1.1 hc1.2 (by omega) hlo2 HST2.out)
                clear hc1 hM hlo2
                go_wp2_with fail
                refine HR2.out.mono ?_
                rintro e w3 ⟨rfl, hst3⟩
                have HST3 := Lib.hid hst3
                clear hst3
                go_wp2_with fail
                go_meet
                case rel => exact HST3.out
              | false =>
                have HE : Hid (Srt B (rot s i m en) a mid) := by
                  have hM := HM.out
                  have hc1 := HP2.out
                  have hlo2 := HCUT.out.low
                  rw [hM.1] at hlo2
                  by_cases hc2 : a < i
                  · have hc3 : ¬ i < mid := fun hc3 => by rw [decide_eq_true hc2, decide_eq_true hc3] at hc1; cases hc1
                    have he : mid = i := by omega
                    show Srt _ _ _ _
                    rw [he]; exact hlo2.l
                  · have he : i = a := by omega
                    have h5 := hlo2.r
                    rw [he] at h5 ⊢
                    exact h5
                go_wp2_with fail
                go_meet
                case rel => exact ⟨_, HST2.out, HE.out, Im.refl _ _ _⟩
            case rest =>
              obtain ⟨s2, hst2, hsrt2, him2⟩ := hcut
              have HST4 := Lib.hid hst2
              have HSRT2 := Lib.hid hsrt2
              have HIM2 := Lib.hid him2
              obtain ⟨w4, hw4⟩ : ∃ W, W = wc := ⟨_, rfl⟩
              rw [← hw4] at HST4 ⊢
              clear hst2 hsrt2 him2 hw4
              obtain ⟨p3, hp⟩ : ∃ p, p = (decide (mid < en) && decide (en < b)) := ⟨_, rfl⟩
              have HP3 := Lib.hid hp
              clear hp
              go_upto_region 43 with fail
              go_cut [213] from 206 to 213 (fun x wc => x = .bool p3 ∧ w4 = wc)
              case first =>
                rcases Nat.lt_or_ge mid en with c1 | c1
                · rcases Nat.lt_or_ge en b with c2 | c2
                  · have c3 : decide (mid < en) = true := decide_eq_true c1
                    have c4 : decide (en < b) = true := decide_eq_true c2
                    go_wp2_with fail
                    go_meet
                    case rel => exact ⟨congrArg Value.bool (by rw [HP3.out, c3, c4]; rfl), rfl⟩
                  · have c3 : decide (mid < en) = true := decide_eq_true c1
                    have c4 : decide (en < b) = false := decide_eq_false (by omega)
                    have c5 : ¬ en < b := by omega
                    go_wp2_with fail
                    go_meet
                    case rel => exact ⟨congrArg Value.bool (by rw [HP3.out, c3, c4]; rfl), rfl⟩
                · have c3 : decide (mid < en) = false := decide_eq_false (by omega)
                  have c5 : ¬ mid < en := by omega
                  go_wp2_with fail
                  go_meet
                  case rel => exact ⟨congrArg Value.bool (by rw [HP3.out, c3]; rfl), rfl⟩
              case rest =>
                obtain ⟨rfl, rfl⟩ := hcut
                have HHI2 : Hid (Halves B s2 mid en b) := by
                  have hM := HM.out
                  have h5 := HCUT.out.high
                  rw [hM.1] at h5
                  exact h5.congr (fun k k1 k2 => HIM2.out.out k (Or.inr k1)) (by omega) (by omega)
                cases p3 with
                | true =>
                  have hc1 : mid < en ∧ en < b := by simpa using HP3.out.symm
                  have hM := HM.out
                  have HR3 := Lib.hid (HR.out mid en b s2 w4 (by omega) hc1.1 hc1.2 (by omega) HHI2.out HST4.out)
                  clear hc1 hM
                  go_wp2_with fail
                  refine HR3.out.mono ?_
                  rintro e w5 ⟨rfl, s3, hst5, hsrt5, him5⟩
                  have HST5 := Lib.hid hst5
                  have HD := Lib.hid (HCUT.out.done HB.out (s2 := s2) (s3 := s3) (HM.out.1.symm ▸ HIM2.out) (HM.out.1.symm ▸ HSRT2.out) (HM.out.1.symm ▸ him5) (HM.out.1.symm ▸ hsrt5))
                  clear hst5 hsrt5 him5
                  go_wp2_with fail
                  go_end0
                  exact ⟨rfl, _, HST5.out, HD.out.1, HD.out.2⟩
                | false =>
                  have HE : Hid (Srt B s2 mid b) := by
                    have hM := HM.out
                    have hc1 := HP3.out
                    have h5 := HHI2.out
                    by_cases hc2 : mid < en
                    · have hc3 : ¬ en < b := fun hc3 => by rw [decide_eq_true hc2, decide_eq_true hc3] at hc1; cases hc1
                      have he : b = en := by omega
                      show Srt _ _ _ _
                      rw [he]; exact h5.l
                    · have he : en = mid := by omega
                      have h6 := h5.r
                      rw [he] at h6
                      exact h6
                  have HD := Lib.hid (HCUT.out.done HB.out (s2 := s2) (s3 := s2) (HM.out.1.symm ▸ HIM2.out) (HM.out.1.symm ▸ HSRT2.out) (Im.refl _ _ _) (HM.out.1.symm ▸ HE.out))
                  go_wp2_with fail
                  go_end0
                  exact ⟨rfl, _, HST4.out, HD.out.1, HD.out.2⟩
end Go.Proofs.Ytdolhanniiejfaa.Stable
/- A stable sort in memory: the merge of every two parts; the whole; slices.SortStableFunc. -/
namespace Go.Proofs.Ytdolhanniiejfaa.Stable
open Go.ChangeShapes Go.WideShapes Go.RowKit Go.Lib Go.Proofs.Ytdolhanniiejfaa.Mem
set_option linter.unusedVariables false
set_option maxRecDepth 100000

theorem merges {v : Nat → Int} {B : Nat → Nat → Bool} {g n cap F : Nat} {caps : Array Value} {cf : Nat → Nat → Int} {w0 : World} (hB : Sto B) (hc : Cm v B n g w0 F caps cf) (hn : n ≤ 1000000) : ∀ d, Smaller v B g n cap F caps w0 d := by
  intro d
  induction d with
  | zero => intro a m b s w h; omega
  | succ d ih =>
    intro a m b s w hd ham hmb hbn hh hs
    by_cases h1 : m = a + 1
    · subst h1
      exact sym_left hB hc hs hn a b hmb hbn hh
    · by_cases h2 : b = m + 1
      · subst h2
        exact sym_right hB hc hs hn a m (by omega) hbn hh
      · have hr : Smaller v B g n cap F caps w0 (b - a) := fun a' m' b' s' w' hd' => ih a' m' b' s' w' (by omega)
        rcases Nat.lt_or_ge ((a + b) / 2) m with h3 | h3
        · exact sym_hi hB hc hs hn a m b (by omega) (by omega) hbn hh hr h3
        · exact sym_lo hB hc hs hn a m b (by omega) (by omega) hbn hh hr h3

set_option maxHeartbeats 3200000 in
theorem stable {v : Nat → Int} {B : Nat → Nat → Bool} {g n cap F : Nat} {caps : Array Value} {cf : Nat → Nat → Int} {w0 w : World} {s : Nat → Nat} (hB : Sto B) (hc : Cm v B n g w0 F caps cf) (h : St v g n cap w0 w s) (hn : n ≤ 100000) (hid : ∀ k, s k = k) :
    Calls Try.prog 56 #[.slice (some ⟨g, 0, none⟩) n cap, .int .i64 (n : Int), .func (.func F) #[] caps] w fun e w' => e = .returned (.tuple #[]) ∧ ∃ s', St v g n cap w0 w' s' ∧ Srt B s' 0 n ∧ ∀ k, k < n → s' k < n := by
  have HS := Lib.hid h
  have HB := Lib.hid hB
  have HN := Lib.hid hn
  have HID := Lib.hid hid
  have HC := Lib.hid hc
  have HMG := Lib.hid (fun d => merges (cap := cap) hB hc (Nat.le_trans hn (by omega)) d)
  clear h hB hn hid hc
  go_enter Try.func56, Try.ntmps56
  go_wp2_with fail
  go_loopw [7, 8] (fun x y wr => ∃ (t a b : Nat) (c : Nat → Nat), x = .int .i64 (a : Int) ∧ y = .int .i64 (b : Int) ∧ a = t * 20 ∧ b = a + 20 ∧ St v g n cap w0 wr c ∧ Ph1 B c n t) (fun x _ _ => n - (RowKit.intOf x).toNat)
  case atStart => exact ⟨0, 0, 20, s, rfl, rfl, rfl, rfl, HS.out, Ph1.start n HID.out⟩
  case round =>
    obtain ⟨t, a, b, c, rfl, rfl, ha, hb, hst, hph⟩ := hrel
    have HST := Lib.hid hst
    have HPH := Lib.hid hph
    have HA := Lib.hid (show a = t * 20 ∧ b = a + 20 ∧ a ≤ n by have := hph.le; omega)
    have hN := HN.out
    clear hst hph
    rcases Nat.lt_or_ge n b with hlt | hge
    · have b1 : ¬ b ≤ n := by omega
      have b2 : decide (b ≤ n) = false := decide_eq_false (by omega)
      have HINS := Lib.hid (insertion HB.out HC.out HST.out (by omega) a n HA.out.2.2 (Nat.le_refl _) (fun p q h1 h2 h3 => by rw [HPH.out.rest p (by omega), HPH.out.rest q (by omega)]; exact h2))
      clear ha hb hN hlt
      go_wp2_with fail
      refine HINS.out.mono ?_
      rintro e w2 ⟨rfl, s2, hst2, hsrt2, him2⟩
      have HST2 := Lib.hid hst2
      have HBLS : Hid (Bls B s2 20 n) := HPH.out.all (by have := HA.out; omega) (HA.out.1 ▸ hsrt2) (HA.out.1 ▸ him2)
      clear hst2 hsrt2 him2 HINS
      go_wp2_with fail
      go_loopw [6, 7, 8, 9] (fun x _ _ _ wr => ∃ (z : Nat) (c : Nat → Nat), x = .int .i64 (z : Int) ∧ 0 < z ∧ z ≤ 200000 ∧ St v g n cap w0 wr c ∧ Bls B c z n) (fun x _ _ _ _ => n - (RowKit.intOf x).toNat)
      case atStart => exact ⟨20, s2, rfl, by omega, by omega, HST2.out, HBLS.out⟩
      case round =>
        obtain ⟨z, c3, rfl, hz, hz2, hst, hbls⟩ := hrel
        have HST3 := Lib.hid hst
        have HBL3 := Lib.hid hbls
        have hN := HN.out
        clear hst hbls
        rcases Nat.lt_or_ge z n with hlt | hge
        · obtain ⟨y, hy⟩ : ∃ y, y = 2 * z := ⟨_, rfl⟩
          have e1 : IntKind.i64.wrap (2 * (z : Int)) = (y : Int) := by rw [wrap_id (by omega)]; omega
          have e1' : IntKind.i64.wrap ((z : Int) * 2) = (y : Int) := by rw [wrap_id (by omega)]; omega
          have b1 : z < n := hlt
          have HZ := Lib.hid (show 0 < z ∧ z < n ∧ n ≤ 100000 ∧ y = 2 * z by omega)
          have HPS : Hid (Ph2 B c3 z n 0 0) := Ph2.start HBL3.out
          clear hy hz hz2 hN hlt
          go_wp2_with fail
          go_loopw [7, 8] (fun x u wr => ∃ (t a b : Nat) (c : Nat → Nat), x = .int .i64 (a : Int) ∧ u = .int .i64 (b : Int) ∧ b = a + y ∧ St v g n cap w0 wr c ∧ Ph2 B c z n t a) (fun x _ _ => n - (RowKit.intOf x).toNat)
          case atStart => exact ⟨0, 0, y, c3, rfl, rfl, by omega, HST3.out, HPS.out⟩
          case round =>
            obtain ⟨t, a, b, c4, rfl, rfl, hb, hst, hph⟩ := hrel
            have HST4 := Lib.hid hst
            have HPH4 := Lib.hid hph
            have hZ := HZ.out
            have hle := hph.le
            have HB2 := Lib.hid hb
            clear hst hph
            obtain ⟨m, hm⟩ : ∃ m, m = a + z := ⟨_, rfl⟩
            have e2 : IntKind.i64.wrap ((a : Int) + (z : Int)) = (m : Int) := by rw [wrap_id (by omega)]; omega
            rcases Nat.lt_or_ge n b with hlt | hge
            · have b2 : ¬ b ≤ n := by omega
              have HFIN : Hid (n < a + 2 * z) := (by omega : n < a + 2 * z)
              rcases Nat.lt_or_ge m n with hmn | hmn
              · have HHV := Lib.hid (show Halves B c4 a m n from by
                  have q1 := HPH4.out.first
                  have q2 := HPH4.out.second
                  rw [Nat.min_eq_left (by omega)] at q1
                  rw [Nat.min_eq_right (by omega)] at q2
                  rw [hm]; exact q1.halves q2)
                have HM := Lib.hid (HMG.out (n - a + 1) a m n c4 wr (by omega) (by omega) hmn (Nat.le_refl _) HHV.out HST4.out)
                have HMA := Lib.hid (show a + z < n by omega)
                have b3 : m < n := hmn
                clear hm hZ hle hb hlt hmn
                go_wp2_with fail
                refine HM.out.mono ?_
                rintro e w5 ⟨rfl, s5, hst5, hsrt5, him5⟩
                have HST5 := Lib.hid hst5
                have HBLS5 : Hid (Bls B s5 (2 * z) n) := HPH4.out.last HFIN.out HMA.out hsrt5 him5
                clear hst5 hsrt5 him5
                go_wp2_with fail
                go_roundw
                case rel => exact ⟨y, s5, rfl, by have := HZ.out; omega, by have := HZ.out; omega, HST5.out, by rw [HZ.out.2.2.2]; exact HBLS5.out⟩
                case measure =>
                  have := HZ.out
                  simp [RowKit.intOf]; omega
              · have HBLS5 : Hid (Bls B c4 (2 * z) n) := HPH4.out.alone HFIN.out (by omega)
                have b3 : ¬ m < n := by omega
                clear hm hZ hle hb hlt hmn
                go_wp2_with fail
                go_roundw
                case rel => exact ⟨y, c4, rfl, by have := HZ.out; omega, by have := HZ.out; omega, HST4.out, by rw [HZ.out.2.2.2]; exact HBLS5.out⟩
                case measure =>
                  have := HZ.out
                  simp [RowKit.intOf]; omega
            · obtain ⟨b', hb'⟩ : ∃ b', b' = b + y := ⟨_, rfl⟩
              have e3 : IntKind.i64.wrap ((b : Int) + (y : Int)) = (b' : Int) := by rw [wrap_id (by omega)]; omega
              have b2 : b ≤ n := hge
              have HHV := Lib.hid (show Halves B c4 a m b from by
                have q1 := HPH4.out.first
                have q2 := HPH4.out.second
                rw [Nat.min_eq_left (by omega)] at q1 q2
                rw [hm, show b = a + 2 * z by omega]; exact q1.halves q2)
              have HM := Lib.hid (HMG.out (b - a + 1) a m b c4 wr (by omega) (by omega) (by omega) hge HHV.out HST4.out)
              have HLE : Hid (a + 2 * z ≤ n ∧ b = a + 2 * z ∧ b' = b + y) := (by omega : a + 2 * z ≤ n ∧ b = a + 2 * z ∧ b' = b + y)
              clear hm hZ hle hb hge hb'
              go_wp2_with fail
              refine HM.out.mono ?_
              rintro e w5 ⟨rfl, s5, hst5, hsrt5, him5⟩
              have HST5 := Lib.hid hst5
              have HPH5 : Hid (Ph2 B s5 z n (t + 1) b) := by
                have := HPH4.out.next (s' := s5) HLE.out.1 (HLE.out.2.1 ▸ hsrt5) (HLE.out.2.1 ▸ him5)
                rw [HLE.out.2.1]; exact this
              clear hst5 hsrt5 him5
              go_wp2_with fail
              go_roundw
              case rel => exact ⟨t + 1, b, b', s5, rfl, rfl, HLE.out.2.2, HST5.out, HPH5.out⟩
              case measure =>
                have := HZ.out
                have := HLE.out
                simp [RowKit.intOf]; omega
        · have b1 : ¬ z < n := by omega
          have HD := Lib.hid (HBL3.out.all hge)
          clear hz hz2 hN hge
          go_wp2_with fail
          go_end0
          exact ⟨rfl, _, HST3.out, HD.out.1, HD.out.2⟩
    · obtain ⟨b', hb'⟩ : ∃ b', b' = b + 20 := ⟨_, rfl⟩
      have e3 : IntKind.i64.wrap ((b : Int) + 20) = (b' : Int) := by rw [wrap_id (by omega)]; omega
      have b1 : b ≤ n := hge
      have HINS := Lib.hid (insertion HB.out HC.out HST.out (by omega) a b (by omega) hge (fun p q h1 h2 h3 => by rw [HPH.out.rest p (by omega), HPH.out.rest q (by omega)]; exact h2))
      have HLE : Hid (t * 20 + 20 ≤ n ∧ b = t * 20 + 20 ∧ a = t * 20 ∧ b' = b + 20) := (by omega : t * 20 + 20 ≤ n ∧ b = t * 20 + 20 ∧ a = t * 20 ∧ b' = b + 20)
      clear ha hb hN hb' hge
      go_wp2_with fail
      refine HINS.out.mono ?_
      rintro e w2 ⟨rfl, s2, hst2, hsrt2, him2⟩
      have HST2 := Lib.hid hst2
      have HPH2 : Hid (Ph1 B s2 n (t + 1)) := HPH.out.next HLE.out.1 (by rw [← HLE.out.2.1, ← HLE.out.2.2.1]; exact hsrt2) (by rw [← HLE.out.2.1, ← HLE.out.2.2.1]; exact him2)
      clear hst2 hsrt2 him2 HINS
      go_wp2_with fail
      go_roundw
      case rel => exact ⟨t + 1, b, b', s2, rfl, rfl, by have := HLE.out; omega, HLE.out.2.2.2, HST2.out, HPH2.out⟩
      case measure =>
        have := HLE.out
        simp [RowKit.intOf]; omega

set_option maxHeartbeats 800000 in
/-- slices.SortStableFunc: a row that holds the values v 0, v 1, ..; afterwards what lies where is told by s', in order. -/
theorem sort_stable {v : Nat → Int} {B : Nat → Nat → Bool} {g n cap F : Nat} {caps : Array Value} {cf : Nat → Nat → Int} {w0 w : World} {s : Nat → Nat} (hB : Sto B) (hc : Cm v B n g w0 F caps cf) (h : St v g n cap w0 w s) (hn : n ≤ 100000) (hid : ∀ k, s k = k) :
    Calls Try.prog 37 #[.slice (some ⟨g, 0, none⟩) n cap, .func (.func F) #[] caps] w fun e w' => e = .returned (.tuple #[]) ∧ ∃ s', St v g n cap w0 w' s' ∧ Srt B s' 0 n ∧ ∀ k, k < n → s' k < n := by
  have HM := Lib.hid (stable hB hc h hn hid)
  clear hB hc h hn hid
  go_enter Try.func37, Try.ntmps37
  go_wp2_with fail
  refine HM.out.mono ?_
  rintro e w2 ⟨rfl, s2, h2, h3, h4⟩
  have H2 := Lib.hid h2
  have H3 := Lib.hid h3
  have H4 := Lib.hid h4
  clear h2 h3 h4
  go_wp2_with fail
  go_end0
  exact ⟨rfl, s2, H2.out, H3.out, H4.out⟩
end Go.Proofs.Ytdolhanniiejfaa.Stable
/- The comparison of remainders; share.largestFirst. -/
namespace Go.Proofs.Ytdolhanniiejfaa.Share
open Go.ChangeShapes Go.WideShapes Go.RowKit Go.Lib Go.Proofs.Ytdolhanniiejfaa.Mem Go.Proofs.Ytdolhanniiejfaa.Stable
set_option linter.unusedVariables false
set_option maxRecDepth 100000

theorem own_more {α : Type} {enc : α → Value} {t : TypeId} {B B' g n cap : Nat} {w : World} {L : List α} (h : Own enc t B w (.slice (some ⟨g, 0, none⟩) n cap) L) (hB : B' ≤ g) : Own enc t B' w (.slice (some ⟨g, 0, none⟩) n cap) L := by
  obtain ⟨h1, ⟨e, h0⟩ | ⟨g', cap', cur, e, h2, h3⟩⟩ := h
  · cases e
  · cases e
    exact ⟨h1, Or.inr ⟨g, cap, cur, rfl, hB, h3⟩⟩
/-- The remainder at k against that at i. -/
def cfR (r : Nat → Nat) (i k : Nat) : Int := Lib.compareInt (r k : Int) (r i : Int)
theorem cfR_neg (r : Nat → Nat) {i k : Nat} (h : k < i) : decide (cfR r i k < 0) = bt r i k := by
  unfold cfR Lib.compareInt
  rw [Bool.eq_iff_iff, bt_iff, decide_eq_true_iff]
  by_cases h1 : (r k : Int) < (r i : Int)
  · rw [if_pos h1]; simp; omega
  · rw [if_neg h1]
    split
    · simp; omega
    · simp; omega
theorem bt_sto (r : Nat → Nat) : Sto (bt r) := ⟨bt_irr r, fun i j k h1 h2 => bt_trans h1 h2, fun i j h => bt_total h⟩

set_option maxHeartbeats 800000 in
theorem cmp_run (n c gb : Nat) (A : Option Addr) (r : Nat → Nat) (W : World) (c1 : W.cell? ⟨gb, 0, none⟩ = some (.slice A n c)) (c2 : Cl eI W A (lst (fun i => (r i : Int)) n)) (x y : Nat) (hx : x < n) (hy : y < n) :
    Calls Try.prog 38 #[.int .i64 (x : Int), .int .i64 (y : Int), .pointer (some ⟨gb, 0, none⟩)] W fun e w' => e = .returned (.int .i64 (cfR r x y)) ∧ Below W.heap.size W w' := by
  obtain ⟨b, off, rfl, hb, k1⟩ := c2 x _ (lst_at _ hx)
  obtain ⟨b', off', e, hb', k2⟩ := c2 y _ (lst_at _ hy)
  cases e
  obtain ⟨p, hp⟩ : ∃ p : Int, p = (r x : Int) := ⟨_, rfl⟩
  obtain ⟨q, hq⟩ : ∃ q : Int, q = (r y : Int) := ⟨_, rfl⟩
  have HRES : Hid (cfR r x y = Lib.compareInt q p) := (by rw [hp, hq]; rfl : cfR r x y = Lib.compareInt q p)
  have f1 : W.cell? ⟨b, off + x, none⟩ = some (.int .i64 p) := by rw [k1, hp]
  have f2 : W.cell? ⟨b, off + y, none⟩ = some (.int .i64 q) := by rw [k2, hq]
  have i1 : (x : Int) < (n : Int) := by omega
  have i2 : (0 : Int) ≤ (x : Int) := by omega
  have i3 : (y : Int) < (n : Int) := by omega
  have i4 : (0 : Int) ≤ (y : Int) := by omega
  have hcon := fun W => Try.cmp_Compare_int q p W
  obtain ⟨z, hz⟩ : ∃ z, z = Lib.compareInt q p := ⟨_, rfl⟩
  rw [← hz] at hcon HRES
  have HCON := Lib.hid hcon
  clear hcon hz hp hq c2 k1 k2 hb'
  go_enter Try.func38, Try.ntmps38
  go_wp2_with fail
  go_quiet ((go_at_call 39; refine Calls.quiet_of_same (HCON.out _)))
  go_wp2_with fail
  go_ret
  exact ⟨ret_int HRES.out.symm, below_drewN (Below.refl _ _) _⟩

theorem cl_keep {w W : World} {A : Option Addr} {L : List Int} (h : Cl eI w A L) (hs : w.heap.size ≤ W.heap.size) (hk : ∀ b, b < w.heap.size → W.heap[b]? = w.heap[b]?) : Cl eI W A L := by
  intro k z hz
  obtain ⟨b, off, e, hlt, h0⟩ := h k z hz
  exact ⟨b, off, e, Nat.lt_of_lt_of_le hlt hs, (World.cell?_of_block (a := ⟨b, off + k, none⟩) (hk b hlt)).trans h0⟩
theorem cm_run (r : Nat → Nat) (n c gb g : Nat) (A : Option Addr) (w w0 : World) (hR : Cl eI w A (lst (fun i => (r i : Int)) n)) (hb : Below w.heap.size w w0) (hc : w0.cell? ⟨gb, 0, none⟩ = some (.slice A n c)) (hgb : gb < w0.heap.size) (hne : gb ≠ g) (hg : w.heap.size ≤ g) :
    Cm (fun k => (k : Int)) (bt r) n g w0 38 #[.pointer (some ⟨gb, 0, none⟩)] (cfR r) := by
  refine ⟨enters_of Try.func38 (by kernel_rfl) rfl, fun i j hij _ => cfR_neg r hij, fun i j W hij hi ho => ?_⟩
  have c1 : W.cell? ⟨gb, 0, none⟩ = some (.slice A n c) := (World.cell?_of_block (a := ⟨gb, 0, none⟩) (ho.block gb hgb hne)).trans hc
  have c2 : Cl eI W A (lst (fun i => (r i : Int)) n) := cl_keep hR (Nat.le_trans hb.size ho.size) fun b hlt => (ho.block b (Nat.lt_of_lt_of_le hlt hb.size) (by omega)).trans (hb.block b hlt)
  exact cmp_run n c gb A r W c1 c2 i j hi (by omega)

/-- What largestFirst returns: at place k the index of rank k. -/
def LaR (r : Nat → Nat) (n : Nat) (w : World) : Ending → World → Prop := fun e w' => ∃ (g : Nat) (s : Nat → Nat), e = .returned (.slice (some ⟨g, 0, none⟩) n n) ∧ w.heap.size ≤ g ∧ Own eI 3 w.heap.size w' (.slice (some ⟨g, 0, none⟩) n n) (lst (fun k => (s k : Int)) n) ∧ (∀ k, k < n → s k < n ∧ rank r n (s k) = k) ∧ Below w.heap.size w w'

set_option maxHeartbeats 1600000 in
theorem largest_first (r : Nat → Nat) (n c : Nat) (A : Option Addr) (w : World) (hn : n ≤ 512) (hR : Cl eI w A (lst (fun i => (r i : Int)) n)) :
    Calls Try.prog 25 #[.slice A n c] w (LaR r n w) := by
  have HR := Lib.hid hR
  have HN := Lib.hid hn
  have hmk := fun W => make_ints n (by omega) W
  clear hR
  go_enter Try.func25, Try.ntmps25
  go_upto_region 2 with fail
  obtain ⟨w1, hw1⟩ : ∃ W, w.alloc (.cells #[.slice A n c] 22) = W := ⟨_, rfl⟩
  have HB1 : Hid (Below w.heap.size w w1) := hw1 ▸ below_alloc _ _
  have hs1 : w1.heap.size = w.heap.size + 1 := by rw [← hw1]; simp
  have HC1 : Hid (w1.cell? ⟨w.heap.size, 0, none⟩ = some (.slice A n c)) := hw1 ▸ (by simp : (w.alloc (.cells #[.slice A n c] 22)).cell? ⟨w.heap.size, 0, none⟩ = some (.slice A n c))
  obtain ⟨w2, hw2⟩ : ∃ W, w1.alloc (.cells (madeCells #[.int .i64 0] n) 3) = W := ⟨_, rfl⟩
  have HOW2 : Hid (Own eI 3 w.heap.size w2 (.slice (some ⟨w.heap.size + 1, 0, none⟩) n n) (lst (fun _ => 0) n)) := by
    have h1 := (own_made eI 3 w1 n 0 (by omega)).less (B' := w.heap.size) (by omega)
    rw [hs1, hw2] at h1
    have e : List.replicate n (0 : Int) = lst (fun _ => 0) n := by unfold lst; rw [List.map_const', List.length_range]
    rw [e] at h1; exact h1
  have HBA := Lib.hid (hw2 ▸ below_alloc w1 (.cells (madeCells #[.int .i64 0] n) 3) : Below w1.heap.size w1 w2)
  have HB2 : Hid (Below w.heap.size w w2) := bstep HB1.out HBA.out
  have HC2 : Hid (w2.cell? ⟨w.heap.size, 0, none⟩ = some (.slice A n c)) := (HBA.out.cell (p := ⟨w.heap.size, 0, none⟩) (by show w.heap.size < _; omega)).trans HC1.out
  have HS2 : Hid (w.heap.size + 1 < w2.heap.size) := (HOW2.out.lt _ rfl).2
  have HCL2 : Hid (Cl eI w2 A (lst (fun i => (r i : Int)) n)) := HR.out.on HB2.out
  obtain ⟨g, hg⟩ : ∃ g, g = w.heap.size + 1 := ⟨_, rfl⟩
  obtain ⟨gb, hgb⟩ : ∃ g, g = w.heap.size := ⟨_, rfl⟩
  rw [hw1, hw2]
  rw [← hg] at HOW2 HS2 ⊢
  rw [← hgb]
  have HG := Lib.hid (show g = w.heap.size + 1 ∧ gb = w.heap.size from ⟨hg, hgb⟩)
  have HC3 : Hid (w2.cell? ⟨gb, 0, none⟩ = some (.slice A n c)) := hgb ▸ HC2.out
  clear hw1 hw2 hg hgb hs1 hmk HC1 HC2 HB1 HBA hn
  go_wp2_with fail
  go_loopw [4, 10] (fun _ x wr => ∃ k : Nat, x = .int .i64 (k : Int) ∧ k ≤ n ∧ Own eI 3 w.heap.size wr (.slice (some ⟨g, 0, none⟩) n n) (lst (fun j => if j < k then (j : Int) else 0) n) ∧ Below g w2 wr) (fun _ x _ => n - (RowKit.intOf x).toNat)
  case atStart => exact ⟨0, rfl, Nat.zero_le _, by simpa using HOW2.out, Below.refl _ _⟩
  case round =>
    obtain ⟨k, rfl, hk, hown, hbel⟩ := hrel
    have HO := Lib.hid hown
    have HB := Lib.hid hbel
    clear hown hbel
    have hN := HN.out
    rcases Nat.lt_or_ge k n with hlt | hge
    · have fk := HO.out.warm (lst_len _ n).symm k
      have ck := HO.out.cell (lst_at _ hlt)
      rw [if_neg (Nat.lt_irrefl k)] at ck
      have i1 : (k : Int) < (n : Int) := by omega
      have i2 : (0 : Int) ≤ (k : Int) := by omega
      have hk1 : IntKind.i64.wrap ((k : Int) + 1) = ((k + 1 : Nat) : Int) := wrap_id (by omega)
      have HE : Hid (Own eI 3 w.heap.size (wr.setCell ⟨g, k, none⟩ (.int .i64 (k : Int))) (.slice (some ⟨g, 0, none⟩) n n) (lst (fun j => if j < k + 1 then (j : Int) else 0) n)) := by
        have h1 := HO.out.set (lst_len _ n).symm k (k : Int)
        rw [lst_set (g := fun j => if j < k + 1 then (j : Int) else 0) hlt (fun i hi => by
          by_cases h : i = k
          · subst h; simp
          · rw [if_neg h]
            by_cases h2 : i < k
            · rw [if_pos (by omega), if_pos h2]
            · rw [if_neg (by omega), if_neg h2])] at h1
        exact h1
      have HBE : Hid (Below g w2 (wr.setCell ⟨g, k, none⟩ (.int .i64 (k : Int)))) := below_set HB.out (p := ⟨g, k, none⟩) (Nat.le_refl _) _
      clear hN hlt
      go_wp2_with fail
      go_roundw
      case rel => exact ⟨k + 1, rfl, by omega, HE.out, HBE.out⟩
      case measure => simp [RowKit.intOf]; omega
    · obtain rfl : n = k := by omega
      have HBW : Hid (Below w.heap.size w wr) := HB2.out.trans (HB.out.mono (by have := HG.out; omega))
      have HC4 : Hid (wr.cell? ⟨gb, 0, none⟩ = some (.slice A n c)) := (HB.out.cell (p := ⟨gb, 0, none⟩) (by show gb < g; have := HG.out; omega)).trans HC3.out
      have HO2 : Hid (Own eI 3 w.heap.size wr (.slice (some ⟨g, 0, none⟩) n n) (lst (fun j => (j : Int)) n)) := by
        have := HO.out
        rw [lst_congr (g := fun j => (j : Int)) fun i hi => if_pos hi] at this
        exact this
      have HST : Hid (St (fun k => (k : Int)) g n n wr wr (fun k => k)) := ⟨HO2.out.less (Nat.zero_le _), Off.refl _ _, fun k hk => hk⟩
      have HSZ : Hid (g < wr.heap.size) := (HO.out.lt g rfl).2
      have HCM := Lib.hid (cm_run r n c gb g A w wr HR.out HBW.out HC4.out (by have := HG.out; have := HSZ.out; omega) (by have := HG.out; omega) (by have := HG.out; omega))
      have HSRT := Lib.hid (sort_stable (bt_sto r) HCM.out HST.out (by omega) (fun k => rfl))
      clear hN hk hge
      go_wp2_with fail
      refine HSRT.out.mono ?_
      rintro e w3 ⟨rfl, s, hst, hsrt, hbd⟩
      have HD : Hid (Own eI 3 w.heap.size w3 (.slice (some ⟨g, 0, none⟩) n n) (lst (fun k => (s k : Int)) n)) := own_more hst.own (by have := HG.out; omega)
      have HRK : Hid (∀ k, k < n → s k < n ∧ rank r n (s k) = k) := fun k hk => ⟨hbd k hk, rank_sorted hbd (fun j k h1 h2 => hsrt j k (Nat.zero_le _) h1 h2) k hk⟩
      have HBZ : Hid (Below w.heap.size w w3) := HBW.out.trans (Off.below hst.off HBW.out.size fun x hx => by have := HG.out; omega)
      clear hst hsrt hbd
      go_wp2_with fail
      go_ret
      exact ⟨g, s, rfl, by have := HG.out; omega, HD.out, HRK.out, HBZ.out⟩
end Go.Proofs.Ytdolhanniiejfaa.Share
/- share.Split. -/
namespace Go.Proofs.Ytdolhanniiejfaa.Share
open Go.ChangeShapes Go.WideShapes Go.RowKit Go.Lib Go.Proofs.Ytdolhanniiejfaa.Mem
set_option linter.unusedVariables false
set_option maxRecDepth 100000

/-- A list of the call's own, and an error. -/
def ResL (L : List Int) (E : Nat) (w : World) : Ending → World → Prop := fun e w' => ∃ v, e = .returned (.tuple #[v, .int .i64 (E : Int)]) ∧ Own eI 3 w.heap.size w' v L ∧ Below w.heap.size w w'
def splL (t : Int) (ws : List Int) : List Int := if errS t ws = 0 then partsL t ws else []
def bouL (t : Int) (ws : List Int) : List Int := if errS t ws = 0 then bndsL t ws else []
theorem tup2 {a b : Value} {x y : Int} (h : a = b) (k : x = y) : Ending.returned (.tuple #[a, .int .i64 x]) = .returned (.tuple #[b, .int .i64 y]) := by rw [h, k]

/-! ### What the products are divided by -/
section
variable {t : Int} {ws : List Int}
theorem dvV_ok (h : errS t ws = 0) : ∃ W : Nat, dvV t ws = (W : Int) ∧ 0 < W ∧ W ≤ 1125899906842624 ∧ (∀ i, i < ws.length → wf ws i ≤ W) ∧ (∀ i, i < ws.length → sm (wf ws) (i + 1) ≤ W) ∧
    (∀ i, i < ws.length → t.toNat * wf ws i / W = quo t.toNat (wf ws) ws.length i ∧ t.toNat * wf ws i % W = rst t.toNat (wf ws) ws.length i) ∧ (∀ i, i < ws.length → t.toNat * sm (wf ws) (i + 1) / W = bnd t.toNat (wf ws) ws.length i) := by
  have ok := Ok.of h
  have hT := ok.twI
  have hs := ok.sum
  have hmx : mx = 1125899906842624 := rfl
  unfold dvV
  rw [if_pos h]
  rcases Nat.eq_zero_or_pos (Share.tw (wf ws) ws.length) with hz | hz
  · have ht := ok.zero hz
    have hw : ∀ i, i < ws.length → wf ws i = 0 := fun i hi => by have := ok.w_le hi; omega
    have hm : ∀ i, i < ws.length → sm (wf ws) (i + 1) = 0 := fun i hi => by
      have : sm (wf ws) (i + 1) ≤ Share.tw (wf ws) ws.length := sm_mono (by omega)
      omega
    refine ⟨1, by rw [if_pos (by omega)]; rfl, by omega, by omega, fun i hi => by rw [hw i hi]; omega, fun i hi => by rw [hm i hi]; omega, fun i hi => ?_, fun i hi => ?_⟩
    · unfold quo rst
      rw [hw i hi]; simp
    · unfold bnd
      rw [if_pos hz, hm i hi]; simp
  · refine ⟨Share.tw (wf ws) ws.length, by rw [if_neg (by omega)]; exact hT.symm, hz, by omega, fun i hi => ok.w_le hi, fun i hi => sm_mono (by omega), fun i hi => ⟨rfl, rfl⟩, fun i hi => ?_⟩
    unfold bnd
    rw [if_neg (by omega)]
theorem Ok.gots (h : Ok t ws) {i : Nat} (hi : i < ws.length) : gots (quo t.toNat (wf ws) ws.length) (rst t.toNat (wf ws) ws.length) ws.length (lft t.toNat (wf ws) ws.length) i = part t.toNat (wf ws) ws.length i := by
  rcases Nat.eq_zero_or_pos (Share.tw (wf ws) ws.length) with hz | hz
  · have ht := h.zero hz
    unfold Share.gots part lft quo
    rw [if_pos hz, ht]
    simp
  · exact gots_part hz i
theorem Ok.lft_le (h : Ok t ws) : lft t.toNat (wf ws) ws.length ≤ ws.length := by
  rcases Nat.eq_zero_or_pos (Share.tw (wf ws) ws.length) with hz | hz
  · have ht := h.zero hz
    unfold lft
    rw [ht]; simp
  · exact Nat.le_of_lt (lft_lt hz)
theorem Ok.quo_sum (h : Ok t ws) {k : Nat} (hk : k ≤ ws.length) : sm (quo t.toNat (wf ws) ws.length) k ≤ t.toNat := by
  have h1 : sm (quo t.toNat (wf ws) ws.length) k ≤ sm (quo t.toNat (wf ws) ws.length) ws.length := sm_mono hk
  rcases Nat.eq_zero_or_pos (Share.tw (wf ws) ws.length) with hz | hz
  · have ht := h.zero hz
    have : sm (quo t.toNat (wf ws) ws.length) ws.length = 0 := by
      rw [sm_congr (g := fun _ => 0) fun i _ => by unfold quo; rw [hz]; simp, sm_const]; omega
    omega
  · exact Nat.le_trans h1 (sum_le hz)
end
end Go.Proofs.Ytdolhanniiejfaa.Share
/- share.Split: the walk. -/
namespace Go.Proofs.Ytdolhanniiejfaa.Share
open Go.ChangeShapes Go.WideShapes Go.RowKit Go.Lib Go.Proofs.Ytdolhanniiejfaa.Mem
set_option linter.unusedVariables false
set_option maxRecDepth 100000

theorem lst_zero (n : Nat) : List.replicate n (0 : Int) = lst (fun _ => 0) n := by unfold lst; rw [List.map_const', List.length_range]
abbrev zeros (n : Nat) : Obj := .cells (madeCells #[.int .i64 0] n) 3
theorem one_made (w : World) (n : Nat) (hn : n ≤ 100000) : Own eI 3 w.heap.size (w.alloc (zeros n)) (.slice (some ⟨w.heap.size, 0, none⟩) n n) (lst (fun _ => 0) n) := by
  have h1 := own_made eI 3 w n 0 hn
  rw [lst_zero] at h1
  exact h1
theorem two_made (w : World) (n : Nat) (hn : n ≤ 100000) : Own eI 3 w.heap.size ((w.alloc (zeros n)).alloc (zeros n)).drew (.slice (some ⟨w.heap.size, 0, none⟩) n n) (lst (fun _ => 0) n) ∧
    Own eI 3 w.heap.size ((w.alloc (zeros n)).alloc (zeros n)).drew (.slice (some ⟨w.heap.size + 1, 0, none⟩) n n) (lst (fun _ => 0) n) ∧ Below w.heap.size w ((w.alloc (zeros n)).alloc (zeros n)).drew := by
  have h1 := one_made w n hn
  have h2 := one_made (w.alloc (zeros n)) n hn
  have hs : (w.alloc (zeros n)).heap.size = w.heap.size + 1 := by simp
  rw [hs] at h2
  exact ⟨(h1.alloc _).drew, (h2.less (by omega)).drew, below_drew (bstep (below_alloc _ _) (below_alloc _ _))⟩
/-- The list with its first k values. -/
def upL (f : Nat → Nat) (k n : Nat) : List Int := lst (fun j => if j < k then (f j : Int) else 0) n
theorem upL_len (f : Nat → Nat) (k n : Nat) : (upL f k n).length = n := lst_len _ _
theorem upL_zero (f : Nat → Nat) (n : Nat) : upL f 0 n = lst (fun _ => 0) n := by unfold upL; exact lst_congr fun i _ => by simp
theorem upL_at (f : Nat → Nat) {k n : Nat} (h : k < n) : (upL f k n)[k]? = some 0 := by
  unfold upL; rw [lst_at _ h, if_neg (Nat.lt_irrefl k)]
theorem upL_set (f : Nat → Nat) {k n : Nat} (h : k < n) : (upL f k n).set k (f k : Int) = upL f (k + 1) n := by
  unfold upL
  exact lst_set h fun i hi => by
    by_cases h1 : i = k
    · subst h1; simp
    · rw [if_neg h1]
      by_cases h2 : i < k
      · rw [if_pos (by omega), if_pos h2]
      · rw [if_neg (by omega), if_neg h2]
theorem upL_all (f : Nat → Nat) (n : Nat) : upL f n n = lst (fun j => (f j : Int)) n := lst_congr fun i hi => if_pos hi

set_option maxHeartbeats 3200000 in
theorem share_split (t : Int) (ws : List Int) (A : Option Addr) (c : Nat) (w : World) (hS : Cl eI w A ws) (hl : ws.length ≤ 9223372036854775807) :
    Calls Try.prog 11 #[.int .i64 t, .slice A ws.length c] w (ResL (splL t ws) (errS t ws) w) := by
  have HDIV := Lib.hid (share_divisor t ws A c w hS hl)
  by_cases hE : errS t ws = 0
  · obtain ⟨W, hW, hW0, hW1, hwW, -, hqr, -⟩ := dvV_ok hE
    have ok := Ok.of hE
    obtain ⟨T, hT⟩ : ∃ T : Nat, T = t.toNat := ⟨_, rfl⟩
    have ht : t = (T : Int) := by have := ok.t0; omega
    have hTm : T ≤ 1125899906842624 := by have h1 := ok.t1; have hm : mx = 1125899906842624 := rfl; omega
    rw [hW, hE] at HDIV
    have HRES : Hid (splL t ws = partsL t ws) := if_pos hE
    obtain ⟨q, hq⟩ : ∃ q, q = quo t.toNat (wf ws) ws.length := ⟨_, rfl⟩
    obtain ⟨r, hr⟩ : ∃ r, r = rst t.toNat (wf ws) ws.length := ⟨_, rfl⟩
    obtain ⟨L, hL⟩ : ∃ L, L = lft t.toNat (wf ws) ws.length := ⟨_, rfl⟩
    have HFIN : Hid (lst (fun j => (gots q r ws.length L j : Int)) ws.length = partsL t ws) := by
      show _ = _
      unfold partsL lst
      exact List.map_congr_left fun i hi => by rw [hq, hr, hL, ok.gots (List.mem_range.mp hi)]
    have HLN : Hid (L ≤ ws.length ∧ ws.length ≤ 512 ∧ 0 < ws.length) := ⟨hL ▸ ok.lft_le, ok.n1, ok.n0⟩
    have HSUM : Hid (∀ k, k ≤ ws.length → sm q k ≤ T) := fun k hk => by rw [hq, hT]; exact ok.quo_sum hk
    have HLQ : Hid (L = T - sm q ws.length) := by show L = _; rw [hL, hq, hT]; rfl
    have HDV := Lib.hid (show ∀ i, i < ws.length → ∀ W', Calls Try.prog 24 #[.int .i64 (T : Int), .int .i64 (wf ws i : Int), .int .i64 (W : Int)] W' fun e w' => e = .returned (.tuple #[.int .i64 (q i : Int), .int .i64 (r i : Int)]) ∧ Below W'.heap.size W' w' from fun i hi W' => by
      have h1 := share_divide hW0 hTm (hwW i hi) hW1 W'
      have h2 := hqr i hi
      rw [← hT] at h2 hq hr
      rw [h2.1, h2.2] at h1
      rw [hq, hr]; exact h1)
    have HQL : Hid (∀ i, i < ws.length → q i ≤ 1125899906842624) := fun i hi => by rw [hq]; exact Nat.le_trans (quo_le hi) (by omega)
    have HWF : Hid (∀ (i : Nat) z, ws[i]? = some z → z = (wf ws i : Int)) := fun i z hz => (wf_at hz (ok.all z (List.mem_of_getElem? hz)).1).symm
    have HS := Lib.hid hS
    obtain ⟨n, hn⟩ : ∃ n, ws.length = n := ⟨_, rfl⟩
    have HN := Lib.hid hn
    have HEE := Lib.hid hE
    have HTT := Lib.hid ht
    rw [hn] at HDIV HFIN HLN HSUM HLQ HDV HQL hl ⊢
    rw [hE]
    rw [ht] at HDIV ⊢
    have hn5 := HLN.out.2.1
    have hmk := fun W => make_ints n (by omega) W
    clear hS hW hW0 hW1 hwW hqr ok hT ht hq hr hL hE hn hl
    go_enter Try.func11, Try.ntmps11
    go_wp2_with fail
    refine HDIV.out.mono ?_
    rintro e w1 ⟨rfl, hb1⟩
    have HB1 := Lib.hid hb1
    clear hb1
    go_upto_region 4 with fail
    go_cut [8, 9] from 24 to 29 (fun x y wc => ∃ gp gr : Nat, x = .slice (some ⟨gp, 0, none⟩) n n ∧ y = .slice (some ⟨gr, 0, none⟩) n n ∧ gp ≠ gr ∧ Own eI 3 w1.heap.size wc (.slice (some ⟨gp, 0, none⟩) n n) (lst (fun _ => 0) n) ∧ Own eI 3 w1.heap.size wc (.slice (some ⟨gr, 0, none⟩) n n) (lst (fun _ => 0) n) ∧ Below w1.heap.size w1 wc)
    case first =>
      have HTM := Lib.hid (two_made w1 n (by omega))
      go_wp2_with fail
      go_region
      all_goals
        go_wp2_with fail
        go_meet
        case rel =>
          first
            | exact ⟨w1.heap.size, w1.heap.size + 1, rfl, rfl, by omega, HTM.out.1, HTM.out.2.1, HTM.out.2.2⟩
            | exact ⟨w1.heap.size + 1, w1.heap.size, rfl, rfl, by omega, HTM.out.2.1, HTM.out.1, HTM.out.2.2⟩
    case rest =>
      obtain ⟨gp, gr, rfl, rfl, hgne, hop, hor, hbc⟩ := hcut
      have HOP := Lib.hid hop
      have HOR := Lib.hid hor
      have HBC := Lib.hid hbc
      have HNE := Lib.hid hgne
      clear hop hor hbc hmk hgne
      go_wp2_with fail
      go_loopw [10, 11, 12, 33] (fun l _ _ x wr => ∃ k M : Nat, l = .int .i64 (M : Int) ∧ x = .int .i64 (k : Int) ∧ k ≤ n ∧ M = T - sm q k ∧ Own eI 3 w1.heap.size wr (.slice (some ⟨gp, 0, none⟩) n n) (upL q k n) ∧ Own eI 3 w1.heap.size wr (.slice (some ⟨gr, 0, none⟩) n n) (upL r k n) ∧ Below w1.heap.size w1 wr) (fun _ _ _ x _ => n - (RowKit.intOf x).toNat)
      case atStart => exact ⟨0, T, rfl, rfl, Nat.zero_le _, rfl, by rw [upL_zero]; exact HOP.out, by rw [upL_zero]; exact HOR.out, HBC.out⟩
      case round =>
        obtain ⟨k, M, rfl, rfl, hk, hM, hop, hor, hbel⟩ := hrel
        have HOP2 := Lib.hid hop
        have HOR2 := Lib.hid hor
        have HB := Lib.hid hbel
        have HM := Lib.hid hM
        clear hop hor hbel hM
        rcases Nat.lt_or_ge k n with hlt | hge
        · obtain ⟨z, hz⟩ := get_lt (L := ws) (k := k) (by rw [HN.out]; exact hlt)
          obtain ⟨b, off, hA, hb, hcell⟩ := (HS.out.on (HB1.out.trans (HB.out.mono HB1.out.size))) k z hz
          obtain rfl := hA
          obtain rfl := HWF.out k z hz
          have HZ := Lib.hid hz
          have HCALL := Lib.hid (HDV.out k hlt wr)
          obtain ⟨x, hx⟩ : ∃ x, x = wf ws k := ⟨_, rfl⟩
          obtain ⟨Q, hQ⟩ : ∃ x, x = q k := ⟨_, rfl⟩
          obtain ⟨R, hR⟩ : ∃ x, x = r k := ⟨_, rfl⟩
          rw [← hx] at hcell HCALL
          rw [← hQ, ← hR] at HCALL
          have HQR := Lib.hid (show Q = q k ∧ R = r k from ⟨hQ, hR⟩)
          have i1 : (k : Int) < (n : Int) := by omega
          have i2 : (0 : Int) ≤ (k : Int) := by omega
          have hk1 : IntKind.i64.wrap ((k : Int) + 1) = ((k + 1 : Nat) : Int) := wrap_id (by omega)
          clear hz hx hQ hR hb hk
          go_wp2_with fail
          refine HCALL.out.mono ?_
          rintro e w3 ⟨rfl, hb3⟩
          have HOP3 := Lib.hid (HOP2.out.on hb3)
          have HOR3 := Lib.hid (HOR2.out.on hb3)
          have HB3 : Hid (Below w1.heap.size w1 w3) := HB.out.trans (hb3.mono HB.out.size)
          have cp := HOP3.out.cell (upL_at q hlt)
          have cr := HOR3.out.cell (upL_at r hlt)
          have fp := HOP3.out.warm (upL_len q k n).symm k
          have fr := HOR3.out.warm (upL_len r k n).symm k
          have hne1 := HNE.out
          have hne2 : gr ≠ gp := fun e => HNE.out e.symm
          have HPP : Hid (Own eI 3 w1.heap.size ((w3.setCell ⟨gp, k, none⟩ (.int .i64 (Q : Int))).setCell ⟨gr, k, none⟩ (.int .i64 (R : Int))) (.slice (some ⟨gp, 0, none⟩) n n) (upL q (k + 1) n)) := by
            have h1 := HOP3.out.set (upL_len q k n).symm k (Q : Int)
            rw [HQR.out.1, upL_set q hlt] at h1
            rw [HQR.out.1]
            exact h1.other (p := ⟨gr, k, none⟩) (by show some gp ≠ some gr; simpa using HNE.out) _
          have HRR : Hid (Own eI 3 w1.heap.size ((w3.setCell ⟨gp, k, none⟩ (.int .i64 (Q : Int))).setCell ⟨gr, k, none⟩ (.int .i64 (R : Int))) (.slice (some ⟨gr, 0, none⟩) n n) (upL r (k + 1) n)) := by
            have h1 := HOR3.out.other (p := ⟨gp, k, none⟩) (by show some gr ≠ some gp; simpa using hne2) (.int .i64 (Q : Int))
            have h2 := h1.set (upL_len r k n).symm k (R : Int)
            rw [HQR.out.2, upL_set r hlt] at h2
            rw [HQR.out.2]
            exact h2
          have HBB : Hid (Below w1.heap.size w1 ((w3.setCell ⟨gp, k, none⟩ (.int .i64 (Q : Int))).setCell ⟨gr, k, none⟩ (.int .i64 (R : Int)))) := below_set (below_set HB3.out (p := ⟨gp, k, none⟩) (HOP3.out.lt gp rfl).1 _) (p := ⟨gr, k, none⟩) (HOR3.out.lt gr rfl).1 _
          have HSK := Lib.hid (show sm q (k + 1) ≤ T ∧ sm q (k + 1) = sm q k + Q by
            refine ⟨HSUM.out _ hlt, by rw [HQR.out.1]; rfl⟩)
          obtain ⟨M', hM'⟩ : ∃ x, x = M - Q := ⟨_, rfl⟩
          have HMM := Lib.hid (show M' = T - sm q (k + 1) ∧ Q ≤ M ∧ M' = M - Q by have := HM.out; have := HSK.out; omega)
          have hwm : IntKind.i64.wrap ((M : Int) - (Q : Int)) = (M' : Int) := by
            have h1 := HMM.out
            have h2 := HM.out
            rw [wrap_id (by omega)]; omega
          clear hb3 hM' hlt
          go_wp2_with fail
          go_roundw
          case rel => exact ⟨k + 1, M', rfl, rfl, by omega, HMM.out.1, HPP.out, HRR.out, HBB.out⟩
          case measure => simp [RowKit.intOf]; omega
        · obtain rfl : n = k := by omega
          obtain rfl : L = M := by have h1 := HM.out; have h2 := HLQ.out; omega
          have HLF := Lib.hid (largest_first r n n (some ⟨gr, 0, none⟩) wr hn5 ((upL_all r n) ▸ HOR2.out.cl))
          have hLn := HLN.out.1
          clear hk hge
          go_wp2_with fail
          refine HLF.out.mono ?_
          rintro e w4 ⟨go, s, rfl, hgo, hown, hrank, hb4⟩
          have hsl := fun W => slice_hi (some ⟨go, 0, none⟩) n n L hLn W
          have HGO : Hid (gp ≠ go) := by
            have := (HOP2.out.lt gp rfl).2
            show gp ≠ go
            omega
          have HOP4 : Hid (Own eI 3 w1.heap.size w4 (.slice (some ⟨gp, 0, none⟩) n n) (lst (fun j => (gots q r n 0 j : Int)) n)) := by
            have h1 := HOP2.out.on hb4
            rw [upL_all] at h1
            rw [lst_congr (g := fun j => (q j : Int)) fun i _ => by rw [gots_zero]]
            exact h1
          have HOO4 := Lib.hid hown
          have HRK := Lib.hid hrank
          have HB4 : Hid (Below w1.heap.size w1 w4) := HB.out.trans (hb4.mono HB.out.size)
          have hL6 : (L : Int) ≤ (n : Int) := by omega
          have hL7 : (0 : Int) ≤ (L : Int) := by omega
          clear hgo hown hrank hb4 hLn HLF
          go_wp2_with fail
          go_loopw [14, 63] (fun _ x wr' => ∃ k : Nat, x = .int .i64 (k : Int) ∧ k ≤ L ∧ Own eI 3 w1.heap.size wr' (.slice (some ⟨gp, 0, none⟩) n n) (lst (fun j => (gots q r n k j : Int)) n) ∧ Own eI 3 0 wr' (.slice (some ⟨go, 0, none⟩) n n) (lst (fun j => (s j : Int)) n) ∧ Below w1.heap.size w1 wr') (fun _ x _ => L - (RowKit.intOf x).toNat)
          case atStart => exact ⟨0, rfl, Nat.zero_le _, HOP4.out, HOO4.out.less (Nat.zero_le _), HB4.out⟩
          case round =>
            obtain ⟨k, rfl, hk, hop, hoo, hbel⟩ := hrel
            have HOP5 := Lib.hid hop
            have HOO5 := Lib.hid hoo
            have HB5 := Lib.hid hbel
            have hLn := HLN.out.1
            clear hop hoo hbel
            rcases Nat.lt_or_ge k L with hlt | hge
            · have hkn : k < n := by omega
              obtain ⟨x, hx⟩ : ∃ x, x = s k := ⟨_, rfl⟩
              have hxn : x < n := hx ▸ (HRK.out k hkn).1
              have ck := HOO5.out.cell (lst_at _ hkn)
              have cx := HOP5.out.cell (lst_at _ hxn)
              have fx := HOP5.out.warm (lst_len _ n).symm x
              obtain ⟨G, hG⟩ : ∃ x', x' = gots q r n k x := ⟨_, rfl⟩
              rw [← hx] at ck
              rw [← hG] at cx
              have hGb : G ≤ 1125899906842625 := by
                have h1 := HQL.out x hxn
                rw [hG]; unfold gots; split <;> omega
              have HNX : Hid (Own eI 3 w1.heap.size (wr.setCell ⟨gp, x, none⟩ (.int .i64 ((G + 1 : Nat) : Int))) (.slice (some ⟨gp, 0, none⟩) n n) (lst (fun j => (gots q r n (k + 1) j : Int)) n)) := by
                have h1 := HOP5.out.set (lst_len _ n).symm x ((G + 1 : Nat) : Int)
                rw [lst_set (g := fun j => (gots q r n (k + 1) j : Int)) hxn fun i hi => by
                  rw [gots_next hxn (by rw [hx]; exact (HRK.out k hkn).2) hi]
                  by_cases h2 : i = x
                  · rw [if_pos h2, if_pos h2, h2, hG]
                  · rw [if_neg h2, if_neg h2]] at h1
                exact h1
              have HOX : Hid (Own eI 3 0 (wr.setCell ⟨gp, x, none⟩ (.int .i64 ((G + 1 : Nat) : Int))) (.slice (some ⟨go, 0, none⟩) n n) (lst (fun j => (s j : Int)) n)) := HOO5.out.other (p := ⟨gp, x, none⟩) (by show some go ≠ some gp; have := HGO.out; simp; omega) _
              have HBX : Hid (Below w1.heap.size w1 (wr.setCell ⟨gp, x, none⟩ (.int .i64 ((G + 1 : Nat) : Int)))) := below_set HB5.out (p := ⟨gp, x, none⟩) (HOP5.out.lt gp rfl).1 _
              have i1 : (k : Int) < (L : Int) := by omega
              have i2 : (0 : Int) ≤ (k : Int) := by omega
              have i3 : (x : Int) < (n : Int) := by omega
              have i4 : (0 : Int) ≤ (x : Int) := by omega
              have hk1 : IntKind.i64.wrap ((k : Int) + 1) = ((k + 1 : Nat) : Int) := wrap_id (by omega)
              have hg1 : IntKind.i64.wrap ((G : Int) + 1) = ((G + 1 : Nat) : Int) := wrap_id (by omega)
              have HLT := Lib.hid hlt
              clear hx hG hGb hxn hkn hLn hlt hk
              go_wp2_with fail
              go_roundw
              case rel => exact ⟨k + 1, rfl, HLT.out, HNX.out, HOX.out, HBX.out⟩
              case measure =>
                have := HLT.out
                simp [RowKit.intOf]; omega
            · obtain rfl : L = k := by omega
              have HOF : Hid (Own eI 3 w.heap.size wr (.slice (some ⟨gp, 0, none⟩) n n) (splL t ws)) := by
                rw [HRES.out, ← HFIN.out]
                exact HOP5.out.less HB1.out.size
              have HBF : Hid (Below w.heap.size w wr) := HB1.out.trans (HB5.out.mono HB1.out.size)
              clear hk hge hLn
              go_wp2_with fail
              go_ret2
              exact ⟨_, rfl, by rw [← HTT.out]; exact HOF.out, HBF.out⟩
  · obtain ⟨E, hEE⟩ : ∃ E, E = errS t ws := ⟨_, rfl⟩
    have HRES : Hid (splL t ws = []) := if_neg hE
    have hE1 : ((E : Int) != 0) = true := by simp; omega
    have hE2 : ¬ E = 0 := by omega
    have hE3 : ¬ (E : Int) = 0 := by omega
    obtain ⟨D, hD⟩ : ∃ D, D = dvV t ws := ⟨_, rfl⟩
    obtain ⟨n, hn⟩ : ∃ n, ws.length = n := ⟨_, rfl⟩
    rw [← hEE, ← hD, hn] at HDIV
    rw [← hEE, hn]
    clear hEE hD hS hl hn hE
    go_enter Try.func11, Try.ntmps11
    go_wp2_with fail
    refine HDIV.out.mono ?_
    rintro e w1 ⟨rfl, hb1⟩
    have HB1 := Lib.hid hb1
    clear hb1
    go_wp2_with fail
    go_ret2
    exact ⟨_, rfl, by rw [HRES.out]; exact Own.nil _ _ _ _, HB1.out⟩
end Go.Proofs.Ytdolhanniiejfaa.Share
/- slices.Repeat of a slice of one integer. -/
namespace Go.Proofs.Ytdolhanniiejfaa.Mem
open Go.ChangeShapes Go.WideShapes Go.RowKit Go.Lib
set_option linter.unusedVariables false
set_option maxRecDepth 100000

def rpt (N : Nat) (z : Int) (n : Nat) : List Value := List.replicate n (.int .i64 z) ++ List.replicate (N - n) (.int .i64 0)
theorem rpt_len {N : Nat} {z : Int} {n : Nat} (h : n ≤ N) : (rpt N z n).length = N := by unfold rpt; simp; omega
theorem rpt_splice {N : Nat} {z : Int} {n m : Nat} (h : n + m ≤ N) : splice (rpt N z n) n (List.replicate m (.int .i64 z)) = rpt N z (n + m) := by
  unfold splice rpt
  rw [List.take_left' (by simp), List.length_replicate, List.drop_append, List.drop_eq_nil_of_le (by simp), List.nil_append, List.drop_replicate, ← List.append_assoc, List.replicate_append_replicate, List.length_replicate]
  congr 2
  omega
theorem rpt_get {N : Nat} {z : Int} {n j : Nat} (h : j < n) : (rpt N z n)[j]? = some (.int .i64 z) := by
  unfold rpt
  rw [List.getElem?_append_left (by simpa using h), List.getElem?_replicate, if_pos h]
theorem own_rpt {w : World} {g N B : Nat} {z : Int} {t : TypeId} (hg : w.heap[g]? = some (.cells (rpt N z N).toArray t (0, 0))) (hB : B ≤ g) (hN : N ≤ 1000) : Own eI t B w (.slice (some ⟨g, 0, none⟩) N N) (List.replicate N z) := by
  have e : rpt N z N = (List.replicate N z).map eI := by unfold rpt; simp
  refine ⟨by simp, Or.inr ⟨g, N, (rpt N z N).toArray, by simp, hB, hg, by simp, by unfold maxLen; omega, by simp [rpt_len], ?_⟩⟩
  rw [← e]
  simp
  exact List.take_of_length_le (by rw [rpt_len (Nat.le_refl _)]; exact Nat.le_refl _)
theorem row_cell {w : World} {g : Nat} {l : List Value} {t : TypeId} (hg : w.heap[g]? = some (.cells l.toArray t (0, 0))) (j : Nat) : w.cell? ⟨g, j, none⟩ = l[j]? := by
  rw [cell_of_row w g j _ _ (0, 0) hg]; simp
theorem rep_src {w : World} {g N k m : Nat} {z : Int} {t : TypeId} (hg : w.heap[g]? = some (.cells (rpt N z k).toArray t (0, 0))) (hm : m ≤ k) : ∀ (j : Nat) (v : Value), (List.replicate m (Value.int .i64 z))[j]? = some v → w.cell? ((⟨g, 0, none⟩ : Addr).add j) = some v := by
  intro j v hj
  rw [List.getElem?_replicate] at hj
  split at hj
  · cases hj
    rw [Addr.add_lit, Nat.zero_add]
    exact (row_cell hg j).trans (rpt_get (by omega))
  · cases hj
theorem one_src {w : World} {g : Nat} {z : Int} (hc : w.cell? ⟨g, 0, none⟩ = some (.int .i64 z)) : ∀ (j : Nat) (v : Value), (List.replicate 1 (Value.int .i64 z))[j]? = some v → w.cell? ((⟨g, 0, none⟩ : Addr).add j) = some v := by
  intro j v hj
  rw [List.getElem?_replicate] at hj
  split at hj
  · rename_i h
    obtain rfl : j = 0 := by omega
    cases hj
    rw [Addr.add_lit]
    exact hc
  · cases hj
theorem size_int : (Try.prog.info? 3).map (·.size) = some 1 := by kernel_rfl

set_option maxHeartbeats 1600000 in
theorem repeat_int (N : Nat) (z : Int) (g0 c0 : Nat) (w : World) (hN : N ≤ 1000) (hN0 : 0 < N) (hz : w.cell? ⟨g0, 0, none⟩ = some (.int .i64 z)) (hg0 : g0 < w.heap.size) :
    Calls Try.prog 28 #[.slice (some ⟨g0, 0, none⟩) 1 c0, .int .i64 (N : Int)] w fun e w' => e = .returned (.slice (some ⟨w.heap.size, 0, none⟩) N N) ∧ Own eI 3 w.heap.size w' (.slice (some ⟨w.heap.size, 0, none⟩) N N) (List.replicate N z) ∧ Below w.heap.size w w' := by
  have HZ := Lib.hid hz
  have HN0 := Lib.hid hN0
  have HG0 := Lib.hid hg0
  have hmk := fun W => make_ints N (by omega) W
  have hw1 : IntKind.u64.wrap (N : Int) = (N : Int) := by rw [IntKind.wrap_u64]; omega
  have hw2 : IntKind.i64.wrap (N : Int) = (N : Int) := wrap_id (by omega)
  have HMUL : Hid (Calls Try.prog 40 #[.int .u64 1, .int .u64 (N : Int)] w fun e w' => e = .returned (.tuple #[.int .u64 0, .int .u64 (N : Int)]) ∧ w' = w) := by
    have h := Try.bits_Mul 1 N (by omega) (by omega) w
    have e1 : 1 * N / 18446744073709551616 = 0 := by omega
    have e2 : 1 * N % 18446744073709551616 = N := by omega
    rw [e1, e2] at h
    exact h
  have d0 : decide ((N : Int) < 0) = false := decide_eq_false (by omega)
  have d1 : decide ((9223372036854775807 : Int) < (N : Int)) = false := decide_eq_false (by omega)
  clear hz
  go_enter Try.func28, Try.ntmps28
  go_wp2_with fail
  refine HMUL.out.mono ?_
  rintro e w2 ⟨rfl, rfl⟩
  go_upto_region 7 with fail
  obtain ⟨wm, hwm⟩ : ∃ W, w2.alloc (.cells (madeCells #[.int .i64 0] N) 3) = W := ⟨_, rfl⟩
  have HBM : Hid (Below w2.heap.size w2 wm) := hwm ▸ below_alloc _ _
  have HROW : Hid (wm.heap[w2.heap.size]? = some (.cells (rpt N z 0).toArray 3 (0, 0))) := by
    subst hwm
    show _ = _
    rw [heap_alloc_new]
    have h := toList_madeCells_one (.int .i64 0) N
    have e : madeCells #[.int .i64 0] N = (rpt N z 0).toArray := by
      rw [← Array.toArray_toList (xs := madeCells #[.int .i64 0] N), h]
      simp [rpt]
    rw [e]
  have HSRC : Hid (wm.cell? ⟨g0, 0, none⟩ = some (.int .i64 z)) := hwm ▸ ((below_alloc _ _).cell (p := ⟨g0, 0, none⟩) HG0.out).trans HZ.out
  rw [hwm]
  clear hwm hmk hg0
  have HL1 : Hid ((List.replicate 1 (Value.int .i64 z)).length = Nat.min 1 N) := (by rw [List.length_replicate]; exact (Nat.min_eq_left HN0.out).symm : (List.replicate 1 (Value.int .i64 z)).length = Nat.min 1 N)
  have HL2 : Hid (0 + (List.replicate 1 (Value.int .i64 z)).length ≤ (rpt N z 0).length) := (by rw [rpt_len (Nat.zero_le _), List.length_replicate]; have := HN0.out; omega : 0 + (List.replicate 1 (Value.int .i64 z)).length ≤ (rpt N z 0).length)
  have HPOS : Hid (0 < (List.replicate 1 (Value.int .i64 z)).length → (some ⟨w2.heap.size, 0, none⟩ : Option Addr) = some ⟨w2.heap.size, 0, none⟩ ∧ ∃ ad, (some ⟨g0, 0, none⟩ : Option Addr) = some ad ∧ ∀ (j : Nat) (v : Value), (List.replicate 1 (Value.int .i64 z))[j]? = some v → wm.cell? (ad.add j) = some v) := fun _ => ⟨rfl, _, rfl, one_src HSRC.out⟩
  have HONE : Hid (∀ v ∈ List.replicate 1 (Value.int .i64 z), v.oneCell' = true) := fun v hv => by rw [List.eq_of_mem_replicate hv]; rfl
  go_wp2_with (first | (with_reducible refine wpList_copy_splice rfl (.tmp 31) (.tmp 32) 22 22 rfl 3 Try.underlying22 size_int _ _ _ _ _ _ rfl rfl w2.heap.size 0 (rpt N z 0) _ HROW.out (List.replicate 1 (.int .i64 z)) HL1.out HPOS.out HL2.out HONE.out w2.heap.size w2 HBM.out (Nat.le_refl _) ?_; intro w3 hg3 hb3; refine Hid.out ?_) | fail)
  refine Lib.hid ?_
  have hr3 := hg3.out
  rw [rpt_splice (by have := HN0.out; omega)] at hr3
  have HR3 := Lib.hid hr3
  have HB3 := Lib.hid hb3
  clear hg3 hb3 hr3
  go_wp2_with fail
  go_loopw [8] (fun i wr => ∃ k : Nat, i = .int .i64 (k : Int) ∧ 0 < k ∧ k ≤ N ∧ wr.heap[w2.heap.size]? = some (.cells (rpt N z k).toArray 3 (0, 0)) ∧ Below w2.heap.size w2 wr) (fun i _ => N - (RowKit.intOf i).toNat)
  case atStart => exact ⟨1, rfl, by omega, HN0.out, HR3.out, HB3.out⟩
  case round =>
    clear HR3 HB3
    obtain ⟨k, rfl, hk0, hkN, hrow, hbel⟩ := hrel
    have HRW := Lib.hid hrow
    have HW := Lib.hid hbel
    clear hrow hbel
    rcases Nat.lt_or_ge k N with hlt | hge
    · obtain ⟨m, hm⟩ : ∃ m, m = Nat.min k (N - k) := ⟨_, rfl⟩
      have hmle : k + m ≤ N ∧ 0 < m ∧ m ≤ k := by
        have h1 : m ≤ k := hm ▸ Nat.min_le_left _ _
        have h2 : m ≤ N - k := hm ▸ Nat.min_le_right _ _
        have h3 : m = k ∨ m = N - k := by
          rcases Nat.le_total k (N - k) with h | h
          · exact Or.inl (hm.trans (Nat.min_eq_left h))
          · exact Or.inr (hm.trans (Nat.min_eq_right h))
        omega
      have HM := Lib.hid hm
      have HML := Lib.hid hmle
      have hsl := slice_lo ⟨w2.heap.size, 0, none⟩ N N k rfl (by omega) hlt
      simp only [Nat.zero_add] at hsl
      have hsh := slice_hi (some ⟨w2.heap.size, 0, none⟩) N N k hkN
      have i1 : (k : Int) < (N : Int) := by omega
      have hadd : (k : Int) + (m : Int) = ((k + m : Nat) : Int) := by omega
      have HADD := Lib.hid hadd
      obtain ⟨km, hkm⟩ : ∃ x, x = k + m := ⟨_, rfl⟩
      have HKM := Lib.hid hkm
      have hwr : IntKind.i64.wrap ((k : Int) + (m : Int)) = (km : Int) := by rw [hadd, ← hkm]; exact wrap_id (by omega)
      have HLM : Hid ((List.replicate m (Value.int .i64 z)).length = Nat.min k (N - k)) := (by rw [List.length_replicate]; exact hm : (List.replicate m (Value.int .i64 z)).length = Nat.min k (N - k))
      have HRWD : Hid (wr.drew.heap[w2.heap.size]? = some (.cells (rpt N z k).toArray 3 (0, 0))) := HRW.out
      have HBD : Hid (Below w2.heap.size w2 wr.drew) := below_drew HW.out
      have HPOM : Hid (∃ ad, (some ⟨w2.heap.size, 0, none⟩ : Option Addr) = some ad ∧ ∀ (j : Nat) (v : Value), (List.replicate m (Value.int .i64 z))[j]? = some v → wr.drew.cell? (ad.add j) = some v) := ⟨_, rfl, rep_src HRWD.out hmle.2.2⟩
      have HFIT : Hid (k + (List.replicate m (Value.int .i64 z)).length ≤ (rpt N z k).length) := (by rw [rpt_len (by omega), List.length_replicate]; exact hmle.1 : k + (List.replicate m (Value.int .i64 z)).length ≤ (rpt N z k).length)
      have HONM : Hid (∀ v ∈ List.replicate m (Value.int .i64 z), v.oneCell' = true) := fun v hv => by rw [List.eq_of_mem_replicate hv]; rfl
      clear hm hadd hkm
      go_wp2_with fail
      go_region_law (refine step_copy_splice rfl (.tmp 41) (.tmp 44) 22 22 rfl 3 Try.underlying22 size_int (some ⟨w2.heap.size, k, none⟩) (some ⟨w2.heap.size, 0, none⟩) (N - k) (N - k) k N (by simp [Act.eval, Act.put]) (by simp [Act.eval, Act.put]) w2.heap.size k (rpt N z k) 3 HRWD.out (List.replicate m (.int .i64 z)) HLM.out (fun _ => ⟨rfl, HPOM.out⟩) HFIT.out HONM.out w2.heap.size w2 HBD.out (Nat.le_refl _) ?_; intro w4 hg4 hb4)
      have hr4 := hg4.out
      rw [rpt_splice HML.out.1, ← HKM.out] at hr4
      have HR4 := Lib.hid hr4
      have HB4 := Lib.hid hb4
      clear hg4 hb4 hr4 hsl hsh
      simp only [List.getElem_toArray, List.getElem_cons_succ, List.getElem_cons_zero, Act.put, List.setIfInBounds_toArray, List.set_cons_zero, List.set_cons_succ]
      go_wp2_with fail
      go_roundw
      case rel => exact ⟨km, rfl, by have := HML.out; have := HKM.out; omega, by have := HML.out; have := HKM.out; omega, HR4.out, HB4.out⟩
      case measure => simp [RowKit.intOf]; have := HML.out; have := HKM.out; omega
    · obtain rfl : N = k := by omega
      have HOW := Lib.hid (own_rpt (B := w2.heap.size) HRW.out (Nat.le_refl _) (by omega))
      go_wp2_with fail
      go_ret
      exact ⟨rfl, HOW.out, HW.out⟩
end Go.Proofs.Ytdolhanniiejfaa.Mem
/- share.Bounds, share.Even. -/
namespace Go.Proofs.Ytdolhanniiejfaa.Share
open Go.ChangeShapes Go.WideShapes Go.RowKit Go.Lib Go.Proofs.Ytdolhanniiejfaa.Mem
set_option linter.unusedVariables false
set_option maxRecDepth 100000

set_option maxHeartbeats 3200000 in
theorem share_bounds (t : Int) (ws : List Int) (A : Option Addr) (c : Nat) (w : World) (hS : Cl eI w A ws) (hl : ws.length ≤ 9223372036854775807) :
    Calls Try.prog 13 #[.int .i64 t, .slice A ws.length c] w (ResL (bouL t ws) (errS t ws) w) := by
  have HDIV := Lib.hid (share_divisor t ws A c w hS hl)
  by_cases hE : errS t ws = 0
  · obtain ⟨W, hW, hW0, hW1, -, hsW, -, hbd⟩ := dvV_ok hE
    have ok := Ok.of hE
    obtain ⟨T, hT⟩ : ∃ T : Nat, T = t.toNat := ⟨_, rfl⟩
    have ht : t = (T : Int) := by have := ok.t0; omega
    have hTm : T ≤ 1125899906842624 := by have h1 := ok.t1; have hm : mx = 1125899906842624 := rfl; omega
    rw [hW, hE] at HDIV
    have HRES : Hid (bouL t ws = bndsL t ws) := if_pos hE
    obtain ⟨q, hq⟩ : ∃ q, q = bnd t.toNat (wf ws) ws.length := ⟨_, rfl⟩
    obtain ⟨y, hy⟩ : ∃ y, y = sm (wf ws) := ⟨_, rfl⟩
    have HFIN : Hid (lst (fun j => (q j : Int)) ws.length = bndsL t ws) := by show _ = _; rw [hq]; rfl
    have HLN : Hid (ws.length ≤ 512 ∧ 0 < ws.length) := ⟨ok.n1, ok.n0⟩
    have HDV := Lib.hid (show ∀ i, i < ws.length → ∀ W', Calls Try.prog 24 #[.int .i64 (T : Int), .int .i64 (y (i + 1) : Int), .int .i64 (W : Int)] W' fun e w' => (∃ r : Int, e = .returned (.tuple #[.int .i64 (q i : Int), .int .i64 r])) ∧ Below W'.heap.size W' w' from fun i hi W' => by
      have h1 := share_divide hW0 hTm (hsW i hi) hW1 W'
      have h2 := hbd i hi
      rw [← hT] at h2 hq
      rw [h2] at h1
      rw [hq, hy]
      exact h1.mono fun e w' h => ⟨⟨_, h.1⟩, h.2⟩)
    have HY : Hid (∀ i, i < ws.length → y (i + 1) = y i + wf ws i ∧ y (i + 1) ≤ 1125899906842624) := fun i hi => ⟨by rw [hy]; rfl, by rw [hy]; exact Nat.le_trans (hsW i hi) hW1⟩
    have HY0 : Hid (y 0 = 0) := (by rw [hy]; rfl : y 0 = 0)
    have HWF : Hid (∀ (i : Nat) z, ws[i]? = some z → z = (wf ws i : Int)) := fun i z hz => (wf_at hz (ok.all z (List.mem_of_getElem? hz)).1).symm
    have HS := Lib.hid hS
    obtain ⟨n, hn⟩ : ∃ n, ws.length = n := ⟨_, rfl⟩
    have HN := Lib.hid hn
    have HTT := Lib.hid ht
    rw [hn] at HDIV HFIN HLN HDV HY hl ⊢
    rw [hE]
    rw [ht] at HDIV ⊢
    have hn5 := HLN.out.1
    have hmk := fun W => make_ints n (by omega) W
    clear hS hW hW0 hW1 hsW hbd ok hT ht hq hy hE hn hl
    go_enter Try.func13, Try.ntmps13
    go_wp2_with fail
    refine HDIV.out.mono ?_
    rintro e w1 ⟨rfl, hb1⟩
    have HB1 := Lib.hid hb1
    clear hb1
    go_upto_region 5 with fail
    have HOP0 := Lib.hid (one_made w1 n (by omega))
    have HBC0 := Lib.hid (below_alloc w1 (zeros n))
    obtain ⟨w2, hw2⟩ : ∃ W, w1.alloc (zeros n) = W := ⟨_, rfl⟩
    obtain ⟨gp, hgp⟩ : ∃ g, w1.heap.size = g := ⟨_, rfl⟩
    have HGP := Lib.hid hgp
    have HBC : Hid (Below gp w1 w2) := hgp ▸ hw2 ▸ HBC0.out
    have HOP : Hid (Own eI 3 gp w2 (.slice (some ⟨gp, 0, none⟩) n n) (lst (fun _ => 0) n)) := hgp ▸ hw2 ▸ HOP0.out
    rw [hw2, hgp]
    clear hw2 hgp hmk HOP0 HBC0
    go_wp2_with fail
    go_loopw [9, 10, 11, 26] (fun l _ _ x wr => ∃ k : Nat, l = .int .i64 (y k : Int) ∧ x = .int .i64 (k : Int) ∧ k ≤ n ∧ Own eI 3 gp wr (.slice (some ⟨gp, 0, none⟩) n n) (upL q k n) ∧ Below gp w1 wr) (fun _ _ _ x _ => n - (RowKit.intOf x).toNat)
    case atStart => exact ⟨0, by rw [HY0.out]; rfl, rfl, Nat.zero_le _, by rw [upL_zero]; exact HOP.out, HBC.out⟩
    case round =>
      obtain ⟨k, rfl, rfl, hk, hop, hbel⟩ := hrel
      have HOP2 := Lib.hid hop
      have HB := Lib.hid hbel
      clear hop hbel
      rcases Nat.lt_or_ge k n with hlt | hge
      · obtain ⟨z, hz⟩ := get_lt (L := ws) (k := k) (by rw [HN.out]; exact hlt)
        obtain ⟨b, off, hA, hb, hcell⟩ := (HS.out.on (HB1.out.trans (HB.out.mono (by rw [← HGP.out]; exact HB1.out.size)))) k z hz
        obtain rfl := hA
        obtain rfl := HWF.out k z hz
        have HCALL := Lib.hid (HDV.out k hlt wr)
        have hyk := HY.out k hlt
        obtain ⟨x, hx⟩ : ∃ x, x = wf ws k := ⟨_, rfl⟩
        obtain ⟨Y, hY⟩ : ∃ x, x = y k := ⟨_, rfl⟩
        obtain ⟨Y', hY'⟩ : ∃ x, x = y (k + 1) := ⟨_, rfl⟩
        obtain ⟨Q, hQ⟩ : ∃ x, x = q k := ⟨_, rfl⟩
        rw [← hx] at hcell
        rw [← hQ, ← hY'] at HCALL
        rw [← hY, ← hY', ← hx] at hyk
        rw [← hY]
        have HYK := Lib.hid (show Y' = y (k + 1) from hY')
        have HQR := Lib.hid (show Q = q k from hQ)
        have i1 : (k : Int) < (n : Int) := by omega
        have i2 : (0 : Int) ≤ (k : Int) := by omega
        have hk1 : IntKind.i64.wrap ((k : Int) + 1) = ((k + 1 : Nat) : Int) := wrap_id (by omega)
        have hy1 : IntKind.i64.wrap ((Y : Int) + (x : Int)) = (Y' : Int) := by rw [wrap_id (by omega)]; omega
        have HLT := Lib.hid hlt
        clear hz hx hQ hb hk hyk hY hY' hlt
        go_wp2_with fail
        refine HCALL.out.mono ?_
        rintro e w3 ⟨⟨r, rfl⟩, hb3⟩
        have HOP3 := Lib.hid (HOP2.out.on hb3)
        have HB3 : Hid (Below gp w1 w3) := HB.out.trans (hb3.mono (by have := HB.out.size; have := HGP.out; omega))
        have cp := HOP3.out.cell (upL_at q HLT.out)
        have fp := HOP3.out.warm (upL_len q k n).symm k
        have HPP : Hid (Own eI 3 gp (w3.setCell ⟨gp, k, none⟩ (.int .i64 (Q : Int))) (.slice (some ⟨gp, 0, none⟩) n n) (upL q (k + 1) n)) := by
          have h1 := HOP3.out.set (upL_len q k n).symm k (Q : Int)
          rw [HQR.out, upL_set q HLT.out] at h1
          rw [HQR.out]
          exact h1
        have HBB : Hid (Below gp w1 (w3.setCell ⟨gp, k, none⟩ (.int .i64 (Q : Int)))) := below_set HB3.out (p := ⟨gp, k, none⟩) (Nat.le_refl _) _
        clear hb3
        go_wp2_with fail
        go_roundw
        case rel => exact ⟨k + 1, by rw [HYK.out], rfl, HLT.out, HPP.out, HBB.out⟩
        case measure =>
          have := HLT.out
          simp [RowKit.intOf]; omega
      · obtain rfl : n = k := by omega
        have HOF : Hid (Own eI 3 w.heap.size wr (.slice (some ⟨gp, 0, none⟩) n n) (bouL t ws)) := by
          rw [HRES.out, ← HFIN.out, ← upL_all]
          exact HOP2.out.less (by rw [← HGP.out]; exact HB1.out.size)
        have HBF : Hid (Below w.heap.size w wr) := HB1.out.trans (HB.out.mono (by rw [← HGP.out]; exact HB1.out.size))
        clear hk hge
        go_wp2_with fail
        go_ret2
        exact ⟨_, rfl, by rw [← HTT.out]; exact HOF.out, HBF.out⟩
  · obtain ⟨E, hEE⟩ : ∃ E, E = errS t ws := ⟨_, rfl⟩
    have HRES : Hid (bouL t ws = []) := if_neg hE
    have hE1 : ((E : Int) != 0) = true := by simp; omega
    have hE2 : ¬ E = 0 := by omega
    have hE3 : ¬ (E : Int) = 0 := by omega
    obtain ⟨D, hD⟩ : ∃ D, D = dvV t ws := ⟨_, rfl⟩
    obtain ⟨n, hn⟩ : ∃ n, ws.length = n := ⟨_, rfl⟩
    rw [← hEE, ← hD, hn] at HDIV
    rw [← hEE, hn]
    clear hEE hD hS hl hn hE
    go_enter Try.func13, Try.ntmps13
    go_wp2_with fail
    refine HDIV.out.mono ?_
    rintro e w1 ⟨rfl, hb1⟩
    have HB1 := Lib.hid hb1
    clear hb1
    go_wp2_with fail
    go_ret2
    exact ⟨_, rfl, by rw [HRES.out]; exact Own.nil _ _ _ _, HB1.out⟩
end Go.Proofs.Ytdolhanniiejfaa.Share
/- check and Divide of the reference. -/
namespace Go.Proofs.Ytdolhanniiejfaa.Share
open Go.ChangeShapes Go.WideShapes Go.RowKit Go.Lib Go.Proofs.Ytdolhanniiejfaa.Mem
set_option linter.unusedVariables false
set_option maxRecDepth 100000

def chV (t : Int) (ws : List Int) : Int := if errS t ws = 0 then sumK ws ws.length else 0

set_option maxHeartbeats 1600000 in
theorem ref_check (t : Int) (ws : List Int) (A : Option Addr) (c : Nat) (w : World) (hS : Cl eI w A ws) (hl : ws.length ≤ 9223372036854775807) :
    Calls Try.prog 26 #[.int .i64 t, .slice A ws.length c] w fun e w' => e = .returned (.tuple #[.int .i64 (chV t ws), .int .i64 (errS t ws : Int)]) ∧ w = w' := by
  obtain ⟨N, hN⟩ : ∃ N, ws.length = N := ⟨_, rfl⟩
  have HN := Lib.hid hN
  have HS := Lib.hid hS
  rw [hN] at hl ⊢
  clear hS hN
  cases hi : inW t with
  | false =>
    have HD : Hid (chV t ws = 0 ∧ (errS t ws : Int) = 1) := by
      have := errS_t (ws := ws) hi
      refine ⟨by unfold chV; rw [this]; rfl, by rw [this]; rfl⟩
    have hmx : mx = 1125899906842624 := rfl
    rcases inW_no.mp hi with h1 | h1
    · clear hi hmx
      go_enter Try.func26, Try.ntmps26
      go_wp2_with fail
      go_ret2
      exact ⟨two_is HD.out.1.symm HD.out.2.symm, rfl⟩
    · have h2 : ¬ t < 0 := by omega
      have h3 : 1125899906842624 < t := by omega
      clear hi hmx
      go_enter Try.func26, Try.ntmps26
      go_wp2_with fail
      go_ret2
      exact ⟨two_is HD.out.1.symm HD.out.2.symm, rfl⟩
  | true =>
    have HI := Lib.hid hi
    obtain ⟨t0, t1⟩ := inW_iff.mp hi
    have hmx : mx = 1125899906842624 := rfl
    have g1 : ¬ t < 0 := by omega
    have g2 : ¬ 1125899906842624 < t := by omega
    clear hi t0 t1 hmx
    rcases Nat.eq_zero_or_pos N with rfl | hpos
    · have HD : Hid (chV t ws = 0 ∧ (errS t ws : Int) = 10) := by
        have := errS_0 HI.out HN.out
        refine ⟨by unfold chV; rw [this]; rfl, by rw [this]; rfl⟩
      go_enter Try.func26, Try.ntmps26
      go_wp2_with fail
      go_ret2
      exact ⟨two_is HD.out.1.symm HD.out.2.symm, rfl⟩
    · rcases Nat.lt_or_ge 512 N with hbig | hle
      · have HD : Hid (chV t ws = 0 ∧ (errS t ws : Int) = 8) := by
          have := errS_n HI.out (by rw [HN.out]; exact hbig)
          refine ⟨by unfold chV; rw [this]; rfl, by rw [this]; rfl⟩
        have b1 : ¬ N = 0 := by omega
        have b2 : (512 : Int) < (N : Int) := by omega
        have b3 : ((N : Int) == 0) = false := by simp; omega
        go_enter Try.func26, Try.ntmps26
        go_wp2_with fail
        go_ret2
        exact ⟨two_is HD.out.1.symm HD.out.2.symm, rfl⟩
      · have HP := Lib.hid (show 0 < N ∧ N ≤ 512 from ⟨hpos, hle⟩)
        have b1 : ¬ N = 0 := by omega
        have b2 : decide ((512 : Int) < (N : Int)) = false := decide_eq_false (by omega)
        have b3 : ((N : Int) == 0) = false := by simp; omega
        clear hpos hle
        go_enter Try.func26, Try.ntmps26
        go_wp2_with fail
        go_loopw [6] (fun x wr => ∃ k : Nat, k ≤ N ∧ x = .int .i64 (k : Int) ∧ (∀ (j : Nat) z, j < k → ws[j]? = some z → inW z = true) ∧ wr = w) (fun x _ => N - (RowKit.intOf x).toNat)
        case atStart => exact ⟨0, Nat.zero_le _, rfl, fun j z h => by omega, rfl⟩
        case round =>
          obtain ⟨k, hk, rfl, hall, rfl⟩ := hrel
          have HALL := Lib.hid hall
          clear hall
          rcases Nat.lt_or_ge k N with hlt | hge
          · obtain ⟨z, hz⟩ := get_lt (L := ws) (k := k) (by rw [HN.out]; exact hlt)
            obtain ⟨b, off, rfl, hb, hcell⟩ := HS.out k z hz
            have HZ := Lib.hid hz
            have i1 : (k : Int) < (N : Int) := by omega
            have i2 : (0 : Int) ≤ (k : Int) := by omega
            have hk1 : IntKind.i64.wrap ((k : Int) + 1) = ((k + 1 : Nat) : Int) := wrap_id (by have := HP.out; omega)
            clear hz
            cases hi : inW z with
            | true =>
              have HIT := Lib.hid hi
              obtain ⟨z0, z1⟩ := inW_iff.mp hi
              have hmx : mx = 1125899906842624 := rfl
              have f1 : ¬ z < 0 := by omega
              have f2 : ¬ 1125899906842624 < z := by omega
              clear hi z0 z1 hmx
              go_wp2_with fail
              go_roundw
              case rel => exact ⟨k + 1, by omega, rfl, fun j y h1 h2 => by
                rcases Nat.lt_or_ge j k with h3 | h3
                · exact HALL.out j y h3 h2
                · obtain rfl : j = k := by omega
                  rw [HZ.out] at h2; cases h2; exact HIT.out, trivial⟩
              case measure => simp [RowKit.intOf]; omega
            | false =>
              have HD : Hid (chV t ws = 0 ∧ (errS t ws : Int) = 1) := by
                have := errS_w HI.out (by rw [HN.out]; exact HP.out.1) (by rw [HN.out]; exact HP.out.2) HZ.out hi
                refine ⟨by unfold chV; rw [this]; rfl, by rw [this]; rfl⟩
              rcases inW_no.mp hi with f1 | f1
              · clear hi
                go_wp2_with fail
                go_ret2
                exact ⟨two_is HD.out.1.symm HD.out.2.symm, rfl⟩
              · have hmx : mx = 1125899906842624 := rfl
                have f2 : ¬ z < 0 := by omega
                have f3 : 1125899906842624 < z := by omega
                clear hi f1 hmx
                go_wp2_with fail
                go_ret2
                exact ⟨two_is HD.out.1.symm HD.out.2.symm, rfl⟩
          · obtain rfl : N = k := by omega
            have HA : Hid (∀ z ∈ ws, 0 ≤ z ∧ z ≤ mx) := fun z hz => by
              obtain ⟨j, hj⟩ := List.mem_iff_getElem?.mp hz
              exact inW_iff.mp (HALL.out j z (by rw [← HN.out]; exact lt_of_get hj) hj)
            clear hk hge
            go_wp2_with fail
            go_loopw [7, 8] (fun x y wr2 => ∃ (k : Nat) (s : Int), k ≤ N ∧ x = .int .i64 s ∧ y = .int .i64 (k : Int) ∧ s = sumK ws k ∧ 0 ≤ s ∧ s ≤ 1125899906842624 * (k : Int) ∧ wr2 = wr) (fun _ y _ => N - (RowKit.intOf y).toNat)
            case atStart => exact ⟨0, 0, Nat.zero_le _, rfl, rfl, rfl, by omega, by omega, rfl⟩
            case round =>
              obtain ⟨k, s, hk, rfl, rfl, hs, hs0, hs1, rfl⟩ := hrel
              have HSK := Lib.hid hs
              have hP := HP.out.2
              clear hs
              rcases Nat.lt_or_ge k N with hlt | hge
              · obtain ⟨z, hz⟩ := get_lt (L := ws) (k := k) (by rw [HN.out]; exact hlt)
                obtain ⟨b, off, rfl, hb, hcell⟩ := HS.out k z hz
                have HZ := Lib.hid hz
                obtain ⟨z0, z1⟩ := HA.out z (List.mem_of_getElem? hz)
                have i1 : (k : Int) < (N : Int) := by omega
                have i2 : (0 : Int) ≤ (k : Int) := by omega
                have hk1 : IntKind.i64.wrap ((k : Int) + 1) = ((k + 1 : Nat) : Int) := wrap_id (by omega)
                have hmx : mx = 1125899906842624 := rfl
                obtain ⟨s', hs'⟩ : ∃ s', s' = s + z := ⟨_, rfl⟩
                have hw : IntKind.i64.wrap (s + z) = s' := by rw [wrap_id (by omega)]; omega
                have HX := Lib.hid (show 0 ≤ s' ∧ s' ≤ 1125899906842624 * ((k + 1 : Nat) : Int) ∧ k + 1 ≤ N ∧ s' = s + z by omega)
                clear hz z0 z1 hs' hs0 hs1 hk hP hlt hmx
                go_wp2_with fail
                go_roundw
                case rel => exact ⟨k + 1, s', HX.out.2.2.1, rfl, rfl, by rw [sumK_succ HZ.out, ← HSK.out]; exact HX.out.2.2.2, HX.out.1, HX.out.2.1, trivial⟩
                case measure =>
                  have := HX.out
                  simp [RowKit.intOf]; omega
              · obtain rfl : N = k := by omega
                have HE := Lib.hid (errS_s HI.out (by rw [HN.out]; exact HP.out.1) (by rw [HN.out]; exact HP.out.2) HA.out)
                have HDV : Hid (chV t ws = if errS t ws = 0 then sumK ws ws.length else 0) := rfl
                have HSS : Hid (sumK ws ws.length = s) := (by rw [HN.out]; exact HSK.out.symm : sumK ws ws.length = s)
                rw [HSS.out] at HE HDV
                clear hk hge hP
                rcases Int.lt_or_le mx s with hS | hS
                · have HD : Hid (chV t ws = 0 ∧ (errS t ws : Int) = 2) := by
                    have := HE.out
                    rw [if_pos hS] at this
                    refine ⟨by rw [HDV.out, this]; rfl, by rw [this]; rfl⟩
                  have f1 : 1125899906842624 < s := hS
                  clear hS hs0 hs1
                  go_wp2_with fail
                  go_ret2
                  exact ⟨two_is HD.out.1.symm HD.out.2.symm, rfl⟩
                · have hmx : mx = 1125899906842624 := rfl
                  have f1 : ¬ 1125899906842624 < s := by omega
                  have hnS : ¬ mx < s := by omega
                  by_cases hs2 : s = 0
                  · subst hs2
                    by_cases ht : t = 0
                    · subst ht
                      have HD : Hid (chV 0 ws = 0 ∧ (errS 0 ws : Int) = 0) := by
                        have := HE.out
                        rw [if_neg hnS, if_neg (fun h => h.2 rfl)] at this
                        refine ⟨by rw [HDV.out, this]; rfl, by rw [this]; rfl⟩
                      have f2 : ((0 : Int) != 0) = false := rfl
                      clear hS hnS hs0 hs1 hmx
                      go_wp2_with fail
                      go_ret2
                      exact ⟨two_is HD.out.1.symm HD.out.2.symm, rfl⟩
                    · have HD : Hid (chV t ws = 0 ∧ (errS t ws : Int) = 16) := by
                        have := HE.out
                        rw [if_neg hnS, if_pos ⟨rfl, ht⟩] at this
                        refine ⟨by rw [HDV.out, this]; rfl, by rw [this]; rfl⟩
                      have f2 : (t != 0) = true := by simp [ht]
                      clear hS hnS hs0 hs1 hmx
                      go_wp2_with fail
                      go_ret2
                      exact ⟨two_is HD.out.1.symm HD.out.2.symm, rfl⟩
                  · have HD : Hid (chV t ws = s ∧ (errS t ws : Int) = 0) := by
                      have := HE.out
                      rw [if_neg hnS, if_neg (fun h => hs2 h.1)] at this
                      refine ⟨by rw [HDV.out, this]; rfl, by rw [this]; rfl⟩
                    have f2 : (s == 0) = false := by simp [hs2]
                    clear hS hnS hs0 hs1 hmx
                    go_wp2_with fail
                    go_ret2
                    exact ⟨two_is HD.out.1.symm HD.out.2.symm, rfl⟩

theorem i64_and1 (n : Int) : bits .and .i64 n 1 = n % 2 := by
  have h1 : (BitVec.ofInt 64 1).toNat = 2 ^ 1 - 1 := by decide
  have key : (BitVec.ofInt 64 n &&& BitVec.ofInt 64 1).toNat = (n % ((2 ^ 64 : Nat) : Int)).toNat % 2 ^ 1 := by
    rw [BitVec.toNat_and, BitVec.toNat_ofInt, h1, Nat.and_two_pow_sub_one_eq_mod]
  show IntKind.i64.wrap ((BitVec.ofInt 64 n &&& BitVec.ofInt 64 1).toNat : Nat) = n % 2
  rw [key, IntKind.wrap_i64]
  omega
set_option maxHeartbeats 3200000 in
theorem ref_divide {a b c : Nat} (hac : a ≤ c) (hc : 0 < c) (hc2 : c ≤ 1125899906842624) (hb : b ≤ 1125899906842624) (w : World) :
    Calls Try.prog 27 #[.int .i64 (a : Int), .int .i64 (b : Int), .int .i64 (c : Int)] w fun e w' => e = .returned (.tuple #[.int .i64 ((a * b / c : Nat) : Int), .int .i64 ((a * b % c : Nat) : Int)]) ∧ w = w' := by
  have HX := Lib.hid (show a ≤ c ∧ 0 < c ∧ c ≤ 1125899906842624 ∧ b ≤ 1125899906842624 from ⟨hac, hc, hc2, hb⟩)
  obtain ⟨Q, hQ⟩ : ∃ Q, Q = a * b / c := ⟨_, rfl⟩
  obtain ⟨R, hR⟩ : ∃ R, R = a * b % c := ⟨_, rfl⟩
  have HQR := Lib.hid (show Q = a * b / c ∧ R = a * b % c from ⟨hQ, hR⟩)
  rw [← hQ, ← hR]
  have hsg : IntKind.i64.signed = true := rfl
  clear hac hc hc2 hb hQ hR
  go_enter Try.func27, Try.ntmps27
  go_wp2_with fail
  go_loopw [8, 9, 10] (fun x y z wr => ∃ (j q r : Nat), x = .int .i64 (q : Int) ∧ y = .int .i64 (r : Int) ∧ z = .int .i64 ((j : Int) - 1) ∧ j ≤ 51 ∧ Dv a b c j q r ∧ wr = w) (fun _ _ z _ => (RowKit.intOf z + 1).toNat)
  case atStart => exact ⟨51, 0, 0, rfl, rfl, rfl, by omega, Dv.start (by have := HX.out; omega) HX.out.2.1, rfl⟩
  case round =>
    obtain ⟨j, q, r, rfl, rfl, rfl, hj, hdv, rfl⟩ := hrel
    have HDV := Lib.hid hdv
    have hX := HX.out
    have hq := hdv.q_le hX.1
    have hr := hdv.2
    clear hdv
    cases j with
    | zero =>
      have HE : Hid (q = Q ∧ r = R) := by
        have h1 := HDV.out.all
        have h2 := HQR.out
        exact ⟨h1.1.trans h2.1.symm, h1.2.trans h2.2.symm⟩
      obtain ⟨rfl, rfl⟩ := HE.out
      clear hX hq hr hj
      go_wp2_with fail
      go_ret2
      exact ⟨rfl, rfl⟩
    | succ k =>
      have e0 : ((k + 1 : Nat) : Int) - 1 = (k : Int) := by omega
      rw [e0]
      clear e0
      have HK := Lib.hid (show k ≤ 50 by omega)
      obtain ⟨Y, hY⟩ : ∃ Y, Y = b / 2 ^ k := ⟨_, rfl⟩
      obtain ⟨q2, hq2⟩ : ∃ x, x = 2 * q := ⟨_, rfl⟩
      obtain ⟨r2, hr2⟩ : ∃ x, x = 2 * r := ⟨_, rfl⟩
      have hw1 : IntKind.i64.wrap (2 * (q : Int)) = (q2 : Int) := by rw [wrap_id (by omega)]; omega
      have hw2 : IntKind.i64.wrap (2 * (r : Int)) = (r2 : Int) := by rw [wrap_id (by omega)]; omega
      have hsh : (b : Int) / 2 ^ k = (Y : Int) := by rw [hY]; simp
      have hk0 : (0 : Int) ≤ (k : Int) := by omega
      have hk64 : (k : Int) ≤ 64 := by omega
      have hand := i64_and1 (Y : Int)
      rcases Nat.mod_two_eq_zero_or_one Y with hp | hp
      · have hm : (Y : Int) % 2 = 0 := by omega
        rw [hm] at hand
        obtain ⟨r1, hr1⟩ : ∃ x, x = r2 := ⟨_, rfl⟩
        rw [← hr1] at hw2
        have HDW : Hid (Dw a b c k q2 r1) := by rw [hq2, hr1, hr2]; exact HDV.out.zero (by rw [← hY]; exact hp)
        have HR1 := Lib.hid (show r1 ≤ 4503599627370496 by omega)
        clear hp hm hr1
        clear hX hq hr hj hY hq2 hr2
        go_wp2_with fail
        go_loopw [8, 9] (fun x y wr2 => ∃ q' r' : Nat, x = .int .i64 (q' : Int) ∧ y = .int .i64 (r' : Int) ∧ Dw a b c k q' r' ∧ r' ≤ 4503599627370496 ∧ wr2 = wr) (fun _ y _ => (RowKit.intOf y).toNat)
        case atStart => exact ⟨q2, r1, rfl, rfl, HDW.out, HR1.out, rfl⟩
        case round =>
          obtain ⟨q', r', rfl, rfl, hdw, hr', rfl⟩ := hrel
          have HDW2 := Lib.hid hdw
          have hX := HX.out
          have hqb := hdw.q_le hX.1 hX.2.1
          clear hdw
          rcases Nat.lt_or_ge r' c with hlt | hge
          · have HD := Lib.hid (HDW2.out.done hlt)
            have f5 : ¬ c ≤ r' := by omega
            have hk9 : IntKind.i64.wrap ((k : Int) - 1) = (k : Int) - 1 := wrap_id (by have := HK.out; omega)
            clear hX hqb hr' hlt
            go_wp2_with fail
            go_roundw
            case rel => exact ⟨k, q', r', rfl, rfl, rfl, by have := HK.out; omega, HD.out, trivial⟩
            case measure => simp [RowKit.intOf]
          · obtain ⟨r3, hr3⟩ : ∃ x, x = r' - c := ⟨_, rfl⟩
            obtain ⟨q3, hq3⟩ : ∃ x, x = q' + 1 := ⟨_, rfl⟩
            have hw5 : IntKind.i64.wrap ((r' : Int) - (c : Int)) = (r3 : Int) := by rw [wrap_id (by omega)]; omega
            have hw6 : IntKind.i64.wrap ((q' : Int) + 1) = (q3 : Int) := by rw [wrap_id (by omega)]; omega
            have HD : Hid (Dw a b c k q3 r3) := by
              have h1 := HDW2.out
              rw [show r' = r3 + c by omega] at h1
              rw [hq3]
              exact h1.off
            have f5 : c ≤ r' := hge
            have HR3 := Lib.hid (show r3 ≤ 4503599627370496 ∧ r3 < r' by omega)
            clear hX hqb hr' hge hr3 hq3
            go_wp2_with fail
            go_roundw
            case rel => exact ⟨q3, r3, rfl, rfl, HD.out, HR3.out.1, trivial⟩
            case measure =>
              have := HR3.out
              simp [RowKit.intOf]; omega
      · have hm : (Y : Int) % 2 = 1 := by omega
        rw [hm] at hand
        obtain ⟨r1, hr1⟩ : ∃ x, x = r2 + a := ⟨_, rfl⟩
        have hw4 : IntKind.i64.wrap ((r2 : Int) + (a : Int)) = (r1 : Int) := by rw [wrap_id (by omega)]; omega
        have HDW : Hid (Dw a b c k q2 r1) := by rw [hq2, hr1, hr2]; exact HDV.out.one (by rw [← hY]; exact hp)
        have HR1 := Lib.hid (show r1 ≤ 4503599627370496 by omega)
        clear hp hm hr1
        clear hX hq hr hj hY hq2 hr2
        go_wp2_with fail
        go_loopw [8, 9] (fun x y wr2 => ∃ q' r' : Nat, x = .int .i64 (q' : Int) ∧ y = .int .i64 (r' : Int) ∧ Dw a b c k q' r' ∧ r' ≤ 4503599627370496 ∧ wr2 = wr) (fun _ y _ => (RowKit.intOf y).toNat)
        case atStart => exact ⟨q2, r1, rfl, rfl, HDW.out, HR1.out, rfl⟩
        case round =>
          obtain ⟨q', r', rfl, rfl, hdw, hr', rfl⟩ := hrel
          have HDW2 := Lib.hid hdw
          have hX := HX.out
          have hqb := hdw.q_le hX.1 hX.2.1
          clear hdw
          rcases Nat.lt_or_ge r' c with hlt | hge
          · have HD := Lib.hid (HDW2.out.done hlt)
            have f5 : ¬ c ≤ r' := by omega
            have hk9 : IntKind.i64.wrap ((k : Int) - 1) = (k : Int) - 1 := wrap_id (by have := HK.out; omega)
            clear hX hqb hr' hlt
            go_wp2_with fail
            go_roundw
            case rel => exact ⟨k, q', r', rfl, rfl, rfl, by have := HK.out; omega, HD.out, trivial⟩
            case measure => simp [RowKit.intOf]
          · obtain ⟨r3, hr3⟩ : ∃ x, x = r' - c := ⟨_, rfl⟩
            obtain ⟨q3, hq3⟩ : ∃ x, x = q' + 1 := ⟨_, rfl⟩
            have hw5 : IntKind.i64.wrap ((r' : Int) - (c : Int)) = (r3 : Int) := by rw [wrap_id (by omega)]; omega
            have hw6 : IntKind.i64.wrap ((q' : Int) + 1) = (q3 : Int) := by rw [wrap_id (by omega)]; omega
            have HD : Hid (Dw a b c k q3 r3) := by
              have h1 := HDW2.out
              rw [show r' = r3 + c by omega] at h1
              rw [hq3]
              exact h1.off
            have f5 : c ≤ r' := hge
            have HR3 := Lib.hid (show r3 ≤ 4503599627370496 ∧ r3 < r' by omega)
            clear hX hqb hr' hge hr3 hq3
            go_wp2_with fail
            go_roundw
            case rel => exact ⟨q3, r3, rfl, rfl, HD.out, HR3.out.1, trivial⟩
            case measure =>
              have := HR3.out
              simp [RowKit.intOf]; omega
end Go.Proofs.Ytdolhanniiejfaa.Share
