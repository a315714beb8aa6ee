/- Several texts in one: StableF, StableG, StableH. -/
import Derived.Test.YtihklpkpcnahkaaPk4
import Derived.Deep.Cut
import Derived.Deep.CutRange
/- A stable sort in memory: one value at the right of a part, put in. -/
namespace Go.Proofs.Ytihklpkpcnahkaa.Stable
open Go.ChangeShapes Go.WideShapes Go.RowKit Go.Lib Go.Proofs.Ytihklpkpcnahkaa.Mem
set_option linter.unusedVariables false
set_option maxRecDepth 100000

set_option maxHeartbeats 1600000 in
theorem sym_right {v : Nat → Int} {B : Nat → Nat → Bool} {g n cap F : Nat} {caps : Array Value} {cf : Nat → Nat → Int} {w0 w : World} {s : Nat → Nat} (hB : Sto B) (hc : Cm v B n g w0 F caps cf) (h : St v g n cap w0 w s) (hn : n ≤ 1000000) (a m : Nat) (hab : a + 1 < m) (hbn : m + 1 ≤ n) (hh : Halves B s a m (m + 1)) :
    Calls Try.prog 73 #[.slice (some ⟨g, 0, none⟩) n cap, .int .i64 (a : Int),   .int .i64 (m : Int), .int .i64 ((m + 1 : Nat) : Int), .func (.func F) #[] caps] w fun e w' => e = .returned (.tuple #[]) ∧ Mgd v B g n cap w0 s a (m + 1) w' := by
  obtain ⟨b, hm⟩ : ∃ b, b = m + 1 := ⟨_, rfl⟩
  obtain ⟨d, hd⟩ : ∃ d, d = m - a := ⟨_, rfl⟩
  rw [← hm]
  rw [← hm] at hh hbn
  have HS := Lib.hid h
  have HB := Lib.hid hB
  have HH := Lib.hid hh
  have HM := Lib.hid hm
  have HX := Lib.hid (show a + 1 < m ∧ b ≤ n ∧ n ≤ 1000000 ∧ b = m + 1 by omega)
  have eg := hc.eg
  have HC := Lib.hid hc
  have e1 : IntKind.i64.wrap ((m : Int) - (a : Int)) = (d : Int) := by rw [wrap_id (by omega)]; omega
  have d1 : ((d : Int) == 1) = false := by simp; omega
  have d2 : ¬ d = 1 := by omega
  have e2 : IntKind.i64.wrap ((b : Int) - (m : Int)) = 1 := by rw [wrap_id (by omega)]; omega
  clear h hB hc hh hm hd hab hbn hn
  go_enter Try.func73, Try.ntmps73
  go_wp2_with fail
  go_loopw [14, 15, 16] (fun x y _ wr => ∃ i j : Nat, x = .int .i64 (i : Int) ∧ y = .int .i64 (j : Int) ∧ a ≤ i ∧ i ≤ j ∧ j ≤ m ∧ (a < i → B (s m) (s (i - 1)) = false) ∧ (j < m → B (s m) (s j) = true) ∧ St v g n cap w0 wr s) (fun x y _ _ => (RowKit.intOf y).toNat - (RowKit.intOf x).toNat)
  case atStart => exact ⟨a, m, rfl, rfl, Nat.le_refl _, by have := HX.out; omega, Nat.le_refl _, fun h => by omega, fun h => by omega, HS.out⟩
  case round =>
    obtain ⟨i, j, rfl, rfl, h1, h2, h3, hlo, hhi, hst⟩ := hrel
    have HLO := Lib.hid hlo
    have HHI := Lib.hid hhi
    have HST := Lib.hid hst
    have hX := HX.out
    clear hst hlo hhi e1 e2 d1 d2
    rcases Nat.lt_or_ge i j with hlt | hge
    · obtain ⟨q, hq⟩ : ∃ x, x = i + j := ⟨_, rfl⟩
      obtain ⟨h, hh⟩ : ∃ x, x = q / 2 := ⟨_, rfl⟩
      have e1 : IntKind.i64.wrap ((i : Int) + (j : Int)) = (q : Int) := by rw [wrap_id (by omega)]; omega
      have e2 : IntKind.u64.wrap (q : Int) = (q : Int) := by rw [IntKind.wrap_u64]; omega
      have e3 : (q : Int) / 2 = (h : Int) := by omega
      have e4 : IntKind.i64.wrap (h : Int) = (h : Int) := wrap_id (by omega)
      have e5 : IntKind.i64.wrap ((h : Int) + 1) = ((h + 1 : Nat) : Int) := wrap_id (by omega)
      have ht := HH.out.t h m (by omega) (by omega) (by omega) (by omega)
      have hbd := HST.out.b m (by omega)
      have ch := HST.out.cell (k := h) (by omega)
      have ca := HST.out.cell (k := m) (by omega)
      have HNEG := Lib.hid (HC.out.neg (s m) (s h) ht hbd)
      have HCALL := Lib.hid (fun W => HC.out.call (s m) (s h) W ht hbd)
      have HP := Lib.hid (show i ≤ h ∧ h < j ∧ m < n ∧ h < n ∧ h + 1 ≤ j by omega)
      have i2 : (h : Int) < (n : Int) := by omega
      have i3 : (0 : Int) ≤ (h : Int) := by omega
      have i4 : (m : Int) < (n : Int) := by omega
      have i5 : (0 : Int) ≤ (m : Int) := by omega
      obtain ⟨x, hx⟩ : ∃ x, x = v (s h) := ⟨_, rfl⟩
      obtain ⟨y, hy⟩ : ∃ y, y = v (s m) := ⟨_, rfl⟩
      obtain ⟨z, hz⟩ : ∃ z, z = cf (s m) (s h) := ⟨_, rfl⟩
      rw [← hx] at ch HCALL
      rw [← hy] at ca HCALL
      rw [← hz] at HCALL HNEG
      have HX1 := Lib.hid (HCALL.out wr.drew HST.out.drew.off)
      have HK := Lib.hid (HST.out.keep HP.out.2.2.2.1 HP.out.2.2.1 hx hy)
      clear hq hh ht hbd hx hy hz HCALL
      cases hb : B (s m) (s h) with
      | true =>
        rw [hb] at HNEG
        have b1 := HNEG.out
        clear hX
        go_wp2_with fail
        go_region_held3 (fun W' => W'.cell? ⟨g, h, none⟩ = some (.int .i64 x) ∧ W'.cell? ⟨g, m, none⟩ = some (.int .i64 y))
          (first | go_keep | exact HK.out _ hb2) (first | (go_at_fn F; (with_reducible refine HX1.out.mono ?_); rintro e w2 ⟨rfl, hb2⟩))
        have HST3 := Lib.hid (HST.out.drew.on hb2)
        clear ch ca hb2
        go_wp2_with fail
        go_roundw
        case rel =>
          have := HP.out
          exact ⟨i, h, rfl, rfl, h1, by omega, by omega, HLO.out, fun _ => hb, HST3.out⟩
        case measure =>
          have := HP.out
          simp [RowKit.intOf]; omega
      | false =>
        rw [hb] at HNEG
        have b1 := HNEG.out
        clear hX
        go_wp2_with fail
        go_region_held3 (fun W' => W'.cell? ⟨g, h, none⟩ = some (.int .i64 x) ∧ W'.cell? ⟨g, m, none⟩ = some (.int .i64 y))
          (first | go_keep | exact HK.out _ hb2) (first | (go_at_fn F; (with_reducible refine HX1.out.mono ?_); rintro e w2 ⟨rfl, hb2⟩))
        have HST3 := Lib.hid (HST.out.drew.on hb2)
        clear ch ca hb2
        go_wp2_with fail
        go_roundw
        case rel =>
          have := HP.out
          exact ⟨h + 1, j, rfl, rfl, by omega, by omega, h3, fun _ => hb, HHI.out, HST3.out⟩
        case measure =>
          have := HP.out
          simp [RowKit.intOf]; omega
    · obtain rfl : i = j := by omega
      have HD := Lib.hid ((HM.out ▸ HH.out : Halves B s a m (m + 1)).one_right HB.out h1 h3 HLO.out HHI.out)
      have HT := Lib.hid (show a ≤ i ∧ i ≤ m by omega)
      clear h1 h2 h3 hge hX HLO HHI
      go_wp2_with fail
      go_loopw [17] (fun x wr => ∃ k : Nat, x = .int .i64 (k : Int) ∧ i ≤ k ∧ k ≤ m ∧ St v g n cap w0 wr (rot s k m (m + 1))) (fun x _ => (RowKit.intOf x).toNat - i)
      case atStart => exact ⟨m, rfl, HT.out.2, Nat.le_refl _, HST.out.to (rot_left s _ (Nat.le_succ m)).symm⟩
      case round =>
        obtain ⟨k, rfl, k1, k2, hst⟩ := hrel
        have HST4 := Lib.hid hst
        have hX := HX.out
        clear hst
        rcases Nat.lt_or_ge i k with hlt | hge
        · obtain ⟨p, hp⟩ : ∃ x, x = k - 1 := ⟨_, rfl⟩
          have ep : IntKind.i64.wrap ((k : Int) - 1) = (p : Int) := by rw [wrap_id (by omega)]; omega
          have dk := HST4.out.cell (k := k) (by omega)
          have dp := HST4.out.cell (k := p) (by omega)
          have HSW := Lib.hid ((HST4.out.swap (i := k) (j := p) (by omega) (by omega)).to (s' := rot s p m (m + 1)) (by rw [show k = p + 1 by omega]; exact rot_down s (by omega)))
          obtain ⟨x, hx⟩ : ∃ x, x = v (rot s k m (m + 1) k) := ⟨_, rfl⟩
          obtain ⟨y, hy⟩ : ∃ y, y = v (rot s k m (m + 1) p) := ⟨_, rfl⟩
          rw [← hx] at dk HSW
          rw [← hy] at dp HSW
          have fj := HST4.out.warm k
          have fp := HST4.out.warm p
          have i2 : (k : Int) < (n : Int) := by omega
          have i3 : (0 : Int) ≤ (k : Int) := by omega
          have i4 : (p : Int) < (n : Int) := by omega
          have i5 : (0 : Int) ≤ (p : Int) := by omega
          have hpk : ¬ p = k := by omega
          have hkp : ¬ k = p := by omega
          have b1 : i < k := hlt
          have HP := Lib.hid (show p = k - 1 ∧ i ≤ p ∧ p ≤ m ∧ p < k by omega)
          clear hX hp hx hy hlt k1 k2
          go_wp2_with fail
          go_region
          all_goals
            go_wp2_with fail
            go_roundw
            case rel => exact ⟨p, rfl, HP.out.2.1, HP.out.2.2.1, HSW.out.drew⟩
            case measure =>
              have := HP.out
              simp [RowKit.intOf]; omega
        · obtain rfl : i = k := by omega
          clear hX k1 k2 hge
          go_wp2_with fail
          try simp only [Exit.inBlock, Exit.then]
          refine bodyPost_ret (results_none rfl _ _ _) rfl ?_
          exact ⟨rfl, _, HST4.out, by rw [HM.out]; exact HD.out.1, by rw [HM.out]; exact HD.out.2⟩
end Go.Proofs.Ytihklpkpcnahkaa.Stable
/- A stable sort in memory: two parts merged by a rotation and two smaller merges. Written by gen12/symmany.py. -/
namespace Go.Proofs.Ytihklpkpcnahkaa.Stable
open Go.ChangeShapes Go.WideShapes Go.RowKit Go.Lib Go.Proofs.Ytihklpkpcnahkaa.Mem
set_option linter.unusedVariables false
set_option maxRecDepth 100000

/-- A smaller merge. -/
def Smaller (v : Nat → Int) (B : Nat → Nat → Bool) (g n cap F : Nat) (caps : Array Value) (w0 : World) (d : Nat) : Prop := ∀ (a m b : Nat) (s : Nat → Nat) (w : World), b - a < d → a < m → m < b → b ≤ n → Halves B s a m b → St v g n cap w0 w s →
  Calls Try.prog 73 #[.slice (some ⟨g, 0, none⟩) n cap, .int .i64 (a : Int), .int .i64 (m : Int), .int .i64 (b : Int), .func (.func F) #[] caps] w fun e w' => e = .returned (.tuple #[]) ∧ Mgd v B g n cap w0 s a b w'

set_option maxHeartbeats 3200000 in
theorem sym_hi {v : Nat → Int} {B : Nat → Nat → Bool} {g n cap F : Nat} {caps : Array Value} {cf : Nat → Nat → Int} {w0 w : World} {s : Nat → Nat} (hB : Sto B) (hc : Cm v B n g w0 F caps cf) (h : St v g n cap w0 w s) (hn : n ≤ 1000000) (a m b : Nat) (ham : a + 1 < m) (hmb : m + 1 < b) (hbn : b ≤ n) (hh : Halves B s a m b)
    (hr : Smaller v B g n cap F caps w0 (b - a)) (hside : (a + b) / 2 < m) :
    Calls Try.prog 73 #[.slice (some ⟨g, 0, none⟩) n cap, .int .i64 (a : Int), .int .i64 (m : Int), .int .i64 (b : Int), .func (.func F) #[] caps] w fun e w' => e = .returned (.tuple #[]) ∧ Mgd v B g n cap w0 s a b w' := by
  obtain ⟨d, hd⟩ : ∃ d, d = m - a := ⟨_, rfl⟩
  obtain ⟨d', hd'⟩ : ∃ d', d' = b - m := ⟨_, rfl⟩
  obtain ⟨q0, hq0⟩ : ∃ q, q = a + b := ⟨_, rfl⟩
  obtain ⟨mid, hmid⟩ : ∃ x, x = q0 / 2 := ⟨_, rfl⟩
  obtain ⟨nn, hnn⟩ : ∃ x, x = mid + m := ⟨_, rfl⟩
  obtain ⟨lo, hlo⟩ : ∃ x, x = nn - b := ⟨_, rfl⟩
  obtain ⟨pp, hpp⟩ : ∃ x, x = nn - 1 := ⟨_, rfl⟩
  have HS := Lib.hid h
  have HB := Lib.hid hB
  have HH := Lib.hid hh
  have HR := Lib.hid hr
  have eg := hc.eg
  have HC := Lib.hid hc
  have HX := Lib.hid (show a + 1 < m ∧ m + 1 < b ∧ b ≤ n ∧ n ≤ 1000000 ∧ mid = (a + b) / 2 ∧ nn = mid + m ∧ pp = nn - 1 ∧ lo = (if mid < m then mid + m - b else a) ∧ mid = (if mid < m then mid else m) ∧ lo ≤ mid ∧ mid ≤ mid ∧ mid ≤ m ∧ a ≤ lo by
    refine ⟨ham, hmb, hbn, hn, by omega, hnn, hpp, ?_, ?_, by omega, by omega, by omega, by omega⟩
    · split <;> omega
    · split <;> omega)
  have e1 : IntKind.i64.wrap ((m : Int) - (a : Int)) = (d : Int) := by rw [wrap_id (by omega)]; omega
  have d1 : ((d : Int) == 1) = false := by simp; omega
  have d2 : ¬ d = 1 := by omega
  have e2 : IntKind.i64.wrap ((b : Int) - (m : Int)) = (d' : Int) := by rw [wrap_id (by omega)]; omega
  have d3 : ((d' : Int) == 1) = false := by simp; omega
  have d4 : ¬ d' = 1 := by omega
  have e3 : IntKind.i64.wrap ((a : Int) + (b : Int)) = (q0 : Int) := by rw [wrap_id (by omega)]; omega
  have e4 : IntKind.u64.wrap (q0 : Int) = (q0 : Int) := by rw [IntKind.wrap_u64]; omega
  have e5 : (q0 : Int) / 2 = (mid : Int) := by omega
  have e6 : IntKind.i64.wrap (mid : Int) = (mid : Int) := wrap_id (by omega)
  have e7 : IntKind.i64.wrap ((mid : Int) + (m : Int)) = (nn : Int) := by rw [wrap_id (by omega)]; omega
  have e8 : IntKind.i64.wrap ((nn : Int) - (b : Int)) = (lo : Int) := by rw [wrap_id (by omega)]; omega
  have s1 : mid < m := by omega
  have e9 : IntKind.i64.wrap ((nn : Int) - 1) = (pp : Int) := by rw [wrap_id (by omega)]; omega
  clear h hB hc hh hr hn ham hmb hbn hside hd hd' hq0 hmid hnn hpp hlo
  go_enter Try.func73, Try.ntmps73
  go_wp2_with fail
  go_loopw [20, 21, 23] (fun x y _ wr => ∃ i j : Nat, x = .int .i64 (i : Int) ∧ y = .int .i64 (j : Int) ∧ lo ≤ i ∧ i ≤ j ∧ j ≤ mid ∧ (lo < i → B (s (pp - (i - 1))) (s (i - 1)) = false) ∧ (j < mid → B (s (pp - j)) (s j) = true) ∧ St v g n cap w0 wr s) (fun x y _ _ => (RowKit.intOf y).toNat - (RowKit.intOf x).toNat)
  case atStart => exact ⟨lo, mid, rfl, rfl, Nat.le_refl _, HX.out.2.2.2.2.2.2.2.2.2.1, Nat.le_refl _, fun h => by omega, fun h => by omega, HS.out⟩
  case round =>
    obtain ⟨i, j, rfl, rfl, h1, h2, h3, hlo, hhi, hst⟩ := hrel
    have HLO := Lib.hid hlo
    have HHI := Lib.hid hhi
    have HST := Lib.hid hst
    obtain ⟨x1, x2, x3, x4, x5, x6, x7, x8, x9, x10, x11, x12, x13⟩ := HX.out
    clear hst hlo hhi e1 e2 e3 e4 e5 e6 e7 e8 s1 e9 d1 d2 d3 d4
    rcases Nat.lt_or_ge i j with hlt | hge
    · obtain ⟨q, hq⟩ : ∃ x, x = i + j := ⟨_, rfl⟩
      obtain ⟨h, hh⟩ : ∃ x, x = q / 2 := ⟨_, rfl⟩
      obtain ⟨r, hr⟩ : ∃ x, x = pp - h := ⟨_, rfl⟩
      have e1 : IntKind.i64.wrap ((i : Int) + (j : Int)) = (q : Int) := by rw [wrap_id (by omega)]; omega
      have e2 : IntKind.u64.wrap (q : Int) = (q : Int) := by rw [IntKind.wrap_u64]; omega
      have e3 : (q : Int) / 2 = (h : Int) := by omega
      have e4 : IntKind.i64.wrap (h : Int) = (h : Int) := wrap_id (by omega)
      have e5 : IntKind.i64.wrap ((h : Int) + 1) = ((h + 1 : Nat) : Int) := wrap_id (by omega)
      have e6 : IntKind.i64.wrap ((pp : Int) - (h : Int)) = (r : Int) := by rw [wrap_id (by omega)]; omega
      have hrb : m ≤ r ∧ r < b := by
        clear HLO HHI e1 e2 e3 e4 e5 e6
        by_cases hc : mid < m
        · rw [if_pos hc] at x8 x9; omega
        · rw [if_neg hc] at x8 x9; omega
      have ht := HH.out.t h r (by omega) (by omega) hrb.1 hrb.2
      have hbd := HST.out.b r (by omega)
      have cr := HST.out.cell (k := r) (by omega)
      have ch := HST.out.cell (k := h) (by omega)
      have HNEG := Lib.hid (HC.out.neg (s r) (s h) ht hbd)
      have HCALL := Lib.hid (fun W => HC.out.call (s r) (s h) W ht hbd)
      have HP := Lib.hid (show i ≤ h ∧ h < j ∧ r < n ∧ h < n ∧ h + 1 ≤ j ∧ r = pp - h by omega)
      have i2 : (h : Int) < (n : Int) := by omega
      have i3 : (0 : Int) ≤ (h : Int) := by omega
      have i4 : (r : Int) < (n : Int) := by omega
      have i5 : (0 : Int) ≤ (r : Int) := by omega
      obtain ⟨x, hx⟩ : ∃ x, x = v (s r) := ⟨_, rfl⟩
      obtain ⟨y, hy⟩ : ∃ y, y = v (s h) := ⟨_, rfl⟩
      obtain ⟨z, hz⟩ : ∃ z, z = cf (s r) (s h) := ⟨_, rfl⟩
      rw [← hx] at cr HCALL
      rw [← hy] at ch HCALL
      rw [← hz] at HCALL HNEG
      have HX1 := Lib.hid (HCALL.out wr.drew HST.out.drew.off)
      have HK := Lib.hid (HST.out.keep HP.out.2.2.1 HP.out.2.2.2.1 hx hy)
      clear hq hh hr hrb ht hbd hx hy hz HCALL x1 x2 x3 x4 x5 x6 x7 x8 x9 x10 x11 x12 x13
      cases hb : B (s r) (s h) with
      | true =>
        rw [hb] at HNEG
        have b1 := HNEG.out
        go_wp2_with fail
        go_region_held3 (fun W' => W'.cell? ⟨g, r, none⟩ = some (.int .i64 x) ∧ W'.cell? ⟨g, h, none⟩ = some (.int .i64 y))
          (first | go_keep | exact HK.out _ hb2) (first | (go_at_fn F; (with_reducible refine HX1.out.mono ?_); rintro e w2 ⟨rfl, hb2⟩))
        have HST3 := Lib.hid (HST.out.drew.on hb2)
        clear cr ch hb2
        go_wp2_with fail
        go_roundw
        case rel =>
          have := HP.out
          exact ⟨i, h, rfl, rfl, h1, by omega, by omega, HLO.out, fun _ => by rw [← HP.out.2.2.2.2.2]; exact hb, HST3.out⟩
        case measure =>
          have := HP.out
          simp [RowKit.intOf]; omega
      | false =>
        rw [hb] at HNEG
        have b1 := HNEG.out
        go_wp2_with fail
        go_region_held3 (fun W' => W'.cell? ⟨g, r, none⟩ = some (.int .i64 x) ∧ W'.cell? ⟨g, h, none⟩ = some (.int .i64 y))
          (first | go_keep | exact HK.out _ hb2) (first | (go_at_fn F; (with_reducible refine HX1.out.mono ?_); rintro e w2 ⟨rfl, hb2⟩))
        have HST3 := Lib.hid (HST.out.drew.on hb2)
        clear cr ch hb2
        go_wp2_with fail
        go_roundw
        case rel =>
          have := HP.out
          exact ⟨h + 1, j, rfl, rfl, by omega, by omega, h3, fun _ => by rw [Nat.add_sub_cancel, ← HP.out.2.2.2.2.2]; exact hb, HHI.out, HST3.out⟩
        case measure =>
          have := HP.out
          simp [RowKit.intOf]; omega
    · obtain rfl : i = j := by omega
      obtain ⟨en, hen⟩ : ∃ x, x = nn - i := ⟨_, rfl⟩
      have e1 : IntKind.i64.wrap ((nn : Int) - (i : Int)) = (en : Int) := by rw [wrap_id (by omega)]; omega
      have HCUT : Hid (Cut B s a m b i en) := by
        have h5 := HH.out.cut HB.out x5 (by omega) (by omega) x8 x9 h1 h3 (by rw [← x6, ← x7]; exact HLO.out) (by rw [← x6, ← x7]; exact HHI.out)
        rw [hen, x6]; exact h5
      have HM := Lib.hid (show i + (en - m) = mid ∧ a < mid ∧ mid < b ∧ i ≤ mid ∧ m ≤ en ∧ en ≤ b ∧ i ≤ m ∧ a ≤ i ∧ mid ≤ en ∧ n ≤ 1000000 ∧ b ≤ n by
        have := HCUT.out.mj; have := HCUT.out.jb; have := HCUT.out.ai; have := HCUT.out.im
        refine ⟨by omega, by omega, by omega, by omega, by omega, by omega, by omega, by omega, by omega, by omega, by omega⟩)
      clear h1 h2 h3 hge hen HLO HHI x1 x2 x3 x4 x5 x6 x7 x8 x9 x10 x11 x12 x13
      obtain ⟨p1, hp⟩ : ∃ p, p = (decide (i < m) && decide (m < en)) := ⟨_, rfl⟩
      have HP1 := Lib.hid hp
      clear hp
      go_upto_region 39 with fail
      go_cut [185] from 178 to 185 (fun x wc => x = .bool p1 ∧ wr = wc)
      case first =>
        rcases Nat.lt_or_ge i m with c1 | c1
        · rcases Nat.lt_or_ge m en with c2 | c2
          · have c3 : decide (i < m) = true := decide_eq_true c1
            have c4 : decide (m < en) = true := decide_eq_true c2
            go_wp2_with fail
            go_meet
            case rel => exact ⟨congrArg Value.bool (by rw [HP1.out, c3, c4]; rfl), rfl⟩
          · have c3 : decide (i < m) = true := decide_eq_true c1
            have c4 : decide (m < en) = false := decide_eq_false (by omega)
            have c5 : ¬ m < en := by omega
            go_wp2_with fail
            go_meet
            case rel => exact ⟨congrArg Value.bool (by rw [HP1.out, c3, c4]; rfl), rfl⟩
        · have c3 : decide (i < m) = false := decide_eq_false (by omega)
          have c5 : ¬ i < m := by omega
          go_wp2_with fail
          go_meet
          case rel => exact ⟨congrArg Value.bool (by rw [HP1.out, c3]; rfl), rfl⟩
      case rest =>
        obtain ⟨rfl, rfl⟩ := hcut
        go_upto_if 185 with fail
        go_cut [] from 186 to 191 (fun wc => St v g n cap w0 wc (rot s i m en))
        case first =>
          cases p1 with
          | true =>
            have hc1 : i < m ∧ m < en := by simpa using HP1.out.symm
            have HR1 := Lib.hid (rotate HST.out HM.out.2.2.2.2.2.2.2.2.2.1 i m en hc1.1 hc1.2 (Nat.le_trans HM.out.2.2.2.2.2.1 HM.out.2.2.2.2.2.2.2.2.2.2) F caps)
            clear hc1
            go_wp2_with fail
            refine HR1.out.mono ?_
            rintro e w2 ⟨rfl, hst2⟩
            have HST2 := Lib.hid hst2
            clear hst2
            go_wp2_with fail
            go_meet
            case rel => exact HST2.out
          | false =>
            have HE : Hid (s = rot s i m en) := by
              have hM := HM.out
              have hc1 := HP1.out
              by_cases hc2 : i < m
              · have hc3 : ¬ m < en := fun hc3 => by rw [decide_eq_true hc2, decide_eq_true hc3] at hc1; cases hc1
                have he : en = m := by omega
                show s = _
                rw [he]; exact (rot_right s (by omega)).symm
              · have he : i = m := by omega
                show s = _
                rw [he]; exact (rot_left s _ (by omega)).symm
            go_wp2_with fail
            go_meet
            case rel => exact HST.out.to HE.out
        case rest =>
          have HST2 := Lib.hid hcut
          obtain ⟨w2, hw2⟩ : ∃ W, W = wc := ⟨_, rfl⟩
          rw [← hw2] at HST2 ⊢
          clear hcut hw2
          obtain ⟨p2, hp⟩ : ∃ p, p = (decide (a < i) && decide (i < mid)) := ⟨_, rfl⟩
          have HP2 := Lib.hid hp
          clear hp
          go_upto_region 41 with fail
          go_cut [199] from 192 to 199 (fun x wc => x = .bool p2 ∧ w2 = wc)
          case first =>
            rcases Nat.lt_or_ge a i with c1 | c1
            · rcases Nat.lt_or_ge i mid with c2 | c2
              · have c3 : decide (a < i) = true := decide_eq_true c1
                have c4 : decide (i < mid) = true := decide_eq_true c2
                go_wp2_with fail
                go_meet
                case rel => exact ⟨congrArg Value.bool (by rw [HP2.out, c3, c4]; rfl), rfl⟩
              · have c3 : decide (a < i) = true := decide_eq_true c1
                have c4 : decide (i < mid) = false := decide_eq_false (by omega)
                have c5 : ¬ i < mid := by omega
                go_wp2_with fail
                go_meet
                case rel => exact ⟨congrArg Value.bool (by rw [HP2.out, c3, c4]; rfl), rfl⟩
            · have c3 : decide (a < i) = false := decide_eq_false (by omega)
              have c5 : ¬ a < i := by omega
              go_wp2_with fail
              go_meet
              case rel => exact ⟨congrArg Value.bool (by rw [HP2.out, c3]; rfl), rfl⟩
          case rest =>
            obtain ⟨rfl, rfl⟩ := hcut
            go_upto_if 199 with fail
            go_cut [] from 200 to 205 (fun wc => Mgd v B g n cap w0 (rot s i m en) a mid wc)
            case first =>
              cases p2 with
              | true =>
                have hc1 : a < i ∧ i < mid := by simpa using HP2.out.symm
                have hM := HM.out
                have hlo2 := HCUT.out.low
                rw [hM.1] at hlo2
                have HR2 := Lib.hid (HR.out a i mid (rot s i m en) w2 (by omega) hc1.1 hc1.2 (by omega) hlo2 HST2.out)
                clear hc1 hM hlo2
                go_wp2_with fail
                refine HR2.out.mono ?_
                rintro e w3 ⟨rfl, hst3⟩
                have HST3 := Lib.hid hst3
                clear hst3
                go_wp2_with fail
                go_meet
                case rel => exact HST3.out
              | false =>
                have HE : Hid (Srt B (rot s i m en) a mid) := by
                  have hM := HM.out
                  have hc1 := HP2.out
                  have hlo2 := HCUT.out.low
                  rw [hM.1] at hlo2
                  by_cases hc2 : a < i
                  · have hc3 : ¬ i < mid := fun hc3 => by rw [decide_eq_true hc2, decide_eq_true hc3] at hc1; cases hc1
                    have he : mid = i := by omega
                    show Srt _ _ _ _
                    rw [he]; exact hlo2.l
                  · have he : i = a := by omega
                    have h5 := hlo2.r
                    rw [he] at h5 ⊢
                    exact h5
                go_wp2_with fail
                go_meet
                case rel => exact ⟨_, HST2.out, HE.out, Im.refl _ _ _⟩
            case rest =>
              obtain ⟨s2, hst2, hsrt2, him2⟩ := hcut
              have HST4 := Lib.hid hst2
              have HSRT2 := Lib.hid hsrt2
              have HIM2 := Lib.hid him2
              obtain ⟨w4, hw4⟩ : ∃ W, W = wc := ⟨_, rfl⟩
              rw [← hw4] at HST4 ⊢
              clear hst2 hsrt2 him2 hw4
              obtain ⟨p3, hp⟩ : ∃ p, p = (decide (mid < en) && decide (en < b)) := ⟨_, rfl⟩
              have HP3 := Lib.hid hp
              clear hp
              go_upto_region 43 with fail
              go_cut [213] from 206 to 213 (fun x wc => x = .bool p3 ∧ w4 = wc)
              case first =>
                rcases Nat.lt_or_ge mid en with c1 | c1
                · rcases Nat.lt_or_ge en b with c2 | c2
                  · have c3 : decide (mid < en) = true := decide_eq_true c1
                    have c4 : decide (en < b) = true := decide_eq_true c2
                    go_wp2_with fail
                    go_meet
                    case rel => exact ⟨congrArg Value.bool (by rw [HP3.out, c3, c4]; rfl), rfl⟩
                  · have c3 : decide (mid < en) = true := decide_eq_true c1
                    have c4 : decide (en < b) = false := decide_eq_false (by omega)
                    have c5 : ¬ en < b := by omega
                    go_wp2_with fail
                    go_meet
                    case rel => exact ⟨congrArg Value.bool (by rw [HP3.out, c3, c4]; rfl), rfl⟩
                · have c3 : decide (mid < en) = false := decide_eq_false (by omega)
                  have c5 : ¬ mid < en := by omega
                  go_wp2_with fail
                  go_meet
                  case rel => exact ⟨congrArg Value.bool (by rw [HP3.out, c3]; rfl), rfl⟩
              case rest =>
                obtain ⟨rfl, rfl⟩ := hcut
                have HHI2 : Hid (Halves B s2 mid en b) := by
                  have hM := HM.out
                  have h5 := HCUT.out.high
                  rw [hM.1] at h5
                  exact h5.congr (fun k k1 k2 => HIM2.out.out k (Or.inr k1)) (by omega) (by omega)
                cases p3 with
                | true =>
                  have hc1 : mid < en ∧ en < b := by simpa using HP3.out.symm
                  have hM := HM.out
                  have HR3 := Lib.hid (HR.out mid en b s2 w4 (by omega) hc1.1 hc1.2 (by omega) HHI2.out HST4.out)
                  clear hc1 hM
                  go_wp2_with fail
                  refine HR3.out.mono ?_
                  rintro e w5 ⟨rfl, s3, hst5, hsrt5, him5⟩
                  have HST5 := Lib.hid hst5
                  have HD := Lib.hid (HCUT.out.done HB.out (s2 := s2) (s3 := s3) (HM.out.1.symm ▸ HIM2.out) (HM.out.1.symm ▸ HSRT2.out) (HM.out.1.symm ▸ him5) (HM.out.1.symm ▸ hsrt5))
                  clear hst5 hsrt5 him5
                  go_wp2_with fail
                  go_end0
                  exact ⟨rfl, _, HST5.out, HD.out.1, HD.out.2⟩
                | false =>
                  have HE : Hid (Srt B s2 mid b) := by
                    have hM := HM.out
                    have hc1 := HP3.out
                    have h5 := HHI2.out
                    by_cases hc2 : mid < en
                    · have hc3 : ¬ en < b := fun hc3 => by rw [decide_eq_true hc2, decide_eq_true hc3] at hc1; cases hc1
                      have he : b = en := by omega
                      show Srt _ _ _ _
                      rw [he]; exact h5.l
                    · have he : en = mid := by omega
                      have h6 := h5.r
                      rw [he] at h6
                      exact h6
                  have HD := Lib.hid (HCUT.out.done HB.out (s2 := s2) (s3 := s2) (HM.out.1.symm ▸ HIM2.out) (HM.out.1.symm ▸ HSRT2.out) (Im.refl _ _ _) (HM.out.1.symm ▸ HE.out))
                  go_wp2_with fail
                  go_end0
                  exact ⟨rfl, _, HST4.out, HD.out.1, HD.out.2⟩

set_option maxHeartbeats 3200000 in
theorem sym_lo {v : Nat → Int} {B : Nat → Nat → Bool} {g n cap F : Nat} {caps : Array Value} {cf : Nat → Nat → Int} {w0 w : World} {s : Nat → Nat} (hB : Sto B) (hc : Cm v B n g w0 F caps cf) (h : St v g n cap w0 w s) (hn : n ≤ 1000000) (a m b : Nat) (ham : a + 1 < m) (hmb : m + 1 < b) (hbn : b ≤ n) (hh : Halves B s a m b)
    (hr : Smaller v B g n cap F caps w0 (b - a)) (hside : m ≤ (a + b) / 2) :
    Calls Try.prog 73 #[.slice (some ⟨g, 0, none⟩) n cap, .int .i64 (a : Int), .int .i64 (m : Int), .int .i64 (b : Int), .func (.func F) #[] caps] w fun e w' => e = .returned (.tuple #[]) ∧ Mgd v B g n cap w0 s a b w' := by
  obtain ⟨d, hd⟩ : ∃ d, d = m - a := ⟨_, rfl⟩
  obtain ⟨d', hd'⟩ : ∃ d', d' = b - m := ⟨_, rfl⟩
  obtain ⟨q0, hq0⟩ : ∃ q, q = a + b := ⟨_, rfl⟩
  obtain ⟨mid, hmid⟩ : ∃ x, x = q0 / 2 := ⟨_, rfl⟩
  obtain ⟨nn, hnn⟩ : ∃ x, x = mid + m := ⟨_, rfl⟩
  obtain ⟨pp, hpp⟩ : ∃ x, x = nn - 1 := ⟨_, rfl⟩
  have HS := Lib.hid h
  have HB := Lib.hid hB
  have HH := Lib.hid hh
  have HR := Lib.hid hr
  have eg := hc.eg
  have HC := Lib.hid hc
  have HX := Lib.hid (show a + 1 < m ∧ m + 1 < b ∧ b ≤ n ∧ n ≤ 1000000 ∧ mid = (a + b) / 2 ∧ nn = mid + m ∧ pp = nn - 1 ∧ a = (if mid < m then mid + m - b else a) ∧ m = (if mid < m then mid else m) ∧ a ≤ m ∧ m ≤ mid ∧ m ≤ m ∧ a ≤ a by
    refine ⟨ham, hmb, hbn, hn, by omega, hnn, hpp, ?_, ?_, by omega, by omega, by omega, by omega⟩
    · split <;> omega
    · split <;> omega)
  have e1 : IntKind.i64.wrap ((m : Int) - (a : Int)) = (d : Int) := by rw [wrap_id (by omega)]; omega
  have d1 : ((d : Int) == 1) = false := by simp; omega
  have d2 : ¬ d = 1 := by omega
  have e2 : IntKind.i64.wrap ((b : Int) - (m : Int)) = (d' : Int) := by rw [wrap_id (by omega)]; omega
  have d3 : ((d' : Int) == 1) = false := by simp; omega
  have d4 : ¬ d' = 1 := by omega
  have e3 : IntKind.i64.wrap ((a : Int) + (b : Int)) = (q0 : Int) := by rw [wrap_id (by omega)]; omega
  have e4 : IntKind.u64.wrap (q0 : Int) = (q0 : Int) := by rw [IntKind.wrap_u64]; omega
  have e5 : (q0 : Int) / 2 = (mid : Int) := by omega
  have e6 : IntKind.i64.wrap (mid : Int) = (mid : Int) := wrap_id (by omega)
  have e7 : IntKind.i64.wrap ((mid : Int) + (m : Int)) = (nn : Int) := by rw [wrap_id (by omega)]; omega
  have s1 : ¬ mid < m := by omega
  have e9 : IntKind.i64.wrap ((nn : Int) - 1) = (pp : Int) := by rw [wrap_id (by omega)]; omega
  clear h hB hc hh hr hn ham hmb hbn hside hd hd' hq0 hmid hnn hpp
  go_enter Try.func73, Try.ntmps73
  go_wp2_with fail
  go_loopw [20, 21, 23] (fun x y _ wr => ∃ i j : Nat, x = .int .i64 (i : Int) ∧ y = .int .i64 (j : Int) ∧ a ≤ i ∧ i ≤ j ∧ j ≤ m ∧ (a < i → B (s (pp - (i - 1))) (s (i - 1)) = false) ∧ (j < m → B (s (pp - j)) (s j) = true) ∧ St v g n cap w0 wr s) (fun x y _ _ => (RowKit.intOf y).toNat - (RowKit.intOf x).toNat)
  case atStart => exact ⟨a, m, rfl, rfl, Nat.le_refl _, HX.out.2.2.2.2.2.2.2.2.2.1, Nat.le_refl _, fun h => by omega, fun h => by omega, HS.out⟩
  case round =>
    obtain ⟨i, j, rfl, rfl, h1, h2, h3, hlo, hhi, hst⟩ := hrel
    have HLO := Lib.hid hlo
    have HHI := Lib.hid hhi
    have HST := Lib.hid hst
    obtain ⟨x1, x2, x3, x4, x5, x6, x7, x8, x9, x10, x11, x12, x13⟩ := HX.out
    clear hst hlo hhi e1 e2 e3 e4 e5 e6 e7 s1 e9 d1 d2 d3 d4
    rcases Nat.lt_or_ge i j with hlt | hge
    · obtain ⟨q, hq⟩ : ∃ x, x = i + j := ⟨_, rfl⟩
      obtain ⟨h, hh⟩ : ∃ x, x = q / 2 := ⟨_, rfl⟩
      obtain ⟨r, hr⟩ : ∃ x, x = pp - h := ⟨_, rfl⟩
      have e1 : IntKind.i64.wrap ((i : Int) + (j : Int)) = (q : Int) := by rw [wrap_id (by omega)]; omega
      have e2 : IntKind.u64.wrap (q : Int) = (q : Int) := by rw [IntKind.wrap_u64]; omega
      have e3 : (q : Int) / 2 = (h : Int) := by omega
      have e4 : IntKind.i64.wrap (h : Int) = (h : Int) := wrap_id (by omega)
      have e5 : IntKind.i64.wrap ((h : Int) + 1) = ((h + 1 : Nat) : Int) := wrap_id (by omega)
      have e6 : IntKind.i64.wrap ((pp : Int) - (h : Int)) = (r : Int) := by rw [wrap_id (by omega)]; omega
      have hrb : m ≤ r ∧ r < b := by
        clear HLO HHI e1 e2 e3 e4 e5 e6
        by_cases hc : mid < m
        · rw [if_pos hc] at x8 x9; omega
        · rw [if_neg hc] at x8 x9; omega
      have ht := HH.out.t h r (by omega) (by omega) hrb.1 hrb.2
      have hbd := HST.out.b r (by omega)
      have cr := HST.out.cell (k := r) (by omega)
      have ch := HST.out.cell (k := h) (by omega)
      have HNEG := Lib.hid (HC.out.neg (s r) (s h) ht hbd)
      have HCALL := Lib.hid (fun W => HC.out.call (s r) (s h) W ht hbd)
      have HP := Lib.hid (show i ≤ h ∧ h < j ∧ r < n ∧ h < n ∧ h + 1 ≤ j ∧ r = pp - h by omega)
      have i2 : (h : Int) < (n : Int) := by omega
      have i3 : (0 : Int) ≤ (h : Int) := by omega
      have i4 : (r : Int) < (n : Int) := by omega
      have i5 : (0 : Int) ≤ (r : Int) := by omega
      obtain ⟨x, hx⟩ : ∃ x, x = v (s r) := ⟨_, rfl⟩
      obtain ⟨y, hy⟩ : ∃ y, y = v (s h) := ⟨_, rfl⟩
      obtain ⟨z, hz⟩ : ∃ z, z = cf (s r) (s h) := ⟨_, rfl⟩
      rw [← hx] at cr HCALL
      rw [← hy] at ch HCALL
      rw [← hz] at HCALL HNEG
      have HX1 := Lib.hid (HCALL.out wr.drew HST.out.drew.off)
      have HK := Lib.hid (HST.out.keep HP.out.2.2.1 HP.out.2.2.2.1 hx hy)
      clear hq hh hr hrb ht hbd hx hy hz HCALL x1 x2 x3 x4 x5 x6 x7 x8 x9 x10 x11 x12 x13
      cases hb : B (s r) (s h) with
      | true =>
        rw [hb] at HNEG
        have b1 := HNEG.out
        go_wp2_with fail
        go_region_held3 (fun W' => W'.cell? ⟨g, r, none⟩ = some (.int .i64 x) ∧ W'.cell? ⟨g, h, none⟩ = some (.int .i64 y))
          (first | go_keep | exact HK.out _ hb2) (first | (go_at_fn F; (with_reducible refine HX1.out.mono ?_); rintro e w2 ⟨rfl, hb2⟩))
        have HST3 := Lib.hid (HST.out.drew.on hb2)
        clear cr ch hb2
        go_wp2_with fail
        go_roundw
        case rel =>
          have := HP.out
          exact ⟨i, h, rfl, rfl, h1, by omega, by omega, HLO.out, fun _ => by rw [← HP.out.2.2.2.2.2]; exact hb, HST3.out⟩
        case measure =>
          have := HP.out
          simp [RowKit.intOf]; omega
      | false =>
        rw [hb] at HNEG
        have b1 := HNEG.out
        go_wp2_with fail
        go_region_held3 (fun W' => W'.cell? ⟨g, r, none⟩ = some (.int .i64 x) ∧ W'.cell? ⟨g, h, none⟩ = some (.int .i64 y))
          (first | go_keep | exact HK.out _ hb2) (first | (go_at_fn F; (with_reducible refine HX1.out.mono ?_); rintro e w2 ⟨rfl, hb2⟩))
        have HST3 := Lib.hid (HST.out.drew.on hb2)
        clear cr ch hb2
        go_wp2_with fail
        go_roundw
        case rel =>
          have := HP.out
          exact ⟨h + 1, j, rfl, rfl, by omega, by omega, h3, fun _ => by rw [Nat.add_sub_cancel, ← HP.out.2.2.2.2.2]; exact hb, HHI.out, HST3.out⟩
        case measure =>
          have := HP.out
          simp [RowKit.intOf]; omega
    · obtain rfl : i = j := by omega
      obtain ⟨en, hen⟩ : ∃ x, x = nn - i := ⟨_, rfl⟩
      have e1 : IntKind.i64.wrap ((nn : Int) - (i : Int)) = (en : Int) := by rw [wrap_id (by omega)]; omega
      have HCUT : Hid (Cut B s a m b i en) := by
        have h5 := HH.out.cut HB.out x5 (by omega) (by omega) x8 x9 h1 h3 (by rw [← x6, ← x7]; exact HLO.out) (by rw [← x6, ← x7]; exact HHI.out)
        rw [hen, x6]; exact h5
      have HM := Lib.hid (show i + (en - m) = mid ∧ a < mid ∧ mid < b ∧ i ≤ mid ∧ m ≤ en ∧ en ≤ b ∧ i ≤ m ∧ a ≤ i ∧ mid ≤ en ∧ n ≤ 1000000 ∧ b ≤ n by
        have := HCUT.out.mj; have := HCUT.out.jb; have := HCUT.out.ai; have := HCUT.out.im
        refine ⟨by omega, by omega, by omega, by omega, by omega, by omega, by omega, by omega, by omega, by omega, by omega⟩)
      clear h1 h2 h3 hge hen HLO HHI x1 x2 x3 x4 x5 x6 x7 x8 x9 x10 x11 x12 x13
      obtain ⟨p1, hp⟩ : ∃ p, p = (decide (i < m) && decide (m < en)) := ⟨_, rfl⟩
      have HP1 := Lib.hid hp
      clear hp
      go_upto_region 39 with fail
      go_cut [185] from 178 to 185 (fun x wc => x = .bool p1 ∧ wr = wc)
      case first =>
        rcases Nat.lt_or_ge i m with c1 | c1
        · rcases Nat.lt_or_ge m en with c2 | c2
          · have c3 : decide (i < m) = true := decide_eq_true c1
            have c4 : decide (m < en) = true := decide_eq_true c2
            go_wp2_with fail
            go_meet
            case rel => exact ⟨congrArg Value.bool (by rw [HP1.out, c3, c4]; rfl), rfl⟩
          · have c3 : decide (i < m) = true := decide_eq_true c1
            have c4 : decide (m < en) = false := decide_eq_false (by omega)
            have c5 : ¬ m < en := by omega
            go_wp2_with fail
            go_meet
            case rel => exact ⟨congrArg Value.bool (by rw [HP1.out, c3, c4]; rfl), rfl⟩
        · have c3 : decide (i < m) = false := decide_eq_false (by omega)
          have c5 : ¬ i < m := by omega
          go_wp2_with fail
          go_meet
          case rel => exact ⟨congrArg Value.bool (by rw [HP1.out, c3]; rfl), rfl⟩
      case rest =>
        obtain ⟨rfl, rfl⟩ := hcut
        go_upto_if 185 with fail
        go_cut [] from 186 to 191 (fun wc => St v g n cap w0 wc (rot s i m en))
        case first =>
          cases p1 with
          | true =>
            have hc1 : i < m ∧ m < en := by simpa using HP1.out.symm
            have HR1 := Lib.hid (rotate HST.out HM.out.2.2.2.2.2.2.2.2.2.1 i m en hc1.1 hc1.2 (Nat.le_trans HM.out.2.2.2.2.2.1 HM.out.2.2.2.2.2.2.2.2.2.2) F caps)
            clear hc1
            go_wp2_with fail
            refine HR1.out.mono ?_
            rintro e w2 ⟨rfl, hst2⟩
            have HST2 := Lib.hid hst2
            clear hst2
            go_wp2_with fail
            go_meet
            case rel => exact HST2.out
          | false =>
            have HE : Hid (s = rot s i m en) := by
              have hM := HM.out
              have hc1 := HP1.out
              by_cases hc2 : i < m
              · have hc3 : ¬ m < en := fun hc3 => by rw [decide_eq_true hc2, decide_eq_true hc3] at hc1; cases hc1
                have he : en = m := by omega
                show s = _
                rw [he]; exact (rot_right s (by omega)).symm
              · have he : i = m := by omega
                show s = _
                rw [he]; exact (rot_left s _ (by omega)).symm
            go_wp2_with fail
            go_meet
            case rel => exact HST.out.to HE.out
        case rest =>
          have HST2 := Lib.hid hcut
          obtain ⟨w2, hw2⟩ : ∃ W, W = wc := ⟨_, rfl⟩
          rw [← hw2] at HST2 ⊢
          clear hcut hw2
          obtain ⟨p2, hp⟩ : ∃ p, p = (decide (a < i) && decide (i < mid)) := ⟨_, rfl⟩
          have HP2 := Lib.hid hp
          clear hp
          go_upto_region 41 with fail
          go_cut [199] from 192 to 199 (fun x wc => x = .bool p2 ∧ w2 = wc)
          case first =>
            rcases Nat.lt_or_ge a i with c1 | c1
            · rcases Nat.lt_or_ge i mid with c2 | c2
              · have c3 : decide (a < i) = true := decide_eq_true c1
                have c4 : decide (i < mid) = true := decide_eq_true c2
                go_wp2_with fail
                go_meet
                case rel => exact ⟨congrArg Value.bool (by rw [HP2.out, c3, c4]; rfl), rfl⟩
              · have c3 : decide (a < i) = true := decide_eq_true c1
                have c4 : decide (i < mid) = false := decide_eq_false (by omega)
                have c5 : ¬ i < mid := by omega
                go_wp2_with fail
                go_meet
                case rel => exact ⟨congrArg Value.bool (by rw [HP2.out, c3, c4]; rfl), rfl⟩
            · have c3 : decide (a < i) = false := decide_eq_false (by omega)
              have c5 : ¬ a < i := by omega
              go_wp2_with fail
              go_meet
              case rel => exact ⟨congrArg Value.bool (by rw [HP2.out, c3]; rfl), rfl⟩
          case rest =>
            obtain ⟨rfl, rfl⟩ := hcut
            go_upto_if 199 with fail
            go_cut [] from 200 to 205 (fun wc => Mgd v B g n cap w0 (rot s i m en) a mid wc)
            case first =>
              cases p2 with
              | true =>
                have hc1 : a < i ∧ i < mid := by simpa using HP2.out.symm
                have hM := HM.out
                have hlo2 := HCUT.out.low
                rw [hM.1] at hlo2
                have HR2 := Lib.hid (HR.out a i mid (rot s i m en) w2 (by omega) hc1.1 hc1.2 (by omega) hlo2 HST2.out)
                clear hc1 hM hlo2
                go_wp2_with fail
                refine HR2.out.mono ?_
                rintro e w3 ⟨rfl, hst3⟩
                have HST3 := Lib.hid hst3
                clear hst3
                go_wp2_with fail
                go_meet
                case rel => exact HST3.out
              | false =>
                have HE : Hid (Srt B (rot s i m en) a mid) := by
                  have hM := HM.out
                  have hc1 := HP2.out
                  have hlo2 := HCUT.out.low
                  rw [hM.1] at hlo2
                  by_cases hc2 : a < i
                  · have hc3 : ¬ i < mid := fun hc3 => by rw [decide_eq_true hc2, decide_eq_true hc3] at hc1; cases hc1
                    have he : mid = i := by omega
                    show Srt _ _ _ _
                    rw [he]; exact hlo2.l
                  · have he : i = a := by omega
                    have h5 := hlo2.r
                    rw [he] at h5 ⊢
                    exact h5
                go_wp2_with fail
                go_meet
                case rel => exact ⟨_, HST2.out, HE.out, Im.refl _ _ _⟩
            case rest =>
              obtain ⟨s2, hst2, hsrt2, him2⟩ := hcut
              have HST4 := Lib.hid hst2
              have HSRT2 := Lib.hid hsrt2
              have HIM2 := Lib.hid him2
              obtain ⟨w4, hw4⟩ : ∃ W, W = wc := ⟨_, rfl⟩
              rw [← hw4] at HST4 ⊢
              clear hst2 hsrt2 him2 hw4
              obtain ⟨p3, hp⟩ : ∃ p, p = (decide (mid < en) && decide (en < b)) := ⟨_, rfl⟩
              have HP3 := Lib.hid hp
              clear hp
              go_upto_region 43 with fail
              go_cut [213] from 206 to 213 (fun x wc => x = .bool p3 ∧ w4 = wc)
              case first =>
                rcases Nat.lt_or_ge mid en with c1 | c1
                · rcases Nat.lt_or_ge en b with c2 | c2
                  · have c3 : decide (mid < en) = true := decide_eq_true c1
                    have c4 : decide (en < b) = true := decide_eq_true c2
                    go_wp2_with fail
                    go_meet
                    case rel => exact ⟨congrArg Value.bool (by rw [HP3.out, c3, c4]; rfl), rfl⟩
                  · have c3 : decide (mid < en) = true := decide_eq_true c1
                    have c4 : decide (en < b) = false := decide_eq_false (by omega)
                    have c5 : ¬ en < b := by omega
                    go_wp2_with fail
                    go_meet
                    case rel => exact ⟨congrArg Value.bool (by rw [HP3.out, c3, c4]; rfl), rfl⟩
                · have c3 : decide (mid < en) = false := decide_eq_false (by omega)
                  have c5 : ¬ mid < en := by omega
                  go_wp2_with fail
                  go_meet
                  case rel => exact ⟨congrArg Value.bool (by rw [HP3.out, c3]; rfl), rfl⟩
              case rest =>
                obtain ⟨rfl, rfl⟩ := hcut
                have HHI2 : Hid (Halves B s2 mid en b) := by
                  have hM := HM.out
                  have h5 := HCUT.out.high
                  rw [hM.1] at h5
                  exact h5.congr (fun k k1 k2 => HIM2.out.out k (Or.inr k1)) (by omega) (by omega)
                cases p3 with
                | true =>
                  have hc1 : mid < en ∧ en < b := by simpa using HP3.out.symm
                  have hM := HM.out
                  have HR3 := Lib.hid (HR.out mid en b s2 w4 (by omega) hc1.1 hc1.2 (by omega) HHI2.out HST4.out)
                  clear hc1 hM
                  go_wp2_with fail
                  refine HR3.out.mono ?_
                  rintro e w5 ⟨rfl, s3, hst5, hsrt5, him5⟩
                  have HST5 := Lib.hid hst5
                  have HD := Lib.hid (HCUT.out.done HB.out (s2 := s2) (s3 := s3) (HM.out.1.symm ▸ HIM2.out) (HM.out.1.symm ▸ HSRT2.out) (HM.out.1.symm ▸ him5) (HM.out.1.symm ▸ hsrt5))
                  clear hst5 hsrt5 him5
                  go_wp2_with fail
                  go_end0
                  exact ⟨rfl, _, HST5.out, HD.out.1, HD.out.2⟩
                | false =>
                  have HE : Hid (Srt B s2 mid b) := by
                    have hM := HM.out
                    have hc1 := HP3.out
                    have h5 := HHI2.out
                    by_cases hc2 : mid < en
                    · have hc3 : ¬ en < b := fun hc3 => by rw [decide_eq_true hc2, decide_eq_true hc3] at hc1; cases hc1
                      have he : b = en := by omega
                      show Srt _ _ _ _
                      rw [he]; exact h5.l
                    · have he : en = mid := by omega
                      have h6 := h5.r
                      rw [he] at h6
                      exact h6
                  have HD := Lib.hid (HCUT.out.done HB.out (s2 := s2) (s3 := s2) (HM.out.1.symm ▸ HIM2.out) (HM.out.1.symm ▸ HSRT2.out) (Im.refl _ _ _) (HM.out.1.symm ▸ HE.out))
                  go_wp2_with fail
                  go_end0
                  exact ⟨rfl, _, HST4.out, HD.out.1, HD.out.2⟩
end Go.Proofs.Ytihklpkpcnahkaa.Stable
/- A stable sort in memory: the merge of every two parts; the whole; slices.SortStableFunc. -/
namespace Go.Proofs.Ytihklpkpcnahkaa.Stable
open Go.ChangeShapes Go.WideShapes Go.RowKit Go.Lib Go.Proofs.Ytihklpkpcnahkaa.Mem
set_option linter.unusedVariables false
set_option maxRecDepth 100000

theorem merges {v : Nat → Int} {B : Nat → Nat → Bool} {g n cap F : Nat} {caps : Array Value} {cf : Nat → Nat → Int} {w0 : World} (hB : Sto B) (hc : Cm v B n g w0 F caps cf) (hn : n ≤ 1000000) : ∀ d, Smaller v B g n cap F caps w0 d := by
  intro d
  induction d with
  | zero => intro a m b s w h; omega
  | succ d ih =>
    intro a m b s w hd ham hmb hbn hh hs
    by_cases h1 : m = a + 1
    · subst h1
      exact sym_left hB hc hs hn a b hmb hbn hh
    · by_cases h2 : b = m + 1
      · subst h2
        exact sym_right hB hc hs hn a m (by omega) hbn hh
      · have hr : Smaller v B g n cap F caps w0 (b - a) := fun a' m' b' s' w' hd' => ih a' m' b' s' w' (by omega)
        rcases Nat.lt_or_ge ((a + b) / 2) m with h3 | h3
        · exact sym_hi hB hc hs hn a m b (by omega) (by omega) hbn hh hr h3
        · exact sym_lo hB hc hs hn a m b (by omega) (by omega) hbn hh hr h3

set_option maxHeartbeats 3200000 in
theorem stable {v : Nat → Int} {B : Nat → Nat → Bool} {g n cap F : Nat} {caps : Array Value} {cf : Nat → Nat → Int} {w0 w : World} {s : Nat → Nat} (hB : Sto B) (hc : Cm v B n g w0 F caps cf) (h : St v g n cap w0 w s) (hn : n ≤ 100000) (hid : ∀ k, s k = k) :
    Calls Try.prog 68 #[.slice (some ⟨g, 0, none⟩) n cap, .int .i64 (n : Int), .func (.func F) #[] caps] w fun e w' => e = .returned (.tuple #[]) ∧ ∃ s', St v g n cap w0 w' s' ∧ Srt B s' 0 n ∧ ∀ k, k < n → s' k < n := by
  have HS := Lib.hid h
  have HB := Lib.hid hB
  have HN := Lib.hid hn
  have HID := Lib.hid hid
  have HC := Lib.hid hc
  have HMG := Lib.hid (fun d => merges (cap := cap) hB hc (Nat.le_trans hn (by omega)) d)
  clear h hB hn hid hc
  go_enter Try.func68, Try.ntmps68
  go_wp2_with fail
  go_loopw [7, 8] (fun x y wr => ∃ (t a b : Nat) (c : Nat → Nat), x = .int .i64 (a : Int) ∧ y = .int .i64 (b : Int) ∧ a = t * 20 ∧ b = a + 20 ∧ St v g n cap w0 wr c ∧ Ph1 B c n t) (fun x _ _ => n - (RowKit.intOf x).toNat)
  case atStart => exact ⟨0, 0, 20, s, rfl, rfl, rfl, rfl, HS.out, Ph1.start n HID.out⟩
  case round =>
    obtain ⟨t, a, b, c, rfl, rfl, ha, hb, hst, hph⟩ := hrel
    have HST := Lib.hid hst
    have HPH := Lib.hid hph
    have HA := Lib.hid (show a = t * 20 ∧ b = a + 20 ∧ a ≤ n by have := hph.le; omega)
    have hN := HN.out
    clear hst hph
    rcases Nat.lt_or_ge n b with hlt | hge
    · have b1 : ¬ b ≤ n := by omega
      have b2 : decide (b ≤ n) = false := decide_eq_false (by omega)
      have HINS := Lib.hid (insertion HB.out HC.out HST.out (by omega) a n HA.out.2.2 (Nat.le_refl _) (fun p q h1 h2 h3 => by rw [HPH.out.rest p (by omega), HPH.out.rest q (by omega)]; exact h2))
      clear ha hb hN hlt
      go_wp2_with fail
      refine HINS.out.mono ?_
      rintro e w2 ⟨rfl, s2, hst2, hsrt2, him2⟩
      have HST2 := Lib.hid hst2
      have HBLS : Hid (Bls B s2 20 n) := HPH.out.all (by have := HA.out; omega) (HA.out.1 ▸ hsrt2) (HA.out.1 ▸ him2)
      clear hst2 hsrt2 him2 HINS
      go_wp2_with fail
      go_loopw [6, 7, 8, 9] (fun x _ _ _ wr => ∃ (z : Nat) (c : Nat → Nat), x = .int .i64 (z : Int) ∧ 0 < z ∧ z ≤ 200000 ∧ St v g n cap w0 wr c ∧ Bls B c z n) (fun x _ _ _ _ => n - (RowKit.intOf x).toNat)
      case atStart => exact ⟨20, s2, rfl, by omega, by omega, HST2.out, HBLS.out⟩
      case round =>
        obtain ⟨z, c3, rfl, hz, hz2, hst, hbls⟩ := hrel
        have HST3 := Lib.hid hst
        have HBL3 := Lib.hid hbls
        have hN := HN.out
        clear hst hbls
        rcases Nat.lt_or_ge z n with hlt | hge
        · obtain ⟨y, hy⟩ : ∃ y, y = 2 * z := ⟨_, rfl⟩
          have e1 : IntKind.i64.wrap (2 * (z : Int)) = (y : Int) := by rw [wrap_id (by omega)]; omega
          have e1' : IntKind.i64.wrap ((z : Int) * 2) = (y : Int) := by rw [wrap_id (by omega)]; omega
          have b1 : z < n := hlt
          have HZ := Lib.hid (show 0 < z ∧ z < n ∧ n ≤ 100000 ∧ y = 2 * z by omega)
          have HPS : Hid (Ph2 B c3 z n 0 0) := Ph2.start HBL3.out
          clear hy hz hz2 hN hlt
          go_wp2_with fail
          go_loopw [7, 8] (fun x u wr => ∃ (t a b : Nat) (c : Nat → Nat), x = .int .i64 (a : Int) ∧ u = .int .i64 (b : Int) ∧ b = a + y ∧ St v g n cap w0 wr c ∧ Ph2 B c z n t a) (fun x _ _ => n - (RowKit.intOf x).toNat)
          case atStart => exact ⟨0, 0, y, c3, rfl, rfl, by omega, HST3.out, HPS.out⟩
          case round =>
            obtain ⟨t, a, b, c4, rfl, rfl, hb, hst, hph⟩ := hrel
            have HST4 := Lib.hid hst
            have HPH4 := Lib.hid hph
            have hZ := HZ.out
            have hle := hph.le
            have HB2 := Lib.hid hb
            clear hst hph
            obtain ⟨m, hm⟩ : ∃ m, m = a + z := ⟨_, rfl⟩
            have e2 : IntKind.i64.wrap ((a : Int) + (z : Int)) = (m : Int) := by rw [wrap_id (by omega)]; omega
            rcases Nat.lt_or_ge n b with hlt | hge
            · have b2 : ¬ b ≤ n := by omega
              have HFIN : Hid (n < a + 2 * z) := (by omega : n < a + 2 * z)
              rcases Nat.lt_or_ge m n with hmn | hmn
              · have HHV := Lib.hid (show Halves B c4 a m n from by
                  have q1 := HPH4.out.first
                  have q2 := HPH4.out.second
                  rw [Nat.min_eq_left (by omega)] at q1
                  rw [Nat.min_eq_right (by omega)] at q2
                  rw [hm]; exact q1.halves q2)
                have HM := Lib.hid (HMG.out (n - a + 1) a m n c4 wr (by omega) (by omega) hmn (Nat.le_refl _) HHV.out HST4.out)
                have HMA := Lib.hid (show a + z < n by omega)
                have b3 : m < n := hmn
                clear hm hZ hle hb hlt hmn
                go_wp2_with fail
                refine HM.out.mono ?_
                rintro e w5 ⟨rfl, s5, hst5, hsrt5, him5⟩
                have HST5 := Lib.hid hst5
                have HBLS5 : Hid (Bls B s5 (2 * z) n) := HPH4.out.last HFIN.out HMA.out hsrt5 him5
                clear hst5 hsrt5 him5
                go_wp2_with fail
                go_roundw
                case rel => exact ⟨y, s5, rfl, by have := HZ.out; omega, by have := HZ.out; omega, HST5.out, by rw [HZ.out.2.2.2]; exact HBLS5.out⟩
                case measure =>
                  have := HZ.out
                  simp [RowKit.intOf]; omega
              · have HBLS5 : Hid (Bls B c4 (2 * z) n) := HPH4.out.alone HFIN.out (by omega)
                have b3 : ¬ m < n := by omega
                clear hm hZ hle hb hlt hmn
                go_wp2_with fail
                go_roundw
                case rel => exact ⟨y, c4, rfl, by have := HZ.out; omega, by have := HZ.out; omega, HST4.out, by rw [HZ.out.2.2.2]; exact HBLS5.out⟩
                case measure =>
                  have := HZ.out
                  simp [RowKit.intOf]; omega
            · obtain ⟨b', hb'⟩ : ∃ b', b' = b + y := ⟨_, rfl⟩
              have e3 : IntKind.i64.wrap ((b : Int) + (y : Int)) = (b' : Int) := by rw [wrap_id (by omega)]; omega
              have b2 : b ≤ n := hge
              have HHV := Lib.hid (show Halves B c4 a m b from by
                have q1 := HPH4.out.first
                have q2 := HPH4.out.second
                rw [Nat.min_eq_left (by omega)] at q1 q2
                rw [hm, show b = a + 2 * z by omega]; exact q1.halves q2)
              have HM := Lib.hid (HMG.out (b - a + 1) a m b c4 wr (by omega) (by omega) (by omega) hge HHV.out HST4.out)
              have HLE : Hid (a + 2 * z ≤ n ∧ b = a + 2 * z ∧ b' = b + y) := (by omega : a + 2 * z ≤ n ∧ b = a + 2 * z ∧ b' = b + y)
              clear hm hZ hle hb hge hb'
              go_wp2_with fail
              refine HM.out.mono ?_
              rintro e w5 ⟨rfl, s5, hst5, hsrt5, him5⟩
              have HST5 := Lib.hid hst5
              have HPH5 : Hid (Ph2 B s5 z n (t + 1) b) := by
                have := HPH4.out.next (s' := s5) HLE.out.1 (HLE.out.2.1 ▸ hsrt5) (HLE.out.2.1 ▸ him5)
                rw [HLE.out.2.1]; exact this
              clear hst5 hsrt5 him5
              go_wp2_with fail
              go_roundw
              case rel => exact ⟨t + 1, b, b', s5, rfl, rfl, HLE.out.2.2, HST5.out, HPH5.out⟩
              case measure =>
                have := HZ.out
                have := HLE.out
                simp [RowKit.intOf]; omega
        · have b1 : ¬ z < n := by omega
          have HD := Lib.hid (HBL3.out.all hge)
          clear hz hz2 hN hge
          go_wp2_with fail
          go_end0
          exact ⟨rfl, _, HST3.out, HD.out.1, HD.out.2⟩
    · obtain ⟨b', hb'⟩ : ∃ b', b' = b + 20 := ⟨_, rfl⟩
      have e3 : IntKind.i64.wrap ((b : Int) + 20) = (b' : Int) := by rw [wrap_id (by omega)]; omega
      have b1 : b ≤ n := hge
      have HINS := Lib.hid (insertion HB.out HC.out HST.out (by omega) a b (by omega) hge (fun p q h1 h2 h3 => by rw [HPH.out.rest p (by omega), HPH.out.rest q (by omega)]; exact h2))
      have HLE : Hid (t * 20 + 20 ≤ n ∧ b = t * 20 + 20 ∧ a = t * 20 ∧ b' = b + 20) := (by omega : t * 20 + 20 ≤ n ∧ b = t * 20 + 20 ∧ a = t * 20 ∧ b' = b + 20)
      clear ha hb hN hb' hge
      go_wp2_with fail
      refine HINS.out.mono ?_
      rintro e w2 ⟨rfl, s2, hst2, hsrt2, him2⟩
      have HST2 := Lib.hid hst2
      have HPH2 : Hid (Ph1 B s2 n (t + 1)) := HPH.out.next HLE.out.1 (by rw [← HLE.out.2.1, ← HLE.out.2.2.1]; exact hsrt2) (by rw [← HLE.out.2.1, ← HLE.out.2.2.1]; exact him2)
      clear hst2 hsrt2 him2 HINS
      go_wp2_with fail
      go_roundw
      case rel => exact ⟨t + 1, b, b', s2, rfl, rfl, by have := HLE.out; omega, HLE.out.2.2.2, HST2.out, HPH2.out⟩
      case measure =>
        have := HLE.out
        simp [RowKit.intOf]; omega

set_option maxHeartbeats 800000 in
/-- slices.SortStableFunc: a row that holds the values v 0, v 1, ..; afterwards what lies where is told by s', in order. -/
theorem sort_stable {v : Nat → Int} {B : Nat → Nat → Bool} {g n cap F : Nat} {caps : Array Value} {cf : Nat → Nat → Int} {w0 w : World} {s : Nat → Nat} (hB : Sto B) (hc : Cm v B n g w0 F caps cf) (h : St v g n cap w0 w s) (hn : n ≤ 100000) (hid : ∀ k, s k = k) :
    Calls Try.prog 60 #[.slice (some ⟨g, 0, none⟩) n cap, .func (.func F) #[] caps] w fun e w' => e = .returned (.tuple #[]) ∧ ∃ s', St v g n cap w0 w' s' ∧ Srt B s' 0 n ∧ ∀ k, k < n → s' k < n := by
  have HM := Lib.hid (stable hB hc h hn hid)
  clear hB hc h hn hid
  go_enter Try.func60, Try.ntmps60
  go_wp2_with fail
  refine HM.out.mono ?_
  rintro e w2 ⟨rfl, s2, h2, h3, h4⟩
  have H2 := Lib.hid h2
  have H3 := Lib.hid h3
  have H4 := Lib.hid h4
  clear h2 h3 h4
  go_wp2_with fail
  go_end0
  exact ⟨rfl, s2, H2.out, H3.out, H4.out⟩
end Go.Proofs.Ytihklpkpcnahkaa.Stable
