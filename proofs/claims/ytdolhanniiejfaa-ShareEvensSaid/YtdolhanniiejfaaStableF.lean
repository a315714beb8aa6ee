/- A stable sort in memory: one value at the right of a part, put in. -/
import Derived.Test.YtdolhanniiejfaaStableE
namespace Go.Proofs.Ytdolhanniiejfaa.Stable
open Go.ChangeShapes Go.WideShapes Go.RowKit Go.Lib Go.Proofs.Ytdolhanniiejfaa.Mem
set_option linter.unusedVariables false
set_option maxRecDepth 100000

set_option maxHeartbeats 1600000 in
theorem sym_right {v : Nat → Int} {B : Nat → Nat → Bool} {g n cap F : Nat} {caps : Array Value} {cf : Nat → Nat → Int} {w0 w : World} {s : Nat → Nat} (hB : Sto B) (hc : Cm v B n g w0 F caps cf) (h : St v g n cap w0 w s) (hn : n ≤ 1000000) (a m : Nat) (hab : a + 1 < m) (hbn : m + 1 ≤ n) (hh : Halves B s a m (m + 1)) :
    Calls Try.prog 74 #[.slice (some ⟨g, 0, none⟩) n cap, .int .i64 (a : Int),   .int .i64 (m : Int), .int .i64 ((m + 1 : Nat) : Int), .func (.func F) #[] caps] w fun e w' => e = .returned (.tuple #[]) ∧ Mgd v B g n cap w0 s a (m + 1) w' := by
  obtain ⟨b, hm⟩ : ∃ b, b = m + 1 := ⟨_, rfl⟩
  obtain ⟨d, hd⟩ : ∃ d, d = m - a := ⟨_, rfl⟩
  rw [← hm]
  rw [← hm] at hh hbn
  have HS := Lib.hid h
  have HB := Lib.hid hB
  have HH := Lib.hid hh
  have HM := Lib.hid hm
  have HX := Lib.hid (show a + 1 < m ∧ b ≤ n ∧ n ≤ 1000000 ∧ b = m + 1 by omega)
  have eg := hc.eg
  have HC := Lib.hid hc
  have e1 : IntKind.i64.wrap ((m : Int) - (a : Int)) = (d : Int) := by rw [wrap_id (by omega)]; omega
  have d1 : ((d : Int) == 1) = false := by simp; omega
  have d2 : ¬ d = 1 := by omega
  have e2 : IntKind.i64.wrap ((b : Int) - (m : Int)) = 1 := by rw [wrap_id (by omega)]; omega
  clear h hB hc hh hm hd hab hbn hn
  go_enter Try.func74, Try.ntmps74
  go_wp2_with fail
  go_loopw [14, 15, 16] (fun x y _ wr => ∃ i j : Nat, x = .int .i64 (i : Int) ∧ y = .int .i64 (j : Int) ∧ a ≤ i ∧ i ≤ j ∧ j ≤ m ∧ (a < i → B (s m) (s (i - 1)) = false) ∧ (j < m → B (s m) (s j) = true) ∧ St v g n cap w0 wr s) (fun x y _ _ => (intOf y).toNat - (intOf x).toNat)
  case atStart => exact ⟨a, m, rfl, rfl, Nat.le_refl _, by have := HX.out; omega, Nat.le_refl _, fun h => by omega, fun h => by omega, HS.out⟩
  case round =>
    obtain ⟨i, j, rfl, rfl, h1, h2, h3, hlo, hhi, hst⟩ := hrel
    have HLO := Lib.hid hlo
    have HHI := Lib.hid hhi
    have HST := Lib.hid hst
    have hX := HX.out
    clear hst hlo hhi e1 e2 d1 d2
    rcases Nat.lt_or_ge i j with hlt | hge
    · obtain ⟨q, hq⟩ : ∃ x, x = i + j := ⟨_, rfl⟩
      obtain ⟨h, hh⟩ : ∃ x, x = q / 2 := ⟨_, rfl⟩
      have e1 : IntKind.i64.wrap ((i : Int) + (j : Int)) = (q : Int) := by rw [wrap_id (by omega)]; omega
      have e2 : IntKind.u64.wrap (q : Int) = (q : Int) := by rw [IntKind.wrap_u64]; omega
      have e3 : (q : Int) / 2 = (h : Int) := by omega
      have e4 : IntKind.i64.wrap (h : Int) = (h : Int) := wrap_id (by omega)
      have e5 : IntKind.i64.wrap ((h : Int) + 1) = ((h + 1 : Nat) : Int) := wrap_id (by omega)
      have ht := HH.out.t h m (by omega) (by omega) (by omega) (by omega)
      have hbd := HST.out.b m (by omega)
      have ch := HST.out.cell (k := h) (by omega)
      have ca := HST.out.cell (k := m) (by omega)
      have HNEG := Lib.hid (HC.out.neg (s m) (s h) ht hbd)
      have HCALL := Lib.hid (fun W => HC.out.call (s m) (s h) W ht hbd)
      have HP := Lib.hid (show i ≤ h ∧ h < j ∧ m < n ∧ h < n ∧ h + 1 ≤ j by omega)
      have i2 : (h : Int) < (n : Int) := by omega
      have i3 : (0 : Int) ≤ (h : Int) := by omega
      have i4 : (m : Int) < (n : Int) := by omega
      have i5 : (0 : Int) ≤ (m : Int) := by omega
      obtain ⟨x, hx⟩ : ∃ x, x = v (s h) := ⟨_, rfl⟩
      obtain ⟨y, hy⟩ : ∃ y, y = v (s m) := ⟨_, rfl⟩
      obtain ⟨z, hz⟩ : ∃ z, z = cf (s m) (s h) := ⟨_, rfl⟩
      rw [← hx] at ch HCALL
      rw [← hy] at ca HCALL
      rw [← hz] at HCALL HNEG
      have HX1 := Lib.hid (HCALL.out wr.drew HST.out.drew.off)
      have HK := Lib.hid (HST.out.keep HP.out.2.2.2.1 HP.out.2.2.1 hx hy)
      clear hq hh ht hbd hx hy hz HCALL
      cases hb : B (s m) (s h) with
      | true =>
        rw [hb] at HNEG
        have b1 := HNEG.out
        clear hX
        go_wp2_with fail
        go_region_held3 (fun W' => W'.cell? ⟨g, h, none⟩ = some (.int .i64 x) ∧ W'.cell? ⟨g, m, none⟩ = some (.int .i64 y))
          (first | go_keep | exact HK.out _ hb2) (first | (go_at_fn F; (with_reducible refine HX1.out.mono ?_); rintro e w2 ⟨rfl, hb2⟩))
        have HST3 := Lib.hid (HST.out.drew.on hb2)
        clear ch ca hb2
        go_wp2_with fail
        go_roundw
        case rel =>
          have := HP.out
          exact ⟨i, h, rfl, rfl, h1, by omega, by omega, HLO.out, fun _ => hb, HST3.out⟩
        case measure =>
          have := HP.out
          simp [intOf]; omega
      | false =>
        rw [hb] at HNEG
        have b1 := HNEG.out
        clear hX
        go_wp2_with fail
        go_region_held3 (fun W' => W'.cell? ⟨g, h, none⟩ = some (.int .i64 x) ∧ W'.cell? ⟨g, m, none⟩ = some (.int .i64 y))
          (first | go_keep | exact HK.out _ hb2) (first | (go_at_fn F; (with_reducible refine HX1.out.mono ?_); rintro e w2 ⟨rfl, hb2⟩))
        have HST3 := Lib.hid (HST.out.drew.on hb2)
        clear ch ca hb2
        go_wp2_with fail
        go_roundw
        case rel =>
          have := HP.out
          exact ⟨h + 1, j, rfl, rfl, by omega, by omega, h3, fun _ => hb, HHI.out, HST3.out⟩
        case measure =>
          have := HP.out
          simp [intOf]; omega
    · obtain rfl : i = j := by omega
      have HD := Lib.hid ((HM.out ▸ HH.out : Halves B s a m (m + 1)).one_right HB.out h1 h3 HLO.out HHI.out)
      have HT := Lib.hid (show a ≤ i ∧ i ≤ m by omega)
      clear h1 h2 h3 hge hX HLO HHI
      go_wp2_with fail
      go_loopw [17] (fun x wr => ∃ k : Nat, x = .int .i64 (k : Int) ∧ i ≤ k ∧ k ≤ m ∧ St v g n cap w0 wr (rot s k m (m + 1))) (fun x _ => (intOf x).toNat - i)
      case atStart => exact ⟨m, rfl, HT.out.2, Nat.le_refl _, HST.out.to (rot_left s _ (Nat.le_succ m)).symm⟩
      case round =>
        obtain ⟨k, rfl, k1, k2, hst⟩ := hrel
        have HST4 := Lib.hid hst
        have hX := HX.out
        clear hst
        rcases Nat.lt_or_ge i k with hlt | hge
        · obtain ⟨p, hp⟩ : ∃ x, x = k - 1 := ⟨_, rfl⟩
          have ep : IntKind.i64.wrap ((k : Int) - 1) = (p : Int) := by rw [wrap_id (by omega)]; omega
          have dk := HST4.out.cell (k := k) (by omega)
          have dp := HST4.out.cell (k := p) (by omega)
          have HSW := Lib.hid ((HST4.out.swap (i := k) (j := p) (by omega) (by omega)).to (s' := rot s p m (m + 1)) (by rw [show k = p + 1 by omega]; exact rot_down s (by omega)))
          obtain ⟨x, hx⟩ : ∃ x, x = v (rot s k m (m + 1) k) := ⟨_, rfl⟩
          obtain ⟨y, hy⟩ : ∃ y, y = v (rot s k m (m + 1) p) := ⟨_, rfl⟩
          rw [← hx] at dk HSW
          rw [← hy] at dp HSW
          have fj := HST4.out.warm k
          have fp := HST4.out.warm p
          have i2 : (k : Int) < (n : Int) := by omega
          have i3 : (0 : Int) ≤ (k : Int) := by omega
          have i4 : (p : Int) < (n : Int) := by omega
          have i5 : (0 : Int) ≤ (p : Int) := by omega
          have hpk : ¬ p = k := by omega
          have hkp : ¬ k = p := by omega
          have b1 : i < k := hlt
          have HP := Lib.hid (show p = k - 1 ∧ i ≤ p ∧ p ≤ m ∧ p < k by omega)
          clear hX hp hx hy hlt k1 k2
          go_wp2_with fail
          go_region
          all_goals
            go_wp2_with fail
            go_roundw
            case rel => exact ⟨p, rfl, HP.out.2.1, HP.out.2.2.1, HSW.out.drew⟩
            case measure =>
              have := HP.out
              simp [intOf]; omega
        · obtain rfl : i = k := by omega
          clear hX k1 k2 hge
          go_wp2_with fail
          try simp only [Exit.inBlock, Exit.then]
          refine bodyPost_ret (results_none rfl _ _ _) rfl ?_
          exact ⟨rfl, _, HST4.out, by rw [HM.out]; exact HD.out.1, by rw [HM.out]; exact HD.out.2⟩
#print axioms sym_right
end Go.Proofs.Ytdolhanniiejfaa.Stable
