/- A stable sort in memory: the comparison; insertion. -/
import Derived.Test.YtdolhanniiejfaaStableC
namespace Go.Proofs.Ytdolhanniiejfaa.Stable
open Go.ChangeShapes Go.WideShapes Go.RowKit Go.Lib Go.Proofs.Ytdolhanniiejfaa.Mem
set_option linter.unusedVariables false
set_option maxRecDepth 100000

/-- Function F with what it captured compares: of two values the later one first. -/
structure Cm (v : Nat → Int) (B : Nat → Nat → Bool) (n g : Nat) (w0 : World) (F : Nat) (caps : Array Value) (cf : Nat → Nat → Int) : Prop where
  eg : ∀ args w, (callFunc F args).run Try.prog w = .ok (.enter F args) w
  neg : ∀ i j, j < i → i < n → decide (cf i j < 0) = B i j
  call : ∀ i j W, j < i → i < n → Off (fun x => x = g) w0 W → Calls Try.prog F (#[.int .i64 (v i), .int .i64 (v j)] ++ caps) W fun e w' => e = .returned (.int .i64 (cf i j)) ∧ Below W.heap.size W w'

set_option maxHeartbeats 1600000 in
theorem insertion {v : Nat → Int} {B : Nat → Nat → Bool} {g n cap F : Nat} {caps : Array Value} {cf : Nat → Nat → Int} {w0 w : World} {s : Nat → Nat} (hB : Sto B) (hc : Cm v B n g w0 F caps cf) (h : St v g n cap w0 w s) (hn : n ≤ 1000000) (a b : Nat) (hab : a ≤ b) (hbn : b ≤ n) (ht : ∀ p q, a ≤ p → p < q → q < b → s p < s q) :
    Calls Try.prog 73 #[.slice (some ⟨g, 0, none⟩) n cap, .int .i64 (a : Int), .int .i64 (b : Int), .func (.func F) #[] caps] w fun e w' => e = .returned (.tuple #[]) ∧ ∃ s', St v g n cap w0 w' s' ∧ Srt B s' a b ∧ Im s s' a b := by
  have HS := Lib.hid h
  have HB := Lib.hid hB
  have HT := Lib.hid ht
  have eg := hc.eg
  have HC := Lib.hid hc
  have e1 : IntKind.i64.wrap ((a : Int) + 1) = ((a + 1 : Nat) : Int) := wrap_id (by omega)
  clear h hB ht hc
  go_enter Try.func73, Try.ntmps73
  go_wp2_with fail
  go_loopw [8] (fun x wr => ∃ (i : Nat) (c : Nat → Nat), x = .int .i64 (i : Int) ∧ a < i ∧ St v g n cap w0 wr c ∧ Srt B c a i ∧ Im s c a i ∧ Im s c a b) (fun x _ => b - (intOf x).toNat)
  case atStart => exact ⟨a + 1, s, rfl, by omega, HS.out, Srt.none_ (by omega), Im.refl _ _ _, Im.refl _ _ _⟩
  case round =>
    obtain ⟨i, c, rfl, hai, hst, hsrt, him, himb⟩ := hrel
    have HST := Lib.hid hst
    have HSRT := Lib.hid hsrt
    have HIM := Lib.hid him
    have HIMB := Lib.hid himb
    clear hst hsrt him himb e1
    rcases Nat.lt_or_ge i b with hlt | hge
    · have i1 : (i : Int) < (b : Int) := by omega
      have ei : IntKind.i64.wrap ((i : Int) + 1) = ((i + 1 : Nat) : Int) := wrap_id (by omega)
      have HX := Lib.hid (show a < i ∧ i < b ∧ b ≤ n ∧ n ≤ 1000000 by omega)
      have HIN : Hid (Ins B c c a i i) := Ins.start HSRT.out (by omega) fun p h1 h2 => by
        obtain ⟨j, j1, j2, e⟩ := HIM.out.in_ p h1 h2
        rw [e, HIM.out.out i (Or.inr (Nat.le_refl _))]
        exact HT.out j i j1 j2 hlt
      clear hlt hai hab hbn hn
      go_wp2_with fail
      go_loopw [9] (fun x wr => ∃ (j : Nat) (cc : Nat → Nat), x = .int .i64 (j : Int) ∧ St v g n cap w0 wr cc ∧ Ins B c cc a i j) (fun x _ => (intOf x).toNat)
      case atStart => exact ⟨i, c, rfl, HST.out, HIN.out⟩
      case round =>
        obtain ⟨j, cc, rfl, hst, hins⟩ := hrel
        have HST2 := Lib.hid hst
        have HINS := Lib.hid hins
        clear hst hins HST HIN
        have hX := HX.out
        have haj := HINS.out.aj
        have hji := HINS.out.ji
        rcases Nat.lt_or_ge a j with hlt | hge
        · obtain ⟨p, hp⟩ : ∃ x, x = j - 1 := ⟨_, rfl⟩
          have ep : IntKind.i64.wrap ((j : Int) - 1) = (p : Int) := by rw [wrap_id (by omega)]; omega
          have g1 : decide ((a : Int) < (j : Int)) = true := decide_eq_true (by omega)
          have hlt' := HINS.out.t p (by omega) (by omega)
          have hbn := HST2.out.b j (by omega)
          have cj := HST2.out.cell (k := j) (by omega)
          have cp := HST2.out.cell (k := p) (by omega)
          have HNEG := Lib.hid (HC.out.neg (cc j) (cc p) hlt' hbn)
          have HCALL := Lib.hid (fun W => HC.out.call (cc j) (cc p) W hlt' hbn)
          have fj := HST2.out.warm j
          have fp := HST2.out.warm p
          have HP := Lib.hid (show p = j - 1 ∧ p < n ∧ j < n ∧ ¬ p = j ∧ ¬ j = p ∧ a < j by omega)
          have i2 : (j : Int) < (n : Int) := by omega
          have i3 : (0 : Int) ≤ (j : Int) := by omega
          have i4 : (p : Int) < (n : Int) := by omega
          have i5 : (0 : Int) ≤ (p : Int) := by omega
          have g2 : a < j := hlt
          obtain ⟨x, hx⟩ : ∃ x, x = v (cc j) := ⟨_, rfl⟩
          obtain ⟨y, hy⟩ : ∃ y, y = v (cc p) := ⟨_, rfl⟩
          obtain ⟨z, hz⟩ : ∃ z, z = cf (cc j) (cc p) := ⟨_, rfl⟩
          have HXY := Lib.hid (show x = v (cc j) ∧ y = v (cc p) from ⟨hx, hy⟩)
          rw [← hx] at cj HCALL
          rw [← hy] at cp HCALL
          rw [← hz] at HCALL HNEG
          have HX1 := Lib.hid (HCALL.out wr.drew HST2.out.drew.off)
          have HK := Lib.hid (HST2.out.keep HP.out.2.2.1 HP.out.2.1 hx hy)
          clear hp hlt' hbn hx hy hz hX haj hji hlt HCALL
          cases hb : B (cc j) (cc p) with
          | true =>
            rw [hb] at HNEG
            have b1 := HNEG.out
            go_wp2_with fail
            go_region_held3 (fun W' => W'.cell? ⟨g, j, none⟩ = some (.int .i64 x) ∧ W'.cell? ⟨g, p, none⟩ = some (.int .i64 y))
              (first | go_keep | exact HK.out _ hb2) (first | (go_at_fn F; (with_reducible refine HX1.out.mono ?_); rintro e w2 ⟨rfl, hb2⟩))
            have HST3 := Lib.hid (HST2.out.drew.on hb2)
            have dj := HST3.out.cell (k := j) HP.out.2.2.1
            have dp := HST3.out.cell (k := p) HP.out.2.1
            rw [← HXY.out.1] at dj
            rw [← HXY.out.2] at dp
            have fj := HST3.out.warm j
            have fp := HST3.out.warm p
            have HSW := Lib.hid (HST3.out.swap (i := j) (j := p) HP.out.2.2.1 HP.out.2.1)
            rw [← HXY.out.1, ← HXY.out.2] at HSW
            have hpj := HP.out.2.2.2.1
            have hjp := HP.out.2.2.2.2.1
            clear cj cp hb2
            go_wp2_with fail
            go_region
            all_goals
              go_wp2_with fail
              go_roundw
              case rel => exact ⟨p, _, rfl, HSW.out.drew, HP.out.1 ▸ HINS.out.step HP.out.2.2.2.2.2 (HP.out.1 ▸ hb)⟩
              case measure =>
                have := HP.out
                simp [intOf]; omega
          | false =>
            rw [hb] at HNEG
            have b1 := HNEG.out
            go_wp2_with fail
            go_region_held3 (fun W' => W'.cell? ⟨g, j, none⟩ = some (.int .i64 x) ∧ W'.cell? ⟨g, p, none⟩ = some (.int .i64 y))
              (first | go_keep | exact HK.out _ hb2) (first | (go_at_fn F; (with_reducible refine HX1.out.mono ?_); rintro e w2 ⟨rfl, hb2⟩))
            have HST3 := Lib.hid (HST2.out.drew.on hb2)
            have HD := Lib.hid (HINS.out.done HB.out (Or.inr ⟨HP.out.2.2.2.2.2, HP.out.1 ▸ hb⟩))
            clear cj cp fj fp hb2
            go_wp2_with fail
            go_roundw
            case rel => exact ⟨i + 1, cc, rfl, by have := HX.out; omega, HST3.out, HD.out.1, (HIM.out.wide (Nat.le_refl _) (by omega)).trans HD.out.2, HIMB.out.trans (HD.out.2.wide (Nat.le_refl _) (by have := HX.out; omega))⟩
            case measure =>
              have := HX.out
              simp [intOf]; omega
        · obtain rfl : a = j := by omega
          have g1 : decide ((a : Int) < (a : Int)) = false := decide_eq_false (by omega)
          have HD := Lib.hid (HINS.out.done HB.out (Or.inl rfl))
          clear hX haj hji hge
          go_wp2_with fail
          go_quiet (fail)
          go_wp2_with fail
          go_roundw
          case rel => exact ⟨i + 1, cc, rfl, by have := HX.out; omega, HST2.out.drewN _, HD.out.1, (HIM.out.wide (Nat.le_refl _) (by omega)).trans HD.out.2, HIMB.out.trans (HD.out.2.wide (Nat.le_refl _) (by have := HX.out; omega))⟩
          case measure =>
            have := HX.out
            simp [intOf]; omega
    · have hmin : decide ((i : Int) < (b : Int)) = false := decide_eq_false (by omega)
      have HD : Hid (Srt B c a b) := HSRT.out.part (Nat.le_refl _) hge
      go_wp2_with fail
      go_end0
      exact ⟨rfl, c, HST.out, HD.out, HIMB.out⟩
#print axioms insertion
end Go.Proofs.Ytdolhanniiejfaa.Stable
