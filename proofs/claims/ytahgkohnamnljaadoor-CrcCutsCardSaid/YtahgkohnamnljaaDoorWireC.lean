/- Contracts of appendInt, PutInt of the program, and of code, PutInt of the reference. -/
import Derived.Test.YtahgkohnamnljaaDoorWireB
import Derived.Deep.CutRange
import Derived.Deep.DeepCutAuto
import Derived.Deep.RegionHeldLaw
import Derived.Deep.RegionWith
namespace Go.Proofs.YtahgkohnamnljaaDoor.Wire
open Go.ChangeShapes Go.WideShapes Go.RowKit
set_option linter.unusedVariables false
set_option maxRecDepth 100000

theorem ref_code (n : Int) (w : World) (hn : isI n) : Calls Tryd.prog 36 #[.int .i64 n] w fun e w' => e = .returned (.int .u64 (codeN n : Nat)) ∧ w = w' := by
  obtain ⟨h1, h2⟩ := hn
  rcases Int.lt_or_le n 0 with h | h
  · have HC := Lib.hid (show codeN n = (-2 * n - 1).toNat from if_pos h)
    have w1 : IntKind.i64.wrap (n + 1) = n + 1 := wrap_id (by omega) (by omega)
    have w2 : IntKind.i64.wrap (-(n + 1)) = -(n + 1) := wrap_id (by omega) (by omega)
    go_enter Tryd.func36, Tryd.ntmps36
    go_wp2_with fail
    go_ret
    exact ⟨ret_int (by rw [HC.out]; omega), rfl⟩
  · have hd : decide (n < 0) = false := decide_eq_false (by omega)
    have HC := Lib.hid (show codeN n = (2 * n).toNat from if_neg (by omega))
    go_enter Tryd.func36, Tryd.ntmps36
    go_wp2_with fail
    go_ret
    exact ⟨ret_int (by rw [HC.out]; omega), rfl⟩
theorem or_128 : ∀ y : Fin 128, (y.val ||| 128 = y.val + 128) ∧ ((y.val + 128) ||| 128 = y.val + 128) := by decide +kernel
/-- A byte of an encoding that is not the last one. -/
theorem or_more (u : Nat) : bits .or .u8 ((u % 256 : Nat) : Int) 128 = ((u % 128 + 128 : Nat) : Int) := by
  have h := u8_or_nat (u % 256) 128 (by omega) (by omega)
  have e : u % 256 ||| 128 = u % 128 + 128 := by
    have h1 := or_128 ⟨u % 128, by omega⟩
    rcases Nat.lt_or_ge (u % 256) 128 with h2 | h2
    · have : u % 256 = u % 128 := by omega
      rw [this]; exact h1.1
    · have : u % 256 = u % 128 + 128 := by omega
      rw [this]; exact h1.2
  rw [e] at h; exact h
theorem wrap_u8 (u : Nat) : IntKind.u8.wrap (u : Int) = ((u % 256 : Nat) : Int) := by rw [IntKind.wrap_u8']; omega

theorem code_neg {n : Int} (h : n < 0) (h1 : -9223372036854775808 ≤ n) : bits .xor .u64 IntKind.u64.max (IntKind.u64.wrap (IntKind.u64.wrap n * 2)) = ((codeN n : Nat) : Int) := by
  have e1 : IntKind.u64.wrap n = n + 18446744073709551616 := by rw [IntKind.wrap_u64]; omega
  have e2 : IntKind.u64.wrap ((n + 18446744073709551616) * 2) = ((2 * n + 18446744073709551616).toNat : Int) := by rw [IntKind.wrap_u64]; omega
  have e3 : IntKind.u64.max = ((18446744073709551615 : Nat) : Int) := by decide
  rw [e1, e2, e3, u64_xor_nat _ _ (by omega) (by omega)]
  have e4 : codeN n = (-2 * n - 1).toNat := if_pos h
  have e5 : ∀ x : Nat, x < 18446744073709551616 → 18446744073709551615 ^^^ x = 18446744073709551615 - x := by
    intro x hx
    rw [show (18446744073709551615 : Nat) = 2 ^ 64 - 1 from rfl]
    apply Nat.eq_of_testBit_eq
    intro i
    rw [Nat.testBit_xor, Nat.testBit_two_pow_sub_one, show 2 ^ 64 - 1 - x = 2 ^ 64 - (x + 1) by omega, Nat.testBit_two_pow_sub_succ (by omega)]
    rcases Nat.lt_or_ge i 64 with hi | hi
    · rw [decide_eq_true hi]; cases x.testBit i <;> rfl
    · have hp : 2 ^ 64 ≤ 2 ^ i := Nat.pow_le_pow_right (by decide) hi
      have hx2 : x < 2 ^ i := Nat.lt_of_lt_of_le hx hp
      rw [decide_eq_false (by omega), Nat.testBit_lt_two_pow hx2]; rfl
  rw [e5 _ (by omega), e4]; omega
/-- The rounds that write the groups of a code. -/
def Wr (B : Nat) (w : World) (l : List UInt8) (n : Int) (v c : Value) (wr : World) : Prop :=
  ∃ (u : Nat) (l' : List UInt8), c = .int .u64 (u : Int) ∧ u < 18446744073709551616 ∧ l' ++ enc u = l ++ encI n ∧ Grw B wr v l' ∧ Below B w wr
set_option maxHeartbeats 1600000 in
theorem wire_appendInt (B : Nat) (v : Value) (l : List UInt8) (n : Int) (w : World) (hn : isI n) (hg : Grw B w v l) (hB : B ≤ w.heap.size) (hl : l.length ≤ 100000) :
    Calls Tryd.prog 34 #[v, .int .i64 n] w fun e w' => ∃ v', e = .returned v' ∧ OwnY B w' v' (l ++ encI n) ∧ Below B w w' := by
  obtain ⟨h1, h2⟩ := hn
  have HN := Lib.hid hg
  clear hg
  have hu := code_lt (n := n) ⟨h1, h2⟩
  obtain ⟨C, hC⟩ : ∃ C, codeN n = C := ⟨_, rfl⟩
  rw [hC] at hu
  have HE := Lib.hid (show encI n = enc C by unfold encI; rw [hC])
  have HL : Hid ((encI n).length ≤ 10) := encI_ten (n := n) ⟨h1, h2⟩
  go_enter Tryd.func34, Tryd.ntmps34
  rcases Int.lt_or_le n 0 with h | h
  · have hs : IntKind.u64.signed = false := rfl
    have hX : bits .xor .u64 IntKind.u64.max (IntKind.u64.wrap (IntKind.u64.wrap n * 2)) = (C : Int) := by
      rw [← hC, code_neg h h1]
    clear hC
    go_wp2_with fail
    go_loopw [0, 5] (Wr B w l n) (fun _ c _ => (intOf c).toNat)
    case atStart => exact ⟨C, l, rfl, hu, by rw [HE.out], HN.out, Below.refl _ _⟩
    case round =>
      obtain ⟨u, l', rfl, hu', he, hg', hb'⟩ := hrel
      have hlen : l'.length ≤ 100010 := by
        have h1 := congrArg List.length he
        have h2 := HL.out
        simp only [List.length_append] at h1; omega
      have HG := Lib.hid hg'
      have HB := Lib.hid hb'
      have HEQ := Lib.hid he
      have HBR : Hid (B ≤ wr.heap.size) := Nat.le_trans hB hb'.size
      have hwu := wrap_u8 u
      clear hg' hb' he
      rcases Nat.lt_or_ge u 128 with hc | hc
      · have hd2 : decide ((128 : Int) ≤ (u : Int)) = false := decide_eq_false (by omega)
        have hu8 : IntKind.u8.wrap (u : Int) = (u : Int) := by rw [hwu]; omega
        have HU := Lib.hid (enc_one hc)
        have HT : Hid ((u : Int) = ((UInt8.ofNat u).toNat : Int)) := show _ = _ by rw [byte_of (by omega)]
        clear hwu
        go_wp2_with (at_builtin; refine append_grw rfl _ _ rfl B u0 l' rfl (HG.out.on (below_alloc _ _)) (some ⟨wr.heap.size, 0, none⟩) 1 [UInt8.ofNat u] 1 rfl rfl (byt_one _ _ _ _ HT.out rfl) (by simp) (by simp; omega) (Nat.le_trans HBR.out (below_alloc _ _).size) ?_; intro v2 w2 hown2 hb2; refine Hid.out ?_)
        refine Lib.hid ?_
        have HO2 := Lib.hid hown2
        have HB2 := Lib.hid hb2
        clear hown2 hb2
        go_wp2_with fail
        go_ret
        exact ⟨v2, rfl, by rw [← HEQ.out, HU.out]; exact HO2.out, HB.out.trans (((below_alloc _ _).mono HBR.out).trans HB2.out)⟩
      · have hd2 : (128 : Int) ≤ (u : Int) := by omega
        obtain ⟨y, hy⟩ : ∃ y, y = ((u % 256 : Nat) : Int) := ⟨_, rfl⟩
        obtain ⟨z, hz⟩ : ∃ z, z = ((u % 128 + 128 : Nat) : Int) := ⟨_, rfl⟩
        have hor : bits .or .u8 y 128 = z := by rw [hy, hz]; exact or_more u
        rw [← hy] at hwu
        have HU := Lib.hid (enc_more hc)
        have HT : Hid (z = ((UInt8.ofNat (u % 128 + 128)).toNat : Int)) := show _ = _ by rw [byte_of (by omega), hz]
        clear hy hz
        go_wp2_with (at_builtin; refine append_grw rfl _ _ rfl B u0 l' rfl (HG.out.on (below_alloc _ _)) (some ⟨wr.heap.size, 0, none⟩) 1 [UInt8.ofNat (u % 128 + 128)] 1 rfl rfl (byt_one _ _ _ _ HT.out rfl) (by simp) (by simp; omega) (Nat.le_trans HBR.out (below_alloc _ _).size) ?_; intro v2 w2 hown2 hb2; refine Hid.out ?_)
        refine Lib.hid ?_
        have HO2 := Lib.hid hown2
        have HB2 := Lib.hid hb2
        clear hown2 hb2
        go_wp2_with fail
        go_roundw
        case rel => exact ⟨u / 128, l' ++ [UInt8.ofNat (u % 128 + 128)], by go_num, by omega, by rw [List.append_assoc, List.singleton_append, ← HU.out]; exact HEQ.out, Or.inr HO2.out, HB.out.trans (((below_alloc _ _).mono HBR.out).trans HB2.out)⟩
        case measure => simp [intOf]; omega
  · have hd : decide (n < 0) = false := decide_eq_false (by omega)
    have HC := Lib.hid (show n * 2 = (C : Int) by rw [← hC]; unfold codeN; rw [if_neg (by omega)]; omega)
    clear hC
    go_wp2_with fail
    go_loopw [0, 5] (Wr B w l n) (fun _ c _ => (intOf c).toNat)
    case atStart => exact ⟨C, l, by rw [HC.out], hu, by rw [HE.out], HN.out, Below.refl _ _⟩
    case round =>
      obtain ⟨u, l', rfl, hu', he, hg', hb'⟩ := hrel
      have hlen : l'.length ≤ 100010 := by
        have h1 := congrArg List.length he
        have h2 := HL.out
        simp only [List.length_append] at h1; omega
      have HG := Lib.hid hg'
      have HB := Lib.hid hb'
      have HEQ := Lib.hid he
      have HBR : Hid (B ≤ wr.heap.size) := Nat.le_trans hB hb'.size
      have hwu := wrap_u8 u
      clear hg' hb' he
      rcases Nat.lt_or_ge u 128 with hc | hc
      · have hd2 : decide ((128 : Int) ≤ (u : Int)) = false := decide_eq_false (by omega)
        have hu8 : IntKind.u8.wrap (u : Int) = (u : Int) := by rw [hwu]; omega
        have HU := Lib.hid (enc_one hc)
        have HT : Hid ((u : Int) = ((UInt8.ofNat u).toNat : Int)) := show _ = _ by rw [byte_of (by omega)]
        clear hwu
        go_wp2_with (at_builtin; refine append_grw rfl _ _ rfl B u0 l' rfl (HG.out.on (below_alloc _ _)) (some ⟨wr.heap.size, 0, none⟩) 1 [UInt8.ofNat u] 1 rfl rfl (byt_one _ _ _ _ HT.out rfl) (by simp) (by simp; omega) (Nat.le_trans HBR.out (below_alloc _ _).size) ?_; intro v2 w2 hown2 hb2; refine Hid.out ?_)
        refine Lib.hid ?_
        have HO2 := Lib.hid hown2
        have HB2 := Lib.hid hb2
        clear hown2 hb2
        go_wp2_with fail
        go_ret
        exact ⟨v2, rfl, by rw [← HEQ.out, HU.out]; exact HO2.out, HB.out.trans (((below_alloc _ _).mono HBR.out).trans HB2.out)⟩
      · have hd2 : (128 : Int) ≤ (u : Int) := by omega
        obtain ⟨y, hy⟩ : ∃ y, y = ((u % 256 : Nat) : Int) := ⟨_, rfl⟩
        obtain ⟨z, hz⟩ : ∃ z, z = ((u % 128 + 128 : Nat) : Int) := ⟨_, rfl⟩
        have hor : bits .or .u8 y 128 = z := by rw [hy, hz]; exact or_more u
        rw [← hy] at hwu
        have HU := Lib.hid (enc_more hc)
        have HT : Hid (z = ((UInt8.ofNat (u % 128 + 128)).toNat : Int)) := show _ = _ by rw [byte_of (by omega), hz]
        clear hy hz
        go_wp2_with (at_builtin; refine append_grw rfl _ _ rfl B u0 l' rfl (HG.out.on (below_alloc _ _)) (some ⟨wr.heap.size, 0, none⟩) 1 [UInt8.ofNat (u % 128 + 128)] 1 rfl rfl (byt_one _ _ _ _ HT.out rfl) (by simp) (by simp; omega) (Nat.le_trans HBR.out (below_alloc _ _).size) ?_; intro v2 w2 hown2 hb2; refine Hid.out ?_)
        refine Lib.hid ?_
        have HO2 := Lib.hid hown2
        have HB2 := Lib.hid hb2
        clear hown2 hb2
        go_wp2_with fail
        go_roundw
        case rel => exact ⟨u / 128, l' ++ [UInt8.ofNat (u % 128 + 128)], by go_num, by omega, by rw [List.append_assoc, List.singleton_append, ← HU.out]; exact HEQ.out, Or.inr HO2.out, HB.out.trans (((below_alloc _ _).mono HBR.out).trans HB2.out)⟩
        case measure => simp [intOf]; omega

/-- What the writers return: a slice of the call's own. -/
def Puts (w : World) (l : List UInt8) (e : Ending) (w' : World) : Prop := ∃ v, e = .returned v ∧ OwnY w.heap.size w' v l ∧ Below w.heap.size w w'
/-! ### The reference -/
/-- The rounds of the reference. -/
def Rr (B : Nat) (w : World) (l : List UInt8) (n : Int) (v c : Value) (wr : World) : Prop :=
  ∃ (u : Nat) (l' : List UInt8), c = .int .u64 (u : Int) ∧ u < 18446744073709551616 ∧ l' ++ enc u = l ++ encI n ∧ OwnY B wr v l' ∧ Below B w wr
set_option maxHeartbeats 1600000 in
theorem ref_PutInt (v : Value) (l : List UInt8) (n : Int) (w : World) (hn : isI n) (hv : InY w v l) (hl : l.length ≤ 100000) :
    Calls Tryd.prog 28 #[v, .int .i64 n] w (Puts w (l ++ encI n)) := by
  obtain ⟨A, c, rfl, hc, _, hb⟩ := hv
  have HV := Lib.hid hb
  clear hb
  have hu := code_lt hn
  have HI := Lib.hid hn
  have HL : Hid ((encI n).length ≤ 10) := encI_ten hn
  go_enter Tryd.func28, Tryd.ntmps28
  go_wp2_with (at_builtin; refine append_own rfl _ _ rfl w.heap.size (.slice (some ⟨w.heap.size, 0, none⟩) 0 0) [] rfl (OwnY.empty w) A c l l.length rfl rfl (HV.out.on (below_alloc _ _)) (by simp; omega) (below_alloc _ _).size ?_; intro v1 w1 hown1 hb1; refine Hid.out ?_)
  refine Lib.hid ?_
  have HO1 := Lib.hid hown1
  have HB1 := Lib.hid ((below_alloc w (.cells #[] 5)).trans hb1)
  clear hown1 hb1
  go_wp2_with fail
  refine (ref_code n _ HI.out).mono ?_
  rintro e w2 ⟨rfl, rfl⟩
  obtain ⟨C, hC⟩ : ∃ C, codeN n = C := ⟨_, rfl⟩
  rw [hC] at hu ⊢
  have HE := Lib.hid (show encI n = enc C by unfold encI; rw [hC])
  clear hC hn
  go_wp2_with fail
  go_loopw [5, 6] (Rr w.heap.size w l n) (fun _ c _ => (intOf c).toNat)
  case atStart => exact ⟨C, l, rfl, hu, by rw [HE.out], by simpa using HO1.out, HB1.out⟩
  case round =>
    obtain ⟨u, l', rfl, hu', he, hg', hb'⟩ := hrel
    have hlen : l'.length ≤ 100010 := by
      have h1 := congrArg List.length he
      have h2 := HL.out
      simp only [List.length_append] at h1; omega
    have HG := Lib.hid hg'
    have HB := Lib.hid hb'
    have HEQ := Lib.hid he
    have HBR : Hid (w.heap.size ≤ wr.heap.size) := hb'.size
    clear hg' hb' he
    rcases Nat.lt_or_ge u 128 with hc | hc
    · have hd2 : decide ((128 : Int) ≤ (u : Int)) = false := decide_eq_false (by omega)
      have hu8 : IntKind.u8.wrap (u : Int) = (u : Int) := by rw [wrap_u8]; omega
      have HU := Lib.hid (enc_one hc)
      have HT : Hid ((u : Int) = ((UInt8.ofNat u).toNat : Int)) := show _ = _ by rw [byte_of (by omega)]
      go_wp2_with (at_builtin; refine append_grw rfl _ _ rfl w.heap.size u5 l' rfl (Or.inr (HG.out.on (below_alloc _ _))) (some ⟨wr.heap.size, 0, none⟩) 1 [UInt8.ofNat u] 1 rfl rfl (byt_one _ _ _ _ HT.out rfl) (by simp) (by simp; omega) (Nat.le_trans HBR.out (below_alloc _ _).size) ?_; intro v2 w2 hown2 hb2; refine Hid.out ?_)
      refine Lib.hid ?_
      have HO2 := Lib.hid hown2
      have HB2 := Lib.hid hb2
      clear hown2 hb2
      go_wp2_with fail
      go_ret
      exact ⟨v2, rfl, by rw [← HEQ.out, HU.out]; exact HO2.out, HB.out.trans (((below_alloc _ _).mono HBR.out).trans HB2.out)⟩
    · have hd2 : (128 : Int) ≤ (u : Int) := by omega
      obtain ⟨y, hy⟩ : ∃ y, y = (u : Int) % 128 := ⟨_, rfl⟩
      have hy0 : 0 ≤ y := by omega
      have hy1 : y < 128 := by omega
      have hmod : (u : Int) % 128 = y := hy.symm
      have HU := Lib.hid (enc_more hc)
      have HT : Hid (y + 128 = ((UInt8.ofNat (u % 128 + 128)).toNat : Int)) := show _ = _ by rw [byte_of (by omega), hy]; omega
      clear hy
      go_wp2_with (at_builtin; refine append_grw rfl _ _ rfl w.heap.size u5 l' rfl (Or.inr (HG.out.on (below_alloc _ _))) (some ⟨wr.heap.size, 0, none⟩) 1 [UInt8.ofNat (u % 128 + 128)] 1 rfl rfl (byt_one _ _ _ _ HT.out rfl) (by simp) (by simp; omega) (Nat.le_trans HBR.out (below_alloc _ _).size) ?_; intro v2 w2 hown2 hb2; refine Hid.out ?_)
      refine Lib.hid ?_
      have HO2 := Lib.hid hown2
      have HB2 := Lib.hid hb2
      clear hown2 hb2
      go_wp2_with fail
      go_roundw
      case rel => exact ⟨u / 128, l' ++ [UInt8.ofNat (u % 128 + 128)], by go_num, by omega, by rw [List.append_assoc, List.singleton_append, ← HU.out]; exact HEQ.out, HO2.out, HB.out.trans (((below_alloc _ _).mono HBR.out).trans HB2.out)⟩
      case measure => simp [intOf]; omega
#print axioms ref_PutInt
end Go.Proofs.YtahgkohnamnljaaDoor.Wire
