/- Back of the reference; Slip of both. -/
import Derived.Test.YtkbnhmgladkojaaAlignK
namespace Go.Proofs.Ytkbnhmgladkojaa.Align
open Go.ChangeShapes Go.WideShapes Go.RowKit Go.Lib Go.Proofs.Ytkbnhmgladkojaa.Rw
set_option linter.unusedVariables false
set_option maxRecDepth 100000

/-- Forward reaches b from Back on. -/
theorem back_iff {L : List Mk} (hz : chkA L = 0) {m q : Mk} {N : Nat} (h : Ac L m q N) {b : Int} (h0 : m.2 ≤ b) (h1 : b ≤ q.2) : (m.1 ≤ valB L b ∧ valB L b ≤ q.1) ∧ ∀ a, m.1 ≤ a → (b ≤ valA L a ↔ valB L b ≤ a) := by
  obtain ⟨m', r, rfl, hv⟩ := Va.of hz
  obtain rfl : m' = m := h.fs
  obtain rfl : end_ m' r = q := h.la
  have hb := bck_is r m' hv.gro h0 h1
  refine ⟨⟨hb.1, hb.2.1⟩, fun a ha => ⟨fun hx => ?_, fun hx => ?_⟩⟩
  · rcases Int.lt_or_le a (bck m' r b) with hc | hc
    · have := hb.2.2.2 a ha hc
      have e : valA (m' :: r) a = fwd m' r a := rfl
      omega
    · exact hc
  · have h2 := (fwd_mono hv.gro hb.1 (show bck m' r b ≤ a from hx)).1
    have h3 := hb.2.2.1
    show b ≤ fwd m' r a
    omega

set_option maxHeartbeats 3200000 in
theorem ref_Back (L : List Mk) (A : Option Addr) (c : Nat) (a : Int) (w : World) (ha : Mks w A L) (hm : L.length ≤ 9223372036854775807) :
    Calls Try.prog 18 #[.slice A L.length c, .int .i64 a] w fun e w' => e = .returned (.tuple #[.int .i64 (bckV L a), .int .i64 (bckE L a)]) ∧ Below w.heap.size w w' := by
  have HA := Lib.hid ha
  have HF := Lib.hid fun (x : Int) (W : World) (h : Mks W A L) => ref_Forward L A c x W h hm
  clear ha
  obtain ⟨V, hV⟩ : ∃ V, bckV L a = V := ⟨_, rfl⟩
  obtain ⟨E, hE⟩ : ∃ E, bckE L a = E := ⟨_, rfl⟩
  rw [hV, hE]
  have HV := Lib.hid hV
  have HE := Lib.hid hE
  clear hV hE
  go_enter Try.func18, Try.ntmps18
  go_wp2_with fail
  refine (ref_Check L A c w HA.out hm).mono ?_
  rintro e w1 ⟨rfl, hb1⟩
  have HB1 := Lib.hid hb1
  clear hb1
  by_cases hz : chkA L = 0
  · obtain ⟨m, q, N, hac⟩ := Ac.of hz
    have HZ := Lib.hid hz
    have HC := Lib.hid hac
    have hN := hac.len
    have h1N := hac.two
    have hNf := hac.few
    obtain ⟨b, off, rfl, hb⟩ := rd_ne (HA.out.on HB1.out) (show 0 < L.length by omega)
    obtain ⟨c0, c1⟩ := at_k (HA.out.on HB1.out) hac.fst
    obtain ⟨c2, c3⟩ := at_k (HA.out.on HB1.out) hac.lst
    rw [Nat.zero_mul, Nat.add_zero] at c0 c1
    have wN : IntKind.i64.wrap (N : Int) = (N : Int) := wrap_id (by omega)
    have i0 : (0 : Int) < (N : Int) + 1 := by omega
    have i1 : (N : Int) < (N : Int) + 1 := by omega
    rw [hz]
    clear hz
    rcases Int.lt_or_le a m.2 with h0 | h0
    · obtain ⟨e1, e2⟩ := bckE_out HZ.out hac (Or.inl h0)
      obtain rfl : E = 1 := by rw [← HE.out]; exact e1
      obtain rfl : V = 0 := by rw [← HV.out]; exact e2
      have d0 : decide (a < m.2) = true := decide_eq_true h0
      clear h0 e1 e2 hac
      go_wp2_with fail
      go_ret2
      exact ⟨rfl, HB1.out⟩
    rcases Int.lt_or_le q.2 a with h1 | h1
    · obtain ⟨e1, e2⟩ := bckE_out HZ.out hac (Or.inr h1)
      obtain rfl : E = 1 := by rw [← HE.out]; exact e1
      obtain rfl : V = 0 := by rw [← HV.out]; exact e2
      have d0 : decide (a < m.2) = false := decide_eq_false (by omega)
      have d1 : decide (q.2 < a) = true := decide_eq_true h1
      clear h0 h1 e1 e2 hac
      go_wp2_with fail
      go_ret2
      exact ⟨rfl, HB1.out⟩
    obtain ⟨e1, e2⟩ := bckE_in HZ.out hac h0 h1
    obtain rfl : E = 0 := by rw [← HE.out]; exact e1
    obtain ⟨⟨hr0, hr1⟩, hr2⟩ := back_iff HZ.out hac h0 h1
    rw [← e2, HV.out] at hr0 hr1 hr2
    have HR2 := Lib.hid hr2
    have HM := Lib.hid (show 0 ≤ m.1 ∧ q.1 ≤ 17179869184 from ⟨(hac.at_ hac.fst).1, (hac.at_ hac.lst).2.1⟩)
    have HR := Lib.hid (And.intro hr0 hr1)
    have HIn : Hid (∀ x, m.1 ≤ x → x ≤ q.1 → fwdE L x = 0 ∧ fwdV L x = valA L x) := fun x hx0 hx1 => fwdE_in HZ.out hac hx0 hx1
    have d0 : decide (a < m.2) = false := decide_eq_false (by omega)
    have d1 : decide (q.2 < a) = false := decide_eq_false (by omega)
    clear h0 h1 e1 e2 hac hr0 hr1 hr2
    go_wp2_with fail
    go_quiet (fail)
    have HB2 := Lib.hid (below_drewN HB1.out nq)
    generalize hw2 : w1.drewN nq = w2 at HB2
    clear hw2 d0 d1 c0 c1 c2 c3
    go_wp2_with fail
    go_loopw [7, 8] (fun lo hi wr => ∃ x y : Int, lo = .int .i64 x ∧ hi = .int .i64 y ∧ m.1 ≤ x ∧ x ≤ V ∧ V ≤ y ∧ y ≤ q.1 ∧ Below w.heap.size w wr) (fun lo hi _ => (RowKit.intOf hi - RowKit.intOf lo).toNat)
    case atStart => exact ⟨_, _, rfl, rfl, Int.le_refl _, HR.out.1, HR.out.2, Int.le_refl _, HB2.out⟩
    case round =>
      obtain ⟨x, y, rfl, rfl, k0, k1, k2, k3, hbel⟩ := hrel
      have HB3 := Lib.hid hbel
      clear hbel
      have HK := Lib.hid (show m.1 ≤ x ∧ x ≤ V ∧ V ≤ y ∧ y ≤ q.1 from ⟨k0, k1, k2, k3⟩)
      rcases Int.lt_or_le x y with hlt | hge
      · have d0 : decide (x < y) = true := decide_eq_true hlt
        have hm1 := HM.out.1
        have hm2 := HM.out.2
        obtain ⟨S, hS⟩ : ∃ S, x + y = S := ⟨_, rfl⟩
        obtain ⟨M, hM⟩ : ∃ M, S / 2 = M := ⟨_, rfl⟩
        have w1 : IntKind.i64.wrap S = S := wrap_id (by omega)
        have w2 : IntKind.i64.wrap M = M := wrap_id (by omega)
        have hMt : S.tdiv 2 = M := by rw [Int.tdiv_eq_ediv_of_nonneg (by omega)]; exact hM
        have w3 : IntKind.i64.wrap (M + 1) = M + 1 := wrap_id (by omega)
        obtain ⟨f1, f2⟩ := HIn.out M (by omega) (by omega)
        have HMd := Lib.hid (show x ≤ M ∧ M < y by omega)
        have HIf := Lib.hid (HR2.out M (by omega))
        have HCl := HF.out M
        rw [f1, f2, hN] at HCl
        obtain ⟨X, hX⟩ : ∃ X, valA L M = X := ⟨_, rfl⟩
        rw [hX] at HIf HCl
        replace HCl := Lib.hid HCl
        clear hlt k0 k1 k2 k3 hm1 hm2 f1 f2 hX
        go_wp2_with fail
        refine (HCl.out wr (HA.out.on HB3.out)).mono ?_
        rintro e w4 ⟨rfl, hb4⟩
        have HB4 := Lib.hid (HB3.out.trans (hb4.mono HB3.out.size))
        clear hb4
        rcases Int.lt_or_le X a with hx | hx
        · have d1 : decide (a ≤ X) = false := decide_eq_false (by omega)
          have hl : M + 1 ≤ V := by
            rcases Int.lt_or_le M V with h | h
            · omega
            · have := HIf.out.mpr h; omega
          have HL := Lib.hid hl
          clear hx hl
          go_wp2_with fail
          go_roundw
          case rel => exact ⟨M + 1, y, rfl, rfl, by have := HK.out; have := HMd.out; omega, HL.out, HK.out.2.2.1, HK.out.2.2.2, HB4.out⟩
          case measure => have := HMd.out; simp [RowKit.intOf]; omega
        · have d1 : decide (a ≤ X) = true := decide_eq_true hx
          have HL := Lib.hid (HIf.out.mp hx)
          clear hx
          go_wp2_with fail
          go_roundw
          case rel => exact ⟨x, M, rfl, rfl, HK.out.1, HK.out.2.1, HL.out, by have := HK.out; have := HMd.out; omega, HB4.out⟩
          case measure => have := HMd.out; simp [RowKit.intOf]; omega
      · obtain rfl : x = V := by omega
        have d0 : decide (x < y) = false := decide_eq_false (by omega)
        clear k0 k1 k2 k3 hge
        go_wp2_with fail
        go_ret2
        exact ⟨rfl, HB3.out⟩
  · obtain ⟨z1, z2⟩ := ne_tests hz
    obtain ⟨e1, e2⟩ := bckE_bad hz a
    obtain rfl : chkA L = E := by rw [← HE.out]; exact e1.symm
    obtain rfl : V = 0 := by rw [← HV.out]; exact e2
    clear hz e1 e2
    go_wp2_with fail
    go_ret2
    exact ⟨rfl, HB1.out⟩
#print axioms ref_Back
end Go.Proofs.Ytkbnhmgladkojaa.Align
