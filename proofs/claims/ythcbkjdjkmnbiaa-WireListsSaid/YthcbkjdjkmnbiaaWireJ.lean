/- Walks of WireInts, WireTexts, WireLists, WirePuts. -/
import Derived.Test.YthcbkjdjkmnbiaaWireI
import Derived.Test.YthcbkjdjkmnbiaaLawKit
namespace Go.Proofs.Ythcbkjdjkmnbiaa.Wire
open Go.ChangeShapes Go.WideShapes Go.RowKit
set_option linter.unusedVariables false
set_option maxRecDepth 100000

/-! ### What comes in -/
theorem wf_isI {n : Int} (h : (Lit.int .i64 n).wf = true) : isI n := by
  simpa [isI, Lit.wf, IntKind.min, IntKind.max, IntKind.signed, IntKind.bits] using h
theorem wf_byte {n : Int} (h : (Lit.int .u8 n).wf = true) : 0 ≤ n ∧ n ≤ 255 := by
  simpa [Lit.wf, IntKind.min, IntKind.max, IntKind.signed, IntKind.bits] using h
theorem in_y {w : World} {A : Option Addr} {n c : Nat} {zs : List Int} (h : InInts .u8 w A n c zs) : ∃ l : List UInt8, n = l.length ∧ InY w (.slice A l.length c) l := by
  obtain ⟨rfl, h1, h2, h3, h4⟩ := h
  refine ⟨zs.map fun z => UInt8.ofNat z.toNat, by simp, A, c, rfl, by simpa using h1, h2, fun k b hb => ?_⟩
  rw [List.getElem?_map] at hb
  cases hz : zs[k]? with
  | none => rw [hz] at hb; cases hb
  | some z =>
    rw [hz] at hb
    simp only [Option.map_some, Option.some.injEq] at hb
    obtain ⟨g, off, e, hlt, hc⟩ := h4 k z hz
    have hw := wf_byte (h3 z (List.mem_of_getElem? hz))
    refine ⟨g, off, e, hlt, ?_⟩
    rw [hc, ← hb, byte_of (by omega), Int.toNat_of_nonneg hw.1]
theorem in_i {w : World} {A : Option Addr} {n c : Nat} {zs : List Int} (h : InInts .i64 w A n c zs) : n = zs.length ∧ InI w (.slice A zs.length c) zs ∧ allI zs := by
  obtain ⟨rfl, h1, h2, h3, h4⟩ := h
  exact ⟨rfl, ⟨A, c, rfl, h1, h2, h4⟩, fun z hz => wf_isI (h3 z hz)⟩
theorem InY.small {w : World} {A : Option Addr} {n c : Nat} {l : List UInt8} (h : InY w (.slice A n c) l) : l.length ≤ 9223372036854775807 := by
  obtain ⟨_, _, _, h1, h2, _⟩ := h
  unfold maxLen at h2; omega
theorem items_err (b : List UInt8) : ∀ (n k : Nat) (acc : List Int), ¬ (items b n k acc).e = 0 → (items b n k acc).l = [] := by
  intro n
  induction n with
  | zero => intro k acc h; exact absurd rfl h
  | succ n ih =>
    intro k acc h
    rw [items] at h ⊢
    by_cases h1 : (takeI (b.drop k)).e = 0
    · rw [if_pos h1] at h ⊢; exact ih _ _ h
    · rw [if_neg h1]
theorem takeL_len (b : List UInt8) (most : Int) : (takeL b most).l.length ≤ b.length := by
  by_cases h : (takeL b most).e = 0
  · obtain ⟨h1, h2, h3, h4, _⟩ := takeL_ok h
    have h5 := congrArg List.length h4
    have h6 := encs_ge (takeL b most).l
    unfold encL at h5
    rw [List.length_take, List.length_append] at h5
    omega
  · have : (takeL b most).l = [] := by
      rw [takeL_def] at h ⊢
      by_cases h1 : (lenR b most).e = 0
      · rw [if_pos h1] at h ⊢; exact items_err _ _ _ _ h
      · rw [if_neg h1]
    rw [this]; exact Nat.zero_le _

/-! ### The laws -/
theorem walk_WireInts (w : World) (A : Option Addr) (n c : Nat) (zs : List Int) (h : InInts .u8 w A n c zs) :
    Calls Try.prog 4 #[.slice A n c] w fun e w' => e = .returned (.bool true) ∧ Below w.heap.size w w' := by
  obtain ⟨l, rfl, hy⟩ := in_y h
  have hs := hy.small
  have HY := Lib.hid hy
  clear h hy
  rcases Nat.lt_or_ge 600 l.length with hb | hb
  · have hb1 : (600 : Int) < (l.length : Int) := by omega
    go_enter Try.func4, Try.ntmps4
    go_wp2_with fail
    refine (awake_true w).mono ?_
    rintro e w1 ⟨rfl, hb2⟩
    have HB := Lib.hid hb2
    clear hb2
    go_wp2_with fail
    go_ret
    exact ⟨rfl, HB.out⟩
  · have hb1 : decide ((600 : Int) < (l.length : Int)) = false := decide_eq_false (by omega)
    have H1 := Lib.hid (wire_TakeInt _ l w HY.out (by omega))
    have H2 := Lib.hid (ref_TakeInt _ l w HY.out (by omega))
    obtain ⟨t, ht⟩ : ∃ t, takeI l = t := ⟨_, rfl⟩
    rw [ht] at H1 H2
    obtain ⟨x, k, e⟩ := t
    clear ht
    go_enter Try.func4, Try.ntmps4
    go_wp2_with fail
    refine H1.out.mono ?_
    rintro e1 w1 ⟨rfl, rfl⟩
    go_wp2_with fail
    refine H2.out.mono ?_
    rintro e1 w1 ⟨rfl, rfl⟩
    go_wp2_with fail
    refine (awake_true w).mono ?_
    rintro e1 w1 ⟨rfl, hb2⟩
    have HB := Lib.hid hb2
    clear hb2
    go_wp2_with fail
    go_ret
    exact ⟨rfl, HB.out⟩
theorem walk_WireTexts (w : World) (A : Option Addr) (n c : Nat) (zs : List Int) (h : InInts .u8 w A n c zs) (most : Int) :
    Calls Try.prog 5 #[.slice A n c, .int .i64 most] w fun e w' => e = .returned (.bool true) ∧ Below w.heap.size w w' := by
  obtain ⟨l, rfl, hy⟩ := in_y h
  have hs := hy.small
  have HY := Lib.hid hy
  clear h hy
  rcases Nat.lt_or_ge 600 l.length with hb | hb
  · have hb1 : (600 : Int) < (l.length : Int) := by omega
    go_enter Try.func5, Try.ntmps5
    go_wp2_with fail
    refine (awake_true w).mono ?_
    rintro e w1 ⟨rfl, hb2⟩
    have HB := Lib.hid hb2
    clear hb2
    go_wp2_with fail
    go_ret
    exact ⟨rfl, HB.out⟩
  · have hb1 : decide ((600 : Int) < (l.length : Int)) = false := decide_eq_false (by omega)
    have H1 := Lib.hid (wire_TakeText _ l most w HY.out (by omega))
    have H2 := Lib.hid (ref_TakeText _ l most w HY.out (by omega))
    obtain ⟨t, ht⟩ : ∃ t, takeT l most = t := ⟨_, rfl⟩
    rw [ht] at H1 H2
    obtain ⟨x, k, e⟩ := t
    obtain ⟨s, hsx⟩ : ∃ s, bs x = s := ⟨_, rfl⟩
    unfold SRes at H1 H2
    simp only at H1 H2
    rw [hsx] at H1 H2
    clear ht hsx
    go_enter Try.func5, Try.ntmps5
    go_wp2_with fail
    refine H1.out.mono ?_
    rintro e1 w1 ⟨rfl, rfl⟩
    go_wp2_with fail
    refine H2.out.mono ?_
    rintro e1 w1 ⟨rfl, rfl⟩
    go_wp2_with fail
    refine (awake_true w).mono ?_
    rintro e1 w1 ⟨rfl, hb2⟩
    have HB := Lib.hid hb2
    clear hb2
    go_wp2_with fail
    go_ret
    exact ⟨rfl, HB.out⟩
theorem walk_WireLists (w : World) (A : Option Addr) (n c : Nat) (zs : List Int) (h : InInts .u8 w A n c zs) (most : Int) :
    Calls Try.prog 6 #[.slice A n c, .int .i64 most] w fun e w' => e = .returned (.bool true) ∧ Below w.heap.size w w' := by
  obtain ⟨l, rfl, hy⟩ := in_y h
  have hs := hy.small
  have HY := Lib.hid hy
  clear h hy
  rcases Nat.lt_or_ge 600 l.length with hb | hb
  · have hb1 : (600 : Int) < (l.length : Int) := by omega
    go_enter Try.func6, Try.ntmps6
    go_wp2_with fail
    refine (awake_true w).mono ?_
    rintro e w1 ⟨rfl, hb2⟩
    have HB := Lib.hid hb2
    clear hb2
    go_wp2_with fail
    go_ret
    exact ⟨rfl, HB.out⟩
  · have hb1 : decide ((600 : Int) < (l.length : Int)) = false := decide_eq_false (by omega)
    have H1 := Lib.hid (fun W hW => wire_TakeList _ l most W (HY.out.on hW) (by omega))
    have H2 := Lib.hid (fun W hW => ref_TakeList _ l most W (HY.out.on hW) (by omega))
    have HL := Lib.hid (takeL_len l most)
    obtain ⟨t, ht⟩ : ∃ t, takeL l most = t := ⟨_, rfl⟩
    rw [ht] at H1 H2 HL
    obtain ⟨x, k, e⟩ := t
    clear ht
    go_enter Try.func6, Try.ntmps6
    go_wp2_with fail
    refine (H1.out w (Below.refl _ _)).mono ?_
    rintro e1 w1 ⟨v1, rfl, ho1, hb1⟩
    have HO1 := Lib.hid ho1.inI
    have HB1 := Lib.hid hb1
    clear ho1 hb1
    go_wp2_with fail
    refine (H2.out w1 HB1.out).mono ?_
    rintro e1 w2 ⟨v2, rfl, ho2, hb2⟩
    have HO2 := Lib.hid ho2.inI
    have HO1' := Lib.hid (HO1.out.on hb2)
    have HB2 := Lib.hid (bstep HB1.out hb2)
    have HS : Hid (x.length ≤ 10000000) := Nat.le_trans HL.out (by omega)
    clear ho2 hb2 HO1 HB1
    go_wp2_with fail
    refine (ref_Ints v1 v2 x x w2 HO1'.out HO2.out HS.out HS.out).mono ?_
    rw [decide_eq_true rfl]
    rintro e1 w3 ⟨rfl, hb3⟩
    have HB3 := Lib.hid (bstep HB2.out hb3)
    clear hb3
    go_wp2_with fail
    refine (awake_true w3).mono ?_
    rintro e1 w4 ⟨rfl, hb4⟩
    have HB4 := Lib.hid (bstep HB3.out hb4)
    clear hb4
    go_wp2_with fail
    go_ret
    exact ⟨rfl, HB4.out⟩
#print axioms walk_WireInts
#print axioms walk_WireTexts
#print axioms walk_WireLists
end Go.Proofs.Ythcbkjdjkmnbiaa.Wire
