/- FibreSums: Add in either order, and the totals. -/
import Derived.Test.YtgomokdklajlcaaPk16
namespace Go.Proofs.Ytgomokdklajlcaa.Fibre
open Go.ChangeShapes Go.WideShapes Go.RowKit Go.Lib
open Go.Proofs.Ytgomokdklajlcaa.Mem (Cl eI Own)
open Go.Proofs.Ytgomokdklajlcaa.Rw (Rd glt get_lt wrap_id bstep)
open Go.Proofs.Ytgomokdklajlcaa.Share (sumK sumK_succ sumK_zero)
set_option linter.unusedVariables false
set_option maxRecDepth 100000

theorem totE_two {a b : List Int} (h : a.length = b.length) : (totE a = 17 ∧ totE b = 17) ∨ ((totE a = 0 ∨ totE a = 1) ∧ (totE b = 0 ∨ totE b = 1)) := by
  have e : lenI a = lenI b := by unfold lenI; rw [h]
  have k : kiB a (lenI a) = kiB b (lenI b) := by unfold kiB lenI; rw [h]
  unfold totE parE lisE
  rw [k]
  cases kiB b (lenI b) with
  | false => exact Or.inl ⟨rfl, rfl⟩
  | true =>
    rw [if_pos rfl, if_pos rfl]
    refine Or.inr ⟨?_, ?_⟩
    · split
      · exact Or.inl rfl
      · exact Or.inr rfl
    · split
      · exact Or.inl rfl
      · exact Or.inr rfl
theorem addE_comm (a b : List Int) : addE a b = addE b a := by
  by_cases h : a.length = b.length
  · unfold addE
    rw [if_pos h, if_pos h.symm, addZ_comm a b]
    rcases totE_two h with ⟨h1, h2⟩ | ⟨h1 | h1, h2 | h2⟩ <;> rw [h1, h2] <;> simp
  · unfold addE
    rw [if_neg h, if_neg fun k => h k.symm]
theorem addL_comm (a b : List Int) : addL a b = addL b a := by
  unfold addL
  rw [addE_comm a b, addZ_comm a b]
theorem sumK_addZ {a b : List Int} (h : a.length = b.length) : ∀ k, k ≤ a.length → sumK (addZ a b) k = sumK a k + sumK b k
  | 0, _ => rfl
  | k + 1, hk => by
    obtain ⟨x, hx⟩ := get_lt (L := a) (k := k) (by omega)
    obtain ⟨y, hy⟩ := get_lt (L := b) (k := k) (by omega)
    rw [sumK_succ (addZ_at hx hy), sumK_succ hx, sumK_succ hy, sumK_addZ h k (by omega)]
    omega
theorem addOk {a b : List Int} (h : addE a b = 0) : totE a = 0 ∧ totE b = 0 ∧ totE (addL a b) = 0 ∧ totV (addL a b) = totV a + totV b ∧ (0 ≤ totV a ∧ totV a ≤ 8796093022208) ∧ (0 ≤ totV b ∧ totV b ≤ 8796093022208) ∧ (addL a b).length = a.length := by
  have hM : MM = 1099511627776 := rfl
  obtain ⟨h1, h2, h3, h4⟩ := addE_of h
  have e : addL a b = addZ a b := if_pos h
  rw [e]
  have la := addZ_len h1
  obtain ⟨a1, a2, -, a3⟩ := lisE_of (show lisE a (lenI a) MM = 0 from h2)
  obtain ⟨b1, b2, -, b3⟩ := lisE_of (show lisE b (lenI b) MM = 0 from h3)
  have h5 : totE (addZ a b) = 0 := lisE_mk (by unfold lenI; omega) (by unfold lenI; omega) rfl fun z hz => by
    obtain ⟨k, hk⟩ := List.mem_iff_getElem?.mp hz
    obtain ⟨x, y, hx, hy, rfl⟩ := addZ_get hk
    have := a3 x (List.mem_of_getElem? hx)
    have := b3 y (List.mem_of_getElem? hy)
    have := h4 _ hz
    omega
  have va : totV a = sumZ a := if_pos h2
  have vb : totV b = sumZ b := if_pos h3
  have vz : totV (addZ a b) = sumZ (addZ a b) := if_pos h5
  have sa := sumZ_lim (by decide) a3 a2
  have sb := sumZ_lim (by decide) b3 b2
  refine ⟨h2, h3, h5, ?_, by rw [va]; omega, by rw [vb]; omega, la⟩
  rw [va, vb, vz]
  unfold sumZ
  rw [la, sumK_addZ h1 _ (Nat.le_refl _), h1]
set_option maxHeartbeats 6400000 in
theorem walk_FibreSums (w : World) (A : Option Addr) (n c : Nat) (L : List Int) (h : InInts .i64 w A n c L) (B : Option Addr) (m d : Nat) (M : List Int) (k : InInts .i64 w B m d M) :
    Calls Try.prog 10 #[.slice A n c, .slice B m d] w fun e w' => e = .returned (.bool true) ∧ Below w.heap.size w w' := by
  obtain ⟨hcl, hn, hm⟩ := in_cl h
  have HL := Lib.hid hcl
  have Hn := Lib.hid hn
  have Mn := Lib.hid hm
  clear hcl hn h
  clear hm
  obtain ⟨hcl, hn, hm⟩ := in_cl k
  have HK := Lib.hid hcl
  have Hm := Lib.hid hn
  have Mm := Lib.hid hm
  clear hcl hn k
  clear hm
  have KGn := Lib.hid fun W => law_great A n c W Mn.out
  have KGm := Lib.hid fun W => law_great B m d W Mm.out
  by_cases hgn : 60 < n
  · rw [decide_eq_true hgn] at KGn
    clear hgn
    go_enter Try.func10, Try.ntmps10
    go_wp2_with fail
    refine (KGn.out w).mono ?_
    rintro e w1_ ⟨rfl, hb⟩
    have B1 := Lib.hid hb
    clear hb
    go_wp2_with fail
    refine (law_awake w1_).mono ?_
    rintro e w2_ ⟨rfl, hb⟩
    have B2 := Lib.hid (bstep B1.out hb)
    clear hb
    go_wp2_with fail
    go_ret
    exact ⟨rfl, B2.out⟩
  rw [decide_eq_false hgn] at KGn
  by_cases hgm : 60 < m
  · rw [decide_eq_true hgm] at KGm
    clear hgm hgn
    go_enter Try.func10, Try.ntmps10
    go_wp2_with fail
    refine (KGn.out w).mono ?_
    rintro e w1_ ⟨rfl, hb⟩
    have B1 := Lib.hid hb
    clear hb
    go_wp2_with fail
    refine (KGm.out w1_).mono ?_
    rintro e w2_ ⟨rfl, hb⟩
    have B2 := Lib.hid (bstep B1.out hb)
    clear hb
    go_wp2_with fail
    refine (law_awake w2_).mono ?_
    rintro e w3_ ⟨rfl, hb⟩
    have B3 := Lib.hid (bstep B2.out hb)
    clear hb
    go_wp2_with fail
    go_ret
    exact ⟨rfl, B3.out⟩
  rw [decide_eq_false hgm] at KGm
  have K1 := Lib.hid fun (W : World) (h : Cl eI W A L) (k : Cl eI W B M) => fibre_Add L M A B n m c d Hn.out Hm.out W h k (by omega) (by omega)
  have K2 := Lib.hid fun (W : World) (h : Cl eI W A L) (k : Cl eI W B M) => fibre_Add M L B A m n d c Hm.out Hn.out W k h (by omega) (by omega)
  rw [addE_comm M L, addL_comm M L] at K2
  obtain ⟨T, hT⟩ : ∃ T, addL L M = T := ⟨_, rfl⟩
  obtain ⟨t, ht⟩ : ∃ t, t = T.length := ⟨_, rfl⟩
  have Ht := Lib.hid ht
  by_cases hE : addE L M = 0
  rotate_left
  · obtain ⟨z1, z2⟩ := ne_zero hE
    have hT2 : addL L M = [] := if_neg hE
    obtain ⟨E, hE2⟩ : ∃ E, addE L M = E := ⟨_, rfl⟩
    rw [hE2] at z1 z2
    rw [hE2, hT] at K1 K2
    have t0 : ((t : Int) == 0) = true := by rw [ht, ← hT, hT2]; rfl
    have ee : (E != E) = false := by simp
    clear hE hE2 hT hT2 ht hgn hgm
    go_enter Try.func10, Try.ntmps10
    go_wp2_with fail
    refine (KGn.out w).mono ?_
    rintro e w1_ ⟨rfl, hb⟩
    have B1 := Lib.hid hb
    replace HL := Lib.hid (HL.out.on hb)
    replace HK := Lib.hid (HK.out.on hb)
    clear hb
    go_wp2_with fail
    refine (KGm.out w1_).mono ?_
    rintro e w2_ ⟨rfl, hb⟩
    have B2 := Lib.hid (bstep B1.out hb)
    replace HL := Lib.hid (HL.out.on hb)
    replace HK := Lib.hid (HK.out.on hb)
    clear hb
    go_wp2_with fail
    refine (K1.out w2_ HL.out HK.out).mono ?_
    rintro e w3_ ⟨v1, rfl, ho, hb⟩
    have B3 := Lib.hid (bstep B2.out hb)
    replace HL := Lib.hid (HL.out.on hb)
    replace HK := Lib.hid (HK.out.on hb)
    obtain ⟨A1, c1, rfl, hl1, hc1⟩ := ho.inS.open_
    have R1 := Lib.hid hc1
    rw [← Ht.out] at hl1 ⊢
    clear ho hc1 hb
    go_wp2_with fail
    refine (K2.out w3_ HL.out HK.out).mono ?_
    rintro e w4_ ⟨v2, rfl, ho, hb⟩
    have B4 := Lib.hid (bstep B3.out hb)
    replace R1 := Lib.hid (R1.out.on hb)
    obtain ⟨A2, c2, rfl, hl2, hc2⟩ := ho.inS.open_
    have R2 := Lib.hid hc2
    rw [← Ht.out] at hl2 ⊢
    clear ho hc2 hb
    go_wp2_with fail
    refine (rr_Same T T A1 A2 c1 c2 t t Ht.out Ht.out w4_ R1.out R2.out hl1 hl2).mono ?_
    rintro e w5_ ⟨rfl, hb⟩
    have B5 := Lib.hid (bstep B4.out hb)
    rw [decide_eq_true (rfl : T = T)]
    clear hb
    go_wp2_with fail
    refine (law_awake w5_).mono ?_
    rintro e w6_ ⟨rfl, hb⟩
    have B6 := Lib.hid (bstep B5.out hb)
    clear hb
    go_wp2_with fail
    go_ret
    exact ⟨rfl, B6.out⟩
  obtain ⟨h1, h2, h3, h4, h5, h6, h7⟩ := addOk hE
  rw [hE, hT] at K1 K2
  rw [hT] at h3 h4 h7
  have htm : t ≤ 1000000 := by rw [ht, h7, ← Hn.out]; omega
  have K3 := Lib.hid fun (W : World) (h : Cl eI W A L) => fibre_Total L A n c Hn.out W h (by omega)
  have K4 := Lib.hid fun (W : World) (h : Cl eI W B M) => fibre_Total M B m d Hm.out W h (by omega)
  have K5 := Lib.hid fun (W : World) (A' : Option Addr) (c' : Nat) (h : Cl eI W A' T) => fibre_Total T A' t c' Ht.out W h htm
  rw [h3, h4] at K5
  rw [h1] at K3
  rw [h2] at K4
  obtain ⟨Va, hVa⟩ : ∃ V, totV L = V := ⟨_, rfl⟩
  obtain ⟨Vb, hVb⟩ : ∃ V, totV M = V := ⟨_, rfl⟩
  rw [hVa] at K3 K5 h5
  rw [hVb] at K4 K5 h6
  obtain ⟨X, hX⟩ : ∃ X, Va + Vb = X := ⟨_, rfl⟩
  rw [hX] at K5
  have wX : IntKind.i64.wrap X = X := wrap_id (by omega)
  have xx : (X == X) = true := by simp
  clear hE hT ht hgn hgm h1 h2 h3 h4 h5 h6 h7 htm hVa hVb
  go_enter Try.func10, Try.ntmps10
  go_wp2_with fail
  refine (KGn.out w).mono ?_
  rintro e w1_ ⟨rfl, hb⟩
  have B1 := Lib.hid hb
  replace HL := Lib.hid (HL.out.on hb)
  replace HK := Lib.hid (HK.out.on hb)
  clear hb
  go_wp2_with fail
  refine (KGm.out w1_).mono ?_
  rintro e w2_ ⟨rfl, hb⟩
  have B2 := Lib.hid (bstep B1.out hb)
  replace HL := Lib.hid (HL.out.on hb)
  replace HK := Lib.hid (HK.out.on hb)
  clear hb
  go_wp2_with fail
  refine (K1.out w2_ HL.out HK.out).mono ?_
  rintro e w3_ ⟨v1, rfl, ho, hb⟩
  have B3 := Lib.hid (bstep B2.out hb)
  replace HL := Lib.hid (HL.out.on hb)
  replace HK := Lib.hid (HK.out.on hb)
  obtain ⟨A1, c1, rfl, hl1, hc1⟩ := ho.inS.open_
  have R1 := Lib.hid hc1
  rw [← Ht.out] at hl1 ⊢
  clear ho hc1 hb
  go_wp2_with fail
  refine (K2.out w3_ HL.out HK.out).mono ?_
  rintro e w4_ ⟨v2, rfl, ho, hb⟩
  have B4 := Lib.hid (bstep B3.out hb)
  replace HL := Lib.hid (HL.out.on hb)
  replace HK := Lib.hid (HK.out.on hb)
  replace R1 := Lib.hid (R1.out.on hb)
  obtain ⟨A2, c2, rfl, hl2, hc2⟩ := ho.inS.open_
  have R2 := Lib.hid hc2
  rw [← Ht.out] at hl2 ⊢
  clear ho hc2 hb
  go_wp2_with fail
  refine (rr_Same T T A1 A2 c1 c2 t t Ht.out Ht.out w4_ R1.out R2.out hl1 hl2).mono ?_
  rintro e w5_ ⟨rfl, hb⟩
  have B5 := Lib.hid (bstep B4.out hb)
  replace HL := Lib.hid (HL.out.on hb)
  replace HK := Lib.hid (HK.out.on hb)
  replace R1 := Lib.hid (R1.out.on hb)
  rw [decide_eq_true (rfl : T = T)]
  clear hb
  go_wp2_with fail
  refine (K3.out w5_ HL.out).mono ?_
  rintro e w6_ ⟨rfl, hb⟩
  have B6 := Lib.hid (bstep B5.out hb)
  replace HK := Lib.hid (HK.out.on hb)
  replace R1 := Lib.hid (R1.out.on hb)
  clear hb
  go_wp2_with fail
  refine (K4.out w6_ HK.out).mono ?_
  rintro e w7_ ⟨rfl, hb⟩
  have B7 := Lib.hid (bstep B6.out hb)
  replace R1 := Lib.hid (R1.out.on hb)
  clear hb
  go_wp2_with fail
  refine (K5.out w7_ A1 c1 R1.out).mono ?_
  rintro e w8_ ⟨rfl, hb⟩
  have B8 := Lib.hid (bstep B7.out hb)
  clear hb
  go_wp2_with fail
  refine (law_awake w8_).mono ?_
  rintro e w9_ ⟨rfl, hb⟩
  have B9 := Lib.hid (bstep B8.out hb)
  clear hb
  go_wp2_with fail
  go_ret
  exact ⟨rfl, B9.out⟩
#print axioms walk_FibreSums
end Go.Proofs.Ytgomokdklajlcaa.Fibre
