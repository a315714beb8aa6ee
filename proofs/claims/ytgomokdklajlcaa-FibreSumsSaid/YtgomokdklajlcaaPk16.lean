/- Several texts in one: FibreM. -/
import Derived.Test.YtgomokdklajlcaaPk15
import Derived.Test.YtgomokdklajlcaaPk1
/- The laws that compare with the reference: Checks, Recipes, Divides, Adds, Costs, Nears. -/
namespace Go.Proofs.Ytgomokdklajlcaa.Fibre
open Go.ChangeShapes Go.WideShapes Go.RowKit Go.Lib
open Go.Proofs.Ytgomokdklajlcaa.Mem (Cl eI Own)
open Go.Proofs.Ytgomokdklajlcaa.Rw (Rd glt get_lt ret_bool ret_int bstep)
set_option linter.unusedVariables false
set_option maxRecDepth 100000

theorem in_cl {w : World} {A : Option Addr} {n c : Nat} {zs : List Int} (h : InInts .i64 w A n c zs) : Cl eI w A zs ∧ n = zs.length ∧ n ≤ 9223372036854775807 := by
  obtain ⟨h1, h2, h3, _, h4⟩ := h
  refine ⟨h4, h1, ?_⟩
  unfold maxLen at h3; omega
theorem law_great (A : Option Addr) (n c : Nat) (w : World) (hm : n ≤ 9223372036854775807) :
    Calls Try.prog 15 #[.slice A n c] w fun e w' => e = .returned (.bool (decide (60 < n))) ∧ Below w.heap.size w w' := by
  by_cases h : 60 < n
  · have h1 : decide ((60 : Int) < (n : Int)) = true := decide_eq_true (by omega)
    rw [decide_eq_true h]
    clear h
    go_enter Try.func15, Try.ntmps15
    go_wp2_with fail
    go_ret
    exact ⟨rfl, Below.refl _ _⟩
  · have h1 : decide ((60 : Int) < (n : Int)) = false := decide_eq_false (by omega)
    rw [decide_eq_false h]
    clear h
    go_enter Try.func15, Try.ntmps15
    go_wp2_with fail
    go_ret
    exact ⟨rfl, Below.refl _ _⟩
/-- Too many kinds, or a name that is too long. -/
def manB (L : List Fb) : Bool := decide (60 < L.length) || L.any fun f => decide (200 < f.1.size)
theorem manB_few {L : List Fb} (h : manB L = false) : L.length ≤ 60 := by
  unfold manB at h
  rw [Bool.or_eq_false_iff] at h
  have := of_decide_eq_false h.1
  omega
set_option maxHeartbeats 800000 in
theorem law_many (L : List Fb) (A : Option Addr) (n c : Nat) (hn : n = L.length) (w : World) (ha : Kds w A L) (hm : n ≤ 9223372036854775807) :
    Calls Try.prog 11 #[.slice A n c] w fun e w' => e = .returned (.bool (manB L)) ∧ Below w.heap.size w w' := by
  have HA := Lib.hid ha
  have HN := Lib.hid hn
  obtain ⟨M, hM⟩ : ∃ M, manB L = M := ⟨_, rfl⟩
  rw [hM]
  have HM := Lib.hid hM
  clear ha
  by_cases h : 60 < n
  · have h1 : decide ((60 : Int) < (n : Int)) = true := decide_eq_true (by omega)
    obtain rfl : M = true := by rw [← hM]; unfold manB; rw [decide_eq_true (by omega)]; rfl
    clear h hn hM
    go_enter Try.func11, Try.ntmps11
    go_wp2_with fail
    go_ret
    exact ⟨rfl, Below.refl _ _⟩
  have h1 : decide ((60 : Int) < (n : Int)) = false := decide_eq_false (by omega)
  have H0 := Lib.hid (show ¬ 60 < L.length by omega)
  clear h hn hM
  go_enter Try.func11, Try.ntmps11
  go_wp2_with fail
  go_loopw [3] (fun i wr => ∃ k : Nat, k ≤ n ∧ i = .int .i64 k ∧ (∀ (j : Nat) (f : Fb), j < k → L[j]? = some f → ¬ 200 < f.1.size) ∧ Below w.heap.size w wr) (fun i _ => n - (RowKit.intOf i).toNat)
  case atStart => exact ⟨0, Nat.zero_le _, rfl, fun j f h => absurd h (by omega), Below.refl _ _⟩
  case round =>
    obtain ⟨k, hk, rfl, hv, hbel⟩ := hrel
    have HV := Lib.hid hv
    have HB := Lib.hid hbel
    clear hv hbel
    rcases Nat.lt_or_ge k n with hlt | hge
    · obtain ⟨f, hf⟩ := get_lt (L := L) (k := k) (by have := HN.out; omega)
      obtain ⟨b, off, rfl, hb, c0, -⟩ := kd_at (HA.out.on HB.out) hf
      have HF := Lib.hid hf
      have i1 : (k : Int) < (n : Int) := by omega
      have i2 : (0 : Int) ≤ (k : Int) := by omega
      obtain ⟨s, hs⟩ : ∃ s, f.1 = s := ⟨_, rfl⟩
      rw [hs] at c0
      have HS := Lib.hid hs
      clear hf hs
      by_cases hg : 200 < s.size
      · have t0 : decide ((200 : Int) < (s.size : Int)) = true := decide_eq_true (by omega)
        obtain rfl : M = true := by
          rw [← HM.out]; unfold manB
          rw [List.any_eq_true.mpr ⟨f, List.mem_of_getElem? HF.out, decide_eq_true (by rw [HS.out]; exact hg)⟩, Bool.or_true]
        clear hg
        go_wp2_with fail
        go_ret
        exact ⟨rfl, HB.out⟩
      · have t0 : decide ((200 : Int) < (s.size : Int)) = false := decide_eq_false (by omega)
        have HG := Lib.hid hg
        clear hg
        go_wp2_with fail
        go_roundw
        case rel =>
          refine ⟨k + 1, by omega, by go_num, ?_, HB.out⟩
          intro j g hj hg
          rcases Nat.lt_or_eq_of_le (Nat.le_of_lt_succ hj) with h | h
          · exact HV.out j g h hg
          · subst h
            have e := HF.out
            rw [hg] at e; cases e; rw [HS.out]; exact HG.out
        case measure => simp [RowKit.intOf]; omega
    · obtain rfl : k = n := by omega
      obtain rfl : M = false := by
        rw [← HM.out]; unfold manB
        rw [decide_eq_false H0.out, Bool.false_or]
        refine List.any_eq_false.mpr fun f hf => ?_
        obtain ⟨j, hj⟩ := List.mem_iff_getElem?.mp hf
        have := HV.out j f (by rw [HN.out]; exact glt hj) hj
        simpa using this
      go_wp2_with fail
      go_ret
      exact ⟨rfl, HB.out⟩

set_option maxHeartbeats 6400000 in
theorem walk_FibreChecks (w : World) (A : Option Addr) (c : Nat) (L : List Fb) (ha : Kds w A L) (hz : Sz L) (hcap : L.length ≤ c) (hm : L.length ≤ 9223372036854775807) :
    Calls Try.prog 3 #[.slice A L.length c] w fun e w' => e = .returned (.bool true) ∧ Below w.heap.size w w' := by
  have HA := Lib.hid ha
  have HZ := Lib.hid hz
  obtain ⟨n, hn⟩ : ∃ n, n = L.length := ⟨_, rfl⟩
  rw [← hn] at hm ⊢
  have Hn := Lib.hid hn
  have Mn := Lib.hid hm
  clear ha hz hcap hn hm
  have KM := Lib.hid fun (W : World) (h : Kds W A L) => law_many L A n c Hn.out W h Mn.out
  obtain ⟨p, hp⟩ : ∃ p, manB L = p := ⟨_, rfl⟩
  rw [hp] at KM
  cases p with
  | true =>
    clear hp
    go_enter Try.func3, Try.ntmps3
    go_wp2_with fail
    refine (KM.out w HA.out).mono ?_
    rintro e w1_ ⟨rfl, hb⟩
    have B1 := Lib.hid hb
    replace HA := Lib.hid (HA.out.on hb)
    clear hb
    go_wp2_with fail
    refine (law_awake w1_).mono ?_
    rintro e w2_ ⟨rfl, hb⟩
    have B2 := Lib.hid (bstep B1.out hb)
    replace HA := Lib.hid (HA.out.on hb)
    clear hb
    go_wp2_with fail
    go_ret
    exact ⟨rfl, B2.out⟩
  | false =>
    have hfew := manB_few hp
    rw [← Hn.out] at hfew
    clear hp
    have K1 := Lib.hid fun (W : World) (h : Kds W A L) => fibre_Check L A n c Hn.out W h HZ.out (by omega)
    have K2 := Lib.hid fun (W : World) (h : Kds W A L) => rr_Check L A n c Hn.out W h HZ.out Mn.out
    obtain ⟨E, hE⟩ : ∃ E, chkE L = E := ⟨_, rfl⟩
    rw [hE] at K1 K2
    clear hE
    go_enter Try.func3, Try.ntmps3
    go_wp2_with fail
    refine (KM.out w HA.out).mono ?_
    rintro e w1_ ⟨rfl, hb⟩
    have B1 := Lib.hid hb
    replace HA := Lib.hid (HA.out.on hb)
    clear hb
    go_wp2_with fail
    refine (K1.out w1_ HA.out).mono ?_
    rintro e w2_ ⟨rfl, hb⟩
    have B2 := Lib.hid (bstep B1.out hb)
    replace HA := Lib.hid (HA.out.on hb)
    clear hb
    go_wp2_with fail
    refine (K2.out w2_ HA.out).mono ?_
    rintro e w3_ ⟨rfl, hb⟩
    have B3 := Lib.hid (bstep B2.out hb)
    replace HA := Lib.hid (HA.out.on hb)
    clear hb
    go_wp2_with fail
    refine (law_awake w3_).mono ?_
    rintro e w4_ ⟨rfl, hb⟩
    have B4 := Lib.hid (bstep B3.out hb)
    replace HA := Lib.hid (HA.out.on hb)
    clear hb
    go_wp2_with fail
    go_ret
    exact ⟨rfl, B4.out⟩

set_option maxHeartbeats 6400000 in
theorem walk_FibreRecipes (w : World) (A : Option Addr) (n c : Nat) (L : List Int) (h : InInts .i64 w A n c L) (kinds : Int) :
    Calls Try.prog 4 #[.slice A n c, .int .i64 kinds] w fun e w' => e = .returned (.bool true) ∧ Below w.heap.size w w' := by
  obtain ⟨hcl, hn, hm⟩ := in_cl h
  have HL := Lib.hid hcl
  have Hn := Lib.hid hn
  have Mn := Lib.hid hm
  clear hcl hn h
  clear hm
  have KGn := Lib.hid fun W => law_great A n c W Mn.out
  by_cases hgn : 60 < n
  · rw [decide_eq_true hgn] at KGn
    clear hgn
    go_enter Try.func4, Try.ntmps4
    go_wp2_with fail
    refine (KGn.out w).mono ?_
    rintro e w1_ ⟨rfl, hb⟩
    have B1 := Lib.hid hb
    replace HL := Lib.hid (HL.out.on hb)
    clear hb
    go_wp2_with fail
    refine (law_awake w1_).mono ?_
    rintro e w2_ ⟨rfl, hb⟩
    have B2 := Lib.hid (bstep B1.out hb)
    replace HL := Lib.hid (HL.out.on hb)
    clear hb
    go_wp2_with fail
    go_ret
    exact ⟨rfl, B2.out⟩
  rw [decide_eq_false hgn] at KGn
  have K1 := Lib.hid fun (W : World) (h : Cl eI W A L) => fibre_Recipe L A n c Hn.out kinds W h (by omega)
  have K2 := Lib.hid fun (W : World) (h : Cl eI W A L) => rr_Recipe L A n c Hn.out kinds W h Mn.out
  have K3 := Lib.hid fun (W : World) (h : Cl eI W A L) => fibre_Parts L A n c Hn.out kinds W h (by omega)
  have K4 := Lib.hid fun (W : World) (h : Cl eI W A L) => rr_Parts L A n c Hn.out kinds W h Mn.out
  obtain ⟨E, hE⟩ : ∃ E, recE L kinds = E := ⟨_, rfl⟩
  obtain ⟨F, hF⟩ : ∃ F, parE L kinds = F := ⟨_, rfl⟩
  rw [hE] at K1 K2
  rw [hF] at K3 K4
  clear hE hF hgn
  go_enter Try.func4, Try.ntmps4
  go_wp2_with fail
  refine (KGn.out w).mono ?_
  rintro e w1_ ⟨rfl, hb⟩
  have B1 := Lib.hid hb
  replace HL := Lib.hid (HL.out.on hb)
  clear hb
  go_wp2_with fail
  refine (K1.out w1_ HL.out).mono ?_
  rintro e w2_ ⟨rfl, hb⟩
  have B2 := Lib.hid (bstep B1.out hb)
  replace HL := Lib.hid (HL.out.on hb)
  clear hb
  go_wp2_with fail
  refine (K2.out w2_ HL.out).mono ?_
  rintro e w3_ ⟨rfl, hb⟩
  have B3 := Lib.hid (bstep B2.out hb)
  replace HL := Lib.hid (HL.out.on hb)
  clear hb
  go_wp2_with fail
  refine (K3.out w3_ HL.out).mono ?_
  rintro e w4_ ⟨rfl, hb⟩
  have B4 := Lib.hid (bstep B3.out hb)
  replace HL := Lib.hid (HL.out.on hb)
  clear hb
  go_wp2_with fail
  refine (K4.out w4_ HL.out).mono ?_
  rintro e w5_ ⟨rfl, hb⟩
  have B5 := Lib.hid (bstep B4.out hb)
  replace HL := Lib.hid (HL.out.on hb)
  clear hb
  go_wp2_with fail
  refine (law_awake w5_).mono ?_
  rintro e w6_ ⟨rfl, hb⟩
  have B6 := Lib.hid (bstep B5.out hb)
  replace HL := Lib.hid (HL.out.on hb)
  clear hb
  go_wp2_with fail
  go_ret
  exact ⟨rfl, B6.out⟩

set_option maxHeartbeats 6400000 in
theorem walk_FibreDivides (w : World) (A : Option Addr) (n c : Nat) (L : List Int) (h : InInts .i64 w A n c L) (mass : Int) :
    Calls Try.prog 5 #[.slice A n c, .int .i64 mass] w fun e w' => e = .returned (.bool true) ∧ Below w.heap.size w w' := by
  obtain ⟨hcl, hn, hm⟩ := in_cl h
  have HL := Lib.hid hcl
  have Hn := Lib.hid hn
  have Mn := Lib.hid hm
  clear hcl hn h
  clear hm
  have KGn := Lib.hid fun W => law_great A n c W Mn.out
  by_cases hgn : 60 < n
  · rw [decide_eq_true hgn] at KGn
    clear hgn
    go_enter Try.func5, Try.ntmps5
    go_wp2_with fail
    refine (KGn.out w).mono ?_
    rintro e w1_ ⟨rfl, hb⟩
    have B1 := Lib.hid hb
    replace HL := Lib.hid (HL.out.on hb)
    clear hb
    go_wp2_with fail
    refine (law_awake w1_).mono ?_
    rintro e w2_ ⟨rfl, hb⟩
    have B2 := Lib.hid (bstep B1.out hb)
    replace HL := Lib.hid (HL.out.on hb)
    clear hb
    go_wp2_with fail
    go_ret
    exact ⟨rfl, B2.out⟩
  rw [decide_eq_false hgn] at KGn
  have K1 := Lib.hid fun (W : World) (h : Cl eI W A L) => fibre_Masses L A n c Hn.out mass W h (by omega)
  have K2 := Lib.hid fun (W : World) (h : Cl eI W A L) => rr_Masses L A n c Hn.out mass W h Mn.out
  have K3 := Lib.hid fun (W : World) (h : Cl eI W A L) => fibre_Total L A n c Hn.out W h (by omega)
  have K4 := Lib.hid fun (W : World) (h : Cl eI W A L) => rr_Total L A n c Hn.out W h Mn.out
  obtain ⟨E, hE⟩ : ∃ E, masE L mass = E := ⟨_, rfl⟩
  obtain ⟨T, hT⟩ : ∃ T, masL L mass = T := ⟨_, rfl⟩
  obtain ⟨F, hF⟩ : ∃ F, totE L = F := ⟨_, rfl⟩
  obtain ⟨V, hV⟩ : ∃ V, totV L = V := ⟨_, rfl⟩
  rw [hE, hT] at K1 K2
  rw [hF, hV] at K3 K4
  clear hE hF hT hV hgn
  obtain ⟨t, ht⟩ : ∃ t, t = T.length := ⟨_, rfl⟩
  have Ht := Lib.hid ht
  clear ht
  go_enter Try.func5, Try.ntmps5
  go_wp2_with fail
  refine (KGn.out w).mono ?_
  rintro e w1_ ⟨rfl, hb⟩
  have B1 := Lib.hid hb
  replace HL := Lib.hid (HL.out.on hb)
  clear hb
  go_wp2_with fail
  refine (K1.out w1_ HL.out).mono ?_
  rintro e w2_ ⟨v1, rfl, ho, hb⟩
  have B2 := Lib.hid (bstep B1.out hb)
  replace HL := Lib.hid (HL.out.on hb)
  obtain ⟨A1, c1, rfl, hl1, hc1⟩ := ho.inS.open_
  have R1 := Lib.hid hc1
  rw [← Ht.out] at hl1 ⊢
  clear ho hc1
  clear hb
  go_wp2_with fail
  refine (K2.out w2_ HL.out).mono ?_
  rintro e w3_ ⟨v2, rfl, ho, hb⟩
  have B3 := Lib.hid (bstep B2.out hb)
  replace HL := Lib.hid (HL.out.on hb)
  replace R1 := Lib.hid (R1.out.on hb)
  obtain ⟨A2, c2, rfl, hl2, hc2⟩ := ho.inS.open_
  have R2 := Lib.hid hc2
  rw [← Ht.out] at hl2 ⊢
  clear ho hc2
  clear hb
  go_wp2_with fail
  refine (K3.out w3_ HL.out).mono ?_
  rintro e w4_ ⟨rfl, hb⟩
  have B4 := Lib.hid (bstep B3.out hb)
  replace HL := Lib.hid (HL.out.on hb)
  replace R1 := Lib.hid (R1.out.on hb)
  replace R2 := Lib.hid (R2.out.on hb)
  clear hb
  go_wp2_with fail
  refine (K4.out w4_ HL.out).mono ?_
  rintro e w5_ ⟨rfl, hb⟩
  have B5 := Lib.hid (bstep B4.out hb)
  replace HL := Lib.hid (HL.out.on hb)
  replace R1 := Lib.hid (R1.out.on hb)
  replace R2 := Lib.hid (R2.out.on hb)
  clear hb
  go_wp2_with fail
  refine (rr_Same T T A1 A2 c1 c2 t t Ht.out Ht.out w5_ R1.out R2.out hl1 hl2).mono ?_
  rintro e w6_ ⟨rfl, hb⟩
  have B6 := Lib.hid (bstep B5.out hb)
  replace HL := Lib.hid (HL.out.on hb)
  replace R1 := Lib.hid (R1.out.on hb)
  replace R2 := Lib.hid (R2.out.on hb)
  rw [decide_eq_true (rfl : T = T)]
  clear hb
  go_wp2_with fail
  refine (law_awake w6_).mono ?_
  rintro e w7_ ⟨rfl, hb⟩
  have B7 := Lib.hid (bstep B6.out hb)
  replace HL := Lib.hid (HL.out.on hb)
  replace R1 := Lib.hid (R1.out.on hb)
  replace R2 := Lib.hid (R2.out.on hb)
  clear hb
  go_wp2_with fail
  go_ret
  exact ⟨rfl, B7.out⟩

set_option maxHeartbeats 6400000 in
theorem walk_FibreAdds (w : World) (A : Option Addr) (n c : Nat) (L : List Int) (h : InInts .i64 w A n c L) (B : Option Addr) (m d : Nat) (M : List Int) (k : InInts .i64 w B m d M) :
    Calls Try.prog 6 #[.slice A n c, .slice B m d] w fun e w' => e = .returned (.bool true) ∧ Below w.heap.size w w' := by
  obtain ⟨hcl, hn, hm⟩ := in_cl h
  have HL := Lib.hid hcl
  have Hn := Lib.hid hn
  have Mn := Lib.hid hm
  clear hcl hn h
  clear hm
  obtain ⟨hcl, hn, hm⟩ := in_cl k
  have HK := Lib.hid hcl
  have Hm := Lib.hid hn
  have Mm := Lib.hid hm
  clear hcl hn k
  clear hm
  have KGn := Lib.hid fun W => law_great A n c W Mn.out
  have KGm := Lib.hid fun W => law_great B m d W Mm.out
  by_cases hgn : 60 < n
  · rw [decide_eq_true hgn] at KGn
    clear hgn
    go_enter Try.func6, Try.ntmps6
    go_wp2_with fail
    refine (KGn.out w).mono ?_
    rintro e w1_ ⟨rfl, hb⟩
    have B1 := Lib.hid hb
    replace HL := Lib.hid (HL.out.on hb)
    replace HK := Lib.hid (HK.out.on hb)
    clear hb
    go_wp2_with fail
    refine (law_awake w1_).mono ?_
    rintro e w2_ ⟨rfl, hb⟩
    have B2 := Lib.hid (bstep B1.out hb)
    replace HL := Lib.hid (HL.out.on hb)
    replace HK := Lib.hid (HK.out.on hb)
    clear hb
    go_wp2_with fail
    go_ret
    exact ⟨rfl, B2.out⟩
  rw [decide_eq_false hgn] at KGn
  by_cases hgm : 60 < m
  · rw [decide_eq_true hgm] at KGm
    clear hgm hgn
    go_enter Try.func6, Try.ntmps6
    go_wp2_with fail
    refine (KGn.out w).mono ?_
    rintro e w1_ ⟨rfl, hb⟩
    have B1 := Lib.hid hb
    replace HL := Lib.hid (HL.out.on hb)
    replace HK := Lib.hid (HK.out.on hb)
    clear hb
    go_wp2_with fail
    refine (KGm.out w1_).mono ?_
    rintro e w2_ ⟨rfl, hb⟩
    have B2 := Lib.hid (bstep B1.out hb)
    replace HL := Lib.hid (HL.out.on hb)
    replace HK := Lib.hid (HK.out.on hb)
    clear hb
    go_wp2_with fail
    refine (law_awake w2_).mono ?_
    rintro e w3_ ⟨rfl, hb⟩
    have B3 := Lib.hid (bstep B2.out hb)
    replace HL := Lib.hid (HL.out.on hb)
    replace HK := Lib.hid (HK.out.on hb)
    clear hb
    go_wp2_with fail
    go_ret
    exact ⟨rfl, B3.out⟩
  rw [decide_eq_false hgm] at KGm
  have K1 := Lib.hid fun (W : World) (h : Cl eI W A L) (k : Cl eI W B M) => fibre_Add L M A B n m c d Hn.out Hm.out W h k (by omega) (by omega)
  have K2 := Lib.hid fun (W : World) (h : Cl eI W A L) (k : Cl eI W B M) => rr_Add L M A B n m c d Hn.out Hm.out W h k Mn.out Mm.out
  obtain ⟨E, hE⟩ : ∃ E, addE L M = E := ⟨_, rfl⟩
  obtain ⟨T, hT⟩ : ∃ T, addL L M = T := ⟨_, rfl⟩
  rw [hE, hT] at K1 K2
  clear hE hT hgn hgm
  obtain ⟨t, ht⟩ : ∃ t, t = T.length := ⟨_, rfl⟩
  have Ht := Lib.hid ht
  clear ht
  go_enter Try.func6, Try.ntmps6
  go_wp2_with fail
  refine (KGn.out w).mono ?_
  rintro e w1_ ⟨rfl, hb⟩
  have B1 := Lib.hid hb
  replace HL := Lib.hid (HL.out.on hb)
  replace HK := Lib.hid (HK.out.on hb)
  clear hb
  go_wp2_with fail
  refine (KGm.out w1_).mono ?_
  rintro e w2_ ⟨rfl, hb⟩
  have B2 := Lib.hid (bstep B1.out hb)
  replace HL := Lib.hid (HL.out.on hb)
  replace HK := Lib.hid (HK.out.on hb)
  clear hb
  go_wp2_with fail
  refine (K1.out w2_ HL.out HK.out).mono ?_
  rintro e w3_ ⟨v1, rfl, ho, hb⟩
  have B3 := Lib.hid (bstep B2.out hb)
  replace HL := Lib.hid (HL.out.on hb)
  replace HK := Lib.hid (HK.out.on hb)
  obtain ⟨A1, c1, rfl, hl1, hc1⟩ := ho.inS.open_
  have R1 := Lib.hid hc1
  rw [← Ht.out] at hl1 ⊢
  clear ho hc1
  clear hb
  go_wp2_with fail
  refine (K2.out w3_ HL.out HK.out).mono ?_
  rintro e w4_ ⟨v2, rfl, ho, hb⟩
  have B4 := Lib.hid (bstep B3.out hb)
  replace HL := Lib.hid (HL.out.on hb)
  replace HK := Lib.hid (HK.out.on hb)
  replace R1 := Lib.hid (R1.out.on hb)
  obtain ⟨A2, c2, rfl, hl2, hc2⟩ := ho.inS.open_
  have R2 := Lib.hid hc2
  rw [← Ht.out] at hl2 ⊢
  clear ho hc2
  clear hb
  go_wp2_with fail
  refine (rr_Same T T A1 A2 c1 c2 t t Ht.out Ht.out w4_ R1.out R2.out hl1 hl2).mono ?_
  rintro e w5_ ⟨rfl, hb⟩
  have B5 := Lib.hid (bstep B4.out hb)
  replace HL := Lib.hid (HL.out.on hb)
  replace HK := Lib.hid (HK.out.on hb)
  replace R1 := Lib.hid (R1.out.on hb)
  replace R2 := Lib.hid (R2.out.on hb)
  rw [decide_eq_true (rfl : T = T)]
  clear hb
  go_wp2_with fail
  refine (law_awake w5_).mono ?_
  rintro e w6_ ⟨rfl, hb⟩
  have B6 := Lib.hid (bstep B5.out hb)
  replace HL := Lib.hid (HL.out.on hb)
  replace HK := Lib.hid (HK.out.on hb)
  replace R1 := Lib.hid (R1.out.on hb)
  replace R2 := Lib.hid (R2.out.on hb)
  clear hb
  go_wp2_with fail
  go_ret
  exact ⟨rfl, B6.out⟩

set_option maxHeartbeats 6400000 in
theorem walk_FibreCosts (w : World) (A : Option Addr) (c : Nat) (L : List Fb) (ha : Kds w A L) (hz : Sz L) (hcap : L.length ≤ c) (hm : L.length ≤ 9223372036854775807) (B : Option Addr) (m d : Nat) (M : List Int) (k : InInts .i64 w B m d M) :
    Calls Try.prog 7 #[.slice A L.length c, .slice B m d] w fun e w' => e = .returned (.bool true) ∧ Below w.heap.size w w' := by
  obtain ⟨hcl, hn, hm⟩ := in_cl k
  have HK := Lib.hid hcl
  have Hm := Lib.hid hn
  have Mm := Lib.hid hm
  clear hcl hn k
  clear hm
  have HA := Lib.hid ha
  have HZ := Lib.hid hz
  obtain ⟨n, hn⟩ : ∃ n, n = L.length := ⟨_, rfl⟩
  rw [← hn] at hm ⊢
  have Hn := Lib.hid hn
  have Mn := Lib.hid hm
  clear ha hz hcap hn hm
  have KM := Lib.hid fun (W : World) (h : Kds W A L) => law_many L A n c Hn.out W h Mn.out
  obtain ⟨p, hp⟩ : ∃ p, manB L = p := ⟨_, rfl⟩
  rw [hp] at KM
  cases p with
  | true =>
    clear hp
    go_enter Try.func7, Try.ntmps7
    go_wp2_with fail
    refine (KM.out w HA.out).mono ?_
    rintro e w1_ ⟨rfl, hb⟩
    have B1 := Lib.hid hb
    replace HA := Lib.hid (HA.out.on hb)
    replace HK := Lib.hid (HK.out.on hb)
    clear hb
    go_wp2_with fail
    refine (law_awake w1_).mono ?_
    rintro e w2_ ⟨rfl, hb⟩
    have B2 := Lib.hid (bstep B1.out hb)
    replace HA := Lib.hid (HA.out.on hb)
    replace HK := Lib.hid (HK.out.on hb)
    clear hb
    go_wp2_with fail
    go_ret
    exact ⟨rfl, B2.out⟩
  | false =>
    have hfew := manB_few hp
    rw [← Hn.out] at hfew
    clear hp
    have KGm := Lib.hid fun W => law_great B m d W Mm.out
    by_cases hgm : 60 < m
    · rw [decide_eq_true hgm] at KGm
      clear hgm
      go_enter Try.func7, Try.ntmps7
      go_wp2_with fail
      refine (KM.out w HA.out).mono ?_
      rintro e w1_ ⟨rfl, hb⟩
      have B1 := Lib.hid hb
      replace HA := Lib.hid (HA.out.on hb)
      replace HK := Lib.hid (HK.out.on hb)
      clear hb
      go_wp2_with fail
      refine (KGm.out w1_).mono ?_
      rintro e w2_ ⟨rfl, hb⟩
      have B2 := Lib.hid (bstep B1.out hb)
      replace HA := Lib.hid (HA.out.on hb)
      replace HK := Lib.hid (HK.out.on hb)
      clear hb
      go_wp2_with fail
      refine (law_awake w2_).mono ?_
      rintro e w3_ ⟨rfl, hb⟩
      have B3 := Lib.hid (bstep B2.out hb)
      replace HA := Lib.hid (HA.out.on hb)
      replace HK := Lib.hid (HK.out.on hb)
      clear hb
      go_wp2_with fail
      go_ret
      exact ⟨rfl, B3.out⟩
    rw [decide_eq_false hgm] at KGm
    have K1 := Lib.hid fun (W : World) (h : Kds W A L) (k : Cl eI W B M) => fibre_Cost L M A B n m c d Hn.out Hm.out W h HZ.out k (by omega) (by omega)
    have K2 := Lib.hid fun (W : World) (h : Kds W A L) (k : Cl eI W B M) => rr_Cost L M A B n m c d Hn.out Hm.out W h HZ.out k Mn.out Mm.out
    obtain ⟨E, hE⟩ : ∃ E, cosE mdC L M = E := ⟨_, rfl⟩
    obtain ⟨V, hV⟩ : ∃ V, cosV mdC L M = V := ⟨_, rfl⟩
    rw [hE, hV] at K1 K2
    clear hE hV hgm hfew
    go_enter Try.func7, Try.ntmps7
    go_wp2_with fail
    refine (KM.out w HA.out).mono ?_
    rintro e w1_ ⟨rfl, hb⟩
    have B1 := Lib.hid hb
    replace HA := Lib.hid (HA.out.on hb)
    replace HK := Lib.hid (HK.out.on hb)
    clear hb
    go_wp2_with fail
    refine (KGm.out w1_).mono ?_
    rintro e w2_ ⟨rfl, hb⟩
    have B2 := Lib.hid (bstep B1.out hb)
    replace HA := Lib.hid (HA.out.on hb)
    replace HK := Lib.hid (HK.out.on hb)
    clear hb
    go_wp2_with fail
    refine (K1.out w2_ HA.out HK.out).mono ?_
    rintro e w3_ ⟨rfl, hb⟩
    have B3 := Lib.hid (bstep B2.out hb)
    replace HA := Lib.hid (HA.out.on hb)
    replace HK := Lib.hid (HK.out.on hb)
    clear hb
    go_wp2_with fail
    refine (K2.out w3_ HA.out HK.out).mono ?_
    rintro e w4_ ⟨rfl, hb⟩
    have B4 := Lib.hid (bstep B3.out hb)
    replace HA := Lib.hid (HA.out.on hb)
    replace HK := Lib.hid (HK.out.on hb)
    clear hb
    go_wp2_with fail
    refine (law_awake w4_).mono ?_
    rintro e w5_ ⟨rfl, hb⟩
    have B5 := Lib.hid (bstep B4.out hb)
    replace HA := Lib.hid (HA.out.on hb)
    replace HK := Lib.hid (HK.out.on hb)
    clear hb
    go_wp2_with fail
    go_ret
    exact ⟨rfl, B5.out⟩

set_option maxHeartbeats 6400000 in
theorem walk_FibreNears (w : World) (A : Option Addr) (n c : Nat) (L : List Int) (h : InInts .i64 w A n c L) (B : Option Addr) (m d : Nat) (M : List Int) (k : InInts .i64 w B m d M) (tol : Int) :
    Calls Try.prog 8 #[.slice A n c, .slice B m d, .int .i64 tol] w fun e w' => e = .returned (.bool true) ∧ Below w.heap.size w w' := by
  obtain ⟨hcl, hn, hm⟩ := in_cl h
  have HL := Lib.hid hcl
  have Hn := Lib.hid hn
  have Mn := Lib.hid hm
  clear hcl hn h
  clear hm
  obtain ⟨hcl, hn, hm⟩ := in_cl k
  have HK := Lib.hid hcl
  have Hm := Lib.hid hn
  have Mm := Lib.hid hm
  clear hcl hn k
  clear hm
  have KGn := Lib.hid fun W => law_great A n c W Mn.out
  have KGm := Lib.hid fun W => law_great B m d W Mm.out
  by_cases hgn : 60 < n
  · rw [decide_eq_true hgn] at KGn
    clear hgn
    go_enter Try.func8, Try.ntmps8
    go_wp2_with fail
    refine (KGn.out w).mono ?_
    rintro e w1_ ⟨rfl, hb⟩
    have B1 := Lib.hid hb
    replace HL := Lib.hid (HL.out.on hb)
    replace HK := Lib.hid (HK.out.on hb)
    clear hb
    go_wp2_with fail
    refine (law_awake w1_).mono ?_
    rintro e w2_ ⟨rfl, hb⟩
    have B2 := Lib.hid (bstep B1.out hb)
    replace HL := Lib.hid (HL.out.on hb)
    replace HK := Lib.hid (HK.out.on hb)
    clear hb
    go_wp2_with fail
    go_ret
    exact ⟨rfl, B2.out⟩
  rw [decide_eq_false hgn] at KGn
  by_cases hgm : 60 < m
  · rw [decide_eq_true hgm] at KGm
    clear hgm hgn
    go_enter Try.func8, Try.ntmps8
    go_wp2_with fail
    refine (KGn.out w).mono ?_
    rintro e w1_ ⟨rfl, hb⟩
    have B1 := Lib.hid hb
    replace HL := Lib.hid (HL.out.on hb)
    replace HK := Lib.hid (HK.out.on hb)
    clear hb
    go_wp2_with fail
    refine (KGm.out w1_).mono ?_
    rintro e w2_ ⟨rfl, hb⟩
    have B2 := Lib.hid (bstep B1.out hb)
    replace HL := Lib.hid (HL.out.on hb)
    replace HK := Lib.hid (HK.out.on hb)
    clear hb
    go_wp2_with fail
    refine (law_awake w2_).mono ?_
    rintro e w3_ ⟨rfl, hb⟩
    have B3 := Lib.hid (bstep B2.out hb)
    replace HL := Lib.hid (HL.out.on hb)
    replace HK := Lib.hid (HK.out.on hb)
    clear hb
    go_wp2_with fail
    go_ret
    exact ⟨rfl, B3.out⟩
  rw [decide_eq_false hgm] at KGm
  have K1 := Lib.hid fun (W : World) (h : Cl eI W A L) (k : Cl eI W B M) => fibre_Near L M A B n m c d Hn.out Hm.out tol W h k (by omega) (by omega)
  have K2 := Lib.hid fun (W : World) (h : Cl eI W A L) (k : Cl eI W B M) => rr_Near L M A B n m c d Hn.out Hm.out tol W h k Mn.out Mm.out
  obtain ⟨E, hE⟩ : ∃ E, neaE L M tol = E := ⟨_, rfl⟩
  obtain ⟨V, hV⟩ : ∃ V, neaV L M tol = V := ⟨_, rfl⟩
  rw [hE, hV] at K1 K2
  clear hE hV hgn hgm
  go_enter Try.func8, Try.ntmps8
  go_wp2_with fail
  refine (KGn.out w).mono ?_
  rintro e w1_ ⟨rfl, hb⟩
  have B1 := Lib.hid hb
  replace HL := Lib.hid (HL.out.on hb)
  replace HK := Lib.hid (HK.out.on hb)
  clear hb
  go_wp2_with fail
  refine (KGm.out w1_).mono ?_
  rintro e w2_ ⟨rfl, hb⟩
  have B2 := Lib.hid (bstep B1.out hb)
  replace HL := Lib.hid (HL.out.on hb)
  replace HK := Lib.hid (HK.out.on hb)
  clear hb
  go_wp2_with fail
  refine (K1.out w2_ HL.out HK.out).mono ?_
  rintro e w3_ ⟨rfl, hb⟩
  have B3 := Lib.hid (bstep B2.out hb)
  replace HL := Lib.hid (HL.out.on hb)
  replace HK := Lib.hid (HK.out.on hb)
  clear hb
  go_wp2_with fail
  refine (K2.out w3_ HL.out HK.out).mono ?_
  rintro e w4_ ⟨rfl, hb⟩
  have B4 := Lib.hid (bstep B3.out hb)
  replace HL := Lib.hid (HL.out.on hb)
  replace HK := Lib.hid (HK.out.on hb)
  clear hb
  go_wp2_with fail
  refine (law_awake w4_).mono ?_
  rintro e w5_ ⟨rfl, hb⟩
  have B5 := Lib.hid (bstep B4.out hb)
  replace HL := Lib.hid (HL.out.on hb)
  replace HK := Lib.hid (HK.out.on hb)
  clear hb
  go_wp2_with fail
  go_ret
  exact ⟨rfl, B5.out⟩
#print axioms walk_FibreChecks
#print axioms walk_FibreRecipes
#print axioms walk_FibreDivides
#print axioms walk_FibreAdds
#print axioms walk_FibreCosts
#print axioms walk_FibreNears
end Go.Proofs.Ytgomokdklajlcaa.Fibre
