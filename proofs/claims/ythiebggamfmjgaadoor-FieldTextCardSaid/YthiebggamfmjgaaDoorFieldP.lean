/- Walk of FieldRoundTrip. -/
import Derived.Test.YthiebggamfmjgaaDoorFieldO
namespace Go.Proofs.YthiebggamfmjgaaDoor.Field
open Go.ChangeShapes Go.WideShapes Go.RowKit
set_option linter.unusedVariables false
set_option maxRecDepth 100000

theorem splitL_sub {l x : List UInt8} (hx : x ∈ splitL l) : x.length ≤ l.length := by
  unfold splitL at hx
  split at hx
  · exact readL_bound hx
  · cases hx
theorem splitL_count (l : List UInt8) : (splitL l).length ≤ l.length + 1 := by
  unfold splitL
  split
  · exact readL_count l
  · simp
theorem wide_test (s : ByteArray) : (¬ 1500 < s.size ∧ decide ((1500 : Int) < (s.size : Int)) = false) ∨ (1500 < s.size ∧ decide ((1500 : Int) < (s.size : Int)) = true) := by
  by_cases h : 1500 < s.size
  · exact Or.inr ⟨h, decide_eq_true (by omega)⟩
  · exact Or.inl ⟨h, decide_eq_false (by omega)⟩

set_option maxHeartbeats 6400000 in
theorem walk_FieldRoundTrip (w : World) (A : Option Addr) (c : Nat) (L : List ByteArray) (hA : Strs w A L) (hz : Siz L) (hm : L.length ≤ 9223372036854775807) (s : ByteArray) (hs : s.size ≤ maxLen) (hT : Lay w) :
    Calls Tryd.prog 7 #[.slice A L.length c, .string s] w fun e w' => e = .returned (.bool true) ∧ Below w.heap.size w w' := by
  have hms := max_small hs
  have HG := Lib.hid (is_great L A c w hA hz hm)
  have HA := Lib.hid hA
  have HZ := Lib.hid hz
  clear hT hs hA hz
  go_enter Tryd.func7, Tryd.ntmps7
  go_wp2_with fail
  refine HG.out.mono ?_
  rintro e w' ⟨⟨b, rfl⟩, rfl⟩
  cases b with
  | true =>
    go_wp2_with fail
    refine (is_awake _).mono ?_
    rintro e w1 ⟨rfl, hb⟩
    have HB := Lib.hid hb
    clear hb
    go_wp2_with fail
    go_ret
    exact ⟨rfl, HB.out⟩
  | false =>
    rcases wide_test s with ⟨hw, i1⟩ | ⟨hw, i1⟩
    · have h1500 : s.size ≤ 1500 := by omega
      obtain ⟨E2, hE2⟩ : ∃ E, splitE (ls s) = E := ⟨_, rfl⟩
      obtain ⟨L2, hL2⟩ : ∃ L, BB (splitL (ls s)) = L := ⟨_, rfl⟩
      obtain ⟨n2, hn2⟩ : ∃ n, n = L2.length := ⟨_, rfl⟩
      have HS2 : Hid (∀ W : World, _) := fun W => split_is hE2 hL2 hn2 W hms
      have HE2 := Lib.hid hE2
      have HL2 := Lib.hid hL2
      have HN2 := Lib.hid hn2
      have HSZ2 : Hid (Siz L2) := by rw [← hL2]; exact siz_of (n := (ls s).length) (fun x hx => splitL_sub hx) (by rw [ls_len]; omega)
      have HLN2 : Hid (L2.length ≤ 9223372036854775807) := by show _ ≤ _; rw [← hL2, BB_len]; have := splitL_count (ls s); rw [ls_len] at this; omega
      clear hE2 hL2 hn2 hw
      by_cases hj : joinE (LL L) = 0
      · obtain ⟨t, ht⟩ : ∃ t, bs (joinL (LL L)) = t := ⟨_, rfl⟩
        have hjl : joinL (LL L) = lineL (LL L) := by unfold joinL; rw [if_pos hj]
        have hlt : ls t = lineL (LL L) := by rw [← ht, hjl]; exact bs_list _
        have hsp := split_line hj
        rw [← hlt] at hsp
        have htz : t.size ≤ 1024 := by rw [← ls_len, hlt]; exact (joinE_ok.mp hj).2
        have i2 : decide ((1024 : Int) < (t.size : Int)) = false := decide_eq_false (by omega)
        have HJ := Lib.hid (join_is hj ht rfl c w HA.out HZ.out hm)
        have HS1 : Hid (∀ W : World, _) := fun W => split_is (n := L.length) hsp.1 (by rw [hsp.2]; exact BB_LL L) rfl W (by omega)
        clear hj ht hjl hlt hsp
        go_wp2_with fail
        refine HJ.out.mono ?_
        rintro e w1 ⟨rfl, hb⟩
        have HB1 := Lib.hid hb
        clear hb
        go_wp2_with fail
        refine (HS1.out _).mono ?_
        rintro e w2 ⟨A2, c2, rfl, hs2, hb⟩
        have HB2 := Lib.hid (bstep HB1.out hb)
        have HI2 := Lib.hid hs2
        clear hb hs2
        go_wp2_with fail
        refine (same_at (b := true) (decide_eq_true rfl) A2 A rfl rfl c2 c w2 HI2.out.hs (HA.out.on HB2.out) hm hm).mono ?_
        rintro e w3 ⟨rfl, hb⟩
        have HB3 := Lib.hid (bstep HB2.out hb)
        clear hb
        go_wp2_with fail
        refine (HS2.out _).mono ?_
        rintro e w4 ⟨A4, c4, rfl, hs4, hb⟩
        have HB4 := Lib.hid (bstep HB3.out hb)
        have HI4 := Lib.hid hs4
        clear hb hs4
        by_cases he2 : E2 = 0
        · subst he2
          have hjs := join_split HE2.out
          have hlf : bs (joinL (LL L2)) = s := by
            rw [← HL2.out, LL_BB]
            unfold joinL
            rw [if_pos hjs.1, hjs.2]; exact bs_of s
          have HJ2 := Lib.hid (join_is (E := 0) (by rw [← HL2.out, LL_BB]; exact hjs.1) hlf HN2.out c4 w4 HI4.out.hs HSZ2.out HLN2.out)
          have hq := beq_refl s
          clear hjs hlf
          go_wp2_with fail
          refine HJ2.out.mono ?_
          rintro e w5 ⟨rfl, hb⟩
          have HB5 := Lib.hid (bstep HB4.out hb)
          clear hb
          go_wp2_with fail
          refine (is_awake _).mono ?_
          rintro e w6 ⟨rfl, hb⟩
          have HB6 := Lib.hid (bstep HB5.out hb)
          clear hb
          go_wp2_with fail
          go_ret
          exact ⟨rfl, HB6.out⟩
        · have he3 : (E2 == 0) = false := beq_false_of_ne he2
          have hn0 : n2 = 0 := by
            rw [HN2.out, ← HL2.out, BB_len, splitL_no (by rw [HE2.out]; exact he2)]; rfl
          subst hn0
          go_wp2_with fail
          refine (is_awake _).mono ?_
          rintro e w6 ⟨rfl, hb⟩
          have HB6 := Lib.hid (bstep HB4.out hb)
          clear hb
          go_wp2_with fail
          go_ret
          exact ⟨rfl, HB6.out⟩
      · have hj2 : (joinE (LL L) == 0) = false := beq_false_of_ne hj
        have HJ := Lib.hid (join_is rfl rfl rfl c w HA.out HZ.out hm)
        go_wp2_with fail
        refine HJ.out.mono ?_
        rintro e w3 ⟨rfl, hb⟩
        have HB3 := Lib.hid hb
        clear hb
        go_wp2_with fail
        refine (HS2.out _).mono ?_
        rintro e w4 ⟨A4, c4, rfl, hs4, hb⟩
        have HB4 := Lib.hid (bstep HB3.out hb)
        have HI4 := Lib.hid hs4
        clear hb hs4
        by_cases he2 : E2 = 0
        · subst he2
          have hjs := join_split HE2.out
          have hlf : bs (joinL (LL L2)) = s := by
            rw [← HL2.out, LL_BB]
            unfold joinL
            rw [if_pos hjs.1, hjs.2]; exact bs_of s
          have HJ2 := Lib.hid (join_is (E := 0) (by rw [← HL2.out, LL_BB]; exact hjs.1) hlf HN2.out c4 w4 HI4.out.hs HSZ2.out HLN2.out)
          have hq := beq_refl s
          clear hjs hlf
          go_wp2_with fail
          refine HJ2.out.mono ?_
          rintro e w5 ⟨rfl, hb⟩
          have HB5 := Lib.hid (bstep HB4.out hb)
          clear hb
          go_wp2_with fail
          refine (is_awake _).mono ?_
          rintro e w6 ⟨rfl, hb⟩
          have HB6 := Lib.hid (bstep HB5.out hb)
          clear hb
          go_wp2_with fail
          go_ret
          exact ⟨rfl, HB6.out⟩
        · have he3 : (E2 == 0) = false := beq_false_of_ne he2
          have hn0 : n2 = 0 := by
            rw [HN2.out, ← HL2.out, BB_len, splitL_no (by rw [HE2.out]; exact he2)]; rfl
          subst hn0
          go_wp2_with fail
          refine (is_awake _).mono ?_
          rintro e w6 ⟨rfl, hb⟩
          have HB6 := Lib.hid (bstep HB4.out hb)
          clear hb
          go_wp2_with fail
          go_ret
          exact ⟨rfl, HB6.out⟩
    · go_wp2_with fail
      refine (is_awake _).mono ?_
      rintro e w1 ⟨rfl, hb⟩
      have HB := Lib.hid hb
      clear hb
      go_wp2_with fail
      go_ret
      exact ⟨rfl, HB.out⟩
#print axioms walk_FieldRoundTrip
end Go.Proofs.YthiebggamfmjgaaDoor.Field
