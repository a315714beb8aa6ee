/- Walks of FieldJoins, FieldSplits, FieldLines, FieldNumbers, FieldRoundTrip. -/
import Derived.Test.YthiebggamfmjgaaDoorFieldN
import Derived.Lib.ItoaNum
import Derived.Lib.AppendIntMem
namespace Go.Proofs.YthiebggamfmjgaaDoor.Field
open Go.ChangeShapes Go.WideShapes Go.RowKit
set_option linter.unusedVariables false
set_option maxRecDepth 100000

/-- The library's table and sentinel, as the program's text lays them. -/
structure Lay (w : World) : Prop where
  tab : Lib.TabBelow Tryd.prog w.heap.size w "internal/strconv.uint64pow10" .u64 Lib.pow10Tab
  err : ∀ w', Below w.heap.size w w' → ∃ tp p, w'.var? Tryd.prog "strconv.ErrRange" = some #[.iface tp p]
theorem beq_refl (s : ByteArray) : (s.toList == s.toList) = true := beq_yes rfl

set_option maxHeartbeats 1600000 in
theorem walk_FieldJoins (w : World) (A : Option Addr) (c : Nat) (L : List ByteArray) (hA : Strs w A L) (hz : Siz L) (hm : L.length ≤ 9223372036854775807) (hT : Lay w) :
    Calls Tryd.prog 3 #[.slice A L.length c] w fun e w' => e = .returned (.bool true) ∧ Below w.heap.size w w' := by
  obtain ⟨E, hE⟩ : ∃ E, joinE (LL L) = E := ⟨_, rfl⟩
  obtain ⟨t, ht⟩ : ∃ t, bs (joinL (LL L)) = t := ⟨_, rfl⟩
  have HG := Lib.hid (is_great L A c w hA hz hm)
  have HJ := Lib.hid (join_is hE ht rfl c w hA hz hm)
  have HR : Hid (∀ W, Below w.heap.size w W → Calls Tryd.prog 15 #[.slice A L.length c] W fun e w' => e = .returned (.tuple #[.string t, .int .i64 E]) ∧ W = w') := fun W hW => rjoin_is hE ht rfl c W (hA.on hW) hz hm
  have hq := beq_refl t
  clear hA hz hE ht hT
  go_enter Tryd.func3, Tryd.ntmps3
  go_wp2_with fail
  refine HG.out.mono ?_
  rintro e w' ⟨⟨b, rfl⟩, rfl⟩
  cases b with
  | true =>
    go_wp2_with fail
    refine (is_awake _).mono ?_
    rintro e w1 ⟨rfl, hb⟩
    have HB := Lib.hid hb
    clear hb
    go_wp2_with fail
    go_ret
    exact ⟨rfl, HB.out⟩
  | false =>
    go_wp2_with fail
    refine HJ.out.mono ?_
    rintro e w1 ⟨rfl, hb⟩
    have HB := Lib.hid hb
    clear hb
    go_wp2_with fail
    refine (HR.out _ HB.out).mono ?_
    rintro e w2 ⟨rfl, rfl⟩
    go_wp2_with fail
    refine (is_awake _).mono ?_
    rintro e w3 ⟨rfl, hb⟩
    have HB3 := Lib.hid (bstep HB.out hb)
    clear hb
    go_wp2_with fail
    go_ret
    exact ⟨rfl, HB3.out⟩

set_option maxHeartbeats 1600000 in
theorem walk_FieldSplits (w : World) (s : ByteArray) (hs : s.size ≤ maxLen) (hT : Lay w) :
    Calls Tryd.prog 4 #[.string s] w fun e w' => e = .returned (.bool true) ∧ Below w.heap.size w w' := by
  have hm := max_small hs
  clear hT hs
  by_cases hbig : 1500 < s.size
  · have i1 : (1500 : Int) < (s.size : Int) := by omega
    go_enter Tryd.func4, Tryd.ntmps4
    go_wp2_with fail
    refine (is_awake _).mono ?_
    rintro e w1 ⟨rfl, hb⟩
    have HB := Lib.hid hb
    clear hb
    go_wp2_with fail
    go_ret
    exact ⟨rfl, HB.out⟩
  · have i1 : decide ((1500 : Int) < (s.size : Int)) = false := decide_eq_false (by omega)
    obtain ⟨E, hE⟩ : ∃ E, splitE (ls s) = E := ⟨_, rfl⟩
    obtain ⟨L, hL⟩ : ∃ L, BB (splitL (ls s)) = L := ⟨_, rfl⟩
    obtain ⟨n, hn⟩ : ∃ n, n = L.length := ⟨_, rfl⟩
    have HS := Lib.hid (split_is hE hL hn w hm)
    have HR : Hid (∀ W : World, _) := fun W => rsplit_is hE hL hn W hm
    have HN := Lib.hid hn
    clear hE hL hn hbig
    go_enter Tryd.func4, Tryd.ntmps4
    go_wp2_with fail
    refine HS.out.mono ?_
    rintro e w1 ⟨A1, c1, rfl, hs1, hb⟩
    have HB1 := Lib.hid hb
    have HS1 := Lib.hid hs1
    clear hb hs1
    go_wp2_with fail
    refine (HR.out _).mono ?_
    rintro e w2 ⟨A2, c2, rfl, hs2, hb⟩
    have HB2 := Lib.hid hb
    have HS2 := Lib.hid hs2
    clear hb hs2
    go_wp2_with fail
    refine (same_at (b := true) (decide_eq_true rfl) A1 A2 HN.out HN.out c1 c2 w2 (HS1.out.hs.on HB2.out) HS2.out.hs HS1.out.len HS1.out.len).mono ?_
    rintro e w3 ⟨rfl, hb⟩
    have HB3 := Lib.hid (bstep HB1.out (bstep HB2.out hb))
    clear hb
    go_wp2_with fail
    refine (is_awake _).mono ?_
    rintro e w4 ⟨rfl, hb⟩
    have HB4 := Lib.hid (bstep HB3.out hb)
    clear hb
    go_wp2_with fail
    go_ret
    exact ⟨rfl, HB4.out⟩

set_option maxHeartbeats 1600000 in
theorem walk_FieldLines (w : World) (s : ByteArray) (hs : s.size ≤ maxLen) (hT : Lay w) :
    Calls Tryd.prog 5 #[.string s] w fun e w' => e = .returned (.bool true) ∧ Below w.heap.size w w' := by
  have hm := max_small hs
  clear hT hs
  by_cases hbig : 3000 < s.size
  · have i1 : (3000 : Int) < (s.size : Int) := by omega
    go_enter Tryd.func5, Tryd.ntmps5
    go_wp2_with fail
    refine (is_awake _).mono ?_
    rintro e w1 ⟨rfl, hb⟩
    have HB := Lib.hid hb
    clear hb
    go_wp2_with fail
    go_ret
    exact ⟨rfl, HB.out⟩
  · have i1 : decide ((3000 : Int) < (s.size : Int)) = false := decide_eq_false (by omega)
    obtain ⟨E, hE⟩ : ∃ E, linesE (ls s) = E := ⟨_, rfl⟩
    obtain ⟨L, hL⟩ : ∃ L, GG (linesL (ls s)) = L := ⟨_, rfl⟩
    obtain ⟨n, hn⟩ : ∃ n, n = L.length := ⟨_, rfl⟩
    have HS := Lib.hid (lines_is hE hL hn w (by omega))
    have HR : Hid (∀ W : World, _) := fun W => rlines_is hE hL hn W (by omega)
    have HN := Lib.hid hn
    clear hE hL hn hbig
    go_enter Tryd.func5, Tryd.ntmps5
    go_wp2_with fail
    refine HS.out.mono ?_
    rintro e w1 ⟨A1, c1, rfl, hs1, hb⟩
    have HB1 := Lib.hid hb
    have HS1 := Lib.hid hs1
    clear hb hs1
    go_wp2_with fail
    refine (HR.out _).mono ?_
    rintro e w2 ⟨A2, c2, rfl, hs2, hb⟩
    have HB2 := Lib.hid hb
    have HS2 := Lib.hid hs2
    clear hb hs2
    go_wp2_with fail
    refine (sameAll_at (b := true) (decide_eq_true rfl) A1 A2 HN.out HN.out c1 c2 w2 (HS1.out.hs.on HB2.out) HS2.out.hs HS1.out.len HS1.out.len).mono ?_
    rintro e w3 ⟨rfl, hb⟩
    have HB3 := Lib.hid (bstep HB1.out (bstep HB2.out hb))
    clear hb
    go_wp2_with fail
    refine (is_awake _).mono ?_
    rintro e w4 ⟨rfl, hb⟩
    have HB4 := Lib.hid (bstep HB3.out hb)
    clear hb
    go_wp2_with fail
    go_ret
    exact ⟨rfl, HB4.out⟩

set_option maxHeartbeats 1600000 in
theorem walk_FieldNumbers (w : World) (s : ByteArray) (hs : s.size ≤ maxLen) (hT : Lay w) :
    Calls Tryd.prog 6 #[.string s] w fun e w' => e = .returned (.bool true) ∧ Below w.heap.size w w' := by
  have hm := max_small hs
  by_cases hbig : 200 < s.size
  · have i1 : (200 : Int) < (s.size : Int) := by omega
    clear hT hs
    go_enter Tryd.func6, Tryd.ntmps6
    go_wp2_with fail
    refine (is_awake _).mono ?_
    rintro e w1 ⟨rfl, hb⟩
    have HB := Lib.hid hb
    clear hb
    go_wp2_with fail
    go_ret
    exact ⟨rfl, HB.out⟩
  · have i1 : decide ((200 : Int) < (s.size : Int)) = false := decide_eq_false (by omega)
    obtain ⟨E, hE⟩ : ∃ E, numE (ls s) = E := ⟨_, rfl⟩
    obtain ⟨v, hv⟩ : ∃ v, numV (ls s) = v := ⟨_, rfl⟩
    have HS := Lib.hid (num_is hE hv w (by omega) (fun _ => hT.err w (Below.refl _ _)))
    have HR : Hid (∀ W : World, _) := fun W => rnum_is hE hv W hm
    clear hE hv hbig hT hs
    go_enter Tryd.func6, Tryd.ntmps6
    go_wp2_with fail
    refine HS.out.mono ?_
    rintro e w1 ⟨rfl, hb⟩
    have HB1 := Lib.hid hb
    clear hb
    go_wp2_with fail
    refine (HR.out _).mono ?_
    rintro e w2 ⟨rfl, rfl⟩
    go_wp2_with fail
    refine (is_awake _).mono ?_
    rintro e w4 ⟨rfl, hb⟩
    have HB4 := Lib.hid (bstep HB1.out hb)
    clear hb
    go_wp2_with fail
    go_ret
    exact ⟨rfl, HB4.out⟩
#print axioms walk_FieldJoins
#print axioms walk_FieldSplits
#print axioms walk_FieldLines
#print axioms walk_FieldNumbers
end Go.Proofs.YthiebggamfmjgaaDoor.Field
