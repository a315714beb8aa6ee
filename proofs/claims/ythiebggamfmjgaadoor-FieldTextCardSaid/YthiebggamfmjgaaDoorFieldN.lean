/- The contracts at named results; great and awake of the laws. -/
import Derived.Test.YthiebggamfmjgaaDoorFieldM
namespace Go.Proofs.YthiebggamfmjgaaDoor.Field
open Go.ChangeShapes Go.WideShapes Go.RowKit
set_option linter.unusedVariables false
set_option maxRecDepth 100000

/-- A slice of strings that was made since w. -/
structure Sli (w w' : World) (A : Option Addr) (n c : Nat) (L : List ByteArray) : Prop where
  hn : n = L.length
  hc : n ≤ c
  hm : c ≤ maxLen
  hs : Strs w' A L
  new : ∀ a, A = some a → w.heap.size ≤ a.block ∧ a.block < w'.heap.size
theorem Sli.len {w w' : World} {A : Option Addr} {n c : Nat} {L : List ByteArray} (h : Sli w w' A n c L) : L.length ≤ 9223372036854775807 := by have := h.hn; have := h.hc; have := max_small h.hm; omega
theorem own_sli {w w' : World} {v : Value} {L : List ByteArray} {n : Nat} (hn : n = L.length) (h : OwnS w.heap.size w' v L) : ∃ A c, v = .slice A n c ∧ Sli w w' A n c L := by
  subst hn
  obtain ⟨A, c, rfl, h1, h2, h3, h4, -⟩ := h.one
  exact ⟨A, c, rfl, rfl, h1, h2, h3, fun a e => ⟨(h4 a e).2.2.1, (h4 a e).2.2.2⟩⟩
structure Gri (w w' : World) (A : Option Addr) (n c : Nat) (M : List (List ByteArray)) : Prop where
  hn : n = M.length
  hc : n ≤ c
  hm : c ≤ maxLen
  hs : Grd w' A M
theorem Gri.len {w w' : World} {A : Option Addr} {n c : Nat} {M : List (List ByteArray)} (h : Gri w w' A n c M) : M.length ≤ 9223372036854775807 := by have := h.hn; have := h.hc; have := max_small h.hm; omega
theorem split_is {s : ByteArray} {E : Int} {L : List ByteArray} (hE : splitE (ls s) = E) (hL : BB (splitL (ls s)) = L) {n : Nat} (hn : n = L.length) (w : World) (hm : s.size ≤ 9223372036854775807) :
    Calls Tryd.prog 16 #[.string s] w fun e w' => ∃ A c, e = .returned (.tuple #[.slice A n c, .int .i64 E]) ∧ Sli w w' A n c L ∧ Below w.heap.size w w' := by
  refine (field_Split s w hm).mono ?_
  rintro e w' ⟨v, rfl, ho, hb⟩
  rw [hL] at ho
  obtain ⟨A, c, rfl, h⟩ := own_sli hn ho
  exact ⟨A, c, by rw [hE], h, hb⟩
theorem rsplit_is {s : ByteArray} {E : Int} {L : List ByteArray} (hE : splitE (ls s) = E) (hL : BB (splitL (ls s)) = L) {n : Nat} (hn : n = L.length) (w : World) (hm : s.size ≤ 9223372036854775807) :
    Calls Tryd.prog 17 #[.string s] w fun e w' => ∃ A c, e = .returned (.tuple #[.slice A n c, .int .i64 E]) ∧ Sli w w' A n c L ∧ Below w.heap.size w w' := by
  refine (ref_Split s w hm).mono ?_
  rintro e w' ⟨v, rfl, ho, hb⟩
  rw [hL] at ho
  obtain ⟨A, c, rfl, h⟩ := own_sli hn ho
  exact ⟨A, c, by rw [hE], h, hb⟩
theorem own_gri {w w' : World} {v : Value} {M : List (List ByteArray)} {n : Nat} (hn : n = M.length) (h : OwnG w.heap.size w' v M) : ∃ A c, v = .slice A n c ∧ Gri w w' A n c M := by
  subst hn
  obtain ⟨A, c, rfl, h1, h2, h3, -⟩ := h.grd
  exact ⟨A, c, rfl, rfl, h1, h2, h3⟩
theorem lines_is {s : ByteArray} {E : Int} {M : List (List ByteArray)} (hE : linesE (ls s) = E) (hL : GG (linesL (ls s)) = M) {n : Nat} (hn : n = M.length) (w : World) (hm : s.size ≤ 500000) :
    Calls Tryd.prog 19 #[.string s] w fun e w' => ∃ A c, e = .returned (.tuple #[.slice A n c, .int .i64 E]) ∧ Gri w w' A n c M ∧ Below w.heap.size w w' := by
  refine (field_Lines s w hm).mono ?_
  rintro e w' ⟨v, rfl, ho, hb⟩
  rw [hL] at ho
  obtain ⟨A, c, rfl, h⟩ := own_gri hn ho
  exact ⟨A, c, by rw [hE], h, hb⟩
theorem rlines_is {s : ByteArray} {E : Int} {M : List (List ByteArray)} (hE : linesE (ls s) = E) (hL : GG (linesL (ls s)) = M) {n : Nat} (hn : n = M.length) (w : World) (hm : s.size ≤ 500000) :
    Calls Tryd.prog 20 #[.string s] w fun e w' => ∃ A c, e = .returned (.tuple #[.slice A n c, .int .i64 E]) ∧ Gri w w' A n c M ∧ Below w.heap.size w w' := by
  refine (ref_Lines s w hm).mono ?_
  rintro e w' ⟨v, rfl, ho, hb⟩
  rw [hL] at ho
  obtain ⟨A, c, rfl, h⟩ := own_gri hn ho
  exact ⟨A, c, by rw [hE], h, hb⟩
theorem join_is {L : List ByteArray} {E : Int} {t : ByteArray} (hE : joinE (LL L) = E) (ht : bs (joinL (LL L)) = t) {A : Option Addr} {n : Nat} (hn : n = L.length) (c : Nat) (w : World) (hA : Strs w A L) (hz : Siz L) (hm : L.length ≤ 9223372036854775807) :
    Calls Tryd.prog 14 #[.slice A n c] w fun e w' => e = .returned (.tuple #[.string t, .int .i64 E]) ∧ Below w.heap.size w w' := by
  subst hE ht hn; exact field_Join L A c w hA hz hm
theorem rjoin_is {L : List ByteArray} {E : Int} {t : ByteArray} (hE : joinE (LL L) = E) (ht : bs (joinL (LL L)) = t) {A : Option Addr} {n : Nat} (hn : n = L.length) (c : Nat) (w : World) (hA : Strs w A L) (hz : Siz L) (hm : L.length ≤ 9223372036854775807) :
    Calls Tryd.prog 15 #[.slice A n c] w fun e w' => e = .returned (.tuple #[.string t, .int .i64 E]) ∧ w = w' := by
  subst hE ht hn; exact ref_Join L A c w hA hz hm
theorem num_is {s : ByteArray} {E v : Int} (hE : numE (ls s) = E) (hv : numV (ls s) = v) (w : World) (hm : s.size ≤ 281474976710656) (hR : Lib.atoiAll s.data.toList = .range → ∃ tp p, w.var? Tryd.prog "strconv.ErrRange" = some #[.iface tp p]) :
    Calls Tryd.prog 22 #[.string s] w fun e w' => e = .returned (.tuple #[.int .i64 v, .int .i64 E]) ∧ Below w.heap.size w w' := by
  subst hE hv; exact field_Number s w hm hR
theorem rnum_is {s : ByteArray} {E v : Int} (hE : numE (ls s) = E) (hv : numV (ls s) = v) (w : World) (hm : s.size ≤ 9223372036854775807) :
    Calls Tryd.prog 23 #[.string s] w fun e w' => e = .returned (.tuple #[.int .i64 v, .int .i64 E]) ∧ w = w' := by
  subst hE hv; exact ref_Number s w hm
theorem drawn_below {w w' : World} (h : ∃ n, w' = w.drewN n) : Below w.heap.size w w' := by obtain ⟨n, rfl⟩ := h; exact below_drewN (Below.refl _ _) _
theorem same_at {L M : List ByteArray} {b : Bool} (h : decide (L = M) = b) (A A' : Option Addr) {n m : Nat} (hn : n = L.length) (hm : m = M.length) (c c' : Nat) (w : World) (ha : Strs w A L) (hb : Strs w A' M) (hl : L.length ≤ 9223372036854775807) (hl2 : M.length ≤ 9223372036854775807) :
    Calls Tryd.prog 18 #[.slice A n c, .slice A' m c'] w fun e w' => e = .returned (.bool b) ∧ Below w.heap.size w w' := by
  subst hn hm
  exact (same_is h A A' c c' w ha hb hl hl2).mono fun e w' ⟨he, hw⟩ => ⟨he, drawn_below hw⟩
theorem sameAll_at {L M : List (List ByteArray)} {b : Bool} (h : decide (L = M) = b) (A A' : Option Addr) {n m : Nat} (hn : n = L.length) (hm : m = M.length) (c c' : Nat) (w : World) (ha : Grd w A L) (hb : Grd w A' M) (hl : L.length ≤ 9223372036854775807) (hl2 : M.length ≤ 9223372036854775807) :
    Calls Tryd.prog 21 #[.slice A n c, .slice A' m c'] w fun e w' => e = .returned (.bool b) ∧ Below w.heap.size w w' := by
  subst hn hm
  exact (sameAll_is h A A' c c' w ha hb hl hl2).mono fun e w' ⟨he, hw⟩ => ⟨he, drawn_below hw⟩
/-- A block of strings. -/
theorem strs_of (w : World) (L : List ByteArray) (t : TypeId) {g : Nat} (hg : w.heap.size = g) : Strs (w.alloc (.cells (L.map Value.string).toArray t)) (some ⟨g, 0, none⟩) L := by
  subst hg
  intro k s hk
  refine ⟨_, 0, rfl, by simp, ?_⟩
  rw [cell_of_row _ _ _ _ _ _ (heap_alloc_new w _), Nat.zero_add]
  simp [hk]
/-- A block of one slice of strings. -/
theorem grd_one (w : World) (A : Option Addr) (L : List ByteArray) (n c : Nat) (t : TypeId) {g : Nat} (hg : w.heap.size = g) (hn : n = L.length) (hc : n ≤ c) (hm : c ≤ maxLen) (hs : Strs w A L) (hb : ∀ a, A = some a → a.block < w.heap.size) : Grd (w.alloc (.cells #[.slice A n c] t)) (some ⟨g, 0, none⟩) [L] := by
  subst hg hn
  intro k M hk
  match k, hk with
  | 0, hk =>
    simp at hk; subst hk
    exact ⟨_, 0, rfl, by simp, A, c, by simp, hc, hm, hs.on (below_alloc _ _), fun a e => Nat.lt_of_lt_of_le (hb a e) (below_alloc _ _).size⟩

/-! ### great -/
def IsB (e : Ending) : Prop := ∃ b, e = .returned (.bool b)
set_option maxHeartbeats 800000 in
theorem is_great (L : List ByteArray) (A : Option Addr) (c : Nat) (w : World) (hA : Strs w A L) (hz : Siz L) (hm : L.length ≤ 9223372036854775807) :
    Calls Tryd.prog 12 #[.slice A L.length c] w fun e w' => IsB e ∧ w = w' := by
  have HA := Lib.hid hA
  have HZ := Lib.hid hz
  clear hA hz
  by_cases hbig : 100 < L.length
  · have i1 : (100 : Int) < (L.length : Int) := by omega
    go_enter Tryd.func12, Tryd.ntmps12
    go_wp2_with fail
    go_ret
    exact ⟨⟨_, rfl⟩, rfl⟩
  · have i1 : decide ((100 : Int) < (L.length : Int)) = false := decide_eq_false (by omega)
    go_enter Tryd.func12, Tryd.ntmps12
    go_wp2_with fail
    go_loop [3] (fun i => ∃ k : Nat, k ≤ L.length ∧ i = .int .i64 k) (fun i => L.length - (intOf i).toNat)
    case atStart => exact ⟨0, Nat.zero_le _, rfl⟩
    case round =>
      obtain ⟨k, hk, rfl⟩ := hrel
      rcases Nat.lt_or_ge k L.length with hlt | hge
      · obtain ⟨s, hs⟩ := get_lt hlt
        have hms := (HZ.out.at_ hs).1
        obtain ⟨b, off, rfl, hb, hc⟩ := HA.out k s hs
        clear hs
        by_cases h6 : 600 < s.size
        · have i2 : (600 : Int) < (s.size : Int) := by omega
          go_wp2_with fail
          go_ret
          exact ⟨⟨_, rfl⟩, rfl⟩
        · have i2 : decide ((600 : Int) < (s.size : Int)) = false := decide_eq_false (by omega)
          go_wp2_with fail
          go_round
          case rel => exact ⟨k + 1, by omega, by go_num⟩
          case measure => simp [intOf]; omega
      · obtain rfl : k = L.length := by omega
        go_wp2_with fail
        go_ret
        exact ⟨⟨_, rfl⟩, rfl⟩

/-! ### awake -/
def exL : List ByteArray := [⟨#[97]⟩, ⟨#[]⟩, ⟨#[98, 34, 99]⟩]
set_option maxHeartbeats 6400000 in
theorem is_awake (w : World) : Calls Tryd.prog 13 #[] w fun e w' => e = .returned (.bool true) ∧ Below w.heap.size w w' := by
  have C1 : Hid (∀ W : World, Strs W (some ⟨w.heap.size, 0, none⟩) exL → Calls Tryd.prog 14 #[.slice (some ⟨w.heap.size, 0, none⟩) 3 3] W fun e w' => e = .returned (.tuple #[.string ⟨#[97, 32, 34, 34, 32, 34, 98, 92, 34, 99, 34]⟩, .int .i64 0]) ∧ Below W.heap.size W w') :=
    fun W hW => join_is (L := exL) (by decide +kernel) (by decide +kernel) rfl 3 W hW (by unfold Siz maxLen; decide) (by decide)
  have C2 : Hid (∀ W : World, Calls Tryd.prog 16 #[.string ⟨#[97, 32, 34, 34, 32, 34, 98, 92, 34, 99, 34]⟩] W fun e w' => ∃ A c, e = .returned (.tuple #[.slice A 3 c, .int .i64 0]) ∧ Sli W w' A 3 c exL ∧ Below W.heap.size W w') :=
    fun W => split_is (s := ⟨#[97, 32, 34, 34, 32, 34, 98, 92, 34, 99, 34]⟩) (E := 0) (L := exL) (n := 3) (by decide +kernel) (by decide +kernel) (by decide) W (by decide)
  have C3 : Hid (∀ W : World, Calls Tryd.prog 16 #[.string ⟨#[97, 32, 32, 98]⟩] W fun e w' => ∃ A c, e = .returned (.tuple #[.slice A 0 c, .int .i64 3]) ∧ Sli W w' A 0 c [] ∧ Below W.heap.size W w') :=
    fun W => split_is (s := ⟨#[97, 32, 32, 98]⟩) (E := 3) (L := []) (n := 0) (by decide +kernel) (by decide +kernel) (by decide) W (by decide)
  have C4 : Hid (∀ W : World, Calls Tryd.prog 16 #[.string ⟨#[34, 97, 34]⟩] W fun e w' => ∃ A c, e = .returned (.tuple #[.slice A 0 c, .int .i64 3]) ∧ Sli W w' A 0 c [] ∧ Below W.heap.size W w') :=
    fun W => split_is (s := ⟨#[34, 97, 34]⟩) (E := 3) (L := []) (n := 0) (by decide +kernel) (by decide +kernel) (by decide) W (by decide)
  have C5 : Hid (∀ W : World, Calls Tryd.prog 16 #[.string ⟨#[97, 34, 98]⟩] W fun e w' => ∃ A c, e = .returned (.tuple #[.slice A 0 c, .int .i64 3]) ∧ Sli W w' A 0 c [] ∧ Below W.heap.size W w') :=
    fun W => split_is (s := ⟨#[97, 34, 98]⟩) (E := 3) (L := []) (n := 0) (by decide +kernel) (by decide +kernel) (by decide) W (by decide)
  have C6 : Hid (∀ W : World, Calls Tryd.prog 19 #[.string ⟨#[35, 32, 120, 10, 97, 32, 98, 10, 10]⟩] W fun e w' => ∃ A c, e = .returned (.tuple #[.slice A 1 c, .int .i64 0]) ∧ Gri W w' A 1 c [[⟨#[97]⟩, ⟨#[98]⟩]] ∧ Below W.heap.size W w') :=
    fun W => lines_is (s := ⟨#[35, 32, 120, 10, 97, 32, 98, 10, 10]⟩) (E := 0) (M := [[⟨#[97]⟩, ⟨#[98]⟩]]) (n := 1) (by decide +kernel) (by decide +kernel) (by decide) W (by decide)
  have C7 : Hid (∀ W : World, Calls Tryd.prog 22 #[.string ⟨#[45, 48]⟩] W fun e w' => e = .returned (.tuple #[.int .i64 0, .int .i64 3]) ∧ Below W.heap.size W w') :=
    fun W => num_is (s := ⟨#[45, 48]⟩) (E := 3) (v := 0) (by decide +kernel) (by decide +kernel) W (by decide) (fun h => absurd h (by decide +kernel))
  have C8 : Hid (∀ W : World, Calls Tryd.prog 22 #[.string ⟨#[49, 48, 48, 48, 48, 48, 48, 48, 48, 48, 48, 48, 49]⟩] W fun e w' => e = .returned (.tuple #[.int .i64 0, .int .i64 1]) ∧ Below W.heap.size W w') :=
    fun W => num_is (s := ⟨#[49, 48, 48, 48, 48, 48, 48, 48, 48, 48, 48, 48, 49]⟩) (E := 1) (v := 0) (by decide +kernel) (by decide +kernel) W (by decide) (fun h => absurd h (by decide +kernel))
  have C9 : Hid (∀ W : World, Calls Tryd.prog 22 #[.string ⟨#[45, 49, 48, 48, 48, 48, 48, 48, 48, 48, 48, 48, 48, 48]⟩] W fun e w' => e = .returned (.tuple #[.int .i64 (-1000000000000), .int .i64 0]) ∧ Below W.heap.size W w') :=
    fun W => num_is (s := ⟨#[45, 49, 48, 48, 48, 48, 48, 48, 48, 48, 48, 48, 48, 48]⟩) (E := 0) (v := -1000000000000) (by decide +kernel) (by decide +kernel) W (by decide) (fun h => absurd h (by decide +kernel))
  go_enter Tryd.func13, Tryd.ntmps13
  go_wp2_with fail
  refine (C1.out _ (strs_of w exL _ rfl)).mono ?_
  rintro e w1 ⟨rfl, hb⟩
  have HB1 := Lib.hid (bstep (below_alloc w _) hb)
  clear hb
  go_wp2_with fail
  refine (C2.out _).mono ?_
  rintro e w2 ⟨A2, c2, rfl, hs2, hb⟩
  have HB2 := Lib.hid (bstep HB1.out hb)
  have HS2 := Lib.hid hs2
  clear hs2 hb
  go_wp2_with fail
  refine (C3.out _).mono ?_
  rintro e w3 ⟨A3, c3, rfl, -, hb⟩
  have HB3 := Lib.hid hb
  clear hb
  go_wp2_with fail
  refine (C4.out _).mono ?_
  rintro e w4 ⟨A4, c4, rfl, -, hb⟩
  have HB4 := Lib.hid (bstep HB3.out hb)
  clear hb
  go_wp2_with fail
  refine (C5.out _).mono ?_
  rintro e w5 ⟨A5, c5, rfl, -, hb⟩
  have HB5 := Lib.hid (bstep HB4.out hb)
  clear hb
  go_wp2_with fail
  refine (C6.out _).mono ?_
  rintro e w6 ⟨A6, c6, rfl, hs6, hb⟩
  have HB6 := Lib.hid (bstep HB5.out hb)
  have HS6 := Lib.hid hs6
  clear hb hs6
  go_wp2_with fail
  refine (C7.out _).mono ?_
  rintro e w7 ⟨rfl, hb⟩
  have HB7 := Lib.hid hb
  clear hb
  go_wp2_with fail
  refine (C8.out _).mono ?_
  rintro e w8 ⟨rfl, hb⟩
  have HB8 := Lib.hid (bstep HB7.out hb)
  clear hb
  go_wp2_with fail
  refine (C9.out _).mono ?_
  rintro e w9 ⟨rfl, hb⟩
  have HB9 := Lib.hid (bstep HB8.out hb)
  clear hb
  go_wp2_with fail
  refine (same_at (L := exL) (M := exL) (b := true) (by decide) _ _ (by decide) (by decide) _ _ _ (((HS2.out.hs.on HB6.out).on HB9.out).on (below_alloc _ _)) (strs_of w9 exL _ rfl) (by decide) (by decide)).mono ?_
  rintro e w10 ⟨rfl, hb⟩
  have HB10 := Lib.hid (bstep (bstep HB9.out (below_alloc _ _)) hb)
  clear hb
  go_wp2_with fail
  refine (sameAll_at (L := [[⟨#[97]⟩, ⟨#[98]⟩]]) (M := [[⟨#[97]⟩, ⟨#[98]⟩]]) (b := true) (by decide) _ _ (by decide) (by decide) _ _ _ (((HS6.out.hs.on HB10.out).on (below_alloc _ _)).on (below_alloc _ _)) (grd_one _ _ [⟨#[97]⟩, ⟨#[98]⟩] 2 2 _ (by simp) (by decide) (by decide) (by decide) (strs_of w10 [⟨#[97]⟩, ⟨#[98]⟩] _ rfl) (fun a e => by cases e; simp)) (by decide) (by decide)).mono ?_
  rintro e w11 ⟨rfl, hb⟩
  have HB11 := Lib.hid (bstep (bstep (bstep HB10.out (below_alloc _ _)) (below_alloc _ _)) hb)
  clear hb
  go_wp2_with fail
  go_ret
  exact ⟨rfl, bstep HB2.out (bstep HB6.out HB11.out)⟩
#print axioms is_awake
end Go.Proofs.YthiebggamfmjgaaDoor.Field
