/- Contracts of the laws' own functions none, same, awake. -/
import Derived.Test.YtbmedekfhifcpaaIdentI
namespace Go.Proofs.Ytbmedekfhifcpaa.Ident
open Go.ChangeShapes Go.WideShapes Go.RowKit Go.Lib
set_option linter.unusedVariables false
set_option maxRecDepth 100000

theorem is_none (w : World) : Calls Try.prog 24 #[.pointer none] w fun e w' => e = .returned (.bool true) ∧ Below w.heap.size w w' := by
  have HA := Lib.hid (is_all (.pointer none) [] 3 w (nil_allOf w) (by simp) (by simp))
  go_enter Try.func24, Try.ntmps24
  go_wp2_with fail
  refine HA.out.mono ?_
  rintro e w' ⟨A1, c1, A2, c2, rfl, -, -, hb⟩
  have HB := Lib.hid hb
  clear hb
  go_wp2_with fail
  go_ret
  exact ⟨rfl, HB.out⟩

set_option maxHeartbeats 3200000 in
theorem is_same {b : Nat} {S : Nat → Prop} {L : List ByteArray} (A : Option Addr) (c : Nat) {w : World} (ht : Tb w b S L) (ha : Strs w A L) :
    Calls Try.prog 15 #[.pointer (some ⟨b, 0, none⟩), .slice A L.length c] w fun e w' => e = .returned (.bool true) ∧ Below w.heap.size w w' := by
  have hl := ht.good.len
  have HA := Lib.hid (is_all (.pointer (some ⟨b, 0, none⟩)) L ((L.length : Int) + 1) w ht.allOf hl (by omega))
  have HT := Lib.hid ht
  have HS := Lib.hid ha
  have HG := Lib.hid ht.good
  clear ht ha
  go_enter Try.func15, Try.ntmps15
  go_wp2_with fail
  refine HA.out.mono ?_
  rintro e w1 ⟨A1, c1, A2, c2, rfl, hi, hs, hb⟩
  have HI := Lib.hid hi
  have HS2 := Lib.hid hs
  have HB := Lib.hid hb
  have HT1 := Lib.hid (HT.out.on hb)
  have HS1 := Lib.hid (HS.out.on hb)
  clear hi hs hb
  go_wp2_with fail
  refine (ident_Len HT1.out).mono ?_
  rintro e w' ⟨rfl, rfl⟩
  go_wp2_with fail
  go_loopw [7] (fun i wr => ∃ k : Nat, k ≤ L.length ∧ i = .int .i64 k ∧ Below w1.heap.size w1 wr) (fun i _ => L.length - (intOf i).toNat)
  case atStart => exact ⟨0, Nat.zero_le _, rfl, Below.refl _ _⟩
  case round =>
    obtain ⟨k, hk, rfl, hbr⟩ := hrel
    have HBR := Lib.hid hbr
    clear hbr
    rcases Nat.lt_or_ge k L.length with hlt | hge
    · obtain ⟨s, hs⟩ := get_lt hlt
      have hsz : s.size ≤ maxLen := by
        have := (validB_size (HG.out.valid s (List.mem_of_getElem? hs))).2
        unfold maxLen; omega
      obtain ⟨b1, off1, rfl, hb1, hc1⟩ := HS1.out.on HBR.out k s hs
      obtain ⟨b2, off2, rfl, hb2, hc2⟩ := HS2.out.on HBR.out k s hs
      obtain ⟨b3, off3, rfl, hb3, hc3⟩ := HI.out.on HBR.out k (k : Int) (iota_at hlt)
      have HN := ident_Name (k : Int) (HT1.out.on HBR.out)
      rw [(nam_at hs).1, (nam_at hs).2] at HN
      have HF := ident_Find (HT1.out.on HBR.out) hsz
      rw [(fnd_some (pos_at HG.out.nodup hs)).1, (fnd_some (pos_at HG.out.nodup hs)).2] at HF
      have i1 : (k : Int) < (L.length : Int) := by omega
      have i2 : (0 : Int) ≤ (k : Int) := by omega
      have HNN := Lib.hid HN
      have HFF := Lib.hid HF
      clear hs hsz HN HF
      go_wp2_with fail
      refine HNN.out.mono ?_
      rintro e w' ⟨rfl, rfl⟩
      go_wp2_with fail
      refine HFF.out.mono ?_
      rintro e w' ⟨rfl, rfl⟩
      go_wp2_with fail
      go_quiet (fail)
      go_wp2_with fail
      go_roundw
      case rel => exact ⟨k + 1, by omega, by go_num, below_drewN HBR.out _⟩
      case measure => simp [intOf]; omega
    · obtain rfl : k = L.length := by omega
      go_wp2_with fail
      go_ret
      exact ⟨rfl, bstep HB.out HBR.out⟩

/-! ### The examples of the chapter -/
def sBirch : ByteArray := ⟨#[98, 105, 114, 99, 104]⟩
def sPine : ByteArray := ⟨#[112, 105, 110, 101]⟩
def sOak : ByteArray := ⟨#[111, 97, 107]⟩
def sA : ByteArray := ⟨#[97]⟩
def sDash : ByteArray := ⟨#[45]⟩
theorem strs_lit2 (w : World) (a b : ByteArray) (t : TypeId) : Strs (w.alloc (.cells #[.string a, .string b] t)) (some ⟨w.heap.size, 0, none⟩) [a, b] := by
  intro k z hz
  match k, hz with
  | 0, hz => simp at hz; subst hz; exact ⟨_, 0, rfl, by simp, by simp⟩
  | 1, hz => simp at hz; subst hz; exact ⟨_, 0, rfl, by simp, by simp⟩
theorem strs_lit3 (w : World) (a b c : ByteArray) (t : TypeId) : Strs (w.alloc (.cells #[.string a, .string b, .string c] t)) (some ⟨w.heap.size, 0, none⟩) [a, b, c] := by
  intro k z hz
  match k, hz with
  | 0, hz => simp at hz; subst hz; exact ⟨_, 0, rfl, by simp, by simp⟩
  | 1, hz => simp at hz; subst hz; exact ⟨_, 0, rfl, by simp, by simp⟩
  | 2, hz => simp at hz; subst hz; exact ⟨_, 0, rfl, by simp, by simp⟩
theorem siz_of {L : List ByteArray} (h : L.all (fun s => decide (s.size ≤ 100)) = true) : Siz L := fun s hs => by
  have := List.all_eq_true.mp h s hs
  simp at this; unfold maxLen; omega
theorem add_is {b : Nat} {S : Nat → Prop} {L L' : List ByteArray} {s : ByteArray} {n E : Int} {w : World} (ht : Tb w b S L) (hs : s.size ≤ 100) (h1 : addI L s = n) (h2 : addE L s = E) (h3 : addL L s = L') :
    Calls Try.prog 16 #[.pointer (some ⟨b, 0, none⟩), .string s] w fun e w' => e = .returned (.tuple #[.int .i64 n, .int .i64 E]) ∧ Adds w b S L' w' := by
  subst h1 h2 h3
  exact ident_Add ht (by unfold maxLen; omega)
theorem find_at {b : Nat} {S : Nat → Prop} {L : List ByteArray} {s : ByteArray} {n : Int} {r : Bool} {w : World} (ht : Tb w b S L) (hs : s.size ≤ 100) (h1 : fndI s L = n) (h2 : fndB s L = r) :
    Calls Try.prog 18 #[.pointer (some ⟨b, 0, none⟩), .string s] w fun e w' => e = .returned (.tuple #[.int .i64 n, .bool r]) ∧ w = w' := by
  subst h1 h2
  exact ident_Find ht (by unfold maxLen; omega)
theorem name_at {b : Nat} {S : Nat → Prop} {L : List ByteArray} {i : Int} {s : ByteArray} {r : Bool} {w : World} (ht : Tb w b S L) (h1 : namS i L = s) (h2 : namB i L = r) :
    Calls Try.prog 20 #[.pointer (some ⟨b, 0, none⟩), .int .i64 i] w fun e w' => e = .returned (.tuple #[.string s, .bool r]) ∧ w = w' := by
  subst h1 h2
  exact ident_Name i ht
theorem new_ok {L : List ByteArray} (h : newE L = 0) {A : Option Addr} {c : Nat} {w : World} (ha : Strs w A L) (hz : Siz L) (hm : L.length ≤ 600) :
    Calls Try.prog 13 #[.slice A L.length c] w fun e w' => Below w.heap.size w w' ∧ ∃ b S, e = .returned (.tuple #[.pointer (some ⟨b, 0, none⟩), .int .i64 0]) ∧ Tb w' b S L ∧ ∀ k, S k → w.heap.size ≤ k :=
  (ident_New L A c w ha hz (by omega)).mono fun e w' ⟨hb, h'⟩ => ⟨hb, by rcases h' with ⟨_, h'⟩ | ⟨h', _⟩; exact h'; exact absurd h h'⟩
theorem new_no {L : List ByteArray} {E : Int} (h : newE L = E) (h0 : E ≠ 0) {A : Option Addr} {c : Nat} {w : World} (ha : Strs w A L) (hz : Siz L) (hm : L.length ≤ 600) :
    Calls Try.prog 13 #[.slice A L.length c] w fun e w' => e = .returned (.tuple #[.pointer none, .int .i64 E]) ∧ Below w.heap.size w w' :=
  (ident_New L A c w ha hz (by omega)).mono fun e w' ⟨hb, h'⟩ => by
    rcases h' with ⟨h', _⟩ | ⟨_, h'⟩
    · rw [h] at h'; exact absurd h' h0
    · rw [h] at h'; exact ⟨h', hb⟩

set_option maxHeartbeats 3200000 in
theorem is_awake (w : World) : Calls Try.prog 12 #[] w fun e w' => e = .returned (.bool true) ∧ Below w.heap.size w w' := by
  have HN1 := Lib.hid (new_ok (L := [sBirch, sPine]) (by decide +kernel) (c := 2) (strs_lit2 w sBirch sPine 9) (siz_of (by decide +kernel)) (by decide))
  go_enter Try.func12, Try.ntmps12
  go_wp2_with fail
  refine HN1.out.mono ?_
  rintro e w1 ⟨hb1, b, S, rfl, ht, hS⟩
  have HB1 := Lib.hid hb1
  have HT1 := Lib.hid ht
  have HS1 := Lib.hid hS
  clear hb1 ht hS
  have v1 := valid_is (s := ⟨#[80, 45, 50, 46, 98, 95, 55]⟩) (b := true) (by decide +kernel) (by decide +kernel) w1
  have v2 := valid_is (s := ⟨#[50, 97]⟩) (b := false) (by decide +kernel) (by decide +kernel) w1
  have v3 := valid_is (s := ⟨#[]⟩) (b := false) (by decide +kernel) (by decide +kernel) w1
  have v4 := valid_is (s := ⟨#[97, 32, 98]⟩) (b := false) (by decide +kernel) (by decide +kernel) w1
  have V1 := Lib.hid v1
  have V2 := Lib.hid v2
  have V3 := Lib.hid v3
  have V4 := Lib.hid v4
  clear v1 v2 v3 v4
  go_wp2_with fail
  refine (ident_Len HT1.out).mono ?_
  rintro e w' ⟨rfl, rfl⟩
  go_wp2_with fail
  refine V1.out.mono ?_
  rintro e w' ⟨rfl, rfl⟩
  go_wp2_with fail
  refine V2.out.mono ?_
  rintro e w' ⟨rfl, rfl⟩
  go_wp2_with fail
  refine V3.out.mono ?_
  rintro e w' ⟨rfl, rfl⟩
  go_wp2_with fail
  refine V4.out.mono ?_
  rintro e w' ⟨rfl, rfl⟩
  go_wp2_with fail
  refine (find_at (s := sPine) (n := 1) (r := true) HT1.out (by decide +kernel) (by decide +kernel) (by decide +kernel)).mono ?_
  rintro e w' ⟨rfl, rfl⟩
  go_wp2_with fail
  refine (name_at (s := sBirch) (r := true) HT1.out (by decide +kernel) (by decide +kernel)).mono ?_
  rintro e w' ⟨rfl, rfl⟩
  go_wp2_with fail
  refine (name_at (s := ByteArray.empty) (r := false) HT1.out (by decide +kernel) (by decide +kernel)).mono ?_
  rintro e w' ⟨rfl, rfl⟩
  go_wp2_with fail
  refine (add_is (s := sPine) (n := 0) (E := 6) (L' := [sBirch, sPine]) HT1.out (by decide +kernel) (by decide +kernel) (by decide +kernel) (by decide +kernel)).mono ?_
  rintro e w2 ⟨rfl, S2, ht, h2, h3⟩
  have HT2 := Lib.hid ht
  have HS2 := Lib.hid h2
  have HO2 := Lib.hid h3
  clear ht h2 h3
  go_wp2_with fail
  refine (add_is (s := ⟨#[]⟩) (n := 0) (E := 5) (L' := [sBirch, sPine]) HT2.out (by decide +kernel) (by decide +kernel) (by decide +kernel) (by decide +kernel)).mono ?_
  rintro e w3 ⟨rfl, S3, ht, h2, h3⟩
  have HT3 := Lib.hid ht
  have HS3 := Lib.hid h2
  have HO3 := Lib.hid h3
  clear ht h2 h3
  go_wp2_with fail
  refine (add_is (s := sOak) (n := 2) (E := 0) (L' := [sBirch, sPine, sOak]) HT3.out (by decide +kernel) (by decide +kernel) (by decide +kernel) (by decide +kernel)).mono ?_
  rintro e w4 ⟨rfl, S4, ht, h2, h3⟩
  have HT4 := Lib.hid ht
  have HS4 := Lib.hid h2
  have HO4 := Lib.hid h3
  have HN5 := Lib.hid (new_no (L := [sA, sA, sDash]) (E := 5) (by decide +kernel) (by decide) (c := 3) (strs_lit3 w4 sA sA sDash 9) (siz_of (by decide +kernel)) (by decide))
  clear ht h2 h3
  go_wp2_with fail
  refine HN5.out.mono ?_
  rintro e w5 ⟨rfl, h5⟩
  have HB5 := Lib.hid h5
  have HN6 := Lib.hid (new_no (L := [sA, sA]) (E := 6) (by decide +kernel) (by decide) (c := 2) (strs_lit2 w5 sA sA 9) (siz_of (by decide +kernel)) (by decide))
  clear h5
  go_wp2_with fail
  refine HN6.out.mono ?_
  rintro e w6 ⟨rfl, h6⟩
  have HB6 := Lib.hid h6
  clear h6
  have hbq : (sBirch.toList == [98, 105, 114, 99, 104]) = true := by rw [ByteArray.toList_eq]; rfl
  have HB46 : Hid (Below w4.heap.size w4 w6) := bstep (bstep (below_alloc _ _) HB5.out) (bstep (below_alloc _ _) HB6.out)
  go_wp2_with fail
  refine (ident_Len (HT4.out.on HB46.out)).mono ?_
  rintro e w' ⟨rfl, rfl⟩
  go_wp2_with fail
  go_ret
  refine ⟨rfl, ?_⟩
  have s1 := HB1.out.size
  have s2 := HO2.out.size
  have s3 := HO3.out.size
  have s4 := HO4.out.size
  have z : (w.alloc (.cells #[.string sBirch, .string sPine] 9)).heap.size = w.heap.size + 1 := by simp
  have q1 : ∀ k, S k → w.heap.size ≤ k := fun k hk => by have := HS1.out k hk; omega
  have q2 : ∀ k, S2 k → w.heap.size ≤ k := fun k hk => by rcases HS2.out k hk with h | h; exact q1 k h; omega
  have q3 : ∀ k, S3 k → w.heap.size ≤ k := fun k hk => by rcases HS3.out k hk with h | h; exact q2 k h; omega
  have c1 : Below w.heap.size w w1 := bstep (below_alloc _ _) HB1.out
  have c2 := c1.trans (HO2.out.below (by omega) q1)
  have c3 := c2.trans (HO3.out.below (by omega) q2)
  have c4 := c3.trans (HO4.out.below (by omega) q3)
  exact c4.trans (HB46.out.mono (by omega))
#print axioms is_none
#print axioms is_same
#print axioms is_awake
end Go.Proofs.Ytbmedekfhifcpaa.Ident
