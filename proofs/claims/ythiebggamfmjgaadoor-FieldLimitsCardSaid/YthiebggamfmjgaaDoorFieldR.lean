/- Walk of FieldLimits. -/
import Derived.Test.YthiebggamfmjgaaDoorFieldP
namespace Go.Proofs.YthiebggamfmjgaaDoor.Field
open Go.ChangeShapes Go.WideShapes Go.RowKit
set_option linter.unusedVariables false
set_option maxRecDepth 100000

theorem cat_any2 (a b : ByteArray) (h : a.size + b.size ≤ 9223372036854775807) : ∃ t : ByteArray, t.size = a.size + b.size ∧ ∀ W : World, (Op.stringOp .add a b).run Tryd.prog W = .ok (.string t) W :=
  ⟨a ++ b, ByteArray.size_append, fun W => run_string_add_sum W a b h⟩
theorem byte_of_int {c : Int} (h0 : 0 ≤ c) (h1 : c ≤ 255) : ∃ x : UInt8, c = (x.toNat : Int) := by
  refine ⟨UInt8.ofNat c.toNat, ?_⟩
  rw [UInt8.toNat_ofNat', Nat.mod_eq_of_lt (by omega)]; omega
theorem rep_is (s : ByteArray) (k : Nat) (hs : s.size = 1) (hk : k < 300) : ∃ t : ByteArray, t.size = k ∧ ∀ W : World, Calls Tryd.prog 28 #[.string s, .int .i64 (k : Int)] W fun e w' => e = .returned (.string t) ∧ Below W.heap.size W w' :=
  ⟨bs (Lib.repeatL s.data.toList k), by rw [bs_size, Lib.repeatL_length, str_len, hs]; omega, fun W => Tryd.strings_Repeat s k W (by omega) (by rw [hs]; omega)⟩
theorem one_conv (w : World) (x : UInt8) {i : Int} (hx : i = (x.toNat : Int)) :
    (convert 46 9 (.slice (some ⟨w.heap.size, 0, none⟩) 1 1)).run Tryd.prog (w.alloc (.cells #[.int .u8 i] 5)) = .ok (.string (bs [x])) (w.alloc (.cells #[.int .u8 i] 5)) := by
  subst hx
  exact run_convert_bytes_back (P := Tryd.prog) (w.alloc (.cells #[.int .u8 (x.toNat : Int)] 5)) 46 9 5 ⟨w.heap.size, 0, none⟩ 1 [x]
    Tryd.underlying46 Tryd.underlying5 Tryd.underlying9 (fun j hj => by
      match j, hj with
      | 0, hj => rw [Addr.add_lit]; simp)

set_option maxHeartbeats 6400000 in
theorem walk_FieldLimits (w : World) (n : Int) (hn : (Lit.int .u16 n).wf = true) (m : Int) (hm : (Lit.int .u16 m).wf = true) (c : Int) (hc : (Lit.int .u8 c).wf = true) (hT : Lay w) :
    Calls Tryd.prog 11 #[.int .u16 n, .int .u16 m, .int .u8 c] w fun e w' => e = .returned (.bool true) ∧ Below w.heap.size w w' := by
  obtain ⟨n0, n1⟩ : 0 ≤ n ∧ n ≤ 65535 := by simpa [Lit.wf, IntKind.min, IntKind.max, IntKind.signed, IntKind.bits] using hn
  obtain ⟨m0, m1⟩ : 0 ≤ m ∧ m ≤ 65535 := by simpa [Lit.wf, IntKind.min, IntKind.max, IntKind.signed, IntKind.bits] using hm
  obtain ⟨c0, c1⟩ : 0 ≤ c ∧ c ≤ 255 := by simpa [Lit.wf, IntKind.min, IntKind.max, IntKind.signed, IntKind.bits] using hc
  clear hT hn hm hc
  obtain ⟨x, hx⟩ := byte_of_int c0 c1
  obtain ⟨i, hi⟩ : ∃ i : Nat, n % 300 = (i : Int) := ⟨(n % 300).toNat, by omega⟩
  obtain ⟨j, hj⟩ : ∃ j : Nat, m % 300 = (j : Int) := ⟨(m % 300).toNat, by omega⟩
  have hi3 : i < 300 := by omega
  have hj3 : j < 300 := by omega
  obtain ⟨a, ha, HRA⟩ := rep_is (bs [x]) i (by rw [bs_size]; rfl) hi3
  obtain ⟨b, hb, HRB⟩ := rep_is ⟨#[120]⟩ j (by decide) hj3
  obtain ⟨u1, z1, C1⟩ := cat_any2 a ⟨#[32]⟩ (by rw [show (ByteArray.mk #[32]).size = 1 from rfl]; omega)
  obtain ⟨u2, z2, C2⟩ := cat_any2 u1 b (by rw [show (ByteArray.mk #[32]).size = 1 from rfl] at z1; omega)
  obtain ⟨u3, z3, C3⟩ := cat_any2 u2 ⟨#[32]⟩ (by rw [show (ByteArray.mk #[32]).size = 1 from rfl] at *; omega)
  obtain ⟨u4, z4, C4⟩ := cat_any2 u3 b (by rw [show (ByteArray.mk #[32]).size = 1 from rfl] at *; omega)
  obtain ⟨u5, z5, C5⟩ := cat_any2 u4 ⟨#[32]⟩ (by rw [show (ByteArray.mk #[32]).size = 1 from rfl] at *; omega)
  obtain ⟨u6, z6, C6⟩ := cat_any2 u5 b (by rw [show (ByteArray.mk #[32]).size = 1 from rfl] at *; omega)
  obtain ⟨u7, z7, C7⟩ := cat_any2 u6 ⟨#[32]⟩ (by rw [show (ByteArray.mk #[32]).size = 1 from rfl] at *; omega)
  obtain ⟨u8, z8, C8⟩ := cat_any2 u7 a (by rw [show (ByteArray.mk #[32]).size = 1 from rfl] at *; omega)
  have hu8 : u8.size ≤ 9223372036854775807 := by rw [show (ByteArray.mk #[32]).size = 1 from rfl] at *; omega
  obtain ⟨L, hL⟩ : ∃ L, L = [a, b, b, b, a] := ⟨_, rfl⟩
  obtain ⟨E, hE⟩ : ∃ E, joinE (LL L) = E := ⟨_, rfl⟩
  obtain ⟨t, ht⟩ : ∃ t, bs (joinL (LL L)) = t := ⟨_, rfl⟩
  have hsz : Siz L := fun s hs => by
    rw [hL] at hs
    have : s = a ∨ s = b ∨ s = a := by simpa using hs
    unfold maxLen
    rcases this with rfl | rfl | rfl <;> omega
  have hll : L.length = 5 := by rw [hL]; rfl
  have HJ : Hid (∀ (W : World) (g : Nat), Strs W (some ⟨g, 0, none⟩) L → _) := fun W g hS => join_is hE ht (n := 5) hll.symm 5 W hS hsz (by omega)
  have HJR : Hid (∀ (W : World) (g : Nat), Strs W (some ⟨g, 0, none⟩) L → _) := fun W g hS => rjoin_is hE ht (n := 5) hll.symm 5 W hS hsz (by omega)
  have HST : Hid (∀ W : World, Strs (W.alloc (.cells #[.string a, .string b, .string b, .string b, .string a] 9)) (some ⟨W.heap.size, 0, none⟩) L) := fun W => by rw [hL]; exact strs_of W [a, b, b, b, a] _ rfl
  obtain ⟨E2, hE2⟩ : ∃ E, splitE (ls u8) = E := ⟨_, rfl⟩
  obtain ⟨L2, hL2⟩ : ∃ L, BB (splitL (ls u8)) = L := ⟨_, rfl⟩
  obtain ⟨n2, hn2⟩ : ∃ n, n = L2.length := ⟨_, rfl⟩
  have HS : Hid (∀ W : World, _) := fun W => split_is hE2 hL2 hn2 W hu8
  have HSR : Hid (∀ W : World, _) := fun W => rsplit_is hE2 hL2 hn2 W hu8
  have HN2 := Lib.hid hn2
  have hq := beq_refl t
  have hconv := one_conv w x hx
  have HA := Lib.hid HRA
  have HB := Lib.hid HRB
  have hib : (i : Int) ≤ 299 := by omega
  have hjb : (j : Int) ≤ 299 := by omega
  clear hx ha hb HRA HRB z1 z2 z3 z4 z5 z6 z7 z8 hu8 hL hE ht hsz hll hE2 hL2 hn2 hi3 hj3
  go_enter Tryd.func11, Tryd.ntmps11
  go_wp2_with fail
  refine (HA.out _).mono ?_
  rintro e w1 ⟨rfl, hb⟩
  have HB1 := Lib.hid (bstep (below_alloc w _) hb)
  clear hb
  go_wp2_with fail
  refine (HB.out _).mono ?_
  rintro e w2 ⟨rfl, hb⟩
  have HB2 := Lib.hid (bstep HB1.out hb)
  clear hb
  go_wp2_with fail
  refine (HJ.out _ _ (HST.out w2)).mono ?_
  rintro e w3 ⟨rfl, hb⟩
  have HB3 := Lib.hid (bstep (bstep HB2.out (below_alloc _ _)) hb)
  clear hb
  go_wp2_with fail
  refine (HJR.out _ _ (HST.out w3)).mono ?_
  rintro e w4 ⟨rfl, rfl⟩
  have HB4 := Lib.hid (bstep HB3.out (below_alloc w3 (.cells #[.string a, .string b, .string b, .string b, .string a] 9)))
  go_wp2_with fail
  refine (HS.out _).mono ?_
  rintro e w5 ⟨A5, c5, rfl, hs5, hb⟩
  have HB5 := Lib.hid (bstep HB4.out hb)
  have HI5 := Lib.hid hs5
  clear hb hs5
  go_wp2_with fail
  refine (HSR.out _).mono ?_
  rintro e w6 ⟨A6, c6, rfl, hs6, hb⟩
  have HB6 := Lib.hid hb
  have HI6 := Lib.hid hs6
  clear hb hs6
  go_wp2_with fail
  refine (same_at (b := true) (decide_eq_true rfl) A5 A6 HN2.out HN2.out c5 c6 w6 (HI5.out.hs.on HB6.out) HI6.out.hs HI5.out.len HI5.out.len).mono ?_
  rintro e w7 ⟨rfl, hb⟩
  have HB7 := Lib.hid (bstep HB5.out (bstep HB6.out hb))
  clear hb
  go_wp2_with fail
  refine (is_awake _).mono ?_
  rintro e w8 ⟨rfl, hb⟩
  have HB8 := Lib.hid (bstep HB7.out hb)
  clear hb
  go_wp2_with fail
  go_ret
  exact ⟨rfl, HB8.out⟩
#print axioms walk_FieldLimits
end Go.Proofs.YthiebggamfmjgaaDoor.Field
