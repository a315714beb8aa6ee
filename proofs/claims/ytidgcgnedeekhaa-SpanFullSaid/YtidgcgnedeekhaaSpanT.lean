/- The examples that every law of layer 4 asks; slices of spans that came in. -/
import Derived.Test.YtidgcgnedeekhaaSpanR
import Derived.Test.YtidgcgnedeekhaaSpanS
import Derived.Test.YtidgcgnedeekhaaLawKit
import Derived.Deep.Slices
namespace Go.Proofs.Ytidgcgnedeekhaa.Span
open Go.ChangeShapes Go.WideShapes Go.RowKit Go.Lib Go.Proofs
set_option linter.unusedVariables false
set_option maxRecDepth 100000

theorem lit_sps (w : World) (L : List Sp) (t : TypeId) : Sps (w.alloc (.cells (cellsS L).toArray t)) (some ⟨w.heap.size, 0, none⟩) L := by
  have hb := heap_alloc_new w (.cells (cellsS L).toArray t)
  intro k s hs
  refine ⟨w.heap.size, 0, rfl, by simp, ?_, ?_⟩
  · rw [cell_of_row _ _ _ _ _ _ hb, Nat.zero_add]; simpa using (cellsS_at hs).1
  · rw [cell_of_row _ _ _ _ _ _ hb, Nat.zero_add]; simpa using (cellsS_at hs).2
/-- A set's call at known lists. -/
theorem set_known {f : Int → Bool} {a b N : List Sp} {F : Nat} {args : Array Value} {w : World} (h : Calls Try.prog F args w (SetRes f a b w)) (ha : chkE a = 0) (hb : chkE b = 0) (hN : IsNf f N) (hl : N.length ≤ 256) :
    Calls Try.prog F args w fun e w' => ∃ V cap, e = .returned (.tuple #[.slice V N.length cap, .int .i64 0]) ∧ Sps w' V N ∧ Below w.heap.size w w' := by
  refine h.mono ?_
  rintro e w' ⟨M, v, rfl, hin, hnf, hb'⟩
  obtain rfl : M = N := (hnf ha hb).one hN
  have e0 : cmbE a b M = 0 := by rw [cmbE_ok ha hb, nfE_ok (by omega)]
  rw [cmbL_ok e0] at hin
  obtain ⟨V, cap, rfl, -, hs, -⟩ := hin.open_
  exact ⟨V, cap, by rw [e0], hs, hb'⟩
theorem ref_same (L M : List Sp) (hLM : L = M) (A B : Option Addr) (c d : Nat) (w : World) (ha : Sps w A L) (hb : Sps w B M) (hm : L.length ≤ 9223372036854775807) :
    Calls Try.prog 22 #[.slice A L.length c, .slice B M.length d] w fun e w' => e = .returned (.bool true) ∧ Below w.heap.size w w' := by
  subst hLM
  have h := ref_Same L L A B c d w ha hb hm hm
  rwa [decide_eq_true (rfl : L = L)] at h
theorem ex_norm (A : Option Addr) (c : Nat) (w : World) (ha : Sps w A [(5, 7), (0, 2), (2, 3), (4, 4)]) :
    Calls Try.prog 18 #[.slice A 4 c] w fun e w' => ∃ V cap, e = .returned (.tuple #[.slice V 2 cap, .int .i64 0]) ∧ Sps w' V [(0, 3), (5, 7)] ∧ Below w.heap.size w w' :=
  set_known (N := [(0, 3), (5, 7)]) (span_Norm [(5, 7), (0, 2), (2, 3), (4, 4)] A c w ha (by decide)) (by decide) (by decide) ⟨⟨by decide, by decide⟩, fun x => by rw [orF_nil, Bool.eq_iff_iff, hasB_iff, hasB_iff]; simp; omega⟩ (by decide)
theorem ex_minus (A B : Option Addr) (c d : Nat) (w : World) (ha : Sps w A [(0, 10)]) (hb : Sps w B [(2, 3), (5, 7)]) :
    Calls Try.prog 27 #[.slice A 1 c, .slice B 2 d] w fun e w' => ∃ V cap, e = .returned (.tuple #[.slice V 3 cap, .int .i64 0]) ∧ Sps w' V [(0, 2), (3, 5), (7, 10)] ∧ Below w.heap.size w w' :=
  set_known (N := [(0, 2), (3, 5), (7, 10)]) (span_Minus [(0, 10)] [(2, 3), (5, 7)] A B c d w ha hb (by decide) (by decide)) (by decide) (by decide) ⟨⟨by decide, by decide⟩, fun x => by
    rw [notF, setF, Bool.eq_iff_iff, hasB_iff, Bool.and_eq_true, Bool.not_eq_true', ← Bool.not_eq_true, hasB_iff, hasB_iff]; simp; omega⟩ (by decide)
theorem ex_total (A : Option Addr) (c : Nat) (w : World) (ha : Sps w A [(0, 4), (2, 6)]) :
    Calls Try.prog 20 #[.slice A 2 c] w fun e w' => e = .returned (.tuple #[.int .i64 6, .int .i64 0]) ∧ Below w.heap.size w w' := by
  refine (span_Total [(0, 4), (2, 6)] A c w ha (by decide)).mono ?_
  rintro e w' ⟨N, rfl, hnf, hb⟩
  obtain rfl : N = [(0, 6)] := (hnf (by decide)).one ⟨⟨by decide, by decide⟩, fun x => by rw [orF_nil, Bool.eq_iff_iff, hasB_iff, hasB_iff]; simp; omega⟩
  exact ⟨rfl, hb⟩
theorem ex_move (A : Option Addr) (c : Nat) (w : World) (ha : Sps w A [(0, 2), (1, 1)]) :
    Calls Try.prog 29 #[.slice A 2 c, .int .i64 3] w fun e w' => ∃ V cap, e = .returned (.tuple #[.slice V 2 cap, .int .i64 0]) ∧ Sps w' V [(3, 5), (4, 4)] ∧ Below w.heap.size w w' := by
  refine (span_Move [(0, 2), (1, 1)] 3 A c w ha (by decide)).mono ?_
  rintro e w' ⟨v, rfl, hin, hb⟩
  have e0 : movE [(0, 2), (1, 1)] 3 = 0 := by decide
  rw [movL_ok e0] at hin
  obtain ⟨V, cap, rfl, -, hs, -⟩ := hin.open_
  exact ⟨V, cap, by rw [e0]; rfl, hs, hb⟩
theorem ex_move2 (A : Option Addr) (c : Nat) (w : World) (ha : Sps w A [(0, 1)]) :
    Calls Try.prog 29 #[.slice A 1 c, .int .i64 (-1)] w fun e w' => ∃ v, e = .returned (.tuple #[v, .int .i64 1]) ∧ Below w.heap.size w w' := by
  refine (span_Move [(0, 1)] (-1) A c w ha (by decide)).mono ?_
  rintro e w' ⟨v, rfl, hin, hb⟩
  exact ⟨v, by rw [show movE [(0, 1)] (-1) = 1 by decide], hb⟩

set_option maxHeartbeats 3200000 in
theorem awake (w : World) : Calls Try.prog 13 #[] w fun e w' => e = .returned (.bool true) ∧ Below w.heap.size w w' := by
  go_enter Try.func13, Try.ntmps13
  have B0 := Lib.hid (Below.refl w.heap.size w)
  have S1 : Sps (w.alloc (.cells #[.int .i64 5, .int .i64 7, .int .i64 0, .int .i64 2, .int .i64 2, .int .i64 3, .int .i64 4, .int .i64 4] 37)) (some ⟨w.heap.size, 0, none⟩) [(5, 7), (0, 2), (2, 3), (4, 4)] := lit_sps w [(5, 7), (0, 2), (2, 3), (4, 4)] 37
  have HS1 := Lib.hid S1
  clear S1
  go_wp2_with fail
  refine (ex_norm _ 4 _ HS1.out).mono ?_
  rintro e w1 ⟨V1, c1, rfl, hs1, hb1⟩
  have R1 := Lib.hid hs1
  have B1 := Lib.hid (bstep (below_alloc w (.cells #[.int .i64 5, .int .i64 7, .int .i64 0, .int .i64 2, .int .i64 2, .int .i64 3, .int .i64 4, .int .i64 4] 37)) hb1)
  clear hs1 hb1
  have S2 : Sps (w1.alloc (.cells #[.int .i64 0, .int .i64 10] 37)) (some ⟨w1.heap.size, 0, none⟩) [(0, 10)] := lit_sps w1 [(0, 10)] 37
  have HS2 := Lib.hid S2
  clear S2
  have S3 : Sps ((w1.alloc (.cells #[.int .i64 0, .int .i64 10] 37)).alloc (.cells #[.int .i64 2, .int .i64 3, .int .i64 5, .int .i64 7] 37)) (some ⟨w1.heap.size + 1, 0, none⟩) [(2, 3), (5, 7)] := by have h := lit_sps (w1.alloc (.cells #[.int .i64 0, .int .i64 10] 37)) [(2, 3), (5, 7)] 37; rwa [show (w1.alloc (.cells #[.int .i64 0, .int .i64 10] 37)).heap.size = w1.heap.size + 1 by simp] at h
  have HS3 := Lib.hid S3
  clear S3
  have HS2b := Lib.hid (HS2.out.on (below_alloc (w1.alloc (.cells #[.int .i64 0, .int .i64 10] 37)) (.cells #[.int .i64 2, .int .i64 3, .int .i64 5, .int .i64 7] 37)))
  have BA1 := Lib.hid (bstep (below_alloc w1 (.cells #[.int .i64 0, .int .i64 10] 37)) (below_alloc (w1.alloc (.cells #[.int .i64 0, .int .i64 10] 37)) (.cells #[.int .i64 2, .int .i64 3, .int .i64 5, .int .i64 7] 37)))
  go_wp2_with fail
  refine (ex_minus _ _ 1 2 _ HS2b.out HS3.out).mono ?_
  rintro e w2 ⟨V2, c2, rfl, hs2, hb2⟩
  have R2 := Lib.hid hs2
  have C1 := Lib.hid (bstep BA1.out hb2)
  have B2 := Lib.hid (bstep B1.out C1.out)
  replace R1 := Lib.hid (R1.out.on C1.out)
  clear hs2 hb2
  have S4 : Sps (w2.alloc (.cells #[.int .i64 0, .int .i64 4, .int .i64 2, .int .i64 6] 37)) (some ⟨w2.heap.size, 0, none⟩) [(0, 4), (2, 6)] := lit_sps w2 [(0, 4), (2, 6)] 37
  have HS4 := Lib.hid S4
  clear S4
  go_wp2_with fail
  refine (ex_total _ 2 _ HS4.out).mono ?_
  rintro e w3 ⟨rfl, hb3⟩
  have C2 := Lib.hid (bstep (below_alloc w2 (.cells #[.int .i64 0, .int .i64 4, .int .i64 2, .int .i64 6] 37)) hb3)
  have B3 := Lib.hid (bstep B2.out C2.out)
  replace R1 := Lib.hid (R1.out.on C2.out)
  replace R2 := Lib.hid (R2.out.on C2.out)
  clear hb3
  have S5 : Sps (w3.alloc (.cells #[.int .i64 0, .int .i64 2, .int .i64 1, .int .i64 1] 37)) (some ⟨w3.heap.size, 0, none⟩) [(0, 2), (1, 1)] := lit_sps w3 [(0, 2), (1, 1)] 37
  have HS5 := Lib.hid S5
  clear S5
  go_wp2_with fail
  refine (ex_move _ 2 _ HS5.out).mono ?_
  rintro e w4 ⟨V4, c4, rfl, hs4, hb4⟩
  have R4 := Lib.hid hs4
  have C3 := Lib.hid (bstep (below_alloc w3 (.cells #[.int .i64 0, .int .i64 2, .int .i64 1, .int .i64 1] 37)) hb4)
  have B4 := Lib.hid (bstep B3.out C3.out)
  replace R1 := Lib.hid (R1.out.on C3.out)
  replace R2 := Lib.hid (R2.out.on C3.out)
  clear hs4 hb4
  have S6 : Sps (w4.alloc (.cells #[.int .i64 0, .int .i64 1] 37)) (some ⟨w4.heap.size, 0, none⟩) [(0, 1)] := lit_sps w4 [(0, 1)] 37
  have HS6 := Lib.hid S6
  clear S6
  go_wp2_with fail
  refine (ex_move2 _ 1 _ HS6.out).mono ?_
  rintro e w5 ⟨v5, rfl, hb5⟩
  have C4 := Lib.hid (bstep (below_alloc w4 (.cells #[.int .i64 0, .int .i64 1] 37)) hb5)
  have B5 := Lib.hid (bstep B4.out C4.out)
  replace R1 := Lib.hid (R1.out.on C4.out)
  replace R2 := Lib.hid (R2.out.on C4.out)
  replace R4 := Lib.hid (R4.out.on C4.out)
  clear hb5
  have S7 : Sps (w5.alloc (.cells #[.int .i64 0, .int .i64 3, .int .i64 5, .int .i64 7] 37)) (some ⟨w5.heap.size, 0, none⟩) [(0, 3), (5, 7)] := lit_sps w5 [(0, 3), (5, 7)] 37
  have HS7 := Lib.hid S7
  clear S7
  have BA7 := Lib.hid (below_alloc w5 (.cells #[.int .i64 0, .int .i64 3, .int .i64 5, .int .i64 7] 37))
  have HR7 := Lib.hid (R1.out.on BA7.out)
  go_wp2_with fail
  refine (ref_same [(0, 3), (5, 7)] [(0, 3), (5, 7)] rfl V1 _ c1 2 _ HR7.out HS7.out (by decide)).mono ?_
  rintro e w6 ⟨rfl, hb7⟩
  have C7 := Lib.hid (bstep BA7.out hb7)
  have B6 := Lib.hid (bstep B5.out C7.out)
  replace R2 := Lib.hid (R2.out.on C7.out)
  replace R4 := Lib.hid (R4.out.on C7.out)
  clear hb7
  have S8 : Sps (w6.alloc (.cells #[.int .i64 0, .int .i64 2, .int .i64 3, .int .i64 5, .int .i64 7, .int .i64 10] 37)) (some ⟨w6.heap.size, 0, none⟩) [(0, 2), (3, 5), (7, 10)] := lit_sps w6 [(0, 2), (3, 5), (7, 10)] 37
  have HS8 := Lib.hid S8
  clear S8
  have BA8 := Lib.hid (below_alloc w6 (.cells #[.int .i64 0, .int .i64 2, .int .i64 3, .int .i64 5, .int .i64 7, .int .i64 10] 37))
  have HR8 := Lib.hid (R2.out.on BA8.out)
  go_wp2_with fail
  refine (ref_same [(0, 2), (3, 5), (7, 10)] [(0, 2), (3, 5), (7, 10)] rfl V2 _ c2 3 _ HR8.out HS8.out (by decide)).mono ?_
  rintro e w7 ⟨rfl, hb8⟩
  have C8 := Lib.hid (bstep BA8.out hb8)
  have B7 := Lib.hid (bstep B6.out C8.out)
  replace R4 := Lib.hid (R4.out.on C8.out)
  clear hb8
  have S9 : Sps (w7.alloc (.cells #[.int .i64 3, .int .i64 5, .int .i64 4, .int .i64 4] 37)) (some ⟨w7.heap.size, 0, none⟩) [(3, 5), (4, 4)] := lit_sps w7 [(3, 5), (4, 4)] 37
  have HS9 := Lib.hid S9
  clear S9
  have BA9 := Lib.hid (below_alloc w7 (.cells #[.int .i64 3, .int .i64 5, .int .i64 4, .int .i64 4] 37))
  have HR9 := Lib.hid (R4.out.on BA9.out)
  go_wp2_with fail
  refine (ref_same [(3, 5), (4, 4)] [(3, 5), (4, 4)] rfl V4 _ c4 2 _ HR9.out HS9.out (by decide)).mono ?_
  rintro e w8 ⟨rfl, hb9⟩
  have C9 := Lib.hid (bstep BA9.out hb9)
  have B8 := Lib.hid (bstep B7.out C9.out)
  clear hb9
  go_wp2_with fail
  go_ret
  exact ⟨rfl, B8.out⟩
#print axioms awake
#print axioms ex_norm
#print axioms ex_move2
end Go.Proofs.Ytidgcgnedeekhaa.Span
