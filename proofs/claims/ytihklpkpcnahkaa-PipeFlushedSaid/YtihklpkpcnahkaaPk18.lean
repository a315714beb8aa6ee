/- Several texts in one: PipeAA, PipeAB, PipeAC, PipeAD, PipeAE. -/
import Derived.Test.YtihklpkpcnahkaaPk17
import Derived.Test.YtihklpkpcnahkaaPk12
import Derived.Deep.CutRange
/- The program: Check, Age, New, Content. -/
namespace Go.Proofs.Ytihklpkpcnahkaa.Pipe
open Go.ChangeShapes Go.WideShapes Go.RowKit Go.Lib
open Go.Proofs.Ytihklpkpcnahkaa.Mem (Cl eI Own)
open Go.Proofs.Ytihklpkpcnahkaa.Vec (sumZ plusL plus_len sumZ_nonneg)
open Go.Proofs.Ytihklpkpcnahkaa.Fibre (MM)
open Go.Proofs.Ytihklpkpcnahkaa.Rw (Rd Kd Off glt get_lt ret_bool ret_int bstep below_drewN below_drew drew_below below_alloc take_snoc_of)
set_option linter.unusedVariables false
set_option maxRecDepth 100000

theorem ckP_fs {hold : Int} {P : List (List Int)} (h : 1 ≤ hold ∧ hold ≤ MM) (h1 : 1 ≤ P.length) (h2 : P.length ≤ 256) : ckP hold P = if fsE (kin P : Int) P = 0 then (if tot P = hold then 0 else 39) else fsE (kin P : Int) P := by
  unfold ckP
  rw [if_pos h, if_neg (by omega), if_neg (by omega)]
set_option maxHeartbeats 1600000 in
theorem p_Check (hold : Int) (P : List (List Int)) (A : Option Addr) (n c : Nat) (hn : P.length = n) (w : World) (ha : Pls w A P) (h2 : n ≤ 9223372036854775807) :
    Calls Try.prog 13 #[.agg #[.int .i64 hold, .slice A n c]] w fun e w' => e = .returned (.int .i64 (ckP hold P)) ∧ Below w.heap.size w w' := by
  have HA := Lib.hid ha
  have HN := Lib.hid hn
  obtain ⟨E, hE⟩ : ∃ E, ckP hold P = E := ⟨_, rfl⟩
  rw [hE]
  have HE := Lib.hid hE
  have hMM : MM = 1099511627776 := rfl
  clear ha hn hE
  go_enter Try.func13, Try.ntmps13
  go_upto_region 1 with fail
  obtain ⟨w0, hw0⟩ : ∃ W, w.alloc (.cells #[.int .i64 hold, .slice A n c] 24) = W := ⟨_, rfl⟩
  have C0 : Hid (Rw.Cel w0 w.heap.size [.int .i64 hold, .slice A n c]) := hw0 ▸ Rw.Cel.new w [_, _] _
  have B0 : Hid (Below w.heap.size w w0) := hw0 ▸ below_alloc _ _
  rw [hw0]
  clear hw0
  obtain ⟨x0, x1⟩ := C0.out.two
  rcases Int.lt_or_le hold 1 with h0 | h0
  · have d0 : decide (hold < 1) = true := decide_eq_true h0
    obtain rfl : E = 1 := by rw [← HE.out]; exact ckP_hold (by omega)
    clear h0 hMM
    go_wp2_with fail
    go_ret
    exact ⟨rfl, B0.out⟩
  have d0 : decide (hold < 1) = false := decide_eq_false (by omega)
  rcases Int.lt_or_le 1099511627776 hold with h1 | h1
  · have d1 : decide (1099511627776 < hold) = true := decide_eq_true h1
    obtain rfl : E = 1 := by rw [← HE.out]; exact ckP_hold (by omega)
    clear h0 h1 hMM
    go_wp2_with fail
    go_ret
    exact ⟨rfl, B0.out⟩
  have d1 : decide (1099511627776 < hold) = false := decide_eq_false (by omega)
  have HH := Lib.hid (show 1 ≤ hold ∧ hold ≤ MM by omega)
  clear h0 h1
  by_cases hn0 : n = 0
  · subst hn0
    obtain rfl : E = 10 := by rw [← HE.out]; exact ckP_none HH.out HN.out
    clear hMM
    go_wp2_with fail
    go_ret
    exact ⟨rfl, B0.out⟩
  have d2 : ((n : Int) == 0) = false := beq_false_of_ne (by omega)
  rcases Nat.lt_or_ge 256 n with h3 | h3
  · have d3 : decide ((256 : Int) < (n : Int)) = true := decide_eq_true (by omega)
    obtain rfl : E = 8 := by rw [← HE.out]; exact ckP_many HH.out (by have := HN.out; omega)
    clear hMM h3
    go_wp2_with fail
    go_ret
    exact ⟨rfl, B0.out⟩
  have d3 : decide ((256 : Int) < (n : Int)) = false := decide_eq_false (by omega)
  have KW := Lib.hid (p_weigh P A n c HN.out (by omega) h3 w0 (HA.out.on B0.out))
  have he := ckP_fs HH.out (P := P) (by have := HN.out; omega) (by have := HN.out; omega)
  rw [HE.out] at he
  obtain ⟨F, hF⟩ : ∃ F, fsE (kin P : Int) P = F := ⟨_, rfl⟩
  have HV : Hid (F = 0 → wgV P = tot P) := Lib.hid fun h => wgV_ok (hF.trans h)
  obtain ⟨V, hV⟩ : ∃ V, wgV P = V := ⟨_, rfl⟩
  rw [hF, hV] at KW
  rw [hF] at he
  rw [hV] at HV
  have HF := Lib.hid he
  clear he hF hV hMM
  go_wp2_with fail
  refine KW.out.mono ?_
  rintro e w1 ⟨rfl, hb⟩
  have B1 := Lib.hid (bstep B0.out hb)
  have C1 := Lib.hid (C0.out.on hb)
  clear hb x0 x1 C0 B0
  obtain ⟨x0, x1⟩ := C1.out.two
  by_cases hz : F = 0
  rotate_left
  · obtain ⟨z1, z2⟩ := nz hz
    obtain rfl : E = F := by rw [HF.out, if_neg hz]
    clear hz
    go_wp2_with fail
    go_ret
    exact ⟨rfl, B1.out⟩
  subst hz
  have hE := HF.out
  rw [if_pos rfl, ← HV.out rfl] at hE
  by_cases hq : V = hold
  · subst hq
    rw [if_pos rfl] at hE
    subst hE
    go_wp2_with fail
    go_ret
    exact ⟨rfl, B1.out⟩
  · rw [if_neg hq] at hE
    subst hE
    have d5 : (V == hold) = false := beq_false_of_ne hq
    have d6 : (V != hold) = true := by rw [bne, d5]; rfl
    clear hq
    go_wp2_with fail
    go_ret
    exact ⟨rfl, B1.out⟩
theorem pgs_fs {kinds : Nat} {Q : List (List Int)} (h : Pgs kinds Q) (h1 : 1 ≤ kinds) (h8 : kinds ≤ 8) (hl : 1 ≤ Q.length) : fsE (kin Q : Int) Q = 0 ∧ wgV Q = tot Q := by
  have hk : kin Q = kinds := by
    unfold kin
    exact (h _ (List.mem_of_getElem? (kin_at hl))).len
  have hf : fsE (kin Q : Int) Q = 0 := by
    rw [hk]
    exact fsE_ok fun j u hu => ((h u (List.mem_of_getElem? hu)).err h1 h8).2
  exact ⟨hf, wgV_ok hf⟩
set_option maxHeartbeats 1600000 in
theorem p_Age (hold k : Int) (P : List (List Int)) (A : Option Addr) (n c : Nat) (hn : P.length = n) (hc : n ≤ c) (w : World) (ha : Pls w A P) (h2 : n ≤ 9223372036854775807) :
    Calls Try.prog 23 #[.agg #[.int .i64 hold, .slice A n c], .int .i64 k] w fun e w' => e = .returned (.tuple #[.int .i64 (agV hold P k), .int .i64 (agE hold P k)]) ∧ Below w.heap.size w w' := by
  have HA := Lib.hid ha
  have HN := Lib.hid (And.intro hn hc)
  have KC := Lib.hid fun (W : World) (h : Pls W A P) => p_Check hold P A n c hn W h h2
  obtain ⟨E, hE⟩ : ∃ E, ckP hold P = E := ⟨_, rfl⟩
  rw [hE] at KC
  have HE := Lib.hid hE
  clear ha hn hc h2 hE
  go_enter Try.func23, Try.ntmps23
  go_upto_region 1 with fail
  obtain ⟨w0, hw0⟩ : ∃ W, w.alloc (.cells #[.int .i64 hold, .slice A n c] 24) = W := ⟨_, rfl⟩
  have C0 : Hid (Rw.Cel w0 w.heap.size [.int .i64 hold, .slice A n c]) := hw0 ▸ Rw.Cel.new w [_, _] _
  have B0 : Hid (Below w.heap.size w w0) := hw0 ▸ below_alloc _ _
  rw [hw0]
  clear hw0
  obtain ⟨x0, x1⟩ := C0.out.two
  go_wp2_with fail
  refine (KC.out _ (HA.out.on B0.out)).mono ?_
  rintro e w1 ⟨rfl, hb⟩
  have B1 := Lib.hid (bstep B0.out hb)
  have C1 := Lib.hid (C0.out.on hb)
  clear hb x0 x1 C0 B0
  obtain ⟨x0, x1⟩ := C1.out.two
  by_cases hz : E = 0
  rotate_left
  · obtain ⟨z1, z2⟩ := nz hz
    have e1 : agE hold P k = E := (agE_ck (by rw [HE.out]; exact hz)).trans HE.out
    have HEE := Lib.hid (And.intro e1 (agV_no (by rw [e1]; exact hz)))
    clear hz e1
    go_wp2_with fail
    go_ret2
    exact ⟨by rw [HEE.out.1, HEE.out.2]; rfl, B1.out⟩
  subst hz
  have ok := ckP_of HE.out
  have h256 := ok.n2
  rcases Int.lt_or_le k 0 with h0 | h0
  · have d0 : decide (k < 0) = true := decide_eq_true h0
    have e1 : agE hold P k = 7 := agE_no HE.out (by omega)
    have HEE := Lib.hid (And.intro e1 (agV_no (by rw [e1]; decide)))
    clear h0 e1 ok h256
    go_wp2_with fail
    go_ret2
    exact ⟨by rw [HEE.out.1, HEE.out.2]; rfl, B1.out⟩
  have d0 : decide (k < 0) = false := decide_eq_false (by omega)
  rcases Int.lt_or_le k (n : Int) with h1 | h1
  rotate_left
  · have d1 : decide ((n : Int) ≤ k) = true := decide_eq_true h1
    have e1 : agE hold P k = 7 := agE_no HE.out (by have := HN.out; omega)
    have HEE := Lib.hid (And.intro e1 (agV_no (by rw [e1]; decide)))
    clear h0 h1 e1 ok h256
    go_wp2_with fail
    go_ret2
    exact ⟨by rw [HEE.out.1, HEE.out.2]; rfl, B1.out⟩
  have d1 : decide ((n : Int) ≤ k) = false := decide_eq_false (by omega)
  obtain ⟨i, rfl⟩ : ∃ i : Nat, k = i := ⟨k.toNat, by omega⟩
  have e1 : agE hold P i = 0 := agE_in HE.out (by have := HN.out; omega)
  have HEE := Lib.hid (And.intro e1 (agV_ok e1))
  have wi : IntKind.i64.wrap ((i : Int) + 1) = ((i + 1 : Nat) : Int) := Rw.wrap_id (by have := HN.out; omega)
  have hsl := fun W => slice_hiP A n c (i + 1) (by have := HN.out; omega) W
  have i1 : i < n := by omega
  obtain ⟨j, hj⟩ : ∃ j, i + 1 = j := ⟨_, rfl⟩
  have KS := Lib.hid fun (W : World) (h : Below w1.heap.size w1 W) => p_weigh (P.take (i + 1)) A (i + 1) c (by rw [List.length_take]; have := HN.out; omega) (by omega) (by have := HN.out; omega) W (((HA.out.on B1.out).on h).take _)
  have hfs := pgs_fs (take_pgs ok.all (i + 1)) ok.k1 ok.k8 (by rw [List.length_take]; have := HN.out; have := ok.n1; omega)
  rw [Int.toNat_natCast] at HEE
  obtain ⟨T, hT⟩ : ∃ T, tot (P.take (i + 1)) = T := ⟨_, rfl⟩
  rw [hfs.1, hfs.2, hT] at KS
  rw [hT] at HEE
  rw [hj] at hsl KS wi
  clear hT e1 ok h256 h0 h1 hfs hj
  go_wp2_with fail
  refine (KS.out _ (Below.refl _ _)).mono ?_
  rintro e w2 ⟨rfl, hb⟩
  have B2 := Lib.hid (bstep B1.out hb)
  clear hb x0 x1
  go_wp2_with fail
  go_ret2
  exact ⟨by rw [HEE.out.1, HEE.out.2]; rfl, B2.out⟩
end Go.Proofs.Ytihklpkpcnahkaa.Pipe
/- The program: New, Content. -/
namespace Go.Proofs.Ytihklpkpcnahkaa.Pipe
open Go.ChangeShapes Go.WideShapes Go.RowKit Go.Lib
open Go.Proofs.Ytihklpkpcnahkaa.Mem (Cl eI Own)
open Go.Proofs.Ytihklpkpcnahkaa.Vec (sumZ plusL plus_len sumZ_nonneg)
open Go.Proofs.Ytihklpkpcnahkaa.Fibre (MM)
open Go.Proofs.Ytihklpkpcnahkaa.Rw (Rd Kd Off glt get_lt ret_bool ret_int bstep below_drewN below_drew drew_below below_alloc take_snoc_of)
set_option linter.unusedVariables false
set_option maxRecDepth 100000

theorem pls_one {w : World} {A : Option Addr} {n c : Nat} {m : List Int} (hn : m.length = n) (h2 : n ≤ 9223372036854775807) (hcl : Cl eI w A m) : Pls (w.alloc (.cells #[.slice A n c] 29)) (some ⟨w.heap.size, 0, none⟩) [m] := fun k l hl => by
  match k, hl with
  | 0, hl =>
    simp at hl
    subst hl
    have h1 := heap_alloc_new w (.cells #[.slice A n c] 29)
    refine ⟨w.heap.size, 0, A, c, rfl, (Array.getElem?_eq_some_iff.mp h1).1, ?_, hcl.on (below_alloc _ _), by omega⟩
    rw [cell_of_row _ _ _ _ _ _ h1, hn]; rfl
theorem nw_fs (m : List Int) : fsE (kin [m] : Int) [m] = (if Fibre.totE m = 0 then (if Fibre.totV m = 0 then 10 else 0) else Fibre.totE m) := by
  have hk : kin [m] = m.length := rfl
  rw [hk]
  have h1 : Fibre.totE m = Fibre.parE m (m.length : Int) := rfl
  rw [fsE, fsE, h1]
  by_cases hp : Fibre.parE m (m.length : Int) = 0
  · have h2 : Fibre.totV m = sumZ m := (par_lim hp).2.2.1
    rw [h2, if_pos hp]
    unfold plE
    rw [if_pos hp]
    by_cases h0 : sumZ m = 0
    · rw [if_pos h0, if_neg (by decide)]
    · rw [if_neg h0, if_pos rfl]
  · have h2 : plE (m.length : Int) m = Fibre.parE m (m.length : Int) := if_neg hp
    rw [h2, if_neg hp, if_neg hp]
theorem nw_wg {m : List Int} (h : fsE (kin [m] : Int) [m] = 0) : wgV [m] = Fibre.totV m ∧ nwE m = (if MM < Fibre.totV m then 1 else 0) ∧ 1 ≤ m.length ∧ m.length ≤ 8 := by
  have h0 := h
  rw [nw_fs] at h
  by_cases hp : Fibre.totE m = 0
  · rw [if_pos hp] at h
    by_cases hv : Fibre.totV m = 0
    · rw [if_pos hv] at h; cases h
    · have h1 : Fibre.parE m (m.length : Int) = 0 := hp
      have h2 := Fibre.lisE_of h1
      refine ⟨?_, ?_, by have := h2.1; omega, by have := h2.2.1; omega⟩
      · rw [wgV_ok h0, (par_lim h1).2.2.1]
        show sumZ m + tot [] = _
        rw [tot, Int.add_zero]
      · rw [nwE_end hp, if_neg hv]
  · rw [if_neg hp] at h; exact absurd h hp
theorem nw_bad {m : List Int} (h : ¬ fsE (kin [m] : Int) [m] = 0) : nwE m = fsE (kin [m] : Int) [m] := by
  have h0 := h
  rw [nw_fs] at h ⊢
  by_cases hp : Fibre.totE m = 0
  · rw [if_pos hp] at h ⊢
    rw [nwE_end hp]
    by_cases hv : Fibre.totV m = 0
    · rw [if_pos hv, if_pos hv]
    · rw [if_neg hv] at h; exact absurd rfl h
  · rw [if_neg hp, nwE_tot hp]
set_option maxHeartbeats 1600000 in
theorem p_New (m : List Int) (A : Option Addr) (n c : Nat) (hn : m.length = n) (w : World) (ha : Cl eI w A m) (h2 : n ≤ 9223372036854775807) :
    Calls Try.prog 15 #[.slice A n c] w (PRes w (nwE m) (nwH m) (nwP m)) := by
  have HA := Lib.hid ha
  have HN := Lib.hid hn
  have KP := Lib.hid fun (W : World) (h : Cl eI W A m) => pls_one (c := c) hn h2 h
  have KW := Lib.hid fun (W : World) (g : Nat) (h : Pls W (some ⟨g, 0, none⟩) [m]) => p_weigh [m] (some ⟨g, 0, none⟩) 1 1 rfl (by decide) (by decide) W h
  have KB := Lib.hid (nw_bad (m := m))
  have KG := Lib.hid (nw_wg (m := m))
  obtain ⟨F, hF⟩ : ∃ F, fsE (kin [m] : Int) [m] = F := ⟨_, rfl⟩
  obtain ⟨V, hV⟩ : ∃ V, wgV [m] = V := ⟨_, rfl⟩
  rw [hF, hV] at KW
  rw [hF] at KB KG
  rw [hV] at KG
  clear ha hn h2 hF hV
  go_enter Try.func15, Try.ntmps15
  go_upto_region 1 with fail
  obtain ⟨w0, hw0⟩ : ∃ W, w.alloc (.cells #[.int .i64 0, .slice none 0 0] 24) = W := ⟨_, rfl⟩
  have D0 : Hid (Rw.Cel w0 w.heap.size [.int .i64 0, .slice none 0 0]) := hw0 ▸ Rw.Cel.new w [_, _] _
  have B0 : Hid (Below w.heap.size w w0) := hw0 ▸ below_alloc _ _
  rw [hw0]
  clear hw0
  go_wp2_with fail
  refine (KW.out _ _ (KP.out _ (HA.out.on B0.out))).mono ?_
  rintro e w1 ⟨rfl, hb⟩
  have B1 : Hid (Below w.heap.size w w1) := Lib.hid (bstep B0.out (bstep (below_alloc _ _) hb))
  have D1 : Hid (Rw.Cel w1 w.heap.size [.int .i64 0, .slice none 0 0]) := Lib.hid ((D0.out.alloc _).on hb)
  clear hb D0 B0
  obtain ⟨u0, u1⟩ := D1.out.two
  obtain ⟨v0, v1⟩ := D1.out.warm2
  by_cases hz : F = 0
  rotate_left
  · obtain ⟨z1, z2⟩ := nz hz
    have e1 : nwE m = F := KB.out hz
    have HEE := Lib.hid (And.intro e1 (nw_no (by rw [e1]; exact hz)))
    clear hz e1
    go_wp2_with fail
    exact bodyPost_ret (res_pipe2 Try.results15 rfl (D1.out.put2 _ _)) rfl (by rw [HEE.out.1, HEE.out.2.1, HEE.out.2.2]; exact PRes.none_ (Rw.below_put2 B1.out (Nat.le_refl _) _ _))
  subst hz
  obtain ⟨g1, g2, g3, g4⟩ := KG.out rfl
  have hMM : MM = 1099511627776 := rfl
  rw [← g1, hMM] at g2
  have HG1 := Lib.hid g1
  rcases Int.lt_or_le 1099511627776 V with h1 | h1
  · have d1 : decide (1099511627776 < V) = true := decide_eq_true h1
    have e1 : nwE m = 1 := g2.trans (if_pos h1)
    have HEE := Lib.hid (And.intro e1 (nw_no (by rw [e1]; decide)))
    clear e1 g1 g2 g3 g4 hMM h1
    go_wp2_with fail
    exact bodyPost_ret (res_pipe2 Try.results15 rfl (D1.out.put2 _ _)) rfl (by rw [HEE.out.1, HEE.out.2.1, HEE.out.2.2]; exact PRes.none_ (Rw.below_put2 B1.out (Nat.le_refl _) _ _))
  have d1 : decide (1099511627776 < V) = false := decide_eq_false (by omega)
  have e1 : nwE m = 0 := g2.trans (if_neg (by omega))
  have HEE := Lib.hid (And.intro e1 (nw_ok e1))
  have KC := Lib.hid (p_copied [m] (some ⟨w1.heap.size, 0, none⟩) 1 1 rfl (by decide) (fun x hx => by simp at hx; subst hx; exact ⟨g3, g4⟩) _ (KP.out w1 (HA.out.on B1.out)))
  unfold CpR at KC
  have HG := Lib.hid D1.out.lt
  obtain ⟨w2, hw2⟩ : ∃ W, w1.alloc (.cells #[.slice A n c] 29) = W := ⟨_, rfl⟩
  have B2 : Hid (Below w.heap.size w w2) := Lib.hid (bstep B1.out (hw2 ▸ below_alloc _ _))
  have D2 : Hid (Rw.Cel w2 w.heap.size [.int .i64 0, .slice none 0 0]) := Lib.hid (hw2 ▸ D1.out.alloc _)
  rw [hw2] at KC
  clear e1 g1 g2 g3 g4 hMM h1 u0 u1 v0 v1
  go_wp2_with fail
  first | rw [hw2] | skip
  refine KC.out.mono ?_
  rintro e w3 ⟨rfl, ho, hcp, hsz, hb⟩
  have HP3 := Lib.hid (hcp.insO (n := 1) (c := 1)).insQ
  have HP4 := Lib.hid (HP3.out.plsO (row_own ho)).2.2
  have HS2 : Hid (w.heap.size < w2.heap.size) := Lib.hid D2.out.lt
  have B3 := Lib.hid (bstep B2.out hb)
  have D3 := Lib.hid (D2.out.on hb)
  clear hw2 ho hcp hsz hb
  obtain ⟨u0, u1⟩ := D3.out.two
  obtain ⟨v0, v1⟩ := D3.out.warm2
  go_wp2_with fail
  exact bodyPost_ret (res_pipe2 Try.results15 rfl (D3.out.put2 _ _)) rfl (by
    rw [HEE.out.1, HEE.out.2.1, HEE.out.2.2, ← HG1.out]
    exact ⟨_, _, _, rfl, rfl, Nat.le_refl _, ((HP4.out.far2 HS2.out _ _).less (Nat.le_of_lt HS2.out)), Rw.below_put2 B3.out (Nat.le_refl _) _ _⟩)
set_option maxHeartbeats 3200000 in
theorem p_Content (hold : Int) (P : List (List Int)) (A : Option Addr) (n c : Nat) (hn : P.length = n) (w : World) (ha : Pls w A P) (h2 : n ≤ 9223372036854775807) :
    Calls Try.prog 21 #[.agg #[.int .i64 hold, .slice A n c]] w (LRes w (ckP hold P) (coL hold P)) := by
  have HA := Lib.hid ha
  have HN := Lib.hid hn
  have KC := Lib.hid fun (W : World) (h : Pls W A P) => p_Check hold P A n c hn W h h2
  obtain ⟨E, hE⟩ : ∃ E, ckP hold P = E := ⟨_, rfl⟩
  rw [hE] at KC
  have HE := Lib.hid hE
  clear ha hn h2 hE
  go_enter Try.func21, Try.ntmps21
  go_upto_region 1 with fail
  obtain ⟨w0, hw0⟩ : ∃ W, w.alloc (.cells #[.int .i64 hold, .slice A n c] 24) = W := ⟨_, rfl⟩
  have C0 : Hid (Rw.Cel w0 w.heap.size [.int .i64 hold, .slice A n c]) := hw0 ▸ Rw.Cel.new w [_, _] _
  have B0 : Hid (Below w.heap.size w w0) := hw0 ▸ below_alloc _ _
  rw [hw0]
  clear hw0
  obtain ⟨x0, x1⟩ := C0.out.two
  go_wp2_with fail
  refine (KC.out _ (HA.out.on B0.out)).mono ?_
  rintro e w1 ⟨rfl, hb⟩
  have B1 := Lib.hid (bstep B0.out hb)
  have C1 := Lib.hid (C0.out.on hb)
  clear hb x0 x1 C0 B0
  obtain ⟨x0, x1⟩ := C1.out.two
  by_cases hz : E = 0
  rotate_left
  · obtain ⟨z1, z2⟩ := nz hz
    have e1 : coL hold P = [] := if_neg (by rw [HE.out]; exact hz)
    have HEE := Lib.hid (And.intro HE.out e1)
    clear hz e1
    go_wp2_with fail
    go_ret2
    rw [HEE.out.1, HEE.out.2]
    exact ⟨_, _, _, rfl, rfl, Own.nil _ _ _ _, B1.out⟩
  subst hz
  have ok := ckP_of HE.out
  obtain ⟨m, hm⟩ : ∃ m, kin P = m := ⟨_, rfl⟩
  rw [hm] at ok
  have OK := Lib.hid ok
  have HM := Lib.hid hm
  have m8 := ok.k8
  have n0 := ok.n1
  have n2 := ok.n2
  obtain ⟨l0, hl0⟩ := get_lt (L := P) (k := 0) (by omega)
  obtain ⟨b, off, A1, n1, c1, hA, hb, e0, hl1, hcl, hm1⟩ := pls_at (HA.out.on B1.out) hl0
  subst hA
  obtain rfl : n1 = m := by
    have := (ok.all l0 (List.mem_of_getElem? hl0)).len
    omega
  rw [Nat.add_zero] at e0
  have i3 : (0 : Int) < (n : Int) := by have := HN.out; omega
  have i4 : 0 < n := by have := HN.out; omega
  have KA := Lib.hid fun (W : World) => p_adder n1 m8 W
  have HNN := Lib.hid (show n ≤ 256 by have := HN.out; omega)
  clear ok hl0 hcl hl1 hb hm m8 n0 n2
  go_wp2_with fail
  refine (KA.out w1).mono ?_
  rintro e w2 ⟨rfl, hs2, ho2, hc2, hb2⟩
  obtain ⟨g, hg⟩ : ∃ g, w1.heap.size = g := ⟨_, rfl⟩
  have GG := Lib.hid hg
  have C2 := Lib.hid (C1.out.on hb2)
  rw [hg] at hs2 ho2 hc2 hb2 ⊢
  have S2 := Lib.hid hs2
  have O2 : Hid (Own eI 3 g w2 (.slice (some ⟨g, 0, none⟩) n1 n1) (cont n1 (P.take 0))) := Lib.hid ho2
  have X2 := Lib.hid hc2
  have B2 := Lib.hid hb2
  clear hs2 ho2 hc2 hb2 hg e0 KA x0 x1
  obtain ⟨x0, x1⟩ := C2.out.two
  have HCG : Hid (w.heap.size < g) := Lib.hid (by rw [← GG.out]; exact C1.out.lt)
  go_wp2_with fail
  clear x0 x1
  go_loopw [26, 8] (fun i _ wr => ∃ k : Nat, k ≤ n ∧ i = .int .i64 k ∧ Own eI 3 g wr (.slice (some ⟨g, 0, none⟩) n1 n1) (cont n1 (P.take k)) ∧ Rw.Cel wr (g + 1) [.slice (some ⟨g, 0, none⟩) n1 n1] ∧ Below g w1 wr ∧ g + 2 ≤ wr.heap.size) (fun i _ _ => n - (RowKit.intOf i).toNat)
  case atStart => exact ⟨0, Nat.zero_le _, rfl, O2.out, X2.out, B2.out, by rw [S2.out]; exact Nat.le_refl _⟩
  case round =>
    obtain ⟨k, hk, rfl, hown, hbox, hbel, hsz⟩ := hrel
    have HO := Lib.hid hown
    have HX := Lib.hid hbox
    have HW := Lib.hid hbel
    have HZ := Lib.hid hsz
    clear hown hbox hbel hsz
    rcases Nat.lt_or_ge k n with hlt | hge
    · obtain ⟨l, hl⟩ := get_lt (L := P) (k := k) (by have := HN.out; omega)
      obtain ⟨b', off', A2, n2, c2, e', hb2, e2, hl2, hcl2, hm2⟩ := pls_at (HA.out.on B1.out) hl
      cases e'
      obtain rfl : n2 = n1 := by have := (OK.out.all l (List.mem_of_getElem? hl)).len; omega
      have e3 : wr.cell? ⟨b, off + k, none⟩ = some (.slice A2 n2 c2) := (HW.out.cell (p := ⟨b, off + k, none⟩) (by rw [← GG.out]; exact hb2)).trans e2
      have HA2 : Hid (∀ b3 o3, A2 = some ⟨b3, o3, none⟩ → b3 < g) := Lib.hid fun b3 o3 e => by
        obtain ⟨z, hz⟩ := get_lt (L := l) (k := 0) (by rw [hl2]; have := OK.out.k1; omega)
        obtain ⟨b4, o4, e4, hb4, -⟩ := Fibre.cl_at hcl2 hz
        rw [e] at e4
        cases e4
        rw [← GG.out]; exact hb4
      have HST := Lib.hid (cont_step OK.out.all hl)
      have HLM := Lib.hid (cont_lim OK.out (k := k + 1) (by have := HN.out; omega))
      obtain ⟨X, hX⟩ : ∃ X, cont n2 (P.take k) = X := ⟨_, rfl⟩
      have HXL : Hid (X.length = n2) := Lib.hid (by rw [← hX]; exact cont_len (take_pgs OK.out.all k))
      rw [hX] at HST HO
      rw [HST.out] at HLM
      have KD := Lib.hid (p_add X l A2 n2 c2 g (g + 1) g wr HXL.out hl2 OK.out.k8 (fun z hz => by
        have h1 := HLM.out z hz
        have hM : MM = 1099511627776 := rfl
        omega) HO.out HX.out (by omega) (hcl2.on (GG.out ▸ HW.out)) (fun b3 o3 e => by have := HA2.out b3 o3 e; omega))
      have i1 : (k : Int) < (n : Int) := by omega
      have i2 : (0 : Int) ≤ (k : Int) := by omega
      have hk1 : IntKind.i64.wrap ((k : Int) + 1) = ((k + 1 : Nat) : Int) := Rw.wrap_id (by have := HNN.out; omega)
      have HLT := Lib.hid hlt
      clear hl hl2 hcl2 hb2 e2 hX
      go_wp2_with fail
      refine KD.out.mono ?_
      rintro e w3 ⟨rfl, ho, hf⟩
      have O3 : Hid (Own eI 3 g w3 (.slice (some ⟨g, 0, none⟩) n2 n2) (cont n2 (P.take (k + 1)))) := Lib.hid (by rw [HST.out]; exact ho)
      have F3 := Lib.hid hf
      have X3 := Lib.hid (HX.out.off F3.out (by omega))
      have B3 : Hid (Below g w1 w3) := Lib.hid (HW.out.trans (F3.out.below (by have := HZ.out; omega) (fun x e => by omega)))
      have Z3 : Hid (g + 2 ≤ w3.heap.size) := Lib.hid (Nat.le_trans HZ.out F3.out.size)
      clear ho hf
      go_wp2_with fail
      go_roundw
      case rel => exact ⟨k + 1, HLT.out, by go_num, O3.out, X3.out, B3.out, Z3.out⟩
      case measure => have := HLT.out; simp [RowKit.intOf]; omega
    · obtain rfl : n = k := by omega
      have HO7 : Hid (Own eI 3 w.heap.size wr (.slice (some ⟨g, 0, none⟩) n1 n1) (coL hold P)) := Lib.hid (by
        have h1 := HO.out
        rw [List.take_of_length_le (by rw [HN.out]; exact Nat.le_refl _)] at h1
        unfold coL
        rw [if_pos HE.out, HM.out]
        exact h1.less (Nat.le_of_lt HCG.out))
      have HB : Hid (Below w.heap.size w wr) := Lib.hid (B1.out.trans (HW.out.mono (Nat.le_of_lt HCG.out)))
      go_wp2_with fail
      go_ret2
      rw [HE.out]
      exact ⟨_, _, _, rfl, (own_cl HO7.out).1, HO7.out, HB.out⟩
end Go.Proofs.Ytihklpkpcnahkaa.Pipe
/- The program: Push. -/
namespace Go.Proofs.Ytihklpkpcnahkaa.Pipe
open Go.ChangeShapes Go.WideShapes Go.RowKit Go.Lib
open Go.Proofs.Ytihklpkpcnahkaa.Mem (Cl eI Own)
open Go.Proofs.Ytihklpkpcnahkaa.Vec (sumZ plusL plus_len sumZ_nonneg)
open Go.Proofs.Ytihklpkpcnahkaa.Fibre (MM lisE_of)
open Go.Proofs.Ytihklpkpcnahkaa.Rw (Rd Kd Off glt get_lt ret_bool ret_int bstep below_drewN below_drew drew_below below_alloc append_rows)
set_option linter.unusedVariables false
set_option maxRecDepth 100000

theorem own_rd {B g n c : Nat} {w : World} {R : List Sr} (h : Own eS 29 B w (.slice (some ⟨g, 0, none⟩) n c) R) : Rd cP 1 w (some ⟨g, 0, none⟩) R := by
  obtain ⟨A', c', he, h1, -, h2, h3, -⟩ := (row_own h).one cP_len
  cases he
  exact h2
set_option maxHeartbeats 6400000 in
theorem p_Push (hold : Int) (P : List (List Int)) (m : List Int) (A M : Option Addr) (n c n' c' : Nat) (hn : P.length = n) (hc : n ≤ c) (hn' : m.length = n') (w : World) (ha : Pls w A P) (hm : Cl eI w M m) (h1 : n ≤ 9223372036854775807) (h2 : n' ≤ 9223372036854775807) :
    Calls Try.prog 18 #[.agg #[.int .i64 hold, .slice A n c], .slice M n' c'] w (PuRes w (puE hold P m) (puH hold P m) (puP hold P m) (puO hold P m)) := by
  have HA := Lib.hid ha
  have HM := Lib.hid hm
  have HN := Lib.hid (And.intro hn hn')
  have HCC := Lib.hid hc
  have KC := Lib.hid fun (W : World) (h : Pls W A P) => p_Check hold P A n c hn W h h1
  have KP := Lib.hid fun (W : World) (h : Cl eI W M m) => p_Parts m M n' c' hn'.symm (kin P) W h h2
  have KT := Lib.hid fun (W : World) (h : Cl eI W M m) => p_Total m M n' c' hn'.symm W h h2
  have KO := Lib.hid fun (W : World) (h : Cl eI W M m) => pls_one (c := c') hn' h2 h
  obtain ⟨E, hE⟩ : ∃ E, ckP hold P = E := ⟨_, rfl⟩
  obtain ⟨F, hF⟩ : ∃ F, Fibre.parE m (kin P : Int) = F := ⟨_, rfl⟩
  rw [hE] at KC
  rw [hF] at KP
  have HE := Lib.hid (And.intro hE hF)
  clear ha hm hn hn' h1 h2 hE hF hc
  go_enter Try.func18, Try.ntmps18
  go_upto_region 1 with fail
  obtain ⟨w0, hw0⟩ : ∃ W, w.alloc (.cells #[.int .i64 hold, .slice A n c] 24) = W := ⟨_, rfl⟩
  have C0 : Hid (Rw.Cel w0 w.heap.size [.int .i64 hold, .slice A n c]) := hw0 ▸ Rw.Cel.new w [_, _] _
  have B0 : Hid (Below w.heap.size w w0) := hw0 ▸ below_alloc _ _
  have S0 : Hid (w0.heap.size = w.heap.size + 1) := Lib.hid (by rw [← hw0]; simp)
  rw [hw0]
  clear hw0
  obtain ⟨w1, hw1⟩ : ∃ W, w0.alloc (.cells #[.int .i64 0, .slice none 0 0] 24) = W := ⟨_, rfl⟩
  have D1 : Hid (Rw.Cel w1 (w.heap.size + 1) [.int .i64 0, .slice none 0 0]) := by
    refine Lib.hid ?_
    rw [← hw1, ← S0.out]; exact Rw.Cel.new w0 [_, _] _
  have C1 : Hid (Rw.Cel w1 w.heap.size [.int .i64 hold, .slice A n c]) := hw1 ▸ C0.out.alloc _
  have B1 : Hid (Below w.heap.size w w1) := Lib.hid (bstep B0.out (hw1 ▸ below_alloc _ _))
  have S1 : Hid (w.heap.size + 2 ≤ w1.heap.size) := Lib.hid (by rw [← hw1]; simp [S0.out])
  rw [hw1]
  clear hw1 C0 B0 S0
  obtain ⟨x0, x1⟩ := C1.out.two
  go_wp2_with fail
  refine (KC.out _ (HA.out.on B1.out)).mono ?_
  rintro e w2 ⟨rfl, hb⟩
  have B2 := Lib.hid (bstep B1.out hb)
  have C2 := Lib.hid (C1.out.on hb)
  have D2 := Lib.hid (D1.out.on hb)
  have S2 : Hid (w.heap.size + 2 ≤ w2.heap.size) := Lib.hid (Nat.le_trans S1.out hb.size)
  clear hb x0 x1 C1 D1 B1 S1
  obtain ⟨x0, x1⟩ := C2.out.two
  by_cases hz : E = 0
  rotate_left
  · obtain ⟨z1, z2⟩ := nz hz
    have e1 : puE hold P m = E := (puE_ck (by rw [HE.out.1]; exact hz)).trans HE.out.1
    have HEE := Lib.hid (And.intro e1 (pu_no (by rw [e1]; exact hz)))
    clear hz e1
    obtain ⟨u0, u1⟩ := D2.out.two
    obtain ⟨v0, v1⟩ := D2.out.warm2
    go_wp2_with fail
    exact bodyPost_ret (res_pipe3 Try.results18 rfl (D2.out.put2 _ _)) rfl (by rw [HEE.out.1, HEE.out.2.1, HEE.out.2.2.1, HEE.out.2.2.2]; exact PuRes.none_ (Rw.below_put2 B2.out (Nat.le_succ _) _ _))
  subst hz
  have ok := ckP_of HE.out.1
  obtain ⟨ki, hki⟩ : ∃ x, kin P = x := ⟨_, rfl⟩
  rw [hki] at ok KP
  have OK := Lib.hid ok
  have HK := Lib.hid hki
  obtain ⟨l0, hl0⟩ := get_lt (L := P) (k := 0) (by have := ok.n1; omega)
  obtain ⟨b, off, A1, n1, c1, hA, hb, e0, hl1, hcl, hm1⟩ := pls_at (HA.out.on B2.out) hl0
  subst hA
  obtain rfl : n1 = ki := by
    have := (ok.all l0 (List.mem_of_getElem? hl0)).len
    omega
  rw [Nat.add_zero] at e0
  have i3 : (0 : Int) < (n : Int) := by have := HN.out; have := ok.n1; omega
  have i4 : 0 < n := by have := HN.out; have := ok.n1; omega
  clear ok hl0 hcl hl1 hb hki hm1
  go_wp2_with fail
  refine (KP.out _ (HM.out.on B2.out)).mono ?_
  rintro e w3 ⟨rfl, hb⟩
  have B3 := Lib.hid (bstep B2.out hb)
  have C3 := Lib.hid (C2.out.on hb)
  have D3 := Lib.hid (D2.out.on hb)
  have S3 : Hid (w.heap.size + 2 ≤ w3.heap.size) := Lib.hid (Nat.le_trans S2.out hb.size)
  clear hb x0 x1 C2 D2 B2 S2 e0 i3 i4
  by_cases hz : F = 0
  rotate_left
  · obtain ⟨z1, z2⟩ := nz hz
    have e1 : puE hold P m = F := (puE_par HE.out.1 (by rw [HE.out.2]; exact hz)).trans HE.out.2
    have HEE := Lib.hid (And.intro e1 (pu_no (by rw [e1]; exact hz)))
    clear hz e1
    obtain ⟨u0, u1⟩ := D3.out.two
    obtain ⟨v0, v1⟩ := D3.out.warm2
    go_wp2_with fail
    exact bodyPost_ret (res_pipe3 Try.results18 rfl (D3.out.put2 _ _)) rfl (by rw [HEE.out.1, HEE.out.2.1, HEE.out.2.2.1, HEE.out.2.2.2]; exact PuRes.none_ (Rw.below_put2 B3.out (Nat.le_succ _) _ _))
  subst hz
  obtain ⟨p1, p2, p3, p4, p5⟩ := par_lim HE.out.2
  have KT2 := Lib.hid (KT.out w3 (HM.out.on B3.out))
  rw [p2, p3] at KT2
  obtain ⟨S, hS⟩ : ∃ S, sumZ m = S := ⟨_, rfl⟩
  rw [hS] at KT2 p4 p5
  have HS : Hid (sumZ m = S) := Lib.hid hS
  have HS0 : Hid (0 ≤ S) := Lib.hid p4
  have H8 : Hid (n' = n1) := Lib.hid (by have := HN.out.2; have := HK.out; omega)
  clear p1 p2 p3 p4 p5 hS
  go_wp2_with fail
  refine KT2.out.mono ?_
  rintro e w4 ⟨rfl, hb⟩
  have B4 := Lib.hid (bstep B3.out hb)
  have C4 := Lib.hid (C3.out.on hb)
  have D4 := Lib.hid (D3.out.on hb)
  have S4 : Hid (w.heap.size + 2 ≤ w4.heap.size) := Lib.hid (Nat.le_trans S3.out hb.size)
  clear hb C3 D3 B3 S3 KT2
  obtain ⟨x0, x1⟩ := C4.out.two
  rcases Int.lt_or_le hold S with hbig | hsm
  · have d0 : decide (hold < S) = true := decide_eq_true hbig
    have e1 : puE hold P m = 8 := puE_big HE.out.1 HE.out.2 (by rw [HS.out]; exact hbig)
    have HEE := Lib.hid (And.intro e1 (pu_no (by rw [e1]; decide)))
    clear hbig e1
    obtain ⟨u0, u1⟩ := D4.out.two
    obtain ⟨v0, v1⟩ := D4.out.warm2
    go_wp2_with fail
    exact bodyPost_ret (res_pipe3 Try.results18 rfl (D4.out.put2 _ _)) rfl (by rw [HEE.out.1, HEE.out.2.1, HEE.out.2.2.1, HEE.out.2.2.2]; exact PuRes.none_ (Rw.below_put2 B4.out (Nat.le_succ _) _ _))
  have d0 : decide (hold < S) = false := decide_eq_false (by omega)
  have HSH := Lib.hid hsm
  have KR := Lib.hid (p_release hold P n1 S OK.out HS0.out hsm (some ⟨b, off, none⟩) n c HN.out.1 HCC.out w4 (HA.out.on B4.out))
  unfold RlR at KR
  clear hsm
  go_wp2_with fail
  refine KR.out.mono ?_
  rintro e w5 ⟨A5, n5, c5, R, rfl, hr, hi, ho, hb, hz⟩
  obtain ⟨g, hg⟩ : ∃ x, w4.heap.size = x := ⟨_, rfl⟩
  have B5 := Lib.hid (bstep B4.out hb)
  have C5 := Lib.hid (C4.out.on hb)
  have D5 := Lib.hid (D4.out.on hb)
  rw [hg] at hr hi ho hz S4 ⊢
  have R5 := Lib.hid hr
  have I5 := Lib.hid hi
  have O5 := Lib.hid ho
  have Z5 := Lib.hid hz
  clear hr hi ho hb hz hg C4 D4 B4 KR x0 x1 d0
  have HLN : Hid (R.length = (rmnP S P).length ∧ (rmnP S P).length ≤ 256 ∧ R.length = n5) := Lib.hid ⟨I5.out.1, by have h1 := rmn_len P S; have h2 := OK.out.n2; omega, by
    obtain ⟨A', c', he, -⟩ := R5.out.one cP_len
    cases he; rfl⟩
  have he := puE_end HE.out.1 HE.out.2 (by rw [HS.out]; have := HSH.out; omega)
  have HPE := Lib.hid he
  clear he
  rcases Int.lt_or_le 0 S with hpos | hnp
  rotate_left
  · have d1 : decide (0 < S) = false := decide_eq_false (by omega)
    have HNP : Hid (newP P m = rmnP S P) := Lib.hid (by unfold newP; rw [HS.out, if_neg (by omega), List.append_nil])
    have PF := Lib.hid (I5.out.insQ.plsO R5.out)
    clear hnp
    have he := HPE.out
    rw [HNP.out, if_neg (by have := HLN.out; omega)] at he
    have HEE := Lib.hid (And.intro he (pu_ok he))
    have d2 : decide ((256 : Int) < (n5 : Int)) = false := decide_eq_false (by have := HLN.out; omega)
    clear he
    obtain ⟨x0, x1⟩ := C5.out.two
    obtain ⟨u0, u1⟩ := D5.out.two
    obtain ⟨v0, v1⟩ := D5.out.warm2
    go_wp2_with fail
    exact bodyPost_ret (res_pipe3 Try.results18 rfl (D5.out.put2 _ _)) rfl (by
      rw [HEE.out.1, HEE.out.2.1, HEE.out.2.2.1, HEE.out.2.2.2, HS.out, HK.out, HNP.out]
      have h1 := S4.out
      exact ⟨_, _, _, _, _, _, rfl, PF.out.1, PF.out.2.1, (own_cl O5.out).1, ((PF.out.2.2.far2 (by omega) _ _).less (by omega)), ((O5.out.other (p := ⟨w.heap.size + 1, 0, none⟩) (by simp [Value.ownBlock]; omega) _).other (p := ⟨w.heap.size + 1, 1, none⟩) (by simp [Value.ownBlock]; omega) _).less (by omega), Rw.below_put2 B5.out (Nat.le_succ _) _ _⟩)
  have d1 : decide (0 < S) = true := decide_eq_true hpos
  have HNP : Hid (newP P m = rmnP S P ++ [m]) := Lib.hid (by unfold newP; rw [HS.out, if_pos hpos])
  clear hpos
  have K8 := Lib.hid (And.intro OK.out.k1 OK.out.k8)
  have KD := Lib.hid (p_copied [m] (some ⟨w5.heap.size, 0, none⟩) 1 1 rfl (by decide) (fun x hx => by simp at hx; subst hx; have h1 := HN.out.2; have h2 := H8.out; have h3 := K8.out; omega) _ (KO.out w5 (HM.out.on B5.out)))
  unfold CpR at KD
  obtain ⟨w6, hw6⟩ : ∃ W, w5.alloc (.cells #[.slice M n' c'] 29) = W := ⟨_, rfl⟩
  have hb6 : Below w5.heap.size w5 w6 := hw6 ▸ below_alloc _ _
  have B6 : Hid (Below w.heap.size w w6) := Lib.hid (bstep B5.out hb6)
  have C6 := Lib.hid (C5.out.on hb6)
  have D6 := Lib.hid (D5.out.on hb6)
  have R6 := Lib.hid (R5.out.on hb6)
  have I6 := Lib.hid (I5.out.off (Off.of_below (S := fun _ => False) hb6) (fun x h => h.elim))
  have O6 := Lib.hid (O5.out.on hb6)
  have Z6 : Hid (g + 2 ≤ w6.heap.size) := Lib.hid (Nat.le_trans Z5.out hb6.size)
  rw [hw6] at KD
  clear hb6
  go_wp2_with fail
  first | rw [hw6] | skip
  refine KD.out.mono ?_
  rintro e w7 ⟨rfl, ho, hcp, hsz, hb⟩
  obtain ⟨gs, hgs⟩ : ∃ x, w6.heap.size = x := ⟨_, rfl⟩
  have B7 := Lib.hid (bstep B6.out hb)
  have C7 := Lib.hid (C6.out.on hb)
  have D7 := Lib.hid (D6.out.on hb)
  have R7 := Lib.hid (R6.out.on hb)
  have I7 := Lib.hid (I6.out.off (Off.of_below (S := fun _ => False) hb) (fun x h => h.elim))
  have O7 := Lib.hid (O6.out.on hb)
  have V7 : Hid (∀ x, (Value.slice A5 n5 c5).ownBlock = some x → g + 2 ≤ x ∧ x < gs) := Lib.hid fun x hx => by have := R6.out.lt x hx; omega
  rw [hgs] at ho hcp hsz Z6 ⊢
  have Z7 : Hid (g + 2 ≤ w7.heap.size) := Lib.hid (by have := Z6.out; omega)
  have Y7 := Lib.hid (own_rd ho)
  have M7 : Hid (Own eI 3 (g + 2) w7 (.slice (some ⟨gs + 1, 0, none⟩) m.length m.length) m) := Lib.hid ((hcp 0 m rfl).less Z6.out)
  have HRL : Hid (R.length + 1 ≤ 1000000) := Lib.hid (by have := HLN.out; omega)
  clear hw6 ho hcp hsz hb hgs R6 I6 O6
  go_wp2_with (at_builtin; refine append_rows kdP rfl _ _ rfl (.slice A5 n5 c5) R rfl R7.out (some ⟨gs, 0, none⟩) 1 1 [(some ⟨gs + 1, 0, none⟩, m.length, m.length)] rfl rfl Y7.out HRL.out Z7.out ?_; intro A6 n6 c6 w8 hn6 hr6 hg6 hat6; have N8 := Lib.hid hn6; have R8 := Lib.hid hr6; have G8 := Lib.hid hg6; have T8 := Lib.hid hat6; clear hn6 hr6 hg6 hat6; refine Hid.out ?_)
  refine Lib.hid ?_
  have I8 := Lib.hid (I7.out.snoc (r := (some ⟨gs + 1, 0, none⟩, m.length, m.length)) (l := m) R7.out rfl M7.out (fun x hx e => by cases hx; have h1 := (V7.out (gs + 1) e).2; omega) G8.out (T8.out.imp_right fun h => ⟨_, h, Nat.le_refl _⟩))
  have PF := Lib.hid (I8.out.insQ.plsO R8.out)
  have HGW : Hid (w.heap.size + 2 ≤ g) := S4
  have O8 := Lib.hid (O7.out.keep fun x hx => G8.out.block x (O7.out.lt x hx).2 fun e => by cases hx; have h1 := (V7.out g e.symm).1; omega)
  have C8 := Lib.hid (C7.out.grown G8.out (fun e => by have h1 := (V7.out _ e).1; have h2 := HGW.out; omega))
  have D8 := Lib.hid (D7.out.grown G8.out (fun e => by have h1 := (V7.out _ e).1; have h2 := HGW.out; omega))
  have B8 : Hid (Below w.heap.size w w8) := Lib.hid (B7.out.trans ((R7.out.below G8.out Z7.out).mono (by have h2 := HGW.out; omega)))
  have he := HPE.out
  have HLQ : Hid ((newP P m).length = n6) := Lib.hid (by rw [HNP.out]; exact PF.out.1)
  rw [HLQ.out] at he
  clear M7 Y7 O7 C7 D7 B7 I7 d1
  obtain ⟨x0, x1⟩ := C8.out.two
  obtain ⟨u0, u1⟩ := D8.out.two
  obtain ⟨v0, v1⟩ := D8.out.warm2
  rcases Nat.lt_or_ge 256 n6 with hbig | hsm
  · have e1 : puE hold P m = 8 := he.trans (if_pos hbig)
    have HEE := Lib.hid (And.intro e1 (pu_no (by rw [e1]; decide)))
    have d0 : decide ((256 : Int) < (n6 : Int)) = true := decide_eq_true (by omega)
    clear hbig e1 he
    go_wp2_with fail
    exact bodyPost_ret (res_pipe3 Try.results18 rfl (D8.out.put2 _ _)) rfl (by rw [HEE.out.1, HEE.out.2.1, HEE.out.2.2.1, HEE.out.2.2.2]; exact PuRes.none_ (Rw.below_put2 B8.out (Nat.le_succ _) _ _))
  · have e1 : puE hold P m = 0 := he.trans (if_neg (by omega))
    have HEE := Lib.hid (And.intro e1 (pu_ok e1))
    have d0 : decide ((256 : Int) < (n6 : Int)) = false := decide_eq_false (by omega)
    clear hsm e1 he
    go_wp2_with fail
    exact bodyPost_ret (res_pipe3 Try.results18 rfl (D8.out.put2 _ _)) rfl (by
      rw [HEE.out.1, HEE.out.2.1, HEE.out.2.2.1, HEE.out.2.2.2, HS.out, HK.out, HNP.out]
      have h1 := HGW.out
      exact ⟨_, _, _, _, _, _, rfl, PF.out.1, PF.out.2.1, (own_cl O8.out).1, ((PF.out.2.2.far2 (by omega) _ _).less (by omega)), ((O8.out.other (p := ⟨w.heap.size + 1, 0, none⟩) (by simp [Value.ownBlock]; omega) _).other (p := ⟨w.heap.size + 1, 1, none⟩) (by simp [Value.ownBlock]; omega) _).less (by omega), Rw.below_put2 B8.out (Nat.le_succ _) _ _⟩)
end Go.Proofs.Ytihklpkpcnahkaa.Pipe
/- The chapter's examples (gen19/q.py). -/
namespace Go.Proofs.Ytihklpkpcnahkaa.Pipe
open Go.ChangeShapes Go.WideShapes Go.RowKit Go.Lib
open Go.Proofs.Ytihklpkpcnahkaa.Mem (Cl eI Own)
open Go.Proofs.Ytihklpkpcnahkaa.Rw (glt get_lt below_alloc bstep below_drewN below_drew drew_below)
set_option linter.unusedVariables false
set_option maxRecDepth 100000

theorem lit1 (w : World) (x : Int) (T : TypeId) : Cl eI (w.alloc (.cells #[.int .i64 x] T)) (some ⟨w.heap.size, 0, none⟩) [x] := by
  have hc := Rw.Cel.new w [.int .i64 x] T
  intro i s hs
  match i, hs with
  | 0, hs => simp at hs; subst hs; exact ⟨_, 0, rfl, hc.lt, hc.at_ 0 _ rfl⟩
theorem lit2 (w : World) (x y : Int) (T : TypeId) : Cl eI (w.alloc (.cells #[.int .i64 x, .int .i64 y] T)) (some ⟨w.heap.size, 0, none⟩) [x, y] := by
  have hc := Rw.Cel.new w [.int .i64 x, .int .i64 y] T
  intro i s hs
  match i, hs with
  | 0, hs => simp at hs; subst hs; exact ⟨_, 0, rfl, hc.lt, hc.at_ 0 _ rfl⟩
  | 1, hs => simp at hs; subst hs; exact ⟨_, 0, rfl, hc.lt, hc.at_ 1 _ rfl⟩
theorem lit3 (w : World) (x y z : Int) (T : TypeId) : Cl eI (w.alloc (.cells #[.int .i64 x, .int .i64 y, .int .i64 z] T)) (some ⟨w.heap.size, 0, none⟩) [x, y, z] := by
  have hc := Rw.Cel.new w [.int .i64 x, .int .i64 y, .int .i64 z] T
  intro i s hs
  match i, hs with
  | 0, hs => simp at hs; subst hs; exact ⟨_, 0, rfl, hc.lt, hc.at_ 0 _ rfl⟩
  | 1, hs => simp at hs; subst hs; exact ⟨_, 0, rfl, hc.lt, hc.at_ 1 _ rfl⟩
  | 2, hs => simp at hs; subst hs; exact ⟨_, 0, rfl, hc.lt, hc.at_ 2 _ rfl⟩
theorem pls_two {w : World} {A B : Option Addr} {n c m d : Nat} {l u : List Int} (hn : l.length = n) (hm : u.length = m) (h2 : n ≤ 100) (h3 : m ≤ 100) (hl : Cl eI w A l) (hu : Cl eI w B u) (T : TypeId) : Pls (w.alloc (.cells #[.slice A n c, .slice B m d] T)) (some ⟨w.heap.size, 0, none⟩) [l, u] := fun k x hx => by
  have hc := Rw.Cel.new w [.slice A n c, .slice B m d] T
  match k, hx with
  | 0, hx =>
    simp at hx
    subst hx
    exact ⟨_, 0, A, c, rfl, hc.lt, by rw [hn]; exact hc.at_ 0 _ rfl, hl.on (below_alloc _ _), by omega⟩
  | 1, hx =>
    simp at hx
    subst hx
    exact ⟨_, 0, B, d, rfl, hc.lt, by rw [hm]; exact hc.at_ 1 _ rfl, hu.on (below_alloc _ _), by omega⟩
theorem pls_lit1 (w : World) (x : Int) : Pls ((w.alloc (.cells #[.int .i64 x] 3)).alloc (.cells #[.slice (some ⟨w.heap.size, 0, none⟩) 1 1] 29)) (some ⟨w.heap.size + 1, 0, none⟩) [[x]] := by
  have h := pls_one (c := 1) rfl (by simp) (lit1 w x 3)
  rwa [show (w.alloc (.cells #[.int .i64 x] 3)).heap.size = w.heap.size + 1 by simp] at h
theorem pls_lit3 (w : World) (x y z : Int) : Pls ((w.alloc (.cells #[.int .i64 x, .int .i64 y, .int .i64 z] 3)).alloc (.cells #[.slice (some ⟨w.heap.size, 0, none⟩) 3 3] 29)) (some ⟨w.heap.size + 1, 0, none⟩) [[x, y, z]] := by
  have h := pls_one (c := 3) rfl (by simp) (lit3 w x y z 3)
  rwa [show (w.alloc (.cells #[.int .i64 x, .int .i64 y, .int .i64 z] 3)).heap.size = w.heap.size + 1 by simp] at h
theorem pls_lit22 (w : World) (x y p q : Int) : Pls (((w.alloc (.cells #[.int .i64 x, .int .i64 y] 3)).alloc (.cells #[.int .i64 p, .int .i64 q] 3)).alloc (.cells #[.slice (some ⟨w.heap.size, 0, none⟩) 2 2, .slice (some ⟨w.heap.size + 1, 0, none⟩) 2 2] 29)) (some ⟨w.heap.size + 2, 0, none⟩) [[x, y], [p, q]] := by
  have h1 := lit2 (w.alloc (.cells #[.int .i64 x, .int .i64 y] 3)) p q 3
  have h := pls_two (c := 2) (d := 2) rfl rfl (by simp) (by simp) ((lit2 w x y 3).on (below_alloc _ _)) h1 29
  simpa using h
theorem pls_lit33 (w : World) (x y z p q r : Int) : Pls (((w.alloc (.cells #[.int .i64 x, .int .i64 y, .int .i64 z] 3)).alloc (.cells #[.int .i64 p, .int .i64 q, .int .i64 r] 3)).alloc (.cells #[.slice (some ⟨w.heap.size, 0, none⟩) 3 3, .slice (some ⟨w.heap.size + 1, 0, none⟩) 3 3] 29)) (some ⟨w.heap.size + 2, 0, none⟩) [[x, y, z], [p, q, r]] := by
  have h1 := lit3 (w.alloc (.cells #[.int .i64 x, .int .i64 y, .int .i64 z] 3)) p q r 3
  have h := pls_two (c := 3) (d := 3) rfl rfl (by simp) (by simp) ((lit3 w x y z 3).on (below_alloc _ _)) h1 29
  simpa using h
theorem aw_new : nwE [3, 0, 2] = 0 ∧ nwH [3, 0, 2] = 5 ∧ nwP [3, 0, 2] = [[3, 0, 2]] := by decide +kernel
theorem aw_one : puE 10 [[6, 0], [0, 4]] [8, 0] = 0 ∧ puH 10 [[6, 0], [0, 4]] [8, 0] = 10 ∧ puP 10 [[6, 0], [0, 4]] [8, 0] = [[0, 2], [8, 0]] ∧ puO 10 [[6, 0], [0, 4]] [8, 0] = [6, 2] := by decide +kernel
theorem aw_two : puE 3 [[1, 1, 1]] [2, 0, 0] = 0 ∧ puH 3 [[1, 1, 1]] [2, 0, 0] = 3 ∧ puP 3 [[1, 1, 1]] [2, 0, 0] = [[0, 0, 1], [2, 0, 0]] ∧ puO 3 [[1, 1, 1]] [2, 0, 0] = [1, 1, 0] := by decide +kernel
theorem aw_age : agE 10 [[6, 0], [0, 4]] 1 = 0 ∧ agV 10 [[6, 0], [0, 4]] 1 = 10 := by decide +kernel
theorem aw_full : puE 5 [[5]] [6] = 8 ∧ puH 5 [[5]] [6] = 0 ∧ puP 5 [[5]] [6] = [] ∧ puO 5 [[5]] [6] = [] := by decide +kernel
set_option maxHeartbeats 6400000 in
theorem law_awake (w : World) :
    Calls Try.prog 12 #[] w fun e w' => e = .returned (.bool true) ∧ Below w.heap.size w w' := by
  have KN := Lib.hid fun A (W : World) (h : Cl eI W A [3, 0, 2]) => p_New [3, 0, 2] A 3 3 rfl W h (by decide)
  have KP := Lib.hid fun A B (W : World) (h : Pls W A [[6, 0], [0, 4]]) (k : Cl eI W B [8, 0]) => p_Push 10 [[6, 0], [0, 4]] [8, 0] A B 2 2 2 2 rfl (by decide) rfl W h k (by decide) (by decide)
  have KQ := Lib.hid fun A B (W : World) (h : Pls W A [[1, 1, 1]]) (k : Cl eI W B [2, 0, 0]) => p_Push 3 [[1, 1, 1]] [2, 0, 0] A B 1 1 3 3 rfl (by decide) rfl W h k (by decide) (by decide)
  have KG := Lib.hid fun A (W : World) (h : Pls W A [[6, 0], [0, 4]]) => p_Age 10 1 [[6, 0], [0, 4]] A 2 2 rfl (by decide) W h (by decide)
  have KF := Lib.hid fun A B (W : World) (h : Pls W A [[5]]) (k : Cl eI W B [6]) => p_Push 5 [[5]] [6] A B 1 1 1 1 rfl (by decide) rfl W h k (by decide) (by decide)
  rw [aw_new.1, aw_new.2.1, aw_new.2.2] at KN
  rw [aw_one.1, aw_one.2.1, aw_one.2.2.1, aw_one.2.2.2] at KP
  rw [aw_two.1, aw_two.2.1, aw_two.2.2.1, aw_two.2.2.2] at KQ
  rw [aw_age.1, aw_age.2] at KG
  rw [aw_full.1, aw_full.2.1, aw_full.2.2.1, aw_full.2.2.2] at KF
  have HB := Lib.hid (Below.refl w.heap.size w)
  go_enter Try.func12, Try.ntmps12
  go_wp2_with fail
  refine (KN.out _ _ (lit3 w 3 0 2 _)).mono ?_
  rintro e w1 ⟨A1, n1, c1, rfl, hl, -, ho, hb⟩
  obtain rfl : 1 = n1 := hl
  have hb := bstep (below_alloc _ _) hb
  replace HB := Lib.hid (bstep HB.out hb)
  have P1 := Lib.hid ho.pls
  clear hb ho
  go_upto_region 2 with fail
  obtain ⟨w2, hw⟩ : ∃ W, w1.alloc (.cells #[.int .i64 5, .slice A1 1 c1] 24) = W := ⟨_, rfl⟩
  obtain ⟨gC1, hg⟩ : ∃ g, w1.heap.size = g := ⟨_, rfl⟩
  have hb : Below w1.heap.size w1 w2 := hw ▸ below_alloc _ _
  have C1 : Hid (Rw.Cel w2 gC1 [.int .i64 5, .slice A1 1 c1]) := hw ▸ hg ▸ Rw.Cel.new w1 [_, _] _
  replace HB := Lib.hid (bstep HB.out hb)
  replace P1 := Lib.hid (P1.out.on hb)
  first | rw [hw, hg] | rw [hw]
  clear hw hg hb
  go_wp2_with fail
  refine (KP.out _ _ _ ((pls_lit22 w2 6 0 0 4).on (below_alloc _ _)) (by have h := lit2 (((w2.alloc (.cells #[.int .i64 6, .int .i64 0] 3)).alloc (.cells #[.int .i64 0, .int .i64 4] 3)).alloc (.cells #[.slice (some ⟨w2.heap.size, 0, none⟩) 2 2, .slice (some ⟨w2.heap.size + 1, 0, none⟩) 2 2] 29)) 8 0 3; simpa using h)).mono ?_
  rintro e w3 ⟨A2, n2, c2, B2, m2, d2, rfl, hl, -, hm, ho, hp, hb⟩
  obtain rfl : 2 = n2 := hl
  obtain rfl : 2 = m2 := hm
  have hb := bstep (bstep (bstep (bstep (below_alloc _ _) (below_alloc _ _)) (below_alloc _ _)) (below_alloc _ _)) hb
  replace HB := Lib.hid (bstep HB.out hb)
  replace P1 := Lib.hid (P1.out.on hb)
  replace C1 := Lib.hid (C1.out.on hb)
  have P2 := Lib.hid ho.pls
  have T2 := Lib.hid (own_cl hp).2.2.1
  clear hb ho hp
  go_upto_region 3 with fail
  obtain ⟨w4, hw⟩ : ∃ W, w3.alloc (.cells #[.int .i64 10, .slice A2 2 c2] 24) = W := ⟨_, rfl⟩
  obtain ⟨gC2, hg⟩ : ∃ g, w3.heap.size = g := ⟨_, rfl⟩
  have hb : Below w3.heap.size w3 w4 := hw ▸ below_alloc _ _
  have C2 : Hid (Rw.Cel w4 gC2 [.int .i64 10, .slice A2 2 c2]) := hw ▸ hg ▸ Rw.Cel.new w3 [_, _] _
  replace HB := Lib.hid (bstep HB.out hb)
  replace P1 := Lib.hid (P1.out.on hb)
  replace C1 := Lib.hid (C1.out.on hb)
  replace P2 := Lib.hid (P2.out.on hb)
  replace T2 := Lib.hid (T2.out.on hb)
  first | rw [hw, hg] | rw [hw]
  clear hw hg hb
  go_wp2_with fail
  refine (KQ.out _ _ _ ((pls_lit3 w4 1 1 1).on (below_alloc _ _)) (by have h := lit3 ((w4.alloc (.cells #[.int .i64 1, .int .i64 1, .int .i64 1] 3)).alloc (.cells #[.slice (some ⟨w4.heap.size, 0, none⟩) 3 3] 29)) 2 0 0 3; simpa using h)).mono ?_
  rintro e w5 ⟨A3, n3, c3, B3, m3, d3, rfl, hl, -, hm, ho, hp, hb⟩
  obtain rfl : 2 = n3 := hl
  obtain rfl : 3 = m3 := hm
  have hb := bstep (bstep (bstep (below_alloc _ _) (below_alloc _ _)) (below_alloc _ _)) hb
  replace HB := Lib.hid (bstep HB.out hb)
  replace P1 := Lib.hid (P1.out.on hb)
  replace C1 := Lib.hid (C1.out.on hb)
  replace P2 := Lib.hid (P2.out.on hb)
  replace T2 := Lib.hid (T2.out.on hb)
  replace C2 := Lib.hid (C2.out.on hb)
  have P3 := Lib.hid ho.pls
  have T3 := Lib.hid (own_cl hp).2.2.1
  clear hb ho hp
  go_upto_region 4 with fail
  obtain ⟨w6, hw⟩ : ∃ W, w5.alloc (.cells #[.int .i64 3, .slice A3 2 c3] 24) = W := ⟨_, rfl⟩
  obtain ⟨gC3, hg⟩ : ∃ g, w5.heap.size = g := ⟨_, rfl⟩
  have hb : Below w5.heap.size w5 w6 := hw ▸ below_alloc _ _
  have C3 : Hid (Rw.Cel w6 gC3 [.int .i64 3, .slice A3 2 c3]) := hw ▸ hg ▸ Rw.Cel.new w5 [_, _] _
  replace HB := Lib.hid (bstep HB.out hb)
  replace P1 := Lib.hid (P1.out.on hb)
  replace C1 := Lib.hid (C1.out.on hb)
  replace P2 := Lib.hid (P2.out.on hb)
  replace T2 := Lib.hid (T2.out.on hb)
  replace C2 := Lib.hid (C2.out.on hb)
  replace P3 := Lib.hid (P3.out.on hb)
  replace T3 := Lib.hid (T3.out.on hb)
  first | rw [hw, hg] | rw [hw]
  clear hw hg hb
  go_wp2_with fail
  refine (KG.out _ _ (pls_lit22 w6 6 0 0 4)).mono ?_
  rintro e w7 ⟨rfl, hb⟩
  have hb := bstep (bstep (bstep (below_alloc _ _) (below_alloc _ _)) (below_alloc _ _)) hb
  replace HB := Lib.hid (bstep HB.out hb)
  replace P1 := Lib.hid (P1.out.on hb)
  replace C1 := Lib.hid (C1.out.on hb)
  replace P2 := Lib.hid (P2.out.on hb)
  replace T2 := Lib.hid (T2.out.on hb)
  replace C2 := Lib.hid (C2.out.on hb)
  replace P3 := Lib.hid (P3.out.on hb)
  replace T3 := Lib.hid (T3.out.on hb)
  replace C3 := Lib.hid (C3.out.on hb)
  clear hb
  go_wp2_with fail
  refine (KF.out _ _ _ ((pls_lit1 w7 5).on (below_alloc _ _)) (by have h := lit1 ((w7.alloc (.cells #[.int .i64 5] 3)).alloc (.cells #[.slice (some ⟨w7.heap.size, 0, none⟩) 1 1] 29)) 6 3; simpa using h)).mono ?_
  rintro e w8 ⟨A4, n4, c4, B4, m4, d4, rfl, hl, -, hm, ho, hp, hb⟩
  obtain rfl : 0 = n4 := hl
  obtain rfl : 0 = m4 := hm
  have hb := bstep (bstep (bstep (below_alloc _ _) (below_alloc _ _)) (below_alloc _ _)) hb
  replace HB := Lib.hid (bstep HB.out hb)
  replace P1 := Lib.hid (P1.out.on hb)
  replace C1 := Lib.hid (C1.out.on hb)
  replace P2 := Lib.hid (P2.out.on hb)
  replace T2 := Lib.hid (T2.out.on hb)
  replace C2 := Lib.hid (C2.out.on hb)
  replace P3 := Lib.hid (P3.out.on hb)
  replace T3 := Lib.hid (T3.out.on hb)
  replace C3 := Lib.hid (C3.out.on hb)
  clear hb ho hp
  go_upto_region 6 with fail
  obtain ⟨w9, hw⟩ : ∃ W, w8.alloc (.cells #[.int .i64 0, .slice A4 0 c4] 24) = W := ⟨_, rfl⟩
  obtain ⟨gC4, hg⟩ : ∃ g, w8.heap.size = g := ⟨_, rfl⟩
  have hb : Below w8.heap.size w8 w9 := hw ▸ below_alloc _ _
  have C4 : Hid (Rw.Cel w9 gC4 [.int .i64 0, .slice A4 0 c4]) := hw ▸ hg ▸ Rw.Cel.new w8 [_, _] _
  replace HB := Lib.hid (bstep HB.out hb)
  replace P1 := Lib.hid (P1.out.on hb)
  replace C1 := Lib.hid (C1.out.on hb)
  replace P2 := Lib.hid (P2.out.on hb)
  replace T2 := Lib.hid (T2.out.on hb)
  replace C2 := Lib.hid (C2.out.on hb)
  replace P3 := Lib.hid (P3.out.on hb)
  replace T3 := Lib.hid (T3.out.on hb)
  replace C3 := Lib.hid (C3.out.on hb)
  first | rw [hw, hg] | rw [hw]
  clear hw hg hb
  obtain ⟨x0, x1⟩ := C1.out.two
  go_wp2_with fail
  refine (pipe_eq rfl rfl (P1.out.on (bstep (below_alloc _ _) (below_alloc _ _))) (pls_lit3 w9 3 0 2) (by decide)).mono ?_
  rintro e w10 ⟨rfl, hb⟩
  have hb := bstep (bstep (below_alloc _ _) (below_alloc _ _)) hb
  replace HB := Lib.hid (bstep HB.out hb)
  replace P1 := Lib.hid (P1.out.on hb)
  replace C1 := Lib.hid (C1.out.on hb)
  replace P2 := Lib.hid (P2.out.on hb)
  replace T2 := Lib.hid (T2.out.on hb)
  replace C2 := Lib.hid (C2.out.on hb)
  replace P3 := Lib.hid (P3.out.on hb)
  replace T3 := Lib.hid (T3.out.on hb)
  replace C3 := Lib.hid (C3.out.on hb)
  replace C4 := Lib.hid (C4.out.on hb)
  clear hb x0 x1
  obtain ⟨x0, x1⟩ := C2.out.two
  go_wp2_with fail
  refine (pipe_eq rfl rfl (P2.out.on (bstep (bstep (below_alloc _ _) (below_alloc _ _)) (below_alloc _ _))) (pls_lit22 w10 0 2 8 0) (by decide)).mono ?_
  rintro e w11 ⟨rfl, hb⟩
  have hb := bstep (bstep (bstep (below_alloc _ _) (below_alloc _ _)) (below_alloc _ _)) hb
  replace HB := Lib.hid (bstep HB.out hb)
  replace P1 := Lib.hid (P1.out.on hb)
  replace C1 := Lib.hid (C1.out.on hb)
  replace P2 := Lib.hid (P2.out.on hb)
  replace T2 := Lib.hid (T2.out.on hb)
  replace C2 := Lib.hid (C2.out.on hb)
  replace P3 := Lib.hid (P3.out.on hb)
  replace T3 := Lib.hid (T3.out.on hb)
  replace C3 := Lib.hid (C3.out.on hb)
  replace C4 := Lib.hid (C4.out.on hb)
  clear hb x0 x1
  go_wp2_with fail
  refine (list_eq rfl rfl (T2.out.on (below_alloc _ _)) (lit2 w11 6 2 _) (by decide)).mono ?_
  rintro e w12 ⟨rfl, hb⟩
  have hb := bstep (below_alloc _ _) hb
  replace HB := Lib.hid (bstep HB.out hb)
  replace P1 := Lib.hid (P1.out.on hb)
  replace C1 := Lib.hid (C1.out.on hb)
  replace P2 := Lib.hid (P2.out.on hb)
  replace T2 := Lib.hid (T2.out.on hb)
  replace C2 := Lib.hid (C2.out.on hb)
  replace P3 := Lib.hid (P3.out.on hb)
  replace T3 := Lib.hid (T3.out.on hb)
  replace C3 := Lib.hid (C3.out.on hb)
  replace C4 := Lib.hid (C4.out.on hb)
  clear hb
  obtain ⟨x0, x1⟩ := C3.out.two
  go_wp2_with fail
  refine (pipe_eq rfl rfl (P3.out.on (bstep (bstep (below_alloc _ _) (below_alloc _ _)) (below_alloc _ _))) (pls_lit33 w12 0 0 1 2 0 0) (by decide)).mono ?_
  rintro e w13 ⟨rfl, hb⟩
  have hb := bstep (bstep (bstep (below_alloc _ _) (below_alloc _ _)) (below_alloc _ _)) hb
  replace HB := Lib.hid (bstep HB.out hb)
  replace P1 := Lib.hid (P1.out.on hb)
  replace C1 := Lib.hid (C1.out.on hb)
  replace P2 := Lib.hid (P2.out.on hb)
  replace T2 := Lib.hid (T2.out.on hb)
  replace C2 := Lib.hid (C2.out.on hb)
  replace P3 := Lib.hid (P3.out.on hb)
  replace T3 := Lib.hid (T3.out.on hb)
  replace C3 := Lib.hid (C3.out.on hb)
  replace C4 := Lib.hid (C4.out.on hb)
  clear hb x0 x1
  go_wp2_with fail
  refine (list_eq rfl rfl (T3.out.on (below_alloc _ _)) (lit3 w13 1 1 0 _) (by decide)).mono ?_
  rintro e w14 ⟨rfl, hb⟩
  have hb := bstep (below_alloc _ _) hb
  replace HB := Lib.hid (bstep HB.out hb)
  replace P1 := Lib.hid (P1.out.on hb)
  replace C1 := Lib.hid (C1.out.on hb)
  replace P2 := Lib.hid (P2.out.on hb)
  replace T2 := Lib.hid (T2.out.on hb)
  replace C2 := Lib.hid (C2.out.on hb)
  replace P3 := Lib.hid (P3.out.on hb)
  replace T3 := Lib.hid (T3.out.on hb)
  replace C3 := Lib.hid (C3.out.on hb)
  replace C4 := Lib.hid (C4.out.on hb)
  clear hb
  go_wp2_with fail
  go_ret
  exact ⟨rfl, HB.out⟩
/-- All of it. -/
theorem kit : PiKit where
  check := p_Check
  age := p_Age
  new := p_New
  content := p_Content
  push := p_Push
  awake := law_awake
end Go.Proofs.Ytihklpkpcnahkaa.Pipe
/- Lists of integers: 's[k:]', an append onto an empty literal in a region that draws its order. -/
namespace Go.Proofs.Ytihklpkpcnahkaa.Pipe
open Go.ChangeShapes Go.WideShapes Go.RowKit Go.Lib
open Go.Proofs.Ytihklpkpcnahkaa.Mem (Cl eI Own)
open Go.Proofs.Ytihklpkpcnahkaa.Rw (Rd Kd Row glt get_lt below_alloc bstep below_drewN below_drew drew_below cI cI_len kdI flat_cI append_rows step_rows)
set_option linter.unusedVariables false
set_option maxRecDepth 100000

/-- 's[k:]' of a list that is read. -/
theorem sl_from {w : World} {A : Option Addr} {n c : Nat} {L : List Int} (h : Cl eI w A L) (hn : L.length = n) (hc : n ≤ c) (k : Nat) (hk : k ≤ n) :
    ∃ A' c' m, (L.drop k).length = m ∧ (∀ W : World, (Instr.slice 29 (.slice A n c) (some (.int .i64 (k : Int))) none none).run Try.prog W = .ok (.slice A' m c') W) ∧ Cl eI w A' (L.drop k) := by
  subst hn
  have ht : Try.prog.underlying 29 = some (.slice (Try.prog.elem 29)) := by kernel_rfl
  refine ⟨if c = k then A else A.map (·.add (k * 1)), c - k, L.length - k, List.length_drop, fun W => ?_, fun j z hz => ?_⟩
  · have hs : (sizeOf (Try.prog.elem 29)).run Try.prog W = .ok 1 W := Try.sizeOf3 W
    rw [run_slice_l W 29 A L.length c ht .i64 k (by omega) (by omega), hs]
    simp [sliced, Result.andThen]
  · rw [List.getElem?_drop] at hz
    obtain ⟨b, off, rfl, hlt, hcell⟩ := h (k + j) z hz
    have := glt hz
    rw [if_neg (by omega)]
    refine ⟨b, off + k * 1, by simp [Addr.add_lit], hlt, ?_⟩
    rw [show off + k * 1 + j = off + (k + j) by omega]
    exact hcell
/-- 'l[1:]', as the walk spells it. -/
theorem sl_one {w : World} {b off c : Nat} {a : Int} {t : List Int} (h : Cl eI w (some ⟨b, off, none⟩) (a :: t)) (hc : t.length + 1 ≤ c) : Cl eI w (if c = 1 then some ⟨b, off, none⟩ else some ⟨b, off + 1, none⟩) t := fun j z hz => by
  have h1 := glt hz
  obtain ⟨b', off', e, hlt, hcell⟩ := h (j + 1) z (by rw [List.getElem?_cons_succ]; exact hz)
  cases e
  rw [if_neg (by omega)]
  exact ⟨b, off + 1, rfl, hlt, by rw [Nat.add_right_comm, Nat.add_assoc]; exact hcell⟩
theorem heap_at2 (w : World) (x y : Obj) : ((w.alloc x).alloc y).heap[w.heap.size + 1]? = some y := by
  have h := heap_alloc_new (w.alloc x) y
  rwa [show (w.alloc x).heap.size = w.heap.size + 1 by simp] at h
theorem lt_at2 (w : World) (x y : Obj) : w.heap.size + 1 < ((w.alloc x).alloc y).heap.size := by simp
theorem lt_at1 (w : World) (x y : Obj) : w.heap.size < ((w.alloc x).alloc y).heap.size := by simp; omega
theorem own_emp {w : World} {B g : Nat} (h : w.heap[g]? = some (.cells #[] 3 (0, 0))) (hB : B ≤ g) : Rw.Row cI 1 3 B w (.slice (some ⟨g, 0, none⟩) 0 0) [] :=
  ⟨rfl, Or.inr ⟨g, 0, #[], rfl, hB, h, Nat.le_refl _, by unfold maxLen; omega, rfl, rfl⟩⟩
theorem blk_al {w : World} {g : Nat} {c : Obj} (h : w.heap[g]? = some c) (o : Obj) : (w.alloc o).heap[g]? = some c :=
  ((below_alloc w o).block g (Array.getElem?_eq_some_iff.mp h).1).trans h
/-- An append onto an empty literal. -/
theorem step_emp {w0 w : World} {ops : Array Oper} {o : Oper} {a : Act} {K' : Act → World → Prop} {Q : Exit → Act → World → Prop} {E : Prop} (hgd : o.guard = none) (x y : Operand)
    (ho : o.op = .call { callee := .builtin .append, args := #[x, y], argTypes := #[29, 29] })
    (g : Nat) (hs : a.eval x = .slice (some ⟨g, 0, none⟩) 0 0) (hg0 : w0.heap.size ≤ g) (hg : w.heap[g]? = some (.cells #[] 3 (0, 0))) (hbm : Below w0.heap.size w0 w) (A : Option Addr) (m c : Nat) (M : List Int) (hm : M.length = m) (hx : a.eval y = .slice A m c) (hz : Cl eI w0 A M) (hlen : m ≤ 1000000)
    (h : ∀ A' n' c' w', n' = m → Rw.Row cI 1 3 w0.heap.size w' (.slice A' n' c') M → (∀ b, b < w.heap.size → b ≠ g → w'.heap[b]? = w.heap[b]?) → Below w0.heap.size w0 w' → w.heap.size ≤ w'.heap.size → (∀ b, b < w.heap.size → b ≠ g → (Value.slice A' n' c').ownBlock ≠ some b) → K' (a.put o.dst (.slice A' n' c')) w') :
    if Region.wanted o (yielded ops a.tmps) = true then Oper.wp Try.prog o a w K' Q else E := by
  have hown := own_emp (B := w0.heap.size) hg hg0
  refine step_rows kdI w hgd x y ho _ [] hs hown (Below.refl _ _) A m c M hm.symm hx (rd_cl (hz.on hbm)) (by simp; omega) (by have := hbm.size; omega) ?_
  intro A' n' c' w' hn hr hk hgr hat
  rw [List.nil_append] at hr
  refine h A' n' c' w' (by simpa using hn) hr (fun b hb hne => hk b hb (fun e => by cases e; exact hne rfl)) (hbm.trans (hown.below hgr hbm.size)) hgr.size (fun b hb hne e => ?_)
  rcases hat with h1 | ⟨b', h1, h2⟩
  · rw [h1] at e; cases e; exact hne rfl
  · rw [h1] at e; cases e; omega
end Go.Proofs.Ytihklpkpcnahkaa.Pipe
