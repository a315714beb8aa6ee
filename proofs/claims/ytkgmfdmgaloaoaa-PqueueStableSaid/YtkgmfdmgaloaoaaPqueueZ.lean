/- Sort and Same of the reference; count and same of the laws. -/
import Derived.Test.YtkgmfdmgaloaoaaPqueueY
namespace Go.Proofs.Ytkgmfdmgaloaoaa.PqueueI
open Go.ChangeShapes Go.WideShapes Go.RowKit Go.Lib Go.Proofs.Ytkgmfdmgaloaoaa.Pqueue
set_option linter.unusedVariables false
set_option maxRecDepth 100000

/-- What Sort of the reference returns. -/
def RSortP (w : World) (m : Int) (L : List It) (e : Ending) (w' : World) : Prop :=
  ∃ T A' c', T.length = L.length ∧ e = .returned (.slice A' L.length c') ∧ Row cV 2 TV w.heap.size w' (.slice A' L.length c') T ∧ Pops (lessM m) L T [] ∧ Below w.heap.size w w'
set_option maxHeartbeats 1600000 in
theorem ref_Sort {w : World} {A : Option Addr} {c : Nat} {m : Int} {L : List It} (hL : Rd cV 2 w A L) (hm : L.length ≤ 900000) (hc : L.length ≤ c) (hcm : c ≤ maxLen) :
    Calls Try.prog 22 #[.int .i64 m, .slice A L.length c] w (RSortP w m L) := by
  obtain ⟨N, hN⟩ : ∃ N, L.length = N := ⟨_, rfl⟩
  have HN := Lib.hid hN
  have HL := Lib.hid hL
  have HC := Lib.hid (show N ≤ c by omega)
  have HCM := Lib.hid hcm
  rw [hN] at hm ⊢
  have HM := Lib.hid hm
  have hm1 : (N : Int) ≤ 900000 := by omega
  clear hL hN hc hcm
  go_enter Try.func22, Try.ntmps22
  go_wp2_with fail
  generalize hw1 : w.alloc (.cells #[.int .i64 m, .slice A N c] TR) = w1
  have HB1 : Hid (Below w.heap.size w w1) := hw1 ▸ below_alloc _ _
  have HSZ := Lib.hid (show w1.heap.size = w.heap.size + 1 by rw [← hw1]; simp)
  have HQ1 := Lib.hid (show Rq w1 w.heap.size (fun k => k = w.heap.size ∨ (0 < L.length ∧ ∃ off, A = some ⟨k, off, none⟩)) m L from by
    have hL1 := HL.out.on HB1.out
    refine ⟨Or.inl rfl, fun k hk => ?_, A, c, by rw [HN.out, ← hw1]; exact heap_alloc_new _ _, hL1, fun b off e h0 => ⟨Or.inr ⟨h0, off, e⟩, ?_⟩, by rw [HN.out]; exact HC.out, HCM.out⟩
    · rcases hk with rfl | ⟨h0, off, e⟩
      · rw [HSZ.out]; omega
      · obtain ⟨z, hz⟩ := get_lt h0
        obtain ⟨b, o, e2, hb, _⟩ := hL1 0 z hz
        rw [e] at e2; cases e2; exact hb
    · obtain ⟨z, hz⟩ := get_lt h0
      obtain ⟨b2, o, e2, hb, _⟩ := HL.out 0 z hz
      rw [e] at e2; cases e2; omega)
  clear hw1
  go_loopw [6, 7] (fun v i wr => ∃ (k : Nat) (o R : List It) (S : Nat → Prop) (A' : Option Addr) (q c' : Nat), i = .int .i64 (k : Int) ∧ v = .slice A' q c' ∧ q = o.length ∧ o.length = k ∧ Row cV 2 TV w.heap.size wr (.slice A' q c') o ∧ Rq wr w.heap.size S m R ∧ (∀ b, (Value.slice A' q c').ownBlock = some b → ¬ S b ∧ b ≠ w.heap.size) ∧ Pops (lessM m) L o R ∧ Below w.heap.size w wr) (fun _ i _ => N - (intOf i).toNat)
  case atStart => exact ⟨0, [], L, _, none, 0, 0, rfl, rfl, rfl, rfl, Row.nil _ _ _ _ _, HQ1.out, (fun b e => by cases e), Pops.nil _, HB1.out⟩
  case round =>
    obtain ⟨k, o, R, S, A', q, c', rfl, rfl, hq, hk, hrow, hrq, hdis, hpops, hbel⟩ := hrel
    have HQL := Lib.hid hq
    have HK := Lib.hid hk
    have HROW := Lib.hid hrow
    have HRQ := Lib.hid hrq
    have HD := Lib.hid hdis
    have HPOPS := Lib.hid hpops
    have HB := Lib.hid hbel
    have HLEN := Lib.hid (show o.length + R.length = N by have := hpops.outs.len; rw [HN.out] at this; omega)
    clear hq hk hrow hrq hdis hpops hbel
    rcases Nat.lt_or_ge k N with hlt | hge
    · have HPOP := Lib.hid (ref_Pop HRQ.out (by have := HLEN.out; have := HK.out; omega) (by have := HLEN.out; have := HM.out; omega))
      have HOL := Lib.hid (show o.length + 1 ≤ 900000 by have := HK.out; have := HM.out; omega)
      have i1 : (k : Int) < (N : Int) := by omega
      have i2 : (0 : Int) ≤ (k : Int) := by omega
      go_wp2_with fail
      refine HPOP.out.mono ?_
      rintro e w3 ⟨i, x, S', hx, hf, rfl, hq3, hs3, ho3⟩
      have HROW3 := Lib.hid (HROW.out.keep fun b hb => ho3.block b (HROW.out.lt b hb).2 (HD.out b hb).2)
      have HD3 := Lib.hid (show ∀ b, (Value.slice A' q c').ownBlock = some b → ¬ S' b ∧ b ≠ w.heap.size from fun b hb => ⟨fun h => by
        rcases hs3 b h with h1 | h1
        · exact (HD.out b hb).2 h1
        · have := (HROW.out.lt b hb).2; omega, (HD.out b hb).2⟩)
      have HQ3 := Lib.hid hq3
      have HO3 := Lib.hid (Off.below ho3 (B := w.heap.size) HB.out.size fun j hj => Nat.le_of_eq hj.symm)
      have HX := Lib.hid hx
      have HF := Lib.hid hf
      clear hx hf hq3 hs3 ho3 HPOP
      go_wp2_with (at_builtin; refine append_rows kdV rfl _ _ rfl (.slice A' q c') o rfl (HROW3.out.on (bstep (below_alloc _ _) (below_alloc _ _))) (some ⟨w3.heap.size + 1, 0, none⟩) 1 1 [x] rfl rfl (rd_one cV_len (by rw [← World.size_alloc w3 (.cells #[.int .i64 x.1, .int .i64 x.2] TV)]; exact heap_alloc_new _ _)) (by have := HOL.out; omega) (by have := HB.out.size; have := HO3.out.size; simp; omega) ?_; intro A5 n5 c5 w5 hn5 hr5 hg5 hat5; refine Hid.out ?_)
      subst hn5
      have HR5 := Lib.hid hr5
      have HPB := bstep (below_alloc w3 (.cells #[.int .i64 x.1, .int .i64 x.2] TV)) (below_alloc _ (.cells #[.int .i64 x.1, .int .i64 x.2] TV))
      have HQ3W := HQ3.out.on HPB
      have HQ5 := Lib.hid (HQ3W.keep hg5.size fun j hj => hg5.block j (HQ3W.lt j hj) fun e => (HD3.out j e.symm).1 hj)
      have HD5 : Hid (∀ b, (Value.slice A5 (o.length + 1) c5).ownBlock = some b → ¬ S' b ∧ b ≠ w.heap.size) := Lib.hid fun b hb => by
        rcases hat5 with h1 | h1
        · rw [h1] at hb; exact HD3.out b hb
        · rw [h1] at hb; cases hb
          refine ⟨fun h => Nat.lt_irrefl _ (HQ3W.lt _ h), fun e => Nat.lt_irrefl _ (Nat.lt_of_lt_of_eq (HQ3W.lt _ HQ3.out.sg) e)⟩
      have HB5 := Lib.hid ((HB.out.trans HO3.out).trans (Below.trans (HPB.mono (by have := HB.out.size; have := HO3.out.size; omega)) (Row.below (HROW3.out.on HPB) hg5 (by have := HB.out.size; have := HO3.out.size; simp; omega))))
      clear hr5 hg5 hat5 HQ3W HPB
      refine Lib.hid ?_
      go_wp2_with fail
      go_roundw
      case rel => exact ⟨k + 1, o ++ [x], R.eraseIdx i, S', A5, o.length + 1, c5, by go_num, rfl, by rw [List.length_append, List.length_singleton], by rw [List.length_append, List.length_singleton, HK.out], HR5.out, HQ5.out, HD5.out, HPOPS.out.snoc HF.out HX.out, HB5.out⟩
      case measure => simp [intOf]; omega
    · have hR : R = [] := List.eq_nil_of_length_eq_zero (by have := HLEN.out; have := HK.out; omega)
      have hqN : q = N := by rw [HQL.out]; have := HLEN.out; rw [hR] at this; simpa using this
      have HP := HPOPS.out
      rw [hR] at HP
      have HP2 := Lib.hid HP
      clear HP
      go_wp2_with fail
      go_ret
      exact ⟨o, A', c', by rw [HN.out, ← HQL.out, hqN], ret_slice (by rw [hqN, HN.out]), by rw [HN.out, ← hqN]; exact HROW.out, HP2.out, HB.out⟩
#print axioms ref_Sort

theorem eql_item (x y : It) (w : World) : (binOp .eql 27 (.agg #[.int .i64 x.1, .int .i64 x.2]) (.agg #[.int .i64 y.1, .int .i64 y.2])).run Try.prog w = .ok (.bool (decide (x.1 = y.1) && decide (x.2 = y.2))) w := by
  have u3 := Try.underlying3
  have a3 := Try.isAgg3
  have z3 := Try.sizeOf3
  have hS : Try.prog.underlying 27 = some (.struct (Try.prog.fieldsOf 27)) := by kernel_rfl
  have hp : Try.prog.stoodInHeld 27 = false := by kernel_rfl
  rw [run_eql_struct, show (10000 : Nat) = 9999 + 1 from rfl, run_equalIn_agg w 9999 27 _ _ hS hp]
  simp only [Program.fieldsOf, Try.underlying27]
  go_simp
  by_cases h1 : x.1 = y.1 <;> by_cases h2 : x.2 = y.2 <;> simp [h1, h2]
theorem neq_item (x y : It) (w : World) : (binOp .neq 27 (.agg #[.int .i64 x.1, .int .i64 x.2]) (.agg #[.int .i64 y.1, .int .i64 y.2])).run Try.prog w = .ok (.bool !(decide (x.1 = y.1) && decide (x.2 = y.2))) w := by
  have u3 := Try.underlying3
  have a3 := Try.isAgg3
  have z3 := Try.sizeOf3
  have hS : Try.prog.underlying 27 = some (.struct (Try.prog.fieldsOf 27)) := by kernel_rfl
  have hp : Try.prog.stoodInHeld 27 = false := by kernel_rfl
  rw [run_neq_struct, show (10000 : Nat) = 9999 + 1 from rfl, run_equalIn_agg w 9999 27 _ _ hS hp]
  simp only [Program.fieldsOf, Try.underlying27]
  go_simp
  by_cases h1 : x.1 = y.1 <;> by_cases h2 : x.2 = y.2 <;> simp [h1, h2]
theorem neq_same (x : It) (w : World) : (binOp .neq 27 (.agg #[.int .i64 x.1, .int .i64 x.2]) (.agg #[.int .i64 x.1, .int .i64 x.2])).run Try.prog w = .ok (.bool false) w := by
  rw [neq_item]; simp
theorem ret_true : Ending.returned (.bool true) = .returned (.bool true) := rfl
set_option maxHeartbeats 800000 in
/-- Same of two lists that are the same. -/
theorem ref_Same (L : List It) (A B : Option Addr) (c d : Nat) (w : World) (ha : Rd cV 2 w A L) (hb : Rd cV 2 w B L) (hm : L.length ≤ 9223372036854775807) :
    Calls Try.prog 20 #[.slice A L.length c, .slice B L.length d] w fun e w' => e = .returned (.bool true) ∧ Below w.heap.size w w' := by
  have HA := Lib.hid ha
  have HB := Lib.hid hb
  obtain ⟨N, hN⟩ : ∃ N, L.length = N := ⟨_, rfl⟩
  have HN := Lib.hid hN
  rw [hN] at hm ⊢
  clear ha hb hN
  have hl' : ((N : Int) == (N : Int)) = true := by simp
  have hl2 : ((N : Int) != (N : Int)) = false := by simp
  go_enter Try.func20, Try.ntmps20
  go_wp2_with fail
  go_loopw [5] (fun i wr => ∃ k : Nat, k ≤ N ∧ i = .int .i64 k ∧ Below w.heap.size w wr) (fun i _ => N - (intOf i).toNat)
  case atStart => exact ⟨0, Nat.zero_le _, rfl, Below.refl _ _⟩
  case round =>
    obtain ⟨k, hk, rfl, hbel⟩ := hrel
    have HW := Lib.hid hbel
    clear hbel
    rcases Nat.lt_or_ge k N with hlt | hge
    · obtain ⟨s, hs⟩ := get_lt (L := L) (k := k) (by rw [HN.out]; exact hlt)
      obtain ⟨b1, off1, rfl, hb1, h0, h1⟩ := rd_cells (HA.out.on HW.out) hs
      obtain ⟨b2, off2, rfl, hb2, h2, h3⟩ := rd_cells (HB.out.on HW.out) hs
      have i1 : (k : Int) < (N : Int) := by omega
      have i2 : (0 : Int) ≤ (k : Int) := by omega
      have hq := neq_same s
      clear hs
      go_wp2_with fail
      go_quiet (fail)
      go_wp2_with fail
      go_roundw
      case rel => exact ⟨k + 1, by omega, by go_num, below_drewN HW.out _⟩
      case measure => simp [intOf]; omega
    · obtain rfl : k = N := by omega
      go_wp2_with fail
      go_ret
      exact ⟨rfl, HW.out⟩
/-- How often a value is in a list. -/
def cnt (L : List It) (x : It) : Nat := (L.filter fun y => decide (y = x)).length
theorem cnt_perm {L M : List It} (h : L.Perm M) (x : It) : cnt L x = cnt M x := (h.filter _).length_eq
theorem cnt_snoc (L : List It) (y x : It) : cnt (L ++ [y]) x = cnt L x + if y = x then 1 else 0 := by
  unfold cnt
  rw [List.filter_append, List.length_append]
  by_cases h : y = x <;> simp [h]
theorem cnt_le (L : List It) (x : It) : cnt L x ≤ L.length := List.length_filter_le _ _
set_option maxHeartbeats 800000 in
theorem law_count (L : List It) (A : Option Addr) (c : Nat) (x : It) (w : World) (ha : Rd cV 2 w A L) (hm : L.length ≤ 1000000) :
    Calls Try.prog 37 #[.slice A L.length c, eV x] w fun e w' => e = .returned (.int .i64 (cnt L x : Int)) ∧ Below w.heap.size w w' := by
  have HA := Lib.hid ha
  obtain ⟨N, hN⟩ : ∃ N, L.length = N := ⟨_, rfl⟩
  have HN := Lib.hid hN
  rw [hN] at hm ⊢
  clear ha hN
  go_enter Try.func37, Try.ntmps37
  go_wp2_with fail
  generalize hw1 : w.alloc (.cells #[.int .i64 x.1, .int .i64 x.2] TV) = w1
  have HB1 : Hid (Below w.heap.size w w1) := hw1 ▸ below_alloc _ _
  have HX := Lib.hid (show (w1.cell? ⟨w.heap.size, 0, none⟩ = some (.int .i64 x.1) ∧ w1.cell? ⟨w.heap.size, 1, none⟩ = some (.int .i64 x.2)) ∧ w.heap.size < w1.heap.size by subst hw1; simp)
  clear hw1
  go_loopw [5, 6] (fun v i wr => ∃ k : Nat, k ≤ N ∧ i = .int .i64 k ∧ v = .int .i64 (cnt (L.take k) x : Int) ∧ Below w1.heap.size w1 wr) (fun _ i _ => N - (intOf i).toNat)
  case atStart => exact ⟨0, Nat.zero_le _, rfl, rfl, Below.refl _ _⟩
  case round =>
    obtain ⟨k, hk, rfl, rfl, hbel⟩ := hrel
    have HW := Lib.hid hbel
    clear hbel
    have z0 := (HW.out.cell (p := ⟨w.heap.size, 0, none⟩) HX.out.2).trans HX.out.1.1
    have z1 := (HW.out.cell (p := ⟨w.heap.size, 1, none⟩) HX.out.2).trans HX.out.1.2
    have hc0 := cnt_le (L.take k) x
    rw [List.length_take] at hc0
    obtain ⟨q, hq⟩ : ∃ q, cnt (L.take k) x = q := ⟨_, rfl⟩
    have HQ := Lib.hid hq
    rw [hq] at hc0 ⊢
    clear hq
    rcases Nat.lt_or_ge k N with hlt | hge
    · obtain ⟨s, hs⟩ := get_lt (L := L) (k := k) (by rw [HN.out]; exact hlt)
      obtain ⟨b1, off1, rfl, hb1, h0, h1⟩ := rd_cells ((HA.out.on HB1.out).on HW.out) hs
      have HT := Lib.hid (show cnt (L.take (k + 1)) x = q + if s = x then 1 else 0 by rw [take_snoc_of hs, cnt_snoc, HQ.out])
      have i1 : (k : Int) < (N : Int) := by omega
      have i2 : (0 : Int) ≤ (k : Int) := by omega
      have j1 : (q : Int) ≤ 1000000 := by omega
      have j2 : (0 : Int) ≤ (q : Int) := by omega
      have he := eql_item s x
      by_cases hsx : s = x
      · have HT2 := Lib.hid (show cnt (L.take (k + 1)) x = q + 1 by rw [HT.out, if_pos hsx])
        have hv : (decide (s.1 = x.1) && decide (s.2 = x.2)) = true := by rw [hsx]; simp
        rw [hv] at he
        clear hv hsx hs
        go_wp2_with fail
        go_quiet (fail)
        go_wp2_with fail
        go_roundw
        case rel => exact ⟨k + 1, by omega, by go_num, by rw [HT2.out]; go_num, below_drewN HW.out _⟩
        case measure => simp [intOf]; omega
      · have HT2 := Lib.hid (show cnt (L.take (k + 1)) x = q by rw [HT.out, if_neg hsx]; rfl)
        have hv : (decide (s.1 = x.1) && decide (s.2 = x.2)) = false := by
          rw [Bool.and_eq_false_iff]
          rcases Decidable.em (s.1 = x.1) with g | g
          · exact Or.inr (decide_eq_false fun h => hsx (Prod.ext g h))
          · exact Or.inl (decide_eq_false g)
        rw [hv] at he
        clear hv hsx hs
        go_wp2_with fail
        go_quiet (fail)
        go_wp2_with fail
        go_roundw
        case rel => exact ⟨k + 1, by omega, by go_num, by rw [HT2.out], below_drewN HW.out _⟩
        case measure => simp [intOf]; omega
    · have HT := Lib.hid (show q = cnt L x by rw [← HQ.out, List.take_of_length_le (by rw [HN.out]; omega)])
      go_wp2_with fail
      go_ret
      exact ⟨ret_int (by rw [HT.out]), bstep HB1.out HW.out⟩
#print axioms ref_Same
#print axioms law_count
end Go.Proofs.Ytkgmfdmgaloaoaa.PqueueI
