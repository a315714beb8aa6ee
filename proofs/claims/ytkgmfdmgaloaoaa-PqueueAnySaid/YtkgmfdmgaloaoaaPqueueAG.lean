/- The walk of PqueueAny. -/
import Derived.Test.YtkgmfdmgaloaoaaPqueueAE
namespace Go.Proofs.Ytkgmfdmgaloaoaa.PqueueI
open Go.ChangeShapes Go.WideShapes Go.RowKit Go.Lib Go.Proofs.Ytkgmfdmgaloaoaa.Pqueue
set_option linter.unusedVariables false
set_option maxRecDepth 100000

set_option maxHeartbeats 3200000 in
theorem walk_PqueueAny (w : World) (A : Option Addr) (c : Nat) (L : List It) (hs : Rd cV 2 w A L) (hl : L.length ≤ c) (hc : c ≤ maxLen) :
    Calls Try.prog 7 #[.slice A L.length c] w fun e w' => e = .returned (.bool true) ∧ Below w.heap.size w w' := by
  have HS := Lib.hid hs
  have hm9 : L.length ≤ 9223372036854775807 := by unfold maxLen at hc; omega
  obtain ⟨N, hN⟩ : ∃ N, L.length = N := ⟨_, rfl⟩
  have HN := Lib.hid hN
  rw [hN] at hm9 ⊢
  clear hs hc hl hN
  rcases Nat.lt_or_ge 100 N with hg | hg
  · go_enter Try.func7, Try.ntmps7
    go_wp2_with fail
    refine (awake_true w).mono ?_
    rintro e w1 ⟨rfl, hb⟩
    have HB := Lib.hid hb
    clear hb
    go_wp2_with fail
    go_ret
    exact ⟨rfl, HB.out⟩
  · have hg' : ¬ 100 < N := by omega
    have HG := Lib.hid hg
    clear hg
    go_enter Try.func7, Try.ntmps7
    go_wp2_with fail
    refine (q_New 23 w).mono ?_
    intro e w1 hnew
    obtain ⟨rfl, hq1, hb1⟩ := hnew.open_ oddB
    have HQ1 := Lib.hid hq1
    have HB1 := Lib.hid hb1
    clear hnew hq1 hb1
    go_wp2_with fail
    go_loopw [4] (fun i wr => ∃ (k : Nat) (S : Nat → Prop), i = .int .i64 (k : Int) ∧ k ≤ N ∧ Qr wr w.heap.size S 23 oddB (L.take k) k ∧ (∀ j, S j → w.heap.size ≤ j) ∧ Below w.heap.size w wr) (fun i _ => N - (intOf i).toNat)
    case atStart => exact ⟨0, _, rfl, Nat.zero_le _, HQ1.out, fun j h => Nat.le_of_eq h.symm, HB1.out⟩
    case round =>
      obtain ⟨k, S, rfl, hk, hq, hS, hbel⟩ := hrel
      have HQ := Lib.hid hq
      have HSS := Lib.hid hS
      have HB := Lib.hid hbel
      have HK := Lib.hid hk
      clear hq hS hbel hk
      rcases Nat.lt_or_ge k N with hlt | hge
      · obtain ⟨x, hx⟩ := get_lt (L := L) (k := k) (by rw [HN.out]; exact hlt)
        obtain ⟨b, off, rfl, hb, h0, h1⟩ := rd_cells (HS.out.on HB.out) hx
        have HX := Lib.hid (take_snoc_of hx)
        have HKL := Lib.hid hlt
        have i1 : (k : Int) < (N : Int) := by omega
        have i2 : (0 : Int) ≤ (k : Int) := by omega
        clear hx
        go_wp2_with fail
        refine (push_at HQ.out ord_odd (by rw [List.length_take]; have := HG.out; omega) (by have := HG.out; have := HKL.out; omega) x).mono ?_
        rintro e w4 ⟨rfl, S', hq4, hs4, ho4⟩
        have HQ4 := Lib.hid hq4
        have HO4 := Lib.hid (Off.below ho4 (B := w.heap.size) HB.out.size HSS.out)
        have HS4 : Hid (∀ j, S' j → w.heap.size ≤ j) := fun j hj => by
          rcases hs4 j hj with h | h
          · exact HSS.out j h
          · have := HB.out.size; omega
        clear hq4 hs4 ho4
        go_wp2_with fail
        go_roundw
        case rel => exact ⟨k + 1, S', by go_num, HKL.out, by rw [HX.out]; exact HQ4.out, HS4.out, HB.out.trans HO4.out⟩
        case measure => simp [intOf]; omega
      · obtain rfl : k = N := by have := HK.out; omega
        have HQN : Hid (Qr wr w.heap.size S 23 oddB L k) := by have := HQ.out; rw [← HN.out, List.take_length, HN.out] at this; exact this
        have HBN := Lib.hid HB.out
        have HS0 := Lib.hid HSS.out
        clear HQ HB HSS
        obtain ⟨wo, rfl⟩ : ∃ wo : World, wo = wr := ⟨_, rfl⟩
        go_wp2_with fail
        go_loopw [5, 6] (fun v i wr => ∃ (j : Nat) (o R : List It) (S : Nat → Prop) (A' : Option Addr) (q c' : Nat), i = .int .i64 (j : Int) ∧ v = .slice A' q c' ∧ q = o.length ∧ o.length = j ∧ Row cV 2 TV w.heap.size wr (.slice A' q c') o ∧ Qr wr w.heap.size S 23 oddB R k ∧ (∀ b, (Value.slice A' q c').ownBlock = some b → ¬ S b) ∧ (∀ b, S b → w.heap.size ≤ b) ∧ Outs L o R ∧ Below w.heap.size w wr) (fun _ i _ => k - (intOf i).toNat)
        case atStart => exact ⟨0, [], L, S, none, 0, 0, rfl, rfl, rfl, rfl, Row.nil _ _ _ _ _, HQN.out, (fun b e => by cases e), HS0.out, .nil _, HBN.out⟩
        case round =>
          obtain ⟨j, o, R, S2, A', q, c', rfl, rfl, hq, hk, hrow, hrq, hdis, hS, houts, hbel⟩ := hrel
          have HQL := Lib.hid hq
          have HK := Lib.hid hk
          have HROW := Lib.hid hrow
          have HQ := Lib.hid hrq
          have HD := Lib.hid hdis
          have HS2 := Lib.hid hS
          have HOUTS := Lib.hid houts
          have HB := Lib.hid hbel
          have HLEN := Lib.hid (show o.length + R.length = k by have := houts.len; rw [HN.out] at this; omega)
          clear hq hk hrow hrq hdis hS houts hbel
          rcases Nat.lt_or_ge j k with hlt | hge
          · have HPOP := Lib.hid (pop_at HQ.out ord_odd (by have := HLEN.out; have := HG.out; omega) (by have := HLEN.out; have := HK.out; omega))
            have HOL := Lib.hid (show o.length + 1 ≤ 900000 by have := HK.out; have := HG.out; omega)
            have i1 : (j : Int) < (k : Int) := by omega
            have i2 : (0 : Int) ≤ (j : Int) := by omega
            obtain ⟨r1, hr1⟩ : ∃ r1, k = j + 1 + r1 := ⟨k - (j + 1), by omega⟩
            have hd : (k : Int) - 1 - (j : Int) = (r1 : Int) := by omega
            have hd1 : (1 : Int) ≤ (k : Int) := by omega
            have hnn : ((r1 : Int) != (r1 : Int)) = false := by simp
            have HR1 := Lib.hid hr1
            clear hr1
            go_wp2_with fail
            refine HPOP.out.mono ?_
            rintro e w3 ⟨i, x, hx, -, rfl, hq3, ho3⟩
            have HLN := Lib.hid (show (R.eraseIdx i).length = r1 by have := erase_len hx; have := HLEN.out; have := HK.out; have := HR1.out; omega)
            have HROW3 := Lib.hid (HROW.out.keep fun b hb => ho3.block b (HROW.out.lt b hb).2 (HD.out b hb))
            have HQ3 := Lib.hid hq3
            have HO3 := Lib.hid (Off.below ho3 (B := w.heap.size) HB.out.size HS2.out)
            have HX := Lib.hid hx
            clear hx hq3 ho3 HPOP
            go_wp2_with fail
            have HLE := Lib.hid (len_at (HQ3.out.on (below_alloc w3 (.cells #[.int .i64 x.1, .int .i64 x.2] TV))))
            rw [HLN.out] at HLE
            refine HLE.out.mono ?_
            rintro e w4 ⟨rfl, rfl⟩
            clear HLE
            go_wp2_with (at_builtin; refine append_rows kdV rfl _ _ rfl (.slice A' q c') o rfl (HROW3.out.on (bstep (below_alloc _ _) (below_alloc _ _))) (some ⟨w3.heap.size + 1, 0, none⟩) 1 1 [x] rfl rfl (rd_one cV_len (by rw [← World.size_alloc w3 (.cells #[.int .i64 x.1, .int .i64 x.2] TV)]; exact heap_alloc_new _ _)) (by have := HOL.out; omega) (by have := HB.out.size; have := HO3.out.size; simp; omega) ?_; intro A5 n5 c5 w5 hn5 hr5 hg5 hat5; refine Hid.out ?_)
            subst hn5
            have HR5 := Lib.hid hr5
            have HPB := bstep (below_alloc w3 (.cells #[.int .i64 x.1, .int .i64 x.2] TV)) (below_alloc _ (.cells #[.int .i64 x.1, .int .i64 x.2] TV))
            have HQ3W := HQ3.out.on HPB
            have HQ5 := Lib.hid (HQ3W.keep hg5.size fun b hb => hg5.block b (HQ3W.bnd b hb) fun e => HD.out b e.symm hb)
            have HD5 : Hid (∀ b, (Value.slice A5 (o.length + 1) c5).ownBlock = some b → ¬ S2 b) := Lib.hid fun b hb h => by
              rcases hat5 with h1 | h1
              · rw [h1] at hb; exact HD.out b hb h
              · rw [h1] at hb; cases hb; exact Nat.lt_irrefl _ (HQ3W.bnd _ h)
            have HB5 := Lib.hid ((HB.out.trans HO3.out).trans (Below.trans (HPB.mono (by have := HB.out.size; have := HO3.out.size; omega)) (Row.below (HROW3.out.on HPB) hg5 (by have := HB.out.size; have := HO3.out.size; simp; omega))))
            clear hr5 hg5 hat5 HQ3W HPB
            refine Lib.hid ?_
            go_wp2_with fail
            go_roundw
            case rel => exact ⟨j + 1, o ++ [x], R.eraseIdx i, S2, A5, o.length + 1, c5, by go_num, rfl, by rw [List.length_append, List.length_singleton], by rw [List.length_append, List.length_singleton, HK.out], HR5.out, HQ5.out, HD5.out, HS2.out, HOUTS.out.snoc HX.out, HB5.out⟩
            case measure => simp [intOf]; omega
          · have hR : R = [] := List.eq_nil_of_length_eq_zero (by have := HLEN.out; have := HK.out; omega)
            have hqN : q = k := by rw [HQL.out]; have := HLEN.out; rw [hR] at this; simpa using this
            have HP := Lib.hid (show L.Perm o by have := HOUTS.out.perm; rw [hR, List.append_nil] at this; exact this)
            have HOL := Lib.hid (show o.length = k by rw [← HQL.out]; exact hqN)
            subst hqN
            clear hR
            go_wp2_with fail
            have HSORT := Lib.hid (q_Sort (c := c) (HS.out.on HB.out) (by rw [HN.out]; have := HG.out; omega) ord_odd)
            rw [HN.out] at HSORT
            refine HSORT.out.mono ?_
            rintro e w5 ⟨T, A5, c5, hT, rfl, hr5, hp5, -, hb5⟩
            have HR5 := Lib.hid (row_rd hr5).1
            have HP5 := Lib.hid hp5
            have HT := Lib.hid hT
            have HB5 := Lib.hid (bstep HB.out hb5)
            have HRO := Lib.hid ((row_rd HROW.out).1.on hb5)
            clear hr5 hp5 hT hb5 HSORT
            rw [HN.out]
            go_wp2_with fail
            have HS1 := Lib.hid (law_same L o A A' c c' w5 (HS.out.on HB5.out) HRO.out (by rw [HN.out]; have := HG.out; omega) HP.out)
            rw [HN.out, HOL.out] at HS1
            refine HS1.out.mono ?_
            rintro e w6 ⟨rfl, hb6⟩
            have HB6 := Lib.hid (bstep HB5.out hb6)
            have HR6 := Lib.hid (HR5.out.on hb6)
            clear hb6 HS1
            go_wp2_with fail
            have HS3 := Lib.hid (law_same L T A A5 c c5 w6 (HS.out.on HB6.out) HR6.out (by rw [HN.out]; have := HG.out; omega) HP5.out)
            rw [HT.out, HN.out] at HS3
            refine HS3.out.mono ?_
            rintro e w7 ⟨rfl, hb7⟩
            have HB7 := Lib.hid (bstep HB6.out hb7)
            clear hb7 HS3
            go_wp2_with fail
            refine (awake_true w7).mono ?_
            rintro e w8 ⟨rfl, hb8⟩
            have HB8 := Lib.hid (bstep HB7.out hb8)
            clear hb8
            go_wp2_with fail
            go_ret
            exact ⟨rfl, HB8.out⟩
#print axioms walk_PqueueAny
end Go.Proofs.Ytkgmfdmgaloaoaa.PqueueI
