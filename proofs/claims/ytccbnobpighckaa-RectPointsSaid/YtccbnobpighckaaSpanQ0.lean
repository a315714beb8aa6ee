/- Contract of combine of the reference, way 0. -/
import Derived.Test.YtccbnobpighckaaSpanP
namespace Go.Proofs.Ytccbnobpighckaa.Span
open Go.ChangeShapes Go.WideShapes Go.RowKit Go.Lib Go.Proofs
set_option linter.unusedVariables false
set_option maxRecDepth 100000

set_option maxHeartbeats 6400000 in
theorem ref_combine0 (a b : List Sp) (A B : Option Addr) (c d : Nat) (w : World) (ha : Sps w A a) (hb : Sps w B b) (hla : a.length ≤ 256) (hlb : b.length ≤ 256) :
    Calls Try.prog 72 #[.slice A a.length c, .slice B b.length d, .int .i64 0] w (CmbRes (setF (fun p q => p || q) a b) w) := by
  have HE := Lib.hid (ref_ends a b A B c d w ha hb hla hlb)
  have HA := Lib.hid ha
  have HB := Lib.hid hb
  obtain ⟨i0, hi, hz0, hz1, hz2⟩ := info_parts info_span
  have HST := Lib.hid (CInv.start (comb := fun p q => p || q) (a := a) (b := b) rfl)
  clear ha hb
  go_enter Try.func72, Try.ntmps72
  go_wp2_with fail
  refine HE.out.mono ?_
  rintro e w1 ⟨v0, rfl, hin, hb1⟩
  obtain ⟨V, cv, rfl, q1, q2, hits, -⟩ := hin.open_
  have hcl := cuts_length a b
  have HAS := Lib.hid (cuts_asc a b)
  have HT := Lib.hid hits
  have HW1 := Lib.hid hb1
  have HDN := Lib.hid (fun i out => CInv.done (comb := fun p q => p || q) (a := a) (b := b) (i := i) (out := out) rfl)
  clear hin hits hb1
  go_wp2_with fail
  go_loopw [8, 9] (fun v i wr => ∃ (k : Nat) (out : List Sp), k ≤ (cuts a b).length ∧ i = .int .i64 k ∧ CMem (setF (fun p q => p || q) a b) (cuts a b) w1 k out v wr) (fun _ i _ => (cuts a b).length - (intOf i).toNat)
  case atStart => exact ⟨0, [], Nat.zero_le _, rfl, HST.out, Own.nil _ _, Below.refl _ _, Or.inr rfl⟩
  case round =>
    obtain ⟨k, out, hk, rfl, hm⟩ := hrel
    have HM := Lib.hid hm
    obtain ⟨Av, cap, rfl⟩ := hm.own.shape
    have hol := hm.inv.len
    have hbw := bstep HW1.out hm.below
    have HSA := Lib.hid (HA.out.on hbw)
    have HSB := Lib.hid (HB.out.on hbw)
    have hszr := hm.below.size
    clear hm hbw
    rcases Nat.lt_or_ge (k + 1) (cuts a b).length with hlt | hge
    · obtain ⟨x0, hx0⟩ := get_lt (L := cuts a b) (k := k) (by omega)
      obtain ⟨x1, hx1⟩ := get_lt hlt
      obtain ⟨bc, offc, rfl, hbc, c0, c1⟩ := HT.out.at_ hx0 hx1
      have e0 := (HM.out.below.cell (p := ⟨bc, offc + k, none⟩) hbc).trans c0
      have e1 := (HM.out.below.cell (p := ⟨bc, offc + (k + 1), none⟩) hbc).trans c1
      clear c0 c1
      have HC0 := Lib.hid hx0
      have HC1 := Lib.hid hx1
      have KE : Hid (∀ n, (wr.drewN n).cell? ⟨bc, offc + k, none⟩ = some (.int .i64 x0) ∧ (wr.drewN n).cell? ⟨bc, offc + (k + 1), none⟩ = some (.int .i64 x1) ∧ (wr.drewN n).heap.size = wr.heap.size) := fun n => ⟨e0, e1, rfl⟩
      have i1 : (k : Int) < ((cuts a b).length : Int) := by omega
      have i2 : (0 : Int) ≤ (k : Int) := by omega
      have i3 : (k : Int) + 1 < ((cuts a b).length : Int) := by omega
      have i4 : (0 : Int) ≤ (k : Int) + 1 := by omega
      have i5 : ((k : Int) + 1).toNat = k + 1 := by omega
      clear hx0 hx1
      cases hpa : hasB a x0 with
      | false =>
        cases hpb : hasB b x0 with
        | false =>
          have HF : Hid (setF (fun p q => p || q) a b x0 = false) := by show _ = _; unfold setF; rw [hpa, hpb]; rfl
          have HQA := Lib.hid (quiet_has a x0 A c wr HSA.out (by omega) hpa)
          have HQB := Lib.hid (quiet_has b x0 B d wr HSB.out (by omega) hpb)
          clear hpa hpb
          go_wp2_with fail
          go_quiet ((go_at_call 95; first | (with_reducible exact Calls.quiet_of_same (HQA.out _)) | (with_reducible exact Calls.quiet_of_same (HQB.out _))))
          generalize hwq : wr.drewN _ = wq
          have HMQ : Hid (CMem _ (cuts a b) w1 k out (.slice Av out.length cap) wq) := hwq ▸ HM.out.drewN _
          have HKQ : Hid (wq.cell? ⟨bc, offc + k, none⟩ = some (.int .i64 x0) ∧ wq.cell? ⟨bc, offc + (k + 1), none⟩ = some (.int .i64 x1) ∧ wq.heap.size = wr.heap.size) := hwq ▸ KE.out _
          clear hwq
          have HCI := Lib.hid (HM.out.inv.skip HC0.out HC1.out HF.out)
          go_wp2_with fail
          go_roundw
          case rel => exact ⟨k + 1, out, by omega, by go_num, HCI.out, HMQ.out.own, HMQ.out.below, Or.inl (by omega)⟩
          case measure => simp [intOf]; omega
        | true =>
          have HF : Hid (setF (fun p q => p || q) a b x0 = true) := by show _ = _; unfold setF; rw [hpa, hpb]; rfl
          have HQA := Lib.hid (quiet_has a x0 A c wr HSA.out (by omega) hpa)
          have HQB := Lib.hid (quiet_has b x0 B d wr HSB.out (by omega) hpb)
          clear hpa hpb
          go_wp2_with fail
          go_quiet ((go_at_call 95; first | (with_reducible exact Calls.quiet_of_same (HQA.out _)) | (with_reducible exact Calls.quiet_of_same (HQB.out _))))
          generalize hwq : wr.drewN _ = wq
          have HMQ : Hid (CMem _ (cuts a b) w1 k out (.slice Av out.length cap) wq) := hwq ▸ HM.out.drewN _
          have HKQ : Hid (wq.cell? ⟨bc, offc + k, none⟩ = some (.int .i64 x0) ∧ wq.cell? ⟨bc, offc + (k + 1), none⟩ = some (.int .i64 x1) ∧ wq.heap.size = wr.heap.size) := hwq ▸ KE.out _
          clear hwq
          obtain ⟨y0, y1, -⟩ := HKQ.out
          rcases Nat.eq_zero_or_pos out.length with hz | hz
          · have HZ := Lib.hid hz
            have hneg : decide ((0 : Int) ≤ (out.length : Int) - 1) = false := decide_eq_false (by omega)
            have hneg2 : decide ((1 : Int) ≤ (out.length : Int)) = false := decide_eq_false (by omega)
            have hneg3 : decide (1 ≤ out.length) = false := decide_eq_false (by omega)
            have hneg4 : decide (0 < out.length) = false := decide_eq_false (by omega)
            clear hz
            have HCI := Lib.hid (HM.out.inv.fresh HC0.out HC1.out HF.out fun s hs => by rw [List.eq_nil_of_length_eq_zero HZ.out] at hs; simp at hs)
            go_wp2_with fail
            go_quiet (fail)
            generalize hwz : wq.drewN _ = wz
            have HMZ : Hid (CMem _ (cuts a b) w1 k out (.slice Av out.length cap) wz) := hwz ▸ HMQ.out.drewN _
            have HKZ : Hid (wz.cell? ⟨bc, offc + k, none⟩ = some (.int .i64 x0) ∧ wz.cell? ⟨bc, offc + (k + 1), none⟩ = some (.int .i64 x1) ∧ wz.heap.size = wq.heap.size) := hwz ▸ ⟨HKQ.out.1, HKQ.out.2.1, rfl⟩
            clear hwz
            go_wp2_with fail
            obtain ⟨e0, e1, -⟩ := HKZ.out
            have e2 := e1
            rw [← Nat.add_assoc] at e2
            have hszz := HMZ.out.below.size
            have HOZ := Lib.hid (World.ownsRow.alloc (show Own wz.drew w1.heap.size _ out from HMZ.out.own.keep fun _ _ _ => rfl) (.cells #[.int .i64 x0, .int .i64 x1] 52))
            have HNW := Lib.hid (World.news_of_block (B := wz.heap.size) (heap_alloc_new wz.drew (.cells #[.int .i64 x0, .int .i64 x1] 52)))
            have HK1 := Lib.hid (show out.length + 1 ≤ maxLen by unfold maxLen; omega)
            have HK2 := Lib.hid (show (out.length + 1) * 16 ≤ 140737488355328 by omega)
            have HK3 := Lib.hid (show w1.heap.size ≤ (wz.drew.alloc (.cells #[.int .i64 x0, .int .i64 x1] 52)).heap.size by simp; omega)
            have HC1' := Lib.hid (one_cells (x := x0) (y := x1))
            have HGB := Lib.hid (fun (W : World) (hg : (wz.drew.alloc (.cells #[.int .i64 x0, .int .i64 x1] 52)).grownBy W (Value.slice Av out.length cap).ownBlock) => (HMZ.out.below.drew.alloc (by simp; omega) (.cells #[.int .i64 x0, .int .i64 x1] 52)).grown hg (by simp; omega) HMZ.out.own.ge)
            have KA : Hid ((wz.drew.alloc (.cells #[.int .i64 x0, .int .i64 x1] 52)).cell? ⟨bc, offc + k, none⟩ = some (.int .i64 x0) ∧ (wz.drew.alloc (.cells #[.int .i64 x0, .int .i64 x1] 52)).cell? ⟨bc, offc + (k + 1), none⟩ = some (.int .i64 x1)) :=
              ⟨((below_alloc wz.drew _).cell (p := ⟨bc, offc + k, none⟩) (show bc < wz.heap.size by omega)).trans e0, ((below_alloc wz.drew _).cell (p := ⟨bc, offc + (k + 1), none⟩) (show bc < wz.heap.size by omega)).trans e1⟩
            have KG : Hid (∀ W : World, (wz.drew.alloc (.cells #[.int .i64 x0, .int .i64 x1] 52)).grownBy W (Value.slice Av out.length cap).ownBlock → W.cell? ⟨bc, offc + k, none⟩ = some (.int .i64 x0) ∧ W.cell? ⟨bc, offc + (k + 1), none⟩ = some (.int .i64 x1)) := fun W hg => by
              have hb := HMZ.out.own.ge
              have hne : some bc ≠ (Value.slice Av out.length cap).ownBlock := fun e => by have := hb bc e.symm; omega
              exact ⟨(hg.cell_far ⟨bc, offc + k, none⟩ (by simp; omega) hne).trans KA.out.1, (hg.cell_far ⟨bc, offc + (k + 1), none⟩ (by simp; omega) hne).trans KA.out.2⟩
            have hwk : IntKind.i64.wrap ((k : Int) + 1) = (k : Int) + 1 := wrap_id (by omega) (by omega)
            go_region_held3 (fun W' => W'.cell? ⟨bc, offc + k, none⟩ = some (.int .i64 x0) ∧ W'.cell? ⟨bc, offc + (k + 1), none⟩ = some (.int .i64 x1))
              (first | exact ⟨e0, e1⟩ | exact KA.out | exact KG.out _ hgrow)
              ((refine step_append_lies _ (by rfl) (.tmp 93) (.tmp 104) 39 (by rfl) w1.heap.size 52 i0 _ 2 16 Try.underlying39 hi hz0 hz1 hz2 (by rfl) (by decide) (.slice Av out.length cap) out.length (cellsS out) (by rfl) HOZ.out ⟨wz.heap.size, 0, none⟩ 1 1 [.int .i64 x0, .int .i64 x1] (by rfl) (by rfl) HNW.out HC1'.out (by decide) HK1.out HK2.out HK3.out _ rfl ?_; intro g5 cap5 w5 hown hgrow hat hlt5))
            clear hwk
            have HO5 : Hid (Own w5 w1.heap.size (.slice (some ⟨g5, 0, none⟩) (out.length + 1) cap5) (out ++ [(x0, x1)])) := by
              unfold Own
              rw [List.length_append, cellsS_snoc]; exact hown
            have HB5 := Lib.hid (HGB.out w5 hgrow)
            clear hown hgrow hat
            go_wp2_with fail
            go_roundw
            case rel => exact ⟨k + 1, _, by omega, by go_num, HCI.out, HO5.out, HB5.out, Or.inl (by omega)⟩
            case measure => simp [intOf]; omega
          · obtain ⟨n, hn⟩ : ∃ n, out.length = n + 1 := ⟨out.length - 1, by omega⟩
            obtain ⟨s, hs⟩ := get_lt (L := out) (k := n) (by omega)
            obtain ⟨g, cap', eg, hgb, hgl, l1, lf⟩ := HMQ.out.own.form hn hs
            cases eg
            have HS := Lib.hid hs
            have HN := Lib.hid hn
            have hkn : (out.length : Int) - 1 = (n : Int) := by omega
            have n1 : (n : Int) < (out.length : Int) := by omega
            have n2 : (0 : Int) ≤ (n : Int) := by omega
            have n3 : decide ((0 : Int) ≤ (n : Int)) = true := decide_eq_true n2
            clear hs hn
            by_cases he : s.2 = x0
            · have he1 : (s.2 == x0) = true := by simp [he]
              have HEE := Lib.hid he
              have HGL := Lib.hid (getLast_at HN.out HS.out)
              clear he
              go_wp2_with fail
              go_quiet (fail)
              generalize hwz : wq.drewN _ = wz
              have HMZ : Hid (CMem _ (cuts a b) w1 k out (.slice (some ⟨g, 0, none⟩) out.length cap) wz) := hwz ▸ HMQ.out.drewN _
              have HKZ : Hid (wz.cell? ⟨bc, offc + k, none⟩ = some (.int .i64 x0) ∧ wz.cell? ⟨bc, offc + (k + 1), none⟩ = some (.int .i64 x1) ∧ wz.heap.size = wq.heap.size) := hwz ▸ ⟨HKQ.out.1, HKQ.out.2.1, rfl⟩
              clear hwz
              obtain ⟨e0, e1, -⟩ := HKZ.out
              have e2 := e1
              rw [← Nat.add_assoc] at e2
              have fz := (HMZ.out.own.form HN.out HS.out)
              obtain ⟨g', cap'', eg', -, hgz, lz, fz⟩ := fz
              cases eg'
              have HCI : Hid (CInv (setF (fun p q => p || q) a b) (cuts a b) (k + 1) (out.take n ++ [(s.1, x1)])) := by
                have h := HM.out.inv
                rw [HGL.out] at h
                exact h.grow HC0.out HC1.out HF.out HEE.out
              have HOW : Hid (Own (wz.setCell ⟨g, n * 2 + 1, none⟩ (.int .i64 x1)) w1.heap.size (.slice (some ⟨g, 0, none⟩) out.length cap) (out.take n ++ [(s.1, x1)])) := by
                have h := HMZ.out.own
                have hl : (out.take n).length = n := by rw [List.length_take]; have := HN.out; omega
                rw [HGL.out] at h ⊢
                rw [List.take_append_of_le_length (by omega), List.take_take, Nat.min_self]
                have h2 := h.setLast x1
                rw [hl] at h2; exact h2
              have hszz := HMZ.out.below.size
              go_wp2_with fail
              go_roundw
              case rel => exact ⟨k + 1, _, by omega, by go_num, HCI.out, HOW.out, HMZ.out.below.setCell (p := ⟨g, n * 2 + 1, none⟩) hgb _, Or.inl (by omega)⟩
              case measure => simp [intOf]; omega
            · have he1 : (s.2 == x0) = false := beq_false_of_ne he
              have HNE := Lib.hid he
              clear he
              have HCI := Lib.hid (HM.out.inv.fresh HC0.out HC1.out HF.out fun t ht => by rw [last_of HN.out HS.out] at ht; cases ht; exact HNE.out)
              go_wp2_with fail
              go_quiet (fail)
              generalize hwz : wq.drewN _ = wz
              have HMZ : Hid (CMem _ (cuts a b) w1 k out (.slice (some ⟨g, 0, none⟩) out.length cap) wz) := hwz ▸ HMQ.out.drewN _
              have HKZ : Hid (wz.cell? ⟨bc, offc + k, none⟩ = some (.int .i64 x0) ∧ wz.cell? ⟨bc, offc + (k + 1), none⟩ = some (.int .i64 x1) ∧ wz.heap.size = wq.heap.size) := hwz ▸ ⟨HKQ.out.1, HKQ.out.2.1, rfl⟩
              clear hwz
              go_wp2_with fail
              obtain ⟨e0, e1, -⟩ := HKZ.out
              have e2 := e1
              rw [← Nat.add_assoc] at e2
              have hszz := HMZ.out.below.size
              have HOZ := Lib.hid (World.ownsRow.alloc (show Own wz.drew w1.heap.size _ out from HMZ.out.own.keep fun _ _ _ => rfl) (.cells #[.int .i64 x0, .int .i64 x1] 52))
              have HNW := Lib.hid (World.news_of_block (B := wz.heap.size) (heap_alloc_new wz.drew (.cells #[.int .i64 x0, .int .i64 x1] 52)))
              have HK1 := Lib.hid (show out.length + 1 ≤ maxLen by unfold maxLen; omega)
              have HK2 := Lib.hid (show (out.length + 1) * 16 ≤ 140737488355328 by omega)
              have HK3 := Lib.hid (show w1.heap.size ≤ (wz.drew.alloc (.cells #[.int .i64 x0, .int .i64 x1] 52)).heap.size by simp; omega)
              have HC1' := Lib.hid (one_cells (x := x0) (y := x1))
              have HGB := Lib.hid (fun (W : World) (hg : (wz.drew.alloc (.cells #[.int .i64 x0, .int .i64 x1] 52)).grownBy W (Value.slice (some ⟨g, 0, none⟩) out.length cap).ownBlock) => (HMZ.out.below.drew.alloc (by simp; omega) (.cells #[.int .i64 x0, .int .i64 x1] 52)).grown hg (by simp; omega) HMZ.out.own.ge)
              have KA : Hid ((wz.drew.alloc (.cells #[.int .i64 x0, .int .i64 x1] 52)).cell? ⟨bc, offc + k, none⟩ = some (.int .i64 x0) ∧ (wz.drew.alloc (.cells #[.int .i64 x0, .int .i64 x1] 52)).cell? ⟨bc, offc + (k + 1), none⟩ = some (.int .i64 x1)) :=
                ⟨((below_alloc wz.drew _).cell (p := ⟨bc, offc + k, none⟩) (show bc < wz.heap.size by omega)).trans e0, ((below_alloc wz.drew _).cell (p := ⟨bc, offc + (k + 1), none⟩) (show bc < wz.heap.size by omega)).trans e1⟩
              have KG : Hid (∀ W : World, (wz.drew.alloc (.cells #[.int .i64 x0, .int .i64 x1] 52)).grownBy W (Value.slice (some ⟨g, 0, none⟩) out.length cap).ownBlock → W.cell? ⟨bc, offc + k, none⟩ = some (.int .i64 x0) ∧ W.cell? ⟨bc, offc + (k + 1), none⟩ = some (.int .i64 x1)) := fun W hg => by
                have hb := HMZ.out.own.ge
                have hne : some bc ≠ (Value.slice (some ⟨g, 0, none⟩) out.length cap).ownBlock := fun e => by have := hb bc e.symm; omega
                exact ⟨(hg.cell_far ⟨bc, offc + k, none⟩ (by simp; omega) hne).trans KA.out.1, (hg.cell_far ⟨bc, offc + (k + 1), none⟩ (by simp; omega) hne).trans KA.out.2⟩
              have hwk : IntKind.i64.wrap ((k : Int) + 1) = (k : Int) + 1 := wrap_id (by omega) (by omega)
              go_region_held3 (fun W' => W'.cell? ⟨bc, offc + k, none⟩ = some (.int .i64 x0) ∧ W'.cell? ⟨bc, offc + (k + 1), none⟩ = some (.int .i64 x1))
                (first | exact ⟨e0, e1⟩ | exact KA.out | exact KG.out _ hgrow)
                ((refine step_append_lies _ (by rfl) (.tmp 93) (.tmp 104) 39 (by rfl) w1.heap.size 52 i0 _ 2 16 Try.underlying39 hi hz0 hz1 hz2 (by rfl) (by decide) (.slice (some ⟨g, 0, none⟩) out.length cap) out.length (cellsS out) (by rfl) HOZ.out ⟨wz.heap.size, 0, none⟩ 1 1 [.int .i64 x0, .int .i64 x1] (by rfl) (by rfl) HNW.out HC1'.out (by decide) HK1.out HK2.out HK3.out _ rfl ?_; intro g5 cap5 w5 hown hgrow hat hlt5))
              clear hwk
              have HO5 : Hid (Own w5 w1.heap.size (.slice (some ⟨g5, 0, none⟩) (out.length + 1) cap5) (out ++ [(x0, x1)])) := by
                unfold Own
                rw [List.length_append, cellsS_snoc]; exact hown
              have HB5 := Lib.hid (HGB.out w5 hgrow)
              clear hown hgrow hat
              go_wp2_with fail
              go_roundw
              case rel => exact ⟨k + 1, _, by omega, by go_num, HCI.out, HO5.out, HB5.out, Or.inl (by omega)⟩
              case measure => simp [intOf]; omega
      | true =>
        cases hpb : hasB b x0 with
        | false =>
          have HF : Hid (setF (fun p q => p || q) a b x0 = true) := by show _ = _; unfold setF; rw [hpa, hpb]; rfl
          have HQA := Lib.hid (quiet_has a x0 A c wr HSA.out (by omega) hpa)
          have HQB := Lib.hid (quiet_has b x0 B d wr HSB.out (by omega) hpb)
          clear hpa hpb
          go_wp2_with fail
          go_quiet ((go_at_call 95; first | (with_reducible exact Calls.quiet_of_same (HQA.out _)) | (with_reducible exact Calls.quiet_of_same (HQB.out _))))
          generalize hwq : wr.drewN _ = wq
          have HMQ : Hid (CMem _ (cuts a b) w1 k out (.slice Av out.length cap) wq) := hwq ▸ HM.out.drewN _
          have HKQ : Hid (wq.cell? ⟨bc, offc + k, none⟩ = some (.int .i64 x0) ∧ wq.cell? ⟨bc, offc + (k + 1), none⟩ = some (.int .i64 x1) ∧ wq.heap.size = wr.heap.size) := hwq ▸ KE.out _
          clear hwq
          obtain ⟨y0, y1, -⟩ := HKQ.out
          rcases Nat.eq_zero_or_pos out.length with hz | hz
          · have HZ := Lib.hid hz
            have hneg : decide ((0 : Int) ≤ (out.length : Int) - 1) = false := decide_eq_false (by omega)
            have hneg2 : decide ((1 : Int) ≤ (out.length : Int)) = false := decide_eq_false (by omega)
            have hneg3 : decide (1 ≤ out.length) = false := decide_eq_false (by omega)
            have hneg4 : decide (0 < out.length) = false := decide_eq_false (by omega)
            clear hz
            have HCI := Lib.hid (HM.out.inv.fresh HC0.out HC1.out HF.out fun s hs => by rw [List.eq_nil_of_length_eq_zero HZ.out] at hs; simp at hs)
            go_wp2_with fail
            go_quiet (fail)
            generalize hwz : wq.drewN _ = wz
            have HMZ : Hid (CMem _ (cuts a b) w1 k out (.slice Av out.length cap) wz) := hwz ▸ HMQ.out.drewN _
            have HKZ : Hid (wz.cell? ⟨bc, offc + k, none⟩ = some (.int .i64 x0) ∧ wz.cell? ⟨bc, offc + (k + 1), none⟩ = some (.int .i64 x1) ∧ wz.heap.size = wq.heap.size) := hwz ▸ ⟨HKQ.out.1, HKQ.out.2.1, rfl⟩
            clear hwz
            go_wp2_with fail
            obtain ⟨e0, e1, -⟩ := HKZ.out
            have e2 := e1
            rw [← Nat.add_assoc] at e2
            have hszz := HMZ.out.below.size
            have HOZ := Lib.hid (World.ownsRow.alloc (show Own wz.drew w1.heap.size _ out from HMZ.out.own.keep fun _ _ _ => rfl) (.cells #[.int .i64 x0, .int .i64 x1] 52))
            have HNW := Lib.hid (World.news_of_block (B := wz.heap.size) (heap_alloc_new wz.drew (.cells #[.int .i64 x0, .int .i64 x1] 52)))
            have HK1 := Lib.hid (show out.length + 1 ≤ maxLen by unfold maxLen; omega)
            have HK2 := Lib.hid (show (out.length + 1) * 16 ≤ 140737488355328 by omega)
            have HK3 := Lib.hid (show w1.heap.size ≤ (wz.drew.alloc (.cells #[.int .i64 x0, .int .i64 x1] 52)).heap.size by simp; omega)
            have HC1' := Lib.hid (one_cells (x := x0) (y := x1))
            have HGB := Lib.hid (fun (W : World) (hg : (wz.drew.alloc (.cells #[.int .i64 x0, .int .i64 x1] 52)).grownBy W (Value.slice Av out.length cap).ownBlock) => (HMZ.out.below.drew.alloc (by simp; omega) (.cells #[.int .i64 x0, .int .i64 x1] 52)).grown hg (by simp; omega) HMZ.out.own.ge)
            have KA : Hid ((wz.drew.alloc (.cells #[.int .i64 x0, .int .i64 x1] 52)).cell? ⟨bc, offc + k, none⟩ = some (.int .i64 x0) ∧ (wz.drew.alloc (.cells #[.int .i64 x0, .int .i64 x1] 52)).cell? ⟨bc, offc + (k + 1), none⟩ = some (.int .i64 x1)) :=
              ⟨((below_alloc wz.drew _).cell (p := ⟨bc, offc + k, none⟩) (show bc < wz.heap.size by omega)).trans e0, ((below_alloc wz.drew _).cell (p := ⟨bc, offc + (k + 1), none⟩) (show bc < wz.heap.size by omega)).trans e1⟩
            have KG : Hid (∀ W : World, (wz.drew.alloc (.cells #[.int .i64 x0, .int .i64 x1] 52)).grownBy W (Value.slice Av out.length cap).ownBlock → W.cell? ⟨bc, offc + k, none⟩ = some (.int .i64 x0) ∧ W.cell? ⟨bc, offc + (k + 1), none⟩ = some (.int .i64 x1)) := fun W hg => by
              have hb := HMZ.out.own.ge
              have hne : some bc ≠ (Value.slice Av out.length cap).ownBlock := fun e => by have := hb bc e.symm; omega
              exact ⟨(hg.cell_far ⟨bc, offc + k, none⟩ (by simp; omega) hne).trans KA.out.1, (hg.cell_far ⟨bc, offc + (k + 1), none⟩ (by simp; omega) hne).trans KA.out.2⟩
            have hwk : IntKind.i64.wrap ((k : Int) + 1) = (k : Int) + 1 := wrap_id (by omega) (by omega)
            go_region_held3 (fun W' => W'.cell? ⟨bc, offc + k, none⟩ = some (.int .i64 x0) ∧ W'.cell? ⟨bc, offc + (k + 1), none⟩ = some (.int .i64 x1))
              (first | exact ⟨e0, e1⟩ | exact KA.out | exact KG.out _ hgrow)
              ((refine step_append_lies _ (by rfl) (.tmp 93) (.tmp 104) 39 (by rfl) w1.heap.size 52 i0 _ 2 16 Try.underlying39 hi hz0 hz1 hz2 (by rfl) (by decide) (.slice Av out.length cap) out.length (cellsS out) (by rfl) HOZ.out ⟨wz.heap.size, 0, none⟩ 1 1 [.int .i64 x0, .int .i64 x1] (by rfl) (by rfl) HNW.out HC1'.out (by decide) HK1.out HK2.out HK3.out _ rfl ?_; intro g5 cap5 w5 hown hgrow hat hlt5))
            clear hwk
            have HO5 : Hid (Own w5 w1.heap.size (.slice (some ⟨g5, 0, none⟩) (out.length + 1) cap5) (out ++ [(x0, x1)])) := by
              unfold Own
              rw [List.length_append, cellsS_snoc]; exact hown
            have HB5 := Lib.hid (HGB.out w5 hgrow)
            clear hown hgrow hat
            go_wp2_with fail
            go_roundw
            case rel => exact ⟨k + 1, _, by omega, by go_num, HCI.out, HO5.out, HB5.out, Or.inl (by omega)⟩
            case measure => simp [intOf]; omega
          · obtain ⟨n, hn⟩ : ∃ n, out.length = n + 1 := ⟨out.length - 1, by omega⟩
            obtain ⟨s, hs⟩ := get_lt (L := out) (k := n) (by omega)
            obtain ⟨g, cap', eg, hgb, hgl, l1, lf⟩ := HMQ.out.own.form hn hs
            cases eg
            have HS := Lib.hid hs
            have HN := Lib.hid hn
            have hkn : (out.length : Int) - 1 = (n : Int) := by omega
            have n1 : (n : Int) < (out.length : Int) := by omega
            have n2 : (0 : Int) ≤ (n : Int) := by omega
            have n3 : decide ((0 : Int) ≤ (n : Int)) = true := decide_eq_true n2
            clear hs hn
            by_cases he : s.2 = x0
            · have he1 : (s.2 == x0) = true := by simp [he]
              have HEE := Lib.hid he
              have HGL := Lib.hid (getLast_at HN.out HS.out)
              clear he
              go_wp2_with fail
              go_quiet (fail)
              generalize hwz : wq.drewN _ = wz
              have HMZ : Hid (CMem _ (cuts a b) w1 k out (.slice (some ⟨g, 0, none⟩) out.length cap) wz) := hwz ▸ HMQ.out.drewN _
              have HKZ : Hid (wz.cell? ⟨bc, offc + k, none⟩ = some (.int .i64 x0) ∧ wz.cell? ⟨bc, offc + (k + 1), none⟩ = some (.int .i64 x1) ∧ wz.heap.size = wq.heap.size) := hwz ▸ ⟨HKQ.out.1, HKQ.out.2.1, rfl⟩
              clear hwz
              obtain ⟨e0, e1, -⟩ := HKZ.out
              have e2 := e1
              rw [← Nat.add_assoc] at e2
              have fz := (HMZ.out.own.form HN.out HS.out)
              obtain ⟨g', cap'', eg', -, hgz, lz, fz⟩ := fz
              cases eg'
              have HCI : Hid (CInv (setF (fun p q => p || q) a b) (cuts a b) (k + 1) (out.take n ++ [(s.1, x1)])) := by
                have h := HM.out.inv
                rw [HGL.out] at h
                exact h.grow HC0.out HC1.out HF.out HEE.out
              have HOW : Hid (Own (wz.setCell ⟨g, n * 2 + 1, none⟩ (.int .i64 x1)) w1.heap.size (.slice (some ⟨g, 0, none⟩) out.length cap) (out.take n ++ [(s.1, x1)])) := by
                have h := HMZ.out.own
                have hl : (out.take n).length = n := by rw [List.length_take]; have := HN.out; omega
                rw [HGL.out] at h ⊢
                rw [List.take_append_of_le_length (by omega), List.take_take, Nat.min_self]
                have h2 := h.setLast x1
                rw [hl] at h2; exact h2
              have hszz := HMZ.out.below.size
              go_wp2_with fail
              go_roundw
              case rel => exact ⟨k + 1, _, by omega, by go_num, HCI.out, HOW.out, HMZ.out.below.setCell (p := ⟨g, n * 2 + 1, none⟩) hgb _, Or.inl (by omega)⟩
              case measure => simp [intOf]; omega
            · have he1 : (s.2 == x0) = false := beq_false_of_ne he
              have HNE := Lib.hid he
              clear he
              have HCI := Lib.hid (HM.out.inv.fresh HC0.out HC1.out HF.out fun t ht => by rw [last_of HN.out HS.out] at ht; cases ht; exact HNE.out)
              go_wp2_with fail
              go_quiet (fail)
              generalize hwz : wq.drewN _ = wz
              have HMZ : Hid (CMem _ (cuts a b) w1 k out (.slice (some ⟨g, 0, none⟩) out.length cap) wz) := hwz ▸ HMQ.out.drewN _
              have HKZ : Hid (wz.cell? ⟨bc, offc + k, none⟩ = some (.int .i64 x0) ∧ wz.cell? ⟨bc, offc + (k + 1), none⟩ = some (.int .i64 x1) ∧ wz.heap.size = wq.heap.size) := hwz ▸ ⟨HKQ.out.1, HKQ.out.2.1, rfl⟩
              clear hwz
              go_wp2_with fail
              obtain ⟨e0, e1, -⟩ := HKZ.out
              have e2 := e1
              rw [← Nat.add_assoc] at e2
              have hszz := HMZ.out.below.size
              have HOZ := Lib.hid (World.ownsRow.alloc (show Own wz.drew w1.heap.size _ out from HMZ.out.own.keep fun _ _ _ => rfl) (.cells #[.int .i64 x0, .int .i64 x1] 52))
              have HNW := Lib.hid (World.news_of_block (B := wz.heap.size) (heap_alloc_new wz.drew (.cells #[.int .i64 x0, .int .i64 x1] 52)))
              have HK1 := Lib.hid (show out.length + 1 ≤ maxLen by unfold maxLen; omega)
              have HK2 := Lib.hid (show (out.length + 1) * 16 ≤ 140737488355328 by omega)
              have HK3 := Lib.hid (show w1.heap.size ≤ (wz.drew.alloc (.cells #[.int .i64 x0, .int .i64 x1] 52)).heap.size by simp; omega)
              have HC1' := Lib.hid (one_cells (x := x0) (y := x1))
              have HGB := Lib.hid (fun (W : World) (hg : (wz.drew.alloc (.cells #[.int .i64 x0, .int .i64 x1] 52)).grownBy W (Value.slice (some ⟨g, 0, none⟩) out.length cap).ownBlock) => (HMZ.out.below.drew.alloc (by simp; omega) (.cells #[.int .i64 x0, .int .i64 x1] 52)).grown hg (by simp; omega) HMZ.out.own.ge)
              have KA : Hid ((wz.drew.alloc (.cells #[.int .i64 x0, .int .i64 x1] 52)).cell? ⟨bc, offc + k, none⟩ = some (.int .i64 x0) ∧ (wz.drew.alloc (.cells #[.int .i64 x0, .int .i64 x1] 52)).cell? ⟨bc, offc + (k + 1), none⟩ = some (.int .i64 x1)) :=
                ⟨((below_alloc wz.drew _).cell (p := ⟨bc, offc + k, none⟩) (show bc < wz.heap.size by omega)).trans e0, ((below_alloc wz.drew _).cell (p := ⟨bc, offc + (k + 1), none⟩) (show bc < wz.heap.size by omega)).trans e1⟩
              have KG : Hid (∀ W : World, (wz.drew.alloc (.cells #[.int .i64 x0, .int .i64 x1] 52)).grownBy W (Value.slice (some ⟨g, 0, none⟩) out.length cap).ownBlock → W.cell? ⟨bc, offc + k, none⟩ = some (.int .i64 x0) ∧ W.cell? ⟨bc, offc + (k + 1), none⟩ = some (.int .i64 x1)) := fun W hg => by
                have hb := HMZ.out.own.ge
                have hne : some bc ≠ (Value.slice (some ⟨g, 0, none⟩) out.length cap).ownBlock := fun e => by have := hb bc e.symm; omega
                exact ⟨(hg.cell_far ⟨bc, offc + k, none⟩ (by simp; omega) hne).trans KA.out.1, (hg.cell_far ⟨bc, offc + (k + 1), none⟩ (by simp; omega) hne).trans KA.out.2⟩
              have hwk : IntKind.i64.wrap ((k : Int) + 1) = (k : Int) + 1 := wrap_id (by omega) (by omega)
              go_region_held3 (fun W' => W'.cell? ⟨bc, offc + k, none⟩ = some (.int .i64 x0) ∧ W'.cell? ⟨bc, offc + (k + 1), none⟩ = some (.int .i64 x1))
                (first | exact ⟨e0, e1⟩ | exact KA.out | exact KG.out _ hgrow)
                ((refine step_append_lies _ (by rfl) (.tmp 93) (.tmp 104) 39 (by rfl) w1.heap.size 52 i0 _ 2 16 Try.underlying39 hi hz0 hz1 hz2 (by rfl) (by decide) (.slice (some ⟨g, 0, none⟩) out.length cap) out.length (cellsS out) (by rfl) HOZ.out ⟨wz.heap.size, 0, none⟩ 1 1 [.int .i64 x0, .int .i64 x1] (by rfl) (by rfl) HNW.out HC1'.out (by decide) HK1.out HK2.out HK3.out _ rfl ?_; intro g5 cap5 w5 hown hgrow hat hlt5))
              clear hwk
              have HO5 : Hid (Own w5 w1.heap.size (.slice (some ⟨g5, 0, none⟩) (out.length + 1) cap5) (out ++ [(x0, x1)])) := by
                unfold Own
                rw [List.length_append, cellsS_snoc]; exact hown
              have HB5 := Lib.hid (HGB.out w5 hgrow)
              clear hown hgrow hat
              go_wp2_with fail
              go_roundw
              case rel => exact ⟨k + 1, _, by omega, by go_num, HCI.out, HO5.out, HB5.out, Or.inl (by omega)⟩
              case measure => simp [intOf]; omega
        | true =>
          have HF : Hid (setF (fun p q => p || q) a b x0 = true) := by show _ = _; unfold setF; rw [hpa, hpb]; rfl
          have HQA := Lib.hid (quiet_has a x0 A c wr HSA.out (by omega) hpa)
          have HQB := Lib.hid (quiet_has b x0 B d wr HSB.out (by omega) hpb)
          clear hpa hpb
          go_wp2_with fail
          go_quiet ((go_at_call 95; first | (with_reducible exact Calls.quiet_of_same (HQA.out _)) | (with_reducible exact Calls.quiet_of_same (HQB.out _))))
          generalize hwq : wr.drewN _ = wq
          have HMQ : Hid (CMem _ (cuts a b) w1 k out (.slice Av out.length cap) wq) := hwq ▸ HM.out.drewN _
          have HKQ : Hid (wq.cell? ⟨bc, offc + k, none⟩ = some (.int .i64 x0) ∧ wq.cell? ⟨bc, offc + (k + 1), none⟩ = some (.int .i64 x1) ∧ wq.heap.size = wr.heap.size) := hwq ▸ KE.out _
          clear hwq
          obtain ⟨y0, y1, -⟩ := HKQ.out
          rcases Nat.eq_zero_or_pos out.length with hz | hz
          · have HZ := Lib.hid hz
            have hneg : decide ((0 : Int) ≤ (out.length : Int) - 1) = false := decide_eq_false (by omega)
            have hneg2 : decide ((1 : Int) ≤ (out.length : Int)) = false := decide_eq_false (by omega)
            have hneg3 : decide (1 ≤ out.length) = false := decide_eq_false (by omega)
            have hneg4 : decide (0 < out.length) = false := decide_eq_false (by omega)
            clear hz
            have HCI := Lib.hid (HM.out.inv.fresh HC0.out HC1.out HF.out fun s hs => by rw [List.eq_nil_of_length_eq_zero HZ.out] at hs; simp at hs)
            go_wp2_with fail
            go_quiet (fail)
            generalize hwz : wq.drewN _ = wz
            have HMZ : Hid (CMem _ (cuts a b) w1 k out (.slice Av out.length cap) wz) := hwz ▸ HMQ.out.drewN _
            have HKZ : Hid (wz.cell? ⟨bc, offc + k, none⟩ = some (.int .i64 x0) ∧ wz.cell? ⟨bc, offc + (k + 1), none⟩ = some (.int .i64 x1) ∧ wz.heap.size = wq.heap.size) := hwz ▸ ⟨HKQ.out.1, HKQ.out.2.1, rfl⟩
            clear hwz
            go_wp2_with fail
            obtain ⟨e0, e1, -⟩ := HKZ.out
            have e2 := e1
            rw [← Nat.add_assoc] at e2
            have hszz := HMZ.out.below.size
            have HOZ := Lib.hid (World.ownsRow.alloc (show Own wz.drew w1.heap.size _ out from HMZ.out.own.keep fun _ _ _ => rfl) (.cells #[.int .i64 x0, .int .i64 x1] 52))
            have HNW := Lib.hid (World.news_of_block (B := wz.heap.size) (heap_alloc_new wz.drew (.cells #[.int .i64 x0, .int .i64 x1] 52)))
            have HK1 := Lib.hid (show out.length + 1 ≤ maxLen by unfold maxLen; omega)
            have HK2 := Lib.hid (show (out.length + 1) * 16 ≤ 140737488355328 by omega)
            have HK3 := Lib.hid (show w1.heap.size ≤ (wz.drew.alloc (.cells #[.int .i64 x0, .int .i64 x1] 52)).heap.size by simp; omega)
            have HC1' := Lib.hid (one_cells (x := x0) (y := x1))
            have HGB := Lib.hid (fun (W : World) (hg : (wz.drew.alloc (.cells #[.int .i64 x0, .int .i64 x1] 52)).grownBy W (Value.slice Av out.length cap).ownBlock) => (HMZ.out.below.drew.alloc (by simp; omega) (.cells #[.int .i64 x0, .int .i64 x1] 52)).grown hg (by simp; omega) HMZ.out.own.ge)
            have KA : Hid ((wz.drew.alloc (.cells #[.int .i64 x0, .int .i64 x1] 52)).cell? ⟨bc, offc + k, none⟩ = some (.int .i64 x0) ∧ (wz.drew.alloc (.cells #[.int .i64 x0, .int .i64 x1] 52)).cell? ⟨bc, offc + (k + 1), none⟩ = some (.int .i64 x1)) :=
              ⟨((below_alloc wz.drew _).cell (p := ⟨bc, offc + k, none⟩) (show bc < wz.heap.size by omega)).trans e0, ((below_alloc wz.drew _).cell (p := ⟨bc, offc + (k + 1), none⟩) (show bc < wz.heap.size by omega)).trans e1⟩
            have KG : Hid (∀ W : World, (wz.drew.alloc (.cells #[.int .i64 x0, .int .i64 x1] 52)).grownBy W (Value.slice Av out.length cap).ownBlock → W.cell? ⟨bc, offc + k, none⟩ = some (.int .i64 x0) ∧ W.cell? ⟨bc, offc + (k + 1), none⟩ = some (.int .i64 x1)) := fun W hg => by
              have hb := HMZ.out.own.ge
              have hne : some bc ≠ (Value.slice Av out.length cap).ownBlock := fun e => by have := hb bc e.symm; omega
              exact ⟨(hg.cell_far ⟨bc, offc + k, none⟩ (by simp; omega) hne).trans KA.out.1, (hg.cell_far ⟨bc, offc + (k + 1), none⟩ (by simp; omega) hne).trans KA.out.2⟩
            have hwk : IntKind.i64.wrap ((k : Int) + 1) = (k : Int) + 1 := wrap_id (by omega) (by omega)
            go_region_held3 (fun W' => W'.cell? ⟨bc, offc + k, none⟩ = some (.int .i64 x0) ∧ W'.cell? ⟨bc, offc + (k + 1), none⟩ = some (.int .i64 x1))
              (first | exact ⟨e0, e1⟩ | exact KA.out | exact KG.out _ hgrow)
              ((refine step_append_lies _ (by rfl) (.tmp 93) (.tmp 104) 39 (by rfl) w1.heap.size 52 i0 _ 2 16 Try.underlying39 hi hz0 hz1 hz2 (by rfl) (by decide) (.slice Av out.length cap) out.length (cellsS out) (by rfl) HOZ.out ⟨wz.heap.size, 0, none⟩ 1 1 [.int .i64 x0, .int .i64 x1] (by rfl) (by rfl) HNW.out HC1'.out (by decide) HK1.out HK2.out HK3.out _ rfl ?_; intro g5 cap5 w5 hown hgrow hat hlt5))
            clear hwk
            have HO5 : Hid (Own w5 w1.heap.size (.slice (some ⟨g5, 0, none⟩) (out.length + 1) cap5) (out ++ [(x0, x1)])) := by
              unfold Own
              rw [List.length_append, cellsS_snoc]; exact hown
            have HB5 := Lib.hid (HGB.out w5 hgrow)
            clear hown hgrow hat
            go_wp2_with fail
            go_roundw
            case rel => exact ⟨k + 1, _, by omega, by go_num, HCI.out, HO5.out, HB5.out, Or.inl (by omega)⟩
            case measure => simp [intOf]; omega
          · obtain ⟨n, hn⟩ : ∃ n, out.length = n + 1 := ⟨out.length - 1, by omega⟩
            obtain ⟨s, hs⟩ := get_lt (L := out) (k := n) (by omega)
            obtain ⟨g, cap', eg, hgb, hgl, l1, lf⟩ := HMQ.out.own.form hn hs
            cases eg
            have HS := Lib.hid hs
            have HN := Lib.hid hn
            have hkn : (out.length : Int) - 1 = (n : Int) := by omega
            have n1 : (n : Int) < (out.length : Int) := by omega
            have n2 : (0 : Int) ≤ (n : Int) := by omega
            have n3 : decide ((0 : Int) ≤ (n : Int)) = true := decide_eq_true n2
            clear hs hn
            by_cases he : s.2 = x0
            · have he1 : (s.2 == x0) = true := by simp [he]
              have HEE := Lib.hid he
              have HGL := Lib.hid (getLast_at HN.out HS.out)
              clear he
              go_wp2_with fail
              go_quiet (fail)
              generalize hwz : wq.drewN _ = wz
              have HMZ : Hid (CMem _ (cuts a b) w1 k out (.slice (some ⟨g, 0, none⟩) out.length cap) wz) := hwz ▸ HMQ.out.drewN _
              have HKZ : Hid (wz.cell? ⟨bc, offc + k, none⟩ = some (.int .i64 x0) ∧ wz.cell? ⟨bc, offc + (k + 1), none⟩ = some (.int .i64 x1) ∧ wz.heap.size = wq.heap.size) := hwz ▸ ⟨HKQ.out.1, HKQ.out.2.1, rfl⟩
              clear hwz
              obtain ⟨e0, e1, -⟩ := HKZ.out
              have e2 := e1
              rw [← Nat.add_assoc] at e2
              have fz := (HMZ.out.own.form HN.out HS.out)
              obtain ⟨g', cap'', eg', -, hgz, lz, fz⟩ := fz
              cases eg'
              have HCI : Hid (CInv (setF (fun p q => p || q) a b) (cuts a b) (k + 1) (out.take n ++ [(s.1, x1)])) := by
                have h := HM.out.inv
                rw [HGL.out] at h
                exact h.grow HC0.out HC1.out HF.out HEE.out
              have HOW : Hid (Own (wz.setCell ⟨g, n * 2 + 1, none⟩ (.int .i64 x1)) w1.heap.size (.slice (some ⟨g, 0, none⟩) out.length cap) (out.take n ++ [(s.1, x1)])) := by
                have h := HMZ.out.own
                have hl : (out.take n).length = n := by rw [List.length_take]; have := HN.out; omega
                rw [HGL.out] at h ⊢
                rw [List.take_append_of_le_length (by omega), List.take_take, Nat.min_self]
                have h2 := h.setLast x1
                rw [hl] at h2; exact h2
              have hszz := HMZ.out.below.size
              go_wp2_with fail
              go_roundw
              case rel => exact ⟨k + 1, _, by omega, by go_num, HCI.out, HOW.out, HMZ.out.below.setCell (p := ⟨g, n * 2 + 1, none⟩) hgb _, Or.inl (by omega)⟩
              case measure => simp [intOf]; omega
            · have he1 : (s.2 == x0) = false := beq_false_of_ne he
              have HNE := Lib.hid he
              clear he
              have HCI := Lib.hid (HM.out.inv.fresh HC0.out HC1.out HF.out fun t ht => by rw [last_of HN.out HS.out] at ht; cases ht; exact HNE.out)
              go_wp2_with fail
              go_quiet (fail)
              generalize hwz : wq.drewN _ = wz
              have HMZ : Hid (CMem _ (cuts a b) w1 k out (.slice (some ⟨g, 0, none⟩) out.length cap) wz) := hwz ▸ HMQ.out.drewN _
              have HKZ : Hid (wz.cell? ⟨bc, offc + k, none⟩ = some (.int .i64 x0) ∧ wz.cell? ⟨bc, offc + (k + 1), none⟩ = some (.int .i64 x1) ∧ wz.heap.size = wq.heap.size) := hwz ▸ ⟨HKQ.out.1, HKQ.out.2.1, rfl⟩
              clear hwz
              go_wp2_with fail
              obtain ⟨e0, e1, -⟩ := HKZ.out
              have e2 := e1
              rw [← Nat.add_assoc] at e2
              have hszz := HMZ.out.below.size
              have HOZ := Lib.hid (World.ownsRow.alloc (show Own wz.drew w1.heap.size _ out from HMZ.out.own.keep fun _ _ _ => rfl) (.cells #[.int .i64 x0, .int .i64 x1] 52))
              have HNW := Lib.hid (World.news_of_block (B := wz.heap.size) (heap_alloc_new wz.drew (.cells #[.int .i64 x0, .int .i64 x1] 52)))
              have HK1 := Lib.hid (show out.length + 1 ≤ maxLen by unfold maxLen; omega)
              have HK2 := Lib.hid (show (out.length + 1) * 16 ≤ 140737488355328 by omega)
              have HK3 := Lib.hid (show w1.heap.size ≤ (wz.drew.alloc (.cells #[.int .i64 x0, .int .i64 x1] 52)).heap.size by simp; omega)
              have HC1' := Lib.hid (one_cells (x := x0) (y := x1))
              have HGB := Lib.hid (fun (W : World) (hg : (wz.drew.alloc (.cells #[.int .i64 x0, .int .i64 x1] 52)).grownBy W (Value.slice (some ⟨g, 0, none⟩) out.length cap).ownBlock) => (HMZ.out.below.drew.alloc (by simp; omega) (.cells #[.int .i64 x0, .int .i64 x1] 52)).grown hg (by simp; omega) HMZ.out.own.ge)
              have KA : Hid ((wz.drew.alloc (.cells #[.int .i64 x0, .int .i64 x1] 52)).cell? ⟨bc, offc + k, none⟩ = some (.int .i64 x0) ∧ (wz.drew.alloc (.cells #[.int .i64 x0, .int .i64 x1] 52)).cell? ⟨bc, offc + (k + 1), none⟩ = some (.int .i64 x1)) :=
                ⟨((below_alloc wz.drew _).cell (p := ⟨bc, offc + k, none⟩) (show bc < wz.heap.size by omega)).trans e0, ((below_alloc wz.drew _).cell (p := ⟨bc, offc + (k + 1), none⟩) (show bc < wz.heap.size by omega)).trans e1⟩
              have KG : Hid (∀ W : World, (wz.drew.alloc (.cells #[.int .i64 x0, .int .i64 x1] 52)).grownBy W (Value.slice (some ⟨g, 0, none⟩) out.length cap).ownBlock → W.cell? ⟨bc, offc + k, none⟩ = some (.int .i64 x0) ∧ W.cell? ⟨bc, offc + (k + 1), none⟩ = some (.int .i64 x1)) := fun W hg => by
                have hb := HMZ.out.own.ge
                have hne : some bc ≠ (Value.slice (some ⟨g, 0, none⟩) out.length cap).ownBlock := fun e => by have := hb bc e.symm; omega
                exact ⟨(hg.cell_far ⟨bc, offc + k, none⟩ (by simp; omega) hne).trans KA.out.1, (hg.cell_far ⟨bc, offc + (k + 1), none⟩ (by simp; omega) hne).trans KA.out.2⟩
              have hwk : IntKind.i64.wrap ((k : Int) + 1) = (k : Int) + 1 := wrap_id (by omega) (by omega)
              go_region_held3 (fun W' => W'.cell? ⟨bc, offc + k, none⟩ = some (.int .i64 x0) ∧ W'.cell? ⟨bc, offc + (k + 1), none⟩ = some (.int .i64 x1))
                (first | exact ⟨e0, e1⟩ | exact KA.out | exact KG.out _ hgrow)
                ((refine step_append_lies _ (by rfl) (.tmp 93) (.tmp 104) 39 (by rfl) w1.heap.size 52 i0 _ 2 16 Try.underlying39 hi hz0 hz1 hz2 (by rfl) (by decide) (.slice (some ⟨g, 0, none⟩) out.length cap) out.length (cellsS out) (by rfl) HOZ.out ⟨wz.heap.size, 0, none⟩ 1 1 [.int .i64 x0, .int .i64 x1] (by rfl) (by rfl) HNW.out HC1'.out (by decide) HK1.out HK2.out HK3.out _ rfl ?_; intro g5 cap5 w5 hown hgrow hat hlt5))
              clear hwk
              have HO5 : Hid (Own w5 w1.heap.size (.slice (some ⟨g5, 0, none⟩) (out.length + 1) cap5) (out ++ [(x0, x1)])) := by
                unfold Own
                rw [List.length_append, cellsS_snoc]; exact hown
              have HB5 := Lib.hid (HGB.out w5 hgrow)
              clear hown hgrow hat
              go_wp2_with fail
              go_roundw
              case rel => exact ⟨k + 1, _, by omega, by go_num, HCI.out, HO5.out, HB5.out, Or.inl (by omega)⟩
              case measure => simp [intOf]; omega
    · have HEN := Lib.hid (HM.out.end_ hge)
      have HNF := Lib.hid (HDN.out _ _ HM.out.inv hge HEN.out)
      have HIN := Lib.hid HM.out.own.inL
      have hge' : ¬ ((k : Int) + 1 < ((cuts a b).length : Int)) := by omega
      go_wp2_with fail
      go_ret
      exact ⟨out, _, rfl, HIN.out, HNF.out, by omega, bstep HW1.out HM.out.below⟩
#print axioms ref_combine0
end Go.Proofs.Ytccbnobpighckaa.Span
