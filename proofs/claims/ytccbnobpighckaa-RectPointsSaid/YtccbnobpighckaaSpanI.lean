/- Contract of span.combined: the walk. -/
import Derived.Test.YtccbnobpighckaaSpanH
namespace Go.Proofs.Ytccbnobpighckaa.Span
open Go.ChangeShapes Go.WideShapes Go.RowKit Go.Lib Go.Proofs
set_option linter.unusedVariables false
set_option maxRecDepth 100000

theorem cmb_is {f : Bool → Bool → Bool} {p q r : Bool} {g : Nat} (h : Left g f) (hv : f p q = r) (W : World) : Calls Try.prog g #[.bool p, .bool q] W fun e w' => e = .returned (.bool r) ∧ W = w' := by
  have := h p q W; rwa [hv] at this

set_option maxHeartbeats 6400000 in
theorem span_combined (comb : Bool → Bool → Bool) (g : Nat) (hleft : Left g comb) (hc : comb false false = false) (eg : ∀ args w, (callFunc g args).run Try.prog w = .ok (.enter g args) w)
    (a b : List Sp) (A B : Option Addr) (c d : Nat) (w : World) (ha : Sps w A a) (hb : Sps w B b) (hca : chkE a = 0) (hcb : chkE b = 0) :
    Calls Try.prog 93 #[.slice A a.length c, .slice B b.length d, .func (.func g) #[] #[]] w (CmbRes (setF comb a b) w) := by
  have la := chk_len hca
  have lb := chk_len hcb
  have HE := Lib.hid (span_ends a b A B c d ((w.alloc (.cells #[.int .i64 0, .int .i64 0] 52)).alloc (.cells #[.int .i64 0, .int .i64 0] 115)) (ha.on (bstep (below_alloc _ _) (below_alloc _ _))) (hb.on (bstep (below_alloc _ _) (below_alloc _ _))) hca hcb)
  have HT0 := Lib.hid (((Two.new w 0 0 52).on (below_alloc _ (.cells #[.int .i64 0, .int .i64 0] 115))))
  have HT1 := Lib.hid (Two.new (w.alloc (.cells #[.int .i64 0, .int .i64 0] 52)) 0 0 115)
  have HC := Lib.hid hc
  have HLF := Lib.hid hleft
  clear ha hb hca hcb hc hleft
  go_enter Try.func93, Try.ntmps93
  go_wp2_with fail
  refine HE.out.mono ?_
  rintro e w1 ⟨E, gE, cap, rfl, hg, hsw, hens, hbel⟩
  have HSW := Lib.hid hsw
  have hzz : (w.alloc (.cells #[.int .i64 0, .int .i64 0] 52)).heap.size = w.heap.size + 1 := by simp
  simp only [Array.size_push, World.alloc] at hg
  have hE : E.length ≤ 1024 := by have := hsw.len; omega
  have HM := Lib.hid (show Mem w w.heap.size (w.heap.size + 1) gE w1.heap.size E w1 (.slice none 0 0) [] (0, 0) 0 0 from
    have hz := hbel.size
    { own := Own.nil _ _, last_ := HT0.out.on hbel, in_ := by have := HT1.out.on hbel; rwa [hzz] at this, ens := hens, below := ((below_alloc _ _).alloc (by simp) _).trans (hbel.mono (by simp; omega)), size := Nat.le_refl _,
      glw := Nat.le_refl _, giw := Nat.le_succ _, glB := by simp at hz; omega, giB := by simp at hz; omega, gEB := hens.1, lE := by omega, iE := by omega, li := by omega })
  have HINV := Lib.hid (hsw.start HC.out)
  clear hsw hens hbel hzz hg
  go_wp2_with fail
  go_loopw [7, 10, 17] (fun v p i wr => ∃ (k : Nat) (l : List Sp) (last : Sp) (q i0 i1 : Int), k ≤ E.length ∧ i = .int .i64 k ∧ p = .int .i64 q ∧ Inv (setF comb a b) E k l last q i0 i1 ∧ Mem w w.heap.size (w.heap.size + 1) gE w1.heap.size E wr v l last i0 i1) (fun _ _ i _ => E.length - (intOf i).toNat)
  case atStart => exact ⟨0, [], (0, 0), 0, 0, 0, Nat.zero_le _, rfl, rfl, HINV.out, HM.out⟩
  case round =>
    obtain ⟨k, l, last, q, i0, i1, hk, rfl, rfl, hinv, hmem⟩ := hrel
    have HI := Lib.hid hinv
    have HX := Lib.hid hmem
    have hbd := hinv.bounds HSW.out
    have hll := hinv.len
    have hsz := hmem.size
    have hgl := hmem.glB
    have hgi := hmem.giB
    have o1 : w.heap.size < wr.heap.size := by omega
    have o2 : w.heap.size + 1 < wr.heap.size := by omega
    obtain ⟨⟨l0, l1⟩, f0, f1⟩ := hmem.last_
    clear hinv hmem
    rcases Nat.lt_or_ge k E.length with hlt | hge
    · obtain ⟨e, he⟩ := get_lt hlt
      obtain ⟨e0, e1, e2⟩ := HX.out.ens.2 k e he
      obtain ⟨⟨n0, n1⟩, f2, f3⟩ := HX.out.in_
      obtain ⟨⟨b0, b1⟩, hlist, hstep⟩ := HSW.out.at_ he
      have HEE := Lib.hid he
      have hst1 : -1 ≤ e.2.2 ∧ e.2.2 ≤ 1 := by omega
      obtain ⟨s1, s2⟩ := hst1
      have hpb : -1024 ≤ pickI e.2.1 i0 i1 ∧ pickI e.2.1 i0 i1 ≤ 1024 := by unfold pickI; split <;> omega
      obtain ⟨p1, p2⟩ := hpb
      have hw0 : IntKind.i64.wrap (pickI e.2.1 i0 i1 + e.2.2) = pickI e.2.1 i0 i1 + e.2.2 := wrap_id (by omega) (by omega)
      have HLI := Lib.hid hlist
      have j1 : 0 ≤ e.2.1 := by omega
      have j2 : e.2.1 < 2 := by omega
      have i1' : (k : Int) < (E.length : Int) := by omega
      have i2' : (0 : Int) ≤ (k : Int) := by omega
      clear he hlist hstep
      by_cases hp : q < e.1
      · cases hv : comb (decide (0 < i0)) (decide (0 < i1)) with
        | false =>
          have HS := Lib.hid (HI.out.skip HSW.out HEE.out fun _ => hv)
          have hcall := cmb_is HLF.out hv
          clear hv
          go_wp2_with (go_at_fn g; refine (hcall _).mono ?_; rintro e w' ⟨rfl, rfl⟩)
          generalize hwq : wr.alloc (.cells #[.int .i64 e.1, .int .i64 e.2.1, .int .i64 e.2.2] 119) = wq
          have HMQ : Hid (Mem w w.heap.size (w.heap.size + 1) gE w1.heap.size E wq _ _ _ i0 i1) := hwq ▸ HX.out.alloc (.cells #[.int .i64 e.1, .int .i64 e.2.1, .int .i64 e.2.2] 119)
          have HBX : Hid (Box wq wr.heap.size e) := hwq ▸ Box.new wr e
          clear hwq
          obtain ⟨hn, hf⟩ := HMQ.out.pick HLI.out
          obtain ⟨x0, x1, x2⟩ := HBX.out
          go_still_tail 8, (by kernel_rfl)
          change wpList _ _ _ _ _ wq.drew
          go_wp2_with fail
          go_roundw
          case rel => exact ⟨k + 1, _, _, _, _, _, by omega, by go_num, rfl, HS.out, HMQ.out.drew.bump HLI.out e.2.2⟩
          case measure => simp [intOf]; omega
        | true =>
          have hcall := cmb_is HLF.out hv
          by_cases hq : last.2 < q
          · have HS := Lib.hid (HI.out.fresh HSW.out HEE.out hp hv hq)
            have HAP := Lib.hid (span_appended l last _ _ _ (HX.out.alloc (.cells #[.int .i64 e.1, .int .i64 e.2.1, .int .i64 e.2.2] 119)).own (HX.out.alloc (.cells #[.int .i64 e.1, .int .i64 e.2.1, .int .i64 e.2.2] 119)).size (by omega))
            clear hv
            go_wp2_with (first | (go_at_fn g; refine (hcall _).mono ?_; rintro e w' ⟨rfl, rfl⟩) | fail)
            refine HAP.out.mono ?_
            rintro e' w2 ⟨v', rfl, ho2, hg2⟩
            have HM2 := Lib.hid ((HX.out.alloc (.cells #[.int .i64 e.1, .int .i64 e.2.1, .int .i64 e.2.2] 119)).grown ho2 hg2)
            have HB2 := Lib.hid ((Box.new wr e).grown hg2 fun h => Nat.lt_irrefl _ (World.ownsRow.lt HX.out.own _ h.symm).2)
            obtain ⟨⟨l0', l1'⟩, f0', f1'⟩ := HM2.out.last_
            have hsz2 := HM2.out.size
            obtain ⟨y0, y1, y2⟩ := HB2.out
            clear ho2 hg2 hcall
            go_wp2_with fail
            generalize hwq : (w2.setCell ⟨w.heap.size, 0, none⟩ (.int .i64 q)).setCell ⟨w.heap.size, 1, none⟩ (.int .i64 e.1) = wq
            have HMQ : Hid (Mem w w.heap.size (w.heap.size + 1) gE w1.heap.size E wq _ _ _ i0 i1) := hwq ▸ (HM2.out.setFrom q).setTo e.1
            have HBX : Hid (Box wq wr.heap.size e) := hwq ▸ (HB2.out.set (by simp; omega) _).set (by simp; omega) _
            clear hwq
            obtain ⟨hn, hf⟩ := HMQ.out.pick HLI.out
            obtain ⟨x0, x1, x2⟩ := HBX.out
            go_still_tail 8, (by kernel_rfl)
            change wpList _ _ _ _ _ wq.drew
            go_wp2_with fail
            go_roundw
            case rel => exact ⟨k + 1, _, _, _, _, _, by omega, by go_num, rfl, HS.out, HMQ.out.drew.bump HLI.out e.2.2⟩
            case measure => simp [intOf]; omega
          · have HS := Lib.hid (HI.out.grow HSW.out HEE.out hp hv hq)
            have hq' : decide (last.2 < q) = false := decide_eq_false hq
            clear hv
            go_wp2_with (go_at_fn g; refine (hcall _).mono ?_; rintro e w' ⟨rfl, rfl⟩)
            generalize hwq : (wr.setCell ⟨w.heap.size, 1, none⟩ (.int .i64 e.1)).alloc (.cells #[.int .i64 e.1, .int .i64 e.2.1, .int .i64 e.2.2] 119) = wq
            have HMQ : Hid (Mem w w.heap.size (w.heap.size + 1) gE w1.heap.size E wq _ _ _ i0 i1) := hwq ▸ (HX.out.setTo e.1).alloc (.cells #[.int .i64 e.1, .int .i64 e.2.1, .int .i64 e.2.2] 119)
            have HBX : Hid (Box wq wr.heap.size e) := hwq ▸ Box.new_at (wr.setCell ⟨w.heap.size, 1, none⟩ (.int .i64 e.1)) e (by simp [World.setCell])
            clear hwq
            obtain ⟨hn, hf⟩ := HMQ.out.pick HLI.out
            obtain ⟨x0, x1, x2⟩ := HBX.out
            go_still_tail 8, (by kernel_rfl)
            change wpList _ _ _ _ _ wq.drew
            go_wp2_with fail
            go_roundw
            case rel => exact ⟨k + 1, _, _, _, _, _, by omega, by go_num, rfl, HS.out, HMQ.out.drew.bump HLI.out e.2.2⟩
            case measure => simp [intOf]; omega
      · have hp' : decide (q < e.1) = false := decide_eq_false hp
        have HS := Lib.hid (HI.out.skip HSW.out HEE.out fun h => absurd h hp)
        go_wp2_with fail
        generalize hwq : wr.alloc (.cells #[.int .i64 e.1, .int .i64 e.2.1, .int .i64 e.2.2] 119) = wq
        have HMQ : Hid (Mem w w.heap.size (w.heap.size + 1) gE w1.heap.size E wq _ _ _ i0 i1) := hwq ▸ HX.out.alloc (.cells #[.int .i64 e.1, .int .i64 e.2.1, .int .i64 e.2.2] 119)
        have HBX : Hid (Box wq wr.heap.size e) := hwq ▸ Box.new wr e
        clear hwq
        obtain ⟨hn, hf⟩ := HMQ.out.pick HLI.out
        obtain ⟨x0, x1, x2⟩ := HBX.out
        go_still_tail 8, (by kernel_rfl)
        change wpList _ _ _ _ _ wq.drew
        go_wp2_with fail
        go_roundw
        case rel => exact ⟨k + 1, _, _, _, _, _, by omega, by go_num, rfl, HS.out, HMQ.out.drew.bump HLI.out e.2.2⟩
        case measure => simp [intOf]; omega
    · obtain rfl : k = E.length := by omega
      have HD := Lib.hid (HI.out.done HSW.out HC.out)
      have HAP := Lib.hid (span_appended l last _ _ _ HX.out.own HX.out.size (by omega))
      have HGE := Lib.hid HX.out.own.ge
      have hgw := HX.out.glw
      go_wp2_with fail
      refine HAP.out.mono ?_
      rintro e' w2 ⟨v', rfl, ho2, hg2⟩
      have HO2 := Lib.hid ho2.inL
      have HB2 : Hid (Below w.heap.size w w2) := HX.out.below.grown hg2 HX.out.below.size fun j hj => by have := HGE.out j hj; omega
      clear ho2 hg2
      go_wp2_with fail
      go_ret
      exact ⟨_, _, rfl, HO2.out, HD.out.1, by have := HD.out.2; omega, HB2.out⟩
#print axioms span_combined
end Go.Proofs.Ytccbnobpighckaa.Span
