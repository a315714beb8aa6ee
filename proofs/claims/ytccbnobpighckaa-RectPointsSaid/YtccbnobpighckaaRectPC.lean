/- Contracts of the program: along, across, sides, Along, Across. -/
import Derived.Test.YtccbnobpighckaaRectPB
import Derived.Test.YtccbnobpighckaaRectK
import Derived.Test.YtccbnobpighckaaSpanK
namespace Go.Proofs.Ytccbnobpighckaa.Rect
open Go.ChangeShapes Go.WideShapes Go.RowKit Go.Lib Go.Proofs.Ytccbnobpighckaa.Rw
open Go.Proofs.Ytccbnobpighckaa.Span (hasB hasB_iff inS inS_iff chkE chk_of IsNf Nrm Sps InL orF orF_nil SetRes TotRes cmbE cmbL cmbE_ok cmbL_ok nfE_ok chk_nil tot cnt)
set_option linter.unusedVariables false
set_option maxRecDepth 100000

theorem res_span1 {fn : Func} {p : Tmp} (h : fn.results = #[.cell p 52]) {tmps : Array Value} {w : World} {g : Nat} {x y : Int} (hp : tmps.getD p undef = .pointer (some ⟨g, 0, none⟩))
    (hc : Cel w g [.int .i64 x, .int .i64 y]) : (results fn tmps).run Try.prog w = .ok (.agg #[.int .i64 x, .int .i64 y]) w := by
  have hp' : tmps[p]?.getD undef = .pointer (some ⟨g, 0, none⟩) := by simpa using hp
  obtain ⟨h0, h1⟩ := hc.two
  simp [results, h, hp', go_sem, h0, h1]
set_option maxHeartbeats 800000 in
theorem rect_along (r : Rc) (w : World) :
    Calls Try.prog 47 #[agQ r] w fun e w' => e = .returned (.agg #[.int .i64 (spR true r).1, .int .i64 (spR true r).2]) ∧ Below w.heap.size w w' := by
  show Calls Try.prog 47 #[agQ r] w fun e w' => e = .returned (.agg #[.int .i64 r.2.2.1, .int .i64 r.2.2.2]) ∧ Below w.heap.size w w'
  go_enter Try.func47, Try.ntmps47
  go_upto_region 1 with fail
  obtain ⟨w0, hw0⟩ : ∃ W, (w.alloc (.cells #[.int .i64 r.1, .int .i64 r.2.1, .int .i64 r.2.2.1, .int .i64 r.2.2.2] 23)).alloc (.cells #[.int .i64 0, .int .i64 0] 52) = W := ⟨_, rfl⟩
  have C0 : Hid (Cel w0 w.heap.size (cQ r)) := hw0 ▸ (Cel.new w (cQ r) _).alloc _
  have B0 : Hid (Below w.heap.size w w0) := hw0 ▸ bstep (below_alloc _ _) (below_alloc _ _)
  have R0 : Hid (Cel w0 (w.heap.size + 1) [.int .i64 0, .int .i64 0]) := hw0 ▸ Cel.new_at _ [.int .i64 0, .int .i64 0] _ (by simp)
  rw [hw0]
  clear hw0
  obtain ⟨x0, x1, x2, x3⟩ := cel4 C0.out
  obtain ⟨y0, y1⟩ := R0.out.two
  obtain ⟨v0, v1⟩ := R0.out.warm2
  go_wp2_with fail
  exact bodyPost_ret (res_span1 Try.results47 rfl (R0.out.put2 _ _)) rfl ⟨rfl, below_put2 B0.out (by omega) _ _⟩

set_option maxHeartbeats 800000 in
theorem rect_across (r : Rc) (w : World) :
    Calls Try.prog 43 #[agQ r] w fun e w' => e = .returned (.agg #[.int .i64 (spR false r).1, .int .i64 (spR false r).2]) ∧ Below w.heap.size w w' := by
  show Calls Try.prog 43 #[agQ r] w fun e w' => e = .returned (.agg #[.int .i64 r.1, .int .i64 r.2.1]) ∧ Below w.heap.size w w'
  go_enter Try.func43, Try.ntmps43
  go_upto_region 1 with fail
  obtain ⟨w0, hw0⟩ : ∃ W, (w.alloc (.cells #[.int .i64 r.1, .int .i64 r.2.1, .int .i64 r.2.2.1, .int .i64 r.2.2.2] 23)).alloc (.cells #[.int .i64 0, .int .i64 0] 52) = W := ⟨_, rfl⟩
  have C0 : Hid (Cel w0 w.heap.size (cQ r)) := hw0 ▸ (Cel.new w (cQ r) _).alloc _
  have B0 : Hid (Below w.heap.size w w0) := hw0 ▸ bstep (below_alloc _ _) (below_alloc _ _)
  have R0 : Hid (Cel w0 (w.heap.size + 1) [.int .i64 0, .int .i64 0]) := hw0 ▸ Cel.new_at _ [.int .i64 0, .int .i64 0] _ (by simp)
  rw [hw0]
  clear hw0
  obtain ⟨x0, x1, x2, x3⟩ := cel4 C0.out
  obtain ⟨y0, y1⟩ := R0.out.two
  obtain ⟨v0, v1⟩ := R0.out.warm2
  go_wp2_with fail
  exact bodyPost_ret (res_span1 Try.results43 rfl (R0.out.put2 _ _)) rfl ⟨rfl, below_put2 B0.out (by omega) _ _⟩

/-- A list of spans. -/
def RowS (T : List (Int × Int)) (w : World) (e : Ending) (w' : World) : Prop :=
  ∃ A c, e = .returned (.slice A T.length c) ∧ T.length ≤ c ∧ Sps w' A T ∧ Below w.heap.size w w'
/-- A function that gives a side of a rectangle. -/
structure Sid (al : Bool) (g : Nat) : Prop where
  eg : ∀ args w, (callFunc g args).run Try.prog w = .ok (.enter g args) w
  run : ∀ r W, Calls Try.prog g #[agQ r] W fun e w' => e = .returned (.agg #[.int .i64 (spR al r).1, .int .i64 (spR al r).2]) ∧ Below W.heap.size W w'
theorem sid_along : Sid true 47 := ⟨enters_of Try.func47 (by kernel_rfl) rfl, rect_along⟩
theorem sid_across : Sid false 43 := ⟨enters_of Try.func43 (by kernel_rfl) rfl, rect_across⟩
set_option maxHeartbeats 3200000 in
theorem rect_sides (al : Bool) (g : Nat) (hg : Sid al g) (L : List Rc) (A : Option Addr) (n c : Nat) (hn : n = L.length) (w : World) (ha : Rcs w A L) (hm : n ≤ 100000) :
    Calls Try.prog 41 #[.slice A n c, .func (.func g) #[] #[]] w (RowS (spL al L) w) := by
  have HA := Lib.hid ha
  have HN := Lib.hid hn
  have eg := hg.eg
  have HG := Lib.hid hg.run
  clear ha hg hn
  go_enter Try.func41, Try.ntmps41
  go_wp2_with fail
  go_loopw [5, 10] (fun v i wr => ∃ (k : Nat) (A' : Option Addr) (n' c' : Nat), k ≤ n ∧ i = .int .i64 k ∧ v = .slice A' n' c' ∧ n' = (spL al (L.take k)).length ∧ Row cSq 2 TSq w.heap.size wr (.slice A' n' c') (spL al (L.take k)) ∧ Below w.heap.size w wr) (fun _ i _ => n - (RowKit.intOf i).toNat)
  case atStart => exact ⟨0, none, 0, 0, Nat.zero_le _, rfl, rfl, rfl, Row.nil _ _ _ _ _, Below.refl _ _⟩
  case round =>
    obtain ⟨k, A', n', c', hk, rfl, rfl, hn', hrow, hbel⟩ := hrel
    have HR := Lib.hid hrow
    have HB := Lib.hid hbel
    have HN' := Lib.hid hn'
    rcases Nat.lt_or_ge k n with hlt | hge
    · obtain ⟨r, hr⟩ := get_lt (L := L) (k := k) (by have := HN.out; omega)
      obtain ⟨b, off, rfl, hb, e0, e1, e2, e3⟩ := rd_at (HA.out.on HB.out) hr
      have HTk := Lib.hid (spL_take (al := al) hr)
      have HSl2 : Hid ((spL al (L.take k)).length + 1 ≤ 1000000) := Lib.hid (by have := spL_take_len al L k; omega)
      have i1 : (k : Int) < (n : Int) := by omega
      have i2 : (0 : Int) ≤ (k : Int) := by omega
      have HP := Lib.hid fun W => rect_isEmpty r W
      have HX := Lib.hid fun W => HG.out r W
      obtain ⟨q, hq⟩ : ∃ q, (!ptB r) = q := ⟨_, rfl⟩
      have hpq : ptB r = !q := by rw [← hq, Bool.not_not]
      obtain ⟨s, hs⟩ : ∃ s, spR al r = s := ⟨_, rfl⟩
      rw [hq] at HP
      rw [hpq, hs] at HTk
      rw [hs] at HX
      clear hr hrow hbel hn' hq hpq hs
      obtain ⟨wq, rfl⟩ : ∃ W, W = wr := ⟨wr, rfl⟩
      go_upto_region 5 with fail
      obtain ⟨w3, hw3⟩ : ∃ W, wq.alloc (.cells #[.int .i64 r.1, .int .i64 r.2.1, .int .i64 r.2.2.1, .int .i64 r.2.2.2] 23) = W := ⟨_, rfl⟩
      have E3 : Hid (Cel w3 wq.heap.size (cQ r)) := hw3 ▸ Cel.new wq (cQ r) _
      have hb3 : Below wq.heap.size wq w3 := hw3 ▸ below_alloc _ _
      rw [hw3]
      clear hw3 e0 e1 e2 e3
      obtain ⟨h, hh⟩ : ∃ h, wq.heap.size = h := ⟨_, rfl⟩
      rw [hh] at E3 ⊢
      obtain ⟨x0, x1, x2, x3⟩ := cel4 E3.out
      go_wp2_with fail
      refine (HP.out w3).mono ?_
      rintro e w4 ⟨rfl, hb4⟩
      have hb5 := bstep hb3 hb4
      have E4 := Lib.hid (E3.out.on hb4)
      clear hb3 hb4 x0 x1 x2 x3 E3 hh
      have B4 := Lib.hid (HB.out.trans (hb5.mono HB.out.size))
      have R4 := Lib.hid (HR.out.on hb5)
      clear hb5
      cases q with
      | true =>
        have HTn : Hid (spL al (L.take (k + 1)) = spL al (L.take k)) := Lib.hid (by have := HTk.out; simpa using this)
        go_wp2_with fail
        go_roundw
        case rel => exact ⟨k + 1, A', n', c', by omega, by go_num, rfl, by rw [HTn.out]; exact HN'.out, by rw [HTn.out]; exact R4.out, B4.out⟩
        case measure => simp [RowKit.intOf]; omega
      | false =>
        have HTn : Hid (spL al (L.take (k + 1)) = spL al (L.take k) ++ [s]) := Lib.hid (by have := HTk.out; simpa using this)
        obtain ⟨x0, x1, x2, x3⟩ := cel4 E4.out
        go_wp2_with (go_at_fn g; refine (HX.out w4).mono ?_; rintro e w5 ⟨rfl, hb5⟩; have B5 := Lib.hid (B4.out.trans (hb5.mono B4.out.size)); have R5 := Lib.hid (R4.out.on hb5); clear hb5; refine Hid.out ?_)
        have HGA : Hid (w.heap.size ≤ (w5.alloc (.cells #[.int .i64 s.1, .int .i64 s.2] 52)).heap.size) := Nat.le_trans B5.out.size (below_alloc _ _).size
        refine Lib.hid ?_
        go_wp2_with (at_builtin; refine append_rows kdSq rfl (.tmp 17) (.tmp 21) rfl (.slice A' n' c') (spL al (L.take k)) rfl (R5.out.on (below_alloc _ _)) (some ⟨w5.heap.size, 0, none⟩) 1 1 [s] rfl rfl (rd_one cSq_len (heap_alloc_new _ _)) HSl2.out HGA.out ?_; intro A5 n5 c5 w6 hn5 hr5 hg5 hat5; have HN5 := Lib.hid hn5; have HR5 := Lib.hid hr5; have HG5 := Lib.hid hg5; clear hn5 hr5 hg5 hat5; refine Hid.out ?_)
        have HRa := Lib.hid (R5.out.on (below_alloc w5 (.cells #[.int .i64 s.1, .int .i64 s.2] 52)))
        have HB5 : Hid (Below w.heap.size w w6) := (B5.out.trans ((below_alloc w5 _).mono B5.out.size)).trans (HRa.out.below HG5.out HGA.out)
        have HR6 : Hid (Row cSq 2 TSq w.heap.size w6 (.slice A5 n5 c5) (spL al (L.take (k + 1)))) := Lib.hid (by rw [HTn.out]; exact HR5.out)
        have HN6 : Hid (n5 = (spL al (L.take (k + 1))).length) := Lib.hid (by rw [HTn.out, HN5.out, List.length_append]; rfl)
        refine Lib.hid ?_
        go_wp2_with fail
        go_roundw
        case rel => exact ⟨k + 1, A5, n5, c5, by omega, by go_num, rfl, HN6.out, HR6.out, HB5.out⟩
        case measure => simp [RowKit.intOf]; omega
    · obtain rfl : k = n := by omega
      have hL : L.take k = L := by rw [HN.out, List.take_length]
      rw [hL] at hrow
      obtain ⟨A6, c6, e6, hle6, -, hrd6, -, -⟩ := hrow.one cSq_len
      obtain ⟨rfl, hn6, rfl⟩ := Value.slice.inj e6
      have HE6 := Lib.hid hle6
      have HRd6 := Lib.hid (sps_rd hrd6)
      have HN6 := Lib.hid hn6
      clear hle6 hrd6 hn6 e6 hrow hn' hL
      go_wp2_with fail
      go_ret
      exact ⟨A', c', (by rw [← HN6.out]; rfl), HE6.out, HRd6.out, HB.out⟩

set_option maxHeartbeats 1600000 in
theorem rect_Along (L : List Rc) (A : Option Addr) (c : Nat) (w : World) (ha : Rcs w A L) (hm : L.length ≤ 9223372036854775807) :
    Calls Try.prog 27 #[.slice A L.length c] w (SetQ (lsE L) (setB true L) w) := by
  have HA := Lib.hid ha
  have HL := Lib.hid (rect_checkList L A c w ha hm)
  have HS := Lib.hid fun (W : World) (h : Rcs W A L) (hl : L.length ≤ 100000) => rect_sides true 47 sid_along L A L.length c rfl W h hl
  obtain ⟨E, hE⟩ : ∃ E, lsE L = E := ⟨_, rfl⟩
  rw [hE] at HL
  rw [hE]
  have HE := Lib.hid hE
  clear ha hE
  go_enter Try.func27, Try.ntmps27
  go_wp2_with fail
  refine HL.out.mono ?_
  rintro e w1 ⟨rfl, hb⟩
  have B1 := Lib.hid hb
  clear hb
  by_cases hz : E = 0
  rotate_left
  · obtain ⟨z1, z2⟩ := ne_tests hz
    have HZ := Lib.hid hz
    clear hz
    go_wp2_with fail
    go_ret2
    exact SetQ.err HZ.out B1.out
  subst hz
  have hl64 := (lsE_of HE.out).1
  go_wp2_with fail
  refine (HS.out w1 (HA.out.on B1.out) (by omega)).mono ?_
  rintro e w2 ⟨A2, c2, rfl, -, hs2, hb2⟩
  have B2 := Lib.hid (bstep B1.out hb2)
  have HNm := Lib.hid (Span.span_Norm (spL true L) A2 c2 w2 hs2 (by have := spL_len true L; omega))
  obtain ⟨n2, hn2⟩ : ∃ n2, n2 = (spL true L).length := ⟨_, rfl⟩
  rw [← hn2] at HNm ⊢
  clear hs2 hb2 hn2
  go_wp2_with fail
  refine HNm.out.mono ?_
  intro e w3 h
  obtain ⟨M, V, cap, rfl, h1, h2, h3, h4, hb3⟩ := normQ (chk_spL HE.out true) (fun x => has_spL true x L) h
  have M1 := Lib.hid h1
  have M2 := Lib.hid h2
  have M3 := Lib.hid (h3 rfl)
  have B3 := Lib.hid (bstep B2.out hb3)
  clear h h1 h2 h3 h4 hb3
  go_wp2_with fail
  go_ret2
  exact ⟨M, V, cap, rfl, M1.out, M2.out, fun _ => M3.out, fun h => absurd rfl h, B3.out⟩

set_option maxHeartbeats 1600000 in
theorem rect_Across (L : List Rc) (A : Option Addr) (c : Nat) (w : World) (ha : Rcs w A L) (hm : L.length ≤ 9223372036854775807) :
    Calls Try.prog 29 #[.slice A L.length c] w (SetQ (lsE L) (setB false L) w) := by
  have HA := Lib.hid ha
  have HL := Lib.hid (rect_checkList L A c w ha hm)
  have HS := Lib.hid fun (W : World) (h : Rcs W A L) (hl : L.length ≤ 100000) => rect_sides false 43 sid_across L A L.length c rfl W h hl
  obtain ⟨E, hE⟩ : ∃ E, lsE L = E := ⟨_, rfl⟩
  rw [hE] at HL
  rw [hE]
  have HE := Lib.hid hE
  clear ha hE
  go_enter Try.func29, Try.ntmps29
  go_wp2_with fail
  refine HL.out.mono ?_
  rintro e w1 ⟨rfl, hb⟩
  have B1 := Lib.hid hb
  clear hb
  by_cases hz : E = 0
  rotate_left
  · obtain ⟨z1, z2⟩ := ne_tests hz
    have HZ := Lib.hid hz
    clear hz
    go_wp2_with fail
    go_ret2
    exact SetQ.err HZ.out B1.out
  subst hz
  have hl64 := (lsE_of HE.out).1
  go_wp2_with fail
  refine (HS.out w1 (HA.out.on B1.out) (by omega)).mono ?_
  rintro e w2 ⟨A2, c2, rfl, -, hs2, hb2⟩
  have B2 := Lib.hid (bstep B1.out hb2)
  have HNm := Lib.hid (Span.span_Norm (spL false L) A2 c2 w2 hs2 (by have := spL_len false L; omega))
  obtain ⟨n2, hn2⟩ : ∃ n2, n2 = (spL false L).length := ⟨_, rfl⟩
  rw [← hn2] at HNm ⊢
  clear hs2 hb2 hn2
  go_wp2_with fail
  refine HNm.out.mono ?_
  intro e w3 h
  obtain ⟨M, V, cap, rfl, h1, h2, h3, h4, hb3⟩ := normQ (chk_spL HE.out false) (fun x => has_spL false x L) h
  have M1 := Lib.hid h1
  have M2 := Lib.hid h2
  have M3 := Lib.hid (h3 rfl)
  have B3 := Lib.hid (bstep B2.out hb3)
  clear h h1 h2 h3 h4 hb3
  go_wp2_with fail
  go_ret2
  exact ⟨M, V, cap, rfl, M1.out, M2.out, fun _ => M3.out, fun h => absurd rfl h, B3.out⟩

#print axioms rect_sides
#print axioms rect_Along
#print axioms rect_Across
end Go.Proofs.Ytccbnobpighckaa.Rect
