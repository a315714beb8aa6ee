/- Along, Across, Spans of the reference. -/
import Derived.Test.YtccbnobpighckaaRectI
import Derived.Test.YtccbnobpighckaaSpanR
namespace Go.Proofs.Ytccbnobpighckaa.Rect
open Go.ChangeShapes Go.WideShapes Go.RowKit Go.Lib Go.Proofs.Ytccbnobpighckaa.Rw
open Go.Proofs.Ytccbnobpighckaa.Span (hasB hasB_iff inS inS_iff chkE chk_of IsNf Nrm Sps InL orF orF_nil SetRes cmbE cmbL cmbE_ok cmbL_ok nfE_ok chk_nil)
set_option linter.unusedVariables false
set_option maxRecDepth 100000

/-- A set in normal form and an error. -/
def SetQ (E : Int) (f : Int → Bool) (w : World) (e : Ending) (w' : World) : Prop :=
  ∃ (M : List (Int × Int)) (V : Option Addr) (cap : Nat), e = .returned (.tuple #[.slice V M.length cap, .int .i64 E]) ∧ M.length ≤ 256 ∧ Sps w' V M ∧ (E = 0 → IsNf f M) ∧ (¬ E = 0 → M = []) ∧ Below w.heap.size w w'
theorem SetQ.err {E : Int} {f : Int → Bool} {w w' : World} (h : ¬ E = 0) (hb : Below w.heap.size w w') : SetQ E f w (.returned (.tuple #[.slice none 0 0, .int .i64 E])) w' :=
  ⟨[], none, 0, rfl, by simp, Sps.nil _ _, fun e => absurd e h, fun _ => rfl, hb⟩
theorem normQ {a : List (Int × Int)} {f : Int → Bool} {w w' : World} {e : Ending} (hc : chkE a = 0) (hf : ∀ x, hasB a x = f x) (h : SetRes (orF a []) a [] w e w') : SetQ 0 f w e w' := by
  obtain ⟨N, V, cap, rfl, hm, hin, hnf, hb⟩ := h.open_
  have hn := hnf hc chk_nil
  have hlen : N.length ≤ a.length := (hn.congr fun x => orF_nil a x).length
  have hal := Span.chk_len hc
  have e0 : cmbE a [] N = 0 := by rw [cmbE_ok hc chk_nil, nfE_ok (by omega)]
  rw [cmbL_ok e0] at hin hm ⊢
  rw [e0]
  obtain ⟨A', c', e', h1, h2, h3⟩ := hin
  cases e'
  exact ⟨N, V, cap, rfl, by omega, h3, fun _ => hn.congr fun x => (orF_nil a x).trans (hf x), fun h => absurd rfl h, hb⟩

/-! ### Spans in memory -/
abbrev TSq : TypeId := 52
def cSq (s : Int × Int) : List Value := [.int .i64 s.1, .int .i64 s.2]
theorem cSq_len (s : Int × Int) : (cSq s).length = 2 := rfl
theorem info_sq : (Try.prog.info? TSq).map (fun i => (i.zero, i.size, i.bytes)) = some (some (.agg #[.int .i64 0, .int .i64 0]), 2, 16) := by kernel_rfl
theorem kdSq : Kd cSq 2 39 TSq := by
  obtain ⟨i, h1, h2, h3, h4⟩ := info_parts info_sq
  exact ⟨Try.underlying39, ⟨i, _, _, h1, h2, h3, rfl, rfl, by rw [h4]; decide⟩, cSq_len, by decide, fun z u hu => by
    simp [cSq] at hu
    rcases hu with h | h <;> subst h <;> rfl⟩
theorem sps_rd {w : World} {A : Option Addr} {L : List (Int × Int)} (h : Rd cSq 2 w A L) : Sps w A L := by
  intro k s hs
  obtain ⟨b, off, e, hlt, hc⟩ := h k s hs
  exact ⟨b, off, e, hlt, hc 0 _ rfl, hc 1 _ rfl⟩
theorem eq_span (op : BinOp) (hop : op = .eql ∨ op = .neq) (x y : Int × Int) (w : World) : (binOp op 52 (.agg #[.int .i64 x.1, .int .i64 x.2]) (.agg #[.int .i64 y.1, .int .i64 y.2])).run Try.prog w = .ok (.bool (if op = .eql then decide (x = y) else !(decide (x = y)))) w := by
  have u3 := Try.underlying3
  have a3 := Try.isAgg3
  have z3 := Try.sizeOf3
  have hS : Try.prog.underlying 52 = some (.struct (Try.prog.fieldsOf 52)) := by kernel_rfl
  have hp : Try.prog.stoodInHeld 52 = false := by kernel_rfl
  obtain ⟨a, b⟩ := x
  obtain ⟨a', b'⟩ := y
  rcases hop with rfl | rfl
  · rw [run_eql_struct, show (10000 : Nat) = 9999 + 1 from rfl, run_equalIn_agg w 9999 52 _ _ hS hp]
    simp only [Program.fieldsOf, Try.underlying52]
    go_simp
    by_cases h1 : a = a' <;> by_cases h2 : b = b' <;> simp [h1, h2]
  · rw [run_neq_struct, show (10000 : Nat) = 9999 + 1 from rfl, run_equalIn_agg w 9999 52 _ _ hS hp]
    simp only [Program.fieldsOf, Try.underlying52]
    go_simp
    by_cases h1 : a = a' <;> by_cases h2 : b = b' <;> simp [h1, h2]
theorem sps_at {w : World} {A : Option Addr} {L : List (Int × Int)} (h : Sps w A L) {k : Nat} {s : Int × Int} (hs : L[k]? = some s) : ∃ b off, A = some ⟨b, off, none⟩ ∧ b < w.heap.size ∧ w.cell? ⟨b, off + k * 2, none⟩ = some (.int .i64 s.1) ∧ w.cell? ⟨b, off + k * 2 + 1, none⟩ = some (.int .i64 s.2) := h k s hs

set_option maxHeartbeats 800000 in
theorem rr_Spans (L M : List (Int × Int)) (A B : Option Addr) (c d n n' : Nat) (hn : n = L.length) (hn' : n' = M.length) (w : World) (ha : Sps w A L) (hb : Sps w B M) (hm : n ≤ 9223372036854775807) (hm2 : n' ≤ 9223372036854775807) :
    Calls Try.prog 31 #[.slice A n c, .slice B n' d] w fun e w' => e = .returned (.bool (decide (L = M))) ∧ Below w.heap.size w w' := by
  have HA := Lib.hid ha
  have HB := Lib.hid hb
  have HN := Lib.hid hn
  have HN' := Lib.hid hn'
  clear ha hb
  by_cases hl : n = n'
  · subst hl
    have HL : Hid (L.length = M.length) := hn.symm.trans hn'
    have hl' : ((n : Int) == (n : Int)) = true := by simp
    have hl2 : ((n : Int) != (n : Int)) = false := by simp
    clear hn hn'
    go_enter Try.func31, Try.ntmps31
    go_wp2_with fail
    go_loopw [5] (fun i wr => ∃ k : Nat, k ≤ n ∧ i = .int .i64 k ∧ (∀ (j : Nat) (s t : Int × Int), j < k → L[j]? = some s → M[j]? = some t → s = t) ∧ Below w.heap.size w wr) (fun i _ => n - (RowKit.intOf i).toNat)
    case atStart => exact ⟨0, Nat.zero_le _, rfl, fun j s t h => absurd h (by omega), Below.refl _ _⟩
    case round =>
      obtain ⟨k, hk, rfl, hv, hbel⟩ := hrel
      have HV := Lib.hid hv
      have HW := Lib.hid hbel
      clear hv hbel
      rcases Nat.lt_or_ge k n with hlt | hge
      · obtain ⟨s, hs⟩ := get_lt (L := L) (k := k) (by have := HN.out; omega)
        obtain ⟨t, ht⟩ := get_lt (L := M) (k := k) (by have := HN'.out; omega)
        obtain ⟨b1, off1, hA0, hb1, h0, h1⟩ := sps_at (HA.out.on HW.out) hs
        obtain ⟨b2, off2, hB0, hb2, h3, h4⟩ := sps_at (HB.out.on HW.out) ht
        subst hA0
        subst hB0
        have HS := Lib.hid hs
        have HT := Lib.hid ht
        have i1 : (k : Int) < (n : Int) := by omega
        have i2 : (0 : Int) ≤ (k : Int) := by omega
        clear hs ht
        have hq := fun W => eq_span .neq (Or.inr rfl) s t W
        by_cases e : s = t
        · have hq2 : ∀ W, (binOp .neq 52 (.agg #[.int .i64 s.1, .int .i64 s.2]) (.agg #[.int .i64 t.1, .int .i64 t.2])).run Try.prog W = .ok (.bool false) W := fun W => by rw [hq W, decide_eq_true e]; rfl
          have E := Lib.hid e
          clear hq e
          go_wp2_with fail
          go_quiet (fail)
          go_wp2_with fail
          go_roundw
          case rel =>
            refine ⟨k + 1, by omega, by go_num, ?_, below_drewN HW.out _⟩
            intro j u v hj hu hv
            rcases Nat.lt_or_eq_of_le (Nat.le_of_lt_succ hj) with h | h
            · exact HV.out j u v h hu hv
            · subst h
              have e1 := HS.out
              have e2 := HT.out
              rw [hu] at e1; rw [hv] at e2; cases e1; cases e2; exact E.out
          case measure => simp [RowKit.intOf]; omega
        · have hq2 : ∀ W, (binOp .neq 52 (.agg #[.int .i64 s.1, .int .i64 s.2]) (.agg #[.int .i64 t.1, .int .i64 t.2])).run Try.prog W = .ok (.bool true) W := fun W => by rw [hq W, decide_eq_false e]; rfl
          have E : Hid (decide (L = M) = false) := decide_eq_false fun h => by
            subst h
            have e1 := HS.out
            rw [HT.out] at e1; exact e (Option.some.inj e1).symm
          clear hq e
          go_wp2_with fail
          go_quiet (fail)
          go_wp2_with fail
          go_ret
          exact ⟨ret_bool E.out.symm, below_drewN HW.out _⟩
      · obtain rfl : k = n := by omega
        have E : Hid (decide (L = M) = true) := decide_eq_true (by
          apply List.ext_getElem HL.out
          intro j h1 h2
          exact HV.out j _ _ (by have := HN.out; omega) (List.getElem?_eq_getElem h1) (List.getElem?_eq_getElem h2))
        go_wp2_with fail
        go_ret
        exact ⟨ret_bool E.out.symm, HW.out⟩
  · have hl' : ((n : Int) == (n' : Int)) = false := beq_false_of_ne (by omega)
    have hl2 : ((n : Int) != (n' : Int)) = true := by simp; omega
    have E : Hid (decide (L = M) = false) := decide_eq_false fun h => hl (by rw [hn, hn', h])
    clear hl hn hn'
    go_enter Try.func31, Try.ntmps31
    go_wp2_with fail
    go_ret
    exact ⟨ret_bool E.out.symm, Below.refl _ _⟩
theorem spL_take {al : Bool} {L : List Rc} {k : Nat} {r : Rc} (h : L[k]? = some r) : spL al (L.take (k + 1)) = spL al (L.take k) ++ (if ptB r then [spR al r] else []) := by
  rw [take_snoc_of h, spL_snoc]
theorem spL_take_len (al : Bool) (L : List Rc) (k : Nat) : (spL al (L.take k)).length ≤ k := by
  have := spL_len al (L.take k)
  rw [List.length_take] at this
  omega

set_option maxHeartbeats 3200000 in
theorem rr_Along (L : List Rc) (A : Option Addr) (c : Nat) (w : World) (ha : Rcs w A L) (hm : L.length ≤ 9223372036854775807) :
    Calls Try.prog 28 #[.slice A L.length c] w (SetQ (lsE L) (setB true L) w) := by
  have HA := Lib.hid ha
  have HL := Lib.hid (rr_list L A c w ha hm)
  obtain ⟨E, hE⟩ : ∃ E, lsE L = E := ⟨_, rfl⟩
  rw [hE] at HL
  rw [hE]
  have HE := Lib.hid hE
  clear ha hE
  go_enter Try.func28, Try.ntmps28
  go_wp2_with fail
  refine HL.out.mono ?_
  rintro e w1 ⟨rfl, hb⟩
  have B1 := Lib.hid hb
  clear hb
  by_cases hz : E = 0
  rotate_left
  · obtain ⟨z1, z2⟩ := ne_tests hz
    have HZ := Lib.hid hz
    clear hz
    go_wp2_with fail
    go_ret2
    exact SetQ.err HZ.out B1.out
  subst hz
  have hl64 := (lsE_of HE.out).1
  go_wp2_with fail
  go_loopw [5, 6] (fun v i wr => ∃ (k : Nat) (A' : Option Addr) (n' c' : Nat), k ≤ L.length ∧ i = .int .i64 k ∧ v = .slice A' n' c' ∧ n' = (spL true (L.take k)).length ∧ Row cSq 2 TSq w.heap.size wr (.slice A' n' c') (spL true (L.take k)) ∧ Below w.heap.size w wr) (fun _ i _ => L.length - (RowKit.intOf i).toNat)
  case atStart => exact ⟨0, none, 0, 0, Nat.zero_le _, rfl, rfl, rfl, Row.nil _ _ _ _ _, B1.out⟩
  case round =>
    obtain ⟨k, A', n', c', hk, rfl, rfl, hn', hrow, hbel⟩ := hrel
    have HR := Lib.hid hrow
    have HB := Lib.hid hbel
    have HN' := Lib.hid hn'
    rcases Nat.lt_or_ge k L.length with hlt | hge
    · obtain ⟨r, hr⟩ := get_lt hlt
      obtain ⟨b, off, rfl, hb, e0, e1, e2, e3⟩ := rd_at (HA.out.on HB.out) hr
      have HTk := Lib.hid (spL_take (al := true) hr)
      have HRr := Lib.hid hr
      have HSl2 : Hid ((spL true (L.take k)).length + 1 ≤ 1000000) := Lib.hid (by have := spL_take_len true L k; omega)
      have i1 : (k : Int) < (L.length : Int) := by omega
      have i2 : (0 : Int) ≤ (k : Int) := by omega
      have HP := Lib.hid fun W => rr_points r W
      obtain ⟨p, hp⟩ : ∃ p, ptB r = p := ⟨_, rfl⟩
      rw [hp] at HP HTk
      have HCS : Hid (∀ W, Below wr.heap.size wr W → W.cell? ⟨b, off + k * 4 + 2, none⟩ = some (.int .i64 r.2.2.1) ∧ W.cell? ⟨b, off + k * 4 + 3, none⟩ = some (.int .i64 r.2.2.2)) := fun W h =>
        ⟨(h.cell (p := ⟨b, off + k * 4 + 2, none⟩) hb).trans e2, (h.cell (p := ⟨b, off + k * 4 + 3, none⟩) hb).trans e3⟩
      clear hr hrow hbel hn' hp
      go_wp2_with fail
      refine (HP.out wr).mono ?_
      rintro e w2 ⟨rfl, hb2⟩
      have B2 := Lib.hid (HB.out.trans (hb2.mono HB.out.size))
      have R2 := Lib.hid (HR.out.on hb2)
      obtain ⟨y0, y1⟩ := HCS.out w2 hb2
      have hbl : b < w2.heap.size := Nat.lt_of_lt_of_le hb hb2.size
      clear hb2 e0 e1 e2 e3
      cases p with
      | false =>
        have HTn : Hid (spL true (L.take (k + 1)) = spL true (L.take k)) := Lib.hid (by have := HTk.out; simpa using this)
        go_wp2_with fail
        go_roundw
        case rel => exact ⟨k + 1, A', n', c', by omega, by go_num, rfl, by rw [HTn.out]; exact HN'.out, by rw [HTn.out]; exact R2.out, B2.out⟩
        case measure => simp [RowKit.intOf]; omega
      | true =>
        have HTn : Hid (spL true (L.take (k + 1)) = spL true (L.take k) ++ [(r.2.2.1, r.2.2.2)]) := Lib.hid (by have := HTk.out; simpa [spR] using this)
        obtain ⟨wq, rfl⟩ : ∃ W, W = w2 := ⟨w2, rfl⟩
        go_upto_region 9 with fail
        have HXl : Hid (∀ W : World, W.heap.size = wq.heap.size → ∀ ty, Rd cSq 2 (W.alloc (.cells #[.int .i64 r.2.2.1, .int .i64 r.2.2.2] ty)) (some ⟨wq.heap.size, 0, none⟩) [(r.2.2.1, r.2.2.2)]) := fun W hW ty => rd_one cSq_len (by rw [← hW]; exact heap_alloc_new _ _)
        have hb0 : b < w.heap.size := by
          obtain ⟨b', off', e', hlt', -⟩ := HA.out k r HRr.out
          cases e'
          exact hlt'
        have HCQ : Hid (∀ W, Below wq.heap.size wq W → W.cell? ⟨b, off + k * 4 + 2, none⟩ = some (.int .i64 r.2.2.1) ∧ W.cell? ⟨b, off + k * 4 + 3, none⟩ = some (.int .i64 r.2.2.2)) := fun W h =>
          ⟨(h.cell (p := ⟨b, off + k * 4 + 2, none⟩) hbl).trans y0, (h.cell (p := ⟨b, off + k * 4 + 3, none⟩) hbl).trans y1⟩
        have HGk : Hid (∀ W : World, wq.grownBy W (Value.slice A' n' c').ownBlock → W.cell? ⟨b, off + k * 4 + 2, none⟩ = some (.int .i64 r.2.2.1) ∧ W.cell? ⟨b, off + k * 4 + 3, none⟩ = some (.int .i64 r.2.2.2)) := fun W hg => by
          have hne : some b ≠ (Value.slice A' n' c').ownBlock := fun e => by have := (R2.out.lt b e.symm).1; omega
          exact ⟨(hg.cell_far ⟨b, off + k * 4 + 2, none⟩ hbl hne).trans y0, (hg.cell_far ⟨b, off + k * 4 + 3, none⟩ hbl hne).trans y1⟩
        go_region_held3 (fun W => W.cell? ⟨b, off + k * 4 + 2, none⟩ = some (.int .i64 r.2.2.1) ∧ W.cell? ⟨b, off + k * 4 + 3, none⟩ = some (.int .i64 r.2.2.2))
          (first | exact HCQ.out _ (Below.refl _ _) | exact HCQ.out _ (drew_below _) | exact HCQ.out _ (below_drew (below_alloc _ _)) | exact HCQ.out _ (bstep (drew_below _) (below_alloc _ _)) | exact HGk.out _ HG5.out)
          ((refine step_rows kdSq wq rfl (.tmp 23) (.tmp 35) rfl (.slice A' n' c') (spL true (L.take k)) (by simp [Act.eval]) R2.out (by first | exact below_alloc _ _ | exact below_drew (below_alloc _ _) | exact bstep (drew_below _) (below_alloc _ _)) (some ⟨wq.heap.size, 0, none⟩) 1 1 [(r.2.2.1, r.2.2.2)] rfl (by simp [Act.eval]) (by first | exact HXl.out _ rfl _) HSl2.out B2.out.size ?_; intro A5 n5 c5 w5 hn5 hr5 hk5 hg5 hat5; have HN5 := Lib.hid hn5; have HR5 := Lib.hid hr5; have HG5 := Lib.hid hg5; clear hn5 hr5 hk5 hg5 hat5))
        all_goals
          have HB5 : Hid (Below w.heap.size w w5) := B2.out.trans (R2.out.below HG5.out B2.out.size)
          have HR6 : Hid (Row cSq 2 TSq w.heap.size w5 (.slice A5 n5 c5) (spL true (L.take (k + 1)))) := Lib.hid (by rw [HTn.out]; exact HR5.out)
          have HN6 : Hid (n5 = (spL true (L.take (k + 1))).length) := Lib.hid (by rw [HTn.out, HN5.out, List.length_append]; rfl)
          go_wp2_with fail
          go_roundw
          case rel => exact ⟨k + 1, A5, n5, c5, by omega, by go_num, rfl, HN6.out, HR6.out, HB5.out⟩
          case measure => simp [RowKit.intOf]; omega
    · obtain rfl : k = L.length := by omega
      rw [List.take_length] at hrow hn'
      have hR2 := hrow.one cSq_len
      obtain ⟨A6, c6, e6, -, -, hrd6, -, -⟩ := hR2
      obtain ⟨rfl, -, rfl⟩ := Value.slice.inj e6
      have HNm := Lib.hid (Span.ref_Norm (spL true L) A' c' wr (sps_rd hrd6) (by have := spL_len true L; omega))
      rw [← hn'] at HNm
      have HN6 := Lib.hid hn'
      clear e6 hrow hn' hbel hrd6
      go_wp2_with fail
      refine HNm.out.mono ?_
      intro e w3 h
      obtain ⟨M, V, cap, rfl, h1, h2, h3, h4, hb3⟩ := normQ (chk_spL HE.out true) (fun x => has_spL true x L) h
      have M1 := Lib.hid h1
      have M2 := Lib.hid h2
      have M3 := Lib.hid (h3 rfl)
      have B3 := Lib.hid (HB.out.trans (hb3.mono HB.out.size))
      clear h h1 h2 h3 h4 hb3
      go_wp2_with fail
      go_ret2
      exact ⟨M, V, cap, rfl, M1.out, M2.out, fun _ => M3.out, fun h => absurd rfl h, B3.out⟩

set_option maxHeartbeats 3200000 in
theorem rr_Across (L : List Rc) (A : Option Addr) (c : Nat) (w : World) (ha : Rcs w A L) (hm : L.length ≤ 9223372036854775807) :
    Calls Try.prog 30 #[.slice A L.length c] w (SetQ (lsE L) (setB false L) w) := by
  have HA := Lib.hid ha
  have HL := Lib.hid (rr_list L A c w ha hm)
  obtain ⟨E, hE⟩ : ∃ E, lsE L = E := ⟨_, rfl⟩
  rw [hE] at HL
  rw [hE]
  have HE := Lib.hid hE
  clear ha hE
  go_enter Try.func30, Try.ntmps30
  go_wp2_with fail
  refine HL.out.mono ?_
  rintro e w1 ⟨rfl, hb⟩
  have B1 := Lib.hid hb
  clear hb
  by_cases hz : E = 0
  rotate_left
  · obtain ⟨z1, z2⟩ := ne_tests hz
    have HZ := Lib.hid hz
    clear hz
    go_wp2_with fail
    go_ret2
    exact SetQ.err HZ.out B1.out
  subst hz
  have hl64 := (lsE_of HE.out).1
  go_wp2_with fail
  go_loopw [5, 6] (fun v i wr => ∃ (k : Nat) (A' : Option Addr) (n' c' : Nat), k ≤ L.length ∧ i = .int .i64 k ∧ v = .slice A' n' c' ∧ n' = (spL false (L.take k)).length ∧ Row cSq 2 TSq w.heap.size wr (.slice A' n' c') (spL false (L.take k)) ∧ Below w.heap.size w wr) (fun _ i _ => L.length - (RowKit.intOf i).toNat)
  case atStart => exact ⟨0, none, 0, 0, Nat.zero_le _, rfl, rfl, rfl, Row.nil _ _ _ _ _, B1.out⟩
  case round =>
    obtain ⟨k, A', n', c', hk, rfl, rfl, hn', hrow, hbel⟩ := hrel
    have HR := Lib.hid hrow
    have HB := Lib.hid hbel
    have HN' := Lib.hid hn'
    rcases Nat.lt_or_ge k L.length with hlt | hge
    · obtain ⟨r, hr⟩ := get_lt hlt
      obtain ⟨b, off, rfl, hb, e0, e1, e2, e3⟩ := rd_at (HA.out.on HB.out) hr
      have HTk := Lib.hid (spL_take (al := false) hr)
      have HRr := Lib.hid hr
      have HSl2 : Hid ((spL false (L.take k)).length + 1 ≤ 1000000) := Lib.hid (by have := spL_take_len false L k; omega)
      have i1 : (k : Int) < (L.length : Int) := by omega
      have i2 : (0 : Int) ≤ (k : Int) := by omega
      have HP := Lib.hid fun W => rr_points r W
      obtain ⟨p, hp⟩ : ∃ p, ptB r = p := ⟨_, rfl⟩
      rw [hp] at HP HTk
      have HCS : Hid (∀ W, Below wr.heap.size wr W → W.cell? ⟨b, off + k * 4, none⟩ = some (.int .i64 r.1) ∧ W.cell? ⟨b, off + k * 4 + 1, none⟩ = some (.int .i64 r.2.1)) := fun W h =>
        ⟨(h.cell (p := ⟨b, off + k * 4, none⟩) hb).trans e0, (h.cell (p := ⟨b, off + k * 4 + 1, none⟩) hb).trans e1⟩
      clear hr hrow hbel hn' hp
      go_wp2_with fail
      refine (HP.out wr).mono ?_
      rintro e w2 ⟨rfl, hb2⟩
      have B2 := Lib.hid (HB.out.trans (hb2.mono HB.out.size))
      have R2 := Lib.hid (HR.out.on hb2)
      obtain ⟨y0, y1⟩ := HCS.out w2 hb2
      have hbl : b < w2.heap.size := Nat.lt_of_lt_of_le hb hb2.size
      clear hb2 e0 e1 e2 e3
      cases p with
      | false =>
        have HTn : Hid (spL false (L.take (k + 1)) = spL false (L.take k)) := Lib.hid (by have := HTk.out; simpa using this)
        go_wp2_with fail
        go_roundw
        case rel => exact ⟨k + 1, A', n', c', by omega, by go_num, rfl, by rw [HTn.out]; exact HN'.out, by rw [HTn.out]; exact R2.out, B2.out⟩
        case measure => simp [RowKit.intOf]; omega
      | true =>
        have HTn : Hid (spL false (L.take (k + 1)) = spL false (L.take k) ++ [(r.1, r.2.1)]) := Lib.hid (by have := HTk.out; simpa [spR] using this)
        obtain ⟨wq, rfl⟩ : ∃ W, W = w2 := ⟨w2, rfl⟩
        go_upto_region 9 with fail
        have HXl : Hid (∀ W : World, W.heap.size = wq.heap.size → ∀ ty, Rd cSq 2 (W.alloc (.cells #[.int .i64 r.1, .int .i64 r.2.1] ty)) (some ⟨wq.heap.size, 0, none⟩) [(r.1, r.2.1)]) := fun W hW ty => rd_one cSq_len (by rw [← hW]; exact heap_alloc_new _ _)
        have hb0 : b < w.heap.size := by
          obtain ⟨b', off', e', hlt', -⟩ := HA.out k r HRr.out
          cases e'
          exact hlt'
        have HCQ : Hid (∀ W, Below wq.heap.size wq W → W.cell? ⟨b, off + k * 4, none⟩ = some (.int .i64 r.1) ∧ W.cell? ⟨b, off + k * 4 + 1, none⟩ = some (.int .i64 r.2.1)) := fun W h =>
          ⟨(h.cell (p := ⟨b, off + k * 4, none⟩) hbl).trans y0, (h.cell (p := ⟨b, off + k * 4 + 1, none⟩) hbl).trans y1⟩
        have HGk : Hid (∀ W : World, wq.grownBy W (Value.slice A' n' c').ownBlock → W.cell? ⟨b, off + k * 4, none⟩ = some (.int .i64 r.1) ∧ W.cell? ⟨b, off + k * 4 + 1, none⟩ = some (.int .i64 r.2.1)) := fun W hg => by
          have hne : some b ≠ (Value.slice A' n' c').ownBlock := fun e => by have := (R2.out.lt b e.symm).1; omega
          exact ⟨(hg.cell_far ⟨b, off + k * 4, none⟩ hbl hne).trans y0, (hg.cell_far ⟨b, off + k * 4 + 1, none⟩ hbl hne).trans y1⟩
        go_region_held3 (fun W => W.cell? ⟨b, off + k * 4, none⟩ = some (.int .i64 r.1) ∧ W.cell? ⟨b, off + k * 4 + 1, none⟩ = some (.int .i64 r.2.1))
          (first | exact HCQ.out _ (Below.refl _ _) | exact HCQ.out _ (drew_below _) | exact HCQ.out _ (below_drew (below_alloc _ _)) | exact HCQ.out _ (bstep (drew_below _) (below_alloc _ _)) | exact HGk.out _ HG5.out)
          ((refine step_rows kdSq wq rfl (.tmp 23) (.tmp 35) rfl (.slice A' n' c') (spL false (L.take k)) (by simp [Act.eval]) R2.out (by first | exact below_alloc _ _ | exact below_drew (below_alloc _ _) | exact bstep (drew_below _) (below_alloc _ _)) (some ⟨wq.heap.size, 0, none⟩) 1 1 [(r.1, r.2.1)] rfl (by simp [Act.eval]) (by first | exact HXl.out _ rfl _) HSl2.out B2.out.size ?_; intro A5 n5 c5 w5 hn5 hr5 hk5 hg5 hat5; have HN5 := Lib.hid hn5; have HR5 := Lib.hid hr5; have HG5 := Lib.hid hg5; clear hn5 hr5 hk5 hg5 hat5))
        all_goals
          have HB5 : Hid (Below w.heap.size w w5) := B2.out.trans (R2.out.below HG5.out B2.out.size)
          have HR6 : Hid (Row cSq 2 TSq w.heap.size w5 (.slice A5 n5 c5) (spL false (L.take (k + 1)))) := Lib.hid (by rw [HTn.out]; exact HR5.out)
          have HN6 : Hid (n5 = (spL false (L.take (k + 1))).length) := Lib.hid (by rw [HTn.out, HN5.out, List.length_append]; rfl)
          go_wp2_with fail
          go_roundw
          case rel => exact ⟨k + 1, A5, n5, c5, by omega, by go_num, rfl, HN6.out, HR6.out, HB5.out⟩
          case measure => simp [RowKit.intOf]; omega
    · obtain rfl : k = L.length := by omega
      rw [List.take_length] at hrow hn'
      have hR2 := hrow.one cSq_len
      obtain ⟨A6, c6, e6, -, -, hrd6, -, -⟩ := hR2
      obtain ⟨rfl, -, rfl⟩ := Value.slice.inj e6
      have HNm := Lib.hid (Span.ref_Norm (spL false L) A' c' wr (sps_rd hrd6) (by have := spL_len false L; omega))
      rw [← hn'] at HNm
      have HN6 := Lib.hid hn'
      clear e6 hrow hn' hbel hrd6
      go_wp2_with fail
      refine HNm.out.mono ?_
      intro e w3 h
      obtain ⟨M, V, cap, rfl, h1, h2, h3, h4, hb3⟩ := normQ (chk_spL HE.out false) (fun x => has_spL false x L) h
      have M1 := Lib.hid h1
      have M2 := Lib.hid h2
      have M3 := Lib.hid (h3 rfl)
      have B3 := Lib.hid (HB.out.trans (hb3.mono HB.out.size))
      clear h h1 h2 h3 h4 hb3
      go_wp2_with fail
      go_ret2
      exact ⟨M, V, cap, rfl, M1.out, M2.out, fun _ => M3.out, fun h => absurd rfl h, B3.out⟩
#print axioms rr_Spans
#print axioms rr_Along
#print axioms rr_Across
end Go.Proofs.Ytccbnobpighckaa.Rect
