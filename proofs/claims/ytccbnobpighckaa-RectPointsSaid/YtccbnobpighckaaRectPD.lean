/- Cover of the program: the places where rectangles begin or end, strips between them. -/
import Derived.Test.YtccbnobpighckaaRectPC
import Derived.Test.YtccbnobpighckaaRowI
namespace Go.Proofs.Ytccbnobpighckaa.Rect
open Go.ChangeShapes Go.WideShapes Go.RowKit Go.Lib Go.Proofs.Ytccbnobpighckaa.Rw
open Go.Proofs.Ytccbnobpighckaa.Span (hasB hasB_iff inS inS_iff chkE chk_of IsNf Nrm Sps InL orF orF_nil SetRes TotRes cmbE cmbL cmbE_ok cmbL_ok nfE_ok chk_nil tot cnt nrm_tot cnt_congr)
set_option linter.unusedVariables false
set_option maxRecDepth 100000

/-! ### Places and strips (pure) -/
/-- All ends along. -/
def plE : List Rc → List Int
  | [] => []
  | r :: L => r.2.2.1 :: r.2.2.2 :: plE L
theorem plE_snoc (r : Rc) : ∀ L : List Rc, plE (L ++ [r]) = plE L ++ [r.2.2.1, r.2.2.2]
  | [] => rfl
  | s :: L => by rw [List.cons_append, plE, plE, plE_snoc r L]; rfl
theorem plE_len : ∀ L : List Rc, (plE L).length = 2 * L.length
  | [] => rfl
  | r :: L => by rw [plE, List.length_cons, List.length_cons, List.length_cons, plE_len L]; omega
theorem plE_mem {x : Int} : ∀ {L : List Rc}, x ∈ plE L ↔ ∃ r ∈ L, x = r.2.2.1 ∨ x = r.2.2.2
  | [] => by simp [plE]
  | r :: L => by
    rw [plE, List.mem_cons, List.mem_cons, plE_mem (L := L)]
    constructor
    · rintro (h | h | ⟨s, hs, h⟩)
      · exact ⟨r, by simp, Or.inl h⟩
      · exact ⟨r, by simp, Or.inr h⟩
      · exact ⟨s, by simp [hs], h⟩
    · rintro ⟨s, hs, h⟩
      rcases List.mem_cons.mp hs with rfl | hs
      · rcases h with h | h
        · exact Or.inl h
        · exact Or.inr (Or.inl h)
      · exact Or.inr (Or.inr ⟨s, hs, h⟩)
/-- The places, in ascending order. -/
def cutL (L : List Rc) : List Int := nubI (plE L)
theorem cutL_len (L : List Rc) : (cutL L).length ≤ 2 * L.length := by
  unfold cutL nubI
  refine Nat.le_trans (compact_leI _) ?_
  rw [srtI_len, plE_len]; exact Nat.le_refl _
theorem cutL_mem {L : List Rc} {x : Int} : x ∈ cutL L ↔ ∃ r ∈ L, x = r.2.2.1 ∨ x = r.2.2.2 := by
  unfold cutL
  rw [(nubI_is _).2, plE_mem]
theorem cutL_lim {L : List Rc} (h : ∀ r ∈ L, ckB r = true) {x : Int} (hx : x ∈ cutL L) : 0 ≤ x ∧ x ≤ ML := by
  obtain ⟨r, hr, e⟩ := cutL_mem.mp hx
  have := ckB_iff.mp (h r hr)
  have hM : ML = 17179869184 := rfl
  omega
/-- From one place to the next. -/
theorem cut_step {L : List Rc} (h : ∀ r ∈ L, ckB r = true) {k : Nat} {F T : Int} (hF : (0 :: cutL L)[k]? = some F) (hT : (cutL L)[k]? = some T) :
    0 ≤ F ∧ F ≤ T ∧ T ≤ ML ∧ (F < T → NxY L F T) := by
  have hA := (nubI_is (plE L)).1
  change AscI (cutL L) at hA
  have hTm := List.mem_of_getElem? hT
  have hTl := cutL_lim h hTm
  have key : 0 ≤ F ∧ F ≤ T ∧ ∀ x ∈ cutL L, F < x → T ≤ x := by
    cases k with
    | zero =>
      simp at hF; subst hF
      refine ⟨Int.le_refl _, hTl.1, fun x hx hlt => ?_⟩
      obtain ⟨j, hj⟩ := List.mem_iff_getElem?.mp hx
      rcases Nat.eq_zero_or_pos j with rfl | hj0
      · rw [hT] at hj; cases hj; exact Int.le_refl _
      · obtain ⟨l1, e1⟩ := List.getElem?_eq_some_iff.mp hT
        obtain ⟨l2, e2⟩ := List.getElem?_eq_some_iff.mp hj
        have := List.pairwise_iff_getElem.mp hA 0 j l1 l2 hj0
        rw [e1, e2] at this; omega
    | succ k =>
      rw [List.getElem?_cons_succ] at hF
      obtain ⟨l0, e0⟩ := List.getElem?_eq_some_iff.mp hF
      obtain ⟨l1, e1⟩ := List.getElem?_eq_some_iff.mp hT
      have h01 := List.pairwise_iff_getElem.mp hA k (k + 1) l0 l1 (by omega)
      rw [e0, e1] at h01
      refine ⟨(cutL_lim h (List.mem_of_getElem? hF)).1, by omega, fun x hx hlt => ?_⟩
      obtain ⟨j, hj⟩ := List.mem_iff_getElem?.mp hx
      obtain ⟨l2, e2⟩ := List.getElem?_eq_some_iff.mp hj
      rcases Nat.lt_or_ge k j with hkj | hkj
      · rcases Nat.lt_or_eq_of_le (Nat.succ_le_of_lt hkj) with h3 | h3
        · have := List.pairwise_iff_getElem.mp hA (k + 1) j l1 l2 h3
          rw [e1, e2] at this; omega
        · subst h3
          rw [e1] at e2; omega
      · rcases Nat.lt_or_eq_of_le hkj with h3 | h3
        · have := List.pairwise_iff_getElem.mp hA j k l2 l0 h3
          rw [e0, e2] at this; omega
        · subst h3
          rw [e0] at e2; omega
  refine ⟨key.1, key.2.1, hTl.2, fun hlt => ⟨⟨hlt, hTl.2⟩, fun r hr => ⟨fun h1 => key.2.2 _ (cutL_mem.mpr ⟨r, hr, Or.inl rfl⟩) h1, fun h1 => key.2.2 _ (cutL_mem.mpr ⟨r, hr, Or.inr rfl⟩) h1⟩⟩⟩
/-- Behind the last place nothing is covered. -/
theorem cut_last {L : List Rc} (h : ∀ r ∈ L, ckB r = true) {F : Int} (hF : (0 :: cutL L)[(cutL L).length]? = some F) : colTo L F = cv L := by
  have hA := (nubI_is (plE L)).1
  change AscI (cutL L) at hA
  have hlast : 0 ≤ F ∧ F ≤ ML ∧ ∀ x ∈ cutL L, x ≤ F := by
    rcases Nat.eq_zero_or_pos (cutL L).length with h0 | h0
    · have hn := List.eq_nil_of_length_eq_zero h0
      rw [hn] at hF ⊢
      simp at hF; subst hF
      exact ⟨Int.le_refl _, by decide, fun x hx => by simp at hx⟩
    · obtain ⟨m, hm⟩ : ∃ m, (cutL L).length = m + 1 := ⟨(cutL L).length - 1, by omega⟩
      rw [hm, List.getElem?_cons_succ] at hF
      obtain ⟨l0, e0⟩ := List.getElem?_eq_some_iff.mp hF
      have hl := cutL_lim h (List.mem_of_getElem? hF)
      refine ⟨hl.1, hl.2, fun x hx => ?_⟩
      obtain ⟨j, hj⟩ := List.mem_iff_getElem?.mp hx
      obtain ⟨l2, e2⟩ := List.getElem?_eq_some_iff.mp hj
      rcases Nat.lt_or_eq_of_le (show j ≤ m by omega) with h3 | h3
      · have := List.pairwise_iff_getElem.mp hA j m l2 l0 h3
        rw [e0, e2] at this; omega
      · subst h3
        rw [e0] at e2; omega
  rw [cv_col]
  unfold colTo
  rw [sI_split _ hlast.1 hlast.2.1, sI_zero (a := F) (b := ML) fun y h0 h1 => ?_, Int.add_zero]
  show rowTo L y MW = 0
  unfold rowTo
  refine sI_zero fun x _ _ => ?_
  have : inL L x y = false := by
    cases hc : inL L x y with
    | false => rfl
    | true =>
      obtain ⟨r, hr, hi⟩ := inL_iff.mp hc
      have h2 := inR_iff.mp hi
      have h3 := hlast.2.2 _ (cutL_mem.mpr ⟨r, hr, Or.inr rfl⟩)
      omega
  show b2 (inL L x y) = 0
  rw [this]; rfl
/-- The strip between two places. -/
abbrev strR (F T : Int) : Rc := (0, 12000, F, T)
theorem str_ck {F T : Int} (h0 : 0 ≤ F) (h1 : F ≤ T) (h2 : T ≤ ML) : ckB (strR F T) = true := by
  rw [ckB_iff]
  have hM : ML = 17179869184 := rfl
  simp only
  omega
theorem str_ok {L : List Rc} {F T : Int} (h : lsE L = 0) (h0 : 0 ≤ F) (h1 : F ≤ T) (h2 : T ≤ ML) : lsE (clp (strR F T) L) = 0 := by
  obtain ⟨h3, h4⟩ := lsE_of h
  have h5 := clp_len (strR F T) L
  exact lsE_ok (by omega) fun k r hr => clp_ck (str_ck h0 h1 h2) h4 r (List.mem_of_getElem? hr)
/-- What the strip covers across is what is covered at its beginning. -/
theorem str_set {L : List Rc} (h : ∀ r ∈ L, ckB r = true) {F T : Int} (hn : NxY L F T) (x : Int) : setB false (clp (strR F T) L) x = (inL L x F) := by
  rw [Bool.eq_iff_iff]
  constructor
  · intro hs
    unfold setB at hs
    obtain ⟨s, hs, hp⟩ := List.any_eq_true.mp hs
    rw [Bool.and_eq_true, inS_iff] at hp
    unfold clp at hs
    obtain ⟨t, ht, he⟩ := List.mem_filterMap.mp hs
    by_cases hc : comB t (strR F T) = true
    · rw [if_pos hc] at he; cases he
      have h1 := ptB_iff.mp hp.1
      have h2 := hp.2
      have h3 := hn.2 t ht
      have h4 := ckB_iff.mp (h t ht)
      refine inL_iff.mpr ⟨t, ht, inR_iff.mpr ?_⟩
      unfold spR comR at *
      simp only [Bool.false_eq_true, if_false] at *
      omega
    · rw [if_neg hc] at he; cases he
  · intro hi
    obtain ⟨r, hr, hi⟩ := inL_iff.mp hi
    have h1 := inR_iff.mp hi
    have h3 := hn.2 r hr
    have h4 := ckB_iff.mp (h r hr)
    have h5 := hn.1
    have hc : comB r (strR F T) = true := by
      unfold comB
      rw [ptB_iff]
      unfold comR
      simp only
      omega
    unfold setB
    refine List.any_eq_true.mpr ⟨comR r (strR F T), List.mem_filterMap.mpr ⟨r, hr, by rw [if_pos hc]⟩, ?_⟩
    rw [Bool.and_eq_true, inS_iff]
    refine ⟨hc, ?_⟩
    unfold spR comR
    simp only [Bool.false_eq_true, if_false]
    omega
theorem cnt_sm (f : Int → Bool) : ∀ n : Nat, cnt f n = sm (fun x => b2 (f x)) 0 n
  | 0 => rfl
  | n + 1 => by
    rw [cnt, sm, cnt_sm f n, Int.zero_add]; rfl
/-- The width of the strip's sides. -/
theorem str_wide {L N : List (Int × Int)} {f : Int → Bool} (h : IsNf (hasB L) N) (hf : ∀ x, hasB L x = f x) (hr : ∀ x, f x = true → 0 ≤ x ∧ x < MW) : tot N = sI (fun x => b2 (f x)) 0 MW := by
  have hN := h.congr hf
  have h1 : ∀ s ∈ N, 0 ≤ s.1 ∧ s.1 ≤ s.2 ∧ s.2 ≤ (12000 : Nat) := fun s hs => by
    have hs1 := hN.1.1 s hs
    have a := hr s.1 (by rw [← hN.2]; exact hasB_iff.mpr ⟨s, hs, by omega⟩)
    have b := hr (s.2 - 1) (by rw [← hN.2]; exact hasB_iff.mpr ⟨s, hs, by omega⟩)
    have hM : MW = 12000 := rfl
    omega
  rw [nrm_tot hN.1 12000 h1, cnt_congr hN.2, cnt_sm]
  rfl
theorem cov_step {L : List Rc} (h : lsE L = 0) {k : Nat} {F T : Int} (hF : (0 :: cutL L)[k]? = some F) (hT : (cutL L)[k]? = some T) {N : List (Int × Int)} (hN : IsNf (hasB (spL false (clp (strR F T) L))) N) :
    colTo L T = colTo L F + tot N * (T - F) ∧ (0 ≤ tot N ∧ tot N ≤ 12000 ∨ T - F = 0) := by
  obtain ⟨h1, h2⟩ := lsE_of h
  obtain ⟨a, b, c, d⟩ := cut_step h2 hF hT
  rcases Int.lt_or_eq_of_le b with hlt | rfl
  · have hn := d hlt
    have hw : tot N = rowTo L F MW := by
      refine str_wide hN (fun x => (has_spL false x _).trans (str_set h2 hn x)) fun x hx => ?_
      obtain ⟨r, hr, hi⟩ := inL_iff.mp hx
      have h3 := inR_iff.mp hi
      have h4 := ckB_iff.mp (h2 r hr)
      have hM : MW = 12000 := rfl
      omega
    rw [hw]
    exact ⟨colTo_step hn a, Or.inl (rowTo_lim L F (by decide))⟩
  · rw [Int.sub_self, Int.mul_zero, Int.add_zero]
    exact ⟨rfl, Or.inr rfl⟩
theorem totQ {a : List (Int × Int)} {w w' : World} {e : Ending} (hc : chkE a = 0) (h : TotRes a w e w') : ∃ N, e = .returned (.tuple #[.int .i64 (tot N), .int .i64 0]) ∧ IsNf (hasB a) N ∧ Below w.heap.size w w' := by
  obtain ⟨N, rfl, hnf, hb⟩ := h
  have hn := (hnf hc).congr fun x => orF_nil a x
  have hlen : N.length ≤ a.length := hn.length
  have hal := Span.chk_len hc
  have e0 : cmbE a [] N = 0 := by rw [cmbE_ok hc chk_nil, nfE_ok (by omega)]
  exact ⟨N, by rw [cmbL_ok e0, e0], hn, hb⟩

/-! ### In memory -/
/-- A list of integers. -/
def RowN (T : List Int) (w : World) (e : Ending) (w' : World) : Prop :=
  ∃ A c, e = .returned (.slice A T.length c) ∧ T.length ≤ c ∧ Rd cI 1 w' A T ∧ Below w.heap.size w w'
theorem plE_take {L : List Rc} {k : Nat} {r : Rc} (h : L[k]? = some r) : plE (L.take (k + 1)) = plE (L.take k) ++ [r.2.2.1, r.2.2.2] := by
  rw [take_snoc_of h, plE_snoc]
theorem plE_take_len (L : List Rc) (k : Nat) : (plE (L.take k)).length ≤ 2 * k := by
  rw [plE_len, List.length_take]
  omega
set_option maxHeartbeats 3200000 in
theorem rect_cuts (L : List Rc) (A : Option Addr) (c : Nat) (w : World) (ha : Rcs w A L) (hm : L.length ≤ 100000) :
    Calls Try.prog 39 #[.slice A L.length c] w (RowN (cutL L) w) := by
  have HA := Lib.hid ha
  clear ha
  go_enter Try.func39, Try.ntmps39
  go_wp2_with fail
  go_loopw [3, 8] (fun v i wr => ∃ (k : Nat) (A' : Option Addr) (n' c' : Nat), k ≤ L.length ∧ i = .int .i64 k ∧ v = .slice A' n' c' ∧ n' = (plE (L.take k)).length ∧ Row cI 1 3 w.heap.size wr (.slice A' n' c') (plE (L.take k)) ∧ Below w.heap.size w wr) (fun _ i _ => L.length - (RowKit.intOf i).toNat)
  case atStart => exact ⟨0, none, 0, 0, Nat.zero_le _, rfl, rfl, rfl, Row.nil _ _ _ _ _, Below.refl _ _⟩
  case round =>
    obtain ⟨k, A', n', c', hk, rfl, rfl, hn', hrow, hbel⟩ := hrel
    have HR := Lib.hid hrow
    have HB := Lib.hid hbel
    have HN' := Lib.hid hn'
    rcases Nat.lt_or_ge k L.length with hlt | hge
    · obtain ⟨r, hr⟩ := get_lt hlt
      obtain ⟨b, off, rfl, hb, e0, e1, e2, e3⟩ := rd_at (HA.out.on HB.out) hr
      have HTk := Lib.hid (plE_take hr)
      have HSl2 : Hid ((plE (L.take k)).length + 2 ≤ 1000000) := Lib.hid (by have := plE_take_len L k; omega)
      have i1 : (k : Int) < (L.length : Int) := by omega
      have i2 : (0 : Int) ≤ (k : Int) := by omega
      clear hr hrow hbel hn'
      obtain ⟨wq, rfl⟩ : ∃ W, W = wr := ⟨wr, rfl⟩
      go_upto_region 5 with fail
      obtain ⟨w3, hw3⟩ : ∃ W, wq.alloc (.cells #[.int .i64 r.1, .int .i64 r.2.1, .int .i64 r.2.2.1, .int .i64 r.2.2.2] 23) = W := ⟨_, rfl⟩
      have E3 : Hid (Cel w3 wq.heap.size (cQ r)) := hw3 ▸ Cel.new wq (cQ r) _
      have hb3 : Below wq.heap.size wq w3 := hw3 ▸ below_alloc _ _
      rw [hw3]
      clear hw3 e0 e1 e2 e3
      have B3 := Lib.hid (HB.out.trans (hb3.mono HB.out.size))
      have R3 := Lib.hid (HR.out.on hb3)
      clear hb3
      obtain ⟨x0, x1, x2, x3⟩ := cel4 E3.out
      have HGA : Hid (w.heap.size ≤ (w3.alloc (.cells #[.int .i64 r.2.2.1, .int .i64 r.2.2.2] 3)).heap.size) := Nat.le_trans B3.out.size (below_alloc _ _).size
      go_wp2_with (at_builtin; refine append_rows kdI rfl (.tmp 12) (.tmp 17) rfl (.slice A' n' c') (plE (L.take k)) rfl (R3.out.on (below_alloc _ _)) (some ⟨w3.heap.size, 0, none⟩) 2 2 [r.2.2.1, r.2.2.2] rfl rfl (rd_lit cI_len (heap_alloc_new _ _)) HSl2.out HGA.out ?_; intro A5 n5 c5 w6 hn5 hr5 hg5 hat5; have HN5 := Lib.hid hn5; have HR5 := Lib.hid hr5; have HG5 := Lib.hid hg5; clear hn5 hr5 hg5 hat5; refine Hid.out ?_)
      have HRa := Lib.hid (R3.out.on (below_alloc w3 (.cells #[.int .i64 r.2.2.1, .int .i64 r.2.2.2] 3)))
      have HB5 : Hid (Below w.heap.size w w6) := (B3.out.trans ((below_alloc w3 _).mono B3.out.size)).trans (HRa.out.below HG5.out HGA.out)
      have HR6 : Hid (Row cI 1 3 w.heap.size w6 (.slice A5 n5 c5) (plE (L.take (k + 1)))) := Lib.hid (by rw [HTk.out]; exact HR5.out)
      have HN6 : Hid (n5 = (plE (L.take (k + 1))).length) := Lib.hid (by rw [HTk.out, HN5.out, List.length_append]; rfl)
      refine Lib.hid ?_
      go_wp2_with fail
      go_roundw
      case rel => exact ⟨k + 1, A5, n5, c5, by omega, by go_num, rfl, HN6.out, HR6.out, HB5.out⟩
      case measure => simp [RowKit.intOf]; omega
    · obtain rfl : k = L.length := by omega
      rw [List.take_length] at hrow
      have HP : Hid ((plE L).length ≤ 1000000) := Lib.hid (by rw [plE_len]; omega)
      have HSo := Lib.hid (row_sort (plE L) (.slice A' n' c') w.heap.size wr hrow HP.out)
      have HR0 := Lib.hid hrow
      clear hrow hn' HN' hbel HR
      go_wp2_with fail
      refine HSo.out.mono ?_
      rintro e w2 ⟨rfl, hr2, hg2⟩
      have B2 : Hid (Below w.heap.size w w2) := Lib.hid (HB.out.trans (HR0.out.below hg2 HB.out.size))
      have HCo := Lib.hid (row_compact (srtI (plE L)) (.slice A' n' c') w.heap.size w2 hr2 (by rw [srtI_len]; exact HP.out))
      have R2 := Lib.hid hr2
      clear hr2 hg2
      go_wp2_with fail
      refine HCo.out.mono ?_
      rintro e w3 ⟨v', rfl, hr3, ho3, hg3⟩
      obtain ⟨A6, c6, rfl, hle6, -, hrd6, -, -⟩ := hr3.one cI_len
      have B3 : Hid (Below w.heap.size w w3) := Lib.hid (B2.out.trans (R2.out.below hg3 B2.out.size))
      have HE6 := Lib.hid hle6
      have HRd6 := Lib.hid hrd6
      obtain ⟨n6, hn6⟩ : ∃ n6, n6 = (Lib.compact (srtI (plE L))).length := ⟨_, rfl⟩
      rw [← hn6]
      have HN6 := Lib.hid hn6
      clear hr3 ho3 hg3 hle6 hrd6 hn6
      go_wp2_with fail
      go_ret
      exact ⟨A6, c6, (by rw [HN6.out]; rfl), HE6.out, HRd6.out, B3.out⟩
#print axioms cov_step
#print axioms rect_cuts
end Go.Proofs.Ytccbnobpighckaa.Rect
