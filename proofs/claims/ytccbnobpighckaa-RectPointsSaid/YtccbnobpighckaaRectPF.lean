/- slices.IndexFunc, slices.DeleteFunc, slices.Clone at rectangles. -/
import Derived.Test.YtccbnobpighckaaRectPA
import Derived.Test.YtccbnobpighckaaRectH
import Derived.Test.YtccbnobpighckaaShelf
import Derived.Lib.SliceRun
namespace Go.Proofs.Ytccbnobpighckaa.Rect
open Go.ChangeShapes Go.WideShapes Go.RowKit Go.Lib Go.Proofs.Ytccbnobpighckaa.Rw
set_option linter.unusedVariables false
set_option maxRecDepth 100000

/-! ### Cells that are set one after the other -/
section
variable {t : TypeId} {s B g m cap : Nat}
theorem own_sets : ∀ (vs : List Value) (o : Nat) (w : World) (xs : List Value), w.ownsRow B t s (.slice (some ⟨g, 0, none⟩) m cap) m xs →
    ∃ ys, (w.setCells g o vs).ownsRow B t s (.slice (some ⟨g, 0, none⟩) m cap) m ys ∧ ys.take o = xs.take o
  | [], o, w, xs, h => ⟨xs, h, rfl⟩
  | v :: r, o, w, xs, h => by
    obtain ⟨ys, h1, h2⟩ := own_sets r (o + 1) _ _ (own_set h o v)
    refine ⟨ys, h1, ?_⟩
    have e1 : ys.take o = (ys.take (o + 1)).take o := by rw [List.take_take, Nat.min_eq_left (Nat.le_succ o)]
    rw [e1, h2, List.take_take, Nat.min_eq_left (Nat.le_succ o)]
    apply List.ext_getElem?
    intro j
    rw [List.getElem?_take, List.getElem?_take]
    split
    · rw [List.getElem?_set_ne (by omega)]
    · rfl
theorem own_cut {w : World} {n : Nat} {xs : List Value} (h : w.ownsRow B t s (.slice (some ⟨g, 0, none⟩) n cap) n xs) {m : Nat} (hm : m ≤ n) : w.ownsRow B t s (.slice (some ⟨g, 0, none⟩) m cap) m (xs.take (m * s)) := by
  obtain ⟨h1, ⟨h0, _⟩ | ⟨g', cap', cur, e, h2, h3, h4, h5, h6, h7⟩⟩ := h
  · cases h0
  · cases e
    have hmn : m * s ≤ n * s := Nat.mul_le_mul_right _ hm
    refine ⟨by rw [List.length_take, h1, Nat.min_eq_left hmn], Or.inr ⟨g, cap, cur, rfl, h2, h3, by omega, h5, h6, ?_⟩⟩
    rw [← h7, List.take_take, Nat.min_eq_left hmn]
theorem off_sets : ∀ (vs : List Value) (o : Nat) (w : World), Off (fun k => k = g) w (w.setCells g o vs)
  | [], _, w => Off.refl _ _
  | v :: r, o, w => by
    rw [World.setCells]
    exact ((Off.refl (fun k => k = g) w).set (p := ⟨g, o, none⟩) (Or.inl rfl) v).trans (off_sets r (o + 1) _) fun x e => Or.inl e
end
theorem flat_take {L : List Rc} (i : Nat) (hi : i ≤ L.length) : (L.take i).flatMap cQ = (L.flatMap cQ).take (i * 4) := by
  conv => rhs; rw [← List.take_append_drop i L, List.flatMap_append]
  rw [List.take_left' (by rw [flat_len cQ_len, List.length_take]; congr 1; omega)]
theorem flat_putQ (L : List Rc) (k : Nat) (r : Rc) (hk : k < L.length) : (L.set k r).flatMap cQ = ((((L.flatMap cQ).set (k * 4) (.int .i64 r.1)).set (k * 4 + 1) (.int .i64 r.2.1)).set (k * 4 + 2) (.int .i64 r.2.2.1)).set (k * 4 + 3) (.int .i64 r.2.2.2) := by
  induction L generalizing k with
  | nil => simp at hk
  | cons s L ih =>
    cases k with
    | zero => rfl
    | succ k =>
      have := ih k (by simpa using hk)
      rw [List.set_cons_succ, List.flatMap_cons, this, List.flatMap_cons]
      rw [show (k + 1) * 4 + 3 = (k * 4 + 3) + 1 + 1 + 1 + 1 by omega, show (k + 1) * 4 + 2 = (k * 4 + 2) + 1 + 1 + 1 + 1 by omega, show (k + 1) * 4 + 1 = (k * 4 + 1) + 1 + 1 + 1 + 1 by omega, show (k + 1) * 4 = (k * 4) + 1 + 1 + 1 + 1 by omega]
      rfl
section
variable {w : World} {B g n c : Nat} {L : List Rc}
/-- A rectangle that is stored in a row. -/
theorem row_putQ (hr : Row cQ 4 TQ B w (.slice (some ⟨g, 0, none⟩) n c) L) (hn : n = L.length) (k : Nat) (r : Rc) (hk : k < L.length) :
    Row cQ 4 TQ B ((((w.setCell ⟨g, k * 4, none⟩ (.int .i64 r.1)).setCell ⟨g, k * 4 + 1, none⟩ (.int .i64 r.2.1)).setCell ⟨g, k * 4 + 2, none⟩ (.int .i64 r.2.2.1)).setCell ⟨g, k * 4 + 3, none⟩ (.int .i64 r.2.2.2)) (.slice (some ⟨g, 0, none⟩) n c) (L.set k r) := by
  subst hn
  have h1 := own_set (w := w) (t := TQ) (B := B) (s := 4) (m := L.length) (xs := L.flatMap cQ) hr (k * 4) (.int .i64 r.1)
  have h2 := own_set h1 (k * 4 + 1) (.int .i64 r.2.1)
  have h3 := own_set h2 (k * 4 + 2) (.int .i64 r.2.2.1)
  have h4 := own_set h3 (k * 4 + 3) (.int .i64 r.2.2.2)
  unfold Row
  rw [List.length_set, flat_putQ L k r hk]
  exact h4
theorem row_cells (hr : Row cQ 4 TQ B w (.slice (some ⟨g, 0, none⟩) n c) L) (hn : n = L.length) {j : Nat} (hj : j < n * 4) : (w.cell? ⟨g, j, none⟩).isSome = true := by
  have hk : j / 4 < L.length := by omega
  obtain ⟨z, hz⟩ := get_lt hk
  obtain ⟨u, hu⟩ := get_lt (L := cQ z) (k := j % 4) (by rw [cQ_len]; omega)
  have := Row.cell cQ_len hr hz hu
  rw [show j / 4 * 4 + j % 4 = j by omega] at this
  rw [this]; rfl
/-- 'clear(s[i:])'. -/
theorem clear_rows {ops : Array Oper} {rest : List Oper} {o : Oper} {a : Act} {Q : Exit → Act → World → Prop} (hgd : o.guard = none) (y : Operand)
    (ho : o.op = .call { callee := .builtin .clear, args := #[y], argTypes := #[32] }) (i m c' : Nat)
    (hr : Row cQ 4 TQ B w (.slice (some ⟨g, 0, none⟩) n c) L) (hn : n = L.length) (hm : i + m = n) (h0 : 0 < m) (hx : a.eval y = .slice (some ⟨g, i * 4, none⟩) m c')
    (h : ∀ w', Row cQ 4 TQ B w' (.slice (some ⟨g, 0, none⟩) i c) (L.take i) → Off (fun k => k = g) w w' → wpList Try.prog ops Q rest (a.put o.dst (.tuple #[])) w') :
    wpList Try.prog ops Q (o :: rest) a w := by
  obtain ⟨vs, hvs⟩ : ∃ vs : List Value, vs = List.replicate (m * 4) (.int .i64 0) := ⟨_, rfl⟩
  have hz : (Builtin.zeroCells (Value.agg #[.int .i64 0, .int .i64 0, .int .i64 0, .int .i64 0]).cells m).toList = vs := by
    rw [hvs]
    have e : (Value.agg #[.int .i64 0, .int .i64 0, .int .i64 0, .int .i64 0]).cells = #[.int .i64 0, .int .i64 0, .int .i64 0, .int .i64 0] := rfl
    rw [e]
    apply List.ext_getElem
    · simp [Builtin.zeroCells]
    · intro j h1 h2
      simp [Builtin.zeroCells]
      have : j % 4 = 0 ∨ j % 4 = 1 ∨ j % 4 = 2 ∨ j % 4 = 3 := by omega
      rcases this with h | h | h | h <;> rw [h] <;> rfl
  have hvl : vs.length = m * 4 := by rw [hvs, List.length_replicate]
  have hst := run_storeCells_cells (P := Try.prog) g (i * 4) vs 0 w (fun j hj => by
      have := row_cells hr hn (j := i * 4 + j) (by omega)
      rw [Nat.add_zero]; exact this) (fun j hj => by rw [Nat.add_zero]; exact hr.warm hn _) (fun v hv => by rw [hvs] at hv; rw [List.eq_of_mem_replicate hv]; rfl)
  rw [Nat.add_zero] at hst
  have hzv : ∀ W, (zeroValue TQ).run Try.prog W = .ok (.agg #[.int .i64 0, .int .i64 0, .int .i64 0, .int .i64 0]) W := Try.zeroValue23
  have hrun : (Builtin.clear_ #[32] o.type #[.slice (some ⟨g, i * 4, none⟩) m c']).run Try.prog w = .ok (.tuple #[]) (w.setCells g (i * 4) vs) := by
    obtain ⟨k, rfl⟩ : ∃ k, m = k + 1 := ⟨m - 1, by omega⟩
    simp [Builtin.clear_, run_underlying Try.underlying32, hzv, hz, hst]
  have hnn : w.ownsRow B TQ 4 (.slice (some ⟨g, 0, none⟩) n c) n (L.flatMap cQ) := by rw [hn] at hr ⊢; exact hr
  obtain ⟨ys, h1, h2⟩ := own_sets vs (i * 4) w _ hnn
  have h3 := own_cut h1 (m := i) (by omega)
  rw [h2, ← flat_take i (by omega)] at h3
  have hrow : Row cQ 4 TQ B (w.setCells g (i * 4) vs) (.slice (some ⟨g, 0, none⟩) i c) (L.take i) := by
    have e : (L.take i).length = i := by rw [List.length_take]; omega
    unfold Row
    rw [e]; exact h3
  refine wpList_plain hgd fun K' hK => ?_
  unfold Oper.wp execOp
  simp only [ho, resolve, invoke, builtin, Sem.run_bind, Sem.run_pure, Result.andThen_ok, List.map_toArray, List.map_cons, List.map_nil, hx, hrun]
  exact hK _ _ (h _ hrow (off_sets vs (i * 4) w))
theorem slice_loQ (g n c k : Nat) (hk : k ≤ n) (hc : k < c) (W : World) : (Instr.slice 32 (.slice (some ⟨g, 0, none⟩) n c) (some (.int .i64 (k : Int))) none none).run Try.prog W = .ok (.slice (some ⟨g, k * 4, none⟩) (n - k) (c - k)) W := by
  have ht : Try.prog.underlying 32 = some (.slice (Try.prog.elem 32)) := by kernel_rfl
  have hs : (sizeOf (Try.prog.elem 32)).run Try.prog W = .ok 4 W := Try.sizeOf23 W
  rw [run_slice_l W 32 (some ⟨g, 0, none⟩) n c ht .i64 k (by omega) (by omega), hs]
  simp [sliced, Result.andThen, Addr.add_lit]
  intro h
  omega
theorem slice_hiQ (A : Option Addr) (n c k : Nat) (hk : k ≤ c) (W : World) : (Instr.slice 32 (.slice A n c) none (some (.int .i64 (k : Int))) none).run Try.prog W = .ok (.slice A k c) W := by
  have ht : Try.prog.underlying 32 = some (.slice (Try.prog.elem 32)) := by kernel_rfl
  have hs : (sizeOf (Try.prog.elem 32)).run Try.prog W = .ok 4 W := Try.sizeOf23 W
  rw [run_slice_h W 32 A n c ht .i64 k (by omega) (by omega), hs]
  simp [sliced, Result.andThen]
  intro _
  cases A <;> simp [Addr.add]
end

theorem below_put4' {B : Nat} {w w' : World} {g : Nat} (h : Below B w w') (hg : B ≤ g) (k : Nat) (x0 x1 x2 x3 : Value) :
    Below B w ((((w'.setCell ⟨g, k, none⟩ x0).setCell ⟨g, k + 1, none⟩ x1).setCell ⟨g, k + 2, none⟩ x2).setCell ⟨g, k + 3, none⟩ x3) :=
  (((h.setCell (p := ⟨g, k, none⟩) hg _).setCell (p := ⟨g, k + 1, none⟩) hg _).setCell (p := ⟨g, k + 2, none⟩) hg _).setCell (p := ⟨g, k + 3, none⟩) hg _

/-! ### The library's functions -/
/-- A function that answers of a rectangle. -/
structure Prd (f : Nat) (p : Rc → Bool) : Prop where
  eg : ∀ args w, (callFunc f args).run Try.prog w = .ok (.enter f args) w
  run : ∀ r W, Calls Try.prog f #[agQ r] W fun e w' => e = .returned (.bool (p r)) ∧ Below W.heap.size W w'
theorem prd_empty : Prd 51 (fun r => !ptB r) := ⟨enters_of Try.func51 (by kernel_rfl) rfl, rect_isEmpty⟩
/-- The first index at which p holds; -1: none. -/
def IxQ (p : Rc → Bool) (L : List Rc) (x : Int) : Prop := (x = -1 ∧ ∀ r ∈ L, p r = false) ∨ ∃ (K : Nat) (r : Rc), x = (K : Int) ∧ L[K]? = some r ∧ p r = true ∧ ∀ (j : Nat) (s : Rc), j < K → L[j]? = some s → p s = false
set_option maxHeartbeats 1600000 in
theorem index_rect {f : Nat} {p : Rc → Bool} (hp : Prd f p) (L : List Rc) (A : Option Addr) (n c : Nat) (hn : n = L.length) (w : World) (ha : Rcs w A L) (hm : n ≤ 9223372036854775807) :
    Calls Try.prog 63 #[.slice A n c, .func (.func f) #[] #[]] w fun e w' => ∃ x, e = .returned (.int .i64 x) ∧ IxQ p L x ∧ Below w.heap.size w w' := by
  have HA := Lib.hid ha
  have HN := Lib.hid hn
  have eg := hp.eg
  have HP := Lib.hid hp.run
  clear ha hn hp
  go_enter Try.func63, Try.ntmps63
  go_wp2_with fail
  go_loopw [8] (fun i wr => ∃ k : Nat, k ≤ n ∧ i = .int .i64 k ∧ (∀ (j : Nat) (s : Rc), j < k → L[j]? = some s → p s = false) ∧ Below w.heap.size w wr) (fun i _ => n - (RowKit.intOf i).toNat)
  case atStart => exact ⟨0, Nat.zero_le _, rfl, fun j s h => absurd h (by omega), Below.refl _ _⟩
  case round =>
    obtain ⟨k, hk, rfl, hv, hbel⟩ := hrel
    have HB := Lib.hid hbel
    have HV := Lib.hid hv
    clear hbel hv
    rcases Nat.lt_or_ge k n with hlt | hge
    · obtain ⟨r, hr⟩ := get_lt (L := L) (k := k) (by have := HN.out; omega)
      obtain ⟨b, off, rfl, hb, e0, e1, e2, e3⟩ := rd_at (HA.out.on HB.out) hr
      have i1 : (k : Int) < (n : Int) := by omega
      have i2 : (0 : Int) ≤ (k : Int) := by omega
      have HX := Lib.hid (HP.out r wr)
      obtain ⟨q, hq⟩ : ∃ q, p r = q := ⟨_, rfl⟩
      rw [hq] at HX
      have HQ := Lib.hid hq
      have HR := Lib.hid hr
      clear hr hq
      cases q with
      | false =>
        go_wp2_with (go_at_fn f; refine HX.out.mono ?_; rintro e w' ⟨rfl, hb'⟩; have HB' := Lib.hid (HB.out.trans (hb'.mono HB.out.size)); clear hb'; refine Hid.out ?_)
        refine Lib.hid ?_
        go_wp2_with fail
        go_roundw
        case rel =>
          refine ⟨k + 1, by omega, by go_num, ?_, HB'.out⟩
          intro j s hj hs
          rcases Nat.lt_or_eq_of_le (Nat.le_of_lt_succ hj) with h | h
          · exact HV.out j s h hs
          · subst h
            have e := HR.out
            rw [hs] at e; cases e; exact HQ.out
        case measure => simp [RowKit.intOf]; omega
      | true =>
        go_wp2_with (go_at_fn f; refine HX.out.mono ?_; rintro e w' ⟨rfl, hb'⟩; have HB' := Lib.hid (HB.out.trans (hb'.mono HB.out.size)); clear hb'; refine Hid.out ?_)
        refine Lib.hid ?_
        go_wp2_with fail
        go_ret
        exact ⟨_, rfl, Or.inr ⟨k, r, rfl, HR.out, HQ.out, HV.out⟩, HB'.out⟩
    · obtain rfl : k = n := by omega
      have HI : Hid (IxQ p L (-1)) := Lib.hid (Or.inl ⟨rfl, fun r hr => by
        obtain ⟨j, hj⟩ := List.mem_iff_getElem?.mp hr
        exact HV.out j r (by rw [HN.out]; exact glt hj) hj⟩)
      go_wp2_with fail
      go_ret
      exact ⟨_, rfl, HI.out, HB.out⟩

theorem filt_take {p : Rc → Bool} {L : List Rc} {k : Nat} {r : Rc} (h : L[k]? = some r) : (L.take (k + 1)).filter (fun r => !p r) = (L.take k).filter (fun r => !p r) ++ (if p r then [] else [r]) := by
  rw [take_snoc_of h, List.filter_append]
  congr 1
  cases hp : p r <;> simp [List.filter, hp]
theorem filt_all {p : Rc → Bool} {L : List Rc} (h : ∀ r ∈ L, p r = false) : L.filter (fun r => !p r) = L := List.filter_eq_self.mpr fun r hr => by rw [h r hr]; rfl
set_option maxHeartbeats 3200000 in
theorem delete_rect {f : Nat} {p : Rc → Bool} (hp : Prd f p) (L : List Rc) (A : Option Addr) (n c B : Nat) (w : World) (hr : Row cQ 4 TQ B w (.slice A n c) L) (hB : B ≤ w.heap.size) (hl : n ≤ 1000000) :
    Calls Try.prog 49 #[.slice A n c, .func (.func f) #[] #[]] w fun e w' => ∃ m c', e = .returned (.slice A m c') ∧ Row cQ 4 TQ B w' (.slice A m c') (L.filter fun r => !p r) ∧ Below B w w' := by
  obtain ⟨A0, c0, e0, hle, hmx, hrd, -, hA⟩ := hr.one cQ_len
  obtain ⟨rfl, hn, rfl⟩ := Value.slice.inj e0
  have HIx := Lib.hid (index_rect hp L A n c hn w hrd (by omega))
  have HR := Lib.hid hr
  have HN := Lib.hid hn
  have hnc : n ≤ c := by omega
  have HM := Lib.hid hmx
  have eg := hp.eg
  have HP := Lib.hid hp.run
  have HAA := Lib.hid hA
  clear hp hr e0 hrd hle hmx hn hA
  go_enter Try.func49, Try.ntmps49
  go_wp2_with fail
  refine HIx.out.mono ?_
  rintro e w1 ⟨x, rfl, hix, hb1⟩
  have B1 : Hid (Below B w w1) := Lib.hid (hb1.mono hB)
  have R1 := Lib.hid (HR.out.on hb1)
  have S1 := Lib.hid hb1.size
  clear hb1
  rcases hix with ⟨rfl, hall⟩ | ⟨K, r, rfl, hK, hpK, hbef⟩
  · have HF := Lib.hid (filt_all hall)
    clear hall
    go_wp2_with fail
    go_ret
    exact ⟨n, c, rfl, by rw [HF.out]; exact R1.out, B1.out⟩
  · have hKn : K < n := by rw [HN.out]; exact glt hK
    obtain ⟨g, rfl, hgB, hgw⟩ : ∃ g, A = some ⟨g, 0, none⟩ ∧ B ≤ g ∧ g < w.heap.size := by
      rcases HAA.out with rfl | h
      · obtain ⟨b, off, e, -⟩ := (R1.out.one cQ_len).choose_spec.choose_spec.2.2.2.1 K r hK
        exact absurd ((Value.slice.inj ((R1.out.one cQ_len).choose_spec.choose_spec.1)).1.symm ▸ e) (by simp)
      · exact h
    have hne : ((K : Int) == -1) = false := beq_false_of_ne (by omega)
    have wK : IntKind.i64.wrap ((K : Int) + 1) = (K : Int) + 1 := wrap_id (by omega)
    have HF0 : Hid (L.take K = (L.take (K + 1)).filter fun r => !p r) := Lib.hid (by
      rw [filt_take hK, hpK, if_pos rfl, List.append_nil, filt_all]
      intro s hs
      obtain ⟨j, hj⟩ := List.mem_iff_getElem?.mp hs
      rw [List.getElem?_take] at hj
      split at hj
      · rename_i hjk
        exact hbef j s hjk hj
      · cases hj)
    have HG := Lib.hid hgB
    have HGW := Lib.hid hgw
    clear hK hpK hbef hgB hgw HAA
    go_wp2_with fail
    go_loopw [5, 6] (fun u v wr => ∃ (j a : Nat) (X : List Rc), j ≤ n ∧ a < j ∧ v = .int .i64 j ∧ u = .int .i64 a ∧ X.length = n ∧ X.take a = ((L.take j).filter fun r => !p r) ∧ (∀ k, j ≤ k → X[k]? = L[k]?) ∧ Row cQ 4 TQ B wr (.slice (some ⟨g, 0, none⟩) n c) X ∧ Below B w wr ∧ w.heap.size ≤ wr.heap.size) (fun _ v _ => n - (RowKit.intOf v).toNat)
    case atStart => exact ⟨K + 1, K, L, by omega, by omega, by go_num, rfl, HN.out.symm, HF0.out, fun _ _ => rfl, R1.out, B1.out, S1.out⟩
    case round =>
      obtain ⟨j, a, X, hj, haj, rfl, rfl, hXl, hXt, hXd, hrow, hbel, hsz⟩ := hrel
      have HR := Lib.hid hrow
      have HB := Lib.hid hbel
      have HS := Lib.hid hsz
      have HXl := Lib.hid hXl
      have HXt := Lib.hid hXt
      have HXd := Lib.hid hXd
      clear hrow hbel hsz hXl hXt hXd
      rcases Nat.lt_or_ge j n with hlt | hge
      · obtain ⟨s, hs⟩ := get_lt (L := L) (k := j) (by have := HN.out; omega)
        have hXs : X[j]? = some s := (HXd.out j (Nat.le_refl _)).trans hs
        have x0 := Row.cell cQ_len HR.out hXs (j := 0) (u := .int .i64 s.1) rfl
        have x1 := Row.cell cQ_len HR.out hXs (j := 1) (u := .int .i64 s.2.1) rfl
        have x2 := Row.cell cQ_len HR.out hXs (j := 2) (u := .int .i64 s.2.2.1) rfl
        have x3 := Row.cell cQ_len HR.out hXs (j := 3) (u := .int .i64 s.2.2.2) rfl
        rw [Nat.add_zero] at x0
        have i1 : (j : Int) < (n : Int) := by omega
        have i2 : (0 : Int) ≤ (j : Int) := by omega
        have i3 : (a : Int) < (n : Int) := by omega
        have i4 : (0 : Int) ≤ (a : Int) := by omega
        have wj : IntKind.i64.wrap ((j : Int) + 1) = (j : Int) + 1 := wrap_id (by omega)
        have wa : IntKind.i64.wrap ((a : Int) + 1) = (a : Int) + 1 := wrap_id (by omega)
        have hgr : g < wr.heap.size := Nat.lt_of_lt_of_le HGW.out HS.out
        have HX := Lib.hid fun W => HP.out s W
        have HFt1 : Hid (p s = true → (L.take (j + 1)).filter (fun r => !p r) = (L.take j).filter (fun r => !p r)) := Lib.hid fun h => by rw [filt_take hs, if_pos h, List.append_nil]
        have HFt0 : Hid (p s = false → (L.take (j + 1)).filter (fun r => !p r) = (L.take j).filter (fun r => !p r) ++ [s]) := Lib.hid fun h => by rw [filt_take hs, if_neg (by rw [h]; decide)]
        obtain ⟨q, hq⟩ : ∃ q, p s = q := ⟨_, rfl⟩
        rw [hq] at HX
        have HQ := Lib.hid hq
        have HSs := Lib.hid hXs
        clear hs hXs hq
        obtain ⟨wq, rfl⟩ : ∃ W, W = wr := ⟨wr, rfl⟩
        go_upto_region 8 with fail
        obtain ⟨w3, hw3⟩ : ∃ W, wq.alloc (.cells #[.int .i64 s.1, .int .i64 s.2.1, .int .i64 s.2.2.1, .int .i64 s.2.2.2] 23) = W := ⟨_, rfl⟩
        have E3 : Hid (Cel w3 wq.heap.size (cQ s)) := hw3 ▸ Cel.new wq (cQ s) _
        have hb3 : Below wq.heap.size wq w3 := hw3 ▸ below_alloc _ _
        rw [hw3]
        clear hw3 x0 x1 x2 x3
        obtain ⟨h, hh⟩ : ∃ h, wq.heap.size = h := ⟨_, rfl⟩
        rw [hh] at E3 ⊢
        obtain ⟨x0, x1, x2, x3⟩ := cel4 E3.out
        cases q with
        | true =>
          go_wp2_with (go_at_fn f; refine (HX.out w3).mono ?_; rintro e w4 ⟨rfl, hb4⟩; have hb5 := bstep hb3 hb4; have B4 := Lib.hid (HB.out.trans (hb5.mono (Nat.le_trans hB HS.out))); have R4 := Lib.hid (HR.out.on hb5); have S4 := Lib.hid (Nat.le_trans HS.out hb5.size); clear hb3 hb4 hb5 hh; refine Hid.out ?_)
          refine Lib.hid ?_
          go_wp2_with fail
          go_roundw
          case rel => exact ⟨j + 1, a, X, by omega, by omega, by go_num, rfl, HXl.out, by rw [HFt1.out HQ.out]; exact HXt.out, fun k hk => HXd.out k (by omega), R4.out, B4.out, S4.out⟩
          case measure => simp [RowKit.intOf]; omega
        | false =>
          go_wp2_with (go_at_fn f; refine (HX.out w3).mono ?_; rintro e w4 ⟨rfl, hb4⟩; have hb5 := bstep hb3 hb4; have B4 := Lib.hid (HB.out.trans (hb5.mono (Nat.le_trans hB HS.out))); have R4 := Lib.hid (HR.out.on hb5); have S4 := Lib.hid (Nat.le_trans HS.out hb5.size); have E4 := Lib.hid (E3.out.on hb4); clear hb3 hb4 hb5 hh x0 x1 x2 x3; refine Hid.out ?_)
          obtain ⟨x0, x1, x2, x3⟩ := cel4 E4.out
          obtain ⟨z, hz⟩ := get_lt (L := X) (k := a) (by have := HXl.out; omega)
          have y0 := Row.cell cQ_len R4.out hz (j := 0) (u := .int .i64 z.1) rfl
          have y1 := Row.cell cQ_len R4.out hz (j := 1) (u := .int .i64 z.2.1) rfl
          have y2 := Row.cell cQ_len R4.out hz (j := 2) (u := .int .i64 z.2.2.1) rfl
          have y3 := Row.cell cQ_len R4.out hz (j := 3) (u := .int .i64 z.2.2.2) rfl
          rw [Nat.add_zero] at y0
          have v0 := R4.out.warm HXl.out.symm (a * 4)
          have v1 := R4.out.warm HXl.out.symm (a * 4 + 1)
          have v2 := R4.out.warm HXl.out.symm (a * 4 + 2)
          have v3 := R4.out.warm HXl.out.symm (a * 4 + 3)
          clear hz
          refine Lib.hid ?_
          go_wp2_with fail
          go_roundw
          case rel =>
            refine ⟨j + 1, a + 1, X.set a s, by omega, by omega, by go_num, by go_num, by rw [List.length_set]; exact HXl.out, ?_, ?_, row_putQ R4.out HXl.out.symm a s (by have := HXl.out; omega), below_put4' B4.out HG.out _ _ _ _ _, by simpa using S4.out⟩
            · rw [HFt0.out HQ.out, ← HXt.out]
              rw [take_snoc_of (z := s) (by rw [List.getElem?_set_self (by have := HXl.out; omega)])]
              congr 1
              apply List.ext_getElem?
              intro k
              rw [List.getElem?_take, List.getElem?_take]
              split
              · rw [List.getElem?_set_ne (by omega)]
              · rfl
            · intro k hk
              rw [List.getElem?_set_ne (by omega)]
              exact HXd.out k (by omega)
          case measure => simp [RowKit.intOf]; omega
      · obtain rfl : j = n := by omega
        have HF : Hid (X.take a = L.filter fun r => !p r) := Lib.hid (by rw [HXt.out, HN.out, List.take_length])
        have hs1 : ∀ W, (Instr.slice 32 (.slice (some ⟨g, 0, none⟩) j c) (some (.int .i64 (a : Int))) none none).run Try.prog W = .ok (.slice (some ⟨g, a * 4, none⟩) (j - a) (c - a)) W := fun W => slice_loQ g j c a (by omega) (by omega) W
        have hs2 : ∀ W, (Instr.slice 32 (.slice (some ⟨g, 0, none⟩) j c) none (some (.int .i64 (a : Int))) none).run Try.prog W = .ok (.slice (some ⟨g, 0, none⟩) a c) W := fun W => slice_hiQ _ j c a (by omega) W
        obtain ⟨m, hm⟩ : ∃ m, m = j - a := ⟨_, rfl⟩
        obtain ⟨d, hd⟩ : ∃ d, d = c - a := ⟨_, rfl⟩
        rw [← hm, ← hd] at hs1
        have hma : a + m = j := by omega
        have hm0 : 0 < m := by omega
        have HMA := Lib.hid hma
        have HM0 := Lib.hid hm0
        clear hm hd hma hm0
        go_upto_region 11 with fail
        go_wp2_with (refine clear_rows rfl (.tmp 38) rfl a m d HR.out HXl.out.symm HMA.out HM0.out rfl ?_; intro w5 hr5 ho5; have R5 := Lib.hid hr5; have O5 := Lib.hid ho5; clear hr5 ho5; refine Hid.out ?_)
        have B5 : Hid (Below B w w5) := Lib.hid (HB.out.trans (O5.out.below (Nat.le_trans hB HS.out) fun x e => by rw [e]; exact HG.out))
        refine Lib.hid ?_
        go_wp2_with fail
        go_ret
        exact ⟨a, c, rfl, by rw [← HF.out]; exact R5.out, B5.out⟩
#print axioms index_rect
#print axioms delete_rect
end Go.Proofs.Ytccbnobpighckaa.Rect
