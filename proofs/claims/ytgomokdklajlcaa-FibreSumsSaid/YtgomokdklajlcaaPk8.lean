/- Several texts in one: ShareD, ShareE, FibreA, IdentB, FibreB. -/
import Derived.Test.YtgomokdklajlcaaPk5
import Derived.Test.YtgomokdklajlcaaPk7
import Derived.Test.YtgomokdklajlcaaPk3
import Derived.Deep.Cut
import Derived.Deep.CutRange
import Derived.Test.YtgomokdklajlcaaPk1
/- The comparison of remainders; share.largestFirst. -/
namespace Go.Proofs.Ytgomokdklajlcaa.Share
open Go.ChangeShapes Go.WideShapes Go.RowKit Go.Lib Go.Proofs.Ytgomokdklajlcaa.Mem Go.Proofs.Ytgomokdklajlcaa.Stable
set_option linter.unusedVariables false
set_option maxRecDepth 100000

theorem own_more {α : Type} {enc : α → Value} {t : TypeId} {B B' g n cap : Nat} {w : World} {L : List α} (h : Own enc t B w (.slice (some ⟨g, 0, none⟩) n cap) L) (hB : B' ≤ g) : Own enc t B' w (.slice (some ⟨g, 0, none⟩) n cap) L := by
  obtain ⟨h1, ⟨e, h0⟩ | ⟨g', cap', cur, e, h2, h3⟩⟩ := h
  · cases e
  · cases e
    exact ⟨h1, Or.inr ⟨g, cap, cur, rfl, hB, h3⟩⟩
/-- The remainder at k against that at i. -/
def cfR (r : Nat → Nat) (i k : Nat) : Int := Lib.compareInt (r k : Int) (r i : Int)
theorem cfR_neg (r : Nat → Nat) {i k : Nat} (h : k < i) : decide (cfR r i k < 0) = bt r i k := by
  unfold cfR Lib.compareInt
  rw [Bool.eq_iff_iff, bt_iff, decide_eq_true_iff]
  by_cases h1 : (r k : Int) < (r i : Int)
  · rw [if_pos h1]; simp; omega
  · rw [if_neg h1]
    split
    · simp; omega
    · simp; omega
theorem bt_sto (r : Nat → Nat) : Sto (bt r) := ⟨bt_irr r, fun i j k h1 h2 => bt_trans h1 h2, fun i j h => bt_total h⟩

set_option maxHeartbeats 800000 in
theorem cmp_run (n c gb : Nat) (A : Option Addr) (r : Nat → Nat) (W : World) (c1 : W.cell? ⟨gb, 0, none⟩ = some (.slice A n c)) (c2 : Cl eI W A (lst (fun i => (r i : Int)) n)) (x y : Nat) (hx : x < n) (hy : y < n) :
    Calls Try.prog 72 #[.int .i64 (x : Int), .int .i64 (y : Int), .pointer (some ⟨gb, 0, none⟩)] W fun e w' => e = .returned (.int .i64 (cfR r x y)) ∧ Below W.heap.size W w' := by
  obtain ⟨b, off, rfl, hb, k1⟩ := c2 x _ (lst_at _ hx)
  obtain ⟨b', off', e, hb', k2⟩ := c2 y _ (lst_at _ hy)
  cases e
  obtain ⟨p, hp⟩ : ∃ p : Int, p = (r x : Int) := ⟨_, rfl⟩
  obtain ⟨q, hq⟩ : ∃ q : Int, q = (r y : Int) := ⟨_, rfl⟩
  have HRES : Hid (cfR r x y = Lib.compareInt q p) := (by rw [hp, hq]; rfl : cfR r x y = Lib.compareInt q p)
  have f1 : W.cell? ⟨b, off + x, none⟩ = some (.int .i64 p) := by rw [k1, hp]
  have f2 : W.cell? ⟨b, off + y, none⟩ = some (.int .i64 q) := by rw [k2, hq]
  have i1 : (x : Int) < (n : Int) := by omega
  have i2 : (0 : Int) ≤ (x : Int) := by omega
  have i3 : (y : Int) < (n : Int) := by omega
  have i4 : (0 : Int) ≤ (y : Int) := by omega
  have hcon := fun W => Try.cmp_Compare_int q p W
  obtain ⟨z, hz⟩ : ∃ z, z = Lib.compareInt q p := ⟨_, rfl⟩
  rw [← hz] at hcon HRES
  have HCON := Lib.hid hcon
  clear hcon hz hp hq c2 k1 k2 hb'
  go_enter Try.func72, Try.ntmps72
  go_wp2_with fail
  go_quiet ((go_at_call 73; refine Calls.quiet_of_same (HCON.out _)))
  go_wp2_with fail
  go_ret
  exact ⟨ret_int HRES.out.symm, below_drewN (Below.refl _ _) _⟩

theorem cl_keep {w W : World} {A : Option Addr} {L : List Int} (h : Cl eI w A L) (hs : w.heap.size ≤ W.heap.size) (hk : ∀ b, b < w.heap.size → W.heap[b]? = w.heap[b]?) : Cl eI W A L := by
  intro k z hz
  obtain ⟨b, off, e, hlt, h0⟩ := h k z hz
  exact ⟨b, off, e, Nat.lt_of_lt_of_le hlt hs, (World.cell?_of_block (a := ⟨b, off + k, none⟩) (hk b hlt)).trans h0⟩
theorem cm_run (r : Nat → Nat) (n c gb g : Nat) (A : Option Addr) (w w0 : World) (hR : Cl eI w A (lst (fun i => (r i : Int)) n)) (hb : Below w.heap.size w w0) (hc : w0.cell? ⟨gb, 0, none⟩ = some (.slice A n c)) (hgb : gb < w0.heap.size) (hne : gb ≠ g) (hg : w.heap.size ≤ g) :
    Cm (fun k => (k : Int)) (bt r) n g w0 72 #[.pointer (some ⟨gb, 0, none⟩)] (cfR r) := by
  refine ⟨enters_of Try.func72 (by kernel_rfl) rfl, fun i j hij _ => cfR_neg r hij, fun i j W hij hi ho => ?_⟩
  have c1 : W.cell? ⟨gb, 0, none⟩ = some (.slice A n c) := (World.cell?_of_block (a := ⟨gb, 0, none⟩) (ho.block gb hgb hne)).trans hc
  have c2 : Cl eI W A (lst (fun i => (r i : Int)) n) := cl_keep hR (Nat.le_trans hb.size ho.size) fun b hlt => (ho.block b (Nat.lt_of_lt_of_le hlt hb.size) (by omega)).trans (hb.block b hlt)
  exact cmp_run n c gb A r W c1 c2 i j hi (by omega)

/-- What largestFirst returns: at place k the index of rank k. -/
def LaR (r : Nat → Nat) (n : Nat) (w : World) : Ending → World → Prop := fun e w' => ∃ (g : Nat) (s : Nat → Nat), e = .returned (.slice (some ⟨g, 0, none⟩) n n) ∧ w.heap.size ≤ g ∧ Own eI 3 w.heap.size w' (.slice (some ⟨g, 0, none⟩) n n) (lst (fun k => (s k : Int)) n) ∧ (∀ k, k < n → s k < n ∧ rank r n (s k) = k) ∧ Below w.heap.size w w'

set_option maxHeartbeats 1600000 in
theorem largest_first (r : Nat → Nat) (n c : Nat) (A : Option Addr) (w : World) (hn : n ≤ 512) (hR : Cl eI w A (lst (fun i => (r i : Int)) n)) :
    Calls Try.prog 55 #[.slice A n c] w (LaR r n w) := by
  have HR := Lib.hid hR
  have HN := Lib.hid hn
  have hmk := fun W => make_ints n (by omega) W
  clear hR
  go_enter Try.func55, Try.ntmps55
  go_upto_region 2 with fail
  obtain ⟨w1, hw1⟩ : ∃ W, w.alloc (.cells #[.slice A n c] 27) = W := ⟨_, rfl⟩
  have HB1 : Hid (Below w.heap.size w w1) := hw1 ▸ below_alloc _ _
  have hs1 : w1.heap.size = w.heap.size + 1 := by rw [← hw1]; simp
  have HC1 : Hid (w1.cell? ⟨w.heap.size, 0, none⟩ = some (.slice A n c)) := hw1 ▸ (by simp : (w.alloc (.cells #[.slice A n c] 27)).cell? ⟨w.heap.size, 0, none⟩ = some (.slice A n c))
  obtain ⟨w2, hw2⟩ : ∃ W, w1.alloc (.cells (madeCells #[.int .i64 0] n) 3) = W := ⟨_, rfl⟩
  have HOW2 : Hid (Own eI 3 w.heap.size w2 (.slice (some ⟨w.heap.size + 1, 0, none⟩) n n) (lst (fun _ => 0) n)) := by
    have h1 := (own_made eI 3 w1 n 0 (by omega)).less (B' := w.heap.size) (by omega)
    rw [hs1, hw2] at h1
    have e : List.replicate n (0 : Int) = lst (fun _ => 0) n := by unfold lst; rw [List.map_const', List.length_range]
    rw [e] at h1; exact h1
  have HBA := Lib.hid (hw2 ▸ below_alloc w1 (.cells (madeCells #[.int .i64 0] n) 3) : Below w1.heap.size w1 w2)
  have HB2 : Hid (Below w.heap.size w w2) := bstep HB1.out HBA.out
  have HC2 : Hid (w2.cell? ⟨w.heap.size, 0, none⟩ = some (.slice A n c)) := (HBA.out.cell (p := ⟨w.heap.size, 0, none⟩) (by show w.heap.size < _; omega)).trans HC1.out
  have HS2 : Hid (w.heap.size + 1 < w2.heap.size) := (HOW2.out.lt _ rfl).2
  have HCL2 : Hid (Cl eI w2 A (lst (fun i => (r i : Int)) n)) := HR.out.on HB2.out
  obtain ⟨g, hg⟩ : ∃ g, g = w.heap.size + 1 := ⟨_, rfl⟩
  obtain ⟨gb, hgb⟩ : ∃ g, g = w.heap.size := ⟨_, rfl⟩
  rw [hw1, hw2]
  rw [← hg] at HOW2 HS2 ⊢
  rw [← hgb]
  have HG := Lib.hid (show g = w.heap.size + 1 ∧ gb = w.heap.size from ⟨hg, hgb⟩)
  have HC3 : Hid (w2.cell? ⟨gb, 0, none⟩ = some (.slice A n c)) := hgb ▸ HC2.out
  clear hw1 hw2 hg hgb hs1 hmk HC1 HC2 HB1 HBA hn
  go_wp2_with fail
  go_loopw [4, 10] (fun _ x wr => ∃ k : Nat, x = .int .i64 (k : Int) ∧ k ≤ n ∧ Own eI 3 w.heap.size wr (.slice (some ⟨g, 0, none⟩) n n) (lst (fun j => if j < k then (j : Int) else 0) n) ∧ Below g w2 wr) (fun _ x _ => n - (RowKit.intOf x).toNat)
  case atStart => exact ⟨0, rfl, Nat.zero_le _, by simpa using HOW2.out, Below.refl _ _⟩
  case round =>
    obtain ⟨k, rfl, hk, hown, hbel⟩ := hrel
    have HO := Lib.hid hown
    have HB := Lib.hid hbel
    clear hown hbel
    have hN := HN.out
    rcases Nat.lt_or_ge k n with hlt | hge
    · have fk := HO.out.warm (lst_len _ n).symm k
      have ck := HO.out.cell (lst_at _ hlt)
      rw [if_neg (Nat.lt_irrefl k)] at ck
      have i1 : (k : Int) < (n : Int) := by omega
      have i2 : (0 : Int) ≤ (k : Int) := by omega
      have hk1 : IntKind.i64.wrap ((k : Int) + 1) = ((k + 1 : Nat) : Int) := wrap_id (by omega)
      have HE : Hid (Own eI 3 w.heap.size (wr.setCell ⟨g, k, none⟩ (.int .i64 (k : Int))) (.slice (some ⟨g, 0, none⟩) n n) (lst (fun j => if j < k + 1 then (j : Int) else 0) n)) := by
        have h1 := HO.out.set (lst_len _ n).symm k (k : Int)
        rw [lst_set (g := fun j => if j < k + 1 then (j : Int) else 0) hlt (fun i hi => by
          by_cases h : i = k
          · subst h; simp
          · rw [if_neg h]
            by_cases h2 : i < k
            · rw [if_pos (by omega), if_pos h2]
            · rw [if_neg (by omega), if_neg h2])] at h1
        exact h1
      have HBE : Hid (Below g w2 (wr.setCell ⟨g, k, none⟩ (.int .i64 (k : Int)))) := below_set HB.out (p := ⟨g, k, none⟩) (Nat.le_refl _) _
      clear hN hlt
      go_wp2_with fail
      go_roundw
      case rel => exact ⟨k + 1, rfl, by omega, HE.out, HBE.out⟩
      case measure => simp [RowKit.intOf]; omega
    · obtain rfl : n = k := by omega
      have HBW : Hid (Below w.heap.size w wr) := HB2.out.trans (HB.out.mono (by have := HG.out; omega))
      have HC4 : Hid (wr.cell? ⟨gb, 0, none⟩ = some (.slice A n c)) := (HB.out.cell (p := ⟨gb, 0, none⟩) (by show gb < g; have := HG.out; omega)).trans HC3.out
      have HO2 : Hid (Own eI 3 w.heap.size wr (.slice (some ⟨g, 0, none⟩) n n) (lst (fun j => (j : Int)) n)) := by
        have := HO.out
        rw [lst_congr (g := fun j => (j : Int)) fun i hi => if_pos hi] at this
        exact this
      have HST : Hid (St (fun k => (k : Int)) g n n wr wr (fun k => k)) := ⟨HO2.out.less (Nat.zero_le _), Off.refl _ _, fun k hk => hk⟩
      have HSZ : Hid (g < wr.heap.size) := (HO.out.lt g rfl).2
      have HCM := Lib.hid (cm_run r n c gb g A w wr HR.out HBW.out HC4.out (by have := HG.out; have := HSZ.out; omega) (by have := HG.out; omega) (by have := HG.out; omega))
      have HSRT := Lib.hid (sort_stable (bt_sto r) HCM.out HST.out (by omega) (fun k => rfl))
      clear hN hk hge
      go_wp2_with fail
      refine HSRT.out.mono ?_
      rintro e w3 ⟨rfl, s, hst, hsrt, hbd⟩
      have HD : Hid (Own eI 3 w.heap.size w3 (.slice (some ⟨g, 0, none⟩) n n) (lst (fun k => (s k : Int)) n)) := own_more hst.own (by have := HG.out; omega)
      have HRK : Hid (∀ k, k < n → s k < n ∧ rank r n (s k) = k) := fun k hk => ⟨hbd k hk, rank_sorted hbd (fun j k h1 h2 => hsrt j k (Nat.zero_le _) h1 h2) k hk⟩
      have HBZ : Hid (Below w.heap.size w w3) := HBW.out.trans (Off.below hst.off HBW.out.size fun x hx => by have := HG.out; omega)
      clear hst hsrt hbd
      go_wp2_with fail
      go_ret
      exact ⟨g, s, rfl, by have := HG.out; omega, HD.out, HRK.out, HBZ.out⟩
end Go.Proofs.Ytgomokdklajlcaa.Share
/- share.Split. -/
namespace Go.Proofs.Ytgomokdklajlcaa.Share
open Go.ChangeShapes Go.WideShapes Go.RowKit Go.Lib Go.Proofs.Ytgomokdklajlcaa.Mem
set_option linter.unusedVariables false
set_option maxRecDepth 100000

/-- A list of the call's own, and an error. -/
def ResL (L : List Int) (E : Nat) (w : World) : Ending → World → Prop := fun e w' => ∃ v, e = .returned (.tuple #[v, .int .i64 (E : Int)]) ∧ Own eI 3 w.heap.size w' v L ∧ Below w.heap.size w w'
def splL (t : Int) (ws : List Int) : List Int := if errS t ws = 0 then partsL t ws else []
def bouL (t : Int) (ws : List Int) : List Int := if errS t ws = 0 then bndsL t ws else []
theorem tup2 {a b : Value} {x y : Int} (h : a = b) (k : x = y) : Ending.returned (.tuple #[a, .int .i64 x]) = .returned (.tuple #[b, .int .i64 y]) := by rw [h, k]

/-! ### What the products are divided by -/
section
variable {t : Int} {ws : List Int}
theorem dvV_ok (h : errS t ws = 0) : ∃ W : Nat, dvV t ws = (W : Int) ∧ 0 < W ∧ W ≤ 1125899906842624 ∧ (∀ i, i < ws.length → wf ws i ≤ W) ∧ (∀ i, i < ws.length → sm (wf ws) (i + 1) ≤ W) ∧
    (∀ i, i < ws.length → t.toNat * wf ws i / W = quo t.toNat (wf ws) ws.length i ∧ t.toNat * wf ws i % W = rst t.toNat (wf ws) ws.length i) ∧ (∀ i, i < ws.length → t.toNat * sm (wf ws) (i + 1) / W = bnd t.toNat (wf ws) ws.length i) := by
  have ok := Ok.of h
  have hT := ok.twI
  have hs := ok.sum
  have hmx : mx = 1125899906842624 := rfl
  unfold dvV
  rw [if_pos h]
  rcases Nat.eq_zero_or_pos (Share.tw (wf ws) ws.length) with hz | hz
  · have ht := ok.zero hz
    have hw : ∀ i, i < ws.length → wf ws i = 0 := fun i hi => by have := ok.w_le hi; omega
    have hm : ∀ i, i < ws.length → sm (wf ws) (i + 1) = 0 := fun i hi => by
      have : sm (wf ws) (i + 1) ≤ Share.tw (wf ws) ws.length := sm_mono (by omega)
      omega
    refine ⟨1, by rw [if_pos (by omega)]; rfl, by omega, by omega, fun i hi => by rw [hw i hi]; omega, fun i hi => by rw [hm i hi]; omega, fun i hi => ?_, fun i hi => ?_⟩
    · unfold quo rst
      rw [hw i hi]; simp
    · unfold bnd
      rw [if_pos hz, hm i hi]; simp
  · refine ⟨Share.tw (wf ws) ws.length, by rw [if_neg (by omega)]; exact hT.symm, hz, by omega, fun i hi => ok.w_le hi, fun i hi => sm_mono (by omega), fun i hi => ⟨rfl, rfl⟩, fun i hi => ?_⟩
    unfold bnd
    rw [if_neg (by omega)]
theorem Ok.gots (h : Ok t ws) {i : Nat} (hi : i < ws.length) : gots (quo t.toNat (wf ws) ws.length) (rst t.toNat (wf ws) ws.length) ws.length (lft t.toNat (wf ws) ws.length) i = part t.toNat (wf ws) ws.length i := by
  rcases Nat.eq_zero_or_pos (Share.tw (wf ws) ws.length) with hz | hz
  · have ht := h.zero hz
    unfold Share.gots part lft quo
    rw [if_pos hz, ht]
    simp
  · exact gots_part hz i
theorem Ok.lft_le (h : Ok t ws) : lft t.toNat (wf ws) ws.length ≤ ws.length := by
  rcases Nat.eq_zero_or_pos (Share.tw (wf ws) ws.length) with hz | hz
  · have ht := h.zero hz
    unfold lft
    rw [ht]; simp
  · exact Nat.le_of_lt (lft_lt hz)
theorem Ok.quo_sum (h : Ok t ws) {k : Nat} (hk : k ≤ ws.length) : sm (quo t.toNat (wf ws) ws.length) k ≤ t.toNat := by
  have h1 : sm (quo t.toNat (wf ws) ws.length) k ≤ sm (quo t.toNat (wf ws) ws.length) ws.length := sm_mono hk
  rcases Nat.eq_zero_or_pos (Share.tw (wf ws) ws.length) with hz | hz
  · have ht := h.zero hz
    have : sm (quo t.toNat (wf ws) ws.length) ws.length = 0 := by
      rw [sm_congr (g := fun _ => 0) fun i _ => by unfold quo; rw [hz]; simp, sm_const]; omega
    omega
  · exact Nat.le_trans h1 (sum_le hz)
end
end Go.Proofs.Ytgomokdklajlcaa.Share
/- Kinds of fibre, recipes, masses: errors and values (pure). -/
namespace Go.Proofs.Ytgomokdklajlcaa.Fibre
open Go.Proofs.Ytgomokdklajlcaa.Share (sumK sumK_succ sumK_zero partsL partsL_len partsL_at wf wf_at sm part quo rst lft rank quo_rst rst_lt part_near)
open Go.Proofs.Ytgomokdklajlcaa.Ident (validB)
set_option linter.unusedVariables false

abbrev MM : Int := 1099511627776
/-! ### Lists -/
def sumZ (l : List Int) : Int := sumK l l.length
def inM (most z : Int) : Bool := decide (0 ≤ z) && decide (z ≤ most)
theorem inM_iff {most z : Int} : inM most z = true ↔ 0 ≤ z ∧ z ≤ most := by unfold inM; simp only [Bool.and_eq_true, decide_eq_true_iff]
/-- The error of a list for a number of kinds. -/
def kiB (l : List Int) (kinds : Int) : Bool := decide (1 ≤ kinds) && (decide (kinds ≤ 8) && decide ((l.length : Int) = kinds))
theorem kiB_iff {l : List Int} {kinds : Int} : kiB l kinds = true ↔ 1 ≤ kinds ∧ kinds ≤ 8 ∧ (l.length : Int) = kinds := by unfold kiB; simp only [Bool.and_eq_true, decide_eq_true_iff]
def lisE (l : List Int) (kinds most : Int) : Int := if kiB l kinds then (if l.all (inM most) then 0 else 1) else 17
theorem lisE_no {l : List Int} {kinds most : Int} (h : kiB l kinds = false) : lisE l kinds most = 17 := by unfold lisE; rw [h]; rfl
theorem lisE_bad {l : List Int} {kinds most : Int} (h : kiB l kinds = true) {k : Nat} {z : Int} (hz : l[k]? = some z) (hb : inM most z = false) : lisE l kinds most = 1 := by
  unfold lisE
  have : ¬ l.all (inM most) = true := fun ha => by
    have := List.all_eq_true.mp ha z (List.mem_of_getElem? hz)
    rw [hb] at this; cases this
  rw [h, if_pos rfl, if_neg this]
theorem lisE_ok {l : List Int} {kinds most : Int} (h : kiB l kinds = true) (ha : ∀ (k : Nat) (z : Int), l[k]? = some z → inM most z = true) : lisE l kinds most = 0 := by
  unfold lisE
  rw [h, if_pos rfl, if_pos (List.all_eq_true.mpr fun z hz => by
    obtain ⟨k, hk⟩ := List.mem_iff_getElem?.mp hz
    exact ha k z hk)]
theorem lisE_of {l : List Int} {kinds most : Int} (h : lisE l kinds most = 0) : 1 ≤ l.length ∧ l.length ≤ 8 ∧ (l.length : Int) = kinds ∧ ∀ z ∈ l, 0 ≤ z ∧ z ≤ most := by
  unfold lisE at h
  cases hk : kiB l kinds with
  | false => rw [hk] at h; cases h
  | true =>
    rw [hk, if_pos rfl] at h
    have h1 := kiB_iff.mp hk
    by_cases h2 : l.all (inM most) = true
    · exact ⟨by omega, by omega, h1.2.2, fun z hz => inM_iff.mp (List.all_eq_true.mp h2 z hz)⟩
    · rw [if_neg h2] at h; cases h
theorem lisE_mk {l : List Int} {kinds most : Int} (h0 : 1 ≤ kinds) (h1 : kinds ≤ 8) (h2 : (l.length : Int) = kinds) (ha : ∀ z ∈ l, 0 ≤ z ∧ z ≤ most) : lisE l kinds most = 0 :=
  lisE_ok (kiB_iff.mpr ⟨h0, h1, h2⟩) fun k z hz => inM_iff.mpr (ha z (List.mem_of_getElem? hz))
theorem lisE_cases (l : List Int) (kinds most : Int) : lisE l kinds most = 0 ∨ lisE l kinds most = 1 ∨ lisE l kinds most = 17 := by
  unfold lisE
  split
  · split
    · exact Or.inl rfl
    · exact Or.inr (Or.inl rfl)
  · exact Or.inr (Or.inr rfl)
/-- Partial sums are bounded. -/
theorem sumK_lim {most : Int} {l : List Int} (h : ∀ z ∈ l, 0 ≤ z ∧ z ≤ most) : ∀ k, k ≤ l.length → 0 ≤ sumK l k ∧ sumK l k ≤ most * k
  | 0, _ => by rw [sumK_zero]; simp
  | k + 1, hk => by
    have ih := sumK_lim h k (by omega)
    obtain ⟨z, hz⟩ : ∃ z, l[k]? = some z := ⟨_, List.getElem?_eq_getElem (by omega)⟩
    have hz2 := h z (List.mem_of_getElem? hz)
    rw [sumK_succ hz, show ((k + 1 : Nat) : Int) = (k : Int) + 1 by omega, Int.mul_add, Int.mul_one]
    omega
theorem sumZ_lim {most : Int} {l : List Int} (h0 : 0 ≤ most) (h : ∀ z ∈ l, 0 ≤ z ∧ z ≤ most) (hl : l.length ≤ 8) : 0 ≤ sumZ l ∧ sumZ l ≤ most * 8 := by
  have := sumK_lim h l.length (Nat.le_refl _)
  refine ⟨this.1, Int.le_trans this.2 (Int.mul_le_mul_of_nonneg_left (by omega) h0)⟩
def recE (r : List Int) (kinds : Int) : Int := if lisE r kinds 1000 = 0 then (if sumZ r = 1000 then 0 else 18) else lisE r kinds 1000
def parE (m : List Int) (kinds : Int) : Int := lisE m kinds MM
theorem recE_of {r : List Int} {kinds : Int} (h : recE r kinds = 0) : lisE r kinds 1000 = 0 ∧ sumZ r = 1000 := by
  unfold recE at h
  by_cases h1 : lisE r kinds 1000 = 0
  · rw [if_pos h1] at h
    by_cases h2 : sumZ r = 1000
    · exact ⟨h1, h2⟩
    · rw [if_neg h2] at h; cases h
  · rw [if_neg h1] at h; exact absurd h h1
def lenI (l : List Int) : Int := l.length
def masE (r : List Int) (mass : Int) : Int := if recE r (lenI r) = 0 then (if inM MM mass then 0 else 1) else recE r (lenI r)
def masL (r : List Int) (mass : Int) : List Int := if masE r mass = 0 then partsL mass r else []
def totE (m : List Int) : Int := parE m (lenI m)
def totV (m : List Int) : Int := if totE m = 0 then sumZ m else 0
theorem masE_of {r : List Int} {mass : Int} (h : masE r mass = 0) : recE r (lenI r) = 0 ∧ 0 ≤ mass ∧ mass ≤ MM := by
  unfold masE at h
  by_cases h1 : recE r (lenI r) = 0
  · rw [if_pos h1] at h
    cases h2 : inM MM mass with
    | true => exact ⟨h1, inM_iff.mp h2⟩
    | false => rw [h2] at h; cases h
  · rw [if_neg h1] at h; exact absurd h h1
/-! ### Add -/
def addZ : List Int → List Int → List Int
  | x :: a, y :: b => (x + y) :: addZ a b
  | _, _ => []
theorem addZ_len : ∀ {a b : List Int}, a.length = b.length → (addZ a b).length = a.length
  | [], [], _ => rfl
  | x :: a, y :: b, h => by
    have := addZ_len (a := a) (b := b) (by simpa using h)
    rw [addZ, List.length_cons, List.length_cons, this]
  | [], y :: b, h => by cases h
  | x :: a, [], h => by cases h
theorem addZ_at : ∀ {a b : List Int} {k : Nat} {x y : Int}, a[k]? = some x → b[k]? = some y → (addZ a b)[k]? = some (x + y)
  | [], _, _, _, _, h, _ => by simp at h
  | _ :: _, [], _, _, _, _, h => by simp at h
  | x :: a, y :: b, 0, _, _, h, k => by
    simp at h k; subst h; subst k; rfl
  | x :: a, y :: b, n + 1, _, _, h, k => by
    rw [List.getElem?_cons_succ] at h k
    rw [addZ, List.getElem?_cons_succ]
    exact addZ_at h k
theorem addZ_comm : ∀ (a b : List Int), addZ a b = addZ b a
  | [], [] => rfl
  | [], y :: b => rfl
  | x :: a, [] => rfl
  | x :: a, y :: b => by rw [addZ, addZ, addZ_comm a b, Int.add_comm]
def addE (a b : List Int) : Int :=
  if a.length = b.length then (if totE a = 0 then (if totE b = 0 then (if (addZ a b).all (fun z => decide (z ≤ MM)) then 0 else 2) else totE b) else totE a) else 17
def addL (a b : List Int) : List Int := if addE a b = 0 then addZ a b else []
theorem addE_of {a b : List Int} (h : addE a b = 0) : a.length = b.length ∧ totE a = 0 ∧ totE b = 0 ∧ ∀ z ∈ addZ a b, z ≤ MM := by
  unfold addE at h
  by_cases h1 : a.length = b.length
  · rw [if_pos h1] at h
    by_cases h2 : totE a = 0
    · rw [if_pos h2] at h
      by_cases h3 : totE b = 0
      · rw [if_pos h3] at h
        by_cases h4 : (addZ a b).all (fun z => decide (z ≤ MM)) = true
        · exact ⟨h1, h2, h3, fun z hz => of_decide_eq_true (List.all_eq_true.mp h4 z hz)⟩
        · rw [if_neg h4] at h; cases h
      · rw [if_neg h3] at h; exact absurd h h3
    · rw [if_neg h2] at h; exact absurd h h2
  · rw [if_neg h1] at h; cases h
/-! ### Kinds -/
abbrev Fb := ByteArray × Int
def elE (f : Fb) : Int := if validB f.1 then (if inM 1000000000 f.2 then 0 else 1) else 5
def firE : List Fb → Int
  | [] => 0
  | f :: l => if elE f = 0 then firE l else elE f
/-- Two kinds have one name: the later one finds an earlier one. -/
def twB : List Fb → Bool
  | [] => false
  | f :: l => l.any (fun g => decide (g.1 = f.1)) || twB l
theorem twB_iff : ∀ {l : List Fb}, twB l = true ↔ ∃ (i k : Nat) (f g : Fb), k < i ∧ l[i]? = some f ∧ l[k]? = some g ∧ f.1 = g.1
  | [] => ⟨fun h => (by cases h), fun ⟨i, k, f, g, _, h, _⟩ => (by simp at h)⟩
  | f :: l => by
    rw [twB, Bool.or_eq_true, twB_iff (l := l), List.any_eq_true]
    constructor
    · rintro (⟨g, hg, h⟩ | ⟨i, k, x, y, hk, hx, hy, h⟩)
      · obtain ⟨j, hj⟩ := List.mem_iff_getElem?.mp hg
        exact ⟨j + 1, 0, g, f, by omega, by rw [List.getElem?_cons_succ]; exact hj, rfl, of_decide_eq_true h⟩
      · exact ⟨i + 1, k + 1, x, y, by omega, by rw [List.getElem?_cons_succ]; exact hx, by rw [List.getElem?_cons_succ]; exact hy, h⟩
    · rintro ⟨i, k, x, y, hk, hx, hy, h⟩
      cases i with
      | zero => omega
      | succ i =>
        rw [List.getElem?_cons_succ] at hx
        cases k with
        | zero =>
          simp at hy; subst hy
          exact Or.inl ⟨x, List.mem_of_getElem? hx, decide_eq_true h⟩
        | succ k =>
          rw [List.getElem?_cons_succ] at hy
          exact Or.inr ⟨i, k, x, y, by omega, hx, hy, h⟩
theorem twB_no {l : List Fb} (h : ∀ (i k : Nat) (f g : Fb), k < i → l[i]? = some f → l[k]? = some g → ¬ f.1 = g.1) : twB l = false := by
  cases ht : twB l with
  | false => rfl
  | true =>
    obtain ⟨i, k, f, g, hk, hf, hg, e⟩ := twB_iff.mp ht
    exact absurd e (h i k f g hk hf hg)
theorem firE_bad : ∀ {l : List Fb} {k : Nat} {f : Fb}, l[k]? = some f → ¬ elE f = 0 → (∀ (j : Nat) (g : Fb), j < k → l[j]? = some g → elE g = 0) → firE l = elE f
  | [], _, _, h, _, _ => by simp at h
  | g :: l, 0, f, h, hb, _ => by simp at h; subst h; rw [firE, if_neg hb]
  | g :: l, k + 1, f, h, hb, ha => by
    rw [List.getElem?_cons_succ] at h
    rw [firE, if_pos (ha 0 g (by omega) rfl)]
    exact firE_bad h hb fun j x hj hx => ha (j + 1) x (by omega) (by rw [List.getElem?_cons_succ]; exact hx)
theorem firE_ok : ∀ {l : List Fb}, (∀ (j : Nat) (g : Fb), l[j]? = some g → elE g = 0) → firE l = 0
  | [], _ => rfl
  | g :: l, h => by
    rw [firE, if_pos (h 0 g rfl)]
    exact firE_ok fun j x hx => h (j + 1) x (by rw [List.getElem?_cons_succ]; exact hx)
theorem firE_of : ∀ {l : List Fb}, firE l = 0 → ∀ f ∈ l, elE f = 0
  | [], _, f, hf => by simp at hf
  | g :: l, h, f, hf => by
    rw [firE] at h
    by_cases hg : elE g = 0
    · rw [if_pos hg] at h
      rcases List.mem_cons.mp hf with rfl | hf
      · exact hg
      · exact firE_of h f hf
    · rw [if_neg hg] at h; exact absurd h hg
def chkE (l : List Fb) : Int := if l.length = 0 then 10 else if 8 < l.length then 8 else if firE l = 0 then (if twB l then 6 else 0) else firE l
theorem chkE_of {l : List Fb} (h : chkE l = 0) : 1 ≤ l.length ∧ l.length ≤ 8 ∧ ∀ f ∈ l, 0 ≤ f.2 ∧ f.2 ≤ 1000000000 := by
  unfold chkE at h
  by_cases h1 : l.length = 0
  · rw [if_pos h1] at h; cases h
  · rw [if_neg h1] at h
    by_cases h2 : 8 < l.length
    · rw [if_pos h2] at h; cases h
    · rw [if_neg h2] at h
      by_cases h3 : firE l = 0
      · refine ⟨by omega, by omega, fun f hf => ?_⟩
        have := firE_of h3 f hf
        unfold elE at this
        split at this
        · split at this
          · rename_i h5; exact inM_iff.mp h5
          · cases this
        · cases this
      · rw [if_neg h3] at h; exact absurd h h3
/-! ### Cost: whatever the product of two numbers is rounded to -/
def cosS (md : Int → Int → Int) : List Fb → List Int → Int
  | f :: l, z :: m => md f.2 z + cosS md l m
  | _, _ => 0
/-- The sum of the first k. -/
def cosK (md : Int → Int → Int) (l : List Fb) (m : List Int) (k : Nat) : Int := cosS md (l.take k) (m.take k)
theorem cosS_snoc (md : Int → Int → Int) (f : Fb) (z : Int) : ∀ {l : List Fb} {m : List Int}, l.length = m.length → cosS md (l ++ [f]) (m ++ [z]) = cosS md l m + md f.2 z
  | [], [], _ => by simp [cosS]
  | g :: l, y :: m, h => by
    have := cosS_snoc md f z (l := l) (m := m) (by simpa using h)
    rw [List.cons_append, List.cons_append, cosS, cosS, this]; omega
  | [], y :: m, h => by cases h
  | g :: l, [], h => by cases h
theorem cosK_succ {md : Int → Int → Int} {l : List Fb} {m : List Int} (hl : l.length = m.length) {k : Nat} {f : Fb} {z : Int} (hf : l[k]? = some f) (hz : m[k]? = some z) : cosK md l m (k + 1) = cosK md l m k + md f.2 z := by
  unfold cosK
  have hk : k < l.length := by rw [List.getElem?_eq_some_iff] at hf; exact hf.1
  rw [List.take_add_one, List.take_add_one, hf, hz]
  exact cosS_snoc md f z (by rw [List.length_take, List.length_take, hl])
theorem cosK_all (md : Int → Int → Int) (l : List Fb) (m : List Int) {k : Nat} (h1 : l.length ≤ k) (h2 : m.length ≤ k) : cosK md l m k = cosS md l m := by
  unfold cosK
  rw [List.take_of_length_le h1, List.take_of_length_le h2]
def cosE (md : Int → Int → Int) (l : List Fb) (m : List Int) : Int :=
  if chkE l = 0 then (if parE m (l.length : Int) = 0 then (if 1000000000000 < cosS md l m then 2 else 0) else parE m (l.length : Int)) else chkE l
def cosV (md : Int → Int → Int) (l : List Fb) (m : List Int) : Int := if cosE md l m = 0 then cosS md l m else 0
/-! ### Near -/
def nea1 (t tol x r : Int) : Bool := decide (1000 * x - r * t ≤ tol * t) && decide (-(tol * t) ≤ 1000 * x - r * t)
def neaB (t tol : Int) : List Int → List Int → Bool
  | x :: m, r :: l => nea1 t tol x r && neaB t tol m l
  | _, _ => true
theorem neaB_bad : ∀ {t tol : Int} {m l : List Int} {k : Nat} {x r : Int}, m[k]? = some x → l[k]? = some r → nea1 t tol x r = false → neaB t tol m l = false
  | _, _, [], _, _, _, _, h, _, _ => by simp at h
  | _, _, _ :: _, [], _, _, _, _, h, _ => by simp at h
  | t, tol, y :: m, s :: l, 0, x, r, h, k, hb => by
    simp at h k; subst h; subst k
    rw [neaB, hb]; rfl
  | t, tol, y :: m, s :: l, n + 1, x, r, h, k, hb => by
    rw [List.getElem?_cons_succ] at h k
    rw [neaB, neaB_bad h k hb, Bool.and_false]
theorem neaB_ok : ∀ {t tol : Int} {m l : List Int}, (∀ (k : Nat) (x r : Int), m[k]? = some x → l[k]? = some r → nea1 t tol x r = true) → neaB t tol m l = true
  | _, _, [], _, _ => by rw [neaB]; intro _ _ _ _ h; cases h
  | _, _, _ :: _, [], _ => by rw [neaB]; intro _ _ _ _ _ h; cases h
  | t, tol, y :: m, s :: l, h => by
    rw [neaB, h 0 y s rfl rfl, Bool.true_and]
    exact neaB_ok fun k x r hx hr => h (k + 1) x r (by rw [List.getElem?_cons_succ]; exact hx) (by rw [List.getElem?_cons_succ]; exact hr)
def neaE (m r : List Int) (tol : Int) : Int :=
  if recE r (lenI r) = 0 then (if parE m (lenI r) = 0 then (if inM 1000 tol then (if sumZ m = 0 then 10 else 0) else 1) else parE m (lenI r)) else recE r (lenI r)
def neaV (m r : List Int) (tol : Int) : Bool := decide (neaE m r tol = 0) && neaB (sumZ m) tol m r
theorem neaE_of {m r : List Int} {tol : Int} (h : neaE m r tol = 0) : recE r (lenI r) = 0 ∧ parE m (lenI r) = 0 ∧ (0 ≤ tol ∧ tol ≤ 1000) ∧ ¬ sumZ m = 0 := by
  unfold neaE at h
  by_cases h1 : recE r (lenI r) = 0
  · rw [if_pos h1] at h
    by_cases h2 : parE m (lenI r) = 0
    · rw [if_pos h2] at h
      cases h3 : inM 1000 tol with
      | false => rw [h3] at h; cases h
      | true =>
        rw [h3, if_pos rfl] at h
        by_cases h4 : sumZ m = 0
        · rw [if_pos h4] at h; cases h
        · exact ⟨h1, h2, inM_iff.mp h3, h4⟩
    · rw [if_neg h2] at h; exact absurd h h2
  · rw [if_neg h1] at h; exact absurd h h1
end Go.Proofs.Ytgomokdklajlcaa.Fibre
/- Contracts of ident.Valid, and of Valid of the reference, with what they call. -/
namespace Go.Proofs.Ytgomokdklajlcaa.Ident
open Go.ChangeShapes Go.WideShapes Go.RowKit
set_option linter.unusedVariables false
set_option maxRecDepth 100000

theorem ret_bool {a b : Bool} (h : a = b) : Ending.returned (.bool a) = .returned (.bool b) := by rw [h]
theorem ret_int {k : IntKind} {a b : Int} (h : a = b) : Ending.returned (.int k a) = .returned (.int k b) := by rw [h]
theorem no_let {n : Int} (h : letN n = false) : ¬ ((65 ≤ n ∧ n ≤ 90) ∨ (97 ≤ n ∧ n ≤ 122)) := fun e => by rw [letN_iff.mpr e] at h; cases h
theorem no_per {n : Int} (h : perN n = false) : ¬ ((65 ≤ n ∧ n ≤ 90) ∨ (97 ≤ n ∧ n ≤ 122) ∨ (48 ≤ n ∧ n ≤ 57) ∨ n = 45 ∨ n = 95 ∨ n = 46) := fun e => by rw [perN_iff.mpr e] at h; cases h
theorem ident_isLetter (n : Int) (w : World) : Calls Try.prog 65 #[.int .u8 n] w fun e w' => e = .returned (.bool (letN n)) ∧ w = w' := by
  go_enter Try.func65, Try.ntmps65
  go_wp2_with fail
  all_goals
    go_ret
    refine ⟨ret_bool ?_, rfl⟩
    rw [Bool.eq_iff_iff, letN_iff]
    simp
    omega
/-- A contract at the value that is known. -/
theorem letter_is {n : Int} {l : Bool} (h : letN n = l) (w : World) : Calls Try.prog 65 #[.int .u8 n] w fun e w' => e = .returned (.bool l) ∧ w = w' := h ▸ ident_isLetter n w
theorem ident_isPermitted (n : Int) (w : World) : Calls Try.prog 66 #[.int .u8 n] w fun e w' => e = .returned (.bool (perN n)) ∧ w = w' := by
  cases hl : letN n with
  | true =>
    have HP := Lib.hid (letN_per hl)
    have HC := letter_is hl w
    clear hl
    go_enter Try.func66, Try.ntmps66
    go_wp2_with fail
    refine HC.mono ?_
    rintro e w' ⟨rfl, rfl⟩
    go_wp2_with fail
    go_ret
    exact ⟨ret_bool HP.out.symm, rfl⟩
  | false =>
    have HP := Lib.hid (no_let hl)
    have HC := letter_is hl w
    clear hl
    go_enter Try.func66, Try.ntmps66
    go_wp2_with fail
    refine HC.mono ?_
    rintro e w' ⟨rfl, rfl⟩
    go_wp2_with fail
    all_goals
      go_ret
      refine ⟨ret_bool ?_, rfl⟩
      have hp := HP.out
      rw [Bool.eq_iff_iff, perN_iff]
      simp
      try omega
theorem permitted_is {n : Int} {l : Bool} (h : perN n = l) (w : World) : Calls Try.prog 66 #[.int .u8 n] w fun e w' => e = .returned (.bool l) ∧ w = w' := h ▸ ident_isPermitted n w

/-! ### Valid -/
set_option maxHeartbeats 800000 in
theorem ident_Valid (s : ByteArray) (w : World) (hm : s.size ≤ 9223372036854775807) : Calls Try.prog 46 #[.string s] w fun e w' => e = .returned (.bool (validB s)) ∧ w = w' := by
  have HL := Lib.hid (str_len s)
  rcases Nat.eq_zero_or_pos s.size with h0 | hp
  · have hz : s.size = 0 := h0
    have HV : Hid (validB s = false) := by
      have e : s.data.toList = [] := List.eq_nil_of_length_eq_zero (by have := HL.out; omega)
      show okB s.data.toList = false
      rw [e]; rfl
    have hi : ((s.size : Nat) : Int) = 0 := by omega
    clear h0
    go_enter Try.func46, Try.ntmps46
    go_wp2_with fail
    go_ret
    exact ⟨ret_bool HV.out.symm, rfl⟩
  · by_cases hl : 32 < s.size
    · have HV := Lib.hid (show validB s = false from okB_long (by have := HL.out; omega))
      have hi : (((s.size : Nat) : Int) == 0) = false := by simpa using (show ¬ ((s.size : Nat) : Int) = 0 by omega)
      have hi2 : (32 : Int) < ((s.size : Nat) : Int) := by omega
      clear hl
      go_enter Try.func46, Try.ntmps46
      go_wp2_with fail
      go_ret
      exact ⟨ret_bool HV.out.symm, rfl⟩
    · have HG := Lib.hid (str_get? s hp)
      have hi : (((s.size : Nat) : Int) == 0) = false := by simpa using (show ¬ ((s.size : Nat) : Int) = 0 by omega)
      have hi2 : decide ((32 : Int) < ((s.size : Nat) : Int)) = false := decide_eq_false (by omega)
      cases hf : letN (byt s[0]) with
      | false =>
        have HV := Lib.hid (show validB s = false from okB_first HG.out hf)
        have HC := letter_is hf w
        unfold byt at HC
        clear hf hl
        go_enter Try.func46, Try.ntmps46
        go_wp2_with fail
        refine HC.mono ?_
        rintro e w' ⟨rfl, rfl⟩
        go_wp2_with fail
        go_ret
        exact ⟨ret_bool HV.out.symm, rfl⟩
      | true =>
        have HF := Lib.hid hf
        have HC := letter_is hf w
        unfold byt at HC
        have HLL := Lib.hid hl
        clear hf hl
        go_enter Try.func46, Try.ntmps46
        go_wp2_with fail
        refine HC.mono ?_
        rintro e w' ⟨rfl, rfl⟩
        go_wp2_with fail
        go_loop [20] (fun i => ∃ k : Nat, k ≤ s.size ∧ i = .int .i64 k ∧ (∀ j b, j < k → s.data.toList[j]? = some b → perB b = true)) (fun i => s.size - (intOf i).toNat)
        case atStart => exact ⟨0, Nat.zero_le _, rfl, fun j b h => absurd h (by omega)⟩
        case round =>
          obtain ⟨k, hk, rfl, hv⟩ := hrel
          have HA := Lib.hid hv
          clear hv
          rcases Nat.lt_or_ge k s.size with hlt | hge
          · have HS := Lib.hid (str_get? s hlt)
            cases hb : perN (byt s[k]) with
            | false =>
              have HV := Lib.hid (show validB s = false from okB_at HS.out hb)
              have HC := permitted_is hb w
              unfold byt at HC
              clear hb
              go_wp2_with fail
              refine HC.mono ?_
              rintro e w' ⟨rfl, rfl⟩
              go_wp2_with fail
              go_ret
              exact ⟨ret_bool HV.out.symm, rfl⟩
            | true =>
              have HB := Lib.hid hb
              have HC := permitted_is hb w
              unfold byt at HC
              clear hb
              go_wp2_with fail
              refine HC.mono ?_
              rintro e w' ⟨rfl, rfl⟩
              go_wp2_with fail
              go_round
              case rel =>
                refine ⟨k + 1, by omega, by go_num, fun j b hj hb => ?_⟩
                rcases Nat.lt_or_eq_of_le (Nat.le_of_lt_succ hj) with h | h
                · exact HA.out j b h hb
                · subst h
                  have e := HS.out
                  rw [hb] at e; cases e; exact HB.out
              case measure => simp [intOf]; omega
          · obtain rfl : k = s.size := by omega
            have HV : Hid (validB s = true) := okB_yes HG.out HF.out (List.all_eq_true.mpr fun b hb => by
              obtain ⟨j, hj⟩ := List.mem_iff_getElem?.mp hb
              exact HA.out j b (by have := HL.out; have := (List.getElem?_eq_some_iff.mp hj).1; omega) hj) (by have := HL.out; have := HLL.out; omega)
            go_wp2_with fail
            go_ret
            exact ⟨ret_bool HV.out.symm, rfl⟩
theorem valid_is {s : ByteArray} {b : Bool} (h : validB s = b) (hm : s.size ≤ 9223372036854775807) (w : World) : Calls Try.prog 46 #[.string s] w fun e w' => e = .returned (.bool b) ∧ w = w' := h ▸ ident_Valid s w hm

end Go.Proofs.Ytgomokdklajlcaa.Ident
/- letter, name of the reference. -/
namespace Go.Proofs.Ytgomokdklajlcaa.Fibre
open Go.ChangeShapes Go.WideShapes Go.RowKit
open Go.Proofs.Ytgomokdklajlcaa.Ident (validB okB okB_long okB_first okB_at okB_yes str_get? str_len letN perN perB byt letN_iff perN_iff letN_per no_let ret_bool)
set_option linter.unusedVariables false
set_option maxRecDepth 100000

theorem rr_letter (n : Int) (w : World) : Calls Try.prog 47 #[.int .u8 n] w fun e w' => e = .returned (.bool (letN n)) ∧ w = w' := by
  go_enter Try.func47, Try.ntmps47
  go_wp2_with fail
  all_goals
    go_ret
    refine ⟨ret_bool ?_, rfl⟩
    rw [Bool.eq_iff_iff, letN_iff]
    simp
    omega
theorem rrl_is {n : Int} {l : Bool} (h : letN n = l) (w : World) : Calls Try.prog 47 #[.int .u8 n] w fun e w' => e = .returned (.bool l) ∧ w = w' := h ▸ rr_letter n w
set_option maxHeartbeats 1600000 in
theorem rr_name (s : ByteArray) (w : World) (hm : s.size ≤ 9223372036854775807) : Calls Try.prog 36 #[.string s] w fun e w' => e = .returned (.bool (validB s)) ∧ w = w' := by
  have HL := Lib.hid (str_len s)
  rcases Nat.eq_zero_or_pos s.size with h0 | hp
  · have hz : s.size = 0 := h0
    have HV : Hid (validB s = false) := by
      have e : s.data.toList = [] := List.eq_nil_of_length_eq_zero (by have := HL.out; omega)
      show okB s.data.toList = false
      rw [e]; rfl
    have hi : ((s.size : Nat) : Int) < 1 := by omega
    clear h0
    go_enter Try.func36, Try.ntmps36
    go_wp2_with fail
    go_ret
    exact ⟨ret_bool HV.out.symm, rfl⟩
  · have hi : decide (((s.size : Nat) : Int) < 1) = false := decide_eq_false (by omega)
    by_cases hl : 32 < s.size
    · have HV := Lib.hid (show validB s = false from okB_long (by have := HL.out; omega))
      have hi2 : (32 : Int) < ((s.size : Nat) : Int) := by omega
      clear hl
      go_enter Try.func36, Try.ntmps36
      go_wp2_with fail
      go_ret
      exact ⟨ret_bool HV.out.symm, rfl⟩
    · have HG := Lib.hid (str_get? s hp)
      have hi2 : decide ((32 : Int) < ((s.size : Nat) : Int)) = false := decide_eq_false (by omega)
      cases hf : letN (byt s[0]) with
      | false =>
        have HV := Lib.hid (show validB s = false from okB_first HG.out hf)
        have HC := rrl_is hf w
        unfold byt at HC
        clear hf hl
        go_enter Try.func36, Try.ntmps36
        go_wp2_with fail
        refine HC.mono ?_
        rintro e w' ⟨rfl, rfl⟩
        go_wp2_with fail
        go_ret
        exact ⟨ret_bool HV.out.symm, rfl⟩
      | true =>
        have HF := Lib.hid hf
        have HC := rrl_is hf w
        unfold byt at HC
        have HLL := Lib.hid hl
        clear hf hl
        go_enter Try.func36, Try.ntmps36
        go_wp2_with fail
        refine HC.mono ?_
        rintro e w' ⟨rfl, rfl⟩
        go_wp2_with fail
        go_loop [3] (fun i => ∃ k : Nat, k ≤ s.size ∧ i = .int .i64 k ∧ (∀ j b, j < k → s.data.toList[j]? = some b → perB b = true)) (fun i => s.size - (intOf i).toNat)
        case atStart => exact ⟨0, Nat.zero_le _, rfl, fun j b h => absurd h (by omega)⟩
        case round =>
          obtain ⟨k, hk, rfl, hv⟩ := hrel
          have HA := Lib.hid hv
          clear hv
          rcases Nat.lt_or_ge k s.size with hlt | hge
          · have HS := Lib.hid (str_get? s hlt)
            have step : perN (byt s[k]) = true → ∀ j b, j < k + 1 → s.data.toList[j]? = some b → perB b = true := fun hp j b hj hb => by
              rcases Nat.lt_or_eq_of_le (Nat.le_of_lt_succ hj) with h | h
              · exact HA.out j b h hb
              · subst h
                have e := HS.out
                rw [hb] at e; cases e; exact hp
            have bad : perN (byt s[k]) = false → validB s = false := fun h => okB_at HS.out h
            have ST := Lib.hid step
            have BAD := Lib.hid bad
            clear step bad
            cases hb : letN (byt s[k]) with
            | true =>
              have HB := Lib.hid (letN_per hb)
              have HC := rrl_is hb w
              unfold byt at HC
              clear hb
              go_wp2_with fail
              refine HC.mono ?_
              rintro e w' ⟨rfl, rfl⟩
              go_wp2_with fail
              go_round
              case rel => exact ⟨k + 1, by omega, by go_num, ST.out HB.out⟩
              case measure => simp [intOf]; omega
            | false =>
              have HB := Lib.hid (no_let hb)
              have HC := rrl_is hb w
              unfold byt at HC
              obtain ⟨n, hn⟩ : ∃ n : Int, n = ((s[k].toNat : Nat) : Int) := ⟨_, rfl⟩
              have HN := Lib.hid hn
              have HK : Hid ((48 ≤ n ∧ n ≤ 57) ∨ n = 45 ∨ n = 95 ∨ n = 46 → perN (byt s[k]) = true) := fun h => by
                have e := HN.out
                rw [perN_iff]; unfold byt; rw [← e]; omega
              have HQ : Hid (¬ ((48 ≤ n ∧ n ≤ 57) ∨ n = 45 ∨ n = 95 ∨ n = 46) → validB s = false) := fun h => BAD.out (by
                cases hp : perN (byt s[k]) with
                | false => rfl
                | true =>
                  have e := HN.out
                  have h1 := perN_iff.mp hp
                  have h2 := HB.out
                  unfold byt at h1 h2
                  rw [← e] at h1 h2
                  omega)
              rw [← hn] at HC
              have hn' := hn.symm
              clear hb hn
              go_wp2_with fail
              refine HC.mono ?_
              rintro e w' ⟨rfl, rfl⟩
              rcases (show n < 45 ∨ n = 45 ∨ n = 46 ∨ n = 47 ∨ (48 ≤ n ∧ n ≤ 57) ∨ (57 < n ∧ n < 95) ∨ n = 95 ∨ 95 < n by omega) with h | h | h | h | h | h | h | h
              · have t0 : decide (48 ≤ n) = false := decide_eq_false (by omega)
                have t1 : decide (n ≤ 57) = true := decide_eq_true (by omega)
                have u0 : (n != 45) = true := by simp; omega
                have u1 : (n != 95) = true := by simp; omega
                have u2 : (n != 46) = true := by simp; omega
                have HE := Lib.hid (HQ.out (by omega))
                clear h HN HB
                go_wp2_with fail
                go_ret
                exact ⟨ret_bool HE.out.symm, rfl⟩
              · have t0 : decide (48 ≤ n) = false := decide_eq_false (by omega)
                have t1 : decide (n ≤ 57) = true := decide_eq_true (by omega)
                have u0 : (n != 45) = false := by simp; omega
                have u1 : (n != 95) = true := by simp; omega
                have u2 : (n != 46) = true := by simp; omega
                have HE := Lib.hid (ST.out (HK.out (by omega)))
                clear h HN HB
                go_wp2_with fail
                go_round
                case rel => exact ⟨k + 1, by omega, by go_num, HE.out⟩
                case measure => simp [intOf]; omega
              · have t0 : decide (48 ≤ n) = false := decide_eq_false (by omega)
                have t1 : decide (n ≤ 57) = true := decide_eq_true (by omega)
                have u0 : (n != 45) = true := by simp; omega
                have u1 : (n != 95) = true := by simp; omega
                have u2 : (n != 46) = false := by simp; omega
                have HE := Lib.hid (ST.out (HK.out (by omega)))
                clear h HN HB
                go_wp2_with fail
                go_round
                case rel => exact ⟨k + 1, by omega, by go_num, HE.out⟩
                case measure => simp [intOf]; omega
              · have t0 : decide (48 ≤ n) = false := decide_eq_false (by omega)
                have t1 : decide (n ≤ 57) = true := decide_eq_true (by omega)
                have u0 : (n != 45) = true := by simp; omega
                have u1 : (n != 95) = true := by simp; omega
                have u2 : (n != 46) = true := by simp; omega
                have HE := Lib.hid (HQ.out (by omega))
                clear h HN HB
                go_wp2_with fail
                go_ret
                exact ⟨ret_bool HE.out.symm, rfl⟩
              · have t0 : decide (48 ≤ n) = true := decide_eq_true (by omega)
                have t1 : decide (n ≤ 57) = true := decide_eq_true (by omega)
                have u0 : (n != 45) = true := by simp; omega
                have u1 : (n != 95) = true := by simp; omega
                have u2 : (n != 46) = true := by simp; omega
                have HE := Lib.hid (ST.out (HK.out (by omega)))
                clear h HN HB
                go_wp2_with fail
                go_round
                case rel => exact ⟨k + 1, by omega, by go_num, HE.out⟩
                case measure => simp [intOf]; omega
              · have t0 : decide (48 ≤ n) = true := decide_eq_true (by omega)
                have t1 : decide (n ≤ 57) = false := decide_eq_false (by omega)
                have u0 : (n != 45) = true := by simp; omega
                have u1 : (n != 95) = true := by simp; omega
                have u2 : (n != 46) = true := by simp; omega
                have HE := Lib.hid (HQ.out (by omega))
                clear h HN HB
                go_wp2_with fail
                go_ret
                exact ⟨ret_bool HE.out.symm, rfl⟩
              · have t0 : decide (48 ≤ n) = true := decide_eq_true (by omega)
                have t1 : decide (n ≤ 57) = false := decide_eq_false (by omega)
                have u0 : (n != 45) = true := by simp; omega
                have u1 : (n != 95) = false := by simp; omega
                have u2 : (n != 46) = true := by simp; omega
                have HE := Lib.hid (ST.out (HK.out (by omega)))
                clear h HN HB
                go_wp2_with fail
                go_round
                case rel => exact ⟨k + 1, by omega, by go_num, HE.out⟩
                case measure => simp [intOf]; omega
              · have t0 : decide (48 ≤ n) = true := decide_eq_true (by omega)
                have t1 : decide (n ≤ 57) = false := decide_eq_false (by omega)
                have u0 : (n != 45) = true := by simp; omega
                have u1 : (n != 95) = true := by simp; omega
                have u2 : (n != 46) = true := by simp; omega
                have HE := Lib.hid (HQ.out (by omega))
                clear h HN HB
                go_wp2_with fail
                go_ret
                exact ⟨ret_bool HE.out.symm, rfl⟩
          · obtain rfl : k = s.size := by omega
            have HV : Hid (validB s = true) := okB_yes HG.out HF.out (List.all_eq_true.mpr fun b hb => by
              obtain ⟨j, hj⟩ := List.mem_iff_getElem?.mp hb
              exact HA.out j b (by have := HL.out; have := (List.getElem?_eq_some_iff.mp hj).1; omega) hj) (by have := HL.out; have := HLL.out; omega)
            go_wp2_with fail
            go_ret
            exact ⟨ret_bool HV.out.symm, rfl⟩
theorem rrn_is {s : ByteArray} {b : Bool} (h : validB s = b) (hm : s.size ≤ 9223372036854775807) (w : World) : Calls Try.prog 36 #[.string s] w fun e w' => e = .returned (.bool b) ∧ w = w' := h ▸ rr_name s w hm
end Go.Proofs.Ytgomokdklajlcaa.Fibre
