/- Several texts in one: ShareD, ShareE, VecA, IdentA, FibreA. -/
import Derived.Test.YtihklpkpcnahkaaPk3
import Derived.Test.YtihklpkpcnahkaaPk5
import Derived.Test.YtihklpkpcnahkaaPk2
import Derived.Deep.Cut
import Derived.Deep.CutRange
import Derived.Test.YtihklpkpcnahkaaRows
import Derived.WalkKit
import Derived.WalkLawsBesides
import Derived.WalkSpells
import Derived.Outline
import Derived.Laws.OwnMore
import Derived.OwnWalk
import Derived.Lib.Hide
import Derived.Maps.OwnSet
/- The comparison of remainders; share.largestFirst. -/
namespace Go.Proofs.Ytihklpkpcnahkaa.Share
open Go.ChangeShapes Go.WideShapes Go.RowKit Go.Lib Go.Proofs.Ytihklpkpcnahkaa.Mem Go.Proofs.Ytihklpkpcnahkaa.Stable
set_option linter.unusedVariables false
set_option maxRecDepth 100000

theorem own_more {α : Type} {enc : α → Value} {t : TypeId} {B B' g n cap : Nat} {w : World} {L : List α} (h : Own enc t B w (.slice (some ⟨g, 0, none⟩) n cap) L) (hB : B' ≤ g) : Own enc t B' w (.slice (some ⟨g, 0, none⟩) n cap) L := by
  obtain ⟨h1, ⟨e, h0⟩ | ⟨g', cap', cur, e, h2, h3⟩⟩ := h
  · cases e
  · cases e
    exact ⟨h1, Or.inr ⟨g, cap, cur, rfl, hB, h3⟩⟩
/-- The remainder at k against that at i. -/
def cfR (r : Nat → Nat) (i k : Nat) : Int := Lib.compareInt (r k : Int) (r i : Int)
theorem cfR_neg (r : Nat → Nat) {i k : Nat} (h : k < i) : decide (cfR r i k < 0) = bt r i k := by
  unfold cfR Lib.compareInt
  rw [Bool.eq_iff_iff, bt_iff, decide_eq_true_iff]
  by_cases h1 : (r k : Int) < (r i : Int)
  · rw [if_pos h1]; simp; omega
  · rw [if_neg h1]
    split
    · simp; omega
    · simp; omega
theorem bt_sto (r : Nat → Nat) : Sto (bt r) := ⟨bt_irr r, fun i j k h1 h2 => bt_trans h1 h2, fun i j h => bt_total h⟩

set_option maxHeartbeats 800000 in
theorem cmp_run (n c gb : Nat) (A : Option Addr) (r : Nat → Nat) (W : World) (c1 : W.cell? ⟨gb, 0, none⟩ = some (.slice A n c)) (c2 : Cl eI W A (lst (fun i => (r i : Int)) n)) (x y : Nat) (hx : x < n) (hy : y < n) :
    Calls Try.prog 61 #[.int .i64 (x : Int), .int .i64 (y : Int), .pointer (some ⟨gb, 0, none⟩)] W fun e w' => e = .returned (.int .i64 (cfR r x y)) ∧ Below W.heap.size W w' := by
  obtain ⟨b, off, rfl, hb, k1⟩ := c2 x _ (lst_at _ hx)
  obtain ⟨b', off', e, hb', k2⟩ := c2 y _ (lst_at _ hy)
  cases e
  obtain ⟨p, hp⟩ : ∃ p : Int, p = (r x : Int) := ⟨_, rfl⟩
  obtain ⟨q, hq⟩ : ∃ q : Int, q = (r y : Int) := ⟨_, rfl⟩
  have HRES : Hid (cfR r x y = Lib.compareInt q p) := (by rw [hp, hq]; rfl : cfR r x y = Lib.compareInt q p)
  have f1 : W.cell? ⟨b, off + x, none⟩ = some (.int .i64 p) := by rw [k1, hp]
  have f2 : W.cell? ⟨b, off + y, none⟩ = some (.int .i64 q) := by rw [k2, hq]
  have i1 : (x : Int) < (n : Int) := by omega
  have i2 : (0 : Int) ≤ (x : Int) := by omega
  have i3 : (y : Int) < (n : Int) := by omega
  have i4 : (0 : Int) ≤ (y : Int) := by omega
  have hcon := fun W => Try.cmp_Compare_int q p W
  obtain ⟨z, hz⟩ : ∃ z, z = Lib.compareInt q p := ⟨_, rfl⟩
  rw [← hz] at hcon HRES
  have HCON := Lib.hid hcon
  clear hcon hz hp hq c2 k1 k2 hb'
  go_enter Try.func61, Try.ntmps61
  go_wp2_with fail
  go_quiet ((go_at_call 62; refine Calls.quiet_of_same (HCON.out _)))
  go_wp2_with fail
  go_ret
  exact ⟨ret_int HRES.out.symm, below_drewN (Below.refl _ _) _⟩

theorem cl_keep {w W : World} {A : Option Addr} {L : List Int} (h : Cl eI w A L) (hs : w.heap.size ≤ W.heap.size) (hk : ∀ b, b < w.heap.size → W.heap[b]? = w.heap[b]?) : Cl eI W A L := by
  intro k z hz
  obtain ⟨b, off, e, hlt, h0⟩ := h k z hz
  exact ⟨b, off, e, Nat.lt_of_lt_of_le hlt hs, (World.cell?_of_block (a := ⟨b, off + k, none⟩) (hk b hlt)).trans h0⟩
theorem cm_run (r : Nat → Nat) (n c gb g : Nat) (A : Option Addr) (w w0 : World) (hR : Cl eI w A (lst (fun i => (r i : Int)) n)) (hb : Below w.heap.size w w0) (hc : w0.cell? ⟨gb, 0, none⟩ = some (.slice A n c)) (hgb : gb < w0.heap.size) (hne : gb ≠ g) (hg : w.heap.size ≤ g) :
    Cm (fun k => (k : Int)) (bt r) n g w0 61 #[.pointer (some ⟨gb, 0, none⟩)] (cfR r) := by
  refine ⟨enters_of Try.func61 (by kernel_rfl) rfl, fun i j hij _ => cfR_neg r hij, fun i j W hij hi ho => ?_⟩
  have c1 : W.cell? ⟨gb, 0, none⟩ = some (.slice A n c) := (World.cell?_of_block (a := ⟨gb, 0, none⟩) (ho.block gb hgb hne)).trans hc
  have c2 : Cl eI W A (lst (fun i => (r i : Int)) n) := cl_keep hR (Nat.le_trans hb.size ho.size) fun b hlt => (ho.block b (Nat.lt_of_lt_of_le hlt hb.size) (by omega)).trans (hb.block b hlt)
  exact cmp_run n c gb A r W c1 c2 i j hi (by omega)

/-- What largestFirst returns: at place k the index of rank k. -/
def LaR (r : Nat → Nat) (n : Nat) (w : World) : Ending → World → Prop := fun e w' => ∃ (g : Nat) (s : Nat → Nat), e = .returned (.slice (some ⟨g, 0, none⟩) n n) ∧ w.heap.size ≤ g ∧ Own eI 3 w.heap.size w' (.slice (some ⟨g, 0, none⟩) n n) (lst (fun k => (s k : Int)) n) ∧ (∀ k, k < n → s k < n ∧ rank r n (s k) = k) ∧ Below w.heap.size w w'

set_option maxHeartbeats 1600000 in
theorem largest_first (r : Nat → Nat) (n c : Nat) (A : Option Addr) (w : World) (hn : n ≤ 512) (hR : Cl eI w A (lst (fun i => (r i : Int)) n)) :
    Calls Try.prog 50 #[.slice A n c] w (LaR r n w) := by
  have HR := Lib.hid hR
  have HN := Lib.hid hn
  have hmk := fun W => make_ints n (by omega) W
  clear hR
  go_enter Try.func50, Try.ntmps50
  go_upto_region 2 with fail
  obtain ⟨w1, hw1⟩ : ∃ W, w.alloc (.cells #[.slice A n c] 29) = W := ⟨_, rfl⟩
  have HB1 : Hid (Below w.heap.size w w1) := hw1 ▸ below_alloc _ _
  have hs1 : w1.heap.size = w.heap.size + 1 := by rw [← hw1]; simp
  have HC1 : Hid (w1.cell? ⟨w.heap.size, 0, none⟩ = some (.slice A n c)) := hw1 ▸ (by simp : (w.alloc (.cells #[.slice A n c] 29)).cell? ⟨w.heap.size, 0, none⟩ = some (.slice A n c))
  obtain ⟨w2, hw2⟩ : ∃ W, w1.alloc (.cells (madeCells #[.int .i64 0] n) 3) = W := ⟨_, rfl⟩
  have HOW2 : Hid (Own eI 3 w.heap.size w2 (.slice (some ⟨w.heap.size + 1, 0, none⟩) n n) (lst (fun _ => 0) n)) := by
    have h1 := (own_made eI 3 w1 n 0 (by omega)).less (B' := w.heap.size) (by omega)
    rw [hs1, hw2] at h1
    have e : List.replicate n (0 : Int) = lst (fun _ => 0) n := by unfold lst; rw [List.map_const', List.length_range]
    rw [e] at h1; exact h1
  have HBA := Lib.hid (hw2 ▸ below_alloc w1 (.cells (madeCells #[.int .i64 0] n) 3) : Below w1.heap.size w1 w2)
  have HB2 : Hid (Below w.heap.size w w2) := bstep HB1.out HBA.out
  have HC2 : Hid (w2.cell? ⟨w.heap.size, 0, none⟩ = some (.slice A n c)) := (HBA.out.cell (p := ⟨w.heap.size, 0, none⟩) (by show w.heap.size < _; omega)).trans HC1.out
  have HS2 : Hid (w.heap.size + 1 < w2.heap.size) := (HOW2.out.lt _ rfl).2
  have HCL2 : Hid (Cl eI w2 A (lst (fun i => (r i : Int)) n)) := HR.out.on HB2.out
  obtain ⟨g, hg⟩ : ∃ g, g = w.heap.size + 1 := ⟨_, rfl⟩
  obtain ⟨gb, hgb⟩ : ∃ g, g = w.heap.size := ⟨_, rfl⟩
  rw [hw1, hw2]
  rw [← hg] at HOW2 HS2 ⊢
  rw [← hgb]
  have HG := Lib.hid (show g = w.heap.size + 1 ∧ gb = w.heap.size from ⟨hg, hgb⟩)
  have HC3 : Hid (w2.cell? ⟨gb, 0, none⟩ = some (.slice A n c)) := hgb ▸ HC2.out
  clear hw1 hw2 hg hgb hs1 hmk HC1 HC2 HB1 HBA hn
  go_wp2_with fail
  go_loopw [4, 10] (fun _ x wr => ∃ k : Nat, x = .int .i64 (k : Int) ∧ k ≤ n ∧ Own eI 3 w.heap.size wr (.slice (some ⟨g, 0, none⟩) n n) (lst (fun j => if j < k then (j : Int) else 0) n) ∧ Below g w2 wr) (fun _ x _ => n - (RowKit.intOf x).toNat)
  case atStart => exact ⟨0, rfl, Nat.zero_le _, by simpa using HOW2.out, Below.refl _ _⟩
  case round =>
    obtain ⟨k, rfl, hk, hown, hbel⟩ := hrel
    have HO := Lib.hid hown
    have HB := Lib.hid hbel
    clear hown hbel
    have hN := HN.out
    rcases Nat.lt_or_ge k n with hlt | hge
    · have fk := HO.out.warm (lst_len _ n).symm k
      have ck := HO.out.cell (lst_at _ hlt)
      rw [if_neg (Nat.lt_irrefl k)] at ck
      have i1 : (k : Int) < (n : Int) := by omega
      have i2 : (0 : Int) ≤ (k : Int) := by omega
      have hk1 : IntKind.i64.wrap ((k : Int) + 1) = ((k + 1 : Nat) : Int) := wrap_id (by omega)
      have HE : Hid (Own eI 3 w.heap.size (wr.setCell ⟨g, k, none⟩ (.int .i64 (k : Int))) (.slice (some ⟨g, 0, none⟩) n n) (lst (fun j => if j < k + 1 then (j : Int) else 0) n)) := by
        have h1 := HO.out.set (lst_len _ n).symm k (k : Int)
        rw [lst_set (g := fun j => if j < k + 1 then (j : Int) else 0) hlt (fun i hi => by
          by_cases h : i = k
          · subst h; simp
          · rw [if_neg h]
            by_cases h2 : i < k
            · rw [if_pos (by omega), if_pos h2]
            · rw [if_neg (by omega), if_neg h2])] at h1
        exact h1
      have HBE : Hid (Below g w2 (wr.setCell ⟨g, k, none⟩ (.int .i64 (k : Int)))) := below_set HB.out (p := ⟨g, k, none⟩) (Nat.le_refl _) _
      clear hN hlt
      go_wp2_with fail
      go_roundw
      case rel => exact ⟨k + 1, rfl, by omega, HE.out, HBE.out⟩
      case measure => simp [RowKit.intOf]; omega
    · obtain rfl : n = k := by omega
      have HBW : Hid (Below w.heap.size w wr) := HB2.out.trans (HB.out.mono (by have := HG.out; omega))
      have HC4 : Hid (wr.cell? ⟨gb, 0, none⟩ = some (.slice A n c)) := (HB.out.cell (p := ⟨gb, 0, none⟩) (by show gb < g; have := HG.out; omega)).trans HC3.out
      have HO2 : Hid (Own eI 3 w.heap.size wr (.slice (some ⟨g, 0, none⟩) n n) (lst (fun j => (j : Int)) n)) := by
        have := HO.out
        rw [lst_congr (g := fun j => (j : Int)) fun i hi => if_pos hi] at this
        exact this
      have HST : Hid (St (fun k => (k : Int)) g n n wr wr (fun k => k)) := ⟨HO2.out.less (Nat.zero_le _), Off.refl _ _, fun k hk => hk⟩
      have HSZ : Hid (g < wr.heap.size) := (HO.out.lt g rfl).2
      have HCM := Lib.hid (cm_run r n c gb g A w wr HR.out HBW.out HC4.out (by have := HG.out; have := HSZ.out; omega) (by have := HG.out; omega) (by have := HG.out; omega))
      have HSRT := Lib.hid (sort_stable (bt_sto r) HCM.out HST.out (by omega) (fun k => rfl))
      clear hN hk hge
      go_wp2_with fail
      refine HSRT.out.mono ?_
      rintro e w3 ⟨rfl, s, hst, hsrt, hbd⟩
      have HD : Hid (Own eI 3 w.heap.size w3 (.slice (some ⟨g, 0, none⟩) n n) (lst (fun k => (s k : Int)) n)) := own_more hst.own (by have := HG.out; omega)
      have HRK : Hid (∀ k, k < n → s k < n ∧ rank r n (s k) = k) := fun k hk => ⟨hbd k hk, rank_sorted hbd (fun j k h1 h2 => hsrt j k (Nat.zero_le _) h1 h2) k hk⟩
      have HBZ : Hid (Below w.heap.size w w3) := HBW.out.trans (Off.below hst.off HBW.out.size fun x hx => by have := HG.out; omega)
      clear hst hsrt hbd
      go_wp2_with fail
      go_ret
      exact ⟨g, s, rfl, by have := HG.out; omega, HD.out, HRK.out, HBZ.out⟩
end Go.Proofs.Ytihklpkpcnahkaa.Share
/- share.Split. -/
namespace Go.Proofs.Ytihklpkpcnahkaa.Share
open Go.ChangeShapes Go.WideShapes Go.RowKit Go.Lib Go.Proofs.Ytihklpkpcnahkaa.Mem
set_option linter.unusedVariables false
set_option maxRecDepth 100000

/-- A list of the call's own, and an error. -/
def ResL (L : List Int) (E : Nat) (w : World) : Ending → World → Prop := fun e w' => ∃ v, e = .returned (.tuple #[v, .int .i64 (E : Int)]) ∧ Own eI 3 w.heap.size w' v L ∧ Below w.heap.size w w'
def splL (t : Int) (ws : List Int) : List Int := if errS t ws = 0 then partsL t ws else []
def bouL (t : Int) (ws : List Int) : List Int := if errS t ws = 0 then bndsL t ws else []
theorem tup2 {a b : Value} {x y : Int} (h : a = b) (k : x = y) : Ending.returned (.tuple #[a, .int .i64 x]) = .returned (.tuple #[b, .int .i64 y]) := by rw [h, k]

/-! ### What the products are divided by -/
section
variable {t : Int} {ws : List Int}
theorem dvV_ok (h : errS t ws = 0) : ∃ W : Nat, dvV t ws = (W : Int) ∧ 0 < W ∧ W ≤ 1125899906842624 ∧ (∀ i, i < ws.length → wf ws i ≤ W) ∧ (∀ i, i < ws.length → sm (wf ws) (i + 1) ≤ W) ∧
    (∀ i, i < ws.length → t.toNat * wf ws i / W = quo t.toNat (wf ws) ws.length i ∧ t.toNat * wf ws i % W = rst t.toNat (wf ws) ws.length i) ∧ (∀ i, i < ws.length → t.toNat * sm (wf ws) (i + 1) / W = bnd t.toNat (wf ws) ws.length i) := by
  have ok := Ok.of h
  have hT := ok.twI
  have hs := ok.sum
  have hmx : mx = 1125899906842624 := rfl
  unfold dvV
  rw [if_pos h]
  rcases Nat.eq_zero_or_pos (Share.tw (wf ws) ws.length) with hz | hz
  · have ht := ok.zero hz
    have hw : ∀ i, i < ws.length → wf ws i = 0 := fun i hi => by have := ok.w_le hi; omega
    have hm : ∀ i, i < ws.length → sm (wf ws) (i + 1) = 0 := fun i hi => by
      have : sm (wf ws) (i + 1) ≤ Share.tw (wf ws) ws.length := sm_mono (by omega)
      omega
    refine ⟨1, by rw [if_pos (by omega)]; rfl, by omega, by omega, fun i hi => by rw [hw i hi]; omega, fun i hi => by rw [hm i hi]; omega, fun i hi => ?_, fun i hi => ?_⟩
    · unfold quo rst
      rw [hw i hi]; simp
    · unfold bnd
      rw [if_pos hz, hm i hi]; simp
  · refine ⟨Share.tw (wf ws) ws.length, by rw [if_neg (by omega)]; exact hT.symm, hz, by omega, fun i hi => ok.w_le hi, fun i hi => sm_mono (by omega), fun i hi => ⟨rfl, rfl⟩, fun i hi => ?_⟩
    unfold bnd
    rw [if_neg (by omega)]
theorem Ok.gots (h : Ok t ws) {i : Nat} (hi : i < ws.length) : gots (quo t.toNat (wf ws) ws.length) (rst t.toNat (wf ws) ws.length) ws.length (lft t.toNat (wf ws) ws.length) i = part t.toNat (wf ws) ws.length i := by
  rcases Nat.eq_zero_or_pos (Share.tw (wf ws) ws.length) with hz | hz
  · have ht := h.zero hz
    unfold Share.gots part lft quo
    rw [if_pos hz, ht]
    simp
  · exact gots_part hz i
theorem Ok.lft_le (h : Ok t ws) : lft t.toNat (wf ws) ws.length ≤ ws.length := by
  rcases Nat.eq_zero_or_pos (Share.tw (wf ws) ws.length) with hz | hz
  · have ht := h.zero hz
    unfold lft
    rw [ht]; simp
  · exact Nat.le_of_lt (lft_lt hz)
theorem Ok.quo_sum (h : Ok t ws) {k : Nat} (hk : k ≤ ws.length) : sm (quo t.toNat (wf ws) ws.length) k ≤ t.toNat := by
  have h1 : sm (quo t.toNat (wf ws) ws.length) k ≤ sm (quo t.toNat (wf ws) ws.length) ws.length := sm_mono hk
  rcases Nat.eq_zero_or_pos (Share.tw (wf ws) ws.length) with hz | hz
  · have ht := h.zero hz
    have : sm (quo t.toNat (wf ws) ws.length) ws.length = 0 := by
      rw [sm_congr (g := fun _ => 0) fun i _ => by unfold quo; rw [hz]; simp, sm_const]; omega
    omega
  · exact Nat.le_trans h1 (sum_le hz)
end
end Go.Proofs.Ytihklpkpcnahkaa.Share
/- Lists of masses, added and taken away, and their parts (pure). -/
namespace Go.Proofs.Ytihklpkpcnahkaa.Vec
open Go.Proofs.Ytihklpkpcnahkaa.Share (partsL partsL_len partsL_at sumK sumK_zero sumK_succ wf wf_at quo rst quo_rst part_near mx)
set_option linter.unusedVariables false

theorem get_lt {α : Type} {L : List α} {k : Nat} (h : k < L.length) : ∃ s, L[k]? = some s := ⟨_, List.getElem?_eq_getElem h⟩
theorem glt {α : Type} {L : List α} {k : Nat} {x : α} (h : L[k]? = some x) : k < L.length := (List.getElem?_eq_some_iff.mp h).1
def sumZ (l : List Int) : Int := sumK l l.length
def plusL (L m : List Int) : List Int := List.zipWith (· + ·) L m
def lessL (L m : List Int) : List Int := List.zipWith (· - ·) L m
theorem plus_at {L m : List Int} {k : Nat} {x y : Int} (hx : L[k]? = some x) (hy : m[k]? = some y) : (plusL L m)[k]? = some (x + y) := by
  unfold plusL; rw [List.getElem?_zipWith, hx, hy]
theorem less_at {L m : List Int} {k : Nat} {x y : Int} (hx : L[k]? = some x) (hy : m[k]? = some y) : (lessL L m)[k]? = some (x - y) := by
  unfold lessL; rw [List.getElem?_zipWith, hx, hy]
theorem plus_len {L m : List Int} (h : m.length = L.length) : (plusL L m).length = L.length := by unfold plusL; rw [List.length_zipWith, h]; exact Nat.min_self _
theorem less_len {L m : List Int} (h : m.length = L.length) : (lessL L m).length = L.length := by unfold lessL; rw [List.length_zipWith, h]; exact Nat.min_self _
theorem vec_ext {L M : List Int} (h : L.length = M.length) (k : ∀ (i : Nat) (x y : Int), L[i]? = some x → M[i]? = some y → x = y) : L = M := by
  apply List.ext_getElem?
  intro i
  rcases Nat.lt_or_ge i L.length with hi | hi
  · obtain ⟨x, hx⟩ := get_lt (L := L) hi
    obtain ⟨y, hy⟩ := get_lt (L := M) (k := i) (by omega)
    rw [hx, hy, k i x y hx hy]
  · rw [List.getElem?_eq_none hi, List.getElem?_eq_none (by omega)]
theorem plus_get {L m : List Int} {k : Nat} {z : Int} (hl : m.length = L.length) (h : (plusL L m)[k]? = some z) : ∃ x y, L[k]? = some x ∧ m[k]? = some y ∧ z = x + y := by
  have hk := glt h
  rw [plus_len hl] at hk
  obtain ⟨x, hx⟩ := get_lt (L := L) (k := k) hk
  obtain ⟨y, hy⟩ := get_lt (L := m) (k := k) (by omega)
  rw [plus_at hx hy] at h
  exact ⟨x, y, hx, hy, (Option.some.inj h).symm⟩
theorem less_get {L m : List Int} {k : Nat} {z : Int} (hl : m.length = L.length) (h : (lessL L m)[k]? = some z) : ∃ x y, L[k]? = some x ∧ m[k]? = some y ∧ z = x - y := by
  have hk := glt h
  rw [less_len hl] at hk
  obtain ⟨x, hx⟩ := get_lt (L := L) (k := k) hk
  obtain ⟨y, hy⟩ := get_lt (L := m) (k := k) (by omega)
  rw [less_at hx hy] at h
  exact ⟨x, y, hx, hy, (Option.some.inj h).symm⟩
theorem sumK_lim {b : Int} {l : List Int} (h : ∀ z ∈ l, 0 ≤ z ∧ z ≤ b) : ∀ k, k ≤ l.length → 0 ≤ sumK l k ∧ sumK l k ≤ k * b
  | 0, _ => by rw [sumK_zero]; simp
  | k + 1, hk => by
    have ih := sumK_lim h k (by omega)
    obtain ⟨z, hz⟩ := get_lt (L := l) (k := k) (by omega)
    have hz2 := h z (List.mem_of_getElem? hz)
    rw [sumK_succ hz, show ((k + 1 : Nat) : Int) = (k : Int) + 1 by omega, Int.add_mul, Int.one_mul]
    omega
theorem sumK_less {L m : List Int} (h : m.length = L.length) : ∀ k, k ≤ L.length → sumK (lessL L m) k = sumK L k - sumK m k
  | 0, _ => by rw [sumK_zero, sumK_zero, sumK_zero]; rfl
  | k + 1, hk => by
    obtain ⟨x, hx⟩ := get_lt (L := L) (k := k) (by omega)
    obtain ⟨y, hy⟩ := get_lt (L := m) (k := k) (by omega)
    rw [sumK_succ hx, sumK_succ hy, sumK_succ (less_at hx hy), sumK_less h k (by omega)]; omega
theorem sumK_plus {L m : List Int} (h : m.length = L.length) : ∀ k, k ≤ L.length → sumK (plusL L m) k = sumK L k + sumK m k
  | 0, _ => by rw [sumK_zero, sumK_zero, sumK_zero]; rfl
  | k + 1, hk => by
    obtain ⟨x, hx⟩ := get_lt (L := L) (k := k) (by omega)
    obtain ⟨y, hy⟩ := get_lt (L := m) (k := k) (by omega)
    rw [sumK_succ hx, sumK_succ hy, sumK_succ (plus_at hx hy), sumK_plus h k (by omega)]; omega
theorem sumZ_less {L m : List Int} (h : m.length = L.length) : sumZ (lessL L m) = sumZ L - sumZ m := by
  unfold sumZ; rw [less_len h, sumK_less h _ (Nat.le_refl _), h]
theorem sumZ_plus {L m : List Int} (h : m.length = L.length) : sumZ (plusL L m) = sumZ L + sumZ m := by
  unfold sumZ; rw [plus_len h, sumK_plus h _ (Nat.le_refl _), h]
theorem sumK_mono {l : List Int} (h : ∀ z ∈ l, 0 ≤ z) (k : Nat) : ∀ j, k + j ≤ l.length → sumK l k ≤ sumK l (k + j)
  | 0, _ => Int.le_refl _
  | j + 1, hj => by
    obtain ⟨x, hx⟩ := get_lt (L := l) (k := k + j) (by omega)
    have h1 := sumK_mono h k j (by omega)
    have h2 := h x (List.mem_of_getElem? hx)
    rw [show k + (j + 1) = (k + j) + 1 by omega, sumK_succ hx]; omega
theorem sumZ_nonneg {l : List Int} (h : ∀ z ∈ l, 0 ≤ z) : 0 ≤ sumZ l := by
  have := sumK_mono h 0 l.length (by omega)
  rw [sumK_zero, Nat.zero_add] at this
  exact this
theorem le_sum {l : List Int} (h : ∀ z ∈ l, 0 ≤ z) {k : Nat} {x : Int} (hx : l[k]? = some x) : x ≤ sumZ l := by
  have hk := glt hx
  have h1 := sumK_mono h (k + 1) (l.length - (k + 1)) (by omega)
  have h0 := sumK_mono h 0 k (by omega)
  rw [show k + 1 + (l.length - (k + 1)) = l.length by omega, sumK_succ hx] at h1
  rw [sumK_zero, Nat.zero_add] at h0
  unfold sumZ; omega
theorem sumK_cons (a : Int) (l : List Int) : ∀ k, k ≤ l.length → sumK (a :: l) (k + 1) = a + sumK l k
  | 0, _ => by rw [sumK_succ (ws := a :: l) (k := 0) (z := a) rfl, sumK_zero, sumK_zero]; omega
  | k + 1, h => by
    obtain ⟨z, hz⟩ := get_lt (L := l) (k := k) (by omega)
    have hz2 : (a :: l)[k + 1]? = some z := by rw [List.getElem?_cons_succ]; exact hz
    rw [sumK_succ hz2, sumK_succ hz, sumK_cons a l k (by omega)]; omega
theorem sumZ_cons (a : Int) (l : List Int) : sumZ (a :: l) = a + sumZ l := sumK_cons a l l.length (Nat.le_refl _)
theorem sumZ_nil : sumZ [] = 0 := rfl
theorem sumZ_append : ∀ l m : List Int, sumZ (l ++ m) = sumZ l + sumZ m
  | [], m => by rw [List.nil_append, sumZ_nil, Int.zero_add]
  | a :: l, m => by rw [List.cons_append, sumZ_cons, sumZ_cons, sumZ_append l m, Int.add_assoc]
theorem zero_of_sum {l : List Int} (h : ∀ z ∈ l, 0 ≤ z) (hs : sumZ l = 0) : ∀ z ∈ l, z = 0 := fun z hz => by
  obtain ⟨k, hk⟩ := List.mem_iff_getElem?.mp hz
  have h1 := le_sum h hk
  have h2 := h z hz
  omega
theorem sumZ_zeros (n : Nat) : sumZ (List.replicate n 0) = 0 := by
  induction n with
  | zero => rfl
  | succ n ih => rw [List.replicate_succ, sumZ_cons, ih]; rfl
theorem zero_plus {L : List Int} {n : Nat} (h : L.length = n) : plusL (List.replicate n 0) L = L := by
  refine vec_ext (by rw [plus_len (by rw [List.length_replicate]; exact h), List.length_replicate, h]) fun i x y hx hy => ?_
  obtain ⟨u, v, hu, hv, rfl⟩ := plus_get (by rw [List.length_replicate]; exact h) hx
  rw [hy] at hv
  cases hv
  rw [List.eq_of_mem_replicate (List.mem_of_getElem? hu)]; omega
theorem plus_zero {L : List Int} {n : Nat} (h : L.length = n) : plusL L (List.replicate n 0) = L := by
  refine vec_ext (by rw [plus_len (by rw [List.length_replicate, h])]) fun i x y hx hy => ?_
  obtain ⟨u, v, hu, hv, rfl⟩ := plus_get (by rw [List.length_replicate, h]) hx
  rw [hy] at hu
  cases hu
  rw [List.eq_of_mem_replicate (List.mem_of_getElem? hv)]; omega
theorem plus_assoc {L m p : List Int} (h : m.length = L.length) (h2 : p.length = L.length) : plusL (plusL L m) p = plusL L (plusL m p) := by
  have e1 := plus_len h
  have e2 := plus_len (L := m) (m := p) (by omega)
  have e3 : (plusL (plusL L m) p).length = (plusL L m).length := plus_len (by omega)
  have e4 : (plusL L (plusL m p)).length = L.length := plus_len (by omega)
  refine vec_ext (by omega) fun i x y hx hy => ?_
  obtain ⟨u, v, hu, hv, rfl⟩ := plus_get (by omega) hx
  obtain ⟨u1, u2, hu1, hu2, rfl⟩ := plus_get h hu
  obtain ⟨s, t, hs, ht, rfl⟩ := plus_get (by omega) hy
  obtain ⟨t1, t2, ht1, ht2, rfl⟩ := plus_get (by omega) ht
  rw [hu1] at hs
  rw [hu2] at ht1
  rw [hv] at ht2
  cases hs; cases ht1; cases ht2
  omega
theorem plus_comm (L m : List Int) : plusL L m = plusL m L := by
  unfold plusL; rw [List.zipWith_comm]; congr 1; funext x y; omega
theorem less_plus {L m : List Int} (h : m.length = L.length) : plusL (lessL L m) m = L := by
  refine vec_ext (by rw [plus_len (by rw [less_len h, h]), less_len h]) fun i x y hx hy => ?_
  obtain ⟨u, v, hu, hv, rfl⟩ := plus_get (by rw [less_len h, h]) hx
  obtain ⟨u1, u2, hu1, hu2, rfl⟩ := less_get h hu
  rw [hy] at hu1
  rw [hv] at hu2
  cases hu1; cases hu2
  omega
/-! ### Parts of weights -/
theorem sumK_parts (t : Int) (r : List Int) : ∀ k, k ≤ r.length → sumK (partsL t r) k = (Share.sm (Share.part t.toNat (wf r) r.length) k : Int)
  | 0, _ => rfl
  | k + 1, h => by rw [sumK_succ (partsL_at t (by omega)), sumK_parts t r k (by omega), Share.sm]; simp
theorem parts_sum {t : Int} {L : List Int} (h : Share.Ok t L) : sumZ (partsL t L) = t := by
  unfold sumZ
  rw [partsL_len, sumK_parts t L _ (Nat.le_refl _)]
  exact h.parts
theorem part_small {T n : Nat} {w : Nat → Nat} (hT : T ≤ Share.tw w n) (i : Nat) : Share.part T w n i ≤ w i := by
  rcases Nat.eq_zero_or_pos (Share.tw w n) with h0 | h0
  · unfold Share.part; rw [if_pos h0]; exact Nat.zero_le _
  · have h1 := quo_rst (T := T) (w := w) (n := n) i
    have h2 := (part_near (T := T) (w := w) (n := n) h0 i).2
    have h3 : T * w i ≤ Share.tw w n * w i := Nat.mul_le_mul_right _ hT
    by_cases hr : rst T w n i = 0
    · rw [if_pos hr] at h2
      have h4 : Share.tw w n * quo T w n i ≤ Share.tw w n * w i := by omega
      have := Nat.le_of_mul_le_mul_left h4 h0
      omega
    · rw [if_neg hr] at h2
      have h4 : Share.tw w n * quo T w n i < Share.tw w n * w i := by omega
      have := Nat.lt_of_mul_lt_mul_left h4
      omega
theorem parts_part {t : Int} {L : List Int} (h : Share.Ok t L) (ht : t ≤ sumZ L) {k : Nat} {x y : Int} (hx : (partsL t L)[k]? = some x) (hy : L[k]? = some y) : 0 ≤ x ∧ x ≤ y := by
  have hk : k < L.length := glt hy
  rw [partsL_at t hk] at hx
  have hx' := Option.some.inj hx
  have h1 := h.twI
  have h0 := h.t0
  have h2 := part_small (T := t.toNat) (w := wf L) (n := L.length) (by unfold sumZ at ht; omega) k
  have h3 := wf_at hy (h.all y (List.mem_of_getElem? hy)).1
  omega
end Go.Proofs.Ytihklpkpcnahkaa.Vec
/- Identifiers and tables of them as lists of strings: what the chapter says, in Lean. -/
namespace Go.Proofs.Ytihklpkpcnahkaa.Ident
open Go.ChangeShapes Go.WideShapes Go.RowKit
set_option linter.unusedVariables false
set_option maxRecDepth 100000

/-- A letter of ASCII. -/
def letN (n : Int) : Bool := (decide (65 ≤ n) && decide (n ≤ 90)) || (decide (97 ≤ n) && decide (n ≤ 122))
/-- What may stand behind the first byte. -/
def perN (n : Int) : Bool := letN n || (decide (48 ≤ n) && decide (n ≤ 57)) || decide (n = 45) || decide (n = 95) || decide (n = 46)
def byt (b : UInt8) : Int := (b.toNat : Int)
def perB (b : UInt8) : Bool := perN (byt b)
/-- An identifier: the bytes of a string. -/
def okB (l : List UInt8) : Bool := match l with
  | [] => false
  | b :: r => letN (byt b) && (b :: r).all perB && decide ((b :: r).length ≤ 32)
def validB (s : ByteArray) : Bool := okB s.data.toList
theorem letN_iff {n : Int} : letN n = true ↔ (65 ≤ n ∧ n ≤ 90) ∨ (97 ≤ n ∧ n ≤ 122) := by simp [letN]
theorem perN_iff {n : Int} : perN n = true ↔ (65 ≤ n ∧ n ≤ 90) ∨ (97 ≤ n ∧ n ≤ 122) ∨ (48 ≤ n ∧ n ≤ 57) ∨ n = 45 ∨ n = 95 ∨ n = 46 := by
  simp [perN, letN_iff, or_assoc]
theorem letN_per {n : Int} (h : letN n = true) : perN n = true := by simp [perN, h]
theorem str_get? (s : ByteArray) {k : Nat} (h : k < s.size) : s.data.toList[k]? = some s[k] := by
  rw [Array.getElem?_toList]
  exact Array.getElem?_eq_getElem h
theorem str_len (s : ByteArray) : s.data.toList.length = s.size := by rw [Array.length_toList]; rfl
theorem str_ext {a b : ByteArray} (h : a.data.toList = b.data.toList) : a = b := ByteArray.ext (Array.toList_inj.mp h)
theorem okB_nil : okB [] = false := rfl
theorem okB_long {l : List UInt8} (h : 32 < l.length) : okB l = false := by
  cases l with
  | nil => rfl
  | cons b r => simp only [okB]; rw [decide_eq_false (p := (b :: r).length ≤ 32) (by omega), Bool.and_false]
theorem okB_first {l : List UInt8} {b : UInt8} (h : l[0]? = some b) (hb : letN (byt b) = false) : okB l = false := by
  cases l with
  | nil => rfl
  | cons c r => simp at h; subst h; simp [okB, hb]
theorem okB_at {l : List UInt8} {k : Nat} {b : UInt8} (h : l[k]? = some b) (hb : perB b = false) : okB l = false := by
  have : l.all perB = false := by rw [List.all_eq_false]; exact ⟨b, List.mem_of_getElem? h, by simp [hb]⟩
  cases l with
  | nil => rfl
  | cons c r => simp only [okB]; rw [this]; simp
theorem okB_yes {l : List UInt8} {b : UInt8} (h : l[0]? = some b) (hb : letN (byt b) = true) (ha : l.all perB = true) (hl : l.length ≤ 32) : okB l = true := by
  cases l with
  | nil => simp at h
  | cons c r => simp at h; subst h; simp only [okB]; rw [hb, ha, decide_eq_true hl]; rfl
theorem okB_open {l : List UInt8} (h : okB l = true) : ∃ b r, l = b :: r ∧ letN (byt b) = true ∧ l.all perB = true ∧ l.length ≤ 32 := by
  cases l with
  | nil => cases h
  | cons b r =>
    simp only [okB, Bool.and_eq_true, decide_eq_true_eq] at h
    exact ⟨b, r, rfl, h.1.1, h.1.2, h.2⟩
theorem validB_size {s : ByteArray} (h : validB s = true) : 1 ≤ s.size ∧ s.size ≤ 32 := by
  obtain ⟨b, r, e, _, _, hl⟩ := okB_open h
  have h1 := str_len s
  rw [e] at h1 hl
  simp at h1 hl; omega

/-! ### A table's names -/
/-- Where a name stands first. -/
def pos (s : ByteArray) : List ByteArray → Option Nat
  | [] => none
  | x :: r => if x = s then some 0 else (pos s r).map (· + 1)
theorem pos_none {s : ByteArray} : ∀ {L : List ByteArray}, pos s L = none ↔ s ∉ L
  | [] => by simp [pos]
  | x :: r => by
    have ih := @pos_none s r
    unfold pos
    by_cases h : x = s
    · simp [h]
    · rw [if_neg h, Option.map_eq_none_iff, ih]
      simp only [List.mem_cons, not_or]
      exact ⟨fun h1 => ⟨fun e => h e.symm, h1⟩, fun h1 => h1.2⟩
theorem pos_some {s : ByteArray} : ∀ {L : List ByteArray} {k : Nat}, pos s L = some k → L[k]? = some s ∧ ∀ j, j < k → L[j]? ≠ some s
  | [], k, h => by simp [pos] at h
  | x :: r, k, h => by
    unfold pos at h
    by_cases e : x = s
    · rw [if_pos e] at h; cases h
      exact ⟨by simp [e], fun j hj => by omega⟩
    · rw [if_neg e] at h
      obtain ⟨j, hj, rfl⟩ := Option.map_eq_some_iff.mp h
      obtain ⟨h1, h2⟩ := pos_some hj
      refine ⟨by simpa using h1, fun i hi => ?_⟩
      cases i with
      | zero => simpa using e
      | succ i => simpa using h2 i (by omega)
theorem pos_of {s : ByteArray} : ∀ {L : List ByteArray} {k : Nat}, L[k]? = some s → (∀ j, j < k → L[j]? ≠ some s) → pos s L = some k
  | [], k, h, _ => by simp at h
  | x :: r, 0, h, _ => by simp at h; simp [pos, h]
  | x :: r, k + 1, h, hn => by
    have h0 := hn 0 (by omega)
    have e : x ≠ s := by simpa using h0
    unfold pos
    rw [if_neg e, pos_of (L := r) (k := k) (by simpa using h) (fun j hj => by simpa using hn (j + 1) (by omega))]; rfl
theorem pos_lt {s : ByteArray} {L : List ByteArray} {k : Nat} (h : pos s L = some k) : k < L.length := by
  have := (pos_some h).1
  exact (List.getElem?_eq_some_iff.mp this).1
theorem pos_mem {s : ByteArray} {L : List ByteArray} {k : Nat} (h : pos s L = some k) : s ∈ L := List.mem_of_getElem? (pos_some h).1
theorem pos_at {L : List ByteArray} (hn : L.Nodup) {k : Nat} {s : ByteArray} (h : L[k]? = some s) : pos s L = some k := by
  refine pos_of h fun j hj h' => ?_
  obtain ⟨h1, e1⟩ := List.getElem?_eq_some_iff.mp h
  obtain ⟨h2, e2⟩ := List.getElem?_eq_some_iff.mp h'
  have := (List.getElem_inj (h₀ := h2) (h₁ := h1) hn).mp (e2.trans e1.symm)
  omega
theorem pos_snoc {s x : ByteArray} {L : List ByteArray} : pos s (L ++ [x]) = match pos s L with | some k => some k | none => if x = s then some L.length else none := by
  induction L with
  | nil => simp [pos]
  | cons y r ih =>
    simp only [List.cons_append, pos]
    by_cases e : y = s
    · simp [e]
    · rw [if_neg e, if_neg e, ih]
      cases hp : pos s r with
      | some k => simp
      | none => by_cases e2 : x = s <;> simp [e2]
def fndI (s : ByteArray) (L : List ByteArray) : Int := match pos s L with | some k => (k : Int) | none => 0
def fndB (s : ByteArray) (L : List ByteArray) : Bool := (pos s L).isSome
theorem fnd_some {s : ByteArray} {L : List ByteArray} {k : Nat} (h : pos s L = some k) : fndI s L = (k : Int) ∧ fndB s L = true := by simp [fndI, fndB, h]
theorem fnd_none {s : ByteArray} {L : List ByteArray} (h : pos s L = none) : fndI s L = 0 ∧ fndB s L = false := by simp [fndI, fndB, h]
theorem fndB_iff {s : ByteArray} {L : List ByteArray} : fndB s L = true ↔ s ∈ L := by
  cases h : pos s L with
  | some k => rw [(fnd_some h).2]; exact ⟨fun _ => pos_mem h, fun _ => rfl⟩
  | none => rw [(fnd_none h).2]; exact ⟨fun e => (by cases e), fun e => absurd e (pos_none.mp h)⟩
theorem fndB_no {s : ByteArray} {L : List ByteArray} (h : fndB s L = false) : s ∉ L := fun e => by rw [fndB_iff.mpr e] at h; cases h

/-! ### Add -/
def addE (L : List ByteArray) (s : ByteArray) : Int := if validB s = false then 5 else if fndB s L = true then 6 else if L.length = 512 then 8 else 0
def addI (L : List ByteArray) (s : ByteArray) : Int := if addE L s = 0 then (L.length : Int) else 0
def addL (L : List ByteArray) (s : ByteArray) : List ByteArray := if addE L s = 0 then L ++ [s] else L
theorem addE_bad {L : List ByteArray} {s : ByteArray} (h : validB s = false) : addE L s = 5 := by simp [addE, h]
theorem addE_twice {L : List ByteArray} {s : ByteArray} (h : validB s = true) (h2 : fndB s L = true) : addE L s = 6 := by simp [addE, h, h2]
theorem addE_full {L : List ByteArray} {s : ByteArray} (h : validB s = true) (h2 : fndB s L = false) (h3 : L.length = 512) : addE L s = 8 := by simp [addE, h, h2, h3]
theorem addE_ok {L : List ByteArray} {s : ByteArray} (h : validB s = true) (h2 : fndB s L = false) (h3 : ¬ L.length = 512) : addE L s = 0 := by simp [addE, h, h2, h3]
theorem addE_zero {L : List ByteArray} {s : ByteArray} (h : addE L s = 0) : validB s = true ∧ fndB s L = false ∧ ¬ L.length = 512 := by
  unfold addE at h
  split at h
  · cases h
  split at h
  · cases h
  split at h
  · cases h
  rename_i h1 h2 h3
  exact ⟨by simpa using h1, by simpa using h2, h3⟩
theorem add_no {L : List ByteArray} {s : ByteArray} (h : ¬ addE L s = 0) : addI L s = 0 ∧ addL L s = L := by simp [addI, addL, h]
theorem add_yes {L : List ByteArray} {s : ByteArray} (h : addE L s = 0) : addI L s = (L.length : Int) ∧ addL L s = L ++ [s] := by simp [addI, addL, h]
/-- What holds of a table's names. -/
structure Good (L : List ByteArray) : Prop where
  nodup : L.Nodup
  valid : ∀ s ∈ L, validB s = true
  len : L.length ≤ 512
theorem Good.nil : Good [] := ⟨List.nodup_nil, by simp, by simp⟩
theorem Good.snoc {L : List ByteArray} {s : ByteArray} (h : Good L) (hv : validB s = true) (hf : s ∉ L) (hl : L.length ≠ 512) : Good (L ++ [s]) := by
  refine ⟨List.nodup_append.mpr ⟨h.nodup, by simp, fun a ha b hb => by simp at hb; subst hb; exact fun e => hf (e ▸ ha)⟩, fun t ht => ?_, ?_⟩
  · rcases List.mem_append.mp ht with h1 | h1
    · exact h.valid t h1
    · simp at h1; subst h1; exact hv
  · have := h.len; simp; omega
theorem Good.add {L : List ByteArray} (h : Good L) (s : ByteArray) : Good (addL L s) := by
  unfold addL
  split
  · rename_i e
    obtain ⟨h1, h2, h3⟩ := addE_zero e
    exact h.snoc h1 (fndB_no h2) h3
  · exact h
/-- What New answers. -/
def newE (L : List ByteArray) : Int := if 512 < L.length then 8 else if L.all validB = false then 5 else if L.Nodup then 0 else 6
theorem newE_full {L : List ByteArray} (h : 512 < L.length) : newE L = 8 := by simp [newE, h]
theorem newE_bad {L : List ByteArray} (h : ¬ 512 < L.length) (h2 : L.all validB = false) : newE L = 5 := by unfold newE; rw [if_neg h, if_pos h2]
theorem newE_twice {L : List ByteArray} (h : ¬ 512 < L.length) (h2 : L.all validB = true) (h3 : ¬ L.Nodup) : newE L = 6 := by unfold newE; rw [if_neg h, if_neg (by simp [h2]), if_neg h3]
theorem newE_ok {L : List ByteArray} (h : ¬ 512 < L.length) (h2 : L.all validB = true) (h3 : L.Nodup) : newE L = 0 := by unfold newE; rw [if_neg h, if_neg (by simp [h2]), if_pos h3]
theorem newE_zero {L : List ByteArray} : newE L = 0 ↔ Good L := by
  constructor
  · intro h
    unfold newE at h
    split at h
    · cases h
    split at h
    · cases h
    split at h
    · rename_i h1 h2 h3
      have h2' : L.all validB = true := by simpa using h2
      exact ⟨h3, fun s hs => List.all_eq_true.mp h2' s hs, by omega⟩
    · cases h
  · intro h
    exact newE_ok (by have := h.len; omega) (List.all_eq_true.mpr h.valid) h.nodup

/-! ### The map -/
def key (s : ByteArray) : Lit := .string s.data.toList
theorem key_inj {a b : ByteArray} (h : key a = key b) : a = b := str_ext (by simpa [key] using h)
/-- The map reads as the indices of the names. -/
def Dct (D : DataW Unit) (L : List ByteArray) : Prop :=
  Maps.IsMap D ∧ ∀ s, (∀ k, pos s L = some k → Maps.has D (key s) = true ∧ ∀ z, D.atKey (key s) z = .lit (.int .i64 (k : Int))) ∧ (pos s L = none → Maps.has D (key s) = false)
theorem Dct.nil : Dct (.map []) [] := ⟨Maps.isMap_empty, fun s => ⟨fun k h => by simp [pos] at h, fun _ => rfl⟩⟩
theorem Dct.snoc {D : DataW Unit} {L : List ByteArray} {x : ByteArray} (h : Dct D L) (hx : x ∉ L) : Dct (D.put (key x) (.lit (.int .i64 (L.length : Int)))) (L ++ [x]) := by
  have hk : WideAt.IsKeyLit (key x) := trivial
  refine ⟨h.1.put _ _, fun s => ?_⟩
  have hp := @pos_snoc s x L
  by_cases e : x = s
  · subst e
    rw [pos_none.mpr hx] at hp
    simp only [if_true] at hp
    rw [hp]
    exact ⟨fun k hk' => by cases hk'; exact ⟨Maps.has_put_same h.1 hk _, fun z => Maps.atKey_put_same h.1 hk _ z⟩, fun h => by cases h⟩
  · have hne : key s ≠ key x := fun h' => e (key_inj h').symm
    have hp' : pos s (L ++ [x]) = pos s L := by rw [hp]; cases pos s L <;> simp [e]
    rw [hp']
    refine ⟨fun k hk' => ?_, fun hk' => ?_⟩
    · rw [Maps.has_put_other hne]
      exact ⟨((h.2 s).1 k hk').1, fun z => by rw [Maps.atKey_put_other hne]; exact ((h.2 s).1 k hk').2 z⟩
    · rw [Maps.has_put_other hne]; exact (h.2 s).2 hk'
theorem Dct.has {D : DataW Unit} {L : List ByteArray} (h : Dct D L) (s : ByteArray) : Maps.has D (key s) = fndB s L := by
  cases hp : pos s L with
  | some k => rw [((h.2 s).1 k hp).1, (fnd_some hp).2]
  | none => rw [(h.2 s).2 hp, (fnd_none hp).2]
theorem Dct.at_ {D : DataW Unit} {L : List ByteArray} (h : Dct D L) (s : ByteArray) {c : Int} (hc : D.atKey (key s) (.lit (.int .i64 0)) = .lit (.int .i64 c)) : c = fndI s L := by
  cases hp : pos s L with
  | some k =>
    rw [((h.2 s).1 k hp).2] at hc
    have e : (k : Int) = c := by simpa using hc
    rw [(fnd_some hp).1, e]
  | none =>
    rw [Maps.atKey_of_not_has ((h.2 s).2 hp)] at hc
    have e : (0 : Int) = c := by simpa using hc
    rw [(fnd_none hp).1, e]
end Go.Proofs.Ytihklpkpcnahkaa.Ident
/- Kinds of fibre, recipes, masses: errors and values (pure). -/
namespace Go.Proofs.Ytihklpkpcnahkaa.Fibre
open Go.Proofs.Ytihklpkpcnahkaa.Share (sumK sumK_succ sumK_zero partsL partsL_len partsL_at wf wf_at sm part quo rst lft rank quo_rst rst_lt part_near)
open Go.Proofs.Ytihklpkpcnahkaa.Ident (validB)
set_option linter.unusedVariables false

abbrev MM : Int := 1099511627776
/-! ### Lists -/
def sumZ (l : List Int) : Int := sumK l l.length
def inM (most z : Int) : Bool := decide (0 ≤ z) && decide (z ≤ most)
theorem inM_iff {most z : Int} : inM most z = true ↔ 0 ≤ z ∧ z ≤ most := by unfold inM; simp only [Bool.and_eq_true, decide_eq_true_iff]
/-- The error of a list for a number of kinds. -/
def kiB (l : List Int) (kinds : Int) : Bool := decide (1 ≤ kinds) && (decide (kinds ≤ 8) && decide ((l.length : Int) = kinds))
theorem kiB_iff {l : List Int} {kinds : Int} : kiB l kinds = true ↔ 1 ≤ kinds ∧ kinds ≤ 8 ∧ (l.length : Int) = kinds := by unfold kiB; simp only [Bool.and_eq_true, decide_eq_true_iff]
def lisE (l : List Int) (kinds most : Int) : Int := if kiB l kinds then (if l.all (inM most) then 0 else 1) else 17
theorem lisE_no {l : List Int} {kinds most : Int} (h : kiB l kinds = false) : lisE l kinds most = 17 := by unfold lisE; rw [h]; rfl
theorem lisE_bad {l : List Int} {kinds most : Int} (h : kiB l kinds = true) {k : Nat} {z : Int} (hz : l[k]? = some z) (hb : inM most z = false) : lisE l kinds most = 1 := by
  unfold lisE
  have : ¬ l.all (inM most) = true := fun ha => by
    have := List.all_eq_true.mp ha z (List.mem_of_getElem? hz)
    rw [hb] at this; cases this
  rw [h, if_pos rfl, if_neg this]
theorem lisE_ok {l : List Int} {kinds most : Int} (h : kiB l kinds = true) (ha : ∀ (k : Nat) (z : Int), l[k]? = some z → inM most z = true) : lisE l kinds most = 0 := by
  unfold lisE
  rw [h, if_pos rfl, if_pos (List.all_eq_true.mpr fun z hz => by
    obtain ⟨k, hk⟩ := List.mem_iff_getElem?.mp hz
    exact ha k z hk)]
theorem lisE_of {l : List Int} {kinds most : Int} (h : lisE l kinds most = 0) : 1 ≤ l.length ∧ l.length ≤ 8 ∧ (l.length : Int) = kinds ∧ ∀ z ∈ l, 0 ≤ z ∧ z ≤ most := by
  unfold lisE at h
  cases hk : kiB l kinds with
  | false => rw [hk] at h; cases h
  | true =>
    rw [hk, if_pos rfl] at h
    have h1 := kiB_iff.mp hk
    by_cases h2 : l.all (inM most) = true
    · exact ⟨by omega, by omega, h1.2.2, fun z hz => inM_iff.mp (List.all_eq_true.mp h2 z hz)⟩
    · rw [if_neg h2] at h; cases h
theorem lisE_mk {l : List Int} {kinds most : Int} (h0 : 1 ≤ kinds) (h1 : kinds ≤ 8) (h2 : (l.length : Int) = kinds) (ha : ∀ z ∈ l, 0 ≤ z ∧ z ≤ most) : lisE l kinds most = 0 :=
  lisE_ok (kiB_iff.mpr ⟨h0, h1, h2⟩) fun k z hz => inM_iff.mpr (ha z (List.mem_of_getElem? hz))
theorem lisE_cases (l : List Int) (kinds most : Int) : lisE l kinds most = 0 ∨ lisE l kinds most = 1 ∨ lisE l kinds most = 17 := by
  unfold lisE
  split
  · split
    · exact Or.inl rfl
    · exact Or.inr (Or.inl rfl)
  · exact Or.inr (Or.inr rfl)
/-- Partial sums are bounded. -/
theorem sumK_lim {most : Int} {l : List Int} (h : ∀ z ∈ l, 0 ≤ z ∧ z ≤ most) : ∀ k, k ≤ l.length → 0 ≤ sumK l k ∧ sumK l k ≤ most * k
  | 0, _ => by rw [sumK_zero]; simp
  | k + 1, hk => by
    have ih := sumK_lim h k (by omega)
    obtain ⟨z, hz⟩ : ∃ z, l[k]? = some z := ⟨_, List.getElem?_eq_getElem (by omega)⟩
    have hz2 := h z (List.mem_of_getElem? hz)
    rw [sumK_succ hz, show ((k + 1 : Nat) : Int) = (k : Int) + 1 by omega, Int.mul_add, Int.mul_one]
    omega
theorem sumZ_lim {most : Int} {l : List Int} (h0 : 0 ≤ most) (h : ∀ z ∈ l, 0 ≤ z ∧ z ≤ most) (hl : l.length ≤ 8) : 0 ≤ sumZ l ∧ sumZ l ≤ most * 8 := by
  have := sumK_lim h l.length (Nat.le_refl _)
  refine ⟨this.1, Int.le_trans this.2 (Int.mul_le_mul_of_nonneg_left (by omega) h0)⟩
def recE (r : List Int) (kinds : Int) : Int := if lisE r kinds 1000 = 0 then (if sumZ r = 1000 then 0 else 18) else lisE r kinds 1000
def parE (m : List Int) (kinds : Int) : Int := lisE m kinds MM
theorem recE_of {r : List Int} {kinds : Int} (h : recE r kinds = 0) : lisE r kinds 1000 = 0 ∧ sumZ r = 1000 := by
  unfold recE at h
  by_cases h1 : lisE r kinds 1000 = 0
  · rw [if_pos h1] at h
    by_cases h2 : sumZ r = 1000
    · exact ⟨h1, h2⟩
    · rw [if_neg h2] at h; cases h
  · rw [if_neg h1] at h; exact absurd h h1
def lenI (l : List Int) : Int := l.length
def masE (r : List Int) (mass : Int) : Int := if recE r (lenI r) = 0 then (if inM MM mass then 0 else 1) else recE r (lenI r)
def masL (r : List Int) (mass : Int) : List Int := if masE r mass = 0 then partsL mass r else []
def totE (m : List Int) : Int := parE m (lenI m)
def totV (m : List Int) : Int := if totE m = 0 then sumZ m else 0
theorem masE_of {r : List Int} {mass : Int} (h : masE r mass = 0) : recE r (lenI r) = 0 ∧ 0 ≤ mass ∧ mass ≤ MM := by
  unfold masE at h
  by_cases h1 : recE r (lenI r) = 0
  · rw [if_pos h1] at h
    cases h2 : inM MM mass with
    | true => exact ⟨h1, inM_iff.mp h2⟩
    | false => rw [h2] at h; cases h
  · rw [if_neg h1] at h; exact absurd h h1
/-! ### Add -/
def addZ : List Int → List Int → List Int
  | x :: a, y :: b => (x + y) :: addZ a b
  | _, _ => []
theorem addZ_len : ∀ {a b : List Int}, a.length = b.length → (addZ a b).length = a.length
  | [], [], _ => rfl
  | x :: a, y :: b, h => by
    have := addZ_len (a := a) (b := b) (by simpa using h)
    rw [addZ, List.length_cons, List.length_cons, this]
  | [], y :: b, h => by cases h
  | x :: a, [], h => by cases h
theorem addZ_at : ∀ {a b : List Int} {k : Nat} {x y : Int}, a[k]? = some x → b[k]? = some y → (addZ a b)[k]? = some (x + y)
  | [], _, _, _, _, h, _ => by simp at h
  | _ :: _, [], _, _, _, _, h => by simp at h
  | x :: a, y :: b, 0, _, _, h, k => by
    simp at h k; subst h; subst k; rfl
  | x :: a, y :: b, n + 1, _, _, h, k => by
    rw [List.getElem?_cons_succ] at h k
    rw [addZ, List.getElem?_cons_succ]
    exact addZ_at h k
theorem addZ_comm : ∀ (a b : List Int), addZ a b = addZ b a
  | [], [] => rfl
  | [], y :: b => rfl
  | x :: a, [] => rfl
  | x :: a, y :: b => by rw [addZ, addZ, addZ_comm a b, Int.add_comm]
def addE (a b : List Int) : Int :=
  if a.length = b.length then (if totE a = 0 then (if totE b = 0 then (if (addZ a b).all (fun z => decide (z ≤ MM)) then 0 else 2) else totE b) else totE a) else 17
def addL (a b : List Int) : List Int := if addE a b = 0 then addZ a b else []
theorem addE_of {a b : List Int} (h : addE a b = 0) : a.length = b.length ∧ totE a = 0 ∧ totE b = 0 ∧ ∀ z ∈ addZ a b, z ≤ MM := by
  unfold addE at h
  by_cases h1 : a.length = b.length
  · rw [if_pos h1] at h
    by_cases h2 : totE a = 0
    · rw [if_pos h2] at h
      by_cases h3 : totE b = 0
      · rw [if_pos h3] at h
        by_cases h4 : (addZ a b).all (fun z => decide (z ≤ MM)) = true
        · exact ⟨h1, h2, h3, fun z hz => of_decide_eq_true (List.all_eq_true.mp h4 z hz)⟩
        · rw [if_neg h4] at h; cases h
      · rw [if_neg h3] at h; exact absurd h h3
    · rw [if_neg h2] at h; exact absurd h h2
  · rw [if_neg h1] at h; cases h
/-! ### Kinds -/
abbrev Fb := ByteArray × Int
def elE (f : Fb) : Int := if validB f.1 then (if inM 1000000000 f.2 then 0 else 1) else 5
def firE : List Fb → Int
  | [] => 0
  | f :: l => if elE f = 0 then firE l else elE f
/-- Two kinds have one name: the later one finds an earlier one. -/
def twB : List Fb → Bool
  | [] => false
  | f :: l => l.any (fun g => decide (g.1 = f.1)) || twB l
theorem twB_iff : ∀ {l : List Fb}, twB l = true ↔ ∃ (i k : Nat) (f g : Fb), k < i ∧ l[i]? = some f ∧ l[k]? = some g ∧ f.1 = g.1
  | [] => ⟨fun h => (by cases h), fun ⟨i, k, f, g, _, h, _⟩ => (by simp at h)⟩
  | f :: l => by
    rw [twB, Bool.or_eq_true, twB_iff (l := l), List.any_eq_true]
    constructor
    · rintro (⟨g, hg, h⟩ | ⟨i, k, x, y, hk, hx, hy, h⟩)
      · obtain ⟨j, hj⟩ := List.mem_iff_getElem?.mp hg
        exact ⟨j + 1, 0, g, f, by omega, by rw [List.getElem?_cons_succ]; exact hj, rfl, of_decide_eq_true h⟩
      · exact ⟨i + 1, k + 1, x, y, by omega, by rw [List.getElem?_cons_succ]; exact hx, by rw [List.getElem?_cons_succ]; exact hy, h⟩
    · rintro ⟨i, k, x, y, hk, hx, hy, h⟩
      cases i with
      | zero => omega
      | succ i =>
        rw [List.getElem?_cons_succ] at hx
        cases k with
        | zero =>
          simp at hy; subst hy
          exact Or.inl ⟨x, List.mem_of_getElem? hx, decide_eq_true h⟩
        | succ k =>
          rw [List.getElem?_cons_succ] at hy
          exact Or.inr ⟨i, k, x, y, by omega, hx, hy, h⟩
theorem twB_no {l : List Fb} (h : ∀ (i k : Nat) (f g : Fb), k < i → l[i]? = some f → l[k]? = some g → ¬ f.1 = g.1) : twB l = false := by
  cases ht : twB l with
  | false => rfl
  | true =>
    obtain ⟨i, k, f, g, hk, hf, hg, e⟩ := twB_iff.mp ht
    exact absurd e (h i k f g hk hf hg)
theorem firE_bad : ∀ {l : List Fb} {k : Nat} {f : Fb}, l[k]? = some f → ¬ elE f = 0 → (∀ (j : Nat) (g : Fb), j < k → l[j]? = some g → elE g = 0) → firE l = elE f
  | [], _, _, h, _, _ => by simp at h
  | g :: l, 0, f, h, hb, _ => by simp at h; subst h; rw [firE, if_neg hb]
  | g :: l, k + 1, f, h, hb, ha => by
    rw [List.getElem?_cons_succ] at h
    rw [firE, if_pos (ha 0 g (by omega) rfl)]
    exact firE_bad h hb fun j x hj hx => ha (j + 1) x (by omega) (by rw [List.getElem?_cons_succ]; exact hx)
theorem firE_ok : ∀ {l : List Fb}, (∀ (j : Nat) (g : Fb), l[j]? = some g → elE g = 0) → firE l = 0
  | [], _ => rfl
  | g :: l, h => by
    rw [firE, if_pos (h 0 g rfl)]
    exact firE_ok fun j x hx => h (j + 1) x (by rw [List.getElem?_cons_succ]; exact hx)
theorem firE_of : ∀ {l : List Fb}, firE l = 0 → ∀ f ∈ l, elE f = 0
  | [], _, f, hf => by simp at hf
  | g :: l, h, f, hf => by
    rw [firE] at h
    by_cases hg : elE g = 0
    · rw [if_pos hg] at h
      rcases List.mem_cons.mp hf with rfl | hf
      · exact hg
      · exact firE_of h f hf
    · rw [if_neg hg] at h; exact absurd h hg
def chkE (l : List Fb) : Int := if l.length = 0 then 10 else if 8 < l.length then 8 else if firE l = 0 then (if twB l then 6 else 0) else firE l
theorem chkE_of {l : List Fb} (h : chkE l = 0) : 1 ≤ l.length ∧ l.length ≤ 8 ∧ ∀ f ∈ l, 0 ≤ f.2 ∧ f.2 ≤ 1000000000 := by
  unfold chkE at h
  by_cases h1 : l.length = 0
  · rw [if_pos h1] at h; cases h
  · rw [if_neg h1] at h
    by_cases h2 : 8 < l.length
    · rw [if_pos h2] at h; cases h
    · rw [if_neg h2] at h
      by_cases h3 : firE l = 0
      · refine ⟨by omega, by omega, fun f hf => ?_⟩
        have := firE_of h3 f hf
        unfold elE at this
        split at this
        · split at this
          · rename_i h5; exact inM_iff.mp h5
          · cases this
        · cases this
      · rw [if_neg h3] at h; exact absurd h h3
/-! ### Cost: whatever the product of two numbers is rounded to -/
def cosS (md : Int → Int → Int) : List Fb → List Int → Int
  | f :: l, z :: m => md f.2 z + cosS md l m
  | _, _ => 0
/-- The sum of the first k. -/
def cosK (md : Int → Int → Int) (l : List Fb) (m : List Int) (k : Nat) : Int := cosS md (l.take k) (m.take k)
theorem cosS_snoc (md : Int → Int → Int) (f : Fb) (z : Int) : ∀ {l : List Fb} {m : List Int}, l.length = m.length → cosS md (l ++ [f]) (m ++ [z]) = cosS md l m + md f.2 z
  | [], [], _ => by simp [cosS]
  | g :: l, y :: m, h => by
    have := cosS_snoc md f z (l := l) (m := m) (by simpa using h)
    rw [List.cons_append, List.cons_append, cosS, cosS, this]; omega
  | [], y :: m, h => by cases h
  | g :: l, [], h => by cases h
theorem cosK_succ {md : Int → Int → Int} {l : List Fb} {m : List Int} (hl : l.length = m.length) {k : Nat} {f : Fb} {z : Int} (hf : l[k]? = some f) (hz : m[k]? = some z) : cosK md l m (k + 1) = cosK md l m k + md f.2 z := by
  unfold cosK
  have hk : k < l.length := by rw [List.getElem?_eq_some_iff] at hf; exact hf.1
  rw [List.take_add_one, List.take_add_one, hf, hz]
  exact cosS_snoc md f z (by rw [List.length_take, List.length_take, hl])
theorem cosK_all (md : Int → Int → Int) (l : List Fb) (m : List Int) {k : Nat} (h1 : l.length ≤ k) (h2 : m.length ≤ k) : cosK md l m k = cosS md l m := by
  unfold cosK
  rw [List.take_of_length_le h1, List.take_of_length_le h2]
def cosE (md : Int → Int → Int) (l : List Fb) (m : List Int) : Int :=
  if chkE l = 0 then (if parE m (l.length : Int) = 0 then (if 1000000000000 < cosS md l m then 2 else 0) else parE m (l.length : Int)) else chkE l
def cosV (md : Int → Int → Int) (l : List Fb) (m : List Int) : Int := if cosE md l m = 0 then cosS md l m else 0
/-! ### Near -/
def nea1 (t tol x r : Int) : Bool := decide (1000 * x - r * t ≤ tol * t) && decide (-(tol * t) ≤ 1000 * x - r * t)
def neaB (t tol : Int) : List Int → List Int → Bool
  | x :: m, r :: l => nea1 t tol x r && neaB t tol m l
  | _, _ => true
theorem neaB_bad : ∀ {t tol : Int} {m l : List Int} {k : Nat} {x r : Int}, m[k]? = some x → l[k]? = some r → nea1 t tol x r = false → neaB t tol m l = false
  | _, _, [], _, _, _, _, h, _, _ => by simp at h
  | _, _, _ :: _, [], _, _, _, _, h, _ => by simp at h
  | t, tol, y :: m, s :: l, 0, x, r, h, k, hb => by
    simp at h k; subst h; subst k
    rw [neaB, hb]; rfl
  | t, tol, y :: m, s :: l, n + 1, x, r, h, k, hb => by
    rw [List.getElem?_cons_succ] at h k
    rw [neaB, neaB_bad h k hb, Bool.and_false]
theorem neaB_ok : ∀ {t tol : Int} {m l : List Int}, (∀ (k : Nat) (x r : Int), m[k]? = some x → l[k]? = some r → nea1 t tol x r = true) → neaB t tol m l = true
  | _, _, [], _, _ => by rw [neaB]; intro _ _ _ _ h; cases h
  | _, _, _ :: _, [], _ => by rw [neaB]; intro _ _ _ _ _ h; cases h
  | t, tol, y :: m, s :: l, h => by
    rw [neaB, h 0 y s rfl rfl, Bool.true_and]
    exact neaB_ok fun k x r hx hr => h (k + 1) x r (by rw [List.getElem?_cons_succ]; exact hx) (by rw [List.getElem?_cons_succ]; exact hr)
def neaE (m r : List Int) (tol : Int) : Int :=
  if recE r (lenI r) = 0 then (if parE m (lenI r) = 0 then (if inM 1000 tol then (if sumZ m = 0 then 10 else 0) else 1) else parE m (lenI r)) else recE r (lenI r)
def neaV (m r : List Int) (tol : Int) : Bool := decide (neaE m r tol = 0) && neaB (sumZ m) tol m r
theorem neaE_of {m r : List Int} {tol : Int} (h : neaE m r tol = 0) : recE r (lenI r) = 0 ∧ parE m (lenI r) = 0 ∧ (0 ≤ tol ∧ tol ≤ 1000) ∧ ¬ sumZ m = 0 := by
  unfold neaE at h
  by_cases h1 : recE r (lenI r) = 0
  · rw [if_pos h1] at h
    by_cases h2 : parE m (lenI r) = 0
    · rw [if_pos h2] at h
      cases h3 : inM 1000 tol with
      | false => rw [h3] at h; cases h
      | true =>
        rw [h3, if_pos rfl] at h
        by_cases h4 : sumZ m = 0
        · rw [if_pos h4] at h; cases h
        · exact ⟨h1, h2, inM_iff.mp h3, h4⟩
    · rw [if_neg h2] at h; exact absurd h h2
  · rw [if_neg h1] at h; exact absurd h h1
end Go.Proofs.Ytihklpkpcnahkaa.Fibre
