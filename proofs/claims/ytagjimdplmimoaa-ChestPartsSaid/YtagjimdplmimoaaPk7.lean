/- Several texts in one: ShareD, ShareE, ShareF, MemB, ShareG, ShareH. -/
import Derived.Test.YtagjimdplmimoaaPk4
import Derived.Test.YtagjimdplmimoaaPk6
import Derived.Test.YtagjimdplmimoaaPk3
import Derived.Deep.Cut
import Derived.Deep.CutRange
import Derived.BigRegion
import Derived.Test.YtagjimdplmimoaaPk1
import Derived.Laws.CopyOwn
/- The comparison of remainders; share.largestFirst. -/
namespace Go.Proofs.Ytagjimdplmimoaa.Share
open Go.ChangeShapes Go.WideShapes Go.RowKit Go.Lib Go.Proofs.Ytagjimdplmimoaa.Mem Go.Proofs.Ytagjimdplmimoaa.Stable
set_option linter.unusedVariables false
set_option maxRecDepth 100000

theorem own_more {α : Type} {enc : α → Value} {t : TypeId} {B B' g n cap : Nat} {w : World} {L : List α} (h : Own enc t B w (.slice (some ⟨g, 0, none⟩) n cap) L) (hB : B' ≤ g) : Own enc t B' w (.slice (some ⟨g, 0, none⟩) n cap) L := by
  obtain ⟨h1, ⟨e, h0⟩ | ⟨g', cap', cur, e, h2, h3⟩⟩ := h
  · cases e
  · cases e
    exact ⟨h1, Or.inr ⟨g, cap, cur, rfl, hB, h3⟩⟩
/-- The remainder at k against that at i. -/
def cfR (r : Nat → Nat) (i k : Nat) : Int := Lib.compareInt (r k : Int) (r i : Int)
theorem cfR_neg (r : Nat → Nat) {i k : Nat} (h : k < i) : decide (cfR r i k < 0) = bt r i k := by
  unfold cfR Lib.compareInt
  rw [Bool.eq_iff_iff, bt_iff, decide_eq_true_iff]
  by_cases h1 : (r k : Int) < (r i : Int)
  · rw [if_pos h1]; simp; omega
  · rw [if_neg h1]
    split
    · simp; omega
    · simp; omega
theorem bt_sto (r : Nat → Nat) : Sto (bt r) := ⟨bt_irr r, fun i j k h1 h2 => bt_trans h1 h2, fun i j h => bt_total h⟩

set_option maxHeartbeats 800000 in
theorem cmp_run (n c gb : Nat) (A : Option Addr) (r : Nat → Nat) (W : World) (c1 : W.cell? ⟨gb, 0, none⟩ = some (.slice A n c)) (c2 : Cl eI W A (lst (fun i => (r i : Int)) n)) (x y : Nat) (hx : x < n) (hy : y < n) :
    Calls Try.prog 70 #[.int .i64 (x : Int), .int .i64 (y : Int), .pointer (some ⟨gb, 0, none⟩)] W fun e w' => e = .returned (.int .i64 (cfR r x y)) ∧ Below W.heap.size W w' := by
  obtain ⟨b, off, rfl, hb, k1⟩ := c2 x _ (lst_at _ hx)
  obtain ⟨b', off', e, hb', k2⟩ := c2 y _ (lst_at _ hy)
  cases e
  obtain ⟨p, hp⟩ : ∃ p : Int, p = (r x : Int) := ⟨_, rfl⟩
  obtain ⟨q, hq⟩ : ∃ q : Int, q = (r y : Int) := ⟨_, rfl⟩
  have HRES : Hid (cfR r x y = Lib.compareInt q p) := (by rw [hp, hq]; rfl : cfR r x y = Lib.compareInt q p)
  have f1 : W.cell? ⟨b, off + x, none⟩ = some (.int .i64 p) := by rw [k1, hp]
  have f2 : W.cell? ⟨b, off + y, none⟩ = some (.int .i64 q) := by rw [k2, hq]
  have i1 : (x : Int) < (n : Int) := by omega
  have i2 : (0 : Int) ≤ (x : Int) := by omega
  have i3 : (y : Int) < (n : Int) := by omega
  have i4 : (0 : Int) ≤ (y : Int) := by omega
  have hcon := fun W => Try.cmp_Compare_int q p W
  obtain ⟨z, hz⟩ : ∃ z, z = Lib.compareInt q p := ⟨_, rfl⟩
  rw [← hz] at hcon HRES
  have HCON := Lib.hid hcon
  clear hcon hz hp hq c2 k1 k2 hb'
  go_enter Try.func70, Try.ntmps70
  go_wp2_with fail
  go_quiet ((go_at_call 71; refine Calls.quiet_of_same (HCON.out _)))
  go_wp2_with fail
  go_ret
  exact ⟨ret_int HRES.out.symm, below_drewN (Below.refl _ _) _⟩

theorem cl_keep {w W : World} {A : Option Addr} {L : List Int} (h : Cl eI w A L) (hs : w.heap.size ≤ W.heap.size) (hk : ∀ b, b < w.heap.size → W.heap[b]? = w.heap[b]?) : Cl eI W A L := by
  intro k z hz
  obtain ⟨b, off, e, hlt, h0⟩ := h k z hz
  exact ⟨b, off, e, Nat.lt_of_lt_of_le hlt hs, (World.cell?_of_block (a := ⟨b, off + k, none⟩) (hk b hlt)).trans h0⟩
theorem cm_run (r : Nat → Nat) (n c gb g : Nat) (A : Option Addr) (w w0 : World) (hR : Cl eI w A (lst (fun i => (r i : Int)) n)) (hb : Below w.heap.size w w0) (hc : w0.cell? ⟨gb, 0, none⟩ = some (.slice A n c)) (hgb : gb < w0.heap.size) (hne : gb ≠ g) (hg : w.heap.size ≤ g) :
    Cm (fun k => (k : Int)) (bt r) n g w0 70 #[.pointer (some ⟨gb, 0, none⟩)] (cfR r) := by
  refine ⟨enters_of Try.func70 (by kernel_rfl) rfl, fun i j hij _ => cfR_neg r hij, fun i j W hij hi ho => ?_⟩
  have c1 : W.cell? ⟨gb, 0, none⟩ = some (.slice A n c) := (World.cell?_of_block (a := ⟨gb, 0, none⟩) (ho.block gb hgb hne)).trans hc
  have c2 : Cl eI W A (lst (fun i => (r i : Int)) n) := cl_keep hR (Nat.le_trans hb.size ho.size) fun b hlt => (ho.block b (Nat.lt_of_lt_of_le hlt hb.size) (by omega)).trans (hb.block b hlt)
  exact cmp_run n c gb A r W c1 c2 i j hi (by omega)

/-- What largestFirst returns: at place k the index of rank k. -/
def LaR (r : Nat → Nat) (n : Nat) (w : World) : Ending → World → Prop := fun e w' => ∃ (g : Nat) (s : Nat → Nat), e = .returned (.slice (some ⟨g, 0, none⟩) n n) ∧ w.heap.size ≤ g ∧ Own eI 3 w.heap.size w' (.slice (some ⟨g, 0, none⟩) n n) (lst (fun k => (s k : Int)) n) ∧ (∀ k, k < n → s k < n ∧ rank r n (s k) = k) ∧ Below w.heap.size w w'

set_option maxHeartbeats 1600000 in
theorem largest_first (r : Nat → Nat) (n c : Nat) (A : Option Addr) (w : World) (hn : n ≤ 512) (hR : Cl eI w A (lst (fun i => (r i : Int)) n)) :
    Calls Try.prog 50 #[.slice A n c] w (LaR r n w) := by
  have HR := Lib.hid hR
  have HN := Lib.hid hn
  have hmk := fun W => make_ints n (by omega) W
  clear hR
  go_enter Try.func50, Try.ntmps50
  go_upto_region 2 with fail
  obtain ⟨w1, hw1⟩ : ∃ W, w.alloc (.cells #[.slice A n c] 22) = W := ⟨_, rfl⟩
  have HB1 : Hid (Below w.heap.size w w1) := hw1 ▸ below_alloc _ _
  have hs1 : w1.heap.size = w.heap.size + 1 := by rw [← hw1]; simp
  have HC1 : Hid (w1.cell? ⟨w.heap.size, 0, none⟩ = some (.slice A n c)) := hw1 ▸ (by simp : (w.alloc (.cells #[.slice A n c] 22)).cell? ⟨w.heap.size, 0, none⟩ = some (.slice A n c))
  obtain ⟨w2, hw2⟩ : ∃ W, w1.alloc (.cells (madeCells #[.int .i64 0] n) 3) = W := ⟨_, rfl⟩
  have HOW2 : Hid (Own eI 3 w.heap.size w2 (.slice (some ⟨w.heap.size + 1, 0, none⟩) n n) (lst (fun _ => 0) n)) := by
    have h1 := (own_made eI 3 w1 n 0 (by omega)).less (B' := w.heap.size) (by omega)
    rw [hs1, hw2] at h1
    have e : List.replicate n (0 : Int) = lst (fun _ => 0) n := by unfold lst; rw [List.map_const', List.length_range]
    rw [e] at h1; exact h1
  have HBA := Lib.hid (hw2 ▸ below_alloc w1 (.cells (madeCells #[.int .i64 0] n) 3) : Below w1.heap.size w1 w2)
  have HB2 : Hid (Below w.heap.size w w2) := bstep HB1.out HBA.out
  have HC2 : Hid (w2.cell? ⟨w.heap.size, 0, none⟩ = some (.slice A n c)) := (HBA.out.cell (p := ⟨w.heap.size, 0, none⟩) (by show w.heap.size < _; omega)).trans HC1.out
  have HS2 : Hid (w.heap.size + 1 < w2.heap.size) := (HOW2.out.lt _ rfl).2
  have HCL2 : Hid (Cl eI w2 A (lst (fun i => (r i : Int)) n)) := HR.out.on HB2.out
  obtain ⟨g, hg⟩ : ∃ g, g = w.heap.size + 1 := ⟨_, rfl⟩
  obtain ⟨gb, hgb⟩ : ∃ g, g = w.heap.size := ⟨_, rfl⟩
  rw [hw1, hw2]
  rw [← hg] at HOW2 HS2 ⊢
  rw [← hgb]
  have HG := Lib.hid (show g = w.heap.size + 1 ∧ gb = w.heap.size from ⟨hg, hgb⟩)
  have HC3 : Hid (w2.cell? ⟨gb, 0, none⟩ = some (.slice A n c)) := hgb ▸ HC2.out
  clear hw1 hw2 hg hgb hs1 hmk HC1 HC2 HB1 HBA hn
  go_wp2_with fail
  go_loopw [4, 10] (fun _ x wr => ∃ k : Nat, x = .int .i64 (k : Int) ∧ k ≤ n ∧ Own eI 3 w.heap.size wr (.slice (some ⟨g, 0, none⟩) n n) (lst (fun j => if j < k then (j : Int) else 0) n) ∧ Below g w2 wr) (fun _ x _ => n - (RowKit.intOf x).toNat)
  case atStart => exact ⟨0, rfl, Nat.zero_le _, by simpa using HOW2.out, Below.refl _ _⟩
  case round =>
    obtain ⟨k, rfl, hk, hown, hbel⟩ := hrel
    have HO := Lib.hid hown
    have HB := Lib.hid hbel
    clear hown hbel
    have hN := HN.out
    rcases Nat.lt_or_ge k n with hlt | hge
    · have fk := HO.out.warm (lst_len _ n).symm k
      have ck := HO.out.cell (lst_at _ hlt)
      rw [if_neg (Nat.lt_irrefl k)] at ck
      have i1 : (k : Int) < (n : Int) := by omega
      have i2 : (0 : Int) ≤ (k : Int) := by omega
      have hk1 : IntKind.i64.wrap ((k : Int) + 1) = ((k + 1 : Nat) : Int) := wrap_id (by omega)
      have HE : Hid (Own eI 3 w.heap.size (wr.setCell ⟨g, k, none⟩ (.int .i64 (k : Int))) (.slice (some ⟨g, 0, none⟩) n n) (lst (fun j => if j < k + 1 then (j : Int) else 0) n)) := by
        have h1 := HO.out.set (lst_len _ n).symm k (k : Int)
        rw [lst_set (g := fun j => if j < k + 1 then (j : Int) else 0) hlt (fun i hi => by
          by_cases h : i = k
          · subst h; simp
          · rw [if_neg h]
            by_cases h2 : i < k
            · rw [if_pos (by omega), if_pos h2]
            · rw [if_neg (by omega), if_neg h2])] at h1
        exact h1
      have HBE : Hid (Below g w2 (wr.setCell ⟨g, k, none⟩ (.int .i64 (k : Int)))) := below_set HB.out (p := ⟨g, k, none⟩) (Nat.le_refl _) _
      clear hN hlt
      go_wp2_with fail
      go_roundw
      case rel => exact ⟨k + 1, rfl, by omega, HE.out, HBE.out⟩
      case measure => simp [RowKit.intOf]; omega
    · obtain rfl : n = k := by omega
      have HBW : Hid (Below w.heap.size w wr) := HB2.out.trans (HB.out.mono (by have := HG.out; omega))
      have HC4 : Hid (wr.cell? ⟨gb, 0, none⟩ = some (.slice A n c)) := (HB.out.cell (p := ⟨gb, 0, none⟩) (by show gb < g; have := HG.out; omega)).trans HC3.out
      have HO2 : Hid (Own eI 3 w.heap.size wr (.slice (some ⟨g, 0, none⟩) n n) (lst (fun j => (j : Int)) n)) := by
        have := HO.out
        rw [lst_congr (g := fun j => (j : Int)) fun i hi => if_pos hi] at this
        exact this
      have HST : Hid (St (fun k => (k : Int)) g n n wr wr (fun k => k)) := ⟨HO2.out.less (Nat.zero_le _), Off.refl _ _, fun k hk => hk⟩
      have HSZ : Hid (g < wr.heap.size) := (HO.out.lt g rfl).2
      have HCM := Lib.hid (cm_run r n c gb g A w wr HR.out HBW.out HC4.out (by have := HG.out; have := HSZ.out; omega) (by have := HG.out; omega) (by have := HG.out; omega))
      have HSRT := Lib.hid (sort_stable (bt_sto r) HCM.out HST.out (by omega) (fun k => rfl))
      clear hN hk hge
      go_wp2_with fail
      refine HSRT.out.mono ?_
      rintro e w3 ⟨rfl, s, hst, hsrt, hbd⟩
      have HD : Hid (Own eI 3 w.heap.size w3 (.slice (some ⟨g, 0, none⟩) n n) (lst (fun k => (s k : Int)) n)) := own_more hst.own (by have := HG.out; omega)
      have HRK : Hid (∀ k, k < n → s k < n ∧ rank r n (s k) = k) := fun k hk => ⟨hbd k hk, rank_sorted hbd (fun j k h1 h2 => hsrt j k (Nat.zero_le _) h1 h2) k hk⟩
      have HBZ : Hid (Below w.heap.size w w3) := HBW.out.trans (Off.below hst.off HBW.out.size fun x hx => by have := HG.out; omega)
      clear hst hsrt hbd
      go_wp2_with fail
      go_ret
      exact ⟨g, s, rfl, by have := HG.out; omega, HD.out, HRK.out, HBZ.out⟩
end Go.Proofs.Ytagjimdplmimoaa.Share
/- share.Split. -/
namespace Go.Proofs.Ytagjimdplmimoaa.Share
open Go.ChangeShapes Go.WideShapes Go.RowKit Go.Lib Go.Proofs.Ytagjimdplmimoaa.Mem
set_option linter.unusedVariables false
set_option maxRecDepth 100000

/-- A list of the call's own, and an error. -/
def ResL (L : List Int) (E : Nat) (w : World) : Ending → World → Prop := fun e w' => ∃ v, e = .returned (.tuple #[v, .int .i64 (E : Int)]) ∧ Own eI 3 w.heap.size w' v L ∧ Below w.heap.size w w'
def splL (t : Int) (ws : List Int) : List Int := if errS t ws = 0 then partsL t ws else []
def bouL (t : Int) (ws : List Int) : List Int := if errS t ws = 0 then bndsL t ws else []
theorem tup2 {a b : Value} {x y : Int} (h : a = b) (k : x = y) : Ending.returned (.tuple #[a, .int .i64 x]) = .returned (.tuple #[b, .int .i64 y]) := by rw [h, k]

/-! ### What the products are divided by -/
section
variable {t : Int} {ws : List Int}
theorem dvV_ok (h : errS t ws = 0) : ∃ W : Nat, dvV t ws = (W : Int) ∧ 0 < W ∧ W ≤ 1125899906842624 ∧ (∀ i, i < ws.length → wf ws i ≤ W) ∧ (∀ i, i < ws.length → sm (wf ws) (i + 1) ≤ W) ∧
    (∀ i, i < ws.length → t.toNat * wf ws i / W = quo t.toNat (wf ws) ws.length i ∧ t.toNat * wf ws i % W = rst t.toNat (wf ws) ws.length i) ∧ (∀ i, i < ws.length → t.toNat * sm (wf ws) (i + 1) / W = bnd t.toNat (wf ws) ws.length i) := by
  have ok := Ok.of h
  have hT := ok.twI
  have hs := ok.sum
  have hmx : mx = 1125899906842624 := rfl
  unfold dvV
  rw [if_pos h]
  rcases Nat.eq_zero_or_pos (Share.tw (wf ws) ws.length) with hz | hz
  · have ht := ok.zero hz
    have hw : ∀ i, i < ws.length → wf ws i = 0 := fun i hi => by have := ok.w_le hi; omega
    have hm : ∀ i, i < ws.length → sm (wf ws) (i + 1) = 0 := fun i hi => by
      have : sm (wf ws) (i + 1) ≤ Share.tw (wf ws) ws.length := sm_mono (by omega)
      omega
    refine ⟨1, by rw [if_pos (by omega)]; rfl, by omega, by omega, fun i hi => by rw [hw i hi]; omega, fun i hi => by rw [hm i hi]; omega, fun i hi => ?_, fun i hi => ?_⟩
    · unfold quo rst
      rw [hw i hi]; simp
    · unfold bnd
      rw [if_pos hz, hm i hi]; simp
  · refine ⟨Share.tw (wf ws) ws.length, by rw [if_neg (by omega)]; exact hT.symm, hz, by omega, fun i hi => ok.w_le hi, fun i hi => sm_mono (by omega), fun i hi => ⟨rfl, rfl⟩, fun i hi => ?_⟩
    unfold bnd
    rw [if_neg (by omega)]
theorem Ok.gots (h : Ok t ws) {i : Nat} (hi : i < ws.length) : gots (quo t.toNat (wf ws) ws.length) (rst t.toNat (wf ws) ws.length) ws.length (lft t.toNat (wf ws) ws.length) i = part t.toNat (wf ws) ws.length i := by
  rcases Nat.eq_zero_or_pos (Share.tw (wf ws) ws.length) with hz | hz
  · have ht := h.zero hz
    unfold Share.gots part lft quo
    rw [if_pos hz, ht]
    simp
  · exact gots_part hz i
theorem Ok.lft_le (h : Ok t ws) : lft t.toNat (wf ws) ws.length ≤ ws.length := by
  rcases Nat.eq_zero_or_pos (Share.tw (wf ws) ws.length) with hz | hz
  · have ht := h.zero hz
    unfold lft
    rw [ht]; simp
  · exact Nat.le_of_lt (lft_lt hz)
theorem Ok.quo_sum (h : Ok t ws) {k : Nat} (hk : k ≤ ws.length) : sm (quo t.toNat (wf ws) ws.length) k ≤ t.toNat := by
  have h1 : sm (quo t.toNat (wf ws) ws.length) k ≤ sm (quo t.toNat (wf ws) ws.length) ws.length := sm_mono hk
  rcases Nat.eq_zero_or_pos (Share.tw (wf ws) ws.length) with hz | hz
  · have ht := h.zero hz
    have : sm (quo t.toNat (wf ws) ws.length) ws.length = 0 := by
      rw [sm_congr (g := fun _ => 0) fun i _ => by unfold quo; rw [hz]; simp, sm_const]; omega
    omega
  · exact Nat.le_trans h1 (sum_le hz)
end
end Go.Proofs.Ytagjimdplmimoaa.Share
/- share.Split: the walk. -/
namespace Go.Proofs.Ytagjimdplmimoaa.Share
open Go.ChangeShapes Go.WideShapes Go.RowKit Go.Lib Go.Proofs.Ytagjimdplmimoaa.Mem
set_option linter.unusedVariables false
set_option maxRecDepth 100000

theorem lst_zero (n : Nat) : List.replicate n (0 : Int) = lst (fun _ => 0) n := by unfold lst; rw [List.map_const', List.length_range]
abbrev zeros (n : Nat) : Obj := .cells (madeCells #[.int .i64 0] n) 3
theorem one_made (w : World) (n : Nat) (hn : n ≤ 100000) : Own eI 3 w.heap.size (w.alloc (zeros n)) (.slice (some ⟨w.heap.size, 0, none⟩) n n) (lst (fun _ => 0) n) := by
  have h1 := own_made eI 3 w n 0 hn
  rw [lst_zero] at h1
  exact h1
theorem two_made (w : World) (n : Nat) (hn : n ≤ 100000) : Own eI 3 w.heap.size ((w.alloc (zeros n)).alloc (zeros n)).drew (.slice (some ⟨w.heap.size, 0, none⟩) n n) (lst (fun _ => 0) n) ∧
    Own eI 3 w.heap.size ((w.alloc (zeros n)).alloc (zeros n)).drew (.slice (some ⟨w.heap.size + 1, 0, none⟩) n n) (lst (fun _ => 0) n) ∧ Below w.heap.size w ((w.alloc (zeros n)).alloc (zeros n)).drew := by
  have h1 := one_made w n hn
  have h2 := one_made (w.alloc (zeros n)) n hn
  have hs : (w.alloc (zeros n)).heap.size = w.heap.size + 1 := by simp
  rw [hs] at h2
  exact ⟨(h1.alloc _).drew, (h2.less (by omega)).drew, below_drew (bstep (below_alloc _ _) (below_alloc _ _))⟩
/-- The list with its first k values. -/
def upL (f : Nat → Nat) (k n : Nat) : List Int := lst (fun j => if j < k then (f j : Int) else 0) n
theorem upL_len (f : Nat → Nat) (k n : Nat) : (upL f k n).length = n := lst_len _ _
theorem upL_zero (f : Nat → Nat) (n : Nat) : upL f 0 n = lst (fun _ => 0) n := by unfold upL; exact lst_congr fun i _ => by simp
theorem upL_at (f : Nat → Nat) {k n : Nat} (h : k < n) : (upL f k n)[k]? = some 0 := by
  unfold upL; rw [lst_at _ h, if_neg (Nat.lt_irrefl k)]
theorem upL_set (f : Nat → Nat) {k n : Nat} (h : k < n) : (upL f k n).set k (f k : Int) = upL f (k + 1) n := by
  unfold upL
  exact lst_set h fun i hi => by
    by_cases h1 : i = k
    · subst h1; simp
    · rw [if_neg h1]
      by_cases h2 : i < k
      · rw [if_pos (by omega), if_pos h2]
      · rw [if_neg (by omega), if_neg h2]
theorem upL_all (f : Nat → Nat) (n : Nat) : upL f n n = lst (fun j => (f j : Int)) n := lst_congr fun i hi => if_pos hi

set_option maxHeartbeats 3200000 in
theorem share_split (t : Int) (ws : List Int) (A : Option Addr) (c : Nat) (w : World) (hS : Cl eI w A ws) (hl : ws.length ≤ 9223372036854775807) :
    Calls Try.prog 37 #[.int .i64 t, .slice A ws.length c] w (ResL (splL t ws) (errS t ws) w) := by
  have HDIV := Lib.hid (share_divisor t ws A c w hS hl)
  by_cases hE : errS t ws = 0
  · obtain ⟨W, hW, hW0, hW1, hwW, -, hqr, -⟩ := dvV_ok hE
    have ok := Ok.of hE
    obtain ⟨T, hT⟩ : ∃ T : Nat, T = t.toNat := ⟨_, rfl⟩
    have ht : t = (T : Int) := by have := ok.t0; omega
    have hTm : T ≤ 1125899906842624 := by have h1 := ok.t1; have hm : mx = 1125899906842624 := rfl; omega
    rw [hW, hE] at HDIV
    have HRES : Hid (splL t ws = partsL t ws) := if_pos hE
    obtain ⟨q, hq⟩ : ∃ q, q = quo t.toNat (wf ws) ws.length := ⟨_, rfl⟩
    obtain ⟨r, hr⟩ : ∃ r, r = rst t.toNat (wf ws) ws.length := ⟨_, rfl⟩
    obtain ⟨L, hL⟩ : ∃ L, L = lft t.toNat (wf ws) ws.length := ⟨_, rfl⟩
    have HFIN : Hid (lst (fun j => (gots q r ws.length L j : Int)) ws.length = partsL t ws) := by
      show _ = _
      unfold partsL lst
      exact List.map_congr_left fun i hi => by rw [hq, hr, hL, ok.gots (List.mem_range.mp hi)]
    have HLN : Hid (L ≤ ws.length ∧ ws.length ≤ 512 ∧ 0 < ws.length) := ⟨hL ▸ ok.lft_le, ok.n1, ok.n0⟩
    have HSUM : Hid (∀ k, k ≤ ws.length → sm q k ≤ T) := fun k hk => by rw [hq, hT]; exact ok.quo_sum hk
    have HLQ : Hid (L = T - sm q ws.length) := by show L = _; rw [hL, hq, hT]; rfl
    have HDV := Lib.hid (show ∀ i, i < ws.length → ∀ W', Calls Try.prog 49 #[.int .i64 (T : Int), .int .i64 (wf ws i : Int), .int .i64 (W : Int)] W' fun e w' => e = .returned (.tuple #[.int .i64 (q i : Int), .int .i64 (r i : Int)]) ∧ Below W'.heap.size W' w' from fun i hi W' => by
      have h1 := share_divide hW0 hTm (hwW i hi) hW1 W'
      have h2 := hqr i hi
      rw [← hT] at h2 hq hr
      rw [h2.1, h2.2] at h1
      rw [hq, hr]; exact h1)
    have HQL : Hid (∀ i, i < ws.length → q i ≤ 1125899906842624) := fun i hi => by rw [hq]; exact Nat.le_trans (quo_le hi) (by omega)
    have HWF : Hid (∀ (i : Nat) z, ws[i]? = some z → z = (wf ws i : Int)) := fun i z hz => (wf_at hz (ok.all z (List.mem_of_getElem? hz)).1).symm
    have HS := Lib.hid hS
    obtain ⟨n, hn⟩ : ∃ n, ws.length = n := ⟨_, rfl⟩
    have HN := Lib.hid hn
    have HEE := Lib.hid hE
    have HTT := Lib.hid ht
    rw [hn] at HDIV HFIN HLN HSUM HLQ HDV HQL hl ⊢
    rw [hE]
    rw [ht] at HDIV ⊢
    have hn5 := HLN.out.2.1
    have hmk := fun W => make_ints n (by omega) W
    clear hS hW hW0 hW1 hwW hqr ok hT ht hq hr hL hE hn hl
    go_enter Try.func37, Try.ntmps37
    go_wp2_with fail
    refine HDIV.out.mono ?_
    rintro e w1 ⟨rfl, hb1⟩
    have HB1 := Lib.hid hb1
    clear hb1
    go_upto_region 4 with fail
    go_cut [8, 9] from 24 to 29 (fun x y wc => ∃ gp gr : Nat, x = .slice (some ⟨gp, 0, none⟩) n n ∧ y = .slice (some ⟨gr, 0, none⟩) n n ∧ gp ≠ gr ∧ Own eI 3 w1.heap.size wc (.slice (some ⟨gp, 0, none⟩) n n) (lst (fun _ => 0) n) ∧ Own eI 3 w1.heap.size wc (.slice (some ⟨gr, 0, none⟩) n n) (lst (fun _ => 0) n) ∧ Below w1.heap.size w1 wc)
    case first =>
      have HTM := Lib.hid (two_made w1 n (by omega))
      go_wp2_with fail
      go_region
      all_goals
        go_wp2_with fail
        go_meet
        case rel =>
          first
            | exact ⟨w1.heap.size, w1.heap.size + 1, rfl, rfl, by omega, HTM.out.1, HTM.out.2.1, HTM.out.2.2⟩
            | exact ⟨w1.heap.size + 1, w1.heap.size, rfl, rfl, by omega, HTM.out.2.1, HTM.out.1, HTM.out.2.2⟩
    case rest =>
      obtain ⟨gp, gr, rfl, rfl, hgne, hop, hor, hbc⟩ := hcut
      have HOP := Lib.hid hop
      have HOR := Lib.hid hor
      have HBC := Lib.hid hbc
      have HNE := Lib.hid hgne
      clear hop hor hbc hmk hgne
      go_wp2_with fail
      go_loopw [10, 11, 12, 33] (fun l _ _ x wr => ∃ k M : Nat, l = .int .i64 (M : Int) ∧ x = .int .i64 (k : Int) ∧ k ≤ n ∧ M = T - sm q k ∧ Own eI 3 w1.heap.size wr (.slice (some ⟨gp, 0, none⟩) n n) (upL q k n) ∧ Own eI 3 w1.heap.size wr (.slice (some ⟨gr, 0, none⟩) n n) (upL r k n) ∧ Below w1.heap.size w1 wr) (fun _ _ _ x _ => n - (RowKit.intOf x).toNat)
      case atStart => exact ⟨0, T, rfl, rfl, Nat.zero_le _, rfl, by rw [upL_zero]; exact HOP.out, by rw [upL_zero]; exact HOR.out, HBC.out⟩
      case round =>
        obtain ⟨k, M, rfl, rfl, hk, hM, hop, hor, hbel⟩ := hrel
        have HOP2 := Lib.hid hop
        have HOR2 := Lib.hid hor
        have HB := Lib.hid hbel
        have HM := Lib.hid hM
        clear hop hor hbel hM
        rcases Nat.lt_or_ge k n with hlt | hge
        · obtain ⟨z, hz⟩ := get_lt (L := ws) (k := k) (by rw [HN.out]; exact hlt)
          obtain ⟨b, off, hA, hb, hcell⟩ := (HS.out.on (HB1.out.trans (HB.out.mono HB1.out.size))) k z hz
          obtain rfl := hA
          obtain rfl := HWF.out k z hz
          have HZ := Lib.hid hz
          have HCALL := Lib.hid (HDV.out k hlt wr)
          obtain ⟨x, hx⟩ : ∃ x, x = wf ws k := ⟨_, rfl⟩
          obtain ⟨Q, hQ⟩ : ∃ x, x = q k := ⟨_, rfl⟩
          obtain ⟨R, hR⟩ : ∃ x, x = r k := ⟨_, rfl⟩
          rw [← hx] at hcell HCALL
          rw [← hQ, ← hR] at HCALL
          have HQR := Lib.hid (show Q = q k ∧ R = r k from ⟨hQ, hR⟩)
          have i1 : (k : Int) < (n : Int) := by omega
          have i2 : (0 : Int) ≤ (k : Int) := by omega
          have hk1 : IntKind.i64.wrap ((k : Int) + 1) = ((k + 1 : Nat) : Int) := wrap_id (by omega)
          clear hz hx hQ hR hb hk
          go_wp2_with fail
          refine HCALL.out.mono ?_
          rintro e w3 ⟨rfl, hb3⟩
          have HOP3 := Lib.hid (HOP2.out.on hb3)
          have HOR3 := Lib.hid (HOR2.out.on hb3)
          have HB3 : Hid (Below w1.heap.size w1 w3) := HB.out.trans (hb3.mono HB.out.size)
          have cp := HOP3.out.cell (upL_at q hlt)
          have cr := HOR3.out.cell (upL_at r hlt)
          have fp := HOP3.out.warm (upL_len q k n).symm k
          have fr := HOR3.out.warm (upL_len r k n).symm k
          have hne1 := HNE.out
          have hne2 : gr ≠ gp := fun e => HNE.out e.symm
          have HPP : Hid (Own eI 3 w1.heap.size ((w3.setCell ⟨gp, k, none⟩ (.int .i64 (Q : Int))).setCell ⟨gr, k, none⟩ (.int .i64 (R : Int))) (.slice (some ⟨gp, 0, none⟩) n n) (upL q (k + 1) n)) := by
            have h1 := HOP3.out.set (upL_len q k n).symm k (Q : Int)
            rw [HQR.out.1, upL_set q hlt] at h1
            rw [HQR.out.1]
            exact h1.other (p := ⟨gr, k, none⟩) (by show some gp ≠ some gr; simpa using HNE.out) _
          have HRR : Hid (Own eI 3 w1.heap.size ((w3.setCell ⟨gp, k, none⟩ (.int .i64 (Q : Int))).setCell ⟨gr, k, none⟩ (.int .i64 (R : Int))) (.slice (some ⟨gr, 0, none⟩) n n) (upL r (k + 1) n)) := by
            have h1 := HOR3.out.other (p := ⟨gp, k, none⟩) (by show some gr ≠ some gp; simpa using hne2) (.int .i64 (Q : Int))
            have h2 := h1.set (upL_len r k n).symm k (R : Int)
            rw [HQR.out.2, upL_set r hlt] at h2
            rw [HQR.out.2]
            exact h2
          have HBB : Hid (Below w1.heap.size w1 ((w3.setCell ⟨gp, k, none⟩ (.int .i64 (Q : Int))).setCell ⟨gr, k, none⟩ (.int .i64 (R : Int)))) := below_set (below_set HB3.out (p := ⟨gp, k, none⟩) (HOP3.out.lt gp rfl).1 _) (p := ⟨gr, k, none⟩) (HOR3.out.lt gr rfl).1 _
          have HSK := Lib.hid (show sm q (k + 1) ≤ T ∧ sm q (k + 1) = sm q k + Q by
            refine ⟨HSUM.out _ hlt, by rw [HQR.out.1]; rfl⟩)
          obtain ⟨M', hM'⟩ : ∃ x, x = M - Q := ⟨_, rfl⟩
          have HMM := Lib.hid (show M' = T - sm q (k + 1) ∧ Q ≤ M ∧ M' = M - Q by have := HM.out; have := HSK.out; omega)
          have hwm : IntKind.i64.wrap ((M : Int) - (Q : Int)) = (M' : Int) := by
            have h1 := HMM.out
            have h2 := HM.out
            rw [wrap_id (by omega)]; omega
          clear hb3 hM' hlt
          go_wp2_with fail
          go_roundw
          case rel => exact ⟨k + 1, M', rfl, rfl, by omega, HMM.out.1, HPP.out, HRR.out, HBB.out⟩
          case measure => simp [RowKit.intOf]; omega
        · obtain rfl : n = k := by omega
          obtain rfl : L = M := by have h1 := HM.out; have h2 := HLQ.out; omega
          have HLF := Lib.hid (largest_first r n n (some ⟨gr, 0, none⟩) wr hn5 ((upL_all r n) ▸ HOR2.out.cl))
          have hLn := HLN.out.1
          clear hk hge
          go_wp2_with fail
          refine HLF.out.mono ?_
          rintro e w4 ⟨go, s, rfl, hgo, hown, hrank, hb4⟩
          have hsl := fun W => slice_hi (some ⟨go, 0, none⟩) n n L hLn W
          have HGO : Hid (gp ≠ go) := by
            have := (HOP2.out.lt gp rfl).2
            show gp ≠ go
            omega
          have HOP4 : Hid (Own eI 3 w1.heap.size w4 (.slice (some ⟨gp, 0, none⟩) n n) (lst (fun j => (gots q r n 0 j : Int)) n)) := by
            have h1 := HOP2.out.on hb4
            rw [upL_all] at h1
            rw [lst_congr (g := fun j => (q j : Int)) fun i _ => by rw [gots_zero]]
            exact h1
          have HOO4 := Lib.hid hown
          have HRK := Lib.hid hrank
          have HB4 : Hid (Below w1.heap.size w1 w4) := HB.out.trans (hb4.mono HB.out.size)
          have hL6 : (L : Int) ≤ (n : Int) := by omega
          have hL7 : (0 : Int) ≤ (L : Int) := by omega
          clear hgo hown hrank hb4 hLn HLF
          go_wp2_with fail
          go_loopw [14, 63] (fun _ x wr' => ∃ k : Nat, x = .int .i64 (k : Int) ∧ k ≤ L ∧ Own eI 3 w1.heap.size wr' (.slice (some ⟨gp, 0, none⟩) n n) (lst (fun j => (gots q r n k j : Int)) n) ∧ Own eI 3 0 wr' (.slice (some ⟨go, 0, none⟩) n n) (lst (fun j => (s j : Int)) n) ∧ Below w1.heap.size w1 wr') (fun _ x _ => L - (RowKit.intOf x).toNat)
          case atStart => exact ⟨0, rfl, Nat.zero_le _, HOP4.out, HOO4.out.less (Nat.zero_le _), HB4.out⟩
          case round =>
            obtain ⟨k, rfl, hk, hop, hoo, hbel⟩ := hrel
            have HOP5 := Lib.hid hop
            have HOO5 := Lib.hid hoo
            have HB5 := Lib.hid hbel
            have hLn := HLN.out.1
            clear hop hoo hbel
            rcases Nat.lt_or_ge k L with hlt | hge
            · have hkn : k < n := by omega
              obtain ⟨x, hx⟩ : ∃ x, x = s k := ⟨_, rfl⟩
              have hxn : x < n := hx ▸ (HRK.out k hkn).1
              have ck := HOO5.out.cell (lst_at _ hkn)
              have cx := HOP5.out.cell (lst_at _ hxn)
              have fx := HOP5.out.warm (lst_len _ n).symm x
              obtain ⟨G, hG⟩ : ∃ x', x' = gots q r n k x := ⟨_, rfl⟩
              rw [← hx] at ck
              rw [← hG] at cx
              have hGb : G ≤ 1125899906842625 := by
                have h1 := HQL.out x hxn
                rw [hG]; unfold gots; split <;> omega
              have HNX : Hid (Own eI 3 w1.heap.size (wr.setCell ⟨gp, x, none⟩ (.int .i64 ((G + 1 : Nat) : Int))) (.slice (some ⟨gp, 0, none⟩) n n) (lst (fun j => (gots q r n (k + 1) j : Int)) n)) := by
                have h1 := HOP5.out.set (lst_len _ n).symm x ((G + 1 : Nat) : Int)
                rw [lst_set (g := fun j => (gots q r n (k + 1) j : Int)) hxn fun i hi => by
                  rw [gots_next hxn (by rw [hx]; exact (HRK.out k hkn).2) hi]
                  by_cases h2 : i = x
                  · rw [if_pos h2, if_pos h2, h2, hG]
                  · rw [if_neg h2, if_neg h2]] at h1
                exact h1
              have HOX : Hid (Own eI 3 0 (wr.setCell ⟨gp, x, none⟩ (.int .i64 ((G + 1 : Nat) : Int))) (.slice (some ⟨go, 0, none⟩) n n) (lst (fun j => (s j : Int)) n)) := HOO5.out.other (p := ⟨gp, x, none⟩) (by show some go ≠ some gp; have := HGO.out; simp; omega) _
              have HBX : Hid (Below w1.heap.size w1 (wr.setCell ⟨gp, x, none⟩ (.int .i64 ((G + 1 : Nat) : Int)))) := below_set HB5.out (p := ⟨gp, x, none⟩) (HOP5.out.lt gp rfl).1 _
              have i1 : (k : Int) < (L : Int) := by omega
              have i2 : (0 : Int) ≤ (k : Int) := by omega
              have i3 : (x : Int) < (n : Int) := by omega
              have i4 : (0 : Int) ≤ (x : Int) := by omega
              have hk1 : IntKind.i64.wrap ((k : Int) + 1) = ((k + 1 : Nat) : Int) := wrap_id (by omega)
              have hg1 : IntKind.i64.wrap ((G : Int) + 1) = ((G + 1 : Nat) : Int) := wrap_id (by omega)
              have HLT := Lib.hid hlt
              clear hx hG hGb hxn hkn hLn hlt hk
              go_wp2_with fail
              go_roundw
              case rel => exact ⟨k + 1, rfl, HLT.out, HNX.out, HOX.out, HBX.out⟩
              case measure =>
                have := HLT.out
                simp [RowKit.intOf]; omega
            · obtain rfl : L = k := by omega
              have HOF : Hid (Own eI 3 w.heap.size wr (.slice (some ⟨gp, 0, none⟩) n n) (splL t ws)) := by
                rw [HRES.out, ← HFIN.out]
                exact HOP5.out.less HB1.out.size
              have HBF : Hid (Below w.heap.size w wr) := HB1.out.trans (HB5.out.mono HB1.out.size)
              clear hk hge hLn
              go_wp2_with fail
              go_ret2
              exact ⟨_, rfl, by rw [← HTT.out]; exact HOF.out, HBF.out⟩
  · obtain ⟨E, hEE⟩ : ∃ E, E = errS t ws := ⟨_, rfl⟩
    have HRES : Hid (splL t ws = []) := if_neg hE
    have hE1 : ((E : Int) != 0) = true := by simp; omega
    have hE2 : ¬ E = 0 := by omega
    have hE3 : ¬ (E : Int) = 0 := by omega
    obtain ⟨D, hD⟩ : ∃ D, D = dvV t ws := ⟨_, rfl⟩
    obtain ⟨n, hn⟩ : ∃ n, ws.length = n := ⟨_, rfl⟩
    rw [← hEE, ← hD, hn] at HDIV
    rw [← hEE, hn]
    clear hEE hD hS hl hn hE
    go_enter Try.func37, Try.ntmps37
    go_wp2_with fail
    refine HDIV.out.mono ?_
    rintro e w1 ⟨rfl, hb1⟩
    have HB1 := Lib.hid hb1
    clear hb1
    go_wp2_with fail
    go_ret2
    exact ⟨_, rfl, by rw [HRES.out]; exact Own.nil _ _ _ _, HB1.out⟩
end Go.Proofs.Ytagjimdplmimoaa.Share
/- slices.Repeat of a slice of one integer. -/
namespace Go.Proofs.Ytagjimdplmimoaa.Mem
open Go.ChangeShapes Go.WideShapes Go.RowKit Go.Lib
set_option linter.unusedVariables false
set_option maxRecDepth 100000

def rpt (N : Nat) (z : Int) (n : Nat) : List Value := List.replicate n (.int .i64 z) ++ List.replicate (N - n) (.int .i64 0)
theorem rpt_len {N : Nat} {z : Int} {n : Nat} (h : n ≤ N) : (rpt N z n).length = N := by unfold rpt; simp; omega
theorem rpt_splice {N : Nat} {z : Int} {n m : Nat} (h : n + m ≤ N) : splice (rpt N z n) n (List.replicate m (.int .i64 z)) = rpt N z (n + m) := by
  unfold splice rpt
  rw [List.take_left' (by simp), List.length_replicate, List.drop_append, List.drop_eq_nil_of_le (by simp), List.nil_append, List.drop_replicate, ← List.append_assoc, List.replicate_append_replicate, List.length_replicate]
  congr 2
  omega
theorem rpt_get {N : Nat} {z : Int} {n j : Nat} (h : j < n) : (rpt N z n)[j]? = some (.int .i64 z) := by
  unfold rpt
  rw [List.getElem?_append_left (by simpa using h), List.getElem?_replicate, if_pos h]
theorem own_rpt {w : World} {g N B : Nat} {z : Int} {t : TypeId} (hg : w.heap[g]? = some (.cells (rpt N z N).toArray t (0, 0))) (hB : B ≤ g) (hN : N ≤ 1000) : Own eI t B w (.slice (some ⟨g, 0, none⟩) N N) (List.replicate N z) := by
  have e : rpt N z N = (List.replicate N z).map eI := by unfold rpt; simp
  refine ⟨by simp, Or.inr ⟨g, N, (rpt N z N).toArray, by simp, hB, hg, by simp, by unfold maxLen; omega, by simp [rpt_len], ?_⟩⟩
  rw [← e]
  simp
  exact List.take_of_length_le (by rw [rpt_len (Nat.le_refl _)]; exact Nat.le_refl _)
theorem row_cell {w : World} {g : Nat} {l : List Value} {t : TypeId} (hg : w.heap[g]? = some (.cells l.toArray t (0, 0))) (j : Nat) : w.cell? ⟨g, j, none⟩ = l[j]? := by
  rw [cell_of_row w g j _ _ (0, 0) hg]; simp
theorem rep_src {w : World} {g N k m : Nat} {z : Int} {t : TypeId} (hg : w.heap[g]? = some (.cells (rpt N z k).toArray t (0, 0))) (hm : m ≤ k) : ∀ (j : Nat) (v : Value), (List.replicate m (Value.int .i64 z))[j]? = some v → w.cell? ((⟨g, 0, none⟩ : Addr).add j) = some v := by
  intro j v hj
  rw [List.getElem?_replicate] at hj
  split at hj
  · cases hj
    rw [Addr.add_lit, Nat.zero_add]
    exact (row_cell hg j).trans (rpt_get (by omega))
  · cases hj
theorem one_src {w : World} {g : Nat} {z : Int} (hc : w.cell? ⟨g, 0, none⟩ = some (.int .i64 z)) : ∀ (j : Nat) (v : Value), (List.replicate 1 (Value.int .i64 z))[j]? = some v → w.cell? ((⟨g, 0, none⟩ : Addr).add j) = some v := by
  intro j v hj
  rw [List.getElem?_replicate] at hj
  split at hj
  · rename_i h
    obtain rfl : j = 0 := by omega
    cases hj
    rw [Addr.add_lit]
    exact hc
  · cases hj
theorem size_int : (Try.prog.info? 3).map (·.size) = some 1 := by kernel_rfl

end Go.Proofs.Ytagjimdplmimoaa.Mem
/- share.Bounds, share.Even. -/
namespace Go.Proofs.Ytagjimdplmimoaa.Share
open Go.ChangeShapes Go.WideShapes Go.RowKit Go.Lib Go.Proofs.Ytagjimdplmimoaa.Mem
set_option linter.unusedVariables false
set_option maxRecDepth 100000

end Go.Proofs.Ytagjimdplmimoaa.Share
/- check and Divide of the reference. -/
namespace Go.Proofs.Ytagjimdplmimoaa.Share
open Go.ChangeShapes Go.WideShapes Go.RowKit Go.Lib Go.Proofs.Ytagjimdplmimoaa.Mem
set_option linter.unusedVariables false
set_option maxRecDepth 100000

def chV (t : Int) (ws : List Int) : Int := if errS t ws = 0 then sumK ws ws.length else 0

set_option maxHeartbeats 1600000 in
theorem ref_check (t : Int) (ws : List Int) (A : Option Addr) (c : Nat) (w : World) (hS : Cl eI w A ws) (hl : ws.length ≤ 9223372036854775807) :
    Calls Try.prog 51 #[.int .i64 t, .slice A ws.length c] w fun e w' => e = .returned (.tuple #[.int .i64 (chV t ws), .int .i64 (errS t ws : Int)]) ∧ w = w' := by
  obtain ⟨N, hN⟩ : ∃ N, ws.length = N := ⟨_, rfl⟩
  have HN := Lib.hid hN
  have HS := Lib.hid hS
  rw [hN] at hl ⊢
  clear hS hN
  cases hi : inW t with
  | false =>
    have HD : Hid (chV t ws = 0 ∧ (errS t ws : Int) = 1) := by
      have := errS_t (ws := ws) hi
      refine ⟨by unfold chV; rw [this]; rfl, by rw [this]; rfl⟩
    have hmx : mx = 1125899906842624 := rfl
    rcases inW_no.mp hi with h1 | h1
    · clear hi hmx
      go_enter Try.func51, Try.ntmps51
      go_wp2_with fail
      go_ret2
      exact ⟨two_is HD.out.1.symm HD.out.2.symm, rfl⟩
    · have h2 : ¬ t < 0 := by omega
      have h3 : 1125899906842624 < t := by omega
      clear hi hmx
      go_enter Try.func51, Try.ntmps51
      go_wp2_with fail
      go_ret2
      exact ⟨two_is HD.out.1.symm HD.out.2.symm, rfl⟩
  | true =>
    have HI := Lib.hid hi
    obtain ⟨t0, t1⟩ := inW_iff.mp hi
    have hmx : mx = 1125899906842624 := rfl
    have g1 : ¬ t < 0 := by omega
    have g2 : ¬ 1125899906842624 < t := by omega
    clear hi t0 t1 hmx
    rcases Nat.eq_zero_or_pos N with rfl | hpos
    · have HD : Hid (chV t ws = 0 ∧ (errS t ws : Int) = 10) := by
        have := errS_0 HI.out HN.out
        refine ⟨by unfold chV; rw [this]; rfl, by rw [this]; rfl⟩
      go_enter Try.func51, Try.ntmps51
      go_wp2_with fail
      go_ret2
      exact ⟨two_is HD.out.1.symm HD.out.2.symm, rfl⟩
    · rcases Nat.lt_or_ge 512 N with hbig | hle
      · have HD : Hid (chV t ws = 0 ∧ (errS t ws : Int) = 8) := by
          have := errS_n HI.out (by rw [HN.out]; exact hbig)
          refine ⟨by unfold chV; rw [this]; rfl, by rw [this]; rfl⟩
        have b1 : ¬ N = 0 := by omega
        have b2 : (512 : Int) < (N : Int) := by omega
        have b3 : ((N : Int) == 0) = false := by simp; omega
        go_enter Try.func51, Try.ntmps51
        go_wp2_with fail
        go_ret2
        exact ⟨two_is HD.out.1.symm HD.out.2.symm, rfl⟩
      · have HP := Lib.hid (show 0 < N ∧ N ≤ 512 from ⟨hpos, hle⟩)
        have b1 : ¬ N = 0 := by omega
        have b2 : decide ((512 : Int) < (N : Int)) = false := decide_eq_false (by omega)
        have b3 : ((N : Int) == 0) = false := by simp; omega
        clear hpos hle
        go_enter Try.func51, Try.ntmps51
        go_wp2_with fail
        go_loopw [6] (fun x wr => ∃ k : Nat, k ≤ N ∧ x = .int .i64 (k : Int) ∧ (∀ (j : Nat) z, j < k → ws[j]? = some z → inW z = true) ∧ wr = w) (fun x _ => N - (RowKit.intOf x).toNat)
        case atStart => exact ⟨0, Nat.zero_le _, rfl, fun j z h => by omega, rfl⟩
        case round =>
          obtain ⟨k, hk, rfl, hall, rfl⟩ := hrel
          have HALL := Lib.hid hall
          clear hall
          rcases Nat.lt_or_ge k N with hlt | hge
          · obtain ⟨z, hz⟩ := get_lt (L := ws) (k := k) (by rw [HN.out]; exact hlt)
            obtain ⟨b, off, rfl, hb, hcell⟩ := HS.out k z hz
            have HZ := Lib.hid hz
            have i1 : (k : Int) < (N : Int) := by omega
            have i2 : (0 : Int) ≤ (k : Int) := by omega
            have hk1 : IntKind.i64.wrap ((k : Int) + 1) = ((k + 1 : Nat) : Int) := wrap_id (by have := HP.out; omega)
            clear hz
            cases hi : inW z with
            | true =>
              have HIT := Lib.hid hi
              obtain ⟨z0, z1⟩ := inW_iff.mp hi
              have hmx : mx = 1125899906842624 := rfl
              have f1 : ¬ z < 0 := by omega
              have f2 : ¬ 1125899906842624 < z := by omega
              clear hi z0 z1 hmx
              go_wp2_with fail
              go_roundw
              case rel => exact ⟨k + 1, by omega, rfl, fun j y h1 h2 => by
                rcases Nat.lt_or_ge j k with h3 | h3
                · exact HALL.out j y h3 h2
                · obtain rfl : j = k := by omega
                  rw [HZ.out] at h2; cases h2; exact HIT.out, trivial⟩
              case measure => simp [RowKit.intOf]; omega
            | false =>
              have HD : Hid (chV t ws = 0 ∧ (errS t ws : Int) = 1) := by
                have := errS_w HI.out (by rw [HN.out]; exact HP.out.1) (by rw [HN.out]; exact HP.out.2) HZ.out hi
                refine ⟨by unfold chV; rw [this]; rfl, by rw [this]; rfl⟩
              rcases inW_no.mp hi with f1 | f1
              · clear hi
                go_wp2_with fail
                go_ret2
                exact ⟨two_is HD.out.1.symm HD.out.2.symm, rfl⟩
              · have hmx : mx = 1125899906842624 := rfl
                have f2 : ¬ z < 0 := by omega
                have f3 : 1125899906842624 < z := by omega
                clear hi f1 hmx
                go_wp2_with fail
                go_ret2
                exact ⟨two_is HD.out.1.symm HD.out.2.symm, rfl⟩
          · obtain rfl : N = k := by omega
            have HA : Hid (∀ z ∈ ws, 0 ≤ z ∧ z ≤ mx) := fun z hz => by
              obtain ⟨j, hj⟩ := List.mem_iff_getElem?.mp hz
              exact inW_iff.mp (HALL.out j z (by rw [← HN.out]; exact lt_of_get hj) hj)
            clear hk hge
            go_wp2_with fail
            go_loopw [7, 8] (fun x y wr2 => ∃ (k : Nat) (s : Int), k ≤ N ∧ x = .int .i64 s ∧ y = .int .i64 (k : Int) ∧ s = sumK ws k ∧ 0 ≤ s ∧ s ≤ 1125899906842624 * (k : Int) ∧ wr2 = wr) (fun _ y _ => N - (RowKit.intOf y).toNat)
            case atStart => exact ⟨0, 0, Nat.zero_le _, rfl, rfl, rfl, by omega, by omega, rfl⟩
            case round =>
              obtain ⟨k, s, hk, rfl, rfl, hs, hs0, hs1, rfl⟩ := hrel
              have HSK := Lib.hid hs
              have hP := HP.out.2
              clear hs
              rcases Nat.lt_or_ge k N with hlt | hge
              · obtain ⟨z, hz⟩ := get_lt (L := ws) (k := k) (by rw [HN.out]; exact hlt)
                obtain ⟨b, off, rfl, hb, hcell⟩ := HS.out k z hz
                have HZ := Lib.hid hz
                obtain ⟨z0, z1⟩ := HA.out z (List.mem_of_getElem? hz)
                have i1 : (k : Int) < (N : Int) := by omega
                have i2 : (0 : Int) ≤ (k : Int) := by omega
                have hk1 : IntKind.i64.wrap ((k : Int) + 1) = ((k + 1 : Nat) : Int) := wrap_id (by omega)
                have hmx : mx = 1125899906842624 := rfl
                obtain ⟨s', hs'⟩ : ∃ s', s' = s + z := ⟨_, rfl⟩
                have hw : IntKind.i64.wrap (s + z) = s' := by rw [wrap_id (by omega)]; omega
                have HX := Lib.hid (show 0 ≤ s' ∧ s' ≤ 1125899906842624 * ((k + 1 : Nat) : Int) ∧ k + 1 ≤ N ∧ s' = s + z by omega)
                clear hz z0 z1 hs' hs0 hs1 hk hP hlt hmx
                go_wp2_with fail
                go_roundw
                case rel => exact ⟨k + 1, s', HX.out.2.2.1, rfl, rfl, by rw [sumK_succ HZ.out, ← HSK.out]; exact HX.out.2.2.2, HX.out.1, HX.out.2.1, trivial⟩
                case measure =>
                  have := HX.out
                  simp [RowKit.intOf]; omega
              · obtain rfl : N = k := by omega
                have HE := Lib.hid (errS_s HI.out (by rw [HN.out]; exact HP.out.1) (by rw [HN.out]; exact HP.out.2) HA.out)
                have HDV : Hid (chV t ws = if errS t ws = 0 then sumK ws ws.length else 0) := rfl
                have HSS : Hid (sumK ws ws.length = s) := (by rw [HN.out]; exact HSK.out.symm : sumK ws ws.length = s)
                rw [HSS.out] at HE HDV
                clear hk hge hP
                rcases Int.lt_or_le mx s with hS | hS
                · have HD : Hid (chV t ws = 0 ∧ (errS t ws : Int) = 2) := by
                    have := HE.out
                    rw [if_pos hS] at this
                    refine ⟨by rw [HDV.out, this]; rfl, by rw [this]; rfl⟩
                  have f1 : 1125899906842624 < s := hS
                  clear hS hs0 hs1
                  go_wp2_with fail
                  go_ret2
                  exact ⟨two_is HD.out.1.symm HD.out.2.symm, rfl⟩
                · have hmx : mx = 1125899906842624 := rfl
                  have f1 : ¬ 1125899906842624 < s := by omega
                  have hnS : ¬ mx < s := by omega
                  by_cases hs2 : s = 0
                  · subst hs2
                    by_cases ht : t = 0
                    · subst ht
                      have HD : Hid (chV 0 ws = 0 ∧ (errS 0 ws : Int) = 0) := by
                        have := HE.out
                        rw [if_neg hnS, if_neg (fun h => h.2 rfl)] at this
                        refine ⟨by rw [HDV.out, this]; rfl, by rw [this]; rfl⟩
                      have f2 : ((0 : Int) != 0) = false := rfl
                      clear hS hnS hs0 hs1 hmx
                      go_wp2_with fail
                      go_ret2
                      exact ⟨two_is HD.out.1.symm HD.out.2.symm, rfl⟩
                    · have HD : Hid (chV t ws = 0 ∧ (errS t ws : Int) = 16) := by
                        have := HE.out
                        rw [if_neg hnS, if_pos ⟨rfl, ht⟩] at this
                        refine ⟨by rw [HDV.out, this]; rfl, by rw [this]; rfl⟩
                      have f2 : (t != 0) = true := by simp [ht]
                      clear hS hnS hs0 hs1 hmx
                      go_wp2_with fail
                      go_ret2
                      exact ⟨two_is HD.out.1.symm HD.out.2.symm, rfl⟩
                  · have HD : Hid (chV t ws = s ∧ (errS t ws : Int) = 0) := by
                      have := HE.out
                      rw [if_neg hnS, if_neg (fun h => hs2 h.1)] at this
                      refine ⟨by rw [HDV.out, this]; rfl, by rw [this]; rfl⟩
                    have f2 : (s == 0) = false := by simp [hs2]
                    clear hS hnS hs0 hs1 hmx
                    go_wp2_with fail
                    go_ret2
                    exact ⟨two_is HD.out.1.symm HD.out.2.symm, rfl⟩

theorem i64_and1 (n : Int) : bits .and .i64 n 1 = n % 2 := by
  have h1 : (BitVec.ofInt 64 1).toNat = 2 ^ 1 - 1 := by decide
  have key : (BitVec.ofInt 64 n &&& BitVec.ofInt 64 1).toNat = (n % ((2 ^ 64 : Nat) : Int)).toNat % 2 ^ 1 := by
    rw [BitVec.toNat_and, BitVec.toNat_ofInt, h1, Nat.and_two_pow_sub_one_eq_mod]
  show IntKind.i64.wrap ((BitVec.ofInt 64 n &&& BitVec.ofInt 64 1).toNat : Nat) = n % 2
  rw [key, IntKind.wrap_i64]
  omega
set_option maxHeartbeats 3200000 in
theorem ref_divide {a b c : Nat} (hac : a ≤ c) (hc : 0 < c) (hc2 : c ≤ 1125899906842624) (hb : b ≤ 1125899906842624) (w : World) :
    Calls Try.prog 52 #[.int .i64 (a : Int), .int .i64 (b : Int), .int .i64 (c : Int)] w fun e w' => e = .returned (.tuple #[.int .i64 ((a * b / c : Nat) : Int), .int .i64 ((a * b % c : Nat) : Int)]) ∧ w = w' := by
  have HX := Lib.hid (show a ≤ c ∧ 0 < c ∧ c ≤ 1125899906842624 ∧ b ≤ 1125899906842624 from ⟨hac, hc, hc2, hb⟩)
  obtain ⟨Q, hQ⟩ : ∃ Q, Q = a * b / c := ⟨_, rfl⟩
  obtain ⟨R, hR⟩ : ∃ R, R = a * b % c := ⟨_, rfl⟩
  have HQR := Lib.hid (show Q = a * b / c ∧ R = a * b % c from ⟨hQ, hR⟩)
  rw [← hQ, ← hR]
  have hsg : IntKind.i64.signed = true := rfl
  clear hac hc hc2 hb hQ hR
  go_enter Try.func52, Try.ntmps52
  go_wp2_with fail
  go_loopw [8, 9, 10] (fun x y z wr => ∃ (j q r : Nat), x = .int .i64 (q : Int) ∧ y = .int .i64 (r : Int) ∧ z = .int .i64 ((j : Int) - 1) ∧ j ≤ 51 ∧ Dv a b c j q r ∧ wr = w) (fun _ _ z _ => (RowKit.intOf z + 1).toNat)
  case atStart => exact ⟨51, 0, 0, rfl, rfl, rfl, by omega, Dv.start (by have := HX.out; omega) HX.out.2.1, rfl⟩
  case round =>
    obtain ⟨j, q, r, rfl, rfl, rfl, hj, hdv, rfl⟩ := hrel
    have HDV := Lib.hid hdv
    have hX := HX.out
    have hq := hdv.q_le hX.1
    have hr := hdv.2
    clear hdv
    cases j with
    | zero =>
      have HE : Hid (q = Q ∧ r = R) := by
        have h1 := HDV.out.all
        have h2 := HQR.out
        exact ⟨h1.1.trans h2.1.symm, h1.2.trans h2.2.symm⟩
      obtain ⟨rfl, rfl⟩ := HE.out
      clear hX hq hr hj
      go_wp2_with fail
      go_ret2
      exact ⟨rfl, rfl⟩
    | succ k =>
      have e0 : ((k + 1 : Nat) : Int) - 1 = (k : Int) := by omega
      rw [e0]
      clear e0
      have HK := Lib.hid (show k ≤ 50 by omega)
      obtain ⟨Y, hY⟩ : ∃ Y, Y = b / 2 ^ k := ⟨_, rfl⟩
      obtain ⟨q2, hq2⟩ : ∃ x, x = 2 * q := ⟨_, rfl⟩
      obtain ⟨r2, hr2⟩ : ∃ x, x = 2 * r := ⟨_, rfl⟩
      have hw1 : IntKind.i64.wrap (2 * (q : Int)) = (q2 : Int) := by rw [wrap_id (by omega)]; omega
      have hw2 : IntKind.i64.wrap (2 * (r : Int)) = (r2 : Int) := by rw [wrap_id (by omega)]; omega
      have hsh : (b : Int) / 2 ^ k = (Y : Int) := by rw [hY]; simp
      have hk0 : (0 : Int) ≤ (k : Int) := by omega
      have hk64 : (k : Int) ≤ 64 := by omega
      have hand := i64_and1 (Y : Int)
      rcases Nat.mod_two_eq_zero_or_one Y with hp | hp
      · have hm : (Y : Int) % 2 = 0 := by omega
        rw [hm] at hand
        obtain ⟨r1, hr1⟩ : ∃ x, x = r2 := ⟨_, rfl⟩
        rw [← hr1] at hw2
        have HDW : Hid (Dw a b c k q2 r1) := by rw [hq2, hr1, hr2]; exact HDV.out.zero (by rw [← hY]; exact hp)
        have HR1 := Lib.hid (show r1 ≤ 4503599627370496 by omega)
        clear hp hm hr1
        clear hX hq hr hj hY hq2 hr2
        go_wp2_with fail
        go_loopw [8, 9] (fun x y wr2 => ∃ q' r' : Nat, x = .int .i64 (q' : Int) ∧ y = .int .i64 (r' : Int) ∧ Dw a b c k q' r' ∧ r' ≤ 4503599627370496 ∧ wr2 = wr) (fun _ y _ => (RowKit.intOf y).toNat)
        case atStart => exact ⟨q2, r1, rfl, rfl, HDW.out, HR1.out, rfl⟩
        case round =>
          obtain ⟨q', r', rfl, rfl, hdw, hr', rfl⟩ := hrel
          have HDW2 := Lib.hid hdw
          have hX := HX.out
          have hqb := hdw.q_le hX.1 hX.2.1
          clear hdw
          rcases Nat.lt_or_ge r' c with hlt | hge
          · have HD := Lib.hid (HDW2.out.done hlt)
            have f5 : ¬ c ≤ r' := by omega
            have hk9 : IntKind.i64.wrap ((k : Int) - 1) = (k : Int) - 1 := wrap_id (by have := HK.out; omega)
            clear hX hqb hr' hlt
            go_wp2_with fail
            go_roundw
            case rel => exact ⟨k, q', r', rfl, rfl, rfl, by have := HK.out; omega, HD.out, trivial⟩
            case measure => simp [RowKit.intOf]
          · obtain ⟨r3, hr3⟩ : ∃ x, x = r' - c := ⟨_, rfl⟩
            obtain ⟨q3, hq3⟩ : ∃ x, x = q' + 1 := ⟨_, rfl⟩
            have hw5 : IntKind.i64.wrap ((r' : Int) - (c : Int)) = (r3 : Int) := by rw [wrap_id (by omega)]; omega
            have hw6 : IntKind.i64.wrap ((q' : Int) + 1) = (q3 : Int) := by rw [wrap_id (by omega)]; omega
            have HD : Hid (Dw a b c k q3 r3) := by
              have h1 := HDW2.out
              rw [show r' = r3 + c by omega] at h1
              rw [hq3]
              exact h1.off
            have f5 : c ≤ r' := hge
            have HR3 := Lib.hid (show r3 ≤ 4503599627370496 ∧ r3 < r' by omega)
            clear hX hqb hr' hge hr3 hq3
            go_wp2_with fail
            go_roundw
            case rel => exact ⟨q3, r3, rfl, rfl, HD.out, HR3.out.1, trivial⟩
            case measure =>
              have := HR3.out
              simp [RowKit.intOf]; omega
      · have hm : (Y : Int) % 2 = 1 := by omega
        rw [hm] at hand
        obtain ⟨r1, hr1⟩ : ∃ x, x = r2 + a := ⟨_, rfl⟩
        have hw4 : IntKind.i64.wrap ((r2 : Int) + (a : Int)) = (r1 : Int) := by rw [wrap_id (by omega)]; omega
        have HDW : Hid (Dw a b c k q2 r1) := by rw [hq2, hr1, hr2]; exact HDV.out.one (by rw [← hY]; exact hp)
        have HR1 := Lib.hid (show r1 ≤ 4503599627370496 by omega)
        clear hp hm hr1
        clear hX hq hr hj hY hq2 hr2
        go_wp2_with fail
        go_loopw [8, 9] (fun x y wr2 => ∃ q' r' : Nat, x = .int .i64 (q' : Int) ∧ y = .int .i64 (r' : Int) ∧ Dw a b c k q' r' ∧ r' ≤ 4503599627370496 ∧ wr2 = wr) (fun _ y _ => (RowKit.intOf y).toNat)
        case atStart => exact ⟨q2, r1, rfl, rfl, HDW.out, HR1.out, rfl⟩
        case round =>
          obtain ⟨q', r', rfl, rfl, hdw, hr', rfl⟩ := hrel
          have HDW2 := Lib.hid hdw
          have hX := HX.out
          have hqb := hdw.q_le hX.1 hX.2.1
          clear hdw
          rcases Nat.lt_or_ge r' c with hlt | hge
          · have HD := Lib.hid (HDW2.out.done hlt)
            have f5 : ¬ c ≤ r' := by omega
            have hk9 : IntKind.i64.wrap ((k : Int) - 1) = (k : Int) - 1 := wrap_id (by have := HK.out; omega)
            clear hX hqb hr' hlt
            go_wp2_with fail
            go_roundw
            case rel => exact ⟨k, q', r', rfl, rfl, rfl, by have := HK.out; omega, HD.out, trivial⟩
            case measure => simp [RowKit.intOf]
          · obtain ⟨r3, hr3⟩ : ∃ x, x = r' - c := ⟨_, rfl⟩
            obtain ⟨q3, hq3⟩ : ∃ x, x = q' + 1 := ⟨_, rfl⟩
            have hw5 : IntKind.i64.wrap ((r' : Int) - (c : Int)) = (r3 : Int) := by rw [wrap_id (by omega)]; omega
            have hw6 : IntKind.i64.wrap ((q' : Int) + 1) = (q3 : Int) := by rw [wrap_id (by omega)]; omega
            have HD : Hid (Dw a b c k q3 r3) := by
              have h1 := HDW2.out
              rw [show r' = r3 + c by omega] at h1
              rw [hq3]
              exact h1.off
            have f5 : c ≤ r' := hge
            have HR3 := Lib.hid (show r3 ≤ 4503599627370496 ∧ r3 < r' by omega)
            clear hX hqb hr' hge hr3 hq3
            go_wp2_with fail
            go_roundw
            case rel => exact ⟨q3, r3, rfl, rfl, HD.out, HR3.out.1, trivial⟩
            case measure =>
              have := HR3.out
              simp [RowKit.intOf]; omega
end Go.Proofs.Ytagjimdplmimoaa.Share
