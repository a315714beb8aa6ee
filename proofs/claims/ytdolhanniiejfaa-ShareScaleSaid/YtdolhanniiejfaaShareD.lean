/- The comparison of remainders; share.largestFirst. -/
import Derived.Test.YtdolhanniiejfaaShareC
import Derived.Test.YtdolhanniiejfaaStableH
import Derived.Test.YtdolhanniiejfaaShelf
namespace Go.Proofs.Ytdolhanniiejfaa.Share
open Go.ChangeShapes Go.WideShapes Go.RowKit Go.Lib Go.Proofs.Ytdolhanniiejfaa.Mem Go.Proofs.Ytdolhanniiejfaa.Stable
set_option linter.unusedVariables false
set_option maxRecDepth 100000

theorem own_more {α : Type} {enc : α → Value} {t : TypeId} {B B' g n cap : Nat} {w : World} {L : List α} (h : Own enc t B w (.slice (some ⟨g, 0, none⟩) n cap) L) (hB : B' ≤ g) : Own enc t B' w (.slice (some ⟨g, 0, none⟩) n cap) L := by
  obtain ⟨h1, ⟨e, h0⟩ | ⟨g', cap', cur, e, h2, h3⟩⟩ := h
  · cases e
  · cases e
    exact ⟨h1, Or.inr ⟨g, cap, cur, rfl, hB, h3⟩⟩
/-- The remainder at k against that at i. -/
def cfR (r : Nat → Nat) (i k : Nat) : Int := Lib.compareInt (r k : Int) (r i : Int)
theorem cfR_neg (r : Nat → Nat) {i k : Nat} (h : k < i) : decide (cfR r i k < 0) = bt r i k := by
  unfold cfR Lib.compareInt
  rw [Bool.eq_iff_iff, bt_iff, decide_eq_true_iff]
  by_cases h1 : (r k : Int) < (r i : Int)
  · rw [if_pos h1]; simp; omega
  · rw [if_neg h1]
    split
    · simp; omega
    · simp; omega
theorem bt_sto (r : Nat → Nat) : Sto (bt r) := ⟨bt_irr r, fun i j k h1 h2 => bt_trans h1 h2, fun i j h => bt_total h⟩

set_option maxHeartbeats 800000 in
theorem cmp_run (n c gb : Nat) (A : Option Addr) (r : Nat → Nat) (W : World) (c1 : W.cell? ⟨gb, 0, none⟩ = some (.slice A n c)) (c2 : Cl eI W A (lst (fun i => (r i : Int)) n)) (x y : Nat) (hx : x < n) (hy : y < n) :
    Calls Try.prog 38 #[.int .i64 (x : Int), .int .i64 (y : Int), .pointer (some ⟨gb, 0, none⟩)] W fun e w' => e = .returned (.int .i64 (cfR r x y)) ∧ Below W.heap.size W w' := by
  obtain ⟨b, off, rfl, hb, k1⟩ := c2 x _ (lst_at _ hx)
  obtain ⟨b', off', e, hb', k2⟩ := c2 y _ (lst_at _ hy)
  cases e
  obtain ⟨p, hp⟩ : ∃ p : Int, p = (r x : Int) := ⟨_, rfl⟩
  obtain ⟨q, hq⟩ : ∃ q : Int, q = (r y : Int) := ⟨_, rfl⟩
  have HRES : Hid (cfR r x y = Lib.compareInt q p) := (by rw [hp, hq]; rfl : cfR r x y = Lib.compareInt q p)
  have f1 : W.cell? ⟨b, off + x, none⟩ = some (.int .i64 p) := by rw [k1, hp]
  have f2 : W.cell? ⟨b, off + y, none⟩ = some (.int .i64 q) := by rw [k2, hq]
  have i1 : (x : Int) < (n : Int) := by omega
  have i2 : (0 : Int) ≤ (x : Int) := by omega
  have i3 : (y : Int) < (n : Int) := by omega
  have i4 : (0 : Int) ≤ (y : Int) := by omega
  have hcon := fun W => Try.cmp_Compare_int q p W
  obtain ⟨z, hz⟩ : ∃ z, z = Lib.compareInt q p := ⟨_, rfl⟩
  rw [← hz] at hcon HRES
  have HCON := Lib.hid hcon
  clear hcon hz hp hq c2 k1 k2 hb'
  go_enter Try.func38, Try.ntmps38
  go_wp2_with fail
  go_quiet ((go_at_call 39; refine Calls.quiet_of_same (HCON.out _)))
  go_wp2_with fail
  go_ret
  exact ⟨ret_int HRES.out.symm, below_drewN (Below.refl _ _) _⟩

theorem cl_keep {w W : World} {A : Option Addr} {L : List Int} (h : Cl eI w A L) (hs : w.heap.size ≤ W.heap.size) (hk : ∀ b, b < w.heap.size → W.heap[b]? = w.heap[b]?) : Cl eI W A L := by
  intro k z hz
  obtain ⟨b, off, e, hlt, h0⟩ := h k z hz
  exact ⟨b, off, e, Nat.lt_of_lt_of_le hlt hs, (World.cell?_of_block (a := ⟨b, off + k, none⟩) (hk b hlt)).trans h0⟩
theorem cm_run (r : Nat → Nat) (n c gb g : Nat) (A : Option Addr) (w w0 : World) (hR : Cl eI w A (lst (fun i => (r i : Int)) n)) (hb : Below w.heap.size w w0) (hc : w0.cell? ⟨gb, 0, none⟩ = some (.slice A n c)) (hgb : gb < w0.heap.size) (hne : gb ≠ g) (hg : w.heap.size ≤ g) :
    Cm (fun k => (k : Int)) (bt r) n g w0 38 #[.pointer (some ⟨gb, 0, none⟩)] (cfR r) := by
  refine ⟨enters_of Try.func38 (by kernel_rfl) rfl, fun i j hij _ => cfR_neg r hij, fun i j W hij hi ho => ?_⟩
  have c1 : W.cell? ⟨gb, 0, none⟩ = some (.slice A n c) := (World.cell?_of_block (a := ⟨gb, 0, none⟩) (ho.block gb hgb hne)).trans hc
  have c2 : Cl eI W A (lst (fun i => (r i : Int)) n) := cl_keep hR (Nat.le_trans hb.size ho.size) fun b hlt => (ho.block b (Nat.lt_of_lt_of_le hlt hb.size) (by omega)).trans (hb.block b hlt)
  exact cmp_run n c gb A r W c1 c2 i j hi (by omega)

/-- What largestFirst returns: at place k the index of rank k. -/
def LaR (r : Nat → Nat) (n : Nat) (w : World) : Ending → World → Prop := fun e w' => ∃ (g : Nat) (s : Nat → Nat), e = .returned (.slice (some ⟨g, 0, none⟩) n n) ∧ w.heap.size ≤ g ∧ Own eI 3 w.heap.size w' (.slice (some ⟨g, 0, none⟩) n n) (lst (fun k => (s k : Int)) n) ∧ (∀ k, k < n → s k < n ∧ rank r n (s k) = k) ∧ Below w.heap.size w w'

set_option maxHeartbeats 1600000 in
theorem largest_first (r : Nat → Nat) (n c : Nat) (A : Option Addr) (w : World) (hn : n ≤ 512) (hR : Cl eI w A (lst (fun i => (r i : Int)) n)) :
    Calls Try.prog 25 #[.slice A n c] w (LaR r n w) := by
  have HR := Lib.hid hR
  have HN := Lib.hid hn
  have hmk := fun W => make_ints n (by omega) W
  clear hR
  go_enter Try.func25, Try.ntmps25
  go_upto_region 2 with fail
  obtain ⟨w1, hw1⟩ : ∃ W, w.alloc (.cells #[.slice A n c] 22) = W := ⟨_, rfl⟩
  have HB1 : Hid (Below w.heap.size w w1) := hw1 ▸ below_alloc _ _
  have hs1 : w1.heap.size = w.heap.size + 1 := by rw [← hw1]; simp
  have HC1 : Hid (w1.cell? ⟨w.heap.size, 0, none⟩ = some (.slice A n c)) := hw1 ▸ (by simp : (w.alloc (.cells #[.slice A n c] 22)).cell? ⟨w.heap.size, 0, none⟩ = some (.slice A n c))
  obtain ⟨w2, hw2⟩ : ∃ W, w1.alloc (.cells (madeCells #[.int .i64 0] n) 3) = W := ⟨_, rfl⟩
  have HOW2 : Hid (Own eI 3 w.heap.size w2 (.slice (some ⟨w.heap.size + 1, 0, none⟩) n n) (lst (fun _ => 0) n)) := by
    have h1 := (own_made eI 3 w1 n 0 (by omega)).less (B' := w.heap.size) (by omega)
    rw [hs1, hw2] at h1
    have e : List.replicate n (0 : Int) = lst (fun _ => 0) n := by unfold lst; rw [List.map_const', List.length_range]
    rw [e] at h1; exact h1
  have HBA := Lib.hid (hw2 ▸ below_alloc w1 (.cells (madeCells #[.int .i64 0] n) 3) : Below w1.heap.size w1 w2)
  have HB2 : Hid (Below w.heap.size w w2) := bstep HB1.out HBA.out
  have HC2 : Hid (w2.cell? ⟨w.heap.size, 0, none⟩ = some (.slice A n c)) := (HBA.out.cell (p := ⟨w.heap.size, 0, none⟩) (by show w.heap.size < _; omega)).trans HC1.out
  have HS2 : Hid (w.heap.size + 1 < w2.heap.size) := (HOW2.out.lt _ rfl).2
  have HCL2 : Hid (Cl eI w2 A (lst (fun i => (r i : Int)) n)) := HR.out.on HB2.out
  obtain ⟨g, hg⟩ : ∃ g, g = w.heap.size + 1 := ⟨_, rfl⟩
  obtain ⟨gb, hgb⟩ : ∃ g, g = w.heap.size := ⟨_, rfl⟩
  rw [hw1, hw2]
  rw [← hg] at HOW2 HS2 ⊢
  rw [← hgb]
  have HG := Lib.hid (show g = w.heap.size + 1 ∧ gb = w.heap.size from ⟨hg, hgb⟩)
  have HC3 : Hid (w2.cell? ⟨gb, 0, none⟩ = some (.slice A n c)) := hgb ▸ HC2.out
  clear hw1 hw2 hg hgb hs1 hmk HC1 HC2 HB1 HBA hn
  go_wp2_with fail
  go_loopw [4, 10] (fun _ x wr => ∃ k : Nat, x = .int .i64 (k : Int) ∧ k ≤ n ∧ Own eI 3 w.heap.size wr (.slice (some ⟨g, 0, none⟩) n n) (lst (fun j => if j < k then (j : Int) else 0) n) ∧ Below g w2 wr) (fun _ x _ => n - (RowKit.intOf x).toNat)
  case atStart => exact ⟨0, rfl, Nat.zero_le _, by simpa using HOW2.out, Below.refl _ _⟩
  case round =>
    obtain ⟨k, rfl, hk, hown, hbel⟩ := hrel
    have HO := Lib.hid hown
    have HB := Lib.hid hbel
    clear hown hbel
    have hN := HN.out
    rcases Nat.lt_or_ge k n with hlt | hge
    · have fk := HO.out.warm (lst_len _ n).symm k
      have ck := HO.out.cell (lst_at _ hlt)
      rw [if_neg (Nat.lt_irrefl k)] at ck
      have i1 : (k : Int) < (n : Int) := by omega
      have i2 : (0 : Int) ≤ (k : Int) := by omega
      have hk1 : IntKind.i64.wrap ((k : Int) + 1) = ((k + 1 : Nat) : Int) := wrap_id (by omega)
      have HE : Hid (Own eI 3 w.heap.size (wr.setCell ⟨g, k, none⟩ (.int .i64 (k : Int))) (.slice (some ⟨g, 0, none⟩) n n) (lst (fun j => if j < k + 1 then (j : Int) else 0) n)) := by
        have h1 := HO.out.set (lst_len _ n).symm k (k : Int)
        rw [lst_set (g := fun j => if j < k + 1 then (j : Int) else 0) hlt (fun i hi => by
          by_cases h : i = k
          · subst h; simp
          · rw [if_neg h]
            by_cases h2 : i < k
            · rw [if_pos (by omega), if_pos h2]
            · rw [if_neg (by omega), if_neg h2])] at h1
        exact h1
      have HBE : Hid (Below g w2 (wr.setCell ⟨g, k, none⟩ (.int .i64 (k : Int)))) := below_set HB.out (p := ⟨g, k, none⟩) (Nat.le_refl _) _
      clear hN hlt
      go_wp2_with fail
      go_roundw
      case rel => exact ⟨k + 1, rfl, by omega, HE.out, HBE.out⟩
      case measure => simp [RowKit.intOf]; omega
    · obtain rfl : n = k := by omega
      have HBW : Hid (Below w.heap.size w wr) := HB2.out.trans (HB.out.mono (by have := HG.out; omega))
      have HC4 : Hid (wr.cell? ⟨gb, 0, none⟩ = some (.slice A n c)) := (HB.out.cell (p := ⟨gb, 0, none⟩) (by show gb < g; have := HG.out; omega)).trans HC3.out
      have HO2 : Hid (Own eI 3 w.heap.size wr (.slice (some ⟨g, 0, none⟩) n n) (lst (fun j => (j : Int)) n)) := by
        have := HO.out
        rw [lst_congr (g := fun j => (j : Int)) fun i hi => if_pos hi] at this
        exact this
      have HST : Hid (St (fun k => (k : Int)) g n n wr wr (fun k => k)) := ⟨HO2.out.less (Nat.zero_le _), Off.refl _ _, fun k hk => hk⟩
      have HSZ : Hid (g < wr.heap.size) := (HO.out.lt g rfl).2
      have HCM := Lib.hid (cm_run r n c gb g A w wr HR.out HBW.out HC4.out (by have := HG.out; have := HSZ.out; omega) (by have := HG.out; omega) (by have := HG.out; omega))
      have HSRT := Lib.hid (sort_stable (bt_sto r) HCM.out HST.out (by omega) (fun k => rfl))
      clear hN hk hge
      go_wp2_with fail
      refine HSRT.out.mono ?_
      rintro e w3 ⟨rfl, s, hst, hsrt, hbd⟩
      have HD : Hid (Own eI 3 w.heap.size w3 (.slice (some ⟨g, 0, none⟩) n n) (lst (fun k => (s k : Int)) n)) := own_more hst.own (by have := HG.out; omega)
      have HRK : Hid (∀ k, k < n → s k < n ∧ rank r n (s k) = k) := fun k hk => ⟨hbd k hk, rank_sorted hbd (fun j k h1 h2 => hsrt j k (Nat.zero_le _) h1 h2) k hk⟩
      have HBZ : Hid (Below w.heap.size w w3) := HBW.out.trans (Off.below hst.off HBW.out.size fun x hx => by have := HG.out; omega)
      clear hst hsrt hbd
      go_wp2_with fail
      go_ret
      exact ⟨g, s, rfl, by have := HG.out; omega, HD.out, HRK.out, HBZ.out⟩
#print axioms cmp_run
#print axioms largest_first
end Go.Proofs.Ytdolhanniiejfaa.Share
