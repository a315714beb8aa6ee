/- The walk of RatTotals. -/
import Derived.Test.YthkhaipbdphpeaaDoorPk10
import Derived.Test.YthkhaipbdphpeaaDoorCRatZ
import Derived.OpenShut
namespace Go.Proofs.YthkhaipbdphpeaaDoor
open Go.ChangeShapes Go.WideShapes Go.RowKit
set_option linter.unusedVariables false
set_option maxRecDepth 100000

set_option maxHeartbeats 12800000 in
theorem totals_long (w : World) (A : Option Addr) (c : Nat) (L : List Trip) (ha : Rats w A L) (hm : L.length ≤ 9223372036854775807) (many : Int) (wm : (Lit.int .i64 many).wf = true) (ht : Tab w) (hl : 40 < L.length) :
    Calls Tryd.prog 7 #[.slice A L.length c, .int .i64 many] w fun e w' => e = .returned (.bool true) ∧ Below w.heap.size w w' := by
  have HT := Lib.hid ht
  have HA := Lib.hid ha
  have bm := bounds_i64 wm
  have HA0 := HA
  have HB := Lib.hid (Below.refl w.heap.size w)
  clear ht ha wm
  have hl' : (40 : Int) < (L.length : Int) := by omega
  go_enter Tryd.func7, Tryd.ntmps7
  go_wp2_with fail
  refine (awake3 _ (HT.out.on HB.out)).mono ?_
  rintro e w1 ⟨rfl, hb⟩
  replace HB : Hid (Below w.heap.size w w1) := bstep HB.out hb
  clear hb
  go_wp2_with fail
  go_ret
  exact ⟨rfl, HB.out⟩

set_option maxHeartbeats 12800000 in
theorem totals_few (w : World) (A : Option Addr) (c : Nat) (L : List Trip) (ha : Rats w A L) (hm : L.length ≤ 9223372036854775807) (many : Int) (wm : (Lit.int .i64 many).wf = true) (ht : Tab w) (hl : ¬ 40 < L.length) (hf : many < 4095 ∨ (4095 ≤ many ∧ 4098 < many) ∨ (4095 ≤ many ∧ many ≤ 4098 ∧ L.length = 0)) :
    Calls Tryd.prog 7 #[.slice A L.length c, .int .i64 many] w fun e w' => e = .returned (.bool true) ∧ Below w.heap.size w w' := by
  have HT := Lib.hid ht
  have HA := Lib.hid ha
  have bm := bounds_i64 wm
  have HA0 := HA
  have HB := Lib.hid (Below.refl w.heap.size w)
  clear ht ha wm
  have hl' : decide ((40 : Int) < (L.length : Int)) = false := decide_eq_false (by omega)
  have hl2 : decide (40 < L.length) = false := decide_eq_false hl
  have HS1 := Lib.hid (fun W h => rat_Sum L A c W h hm)
  have HS2 := Lib.hid (fun W h => ref_Sum3 L A c W h hm)
  have hc : decide (many < 4095) = true ∨ (decide (many < 4095) = false ∧ decide (4098 < many) = true) ∨ (decide (many < 4095) = false ∧ decide (4098 < many) = false ∧ ((L.length : Int) == 0) = true) := by
    rcases hf with h | ⟨h, h2⟩ | ⟨h, h2, h3⟩
    · exact Or.inl (decide_eq_true h)
    · exact Or.inr (Or.inl ⟨decide_eq_false (by omega), decide_eq_true h2⟩)
    · exact Or.inr (Or.inr ⟨decide_eq_false (by omega), decide_eq_false (by omega), by rw [h3]; rfl⟩)
  clear hf hl hm
  rcases hc with h1 | ⟨h1, h2⟩ | ⟨h1, h2, h3⟩
  · skip
    go_enter Tryd.func7, Tryd.ntmps7
    go_wp2_with fail
    refine (HS1.out _ HA.out).mono ?_
    rintro e w1 h
    obtain ⟨zbs, zAs, zns, zds, zBs, zms, zqs, rfl, ho, hb⟩ := h.open_
    replace HA := Lib.hid (HA.out.on hb)
    replace HB : Hid (Below w.heap.size w w1) := bstep HB.out hb
    have HOs := Lib.hid ho
    clear h ho hb
    go_wp2_with fail
    obtain ⟨w2, hw⟩ : ∃ W, W = w1.alloc (.cells #[.bool zbs, .slice zAs zns zds, .slice zBs zms zqs] 25) := ⟨_, rfl⟩
    have hb : Below w1.heap.size w1 w2 := by rw [hw]; exact below_alloc _ _
    obtain ⟨gs, hg⟩ : ∃ g, g = w1.heap.size := ⟨_, rfl⟩
    have hcn : Cel w2 gs (.bool zbs) (.slice zAs zns zds) (.slice zBs zms zqs) := by rw [hw, hg]; exact Cel.new _ _ _ _ _
    rw [← hw]
    rw [← hg]
    replace HA := Lib.hid (HA.out.on hb)
    replace HOs := Lib.hid (HOs.out.on hb)
    replace HB : Hid (Below w.heap.size w w2) := bstep HB.out hb
    have HCs := Lib.hid hcn
    clear hw hb hg hcn
    refine (HS2.out _ HA.out).mono ?_
    rintro e w3 h
    obtain ⟨zbt, zAt, znt, zdt, zBt, zmt, zqt, rfl, ho, hb⟩ := h.open_
    replace HCs := Lib.hid (HCs.out.on hb)
    replace HA := Lib.hid (HA.out.on hb)
    replace HOs := Lib.hid (HOs.out.on hb)
    replace HB : Hid (Below w.heap.size w w3) := bstep HB.out hb
    have HOt := Lib.hid ho
    clear h ho hb
    obtain ⟨⟨xs0, xs1, xs2⟩, ys0, ys1, ys2⟩ := HCs.out
    have lts := HCs.out.lt
    go_wp2_with fail
    clear xs0 xs1 xs2 ys0 ys1 ys2 lts
    obtain ⟨w4, hw⟩ : ∃ W, W = w3.alloc (.cells #[.bool zbt, .slice zAt znt zdt, .slice zBt zmt zqt] 25) := ⟨_, rfl⟩
    have hb : Below w3.heap.size w3 w4 := by rw [hw]; exact below_alloc _ _
    obtain ⟨gt, hg⟩ : ∃ g, g = w3.heap.size := ⟨_, rfl⟩
    have hcn : Cel w4 gt (.bool zbt) (.slice zAt znt zdt) (.slice zBt zmt zqt) := by rw [hw, hg]; exact Cel.new _ _ _ _ _
    rw [← hw]
    rw [← hg]
    replace HCs := Lib.hid (HCs.out.on hb)
    replace HA := Lib.hid (HA.out.on hb)
    replace HOs := Lib.hid (HOs.out.on hb)
    replace HOt := Lib.hid (HOt.out.on hb)
    replace HB : Hid (Below w.heap.size w w4) := bstep HB.out hb
    have HCt := Lib.hid hcn
    clear hw hb hg hcn
    refine (same_out HOs.out HOt.out).mono ?_
    rintro e w5 ⟨rfl, hb⟩
    replace HCs := Lib.hid (HCs.out.on hb)
    replace HCt := Lib.hid (HCt.out.on hb)
    replace HA := Lib.hid (HA.out.on hb)
    replace HOs := Lib.hid (HOs.out.on hb)
    replace HOt := Lib.hid (HOt.out.on hb)
    replace HB : Hid (Below w.heap.size w w5) := bstep HB.out hb
    clear hb
    obtain ⟨⟨xs0, xs1, xs2⟩, ys0, ys1, ys2⟩ := HCs.out
    have lts := HCs.out.lt
    obtain ⟨⟨xt0, xt1, xt2⟩, yt0, yt1, yt2⟩ := HCt.out
    have ltt := HCt.out.lt
    go_wp2_with fail
    clear xs0 xs1 xs2 ys0 ys1 ys2 lts xt0 xt1 xt2 yt0 yt1 yt2 ltt
    refine (awake3 _ (HT.out.on HB.out)).mono ?_
    rintro e w6 ⟨rfl, hb⟩
    replace HCs := Lib.hid (HCs.out.on hb)
    replace HCt := Lib.hid (HCt.out.on hb)
    replace HA := Lib.hid (HA.out.on hb)
    replace HOs := Lib.hid (HOs.out.on hb)
    replace HOt := Lib.hid (HOt.out.on hb)
    replace HB : Hid (Below w.heap.size w w6) := bstep HB.out hb
    clear hb
    obtain ⟨⟨xs0, xs1, xs2⟩, ys0, ys1, ys2⟩ := HCs.out
    have lts := HCs.out.lt
    obtain ⟨⟨xt0, xt1, xt2⟩, yt0, yt1, yt2⟩ := HCt.out
    have ltt := HCt.out.lt
    go_wp2_with fail
    go_ret
    exact ⟨rfl, HB.out⟩
  · skip
    go_enter Tryd.func7, Tryd.ntmps7
    go_wp2_with fail
    refine (HS1.out _ HA.out).mono ?_
    rintro e w1 h
    obtain ⟨zbs, zAs, zns, zds, zBs, zms, zqs, rfl, ho, hb⟩ := h.open_
    replace HA := Lib.hid (HA.out.on hb)
    replace HB : Hid (Below w.heap.size w w1) := bstep HB.out hb
    have HOs := Lib.hid ho
    clear h ho hb
    go_wp2_with fail
    obtain ⟨w2, hw⟩ : ∃ W, W = w1.alloc (.cells #[.bool zbs, .slice zAs zns zds, .slice zBs zms zqs] 25) := ⟨_, rfl⟩
    have hb : Below w1.heap.size w1 w2 := by rw [hw]; exact below_alloc _ _
    obtain ⟨gs, hg⟩ : ∃ g, g = w1.heap.size := ⟨_, rfl⟩
    have hcn : Cel w2 gs (.bool zbs) (.slice zAs zns zds) (.slice zBs zms zqs) := by rw [hw, hg]; exact Cel.new _ _ _ _ _
    rw [← hw]
    rw [← hg]
    replace HA := Lib.hid (HA.out.on hb)
    replace HOs := Lib.hid (HOs.out.on hb)
    replace HB : Hid (Below w.heap.size w w2) := bstep HB.out hb
    have HCs := Lib.hid hcn
    clear hw hb hg hcn
    refine (HS2.out _ HA.out).mono ?_
    rintro e w3 h
    obtain ⟨zbt, zAt, znt, zdt, zBt, zmt, zqt, rfl, ho, hb⟩ := h.open_
    replace HCs := Lib.hid (HCs.out.on hb)
    replace HA := Lib.hid (HA.out.on hb)
    replace HOs := Lib.hid (HOs.out.on hb)
    replace HB : Hid (Below w.heap.size w w3) := bstep HB.out hb
    have HOt := Lib.hid ho
    clear h ho hb
    obtain ⟨⟨xs0, xs1, xs2⟩, ys0, ys1, ys2⟩ := HCs.out
    have lts := HCs.out.lt
    go_wp2_with fail
    clear xs0 xs1 xs2 ys0 ys1 ys2 lts
    obtain ⟨w4, hw⟩ : ∃ W, W = w3.alloc (.cells #[.bool zbt, .slice zAt znt zdt, .slice zBt zmt zqt] 25) := ⟨_, rfl⟩
    have hb : Below w3.heap.size w3 w4 := by rw [hw]; exact below_alloc _ _
    obtain ⟨gt, hg⟩ : ∃ g, g = w3.heap.size := ⟨_, rfl⟩
    have hcn : Cel w4 gt (.bool zbt) (.slice zAt znt zdt) (.slice zBt zmt zqt) := by rw [hw, hg]; exact Cel.new _ _ _ _ _
    rw [← hw]
    rw [← hg]
    replace HCs := Lib.hid (HCs.out.on hb)
    replace HA := Lib.hid (HA.out.on hb)
    replace HOs := Lib.hid (HOs.out.on hb)
    replace HOt := Lib.hid (HOt.out.on hb)
    replace HB : Hid (Below w.heap.size w w4) := bstep HB.out hb
    have HCt := Lib.hid hcn
    clear hw hb hg hcn
    refine (same_out HOs.out HOt.out).mono ?_
    rintro e w5 ⟨rfl, hb⟩
    replace HCs := Lib.hid (HCs.out.on hb)
    replace HCt := Lib.hid (HCt.out.on hb)
    replace HA := Lib.hid (HA.out.on hb)
    replace HOs := Lib.hid (HOs.out.on hb)
    replace HOt := Lib.hid (HOt.out.on hb)
    replace HB : Hid (Below w.heap.size w w5) := bstep HB.out hb
    clear hb
    obtain ⟨⟨xs0, xs1, xs2⟩, ys0, ys1, ys2⟩ := HCs.out
    have lts := HCs.out.lt
    obtain ⟨⟨xt0, xt1, xt2⟩, yt0, yt1, yt2⟩ := HCt.out
    have ltt := HCt.out.lt
    go_wp2_with fail
    clear xs0 xs1 xs2 ys0 ys1 ys2 lts xt0 xt1 xt2 yt0 yt1 yt2 ltt
    refine (awake3 _ (HT.out.on HB.out)).mono ?_
    rintro e w6 ⟨rfl, hb⟩
    replace HCs := Lib.hid (HCs.out.on hb)
    replace HCt := Lib.hid (HCt.out.on hb)
    replace HA := Lib.hid (HA.out.on hb)
    replace HOs := Lib.hid (HOs.out.on hb)
    replace HOt := Lib.hid (HOt.out.on hb)
    replace HB : Hid (Below w.heap.size w w6) := bstep HB.out hb
    clear hb
    obtain ⟨⟨xs0, xs1, xs2⟩, ys0, ys1, ys2⟩ := HCs.out
    have lts := HCs.out.lt
    obtain ⟨⟨xt0, xt1, xt2⟩, yt0, yt1, yt2⟩ := HCt.out
    have ltt := HCt.out.lt
    go_wp2_with fail
    go_ret
    exact ⟨rfl, HB.out⟩
  · skip
    go_enter Tryd.func7, Tryd.ntmps7
    go_wp2_with fail
    refine (HS1.out _ HA.out).mono ?_
    rintro e w1 h
    obtain ⟨zbs, zAs, zns, zds, zBs, zms, zqs, rfl, ho, hb⟩ := h.open_
    replace HA := Lib.hid (HA.out.on hb)
    replace HB : Hid (Below w.heap.size w w1) := bstep HB.out hb
    have HOs := Lib.hid ho
    clear h ho hb
    go_wp2_with fail
    obtain ⟨w2, hw⟩ : ∃ W, W = w1.alloc (.cells #[.bool zbs, .slice zAs zns zds, .slice zBs zms zqs] 25) := ⟨_, rfl⟩
    have hb : Below w1.heap.size w1 w2 := by rw [hw]; exact below_alloc _ _
    obtain ⟨gs, hg⟩ : ∃ g, g = w1.heap.size := ⟨_, rfl⟩
    have hcn : Cel w2 gs (.bool zbs) (.slice zAs zns zds) (.slice zBs zms zqs) := by rw [hw, hg]; exact Cel.new _ _ _ _ _
    rw [← hw]
    rw [← hg]
    replace HA := Lib.hid (HA.out.on hb)
    replace HOs := Lib.hid (HOs.out.on hb)
    replace HB : Hid (Below w.heap.size w w2) := bstep HB.out hb
    have HCs := Lib.hid hcn
    clear hw hb hg hcn
    refine (HS2.out _ HA.out).mono ?_
    rintro e w3 h
    obtain ⟨zbt, zAt, znt, zdt, zBt, zmt, zqt, rfl, ho, hb⟩ := h.open_
    replace HCs := Lib.hid (HCs.out.on hb)
    replace HA := Lib.hid (HA.out.on hb)
    replace HOs := Lib.hid (HOs.out.on hb)
    replace HB : Hid (Below w.heap.size w w3) := bstep HB.out hb
    have HOt := Lib.hid ho
    clear h ho hb
    obtain ⟨⟨xs0, xs1, xs2⟩, ys0, ys1, ys2⟩ := HCs.out
    have lts := HCs.out.lt
    go_wp2_with fail
    clear xs0 xs1 xs2 ys0 ys1 ys2 lts
    obtain ⟨w4, hw⟩ : ∃ W, W = w3.alloc (.cells #[.bool zbt, .slice zAt znt zdt, .slice zBt zmt zqt] 25) := ⟨_, rfl⟩
    have hb : Below w3.heap.size w3 w4 := by rw [hw]; exact below_alloc _ _
    obtain ⟨gt, hg⟩ : ∃ g, g = w3.heap.size := ⟨_, rfl⟩
    have hcn : Cel w4 gt (.bool zbt) (.slice zAt znt zdt) (.slice zBt zmt zqt) := by rw [hw, hg]; exact Cel.new _ _ _ _ _
    rw [← hw]
    rw [← hg]
    replace HCs := Lib.hid (HCs.out.on hb)
    replace HA := Lib.hid (HA.out.on hb)
    replace HOs := Lib.hid (HOs.out.on hb)
    replace HOt := Lib.hid (HOt.out.on hb)
    replace HB : Hid (Below w.heap.size w w4) := bstep HB.out hb
    have HCt := Lib.hid hcn
    clear hw hb hg hcn
    refine (same_out HOs.out HOt.out).mono ?_
    rintro e w5 ⟨rfl, hb⟩
    replace HCs := Lib.hid (HCs.out.on hb)
    replace HCt := Lib.hid (HCt.out.on hb)
    replace HA := Lib.hid (HA.out.on hb)
    replace HOs := Lib.hid (HOs.out.on hb)
    replace HOt := Lib.hid (HOt.out.on hb)
    replace HB : Hid (Below w.heap.size w w5) := bstep HB.out hb
    clear hb
    obtain ⟨⟨xs0, xs1, xs2⟩, ys0, ys1, ys2⟩ := HCs.out
    have lts := HCs.out.lt
    obtain ⟨⟨xt0, xt1, xt2⟩, yt0, yt1, yt2⟩ := HCt.out
    have ltt := HCt.out.lt
    go_wp2_with fail
    clear xs0 xs1 xs2 ys0 ys1 ys2 lts xt0 xt1 xt2 yt0 yt1 yt2 ltt
    refine (awake3 _ (HT.out.on HB.out)).mono ?_
    rintro e w6 ⟨rfl, hb⟩
    replace HCs := Lib.hid (HCs.out.on hb)
    replace HCt := Lib.hid (HCt.out.on hb)
    replace HA := Lib.hid (HA.out.on hb)
    replace HOs := Lib.hid (HOs.out.on hb)
    replace HOt := Lib.hid (HOt.out.on hb)
    replace HB : Hid (Below w.heap.size w w6) := bstep HB.out hb
    clear hb
    obtain ⟨⟨xs0, xs1, xs2⟩, ys0, ys1, ys2⟩ := HCs.out
    have lts := HCs.out.lt
    obtain ⟨⟨xt0, xt1, xt2⟩, yt0, yt1, yt2⟩ := HCt.out
    have ltt := HCt.out.lt
    go_wp2_with fail
    go_ret
    exact ⟨rfl, HB.out⟩

/-- Three cells from o on. -/
def CelO (w : World) (g o : Nat) (u0 u1 u2 : Value) : Prop :=
  (w.cell? ⟨g, o, none⟩ = some u0 ∧ w.cell? ⟨g, o + 1, none⟩ = some u1 ∧ w.cell? ⟨g, o + 2, none⟩ = some u2) ∧ (w.frozen? ⟨g, o, none⟩ = false ∧ w.frozen? ⟨g, o + 1, none⟩ = false ∧ w.frozen? ⟨g, o + 2, none⟩ = false)
theorem CelO.lt {w : World} {g o : Nat} {u0 u1 u2 : Value} (h : CelO w g o u0 u1 u2) : g < w.heap.size := World.block_lt_of_cell? w _ h.1.1
theorem CelO.below {w w' : World} {B g o : Nat} {u0 u1 u2 : Value} (h : CelO w g o u0 u1 u2) (hb : Below B w w') (hg : g < B) : CelO w' g o u0 u1 u2 := by
  obtain ⟨⟨h0, h1, h2⟩, f0, f1, f2⟩ := h
  exact ⟨⟨(hb.cell (p := ⟨g, o, none⟩) hg).trans h0, (hb.cell (p := ⟨g, o + 1, none⟩) hg).trans h1, (hb.cell (p := ⟨g, o + 2, none⟩) hg).trans h2⟩,
    (hb.frozen (p := ⟨g, o, none⟩) hg).trans f0, (hb.frozen (p := ⟨g, o + 1, none⟩) hg).trans f1, (hb.frozen (p := ⟨g, o + 2, none⟩) hg).trans f2⟩
theorem CelO.on {w w' : World} {g o : Nat} {u0 u1 u2 : Value} (h : CelO w g o u0 u1 u2) (hb : Below w.heap.size w w') : CelO w' g o u0 u1 u2 := h.below hb h.lt
def putO (w : World) (g o : Nat) (u0 u1 u2 : Value) : World := ((w.setCell ⟨g, o, none⟩ u0).setCell ⟨g, o + 1, none⟩ u1).setCell ⟨g, o + 2, none⟩ u2
theorem off_ne {g i j : Nat} (h : i ≠ j) : (⟨g, i, none⟩ : Addr) ≠ ⟨g, j, none⟩ := fun e => by cases e; exact h rfl
theorem CelO.putO {w : World} {g o : Nat} {u0 u1 u2 : Value} (h : CelO w g o u0 u1 u2) (x0 x1 x2 : Value) : CelO (putO w g o x0 x1 x2) g o x0 x1 x2 := by
  obtain ⟨⟨h0, h1, h2⟩, f0, f1, f2⟩ := h
  have a : ∀ (W : World) (x : Value) (i j : Nat), i ≠ j → (W.setCell ⟨g, i, none⟩ x).cell? ⟨g, j, none⟩ = W.cell? ⟨g, j, none⟩ := fun W x i j hi => World.cell?_setCell_other W _ _ x (off_ne hi)
  unfold Go.Proofs.YthkhaipbdphpeaaDoor.putO
  refine ⟨⟨?_, ?_, ?_⟩, by simpa using f0, by simpa using f1, by simpa using f2⟩
  · rw [a _ _ _ _ (by omega), a _ _ _ _ (by omega)]; exact set_same h0 _
  · rw [a _ _ _ _ (by omega)]; exact set_same ((a _ _ _ _ (by omega)).trans h1) _
  · exact set_same (((a _ _ _ _ (by omega)).trans (a _ _ _ _ (by omega))).trans h2) _
theorem CelO.far {w : World} {g o p : Nat} {u0 u1 u2 : Value} (h : CelO w g o u0 u1 u2) (hp : p + 2 < o ∨ o + 2 < p) (x0 x1 x2 : Value) : CelO (Go.Proofs.YthkhaipbdphpeaaDoor.putO w g p x0 x1 x2) g o u0 u1 u2 := by
  obtain ⟨⟨h0, h1, h2⟩, f0, f1, f2⟩ := h
  have a : ∀ (W : World) (x : Value) (i j : Nat), i ≠ j → (W.setCell ⟨g, i, none⟩ x).cell? ⟨g, j, none⟩ = W.cell? ⟨g, j, none⟩ := fun W x i j hi => World.cell?_setCell_other W _ _ x (off_ne hi)
  unfold Go.Proofs.YthkhaipbdphpeaaDoor.putO
  refine ⟨⟨?_, ?_, ?_⟩, by simpa using f0, by simpa using f1, by simpa using f2⟩
  · rw [a _ _ _ _ (by omega), a _ _ _ _ (by omega), a _ _ _ _ (by omega)]; exact h0
  · rw [a _ _ _ _ (by omega), a _ _ _ _ (by omega), a _ _ _ _ (by omega)]; exact h1
  · rw [a _ _ _ _ (by omega), a _ _ _ _ (by omega), a _ _ _ _ (by omega)]; exact h2
theorem below_putO {B : Nat} {w w' : World} (h : Below B w w') {g : Nat} (hg : B ≤ g) (o : Nat) (x0 x1 x2 : Value) : Below B w (putO w' g o x0 x1 x2) :=
  ((h.setCell (p := ⟨g, o, none⟩) hg _).setCell (p := ⟨g, o + 1, none⟩) hg _).setCell (p := ⟨g, o + 2, none⟩) hg _
theorem putO_size (w : World) (g o : Nat) (x0 x1 x2 : Value) : (putO w g o x0 x1 x2).heap.size = w.heap.size := by simp [putO]
theorem cell_putO {w : World} {g h o i : Nat} (hh : h ≠ g) (x0 x1 x2 : Value) : (putO w g o x0 x1 x2).cell? ⟨h, i, none⟩ = w.cell? ⟨h, i, none⟩ := by
  have a : ∀ (W : World) (x : Value) (j : Nat), (W.setCell ⟨g, j, none⟩ x).cell? ⟨h, i, none⟩ = W.cell? ⟨h, i, none⟩ := fun W x j => World.cell?_setCell_other W _ _ x (fun e => by cases e; exact hh rfl)
  unfold putO
  rw [a, a, a]

/-- The slice that the law fills: k elements are filled. -/
def Fill (w : World) (g N k : Nat) : Prop := ∀ j, j < N →
  if j < k then ∃ h, CelO w g (j * 3) (.bool false) (.slice none 0 0) (.slice (some ⟨h, 0, none⟩) 1 1) ∧ h ≠ g ∧ w.cell? ⟨h, 0, none⟩ = some (.int .i64 1)
  else CelO w g (j * 3) (.bool false) (.slice none 0 0) (.slice none 0 0)
theorem Fill.on {w w' : World} {g N k : Nat} (h : Fill w g N k) (hb : Below w.heap.size w w') : Fill w' g N k := by
  intro j hj
  have := h j hj
  split at this
  · rename_i hk
    obtain ⟨x, h1, h2, h3⟩ := this
    rw [if_pos hk]
    exact ⟨x, h1.on hb, h2, (hb.cell (p := ⟨x, 0, none⟩) (World.block_lt_of_cell? w _ h3)).trans h3⟩
  · rename_i hk
    rw [if_neg hk]; exact this.on hb
theorem Fill.step {w : World} {g N k h : Nat} (hf : Fill w g N k) (hk : k < N) (hh : h ≠ g) (hc : w.cell? ⟨h, 0, none⟩ = some (.int .i64 1)) :
    Fill (putO w g (k * 3) (.bool false) (.slice none 0 0) (.slice (some ⟨h, 0, none⟩) 1 1)) g N (k + 1) := by
  intro j hj
  have hj' := hf j hj
  rcases Nat.lt_trichotomy j k with hjk | hjk | hjk
  · rw [if_pos hjk] at hj'
    obtain ⟨x, h1, h2, h3⟩ := hj'
    rw [if_pos (by omega)]
    exact ⟨x, h1.far (by omega) _ _ _, h2, (cell_putO h2 _ _ _).trans h3⟩
  · subst hjk
    rw [if_neg (by omega)] at hj'
    rw [if_pos (by omega)]
    exact ⟨h, hj'.putO _ _ _, hh, (cell_putO hh _ _ _).trans hc⟩
  · rw [if_neg (by omega)] at hj'
    rw [if_neg (by omega)]
    exact hj'.far (by omega) _ _ _
theorem balloc' {B : Nat} {w w' : World} (h : Below B w w') (hB : B ≤ w'.heap.size) (o : Obj) : Below B w (w'.alloc o) := h.alloc hB o
def oneT : Trip := (false, [], [1])
theorem one_in {w : World} {h : Nat} (hc : w.cell? ⟨h, 0, none⟩ = some (.int .i64 1)) : In w (.slice (some ⟨h, 0, none⟩) 1 1) [1] := by
  refine ⟨some ⟨h, 0, none⟩, 1, rfl, Nat.le_refl _, by unfold maxLen; omega, fun i z hz => ?_⟩
  match i, hz with
  | 0, hz => cases hz; exact ⟨h, 0, rfl, ⟨Nat.zero_le _, Or.inl rfl⟩, World.block_lt_of_cell? w _ hc, hc⟩
/-- All but the last are one, the last is what came in. -/
theorem Fill.rats {w : World} {g N : Nat} {t : Trip} {A1 A2 : Option Addr} {c1 c2 : Nat} (hf : ∀ j, j < N → ∃ h, CelO w g (j * 3) (.bool false) (.slice none 0 0) (.slice (some ⟨h, 0, none⟩) 1 1) ∧ w.cell? ⟨h, 0, none⟩ = some (.int .i64 1))
    (hl : CelO w g (N * 3) (.bool t.1) (.slice A1 t.2.1.length c1) (.slice A2 t.2.2.length c2)) (i1 : In w (.slice A1 t.2.1.length c1) t.2.1) (i2 : In w (.slice A2 t.2.2.length c2) t.2.2) :
    Rats w (some ⟨g, 0, none⟩) (List.replicate N oneT ++ [t]) := by
  intro k u hk
  have hlt : k < N + 1 := by
    rcases Nat.lt_or_ge k (N + 1) with h | h
    · exact h
    · rw [List.getElem?_eq_none (by simp; omega)] at hk; cases hk
  rcases Nat.lt_or_ge k N with h | h
  · rw [List.getElem?_append_left (by simp; omega), List.getElem?_replicate, if_pos h] at hk
    cases hk
    obtain ⟨x, ⟨⟨h0, h1, h2⟩, -⟩, h3⟩ := hf k h
    exact ⟨g, 0, none, 0, some ⟨x, 0, none⟩, 1, rfl, World.block_lt_of_cell? w _ h0, ⟨by rw [Nat.zero_add]; exact h0, by rw [Nat.zero_add]; exact h1, by rw [Nat.zero_add]; exact h2⟩, In.nil w, one_in h3⟩
  · obtain rfl : k = N := by omega
    rw [List.getElem?_append_right (by simp)] at hk
    simp at hk
    subst hk
    obtain ⟨⟨h0, h1, h2⟩, -⟩ := hl
    exact ⟨g, 0, A1, c1, A2, c2, rfl, World.block_lt_of_cell? w _ h0, ⟨by rw [Nat.zero_add]; exact h0, by rw [Nat.zero_add]; exact h1, by rw [Nat.zero_add]; exact h2⟩, i1, i2⟩
theorem Rats.put3 {w : World} {g gs : Nat} {L : List Trip} {b : Bool} {A B : Option Addr} {n c m d : Nat} (h : Rats w (some ⟨g, 0, none⟩) L) (hg : g ≠ gs) (hc : Cel w gs (.bool b) (.slice A n c) (.slice B m d)) (x0 x1 x2 : Value) :
    Rats (Go.Proofs.YthkhaipbdphpeaaDoor.put3 w gs x0 x1 x2) (some ⟨g, 0, none⟩) L := by
  intro k t hk
  obtain ⟨b', off, A1, c1, A2, c2, e, hlt, ⟨h0, h1, h2⟩, i1, i2⟩ := h k t hk
  cases e
  have a : ∀ i, (Go.Proofs.YthkhaipbdphpeaaDoor.put3 w gs x0 x1 x2).cell? ⟨g, i, none⟩ = w.cell? ⟨g, i, none⟩ := fun i => cell_putO (o := 0) hg x0 x1 x2
  exact ⟨g, 0, A1, c1, A2, c2, rfl, by rw [put3_size]; exact hlt, ⟨(a _).trans h0, (a _).trans h1, (a _).trans h2⟩, i1.put3 hc _ _ _, i2.put3 hc _ _ _⟩
theorem info_rat : (Tryd.prog.info? 25).map (fun i => (i.zero, i.size, i.bytes)) = some (some (.agg #[.bool false, .slice none 0 0, .slice none 0 0]), 3, 56) := by kernel_rfl
theorem make_rats (N : Nat) (hN : N ≤ 5000) (W : World) :
    (Instr.makeSlice 41 (.int .i64 (N : Int)) (.int .i64 (N : Int))).run Tryd.prog W = .ok (.slice (some ⟨W.heap.size, 0, none⟩) N N) (W.alloc (.cells (madeCells #[.bool false, .slice none 0 0, .slice none 0 0] (N * 3)) 25)) := by
  obtain ⟨i, hi, hz, hs, hb⟩ := info_parts info_rat
  have h := run_make (P := Tryd.prog) (w := W) 41 25 i _ Tryd.underlying41 hi hz .i64 .i64 (N : Int) (N : Int) (by omega) (by omega) (by rw [hb]; omega) (by omega)
  rw [hs, Int.toNat_natCast] at h
  exact h
theorem made_rat {N i : Nat} (h : i < N * 3) : (madeCells #[Value.bool false, .slice none 0 0, .slice none 0 0] (N * 3))[i]? = some (#[Value.bool false, .slice none 0 0, .slice none 0 0][i % 3]!) := by
  unfold madeCells
  simp [h]
theorem fill_start (W : World) (N : Nat) : Fill (W.alloc (.cells (madeCells #[.bool false, .slice none 0 0, .slice none 0 0] (N * 3)) 25)) W.heap.size N 0 := by
  intro j hj
  rw [if_neg (by omega)]
  have hb := heap_alloc_new W (.cells (madeCells #[.bool false, .slice none 0 0, .slice none 0 0] (N * 3)) 25)
  refine ⟨⟨?_, ?_, ?_⟩, frozen_of hb _, frozen_of hb _, frozen_of hb _⟩
  · rw [cell_of_row _ _ _ _ _ _ hb, made_rat (by omega), show j * 3 % 3 = 0 by omega]; rfl
  · rw [cell_of_row _ _ _ _ _ _ hb, made_rat (by omega), show (j * 3 + 1) % 3 = 1 by omega]; rfl
  · rw [cell_of_row _ _ _ _ _ _ hb, made_rat (by omega), show (j * 3 + 2) % 3 = 2 by omega]; rfl

#print axioms totals_long
end Go.Proofs.YthkhaipbdphpeaaDoor
