/- A further arc. -/
import Derived.Test.YtlbknnafecdakaaGraphPP
import Derived.Test.YtlbknnafecdakaaGraphQ0
namespace Go.Proofs.Ytlbknnafecdakaa.Graph
open Go.ChangeShapes Go.WideShapes Go.RowKit Go.Lib
set_option linter.unusedVariables false
set_option maxRecDepth 100000

theorem asz {w : World} {o : Obj} {k : Nat} (h : w.heap.size = k) : (w.alloc o).heap.size = k + 1 := by subst h; simp
theorem bal {a w : World} (h : Below a.heap.size a w) (o : Obj) : Below a.heap.size a (w.alloc o) := h.alloc h.size o
theorem emp_new {w : World} {o : Obj} {g : Nat} (h : w.heap.size = g) : (w.alloc o).heap[g]? = some o := by subst h; exact heap_alloc_new w o
theorem emp_al {w : World} {o : Obj} {g : Nat} (h : w.heap[g]? = some o) (o' : Obj) : (w.alloc o').heap[g]? = some o := by
  have hl : g < w.heap.size := by
    rcases Nat.lt_or_ge g w.heap.size with h1 | h1
    · exact h1
    · rw [Array.getElem?_eq_none h1] at h; cases h
  rw [← h]
  exact (below_alloc w o').block g hl
theorem Duo.nw {w : World} {g : Nat} {u v : Value} {T : TypeId} (h : w.heap.size = g) : Duo (w.alloc (.cells #[u, v] T)) g u v := by subst h; exact Duo.new _ _ _ _
theorem ne_own {B : Nat} {w : World} {v : Value} {L : List Pr} (h : OwnA B w v L) (j : Nat) : v.ownBlock ≠ some (w.heap.size + j) := fun e => by
  have := (h.lt _ e).2
  omega
theorem bset2 {a w : World} (h : Below a.heap.size a w) {b : Nat} (hb : a.heap.size ≤ b) (u v : Value) : Below a.heap.size a ((w.setCell ⟨b, 0, none⟩ u).setCell ⟨b, 1, none⟩ v) := below_set (below_set h (p := ⟨b, 0, none⟩) hb _) (p := ⟨b, 1, none⟩) hb _
/-- The box with the longer graph. -/
def Bxx (w1 : World) (n x y : Int) (zs : List Pr) (q : Nat) (v : Value) (W : World) : Prop :=
  ∃ g A' c', v = .pointer (some ⟨g, 0, none⟩) ∧ Bx W g n A' (q + 1) c' ∧ Ars W A' (zs ++ [(x, y)]) ∧ Below w1.heap.size w1 W
theorem fin {w1 w3 : World} {n x y : Int} {zs : List Pr} {q b g' cap : Nat} {k : IntKind} (hd : Duo w3 b (.int k 0) (.slice none 0 0)) (ho : OwnA w1.heap.size w3 (.slice (some ⟨g', 0, none⟩) (q + 1) cap) (zs ++ [(x, y)])) (hne : g' ≠ b) (hb : Below w1.heap.size w1 w3) (hB : w1.heap.size ≤ b) (hk : k = .i64) (hq : q = zs.length) :
    Bxx w1 n x y zs q (.pointer (some ⟨b, 0, none⟩)) ((w3.setCell ⟨b, 0, none⟩ (.int .i64 n)).setCell ⟨b, 1, none⟩ (.slice (some ⟨g', 0, none⟩) (q + 1) cap)) := by
  subst hk
  obtain ⟨h1, h2, h3, h4, h5⟩ := hd
  have hw : Wx w3 b := ⟨h1, ⟨0, none, 0, 0, h2, h3⟩, h4, h5⟩
  refine ⟨b, some ⟨g', 0, none⟩, cap, rfl, hw.put n _ _ _, ?_, below_set (below_set hb (p := ⟨b, 0, none⟩) hB _) (p := ⟨b, 1, none⟩) hB _⟩
  have ho2 : OwnA w1.heap.size ((w3.setCell ⟨b, 0, none⟩ (.int .i64 n)).setCell ⟨b, 1, none⟩ (.slice (some ⟨g', 0, none⟩) (q + 1) cap)) (.slice (some ⟨g', 0, none⟩) (q + 1) cap) (zs ++ [(x, y)]) := ho.keep fun k hk => by
    have e : k = g' := by simpa [Value.ownBlock] using hk.symm
    subst e
    rw [Below.heap_setCell _ _ _ _ (by show k ≠ b; exact hne), Below.heap_setCell _ _ _ _ (by show k ≠ b; exact hne)]
  obtain ⟨A', c', e, _, _, h⟩ := ho2.ars
  simp at e
  obtain ⟨rfl, _⟩ := e
  exact h
theorem fin_new {w1 w3 : World} {n x y : Int} {zs : List Pr} {q g' cap : Nat} {T : TypeId} (ho : OwnA w1.heap.size w3 (.slice (some ⟨g', 0, none⟩) (q + 1) cap) (zs ++ [(x, y)])) (hb : Below w1.heap.size w1 w3) (hq : q = zs.length) :
    Bxx w1 n x y zs q (.pointer (some ⟨w3.heap.size, 0, none⟩)) (w3.alloc (.cells #[.int .i64 n, .slice (some ⟨g', 0, none⟩) (q + 1) cap] T)) := by
  refine ⟨_, some ⟨g', 0, none⟩, cap, rfl, Bx.new _ _ _ _ _ _, ?_, bal hb _⟩
  obtain ⟨A', c', e, _, _, h⟩ := (ho.on (below_alloc w3 (.cells #[.int .i64 n, .slice (some ⟨g', 0, none⟩) (q + 1) cap] T))).ars
  simp at e
  obtain ⟨rfl, _⟩ := e
  exact h

set_option maxHeartbeats 6400000 in
theorem walk_GraphMore (n : Int) (zs : List Pr) (A : Option Addr) (c : Nat) (w : World) (ha : Ars w A zs) (hm : zs.length ≤ 9223372036854775807) (hnil : A = none → c = 0) (s x y : Int) :
    Calls Try.prog 11 #[.agg #[.int .i64 n, .slice A zs.length c], .int .i64 s, .agg #[.int .i64 x, .int .i64 y]] w fun e w' => e = .returned (.bool true) ∧ Below w.heap.size w w' := by
  have HA := Lib.hid ha
  have HNIL := Lib.hid hnil
  obtain ⟨q, hq⟩ : ∃ q, zs.length = q := ⟨_, rfl⟩
  have HQ := Lib.hid hq
  rw [hq] at hm ⊢
  clear ha hnil hq
  go_enter Try.func11, Try.ntmps11
  go_upto_region 1 with fail
  obtain ⟨gR, hgR⟩ : ∃ g, w.heap.size + 1 = g := ⟨_, rfl⟩
  obtain ⟨w1, hw1⟩ : ∃ W, (w.alloc (.cells #[.int .i64 n, .slice A q c] 24)).alloc (.cells #[.int .i64 x, .int .i64 y] 42) = W := ⟨_, rfl⟩
  have HX1 : Hid (Bx w1 w.heap.size n A q c) := hw1 ▸ (Bx.new w n A q c 24).on (below_alloc _ _)
  have HD1 : Hid (Duo w1 gR (.int .i64 x) (.int .i64 y)) := hw1 ▸ Duo.nw (by rw [← hgR]; exact asz rfl)
  have HB1 : Hid (Below w.heap.size w w1) := hw1 ▸ bal (below_alloc _ _) _
  rw [hw1, hgR]
  clear hw1 hgR
  obtain ⟨_, x0, x1⟩ := HX1.out
  by_cases hgr : 500 < q
  · have hgr' : (500 : Int) < (q : Int) := by omega
    go_wp2_with fail
    refine (awake_true w1).mono ?_
    rintro e w3 ⟨rfl, hb3⟩
    go_wp2_with fail
    go_ret
    exact ⟨rfl, bstep HB1.out hb3⟩
  · have hgr' : ¬ (500 : Int) < (q : Int) := by omega
    have HLE : Hid (q ≤ 1000) := Lib.hid (by omega)
    have HLE2 : Hid (q + 1 ≤ 1000) := Lib.hid (by omega)
    have HQ' : Hid (q = zs.length) := Lib.hid HQ.out.symm
    have HA1 := Lib.hid (HA.out.on HB1.out)
    have BD : Hid (Below w1.heap.size w1 w1.drew) := Lib.hid (below_drew (Below.refl _ _))
    go_upto_region 3 with fail
    go_cut [7] from 18 to 27 (fun v wc => Bxx w1 n x y zs q v wc)
    case first =>
      have HS : Hid (∀ W, Below w1.heap.size w1 W → ((W.cell? ⟨w.heap.size, 0, none⟩ = some (.int .i64 n) ∧ W.cell? ⟨w.heap.size, 1, none⟩ = some (.slice A q c)) ∧ (W.cell? ⟨gR, 0, none⟩ = some (.int .i64 x) ∧ W.cell? ⟨gR, 1, none⟩ = some (.int .i64 y)))) :=
        Lib.hid fun W hW => ⟨⟨(HX1.out.on hW).2.1, (HX1.out.on hW).2.2⟩, ⟨(HD1.out.on hW).2.1, (HD1.out.on hW).2.2.1⟩⟩
      go_region_held3 (fun W' => ((W'.cell? ⟨w.heap.size, 0, none⟩ = some (.int .i64 n) ∧ W'.cell? ⟨w.heap.size, 1, none⟩ = some (.slice A q c)) ∧ (W'.cell? ⟨gR, 0, none⟩ = some (.int .i64 x) ∧ W'.cell? ⟨gR, 1, none⟩ = some (.int .i64 y))))
        (first
          | exact HS.out _ (BD.out)
          | exact HS.out _ (bal (BD.out) _)
          | exact HS.out _ (bal (bal (BD.out) _) _)
          | exact HS.out _ (bal (bal (bal (BD.out) _) _) _)
          | exact HS.out _ (hb2)
          | exact HS.out _ (bal (hb2) _)
          | exact HS.out _ (bal (bal (hb2) _) _)
          | exact HS.out _ (hb3)
          | exact HS.out _ (bal (hb3) _)
          | exact HS.out _ (bset2 hb3 (Nat.le_add_right _ 0) _ _)
          | exact HS.out _ (bset2 hb3 (Nat.le_add_right _ 1) _ _)
          | exact HS.out _ (bset2 hb3 (Nat.le_add_right _ 2) _ _)
          | exact HS.out _ (bset2 hb3 (Nat.le_trans hb2.size (Nat.le_add_right _ 0)) _ _)
          | exact HS.out _ (bset2 hb3 (Nat.le_trans hb2.size (Nat.le_add_right _ 1)) _ _)
          | exact HS.out _ (bset2 (bal hb3 _) hb3.size _ _))
        (first
          | (refine step_more w1 rfl (.tmp 20) (.tmp 22) rfl w1.heap.size rfl (Nat.le_add_right _ 0) (emp_new (rfl)) (bal (BD.out) _) zs A q c HQ'.out rfl HA1.out HNIL.out HLE.out ?_; intro v' w2 ho2 hb2 hs2 hk2; (first | (have karc := hk2 w1.heap.size (.int .i64 x) (.int .i64 y) (Duo.nw (rfl))) | (have karc := hk2 w1.heap.size (.int .i64 x) (.int .i64 y) (Duo.al (Duo.nw (rfl)) _)) | (have karc := hk2 w1.heap.size (.int .i64 x) (.int .i64 y) (Duo.al (Duo.al (Duo.nw (rfl)) _) _)) | (have karc := hk2 (w1.heap.size + 1) (.int .i64 x) (.int .i64 y) (Duo.nw (asz (rfl)))) | (have karc := hk2 (w1.heap.size + 1) (.int .i64 x) (.int .i64 y) (Duo.al (Duo.nw (asz (rfl))) _)) | (have karc := hk2 (w1.heap.size + 2) (.int .i64 x) (.int .i64 y) (Duo.nw (asz (asz (rfl))))) | skip); (first | (have kbox := hk2 w1.heap.size (.int .i64 0) (.slice none 0 0) (Duo.nw (rfl))) | (have kbox := hk2 w1.heap.size (.int .i64 0) (.slice none 0 0) (Duo.al (Duo.nw (rfl)) _)) | (have kbox := hk2 w1.heap.size (.int .i64 0) (.slice none 0 0) (Duo.al (Duo.al (Duo.nw (rfl)) _) _)) | (have kbox := hk2 (w1.heap.size + 1) (.int .i64 0) (.slice none 0 0) (Duo.nw (asz (rfl)))) | (have kbox := hk2 (w1.heap.size + 1) (.int .i64 0) (.slice none 0 0) (Duo.al (Duo.nw (asz (rfl))) _)) | (have kbox := hk2 (w1.heap.size + 2) (.int .i64 0) (.slice none 0 0) (Duo.nw (asz (asz (rfl))))) | skip))
          | (refine step_more w1 rfl (.tmp 20) (.tmp 22) rfl w1.heap.size rfl (Nat.le_add_right _ 0) (emp_al (emp_new (rfl)) _) (bal (bal (BD.out) _) _) zs A q c HQ'.out rfl HA1.out HNIL.out HLE.out ?_; intro v' w2 ho2 hb2 hs2 hk2; (first | (have karc := hk2 w1.heap.size (.int .i64 x) (.int .i64 y) (Duo.nw (rfl))) | (have karc := hk2 w1.heap.size (.int .i64 x) (.int .i64 y) (Duo.al (Duo.nw (rfl)) _)) | (have karc := hk2 w1.heap.size (.int .i64 x) (.int .i64 y) (Duo.al (Duo.al (Duo.nw (rfl)) _) _)) | (have karc := hk2 (w1.heap.size + 1) (.int .i64 x) (.int .i64 y) (Duo.nw (asz (rfl)))) | (have karc := hk2 (w1.heap.size + 1) (.int .i64 x) (.int .i64 y) (Duo.al (Duo.nw (asz (rfl))) _)) | (have karc := hk2 (w1.heap.size + 2) (.int .i64 x) (.int .i64 y) (Duo.nw (asz (asz (rfl))))) | skip); (first | (have kbox := hk2 w1.heap.size (.int .i64 0) (.slice none 0 0) (Duo.nw (rfl))) | (have kbox := hk2 w1.heap.size (.int .i64 0) (.slice none 0 0) (Duo.al (Duo.nw (rfl)) _)) | (have kbox := hk2 w1.heap.size (.int .i64 0) (.slice none 0 0) (Duo.al (Duo.al (Duo.nw (rfl)) _) _)) | (have kbox := hk2 (w1.heap.size + 1) (.int .i64 0) (.slice none 0 0) (Duo.nw (asz (rfl)))) | (have kbox := hk2 (w1.heap.size + 1) (.int .i64 0) (.slice none 0 0) (Duo.al (Duo.nw (asz (rfl))) _)) | (have kbox := hk2 (w1.heap.size + 2) (.int .i64 0) (.slice none 0 0) (Duo.nw (asz (asz (rfl))))) | skip))
          | (refine step_more w1 rfl (.tmp 20) (.tmp 22) rfl w1.heap.size rfl (Nat.le_add_right _ 0) (emp_al (emp_al (emp_new (rfl)) _) _) (bal (bal (bal (BD.out) _) _) _) zs A q c HQ'.out rfl HA1.out HNIL.out HLE.out ?_; intro v' w2 ho2 hb2 hs2 hk2; (first | (have karc := hk2 w1.heap.size (.int .i64 x) (.int .i64 y) (Duo.nw (rfl))) | (have karc := hk2 w1.heap.size (.int .i64 x) (.int .i64 y) (Duo.al (Duo.nw (rfl)) _)) | (have karc := hk2 w1.heap.size (.int .i64 x) (.int .i64 y) (Duo.al (Duo.al (Duo.nw (rfl)) _) _)) | (have karc := hk2 (w1.heap.size + 1) (.int .i64 x) (.int .i64 y) (Duo.nw (asz (rfl)))) | (have karc := hk2 (w1.heap.size + 1) (.int .i64 x) (.int .i64 y) (Duo.al (Duo.nw (asz (rfl))) _)) | (have karc := hk2 (w1.heap.size + 2) (.int .i64 x) (.int .i64 y) (Duo.nw (asz (asz (rfl))))) | skip); (first | (have kbox := hk2 w1.heap.size (.int .i64 0) (.slice none 0 0) (Duo.nw (rfl))) | (have kbox := hk2 w1.heap.size (.int .i64 0) (.slice none 0 0) (Duo.al (Duo.nw (rfl)) _)) | (have kbox := hk2 w1.heap.size (.int .i64 0) (.slice none 0 0) (Duo.al (Duo.al (Duo.nw (rfl)) _) _)) | (have kbox := hk2 (w1.heap.size + 1) (.int .i64 0) (.slice none 0 0) (Duo.nw (asz (rfl)))) | (have kbox := hk2 (w1.heap.size + 1) (.int .i64 0) (.slice none 0 0) (Duo.al (Duo.nw (asz (rfl))) _)) | (have kbox := hk2 (w1.heap.size + 2) (.int .i64 0) (.slice none 0 0) (Duo.nw (asz (asz (rfl))))) | skip))
          | (refine step_more w1 rfl (.tmp 20) (.tmp 22) rfl (w1.heap.size + 1) rfl (Nat.le_add_right _ 1) (emp_new (asz (rfl))) (bal (bal (BD.out) _) _) zs A q c HQ'.out rfl HA1.out HNIL.out HLE.out ?_; intro v' w2 ho2 hb2 hs2 hk2; (first | (have karc := hk2 w1.heap.size (.int .i64 x) (.int .i64 y) (Duo.nw (rfl))) | (have karc := hk2 w1.heap.size (.int .i64 x) (.int .i64 y) (Duo.al (Duo.nw (rfl)) _)) | (have karc := hk2 w1.heap.size (.int .i64 x) (.int .i64 y) (Duo.al (Duo.al (Duo.nw (rfl)) _) _)) | (have karc := hk2 (w1.heap.size + 1) (.int .i64 x) (.int .i64 y) (Duo.nw (asz (rfl)))) | (have karc := hk2 (w1.heap.size + 1) (.int .i64 x) (.int .i64 y) (Duo.al (Duo.nw (asz (rfl))) _)) | (have karc := hk2 (w1.heap.size + 2) (.int .i64 x) (.int .i64 y) (Duo.nw (asz (asz (rfl))))) | skip); (first | (have kbox := hk2 w1.heap.size (.int .i64 0) (.slice none 0 0) (Duo.nw (rfl))) | (have kbox := hk2 w1.heap.size (.int .i64 0) (.slice none 0 0) (Duo.al (Duo.nw (rfl)) _)) | (have kbox := hk2 w1.heap.size (.int .i64 0) (.slice none 0 0) (Duo.al (Duo.al (Duo.nw (rfl)) _) _)) | (have kbox := hk2 (w1.heap.size + 1) (.int .i64 0) (.slice none 0 0) (Duo.nw (asz (rfl)))) | (have kbox := hk2 (w1.heap.size + 1) (.int .i64 0) (.slice none 0 0) (Duo.al (Duo.nw (asz (rfl))) _)) | (have kbox := hk2 (w1.heap.size + 2) (.int .i64 0) (.slice none 0 0) (Duo.nw (asz (asz (rfl))))) | skip))
          | (refine step_more w1 rfl (.tmp 20) (.tmp 22) rfl (w1.heap.size + 1) rfl (Nat.le_add_right _ 1) (emp_al (emp_new (asz (rfl))) _) (bal (bal (bal (BD.out) _) _) _) zs A q c HQ'.out rfl HA1.out HNIL.out HLE.out ?_; intro v' w2 ho2 hb2 hs2 hk2; (first | (have karc := hk2 w1.heap.size (.int .i64 x) (.int .i64 y) (Duo.nw (rfl))) | (have karc := hk2 w1.heap.size (.int .i64 x) (.int .i64 y) (Duo.al (Duo.nw (rfl)) _)) | (have karc := hk2 w1.heap.size (.int .i64 x) (.int .i64 y) (Duo.al (Duo.al (Duo.nw (rfl)) _) _)) | (have karc := hk2 (w1.heap.size + 1) (.int .i64 x) (.int .i64 y) (Duo.nw (asz (rfl)))) | (have karc := hk2 (w1.heap.size + 1) (.int .i64 x) (.int .i64 y) (Duo.al (Duo.nw (asz (rfl))) _)) | (have karc := hk2 (w1.heap.size + 2) (.int .i64 x) (.int .i64 y) (Duo.nw (asz (asz (rfl))))) | skip); (first | (have kbox := hk2 w1.heap.size (.int .i64 0) (.slice none 0 0) (Duo.nw (rfl))) | (have kbox := hk2 w1.heap.size (.int .i64 0) (.slice none 0 0) (Duo.al (Duo.nw (rfl)) _)) | (have kbox := hk2 w1.heap.size (.int .i64 0) (.slice none 0 0) (Duo.al (Duo.al (Duo.nw (rfl)) _) _)) | (have kbox := hk2 (w1.heap.size + 1) (.int .i64 0) (.slice none 0 0) (Duo.nw (asz (rfl)))) | (have kbox := hk2 (w1.heap.size + 1) (.int .i64 0) (.slice none 0 0) (Duo.al (Duo.nw (asz (rfl))) _)) | (have kbox := hk2 (w1.heap.size + 2) (.int .i64 0) (.slice none 0 0) (Duo.nw (asz (asz (rfl))))) | skip))
          | (refine step_more w1 rfl (.tmp 20) (.tmp 22) rfl (w1.heap.size + 2) rfl (Nat.le_add_right _ 2) (emp_new (asz (asz (rfl)))) (bal (bal (bal (BD.out) _) _) _) zs A q c HQ'.out rfl HA1.out HNIL.out HLE.out ?_; intro v' w2 ho2 hb2 hs2 hk2; (first | (have karc := hk2 w1.heap.size (.int .i64 x) (.int .i64 y) (Duo.nw (rfl))) | (have karc := hk2 w1.heap.size (.int .i64 x) (.int .i64 y) (Duo.al (Duo.nw (rfl)) _)) | (have karc := hk2 w1.heap.size (.int .i64 x) (.int .i64 y) (Duo.al (Duo.al (Duo.nw (rfl)) _) _)) | (have karc := hk2 (w1.heap.size + 1) (.int .i64 x) (.int .i64 y) (Duo.nw (asz (rfl)))) | (have karc := hk2 (w1.heap.size + 1) (.int .i64 x) (.int .i64 y) (Duo.al (Duo.nw (asz (rfl))) _)) | (have karc := hk2 (w1.heap.size + 2) (.int .i64 x) (.int .i64 y) (Duo.nw (asz (asz (rfl))))) | skip); (first | (have kbox := hk2 w1.heap.size (.int .i64 0) (.slice none 0 0) (Duo.nw (rfl))) | (have kbox := hk2 w1.heap.size (.int .i64 0) (.slice none 0 0) (Duo.al (Duo.nw (rfl)) _)) | (have kbox := hk2 w1.heap.size (.int .i64 0) (.slice none 0 0) (Duo.al (Duo.al (Duo.nw (rfl)) _) _)) | (have kbox := hk2 (w1.heap.size + 1) (.int .i64 0) (.slice none 0 0) (Duo.nw (asz (rfl)))) | (have kbox := hk2 (w1.heap.size + 1) (.int .i64 0) (.slice none 0 0) (Duo.al (Duo.nw (asz (rfl))) _)) | (have kbox := hk2 (w1.heap.size + 2) (.int .i64 0) (.slice none 0 0) (Duo.nw (asz (asz (rfl))))) | skip))
          | (refine step_last w1 w2 rfl (.tmp 23) (.tmp 25) rfl v' zs rfl ho2 hb2 (Below.refl _ _) _ _ (x, y) rfl (karc.1) q HQ'.out HLE2.out ?_; intro g' cap w3 ho3 hb3 hs3 hk3; (first | (have kb3 := hk3 _ _ _ (kbox.1) kbox.2) | (have kb3 := hk3 _ _ _ (Duo.al (kbox.1) _) kbox.2) | (have kb3 := hk3 _ _ _ (Duo.al (Duo.al (kbox.1) _) _) kbox.2) | (have kb3 := hk3 w2.heap.size (.int .i64 0) (.slice none 0 0) (Duo.nw (rfl)) (ne_own ho2 0)) | (have kb3 := hk3 w2.heap.size (.int .i64 0) (.slice none 0 0) (Duo.al (Duo.nw (rfl)) _) (ne_own ho2 0)) | (have kb3 := hk3 (w2.heap.size + 1) (.int .i64 0) (.slice none 0 0) (Duo.nw (asz (rfl))) (ne_own ho2 1)) | skip); (try (obtain ⟨⟨_, z0, z1, z2, z3⟩, z4⟩ := id kb3)))
          | (refine step_last w1 w2 rfl (.tmp 23) (.tmp 25) rfl v' zs rfl ho2 hb2 (bal (Below.refl _ _) _) _ _ (x, y) rfl (Duo.al (karc.1) _) q HQ'.out HLE2.out ?_; intro g' cap w3 ho3 hb3 hs3 hk3; (first | (have kb3 := hk3 _ _ _ (kbox.1) kbox.2) | (have kb3 := hk3 _ _ _ (Duo.al (kbox.1) _) kbox.2) | (have kb3 := hk3 _ _ _ (Duo.al (Duo.al (kbox.1) _) _) kbox.2) | (have kb3 := hk3 w2.heap.size (.int .i64 0) (.slice none 0 0) (Duo.nw (rfl)) (ne_own ho2 0)) | (have kb3 := hk3 w2.heap.size (.int .i64 0) (.slice none 0 0) (Duo.al (Duo.nw (rfl)) _) (ne_own ho2 0)) | (have kb3 := hk3 (w2.heap.size + 1) (.int .i64 0) (.slice none 0 0) (Duo.nw (asz (rfl))) (ne_own ho2 1)) | skip); (try (obtain ⟨⟨_, z0, z1, z2, z3⟩, z4⟩ := id kb3)))
          | (refine step_last w1 w2 rfl (.tmp 23) (.tmp 25) rfl v' zs rfl ho2 hb2 (bal (bal (Below.refl _ _) _) _) _ _ (x, y) rfl (Duo.al (Duo.al (karc.1) _) _) q HQ'.out HLE2.out ?_; intro g' cap w3 ho3 hb3 hs3 hk3; (first | (have kb3 := hk3 _ _ _ (kbox.1) kbox.2) | (have kb3 := hk3 _ _ _ (Duo.al (kbox.1) _) kbox.2) | (have kb3 := hk3 _ _ _ (Duo.al (Duo.al (kbox.1) _) _) kbox.2) | (have kb3 := hk3 w2.heap.size (.int .i64 0) (.slice none 0 0) (Duo.nw (rfl)) (ne_own ho2 0)) | (have kb3 := hk3 w2.heap.size (.int .i64 0) (.slice none 0 0) (Duo.al (Duo.nw (rfl)) _) (ne_own ho2 0)) | (have kb3 := hk3 (w2.heap.size + 1) (.int .i64 0) (.slice none 0 0) (Duo.nw (asz (rfl))) (ne_own ho2 1)) | skip); (try (obtain ⟨⟨_, z0, z1, z2, z3⟩, z4⟩ := id kb3)))
          | (refine step_last w1 w2 rfl (.tmp 23) (.tmp 25) rfl v' zs rfl ho2 hb2 (bal (Below.refl _ _) _) _ _ (x, y) rfl (Duo.nw (rfl)) q HQ'.out HLE2.out ?_; intro g' cap w3 ho3 hb3 hs3 hk3; (first | (have kb3 := hk3 _ _ _ (kbox.1) kbox.2) | (have kb3 := hk3 _ _ _ (Duo.al (kbox.1) _) kbox.2) | (have kb3 := hk3 _ _ _ (Duo.al (Duo.al (kbox.1) _) _) kbox.2) | (have kb3 := hk3 w2.heap.size (.int .i64 0) (.slice none 0 0) (Duo.nw (rfl)) (ne_own ho2 0)) | (have kb3 := hk3 w2.heap.size (.int .i64 0) (.slice none 0 0) (Duo.al (Duo.nw (rfl)) _) (ne_own ho2 0)) | (have kb3 := hk3 (w2.heap.size + 1) (.int .i64 0) (.slice none 0 0) (Duo.nw (asz (rfl))) (ne_own ho2 1)) | skip); (try (obtain ⟨⟨_, z0, z1, z2, z3⟩, z4⟩ := id kb3)))
          | (refine step_last w1 w2 rfl (.tmp 23) (.tmp 25) rfl v' zs rfl ho2 hb2 (bal (bal (Below.refl _ _) _) _) _ _ (x, y) rfl (Duo.al (Duo.nw (rfl)) _) q HQ'.out HLE2.out ?_; intro g' cap w3 ho3 hb3 hs3 hk3; (first | (have kb3 := hk3 _ _ _ (kbox.1) kbox.2) | (have kb3 := hk3 _ _ _ (Duo.al (kbox.1) _) kbox.2) | (have kb3 := hk3 _ _ _ (Duo.al (Duo.al (kbox.1) _) _) kbox.2) | (have kb3 := hk3 w2.heap.size (.int .i64 0) (.slice none 0 0) (Duo.nw (rfl)) (ne_own ho2 0)) | (have kb3 := hk3 w2.heap.size (.int .i64 0) (.slice none 0 0) (Duo.al (Duo.nw (rfl)) _) (ne_own ho2 0)) | (have kb3 := hk3 (w2.heap.size + 1) (.int .i64 0) (.slice none 0 0) (Duo.nw (asz (rfl))) (ne_own ho2 1)) | skip); (try (obtain ⟨⟨_, z0, z1, z2, z3⟩, z4⟩ := id kb3)))
          | (refine step_last w1 w2 rfl (.tmp 23) (.tmp 25) rfl v' zs rfl ho2 hb2 (bal (bal (Below.refl _ _) _) _) _ _ (x, y) rfl (Duo.nw (asz (rfl))) q HQ'.out HLE2.out ?_; intro g' cap w3 ho3 hb3 hs3 hk3; (first | (have kb3 := hk3 _ _ _ (kbox.1) kbox.2) | (have kb3 := hk3 _ _ _ (Duo.al (kbox.1) _) kbox.2) | (have kb3 := hk3 _ _ _ (Duo.al (Duo.al (kbox.1) _) _) kbox.2) | (have kb3 := hk3 w2.heap.size (.int .i64 0) (.slice none 0 0) (Duo.nw (rfl)) (ne_own ho2 0)) | (have kb3 := hk3 w2.heap.size (.int .i64 0) (.slice none 0 0) (Duo.al (Duo.nw (rfl)) _) (ne_own ho2 0)) | (have kb3 := hk3 (w2.heap.size + 1) (.int .i64 0) (.slice none 0 0) (Duo.nw (asz (rfl))) (ne_own ho2 1)) | skip); (try (obtain ⟨⟨_, z0, z1, z2, z3⟩, z4⟩ := id kb3))))
      all_goals
        rename_i hheld
        clear hheld
        go_wp2_with fail
        go_meet
        case rel => first | exact fin_new ho3 hb3 HQ'.out | exact fin kb3.1 ho3 kb3.2 hb3 (Nat.le_add_right _ 0) rfl HQ'.out | exact fin kb3.1 ho3 kb3.2 hb3 (Nat.le_add_right _ 1) rfl HQ'.out | exact fin kb3.1 ho3 kb3.2 hb3 (Nat.le_add_right _ 2) rfl HQ'.out | exact fin kb3.1 ho3 kb3.2 hb3 (Nat.le_trans hb2.size (Nat.le_add_right _ 0)) rfl HQ'.out | exact fin kb3.1 ho3 kb3.2 hb3 (Nat.le_trans hb2.size (Nat.le_add_right _ 1)) rfl HQ'.out
    case rest =>
      clear x0 x1
      obtain ⟨g, A', c', rfl, hbx, har, hb⟩ := hcut
      have HBX := Lib.hid hbx
      have HAR := Lib.hid har
      have HBC := Lib.hid hb
      have HXC := Lib.hid (bx_off ⟨HX1.out, HB1.out⟩ hb)
      have HDC := Lib.hid (HD1.out.on hb)
      have hl : (zs ++ [(x, y)]).length = q + 1 := by rw [List.length_append, HQ.out]; rfl
      have HC1 := Lib.hid (graph_Reach n zs s A c wc (HA.out.on HXC.out.2) (by rw [HQ.out]; exact hm))
      rw [HQ.out] at HC1
      have HC2 : Hid (∀ W, Below wc.heap.size wc W → Calls Try.prog 21 #[.agg #[.int .i64 n, .slice A' (q + 1) c'], .int .i64 s] W (Res eB W (RchP n (zs ++ [(x, y)]) s))) := Lib.hid fun W hW => by
        have h := graph_Reach n (zs ++ [(x, y)]) s A' c' W (HAR.out.on hW) (by rw [hl]; have := HLE2.out; omega)
        rw [hl] at h
        exact h
      clear hbx har hb hl
      obtain ⟨_, x0, x1⟩ := HXC.out.1
      go_wp2_with fail
      refine HC1.out.mono ?_
      rintro e w5 ⟨A5, c5, o, E, rfl, ho, hP, k5, b5⟩
      have HX5 := Lib.hid (bx_off HXC.out b5)
      have HD5 := Lib.hid (HDC.out.on b5)
      have K5 := Lib.hid k5
      have HP := Lib.hid hP
      have HO64 := Lib.hid ho
      have G5 := Lib.hid (HBX.out.on b5)
      have B5 := Lib.hid b5
      clear ho hP k5 b5 x0 x1 HC1
      obtain ⟨_, x0, x1⟩ := G5.out
      go_wp2_with fail
      refine (HC2.out w5 B5.out).mono ?_
      rintro e w6 ⟨A6, c6, o', F, rfl, ho, hP, k6, b6⟩
      have HX6 := Lib.hid (bx_off HX5.out b6)
      have HD6 := Lib.hid (HD5.out.on b6)
      have K6 := Lib.hid (K5.out.on b6)
      have L6 := Lib.hid k6
      have HP' := Lib.hid hP
      clear ho hP k6 b6 x0 x1 HC2 K5 HX5 HD5
      by_cases hE : E = 0
      · subst hE
        by_cases hF : F = 0
        · subst hF
          obtain ⟨N, a, b, hn, hN, hx, hy, haN, hbN, ho1, ho2, hmono, harc⟩ := more_ok HP.out HP'.out
          subst hn
          subst hx
          subst hy
          have HM := Lib.hid hmono
          have HARC := Lib.hid harc
          have O1 := Lib.hid ho1
          have O2 := Lib.hid ho2
          rw [ho1, ho2]
          obtain ⟨_, x0, x1⟩ := HX6.out.1
          obtain ⟨_, d0, d1, _, _⟩ := HD6.out
          have c1 : decide ((a : Int) < 0) = false := decide_eq_false (by omega)
          have c2 : decide ((b : Int) < 0) = false := decide_eq_false (by omega)
          have c3 : decide ((N : Int) ≤ (a : Int)) = false := decide_eq_false (by omega)
          have c4 : decide ((N : Int) ≤ (b : Int)) = false := decide_eq_false (by omega)
          have c5 : decide (N ≤ a) = false := decide_eq_false (by omega)
          have c6 : decide (N ≤ b) = false := decide_eq_false (by omega)
          clear hmono harc ho1 ho2
          go_wp2_with fail
          go_loopw [12] (fun i wr => ∃ (k : Nat), k ≤ N ∧ i = .int .i64 k ∧ Below w6.heap.size w6 wr) (fun i _ => N - (intOf i).toNat)
          case atStart => exact ⟨0, Nat.zero_le _, rfl, Below.refl _ _⟩
          case round =>
            clear x0 x1 d0 d1
            obtain ⟨k, hk, rfl, hbel⟩ := hrel
            have HW := Lib.hid hbel
            clear hbel
            rcases Nat.lt_or_ge k N with hlt | hge
            · obtain ⟨t1, ht1⟩ := get_lt (L := o) (k := k) (by rw [O1.out]; exact hlt)
              obtain ⟨t2, ht2⟩ := get_lt (L := o') (k := k) (by rw [O2.out]; exact hlt)
              obtain ⟨g5, o5, rfl, _, y1⟩ := (K6.out.on HW.out) _ _ ht1
              obtain ⟨g6, o6, rfl, _, y2⟩ := (L6.out.on HW.out) _ _ ht2
              have hmo := HM.out k
              rw [ht1, ht2] at hmo
              have l5 : (k : Int) < (N : Int) := by omega
              have l6 : (0 : Int) ≤ (k : Int) := by omega
              cases t1 with
              | false =>
                clear hmo ht1 ht2
                go_wp2_with fail
                go_roundw
                case rel => exact ⟨k + 1, by omega, by go_num, HW.out⟩
                case measure => simp [intOf]; omega
              | true =>
                obtain rfl : t2 = true := by simpa using hmo rfl
                clear hmo ht1 ht2
                go_wp2_with fail
                go_roundw
                case rel => exact ⟨k + 1, by omega, by go_num, HW.out⟩
                case measure => simp [intOf]; omega
            · obtain rfl : N = k := by omega
              obtain ⟨t1, ht1⟩ := get_lt (L := o') (k := a) (by rw [O2.out]; exact haN)
              obtain ⟨t2, ht2⟩ := get_lt (L := o') (k := b) (by rw [O2.out]; exact hbN)
              obtain ⟨g6, o6, rfl, _, y1⟩ := (L6.out.on HW.out) _ _ ht1
              obtain ⟨g6', o6', h6, _, y2⟩ := (L6.out.on HW.out) _ _ ht2
              cases h6
              have hmo := HARC.out
              rw [ht1, ht2] at hmo
              obtain ⟨_, d0, d1, _, _⟩ := HD6.out.on HW.out
              have l1 : (a : Int) < (N : Int) := by omega
              have l2 : (0 : Int) ≤ (a : Int) := by omega
              have l3 : (b : Int) < (N : Int) := by omega
              have l4 : (0 : Int) ≤ (b : Int) := by omega
              cases t1 with
              | false =>
                clear hmo ht1 ht2
                go_wp2_with fail
                refine (awake_true _).mono ?_
                rintro e w9 ⟨rfl, hb9⟩
                go_wp2_with fail
                go_ret
                exact ⟨rfl, bstep HX6.out.2 (bstep HW.out hb9)⟩
              | true =>
                obtain rfl : t2 = true := by simpa using hmo rfl
                clear hmo ht1 ht2
                go_wp2_with fail
                refine (awake_true _).mono ?_
                rintro e w9 ⟨rfl, hb9⟩
                go_wp2_with fail
                go_ret
                exact ⟨rfl, bstep HX6.out.2 (bstep HW.out hb9)⟩
        · have hF' : (F == 0) = false := beq_false_of_ne hF
          go_wp2_with fail
          refine (awake_true w6).mono ?_
          rintro e w9 ⟨rfl, hb9⟩
          go_wp2_with fail
          go_ret
          exact ⟨rfl, bstep HX6.out.2 hb9⟩
      · obtain rfl : F = E := more_err HP.out HP'.out (by rw [HQ.out]; omega) hE
        have hF' : (F == 0) = false := beq_false_of_ne hE
        go_wp2_with fail
        refine (awake_true w6).mono ?_
        rintro e w9 ⟨rfl, hb9⟩
        go_wp2_with fail
        go_ret
        exact ⟨rfl, bstep HX6.out.2 hb9⟩
end Go.Proofs.Ytlbknnafecdakaa.Graph
