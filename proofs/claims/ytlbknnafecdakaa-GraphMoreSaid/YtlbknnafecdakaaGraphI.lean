/- Reverse of the reference. -/
import Derived.Test.YtlbknnafecdakaaGraphS
namespace Go.Proofs.Ytlbknnafecdakaa.Graph
open Go.ChangeShapes Go.WideShapes Go.RowKit Go.Lib
set_option linter.unusedVariables false
set_option maxRecDepth 100000

/-- The graph that grows in a box. -/
def Gro (B : Nat) (w : World) (g : Nat) (n : Int) (D : List Pr) : Prop :=
  ∃ A m c, Bx w g n A m c ∧ w.frozen? ⟨g, 1, none⟩ = false ∧ OwnA B w (.slice A m c) D ∧ m = D.length ∧ g < B ∧ B ≤ w.heap.size
theorem gro_step {B : Nat} {w w' : World} {g g' : Nat} {n : Int} {A : Option Addr} {m c m' c' : Nat} {D D' : List Pr} {z : Pr} (hx : Bx w g n A m c) (hf : w.frozen? ⟨g, 1, none⟩ = false) (hk : w'.heap[g]? = w.heap[g]?)
    (ho : OwnA B w' (.slice (some ⟨g', 0, none⟩) m' c') (D ++ [z])) (hb : Below B w w') (hg : g < B) (hB : B ≤ w.heap.size) (hD : D' = D ++ [z]) :
    Gro B (w'.setCell ⟨g, 1, none⟩ (.slice (some ⟨g', 0, none⟩) m' c')) g n D' := by
  subst hD
  have hx' := hx.keep hb.size hk
  have hm : m' = (D ++ [z]).length := by
    obtain ⟨h1, ⟨h2, _⟩ | ⟨_, _, _, h2, _⟩⟩ := ho
    · cases h2
    · cases h2; rfl
  refine ⟨some ⟨g', 0, none⟩, m', c', ⟨by simpa using hx'.1, ?_, ?_⟩, ?_, ?_, hm, hg, by simpa using Nat.le_trans hB hb.size⟩
  · exact (World.cell?_setCell_other _ _ _ _ (by simp)).trans hx'.2.1
  · exact World.cell?_setCell_same _ _ _ hx'.2.2
  · rw [World.frozen?_setCell]; exact (World.frozen?_of_block (a := ⟨g, 1, none⟩) hk).trans hf
  · exact ho.keep fun k hk' => Below.heap_setCell _ _ _ _ fun e => by have := (ho.lt k hk').1; have : k = g := e; omega
set_option maxHeartbeats 3200000 in
theorem ref_Reverse (n : Int) (L : List Pr) (A : Option Addr) (c : Nat) (w : World) (ha : Ars w A L) (hm : L.length ≤ 9223372036854775807) :
    Calls Try.prog 27 #[.agg #[.int .i64 n, .slice A L.length c]] w (RvR n L w) := by
  have HA := Lib.hid ha
  have HM := Lib.hid hm
  clear ha
  go_enter Try.func27, Try.ntmps27
  go_upto_region 1 with fail
  generalize hw1 : (w.alloc (.cells #[.int .i64 n, .slice A L.length c] 24)).alloc (.cells #[.int .i64 0, .slice none 0 0] 24) = w1
  have HX0 : Hid (Bx w1 w.heap.size n A L.length c) := hw1 ▸ (Bx.new _ _ _ _ _ _).on (below_alloc _ _)
  have HS0 : Hid (Wx w1 (w.heap.size + 1)) := hw1 ▸ (by have := Wx.new (w.alloc (.cells #[.int .i64 n, .slice A L.length c] 24)) 0 none 0 0 24; rw [World.size_alloc] at this; exact this : Wx _ _)
  have HB0 : Hid (Below w.heap.size w w1) := hw1 ▸ bstep (below_alloc _ _) (below_alloc _ _)
  clear hw1
  obtain ⟨_, x0, x1⟩ := HX0.out
  go_wp2_with fail
  refine (ref_Check n L A c w1 (HA.out.on HB0.out) hm).mono ?_
  rintro e w2 ⟨rfl, hb2⟩
  have HB2 := Lib.hid (bstep HB0.out hb2)
  have HX2 := Lib.hid (HX0.out.on hb2)
  have HS2 := Lib.hid (HS0.out.on hb2)
  clear hb2 x0 x1
  by_cases hz : chkE n L = 0
  · have HZ := Lib.hid hz
    have hl := chk_len hz
    rw [hz]
    clear hz
    obtain ⟨_, x0, x1⟩ := HX2.out
    go_upto_region 5 with fail
    obtain ⟨w3, hw3⟩ : ∃ W, w2.alloc (.cells #[.int .i64 n, .slice none 0 0] 24) = W := ⟨_, rfl⟩
    obtain ⟨g5, hg5⟩ : ∃ g, w2.heap.size = g := ⟨_, rfl⟩
    have HB3 : Hid (Below w2.heap.size w2 w3) := hw3 ▸ below_alloc _ _
    have HG5 := Lib.hid hg5
    have HS3 : Hid (Gro w3.heap.size w3 g5 n []) := by
      subst hw3 hg5
      exact ⟨none, 0, 0, Bx.new _ _ _ _ _ _, by simp, OwnA.nil _ _, rfl, by simp, Nat.le_refl _⟩
    have HX3 := Lib.hid (HX2.out.on HB3.out)
    have HS3' := Lib.hid (HS2.out.on HB3.out)
    have HW3 := Lib.hid (bstep HB2.out HB3.out)
    rw [hw3, hg5]
    clear hw3 hg5 x0 x1
    go_upto_region 6 with fail
    go_loopw [6] (fun i wr => ∃ k : Nat, k ≤ L.length ∧ i = .int .i64 k ∧ Gro w3.heap.size wr g5 n ((swp L).take k) ∧ Below w2.heap.size w2 wr) (fun i _ => L.length - (intOf i).toNat)
    case atStart => exact ⟨0, Nat.zero_le _, rfl, HS3.out, HB3.out⟩
    case round =>
      obtain ⟨k, hk, rfl, hgro, hbel⟩ := hrel
      have HW := Lib.hid hbel
      have hx := HX2.out.on hbel
      have hr := HS2.out.on hbel
      have HR := Lib.hid hr
      obtain ⟨A5, m5, c5, hbx, hfr, hown, hm5, hlt5, hB5⟩ := hgro
      have HBX := Lib.hid hbx
      have HFR := Lib.hid hfr
      have HOWN := Lib.hid hown
      have HLT5 := Lib.hid hlt5
      have HSZ := Lib.hid hB5
      obtain ⟨_, x0, x1⟩ := hx
      obtain ⟨_, y0, y1⟩ := hbx
      clear hbel hfr hown hr
      rcases Nat.lt_or_ge k L.length with hlt | hge
      · obtain ⟨s, hs⟩ := get_lt hlt
        obtain ⟨b, off, rfl, hb, h0, h1⟩ := HA.out k s hs
        have hbw := (bstep HB2.out HW.out)
        have q0 : wr.cell? ⟨b, off + k * 2, none⟩ = some (.int .i64 s.1) := (hbw.cell (p := ⟨b, off + k * 2, none⟩) hb).trans h0
        have q1 : wr.cell? ⟨b, off + k * 2 + 1, none⟩ = some (.int .i64 s.2) := (hbw.cell (p := ⟨b, off + k * 2 + 1, none⟩) hb).trans h1
        have KE : Hid (∀ W, Below w2.heap.size wr W → W.cell? ⟨w.heap.size, 1, none⟩ = some (.slice (some ⟨b, off, none⟩) L.length c) ∧ W.cell? ⟨b, off + k * 2, none⟩ = some (.int .i64 s.1) ∧ W.cell? ⟨b, off + k * 2 + 1, none⟩ = some (.int .i64 s.2)) :=
          fun W hW => ⟨(hW.cell (p := ⟨w.heap.size, 1, none⟩) HX2.out.1).trans x1, (hW.cell (p := ⟨b, off + k * 2, none⟩) (Nat.lt_of_lt_of_le hb HB2.out.size)).trans q0, (hW.cell (p := ⟨b, off + k * 2 + 1, none⟩) (Nat.lt_of_lt_of_le hb HB2.out.size)).trans q1⟩
        have y1a : ∀ o, (wr.alloc o).cell? ⟨g5, 1, none⟩ = some (.slice A5 m5 c5) := HBX.out.a1
        clear h0 h1 hbw
        have HS := Lib.hid hs
        have HM5 : Hid (m5 = ((swp L).take k).length) := hm5
        have i1 : (k : Int) < (L.length : Int) := by omega
        have i2 : (0 : Int) ≤ (k : Int) := by omega
        have HLE : Hid (m5 + 1 ≤ 1000000) := (by rw [HM5.out, List.length_take, swp_len]; omega : m5 + 1 ≤ 1000000)
        have HNE : Hid ((Value.slice A5 m5 c5).ownBlock ≠ some g5) := fun e => by have := (HOWN.out.lt g5 e).1; have := HLT5.out; omega
        have KA : Hid (∀ o, Below w2.heap.size wr (wr.alloc o)) := fun o => (below_alloc wr o).mono HW.out.size
        have KB : Hid (∀ W, Below w3.heap.size wr W → Below w2.heap.size wr W) := fun W h => h.mono HB3.out.size
        have HG5' : w2.heap.size ≤ g5 := Nat.le_of_eq HG5.out
        clear hs hm5 hB5 hlt5
        go_wp2_with fail
        go_region_law (refine step_arc wr rfl (.tmp 24) (.tmp 38) rfl w3.heap.size (.slice A5 m5 c5) ((swp L).take k) (by simp [Act.eval]) HOWN.out (by first | exact below_alloc _ _ | exact below_drew (below_alloc _ _)) wr.heap.size 1 (s.2, s.1) (by simp [Act.eval]) (by simp) (by simp) m5 HM5.out HLE.out HSZ.out ?_; intro g' cap' w' hown' hk' hb' hat; have HK' := Lib.hid (hk' g5 HBX.out.1 HNE.out); have y1' : w'.cell? ⟨g5, 1, none⟩ = some (.slice A5 m5 c5) := (World.cell?_of_block (a := ⟨g5, 1, none⟩) HK'.out).trans HBX.out.2.2; have f1' : w'.frozen? ⟨g5, 1, none⟩ = false := (World.frozen?_of_block (a := ⟨g5, 1, none⟩) HK'.out).trans HFR.out)
        all_goals (
          have HOWN' := Lib.hid hown'
          have HBW' := Lib.hid hb'
          clear hown' hk' hb' hat
          go_wp2_with fail
          go_roundw
          case rel =>
            exact ⟨k + 1, by omega, by go_num, gro_step HBX.out HFR.out HK'.out HOWN'.out HBW'.out HLT5.out HSZ.out (swp_take HS.out), ((HW.out.trans (HBW'.out.mono HB3.out.size)).setCell (p := ⟨g5, 1, none⟩) HG5' _)⟩
          case measure => simp [intOf]; omega)
      · obtain rfl : k = L.length := by omega
        have HT : Hid (∃ A c, Value.slice A5 m5 c5 = .slice A L.length c ∧ L.length ≤ c ∧ c ≤ maxLen ∧ Ars wr A (swp L)) := by
          have h := HOWN.out.ars
          rw [show (swp L).take L.length = swp L by rw [← swp_len, List.take_length]] at h
          rw [swp_len] at h
          exact h
        have hml : m5 = L.length := by rw [hm5, List.length_take, swp_len]; omega
        subst hml
        obtain ⟨A', c', e, hle, hmx, hars⟩ := HT.out
        cases e
        have HAR := Lib.hid hars
        have HPUT := Lib.hid (HR.out.put n A5 L.length c5)
        obtain ⟨_, ⟨n', A1, m', c', r0, r1⟩, r2, r3⟩ := HR.out
        have HNE : Hid (∀ b off, A5 = some ⟨b, off, none⟩ → b ≠ w.heap.size + 1) := fun b off e => by
          subst e
          have h1 := (HOWN.out.lt b rfl).1
          have h2 := HS2.out.1
          have h3 := HB3.out.size
          omega
        clear hars hm5 hB5 hlt5 hk hge
        go_wp2_with fail
        (try simp only [Exit.inBlock, Exit.then])
        refine bodyPost_ret (res_graph2 Try.results27 rfl (g := w.heap.size + 1) (n := n) (A := A5) (m := L.length) (c := c5) HPUT.out.2.1 HPUT.out.2.2) rfl (Or.inl ⟨HZ.out, ⟨A5, c5, rfl, hle, hmx, ?_⟩, ?_⟩)
        · exact (HAR.out.keep (by simp [World.setCell]) fun b off e => by have := HNE.out b off e; rw [Below.heap_setCell _ _ _ _ (by show b ≠ w.heap.size + 1; omega), Below.heap_setCell _ _ _ _ (by show b ≠ w.heap.size + 1; omega)])
        · exact ((bstep HB2.out HW.out).setCell (p := ⟨w.heap.size + 1, _, none⟩) (Nat.le_succ _) _).setCell (p := ⟨w.heap.size + 1, _, none⟩) (Nat.le_succ _) _
  · have h1 : (chkE n L == 0) = false := beq_false_of_ne hz
    have h2 : (chkE n L != 0) = true := by simp [hz]
    have HZ := Lib.hid hz
    obtain ⟨q, hq⟩ : ∃ q, chkE n L = q := ⟨_, rfl⟩
    have HQ := Lib.hid hq
    rw [hq] at h1 h2 ⊢
    clear hz hq
    obtain ⟨_, ⟨n', A1, m', c', r0, r1⟩, r2, r3⟩ := HS2.out
    have HPUT := Lib.hid (HS2.out.put 0 none 0 0)
    go_wp2_with fail
    (try simp only [Exit.inBlock, Exit.then])
    refine bodyPost_ret (res_graph2 Try.results27 rfl (g := w.heap.size + 1) (n := 0) (A := none) (m := 0) (c := 0) HPUT.out.2.1 HPUT.out.2.2) rfl (Or.inr ⟨HZ.out, by rw [HQ.out]; rfl, ?_⟩)
    exact (HB2.out.setCell (p := ⟨w.heap.size + 1, _, none⟩) (Nat.le_succ _) _).setCell (p := ⟨w.heap.size + 1, _, none⟩) (Nat.le_succ _) _
#print axioms ref_Reverse
end Go.Proofs.Ytlbknnafecdakaa.Graph
