/- Pop. -/
import Derived.Test.YtkgmfdmgaloaoaaPqueueMI
namespace Go.Proofs.Ytkgmfdmgaloaoaa.PqueueI
open Go.ChangeShapes Go.WideShapes Go.RowKit Go.Lib Go.Proofs.Ytkgmfdmgaloaoaa.Pqueue
set_option linter.unusedVariables false
set_option maxRecDepth 100000

theorem q_Pop_none {w : World} {g n p : Nat} {S : Nat → Prop} (hq : Qu w g S n [] p) :
    Calls Try.prog 15 #[.pointer (some ⟨g, 0, none⟩)] w fun e w' => e = .returned (.tuple #[eV zV, .bool false]) ∧ Below w.heap.size w w' := by
  have HQ := Lib.hid hq
  clear hq
  go_enter Try.func15, Try.ntmps15
  go_wp2_with fail
  refine (q_Peek_none (HQ.out.on (below_alloc _ _))).mono ?_
  rintro e w2 ⟨rfl, hb2⟩
  have HB2 := Lib.hid (bstep (below_alloc _ _) hb2)
  have hr : w.heap.size < w2.heap.size := by have := hb2.size; simp at this; omega
  have r0 : w2.cell? ⟨w.heap.size, 0, none⟩ = some (.int .i64 0) := (hb2.cell (p := ⟨w.heap.size, 0, none⟩) (by simp)).trans (by simp)
  have r1 : w2.cell? ⟨w.heap.size, 1, none⟩ = some (.int .i64 0) := (hb2.cell (p := ⟨w.heap.size, 1, none⟩) (by simp)).trans (by simp)
  have f0 : w2.frozen? ⟨w.heap.size, 0, none⟩ = false := (hb2.frozen (p := ⟨w.heap.size, 0, none⟩) (by simp)).trans (by simp)
  have f1 : w2.frozen? ⟨w.heap.size, 1, none⟩ = false := (hb2.frozen (p := ⟨w.heap.size, 1, none⟩) (by simp)).trans (by simp)
  clear hb2
  go_wp2_with fail
  (try simp only [Exit.inBlock, Exit.then])
  have e0 : ∀ o, (((w2.setCell ⟨w.heap.size, 0, none⟩ (.int .i64 0)).setCell ⟨w.heap.size, 1, none⟩ (.int .i64 0)).alloc o).cell? ⟨w.heap.size, 0, none⟩ = some (.int .i64 0) := fun o => ((below_alloc _ o).cell (p := ⟨w.heap.size, 0, none⟩) (by simpa [World.setCell] using hr)).trans (set_box r0 r1 _ _).1
  have e1 : ∀ o, (((w2.setCell ⟨w.heap.size, 0, none⟩ (.int .i64 0)).setCell ⟨w.heap.size, 1, none⟩ (.int .i64 0)).alloc o).cell? ⟨w.heap.size, 1, none⟩ = some (.int .i64 0) := fun o => ((below_alloc _ o).cell (p := ⟨w.heap.size, 1, none⟩) (by simpa [World.setCell] using hr)).trans (set_box r0 r1 _ _).2
  refine bodyPost_ret (res_box Try.results15 rfl (g := w.heap.size) (x := 0) (y := 0) ?_ ?_) rfl ⟨rfl, ?_⟩
  · exact e0 _
  · exact e1 _
  · exact ((HB2.out.setCell (p := ⟨w.heap.size, 0, none⟩) (Nat.le_refl _) _).setCell (p := ⟨w.heap.size, 1, none⟩) (Nat.le_refl _) _).alloc (by have := HB2.out.size; simpa [World.setCell] using this) _
theorem q_Pop_nil (w : World) :
    Calls Try.prog 15 #[.pointer none] w fun e w' => e = .returned (.tuple #[eV zV, .bool false]) ∧ Below w.heap.size w w' := by
  go_enter Try.func15, Try.ntmps15
  go_wp2_with fail
  refine (q_Peek_nil _).mono ?_
  rintro e w2 ⟨rfl, hb2⟩
  have HB2 := Lib.hid (bstep (below_alloc _ _) hb2)
  have hr : w.heap.size < w2.heap.size := by have := hb2.size; simp at this; omega
  have r0 : w2.cell? ⟨w.heap.size, 0, none⟩ = some (.int .i64 0) := (hb2.cell (p := ⟨w.heap.size, 0, none⟩) (by simp)).trans (by simp)
  have r1 : w2.cell? ⟨w.heap.size, 1, none⟩ = some (.int .i64 0) := (hb2.cell (p := ⟨w.heap.size, 1, none⟩) (by simp)).trans (by simp)
  have f0 : w2.frozen? ⟨w.heap.size, 0, none⟩ = false := (hb2.frozen (p := ⟨w.heap.size, 0, none⟩) (by simp)).trans (by simp)
  have f1 : w2.frozen? ⟨w.heap.size, 1, none⟩ = false := (hb2.frozen (p := ⟨w.heap.size, 1, none⟩) (by simp)).trans (by simp)
  clear hb2
  go_wp2_with fail
  (try simp only [Exit.inBlock, Exit.then])
  have e0 : ∀ o, (((w2.setCell ⟨w.heap.size, 0, none⟩ (.int .i64 0)).setCell ⟨w.heap.size, 1, none⟩ (.int .i64 0)).alloc o).cell? ⟨w.heap.size, 0, none⟩ = some (.int .i64 0) := fun o => ((below_alloc _ o).cell (p := ⟨w.heap.size, 0, none⟩) (by simpa [World.setCell] using hr)).trans (set_box r0 r1 _ _).1
  have e1 : ∀ o, (((w2.setCell ⟨w.heap.size, 0, none⟩ (.int .i64 0)).setCell ⟨w.heap.size, 1, none⟩ (.int .i64 0)).alloc o).cell? ⟨w.heap.size, 1, none⟩ = some (.int .i64 0) := fun o => ((below_alloc _ o).cell (p := ⟨w.heap.size, 1, none⟩) (by simpa [World.setCell] using hr)).trans (set_box r0 r1 _ _).2
  refine bodyPost_ret (res_box Try.results15 rfl (g := w.heap.size) (x := 0) (y := 0) ?_ ?_) rfl ⟨rfl, ?_⟩
  · exact e0 _
  · exact e1 _
  · exact ((HB2.out.setCell (p := ⟨w.heap.size, 0, none⟩) (Nat.le_refl _) _).setCell (p := ⟨w.heap.size, 1, none⟩) (Nat.le_refl _) _).alloc (by have := HB2.out.size; simpa [World.setCell] using this) _
/-- The queue without its last entry, whose place is cleared. -/
theorem Qu.cleared {w : World} {g h n p m c : Nat} {S : Nat → Prop} {L : List (It × Nat)} (hq : Qu w g S n L p) (hb : w.heap[g]? = some (.cells #[.func (.func n) #[] #[], .slice (some ⟨h, 0, none⟩) L.length c, .int .i64 (p : Int)] TQ (0, 0))) (hr : Row cE 3 TE 0 w (.slice (some ⟨h, 0, none⟩) L.length c) L) (hS : S h ∧ h ≠ g)
    (hm : m + 1 = L.length) : Qu ((put w h m (zV, 0)).setCell ⟨g, 1, none⟩ (.slice (some ⟨h, 0, none⟩) m c)) g S n (L.take m) p ∧ Off S w ((put w h m (zV, 0)).setCell ⟨g, 1, none⟩ (.slice (some ⟨h, 0, none⟩) m c)) := by
  obtain ⟨q1, q2, q3⟩ := hq.putted hb hr hS (k := m) (by omega) (zV, 0)
  have q4 := q3.cut cE_len (by rw [List.length_set]) (m := m) (by omega)
  have e : (L.set m (zV, 0)).take m = L.take m := by
    apply List.ext_getElem?
    intro i
    rw [List.getElem?_take, List.getElem?_take]
    split
    · rw [List.getElem?_set_ne (by omega)]
    · rfl
  rw [e] at q4
  refine ⟨⟨hq.sg, fun k hk => by have := hq.lt k hk; simpa [World.setCell] using this, _, heap_setCell_same _ g 1 _ _ _ q2, q4.keep fun k hk => Below.heap_setCell _ _ _ _ ?_, fun k hk => by cases hk; exact hS⟩, ?_⟩
  · cases hk; exact hS.2
  · exact (put_off (Off.refl S w) (Or.inl hS.1) m _).set (p := ⟨g, 1, none⟩) (Or.inl hq.sg) _

/-- What Pop leaves. -/
def PopP (w : World) (g n p : Nat) (S : Nat → Prop) (lt : It → It → Bool) (L : List (It × Nat)) (m l : It × Nat) (e : Ending) (w' : World) : Prop :=
  e = .returned (.tuple #[eV m.1, .bool true]) ∧ ∃ M, Sink lt (cutF L l) 0 M ∧ Qu w' g S n M p ∧ Off S w w'

set_option maxHeartbeats 3200000 in
theorem q_Pop {w : World} {g n p : Nat} {S : Nat → Prop} {L : List (It × Nat)} {lt : It → It → Bool} (hq : Qu w g S n L p) (ho : Ord n lt) (hm : L.length ≤ 1000000) {m l : It × Nat} (h0 : L[0]? = some m) (hl : L[L.length - 1]? = some l) :
    Calls Try.prog 15 #[.pointer (some ⟨g, 0, none⟩)] w (PopP w g n p S lt L m l) := by
  have HQ0 := Lib.hid hq
  have HO := Lib.hid ho
  have HM := Lib.hid hm
  have H0 := Lib.hid h0
  have HL := Lib.hid hl
  have HLT := Lib.hid hq.lt
  have HSG := Lib.hid hq.sg
  clear hq ho hm h0 hl
  go_enter Try.func15, Try.ntmps15
  go_wp2_with fail
  refine (q_Peek (HQ0.out.on (below_alloc _ _)) HM.out H0.out).mono ?_
  rintro e w2 ⟨rfl, hb2⟩
  have HB2 := Lib.hid (bstep (below_alloc _ _) hb2)
  have hr : w.heap.size < w2.heap.size := by have := hb2.size; simp at this; omega
  have r0 : w2.cell? ⟨w.heap.size, 0, none⟩ = some (.int .i64 0) := (hb2.cell (p := ⟨w.heap.size, 0, none⟩) (by simp)).trans (by simp)
  have r1 : w2.cell? ⟨w.heap.size, 1, none⟩ = some (.int .i64 0) := (hb2.cell (p := ⟨w.heap.size, 1, none⟩) (by simp)).trans (by simp)
  have f0 : w2.frozen? ⟨w.heap.size, 0, none⟩ = false := (hb2.frozen (p := ⟨w.heap.size, 0, none⟩) (by simp)).trans (by simp)
  have f1 : w2.frozen? ⟨w.heap.size, 1, none⟩ = false := (hb2.frozen (p := ⟨w.heap.size, 1, none⟩) (by simp)).trans (by simp)
  clear hb2
  go_upto_region 4 with fail
  generalize hw4 : w2.alloc (.cells #[.int .i64 m.1.1, .int .i64 m.1.2] TV) = w4
  have b0 : w4.cell? ⟨w2.heap.size, 0, none⟩ = some (.int .i64 m.1.1) := by subst hw4; simp
  have b1 : w4.cell? ⟨w2.heap.size, 1, none⟩ = some (.int .i64 m.1.2) := by subst hw4; simp
  have HB4 : Hid (Below w2.heap.size w2 w4) := hw4 ▸ below_alloc _ _
  have hsz4 : w4.heap.size = w2.heap.size + 1 := by subst hw4; simp
  replace r0 := (HB4.out.cell (p := ⟨w.heap.size, 0, none⟩) hr).trans r0
  replace r1 := (HB4.out.cell (p := ⟨w.heap.size, 1, none⟩) hr).trans r1
  replace f0 := (HB4.out.frozen (p := ⟨w.heap.size, 0, none⟩) hr).trans f0
  replace f1 := (HB4.out.frozen (p := ⟨w.heap.size, 1, none⟩) hr).trans f1
  have HR0 := Lib.hid r0
  have HR1 := Lib.hid r1
  have HF0 := Lib.hid f0
  have HF1 := Lib.hid f1
  have HBX0 := Lib.hid b0
  have HBX1 := Lib.hid b1
  have HSZ4 := Lib.hid hsz4
  have HR := Lib.hid hr
  clear hw4 hsz4 r0 r1 f0 f1 b0 b1
  have HBW := Lib.hid (bstep HB2.out HB4.out)
  have HQ := Lib.hid (HQ0.out.on HBW.out)
  obtain ⟨A, c, c0, c1, c2, hrow, hb, hS, hA⟩ := HQ.out.reads
  have hpos := glt H0.out
  obtain ⟨h, rfl⟩ : ∃ h, A = some ⟨h, 0, none⟩ := by
    rcases hA with rfl | h
    · simp at hpos
    · exact h
  obtain ⟨N, hN⟩ : ∃ N, L.length = N := ⟨_, rfl⟩
  obtain ⟨q, hqq⟩ : ∃ q, N - 1 = q := ⟨_, rfl⟩
  have hl := HL.out
  rw [hN, hqq] at hl
  obtain ⟨a0, a1, a2⟩ := cells_at hrow hl
  obtain ⟨d0, d1, d2⟩ := cells_at hrow H0.out
  rw [Nat.zero_mul] at d0 d1 d2
  simp only [Nat.zero_add] at d0 d1 d2
  have hSh := hS h rfl
  obtain ⟨_, _, ec, hcap, hcm, -⟩ := hrow.one cE_len
  cases ec
  rw [hN] at hcap
  have q1 : (q : Int) ≤ (c : Int) := by omega
  have q2 : q ≤ c := by omega
  have q3 : (c : Int) ≤ 9223372036854775807 := by unfold maxLen at hcm; omega
  clear hcap hcm
  obtain ⟨s1, s2, s3⟩ := HQ.out.putted hb hrow hSh hpos l
  have HS1 := Lib.hid s1
  have HS2 := Lib.hid s2
  have HS3 := Lib.hid s3
  have HSH := Lib.hid hSh
  have hl5 : (L.set 0 l)[q]? = some l := by
    rcases Nat.eq_zero_or_pos q with e | e
    · subst e; rw [List.getElem?_set_self hpos]
    · rw [List.getElem?_set_ne (by omega)]; exact hl
  have HL5 := Lib.hid hl5
  have HOFF := Lib.hid (put_off (Off.refl S w4) (Or.inl hSh.1) 0 l)
  have z := fun j => hrow.warm rfl j
  have z0 := z 0
  have z1 := z 1
  have z2 := z 2
  have hgh : g ≠ h := hSh.2.symm
  have hgl : g < w4.heap.size := HQ.out.lt g HQ.out.sg
  have hhl : h < w4.heap.size := (hrow.lt h rfl).2
  rw [hN] at c1 hpos
  have HN := Lib.hid hN
  have HQQ := Lib.hid hqq
  have hNm : N ≤ 1000000 := by have := HM.out; omega
  have n1 : (N : Int) - 1 = (q : Int) := by omega
  have n2 : (1 : Int) ≤ (N : Int) := by omega
  have n3 : (q : Int) < (N : Int) := by omega
  have n4 : (0 : Int) ≤ (q : Int) := by omega
  have n5 : (0 : Int) < (N : Int) := by omega
  clear z hrow hb hS hA hl hqq hN s1 s2 s3 hSh hl5
  go_wp2_with fail
  go_region
  generalize hw5 : (((w4.setCell ⟨h, 0, none⟩ (.int .i64 l.1.1)).setCell ⟨h, 1, none⟩ (.int .i64 l.1.2)).setCell ⟨h, 2, none⟩ (.int .i64 (l.2 : Int))).drew = w5
  have e5 : w5 = (put w4 h 0 l).drew := hw5.symm
  clear hw5
  have HQ5 : Hid (Qu w5 g S n (L.set 0 l) p) := by rw [e5]; exact HS1.out.drew
  have hb5 : w5.heap[g]? = some (.cells #[.func (.func n) #[] #[], .slice (some ⟨h, 0, none⟩) (L.set 0 l).length c, .int .i64 (p : Int)] TQ (0, 0)) := by rw [e5, List.length_set]; exact HS2.out
  have hr5 : Row cE 3 TE 0 w5 (.slice (some ⟨h, 0, none⟩) (L.set 0 l).length c) (L.set 0 l) := by rw [e5, List.length_set]; exact HS3.out.keep fun _ _ => rfl
  have HOF5 : Hid (Off S w4 w5) := by rw [e5]; exact HOFF.out.drew
  have HCL := Lib.hid (HQ5.out.cleared hb5 hr5 HSH.out (m := q) (by rw [List.length_set]; have := HN.out; have := HQQ.out; omega))
  have y1 : w5.cell? ⟨g, 1, none⟩ = some (.slice (some ⟨h, 0, none⟩) N c) := by
    rw [cell_of_row _ _ _ _ _ _ hb5, List.length_set, HN.out]; rfl
  have y2 : w5.frozen? ⟨g, 1, none⟩ = false := frozen_of hb5 _
  obtain ⟨x0, x1, x2⟩ := cells_at hr5 HL5.out
  have v := fun j => hr5.warm rfl j
  have v0 := v (q * 3)
  have v1 := v (q * 3 + 1)
  have v2 := v (q * 3 + 2)
  have hgl5 : g < w5.heap.size := Nat.lt_of_lt_of_le hgl HOF5.out.size
  have hhl5 : h < w5.heap.size := Nat.lt_of_lt_of_le hhl HOF5.out.size
  clear e5 hb5 hr5 v a0 a1 a2 d0 d1 d2 z0 z1 z2 c0 c1 c2
  go_wp2_with fail
  have hcut : (L.set 0 l).take q = cutF L l := by unfold cutF; rw [HN.out, HQQ.out]
  obtain ⟨s1, s2⟩ := HCL.out
  rw [hcut] at s1
  have HS8 := Lib.hid s1
  have HO8 := Lib.hid s2
  clear s1 s2 hcut x0 x1 x2 v0 v1 v2 y1 y2
  refine (q_sink (i := 0) HS8.out HO.out (by rw [cutF_len]; have := HM.out; omega) (Nat.zero_le _)).mono ?_
  rintro e w9 ⟨rfl, M, hr9, hq9, ho9⟩
  have HR9 := Lib.hid hr9
  have HQ9 := Lib.hid hq9
  have HO9 := Lib.hid ((HOF5.out.trans HO8.out fun _ h => Or.inl h).trans ho9 fun _ h => Or.inl h)
  clear hr9 hq9 ho9
  have hnr : ¬ S w.heap.size := fun h => Nat.lt_irrefl _ (HLT.out _ h)
  have hnb : ¬ S w2.heap.size := fun h => by have := HLT.out _ h; omega
  have hr4 : w.heap.size < w4.heap.size := by have := HSZ4.out; omega
  have hb4 : w2.heap.size < w4.heap.size := by have := HSZ4.out; omega
  have kr := HO9.out.block w.heap.size hr4 hnr
  have kb := HO9.out.block w2.heap.size hb4 hnb
  have r0 : w9.cell? ⟨w.heap.size, 0, none⟩ = some (.int .i64 0) := (World.cell?_of_block (a := ⟨w.heap.size, 0, none⟩) kr).trans HR0.out
  have r1 : w9.cell? ⟨w.heap.size, 1, none⟩ = some (.int .i64 0) := (World.cell?_of_block (a := ⟨w.heap.size, 1, none⟩) kr).trans HR1.out
  have f0 : w9.frozen? ⟨w.heap.size, 0, none⟩ = false := (World.frozen?_of_block (a := ⟨w.heap.size, 0, none⟩) kr).trans HF0.out
  have f1 : w9.frozen? ⟨w.heap.size, 1, none⟩ = false := (World.frozen?_of_block (a := ⟨w.heap.size, 1, none⟩) kr).trans HF1.out
  have b0 : w9.cell? ⟨w2.heap.size, 0, none⟩ = some (.int .i64 m.1.1) := (World.cell?_of_block (a := ⟨w2.heap.size, 0, none⟩) kb).trans HBX0.out
  have b1 : w9.cell? ⟨w2.heap.size, 1, none⟩ = some (.int .i64 m.1.2) := (World.cell?_of_block (a := ⟨w2.heap.size, 1, none⟩) kb).trans HBX1.out
  have SB := Lib.hid (set_box r0 r1 (.int .i64 m.1.1) (.int .i64 m.1.2))
  clear kr kb
  go_wp2_with fail
  (try simp only [Exit.inBlock, Exit.then])
  refine bodyPost_ret (res_box Try.results15 rfl (g := w.heap.size) (x := m.1.1) (y := m.1.2) ?_ ?_) rfl ⟨rfl, M, HR9.out, HQ9.out.keep (by simp [World.setCell]) fun k hk => ?_, ?_⟩
  · exact SB.out.1
  · exact SB.out.2
  · have hne : k ≠ w.heap.size := fun e => by subst e; exact hnr hk
    exact (Below.heap_setCell _ _ _ _ hne).trans (Below.heap_setCell _ _ _ _ hne)
  · exact ((Off.before HBW.out HO9.out).set (p := ⟨w.heap.size, 0, none⟩) (Or.inr (Nat.le_refl _)) _).set (p := ⟨w.heap.size, 1, none⟩) (Or.inr (Nat.le_refl _)) _
#print axioms q_Pop
end Go.Proofs.Ytkgmfdmgaloaoaa.PqueueI
