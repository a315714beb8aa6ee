/- A run is added to a normal form. -/
import Derived.Test.YtnblpooimgpgoaaIsoK
namespace Go.Proofs.Ytnblpooimgpgoaa.Iso
open Go.ChangeShapes Go.WideShapes Go.RowKit Go.Lib Go.Proofs.Ytnblpooimgpgoaa.Rw
set_option linter.unusedVariables false
set_option maxRecDepth 100000

/-- One run more, at the end. -/
theorem Nm.pushed {w w' : World} {g m c : Nat} {S : Nat → Prop} {M : List Rn} {A A' : Option Addr} {n' c' : Nat} {x : Rn} (hq : Nm w g S M)
    (hb : w.heap[g]? = some (.cells #[.slice A m c] TN (0, 0))) (hS : ∀ h, (Value.slice A m c).ownBlock = some h → S h ∧ h ≠ g)
    (hr : Row cR 3 TR 0 w' (.slice A' n' c') (M ++ [x])) (hg : w.grownBy w' (Value.slice A m c).ownBlock) (hat : (Value.slice A' n' c').ownBlock = (Value.slice A m c).ownBlock ∨ ∃ h, (Value.slice A' n' c').ownBlock = some h ∧ w.heap.size ≤ h) :
    ∃ S', Nm (w'.setCell ⟨g, 0, none⟩ (.slice A' n' c')) g S' (M ++ [x]) ∧ (∀ k, S' k → S k ∨ w.heap.size ≤ k) ∧ Off S w (w'.setCell ⟨g, 0, none⟩ (.slice A' n' c')) := by
  have hgl := hq.lt g hq.sg
  have hkb : w'.heap[g]? = some (.cells #[.slice A m c] TN (0, 0)) := (hg.block g hgl fun e => (hS g e.symm).2 rfl).trans hb
  have hsz : ∀ W : World, ∀ a u, (W.setCell a u).heap.size = W.heap.size := fun W a u => by simp [World.setCell]
  have hnew : ∀ h, (Value.slice A' n' c').ownBlock = some h → (S h ∨ w.heap.size ≤ h) ∧ h ≠ g ∧ h < w'.heap.size := fun h e => by
    refine ⟨?_, ?_, (hr.lt h e).2⟩
    · rcases hat with h1 | ⟨k, h1, h2⟩
      · rw [h1] at e; exact Or.inl (hS h e).1
      · rw [h1] at e; cases e; exact Or.inr h2
    · rcases hat with h1 | ⟨k, h1, h2⟩
      · rw [h1] at e; exact (hS h e).2
      · rw [h1] at e; cases e; omega
  have hoff : Off S w w' := (Off.refl S w).grown hg fun k e => Or.inl (hS k e).1
  refine ⟨fun k => S k ∨ (Value.slice A' n' c').ownBlock = some k, ⟨Or.inl hq.sg, fun k hk => ?_, .slice A' n' c', ?_, ?_, fun h e => ⟨Or.inr e, (hnew h e).2.1⟩⟩, fun k hk => ?_, ?_⟩
  · rw [hsz]
    rcases hk with hk | hk
    · exact Nat.lt_of_lt_of_le (hq.lt k hk) hg.size
    · exact (hnew k hk).2.2
  · rw [heap_setCell_same _ g 0 _ _ _ hkb]
    simp
  · exact hr.keep fun k e => Below.heap_setCell _ _ _ _ (hnew k e).2.1
  · rcases hk with hk | hk
    · exact Or.inl hk
    · exact (hnew k hk).1
  · exact hoff.set (p := ⟨g, 0, none⟩) (Or.inl hq.sg) _
/-- The last run is made longer. -/
theorem Nm.put {w : World} {g : Nat} {S : Nat → Prop} {p : List Rn} {ca cn : Int} {cb : Bool} {h N P c : Nat} (hq : Nm w g S (p ++ [(ca, cn, cb)])) (hN : (p ++ [(ca, cn, cb)]).length = N) (hP : p.length = P) (hb : w.heap[g]? = some (.cells #[.slice (some ⟨h, 0, none⟩) N c] TN (0, 0)))
    (hr : Row cR 3 TR 0 w (.slice (some ⟨h, 0, none⟩) N c) (p ++ [(ca, cn, cb)])) (hS : ∀ k, (Value.slice (some ⟨h, 0, none⟩) N c).ownBlock = some k → S k ∧ k ≠ g) (K : Int) (V : Bool) :
    Nm (((w.setCell ⟨h, P * 3, none⟩ (.int .i64 ca)).setCell ⟨h, P * 3 + 1, none⟩ (.int .i64 K)).setCell ⟨h, P * 3 + 2, none⟩ (.bool V)) g S (p ++ [(ca, K, V)]) := by
  have hgh : h ≠ g := (hS h rfl).2
  have h1 := Row.put hr hN.symm P (ca, K, V) (by rw [← hP]; simp)
  have e : (p ++ [(ca, cn, cb)]).set P (ca, K, V) = p ++ [(ca, K, V)] := by rw [← hP]; simp
  rw [e] at h1
  refine ⟨hq.sg, fun k hk => by simp [World.setCell]; exact hq.lt k hk, .slice (some ⟨h, 0, none⟩) N c, ?_, h1, hS⟩
  rw [Below.heap_setCell _ _ _ _ (fun e => hgh e.symm), Below.heap_setCell _ _ _ _ (fun e => hgh e.symm), Below.heap_setCell _ _ _ _ (fun e => hgh e.symm)]
  exact hb
theorem ret_unit {fn : Func} (h : fn.results = #[]) (w : World) (tmps : Array Value) : (results fn tmps).run Try.prog w = .ok (.tuple #[]) w := by simp [results, h]
/-- What add leaves. -/
def AddP (w : World) (g : Nat) (S : Nat → Prop) (M : List Rn) (e : Ending) (w' : World) : Prop :=
  e = .returned (.tuple #[]) ∧ ∃ S', Nm w' g S' M ∧ (∀ k, S' k → S k ∨ w.heap.size ≤ k) ∧ Off S w w'


set_option maxHeartbeats 1600000 in
theorem add_nil_t {w : World} {g : Nat} {S : Nat → Prop} (HQ0 : Hid (Nm w g S [])) (a n : Int) (z1 : (n == 0) = false) (D : Bool) (hD : decide (1 < n) = D) (HX0 : Hid (nrmR (a, n, true) = (a, n, D))) :
    Calls Try.prog 60 #[.pointer (some ⟨g, 0, none⟩), .agg #[.int .i64 a, .int .i64 n, .bool true]] w (AddP w g S [nrmR (a, n, true)]) := by
  go_enter Try.func60, Try.ntmps60
  go_upto_region 1 with fail
  generalize hw1 : w.alloc (.cells #[.int .i64 a, .int .i64 n, .bool true] 48) = w1
  have HB1 : Hid (Below w.heap.size w w1) := hw1 ▸ below_alloc _ _
  have HR1 : Hid (Cel w1 w.heap.size [.int .i64 a, .int .i64 n, .bool true]) := hw1 ▸ Cel.new _ _ _
  clear hw1
  have HQ := Lib.hid (HQ0.out.on HB1.out)
  obtain ⟨A, c, c0, -, -, -, -⟩ := HQ.out.reads
  have HHd : Hid (∀ h, S h → h ≠ w.heap.size) := fun h hh => by have := HQ0.out.lt h hh; omega
  simp only [List.length_nil] at c0
  obtain ⟨r0, r1, r2⟩ := HR1.out.three
  obtain ⟨f0, f1, f2⟩ := HR1.out.warm3
  go_upto_region 8 with fail
  generalize hw2 : w1.setCell ⟨w.heap.size, 2, none⟩ (.bool D) = wq
  have HO2 : Hid (Off (fun k => k = w.heap.size) w1 wq) := hw2 ▸ (Off.refl (fun k => k = w.heap.size) w1).set (Or.inl rfl) _
  have HRq : Hid (Cel wq w.heap.size [.int .i64 a, .int .i64 n, .bool D]) := hw2 ▸ HR1.out.set 2 _
  have HQq : Hid (Nm wq g S []) := HQ.out.off HO2.out HHd.out
  have HOW : Hid (Off S w wq) := (Off.of_below (S := S) HB1.out).trans HO2.out fun x e => Or.inr (by rw [e]; exact Nat.le_refl _)
  clear hw2 c0 r0 r1 r2 f0 f1 f2
  obtain ⟨A9, c9, q0, hrow9, hb9, hS9, -⟩ := HQq.out.reads
  obtain ⟨N9, hN9⟩ : ∃ N, (([] : List Rn)).length = N := ⟨_, rfl⟩
  rw [hN9] at q0 hrow9 hb9 hS9
  have hgl9 := HQq.out.lt g HQq.out.sg
  have hrl9 := HRq.out.lt
  have HR9 := Lib.hid hrow9
  have HB9 := Lib.hid hb9
  have HS9 := Lib.hid hS9
  have HN9 := Lib.hid hN9
  have HG9 := Lib.hid hgl9
  have hf9 : wq.frozen? ⟨g, 0, none⟩ = false := frozen_of hb9 _
  have HX9 : Hid (∀ W : World, W.heap.size = wq.heap.size → ∀ ty, Rd cR 3 (W.alloc (.cells #[.int .i64 a, .int .i64 n, .bool D] ty)) (some ⟨wq.heap.size, 0, none⟩) [(a, n, D)]) := fun W hW ty => rd_one cR_len (by rw [← hW]; exact heap_alloc_new _ _)
  clear hrow9 hb9 hS9 hN9
  have HNE9 : Hid ((Value.slice A9 N9 c9).ownBlock ≠ some g) := fun e => (HS9.out g e).2 rfl
  have HGB9 : Hid (∀ w' : World, wq.grownBy w' (Value.slice A9 N9 c9).ownBlock → w'.heap[g]? = wq.heap[g]?) := fun w' h => h.block g HG9.out fun e => HNE9.out e.symm
  obtain ⟨s0, s1, s2⟩ := HRq.out.three
  go_region_law (refine step_rows kdR wq rfl (.tmp 56) (.tmp 58) rfl (.slice A9 N9 c9) (([] : List Rn)) (by simp [Act.eval]) HR9.out (by first | exact below_alloc _ _ | exact below_drew (below_alloc _ _)) (some ⟨wq.heap.size, 0, none⟩) 1 1 [(a, n, D)] rfl (by simp [Act.eval]) (by first | exact HX9.out _ rfl _) (by simp) (Nat.zero_le _) ?_; intro A' n' c' w' hn' hr' hk' hg' hat'; have HN' := Lib.hid hn'; have HR' := Lib.hid hr'; have HG' := Lib.hid hg'; have HAT' := Lib.hid hat'; have HK' := Lib.hid (HGB9.out w' hg'); clear hn' hr' hk' hg' hat'; have y1 : w'.cell? ⟨g, 0, none⟩ = some (.slice A9 N9 c9) := (World.cell?_of_block (a := ⟨g, 0, none⟩) HK'.out).trans q0; have f1 : w'.frozen? ⟨g, 0, none⟩ = false := frozen_of (HK'.out.trans HB9.out) _)
  all_goals (
    have HD9 : Hid (∃ S', Nm (w'.setCell ⟨g, 0, none⟩ (.slice A' n' c')) g S' (([] : List Rn) ++ [(a, n, D)]) ∧ (∀ k, S' k → S k ∨ wq.heap.size ≤ k) ∧ Off S wq (w'.setCell ⟨g, 0, none⟩ (.slice A' n' c'))) := HQq.out.pushed HB9.out HS9.out HR'.out HG'.out HAT'.out
    clear s0 s1 s2 q0 hf9
    go_wp2_with fail
    refine bodyPost_ret (ret_unit rfl _ _) rfl ⟨rfl, ?_⟩
    obtain ⟨S', hq', hs', hof'⟩ := HD9.out
    refine ⟨S', by rw [HX0.out]; exact hq', fun k hk => (hs' k hk).imp_right fun h => Nat.le_trans HOW.out.size h, HOW.out.trans hof' fun x e => Or.inl e⟩)
set_option maxHeartbeats 1600000 in
theorem add_nil_f {w : World} {g : Nat} {S : Nat → Prop} (HQ0 : Hid (Nm w g S [])) (a n : Int) (z1 : (n == 0) = false) (HX0 : Hid (nrmR (a, n, false) = (a, n, false))) :
    Calls Try.prog 60 #[.pointer (some ⟨g, 0, none⟩), .agg #[.int .i64 a, .int .i64 n, .bool false]] w (AddP w g S [nrmR (a, n, false)]) := by
  go_enter Try.func60, Try.ntmps60
  go_upto_region 1 with fail
  generalize hw1 : w.alloc (.cells #[.int .i64 a, .int .i64 n, .bool false] 48) = w1
  have HB1 : Hid (Below w.heap.size w w1) := hw1 ▸ below_alloc _ _
  have HR1 : Hid (Cel w1 w.heap.size [.int .i64 a, .int .i64 n, .bool false]) := hw1 ▸ Cel.new _ _ _
  clear hw1
  have HQ := Lib.hid (HQ0.out.on HB1.out)
  obtain ⟨A, c, c0, -, -, -, -⟩ := HQ.out.reads
  have HHd : Hid (∀ h, S h → h ≠ w.heap.size) := fun h hh => by have := HQ0.out.lt h hh; omega
  simp only [List.length_nil] at c0
  obtain ⟨r0, r1, r2⟩ := HR1.out.three
  obtain ⟨f0, f1, f2⟩ := HR1.out.warm3
  go_upto_region 8 with fail
  generalize hw2 : w1.setCell ⟨w.heap.size, 2, none⟩ (.bool false) = wq
  have HO2 : Hid (Off (fun k => k = w.heap.size) w1 wq) := hw2 ▸ (Off.refl (fun k => k = w.heap.size) w1).set (Or.inl rfl) _
  have HRq : Hid (Cel wq w.heap.size [.int .i64 a, .int .i64 n, .bool false]) := hw2 ▸ HR1.out.set 2 _
  have HQq : Hid (Nm wq g S []) := HQ.out.off HO2.out HHd.out
  have HOW : Hid (Off S w wq) := (Off.of_below (S := S) HB1.out).trans HO2.out fun x e => Or.inr (by rw [e]; exact Nat.le_refl _)
  clear hw2 c0 r0 r1 r2 f0 f1 f2
  obtain ⟨A9, c9, q0, hrow9, hb9, hS9, -⟩ := HQq.out.reads
  obtain ⟨N9, hN9⟩ : ∃ N, (([] : List Rn)).length = N := ⟨_, rfl⟩
  rw [hN9] at q0 hrow9 hb9 hS9
  have hgl9 := HQq.out.lt g HQq.out.sg
  have hrl9 := HRq.out.lt
  have HR9 := Lib.hid hrow9
  have HB9 := Lib.hid hb9
  have HS9 := Lib.hid hS9
  have HN9 := Lib.hid hN9
  have HG9 := Lib.hid hgl9
  have hf9 : wq.frozen? ⟨g, 0, none⟩ = false := frozen_of hb9 _
  have HX9 : Hid (∀ W : World, W.heap.size = wq.heap.size → ∀ ty, Rd cR 3 (W.alloc (.cells #[.int .i64 a, .int .i64 n, .bool false] ty)) (some ⟨wq.heap.size, 0, none⟩) [(a, n, false)]) := fun W hW ty => rd_one cR_len (by rw [← hW]; exact heap_alloc_new _ _)
  clear hrow9 hb9 hS9 hN9
  have HNE9 : Hid ((Value.slice A9 N9 c9).ownBlock ≠ some g) := fun e => (HS9.out g e).2 rfl
  have HGB9 : Hid (∀ w' : World, wq.grownBy w' (Value.slice A9 N9 c9).ownBlock → w'.heap[g]? = wq.heap[g]?) := fun w' h => h.block g HG9.out fun e => HNE9.out e.symm
  obtain ⟨s0, s1, s2⟩ := HRq.out.three
  go_region_law (refine step_rows kdR wq rfl (.tmp 56) (.tmp 58) rfl (.slice A9 N9 c9) (([] : List Rn)) (by simp [Act.eval]) HR9.out (by first | exact below_alloc _ _ | exact below_drew (below_alloc _ _)) (some ⟨wq.heap.size, 0, none⟩) 1 1 [(a, n, false)] rfl (by simp [Act.eval]) (by first | exact HX9.out _ rfl _) (by simp) (Nat.zero_le _) ?_; intro A' n' c' w' hn' hr' hk' hg' hat'; have HN' := Lib.hid hn'; have HR' := Lib.hid hr'; have HG' := Lib.hid hg'; have HAT' := Lib.hid hat'; have HK' := Lib.hid (HGB9.out w' hg'); clear hn' hr' hk' hg' hat'; have y1 : w'.cell? ⟨g, 0, none⟩ = some (.slice A9 N9 c9) := (World.cell?_of_block (a := ⟨g, 0, none⟩) HK'.out).trans q0; have f1 : w'.frozen? ⟨g, 0, none⟩ = false := frozen_of (HK'.out.trans HB9.out) _)
  all_goals (
    have HD9 : Hid (∃ S', Nm (w'.setCell ⟨g, 0, none⟩ (.slice A' n' c')) g S' (([] : List Rn) ++ [(a, n, false)]) ∧ (∀ k, S' k → S k ∨ wq.heap.size ≤ k) ∧ Off S wq (w'.setCell ⟨g, 0, none⟩ (.slice A' n' c'))) := HQq.out.pushed HB9.out HS9.out HR'.out HG'.out HAT'.out
    clear s0 s1 s2 q0 hf9
    go_wp2_with fail
    refine bodyPost_ret (ret_unit rfl _ _) rfl ⟨rfl, ?_⟩
    obtain ⟨S', hq', hs', hof'⟩ := HD9.out
    refine ⟨S', by rw [HX0.out]; exact hq', fun k hk => (hs' k hk).imp_right fun h => Nat.le_trans HOW.out.size h, HOW.out.trans hof' fun x e => Or.inl e⟩)

set_option maxHeartbeats 3200000 in
theorem add_cons {w : World} {g : Nat} {S : Nat → Prop} {p : List Rn} {ca cn : Int} {cb : Bool} (HQ0 : Hid (Nm w g S (p ++ [(ca, cn, cb)]))) (hm : p.length ≤ 900000) (a n : Int) (b : Bool) (K T X Y : Int) (V : Bool) (M' : List Rn) (HM : Hid (M' = if Y = 0 then p ++ [(ca, K, V)] else p ++ [(ca, K, V)] ++ [(X, Y, b && decide (1 < Y))]))
    (HGr : Hid (∀ W, Calls Try.prog 73 #[.agg #[.int .i64 ca, .int .i64 cn, .bool cb], .agg #[.int .i64 a, .int .i64 n, .bool b]] W fun e w' => e = .returned (.tuple #[.agg #[.int .i64 ca, .int .i64 K, .bool V], .int .i64 T]) ∧ Below W.heap.size W w'))
    (HCut : Hid (∀ W, Calls Try.prog 69 #[.agg #[.int .i64 a, .int .i64 n, .bool b], .agg #[.int .i64 T, .int .i64 n]] W fun e w' => e = .returned (.agg #[.int .i64 X, .int .i64 Y, .bool b]) ∧ Below W.heap.size W w')) :
    Calls Try.prog 60 #[.pointer (some ⟨g, 0, none⟩), .agg #[.int .i64 a, .int .i64 n, .bool b]] w (AddP w g S M') := by
  go_enter Try.func60, Try.ntmps60
  go_upto_region 1 with fail
  generalize hw1 : w.alloc (.cells #[.int .i64 a, .int .i64 n, .bool b] 48) = w1
  have HB1 : Hid (Below w.heap.size w w1) := hw1 ▸ below_alloc _ _
  have HR1 : Hid (Cel w1 w.heap.size [.int .i64 a, .int .i64 n, .bool b]) := hw1 ▸ Cel.new _ _ _
  clear hw1
  have HQ := Lib.hid (HQ0.out.on HB1.out)
  have HHd : Hid (∀ h, S h → h ≠ w.heap.size) := fun h hh => by have := HQ0.out.lt h hh; omega
  obtain ⟨A, c, c0, hrow, hb, hS, hA⟩ := HQ.out.reads
  obtain ⟨P, hP⟩ : ∃ P, p.length = P := ⟨_, rfl⟩
  obtain ⟨N, hN⟩ : ∃ N, (p ++ [(ca, cn, cb)]).length = N := ⟨_, rfl⟩
  have hNP : N = P + 1 := by rw [← hN, ← hP]; simp
  rw [hN] at c0 hrow hb hS
  obtain ⟨h, rfl⟩ : ∃ h, A = some ⟨h, 0, none⟩ := by
    rcases hA with h | h
    · simp at h
    · exact h
  have hl : (p ++ [(ca, cn, cb)])[P]? = some (ca, cn, cb) := by rw [← hP]; simp
  have l0 := hrow.cell cR_len hl (j := 0) rfl
  have l1 := hrow.cell cR_len hl (j := 1) rfl
  have l2 := hrow.cell cR_len hl (j := 2) rfl
  simp only [Nat.add_zero] at l0
  have HRow := Lib.hid hrow
  have HBL := Lib.hid hb
  have HS := Lib.hid hS
  have HN := Lib.hid hN
  have HP := Lib.hid hP
  have HNP := Lib.hid hNP
  have i1 : (P : Int) < (N : Int) := by omega
  have i2 : (0 : Int) ≤ (P : Int) := by omega
  have i3 : (N : Int) - 1 = (P : Int) := by omega
  have i4 : 0 < N := by omega
  have iw : IntKind.i64.wrap (P : Int) = (P : Int) := wrap_id (by omega)
  have hhl := (hrow.lt h rfl).2
  clear hrow hb hS hN hP hNP hl hA
  obtain ⟨r0, r1, r2⟩ := HR1.out.three
  obtain ⟨f0, f1, f2⟩ := HR1.out.warm3
  go_upto_region 2 with fail
  go_quiet (fail)
  obtain ⟨w2, hw2⟩ : ∃ W, w1.drewN nq = W := ⟨_, rfl⟩
  have HO2 : Hid (Below w1.heap.size w1 w2) := hw2 ▸ below_drewN (Below.refl _ _) _
  rw [hw2]
  clear hw2 r0 r1 r2 f0 f1 f2
  have HR2 := Lib.hid (HR1.out.on HO2.out)
  have HLL : Hid (w2.cell? ⟨h, P * 3, none⟩ = some (.int .i64 ca) ∧ w2.cell? ⟨h, P * 3 + 1, none⟩ = some (.int .i64 cn) ∧ w2.cell? ⟨h, P * 3 + 2, none⟩ = some (.bool cb)) :=
    ⟨(HO2.out.cell (p := ⟨h, P * 3, none⟩) hhl).trans l0, (HO2.out.cell (p := ⟨h, P * 3 + 1, none⟩) hhl).trans l1, (HO2.out.cell (p := ⟨h, P * 3 + 2, none⟩) hhl).trans l2⟩
  clear l0 l1 l2 c0
  obtain ⟨l0, l1, l2⟩ := HLL.out
  obtain ⟨r0, r1, r2⟩ := HR2.out.three
  have hhl2 : h < w2.heap.size := Nat.lt_of_lt_of_le hhl HO2.out.size
  have hrl2 := HR2.out.lt
  have HS3 := Lib.hid fun (W : World) (hb : Below w2.heap.size w2 W) => (⟨⟨(hb.cell (p := ⟨h, P * 3, none⟩) hhl2).trans l0, (hb.cell (p := ⟨h, P * 3 + 1, none⟩) hhl2).trans l1, (hb.cell (p := ⟨h, P * 3 + 2, none⟩) hhl2).trans l2⟩, (HR2.out.on hb).three⟩ : (W.cell? ⟨h, P * 3, none⟩ = some (.int .i64 ca) ∧ W.cell? ⟨h, P * 3 + 1, none⟩ = some (.int .i64 cn) ∧ W.cell? ⟨h, P * 3 + 2, none⟩ = some (.bool cb)) ∧ (W.cell? ⟨w.heap.size, 0, none⟩ = some (.int .i64 a) ∧ W.cell? ⟨w.heap.size, 1, none⟩ = some (.int .i64 n) ∧ W.cell? ⟨w.heap.size, 2, none⟩ = some (.bool b)))
  go_upto_region 3 with fail
  go_cut [5, 6] from 24 to 31 (fun q t wc => ∃ gb, q = .pointer (some ⟨gb, 0, none⟩) ∧ t = .int .i64 T ∧ Below w2.heap.size w2 wc ∧ Cel wc gb [.int .i64 ca, .int .i64 K, .bool V])
  case first =>
    go_region_held3 (fun W' => (W'.cell? ⟨h, P * 3, none⟩ = some (.int .i64 ca) ∧ W'.cell? ⟨h, P * 3 + 1, none⟩ = some (.int .i64 cn) ∧ W'.cell? ⟨h, P * 3 + 2, none⟩ = some (.bool cb)) ∧ (W'.cell? ⟨w.heap.size, 0, none⟩ = some (.int .i64 a) ∧ W'.cell? ⟨w.heap.size, 1, none⟩ = some (.int .i64 n) ∧ W'.cell? ⟨w.heap.size, 2, none⟩ = some (.bool b)))
      (first | exact HS3.out _ (Below.refl _ _) | exact HS3.out _ (drew_below _) | exact HS3.out _ (bstep (drew_below _) (below_alloc _ _)) | exact HS3.out _ (bstep (drew_below _) hb3) | exact HS3.out _ (bstep (bstep (drew_below _) (below_alloc _ _)) hb3) | exact HS3.out _ (bstep (bstep (drew_below _) hb3) (below_alloc _ _)) | exact HS3.out _ (below_put3 (bstep (bstep (drew_below _) (below_alloc _ _)) hb3) (by simp) _ _ _))
      ((go_at_call 73; (refine (HGr.out _).mono ?_); rintro e w3 ⟨rfl, hb3⟩; (try (have H5 := Lib.hid ((Cel.new_at w2.drew [.int .i64 0, .int .i64 0, .bool false] TR (k := w2.heap.size) rfl).on hb3); obtain ⟨z0, z1, z2⟩ := H5.out.three; obtain ⟨y0, y1, y2⟩ := H5.out.warm3))))
    all_goals
      go_wp2_with fail
      go_meet
      case rel =>
        refine ⟨_, rfl, rfl, ?_, ?_⟩
        · first | exact bstep (bstep (drew_below _) hb3) (below_alloc _ _) | exact below_put3 (bstep (bstep (drew_below _) (below_alloc _ _)) hb3) (Nat.le_refl _) _ _ _
        · first | exact Cel.new _ [.int .i64 ca, .int .i64 K, .bool V] _ | exact H5.out.put3 _ _ _
  case rest =>
    obtain ⟨gb, rfl, rfl, hbel, hcel⟩ := hcut
    have HBc : Hid (Below w1.heap.size w1 wc) := bstep HO2.out hbel
    have HQc := Lib.hid (HQ.out.on HBc.out)
    have HRc := Lib.hid (HR1.out.on HBc.out)
    have HRowc : Hid (Row cR 3 TR 0 wc (.slice (some ⟨h, 0, none⟩) N c) (p ++ [(ca, cn, cb)])) := HRow.out.on HBc.out
    have HBLc : Hid (wc.heap[g]? = some (.cells #[.slice (some ⟨h, 0, none⟩) N c] TN (0, 0))) := (HBc.out.block _ (HQ.out.lt g HQ.out.sg)).trans HBL.out
    have HCc := Lib.hid hcel
    obtain ⟨x0, x1, x2⟩ := hcel.three
    obtain ⟨l0, l1, l2⟩ := HS3.out wc hbel
    clear l0 l1 l2
    obtain ⟨⟨l0, l1, l2⟩, -⟩ := HS3.out wc hbel
    have m0 : wc.frozen? ⟨h, P * 3, none⟩ = false := HRowc.out.warm HN.out.symm _
    have m1 : wc.frozen? ⟨h, P * 3 + 1, none⟩ = false := HRowc.out.warm HN.out.symm _
    have m2 : wc.frozen? ⟨h, P * 3 + 2, none⟩ = false := HRowc.out.warm HN.out.symm _
    have HWc : Hid (Off S w wc) := Off.before HB1.out (Off.of_below HBc.out)
    clear hbel hcel r0 r1 r2
    go_upto_region 5 with fail
    generalize hwd : ((wc.setCell ⟨h, P * 3, none⟩ (.int .i64 ca)).setCell ⟨h, P * 3 + 1, none⟩ (.int .i64 K)).setCell ⟨h, P * 3 + 2, none⟩ (.bool V) = wd
    have HQd : Hid (Nm wd g S (p ++ [(ca, K, V)])) := hwd ▸ HQc.out.put HN.out HP.out HBLc.out HRowc.out HS.out K V
    have HRd : Hid (Cel wd w.heap.size [.int .i64 a, .int .i64 n, .bool b]) := hwd ▸ ((HRc.out.far (p := ⟨h, P * 3, none⟩) (HHd.out h (HS.out h rfl).1) _).far (p := ⟨h, P * 3 + 1, none⟩) (HHd.out h (HS.out h rfl).1) _).far (p := ⟨h, P * 3 + 2, none⟩) (HHd.out h (HS.out h rfl).1) _
    have HWd : Hid (Off S w wd) := hwd ▸ ((HWc.out.set (p := ⟨h, P * 3, none⟩) (Or.inl (HS.out h rfl).1) _).set (p := ⟨h, P * 3 + 1, none⟩) (Or.inl (HS.out h rfl).1) _).set (p := ⟨h, P * 3 + 2, none⟩) (Or.inl (HS.out h rfl).1) _
    clear hwd x0 x1 x2 l0 l1 l2 m0 m1 m2
    obtain ⟨r0, r1, r2⟩ := HRd.out.three
    go_wp2_with fail
    refine (HCut.out _).mono ?_
    rintro e we ⟨rfl, hbe⟩
    have HBe := Lib.hid hbe
    have HRe := Lib.hid (HRd.out.on hbe)
    clear hbe r0 r1 r2
    obtain ⟨r0, r1, r2⟩ := HRe.out.three
    obtain ⟨f0, f1, f2⟩ := HRe.out.warm3
    go_upto_region 6 with fail
    generalize hwf : ((we.setCell ⟨w.heap.size, 0, none⟩ (.int .i64 X)).setCell ⟨w.heap.size, 1, none⟩ (.int .i64 Y)).setCell ⟨w.heap.size, 2, none⟩ (.bool b) = wf
    have HOf : Hid (Off (fun k => k = w.heap.size) we wf) := hwf ▸ off_put3 _ _ _ _ _
    have HRf : Hid (Cel wf w.heap.size [.int .i64 X, .int .i64 Y, .bool b]) := hwf ▸ HRe.out.put3 _ _ _
    have HQf : Hid (Nm wf g S (p ++ [(ca, K, V)])) := (HQd.out.on HBe.out).off HOf.out HHd.out
    have HWf : Hid (Off S w wf) := (HWd.out.then_below HBe.out).trans HOf.out fun x e => Or.inr (by rw [e]; exact Nat.le_refl _)
    clear hwf r0 r1 r2 f0 f1 f2
    obtain ⟨r0, r1, r2⟩ := HRf.out.three
    obtain ⟨f0, f1, f2⟩ := HRf.out.warm3
    by_cases hY : Y = 0
    · have HX0 : Hid (M' = p ++ [(ca, K, V)]) := HM.out.trans (if_pos hY)
      have y1 : (Y == 0) = true := by rw [hY]; rfl
      clear hY
      go_wp2_with fail
      refine bodyPost_ret (ret_unit rfl _ _) rfl ⟨rfl, S, by rw [HX0.out]; exact HQf.out, fun k hk => Or.inl hk, HWf.out⟩
    · have HX1 : Hid (M' = p ++ [(ca, K, V)] ++ [(X, Y, b && decide (1 < Y))]) := HM.out.trans (if_neg hY)
      have y1 : (Y == 0) = false := beq_false_of_ne hY
      clear hY
      have HSZ : Hid (w.heap.size ≤ wf.heap.size) := HWf.out.size
      cases b with
      | true =>
        obtain ⟨D, hD⟩ : ∃ D, decide (1 < Y) = D := ⟨_, rfl⟩
        have HX0 : Hid (M' = (p ++ [(ca, K, V)]) ++ [(X, Y, D)]) := Lib.hid (by rw [HX1.out, hD, Bool.true_and])
        go_upto_region 8 with fail
        generalize hwq : wf.setCell ⟨w.heap.size, 2, none⟩ (.bool D) = wq
        have HO2 : Hid (Off (fun k => k = w.heap.size) wf wq) := hwq ▸ (Off.refl (fun k => k = w.heap.size) wf).set (Or.inl rfl) _
        have HRq : Hid (Cel wq w.heap.size [.int .i64 X, .int .i64 Y, .bool D]) := hwq ▸ HRf.out.set 2 _
        have HQq : Hid (Nm wq g S (p ++ [(ca, K, V)])) := HQf.out.off HO2.out HHd.out
        have HOW : Hid (Off S w wq) := HWf.out.trans HO2.out fun x e => Or.inr (by rw [e]; exact Nat.le_refl _)
        clear hwq r0 r1 r2 f0 f1 f2
        obtain ⟨A9, c9, q0, hrow9, hb9, hS9, -⟩ := HQq.out.reads
        obtain ⟨N9, hN9⟩ : ∃ N, (p ++ [(ca, K, V)]).length = N := ⟨_, rfl⟩
        rw [hN9] at q0 hrow9 hb9 hS9
        have hgl9 := HQq.out.lt g HQq.out.sg
        have hrl9 := HRq.out.lt
        have HR9 := Lib.hid hrow9
        have HB9 := Lib.hid hb9
        have HS9 := Lib.hid hS9
        have HN9 := Lib.hid hN9
        have HG9 := Lib.hid hgl9
        have hf9 : wq.frozen? ⟨g, 0, none⟩ = false := frozen_of hb9 _
        have HX9 : Hid (∀ W : World, W.heap.size = wq.heap.size → ∀ ty, Rd cR 3 (W.alloc (.cells #[.int .i64 X, .int .i64 Y, .bool D] ty)) (some ⟨wq.heap.size, 0, none⟩) [(X, Y, D)]) := fun W hW ty => rd_one cR_len (by rw [← hW]; exact heap_alloc_new _ _)
        clear hrow9 hb9 hS9 hN9
        have HNE9 : Hid ((Value.slice A9 N9 c9).ownBlock ≠ some g) := fun e => (HS9.out g e).2 rfl
        have HGB9 : Hid (∀ w' : World, wq.grownBy w' (Value.slice A9 N9 c9).ownBlock → w'.heap[g]? = wq.heap[g]?) := fun w' h => h.block g HG9.out fun e => HNE9.out e.symm
        obtain ⟨s0, s1, s2⟩ := HRq.out.three
        go_region_law (refine step_rows kdR wq rfl (.tmp 56) (.tmp 58) rfl (.slice A9 N9 c9) (p ++ [(ca, K, V)]) (by simp [Act.eval]) HR9.out (by first | exact below_alloc _ _ | exact below_drew (below_alloc _ _)) (some ⟨wq.heap.size, 0, none⟩) 1 1 [(X, Y, D)] rfl (by simp [Act.eval]) (by first | exact HX9.out _ rfl _) (by rw [List.length_append, List.length_singleton]; omega) (Nat.zero_le _) ?_; intro A' n' c' w' hn' hr' hk' hg' hat'; have HN' := Lib.hid hn'; have HR' := Lib.hid hr'; have HG' := Lib.hid hg'; have HAT' := Lib.hid hat'; have HK' := Lib.hid (HGB9.out w' hg'); clear hn' hr' hk' hg' hat'; have y1 : w'.cell? ⟨g, 0, none⟩ = some (.slice A9 N9 c9) := (World.cell?_of_block (a := ⟨g, 0, none⟩) HK'.out).trans q0; have f1 : w'.frozen? ⟨g, 0, none⟩ = false := frozen_of (HK'.out.trans HB9.out) _)
        all_goals (
          have HD9 : Hid (∃ S', Nm (w'.setCell ⟨g, 0, none⟩ (.slice A' n' c')) g S' (p ++ [(ca, K, V)] ++ [(X, Y, D)]) ∧ (∀ k, S' k → S k ∨ wq.heap.size ≤ k) ∧ Off S wq (w'.setCell ⟨g, 0, none⟩ (.slice A' n' c'))) := HQq.out.pushed HB9.out HS9.out HR'.out HG'.out HAT'.out
          clear s0 s1 s2 q0 hf9
          go_wp2_with fail
          refine bodyPost_ret (ret_unit rfl _ _) rfl ⟨rfl, ?_⟩
          obtain ⟨S', hq', hs', hof'⟩ := HD9.out
          refine ⟨S', by rw [HX0.out]; exact hq', fun k hk => (hs' k hk).imp_right fun h => Nat.le_trans HOW.out.size h, HOW.out.trans hof' fun x e => Or.inl e⟩)
      | false =>
        obtain ⟨D, hD⟩ : ∃ D, decide (1 < Y) = D := ⟨_, rfl⟩
        have HX0 : Hid (M' = (p ++ [(ca, K, V)]) ++ [(X, Y, false)]) := Lib.hid (by rw [HX1.out, Bool.false_and])
        go_upto_region 8 with fail
        generalize hwq : wf.setCell ⟨w.heap.size, 2, none⟩ (.bool false) = wq
        have HO2 : Hid (Off (fun k => k = w.heap.size) wf wq) := hwq ▸ (Off.refl (fun k => k = w.heap.size) wf).set (Or.inl rfl) _
        have HRq : Hid (Cel wq w.heap.size [.int .i64 X, .int .i64 Y, .bool false]) := hwq ▸ HRf.out.set 2 _
        have HQq : Hid (Nm wq g S (p ++ [(ca, K, V)])) := HQf.out.off HO2.out HHd.out
        have HOW : Hid (Off S w wq) := HWf.out.trans HO2.out fun x e => Or.inr (by rw [e]; exact Nat.le_refl _)
        clear hwq r0 r1 r2 f0 f1 f2
        obtain ⟨A9, c9, q0, hrow9, hb9, hS9, -⟩ := HQq.out.reads
        obtain ⟨N9, hN9⟩ : ∃ N, (p ++ [(ca, K, V)]).length = N := ⟨_, rfl⟩
        rw [hN9] at q0 hrow9 hb9 hS9
        have hgl9 := HQq.out.lt g HQq.out.sg
        have hrl9 := HRq.out.lt
        have HR9 := Lib.hid hrow9
        have HB9 := Lib.hid hb9
        have HS9 := Lib.hid hS9
        have HN9 := Lib.hid hN9
        have HG9 := Lib.hid hgl9
        have hf9 : wq.frozen? ⟨g, 0, none⟩ = false := frozen_of hb9 _
        have HX9 : Hid (∀ W : World, W.heap.size = wq.heap.size → ∀ ty, Rd cR 3 (W.alloc (.cells #[.int .i64 X, .int .i64 Y, .bool false] ty)) (some ⟨wq.heap.size, 0, none⟩) [(X, Y, false)]) := fun W hW ty => rd_one cR_len (by rw [← hW]; exact heap_alloc_new _ _)
        clear hrow9 hb9 hS9 hN9
        have HNE9 : Hid ((Value.slice A9 N9 c9).ownBlock ≠ some g) := fun e => (HS9.out g e).2 rfl
        have HGB9 : Hid (∀ w' : World, wq.grownBy w' (Value.slice A9 N9 c9).ownBlock → w'.heap[g]? = wq.heap[g]?) := fun w' h => h.block g HG9.out fun e => HNE9.out e.symm
        obtain ⟨s0, s1, s2⟩ := HRq.out.three
        go_region_law (refine step_rows kdR wq rfl (.tmp 56) (.tmp 58) rfl (.slice A9 N9 c9) (p ++ [(ca, K, V)]) (by simp [Act.eval]) HR9.out (by first | exact below_alloc _ _ | exact below_drew (below_alloc _ _)) (some ⟨wq.heap.size, 0, none⟩) 1 1 [(X, Y, false)] rfl (by simp [Act.eval]) (by first | exact HX9.out _ rfl _) (by rw [List.length_append, List.length_singleton]; omega) (Nat.zero_le _) ?_; intro A' n' c' w' hn' hr' hk' hg' hat'; have HN' := Lib.hid hn'; have HR' := Lib.hid hr'; have HG' := Lib.hid hg'; have HAT' := Lib.hid hat'; have HK' := Lib.hid (HGB9.out w' hg'); clear hn' hr' hk' hg' hat'; have y1 : w'.cell? ⟨g, 0, none⟩ = some (.slice A9 N9 c9) := (World.cell?_of_block (a := ⟨g, 0, none⟩) HK'.out).trans q0; have f1 : w'.frozen? ⟨g, 0, none⟩ = false := frozen_of (HK'.out.trans HB9.out) _)
        all_goals (
          have HD9 : Hid (∃ S', Nm (w'.setCell ⟨g, 0, none⟩ (.slice A' n' c')) g S' (p ++ [(ca, K, V)] ++ [(X, Y, false)]) ∧ (∀ k, S' k → S k ∨ wq.heap.size ≤ k) ∧ Off S wq (w'.setCell ⟨g, 0, none⟩ (.slice A' n' c'))) := HQq.out.pushed HB9.out HS9.out HR'.out HG'.out HAT'.out
          clear s0 s1 s2 q0 hf9
          go_wp2_with fail
          refine bodyPost_ret (ret_unit rfl _ _) rfl ⟨rfl, ?_⟩
          obtain ⟨S', hq', hs', hof'⟩ := HD9.out
          refine ⟨S', by rw [HX0.out]; exact hq', fun k hk => (hs' k hk).imp_right fun h => Nat.le_trans HOW.out.size h, HOW.out.trans hof' fun x e => Or.inl e⟩)


#print axioms add_nil_t
#print axioms add_cons
end Go.Proofs.Ytnblpooimgpgoaa.Iso
