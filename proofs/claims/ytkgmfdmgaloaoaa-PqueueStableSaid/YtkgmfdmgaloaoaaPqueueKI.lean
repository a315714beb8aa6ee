/- Push. -/
import Derived.Test.YtkgmfdmgaloaoaaPqueueJI
namespace Go.Proofs.Ytkgmfdmgaloaoaa.PqueueI
open Go.ChangeShapes Go.WideShapes Go.RowKit Go.Lib Go.Proofs.Ytkgmfdmgaloaoaa.Pqueue
set_option linter.unusedVariables false
set_option maxRecDepth 100000

/-- What Push leaves. -/
def PushP (w : World) (g n p : Nat) (S : Nat → Prop) (lt : It → It → Bool) (L : List (It × Nat)) (x : It) (e : Ending) (w' : World) : Prop :=
  e = .returned (.tuple #[]) ∧ ∃ M S', Rise lt (L ++ [(x, p)]) L.length M ∧ Qu w' g S' n M (p + 1) ∧ (∀ k, S' k → S k ∨ w.heap.size ≤ k) ∧ Off S w w'

set_option maxHeartbeats 1600000 in
theorem q_Push {w : World} {g n p : Nat} {S : Nat → Prop} {L : List (It × Nat)} {lt : It → It → Bool} (hq : Qu w g S n L p) (ho : Ord n lt) (hm : L.length ≤ 900000) (hp : p ≤ 1000000) (x : It) :
    Calls Try.prog 13 #[.pointer (some ⟨g, 0, none⟩), eV x] w (PushP w g n p S lt L x) := by
  have HQ0 := Lib.hid hq
  have HO := Lib.hid ho
  have HM := Lib.hid hm
  have HP := Lib.hid hp
  clear hq ho
  go_enter Try.func13, Try.ntmps13
  go_upto_region 2 with fail
  generalize hw1 : w.alloc (.cells #[.int .i64 x.1, .int .i64 x.2] TV) = w1
  have HB1 : Hid (Below w.heap.size w w1) := hw1 ▸ below_alloc _ _
  have x0 : w1.cell? ⟨w.heap.size, 0, none⟩ = some (.int .i64 x.1) := by subst hw1; simp
  have x1 : w1.cell? ⟨w.heap.size, 1, none⟩ = some (.int .i64 x.2) := by subst hw1; simp
  clear hw1
  have HQ := Lib.hid (HQ0.out.on HB1.out)
  obtain ⟨A, c, c0, c1, c2, hrow, hb, hS, -⟩ := HQ.out.reads
  obtain ⟨N, hN⟩ : ∃ N, L.length = N := ⟨_, rfl⟩
  rw [hN] at c1 hrow hb hS hm
  have hgl := HQ.out.lt g HQ.out.sg
  have HR := Lib.hid hrow
  have HBL := Lib.hid hb
  have HS := Lib.hid hS
  have HN := Lib.hid hN
  have HGL := Lib.hid hgl
  have hf1 : w1.frozen? ⟨g, 1, none⟩ = false := frozen_of hb _
  have HX : Hid (∀ W : World, W.heap.size = w1.heap.size → ∀ ty, Rd cE 3 (W.alloc (.cells #[.int .i64 (x, p).1.1, .int .i64 (x, p).1.2, .int .i64 ((x, p).2 : Int)] ty)) (some ⟨w1.heap.size, 0, none⟩) [(x, p)]) := fun W hW ty => rd_one cE_len (by rw [← hW]; exact heap_alloc_new _ _)
  clear hrow hb hS hN
  have HNE : Hid ((Value.slice A N c).ownBlock ≠ some g) := fun e => (HS.out g e).2 rfl
  have HGB : Hid (∀ w' : World, w1.grownBy w' (Value.slice A N c).ownBlock → w'.heap[g]? = w1.heap[g]?) := fun w' h => h.block g HGL.out fun e => HNE.out e.symm
  go_region_law (refine step_rows kdE w1 rfl (.tmp 10) (.tmp 17) rfl (.slice A N c) L (by simp [Act.eval]) HR.out (by first | exact below_alloc _ _ | exact below_drew (below_alloc _ _)) (some ⟨w1.heap.size, 0, none⟩) 1 1 [(x, p)] rfl (by simp [Act.eval]) (by first | exact HX.out _ rfl _) (by rw [HN.out]; omega) (Nat.zero_le _) ?_; intro A' n' c' w' hn' hr' hk' hg' hat'; have HN' := Lib.hid hn'; have HR' := Lib.hid hr'; have HG' := Lib.hid hg'; have HAT' := Lib.hid hat'; have HK' := Lib.hid (HGB.out w' hg'); clear hn' hr' hk' hg' hat'; have y1 : w'.cell? ⟨g, 1, none⟩ = some (.slice A N c) := (World.cell?_of_block (a := ⟨g, 1, none⟩) HK'.out).trans c1; have y2 : w'.cell? ⟨g, 2, none⟩ = some (.int .i64 (p : Int)) := (World.cell?_of_block (a := ⟨g, 2, none⟩) HK'.out).trans c2; have f1 : w'.frozen? ⟨g, 1, none⟩ = false := frozen_of (HK'.out.trans HBL.out) _; have f2 : w'.frozen? ⟨g, 2, none⟩ = false := frozen_of (HK'.out.trans HBL.out) _)
  all_goals (
    have HD : Hid (∃ S', Qu ((w'.setCell ⟨g, 1, none⟩ (.slice A' n' c')).setCell ⟨g, 2, none⟩ (.int .i64 ((p : Int) + 1))) g S' n (L ++ [(x, p)]) (p + 1) ∧ (∀ k, S' k → S k ∨ w1.heap.size ≤ k) ∧
      Off S w1 ((w'.setCell ⟨g, 1, none⟩ (.slice A' n' c')).setCell ⟨g, 2, none⟩ (.int .i64 ((p : Int) + 1)))) := HQ.out.pushed HBL.out HS.out HR'.out HG'.out HAT'.out
    have hq1 : (n' : Int) - 1 = (N : Int) := by have := HN'.out; have := HN.out; omega
    have hq2 : (n' : Int) ≤ 1000000 := by have := HN'.out; have := HN.out; omega
    have hq3 : (1 : Int) ≤ (n' : Int) := by have := HN'.out; have := HN.out; omega
    have hp' : (p : Int) ≤ 1000000 := by omega
    clear c0 c1 c2 hf1
    go_wp2_with fail
    obtain ⟨S', hq', hs', hof'⟩ := HD.out
    have HQ' := Lib.hid hq'
    have HS' := Lib.hid hs'
    have HOF := Lib.hid hof'
    clear hq' hs' hof' y1 y2 f1 f2
    refine (q_rise HQ'.out HO.out (by rw [List.length_append, List.length_singleton]; have := HM.out; omega) (i := N) (by rw [List.length_append, List.length_singleton]; have := HN.out; omega)).mono ?_
    rintro e w9 ⟨rfl, M, hr9, hq9, ho9⟩
    have HR9 := Lib.hid hr9
    have HQ9 := Lib.hid hq9
    have HO9 := Lib.hid ho9
    clear hr9 hq9 ho9
    go_wp2_with fail
    go_end0
    refine ⟨rfl, M, S', by rw [HN.out]; exact HR9.out, HQ9.out, fun k hk => (HS'.out k hk).imp_right fun h => Nat.le_trans HB1.out.size h, ?_⟩
    exact Off.before HB1.out (HOF.out.trans HO9.out HS'.out))
#print axioms q_Push
end Go.Proofs.Ytkgmfdmgaloaoaa.PqueueI
