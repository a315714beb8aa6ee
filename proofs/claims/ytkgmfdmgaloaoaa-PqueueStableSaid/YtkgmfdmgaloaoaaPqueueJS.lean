/- New, Len, Push. -/
import Derived.Test.YtkgmfdmgaloaoaaPqueueGS
import Derived.Test.YtkgmfdmgaloaoaaPqueueH
namespace Go.Proofs.Ytkgmfdmgaloaoaa.PqueueS
open Go.ChangeShapes Go.WideShapes Go.RowKit Go.Lib Go.Proofs.Ytkgmfdmgaloaoaa.Pqueue
set_option linter.unusedVariables false
set_option maxRecDepth 100000

theorem info_e : (Try.prog.info? TE).map (fun i => (i.zero, i.size, i.bytes)) = some (some (.agg #[.string ByteArray.empty, .int .i64 0]), 2, 24) := by kernel_rfl
theorem info_v : (Try.prog.info? TV).map (fun i => (i.zero, i.size, i.bytes)) = some (some (.string ByteArray.empty), 1, 16) := by kernel_rfl
abbrev zV : ByteArray := ByteArray.empty
theorem kdE : Kd cE 2 65 TE := by
  obtain ⟨i, h1, h2, h3, h4⟩ := info_parts info_e
  exact ⟨Try.underlying65, ⟨i, _, _, h1, h2, h3, rfl, rfl, by rw [h4]; decide⟩, cE_len, by decide, fun z u hu => by
    simp at hu
    rcases hu with h | h <;> subst h <;> rfl⟩
theorem kdV : Kd cV 1 49 TV := by
  obtain ⟨i, h1, h2, h3, h4⟩ := info_parts info_v
  exact ⟨Try.underlying49, ⟨i, _, _, h1, h2, h3, rfl, rfl, by rw [h4]; decide⟩, cV_len, by decide, fun z u hu => by
    simp at hu
    subst hu; rfl⟩
theorem fn_nil (fn : Fn) (a cap : Array Value) (W : World) : (binOp .eql 52 (.func fn a cap) .nilFunc).run Try.prog W = .ok (.bool false) W :=
  run_eql_fn_nil W _ _ _ _ Try.underlying52 fn a cap
theorem nil_nil (W : World) : (binOp .eql 52 .nilFunc .nilFunc).run Try.prog W = .ok (.bool true) W :=
  run_eql_fnil_fnil W _ _ _ _ Try.underlying52

/-- A new queue. -/
def NewP (w : World) (n : Nat) (e : Ending) (w' : World) : Prop := e = .returned (.pointer (some ⟨w.heap.size, 0, none⟩)) ∧ Qu w' w.heap.size (fun k => k = w.heap.size) n [] 0 ∧ Below w.heap.size w w'
theorem q_New (n : Nat) (w : World) : Calls Try.prog 26 #[.func (.func n) #[] #[]] w (NewP w n) := by
  have hn := fn_nil (.func n) #[] #[]
  go_enter Try.func26, Try.ntmps26
  go_wp2_with fail
  go_ret
  exact ⟨rfl, ⟨rfl, fun k hk => by subst hk; simp, .slice none 0 0, heap_alloc_new _ _, Row.nil _ _ _ _ _, fun h e => by cases e⟩, below_alloc _ _⟩
theorem q_New_nil (w : World) : Calls Try.prog 26 #[.nilFunc] w fun e w' => e = .returned (.pointer none) ∧ w = w' := by
  have hn := nil_nil
  go_enter Try.func26, Try.ntmps26
  go_wp2_with fail
  go_ret
  exact ⟨rfl, rfl⟩
theorem q_Len {w : World} {g n p : Nat} {S : Nat → Prop} {L : List (ByteArray × Nat)} (hq : Qu w g S n L p) : Calls Try.prog 39 #[.pointer (some ⟨g, 0, none⟩)] w fun e w' => e = .returned (.int .i64 (L.length : Int)) ∧ w = w' := by
  obtain ⟨A, c, c0, c1, c2, -, -, -, -⟩ := hq.reads
  clear hq
  go_enter Try.func39, Try.ntmps39
  go_wp2_with fail
  go_ret
  exact ⟨rfl, rfl⟩
theorem q_Len_nil (w : World) : Calls Try.prog 39 #[.pointer none] w fun e w' => e = .returned (.int .i64 0) ∧ w = w' := by
  go_enter Try.func39, Try.ntmps39
  go_wp2_with fail
  go_ret
  exact ⟨rfl, rfl⟩
theorem q_Push_nil (x : ByteArray) (w : World) : Calls Try.prog 28 #[.pointer none, eV x] w fun e w' => e = .returned (.tuple #[]) ∧ Below w.heap.size w w' := by
  go_enter Try.func28, Try.ntmps28
  go_wp2_with fail
  (try simp only [Exit.inBlock, Exit.then])
  refine bodyPost_ret (results_none rfl _ _ _) rfl ?_
  exact ⟨rfl, Below.refl _ _⟩
/-- One entry more, at the end; not yet risen. -/
theorem Qu.pushed {w w' : World} {g n p m c : Nat} {S : Nat → Prop} {L : List (ByteArray × Nat)} {A A' : Option Addr} {n' c' : Nat} {x : ByteArray} (hq : Qu w g S n L p)
    (hb : w.heap[g]? = some (.cells #[.func (.func n) #[] #[], .slice A m c, .int .i64 (p : Int)] TQ (0, 0))) (hS : ∀ h, (Value.slice A m c).ownBlock = some h → S h ∧ h ≠ g)
    (hr : Row cE 2 TE 0 w' (.slice A' n' c') (L ++ [(x, p)])) (hg : w.grownBy w' (Value.slice A m c).ownBlock) (hat : (Value.slice A' n' c').ownBlock = (Value.slice A m c).ownBlock ∨ ∃ h, (Value.slice A' n' c').ownBlock = some h ∧ w.heap.size ≤ h) :
    ∃ S', Qu ((w'.setCell ⟨g, 1, none⟩ (.slice A' n' c')).setCell ⟨g, 2, none⟩ (.int .i64 ((p : Int) + 1))) g S' n (L ++ [(x, p)]) (p + 1) ∧ (∀ k, S' k → S k ∨ w.heap.size ≤ k) ∧
      Off S w ((w'.setCell ⟨g, 1, none⟩ (.slice A' n' c')).setCell ⟨g, 2, none⟩ (.int .i64 ((p : Int) + 1))) := by
  have hgl := hq.lt g hq.sg
  have hkb : w'.heap[g]? = some (.cells #[.func (.func n) #[] #[], .slice A m c, .int .i64 (p : Int)] TQ (0, 0)) := (hg.block g hgl fun e => (hS g e.symm).2 rfl).trans hb
  have hsz : ∀ W : World, ∀ a u b v, ((W.setCell a u).setCell b v).heap.size = W.heap.size := fun W a u b v => by simp [World.setCell]
  have hnew : ∀ h, (Value.slice A' n' c').ownBlock = some h → (S h ∨ w.heap.size ≤ h) ∧ h ≠ g ∧ h < w'.heap.size := fun h e => by
    refine ⟨?_, ?_, (hr.lt h e).2⟩
    · rcases hat with h1 | ⟨k, h1, h2⟩
      · rw [h1] at e; exact Or.inl (hS h e).1
      · rw [h1] at e; cases e; exact Or.inr h2
    · rcases hat with h1 | ⟨k, h1, h2⟩
      · rw [h1] at e; exact (hS h e).2
      · rw [h1] at e; cases e; omega
  have hoff : Off S w w' := (Off.refl S w).grown hg fun k e => Or.inl (hS k e).1
  refine ⟨fun k => S k ∨ (Value.slice A' n' c').ownBlock = some k, ⟨Or.inl hq.sg, fun k hk => ?_, .slice A' n' c', ?_, ?_, fun h e => ⟨Or.inr e, (hnew h e).2.1⟩⟩, fun k hk => ?_, ?_⟩
  · rw [hsz]
    rcases hk with hk | hk
    · exact Nat.lt_of_lt_of_le (hq.lt k hk) hg.size
    · exact (hnew k hk).2.2
  · rw [heap_setCell_same _ g 2 _ _ _ (heap_setCell_same _ g 1 _ _ _ hkb)]
    simp
  · exact hr.keep fun k e => (Below.heap_setCell _ _ _ _ (hnew k e).2.1).trans (Below.heap_setCell _ _ _ _ (hnew k e).2.1)
  · rcases hk with hk | hk
    · exact Or.inl hk
    · exact (hnew k hk).1
  · exact (hoff.set (p := ⟨g, 1, none⟩) (Or.inl hq.sg) _).set (p := ⟨g, 2, none⟩) (Or.inl hq.sg) _
#print axioms Qu.pushed
end Go.Proofs.Ytkgmfdmgaloaoaa.PqueueS
