/- Contracts of the laws' own functions all, none, same. -/
import Derived.Test.YtbmedekfhifcpaaIdentH
import Derived.Deep.QuietTactic
import Derived.BigQuiet
namespace Go.Proofs.Ytbmedekfhifcpaa.Ident
open Go.ChangeShapes Go.WideShapes Go.RowKit Go.Lib
set_option linter.unusedVariables false
set_option maxRecDepth 100000

theorem run_equalIn_fn_nil {P : Program} (W : World) (d : Nat) (t : TypeId) (x y z) (h : P.underlying t = some (.func x y z)) (fn : Fn) (a cap : Array Value) : (Op.equalIn (d + 1) t (.func fn a cap) .nilFunc).run P W = .ok false W := by
  simp [Op.equalIn, run_underlying h]
theorem run_eql_fn_nil {P : Program} (W : World) (t : TypeId) (x y z) (h : P.underlying t = some (.func x y z)) (fn : Fn) (a cap : Array Value) : (binOp .eql t (.func fn a cap) .nilFunc).run P W = .ok (.bool false) W := by
  simp only [binOp]
  simp [Op.equal, Op.maxDepth, run_equalIn_fn_nil W 9999 t x y z h]
/-- A function that was made is not nil. -/
theorem seq_nil (fn : Fn) (a cap : Array Value) (W : World) : (binOp .eql 50 (.func fn a cap) .nilFunc).run Try.prog W = .ok (.bool false) W :=
  run_eql_fn_nil W _ _ _ _ Try.underlying50 fn a cap
def iota (n : Nat) : List Int := (List.range n).map fun k : Nat => (k : Int)
theorem iota_succ (n : Nat) : iota (n + 1) = iota n ++ [(n : Int)] := by simp [iota, List.range_succ]
theorem iota_len (n : Nat) : (iota n).length = n := by simp [iota]
theorem iota_at {n k : Nat} (h : k < n) : (iota n)[k]? = some (k : Int) := by simp [iota, h]
/-- What a table's All does: the iterator over its names. -/
def AllOf (p : Value) (L : List ByteArray) (w : World) : Prop :=
  ∀ W, Below w.heap.size w W → Calls Try.prog 25 #[p] W fun e w' => ∃ g, e = .returned (.func (.func 33) #[] #[.pointer (some ⟨g, 0, none⟩)]) ∧ Cl w' W.heap.size g L ∧ Below W.heap.size W w'
theorem Tb.allOf {w : World} {b : Nat} {S : Nat → Prop} {L : List ByteArray} (h : Tb w b S L) : AllOf (.pointer (some ⟨b, 0, none⟩)) L w := fun W hb => ident_All (h.on hb)
theorem nil_allOf (w : World) : AllOf (.pointer none) [] w := fun W hb => ident_All_nil W
theorem new_cells (w : World) (v : Value) (t : TypeId) {g : Nat} (hg : w.heap.size = g) : (w.alloc (.cells #[v] t)).heap[g]? = some (.cells #[v] t (0, 0)) := hg ▸ heap_alloc_new w _

set_option maxHeartbeats 1600000 in
theorem is_all (p : Value) (L : List ByteArray) (most : Int) (w : World) (hA : AllOf p L w) (hl : L.length ≤ 512) (hmost : (L.length : Int) < most) :
    Calls Try.prog 31 #[p, .int .i64 most] w fun e w' => ∃ A1 c1 A2 c2, e = .returned (.tuple #[.slice A1 L.length c1, .slice A2 L.length c2]) ∧ Ints w' A1 (iota L.length) ∧ Strs w' A2 L ∧ Below w.heap.size w w' := by
  have hmf : ∀ (fn : Fn) (first cap : Array Value) (w : World), (Instr.makeFunc fn first cap).run Try.prog w = .ok (.func fn first cap) w := fun _ _ _ _ => rfl
  obtain ⟨w3, hw3⟩ : ∃ w3, w3 = ((w.alloc (.cells #[.int .i64 most] 3)).alloc (.cells #[.slice none 0 0] 64)).alloc (.cells #[.slice none 0 0] 24) := ⟨_, rfl⟩
  have hb3 : Below w.heap.size w w3 := by rw [hw3]; exact (((Below.refl _ _).alloc (Nat.le_refl _) _).alloc (by simp) _).alloc (by simp; omega) _
  have hs3 : w3.heap.size = w.heap.size + 3 := by rw [hw3]; simp
  have hc0 : w3.heap[w.heap.size]? = some (.cells #[.int .i64 most] 3 (0, 0)) := by
    rw [hw3, Below.heap_alloc _ _ _ (by simp; omega), Below.heap_alloc _ _ _ (by simp)]; exact new_cells _ _ _ rfl
  have hc1 : w3.heap[w.heap.size + 1]? = some (.cells #[.slice none 0 0] 64 (0, 0)) := by
    rw [hw3, Below.heap_alloc _ _ _ (by simp)]; exact new_cells _ _ _ (by simp)
  have hc2 : w3.heap[w.heap.size + 1 + 1]? = some (.cells #[.slice none 0 0] 24 (0, 0)) := by
    rw [hw3]; exact new_cells _ _ _ (by simp)
  have HA := Lib.hid (hA w3 hb3)
  have HB3 := Lib.hid hb3
  have HS3 := Lib.hid hs3
  have HC0 := Lib.hid hc0
  have HC1 := Lib.hid hc1
  have HC2 := Lib.hid hc2
  have HW := Lib.hid hw3
  clear hA hb3 hs3 hc0 hc1 hc2 hw3
  go_enter Try.func31, Try.ntmps31
  go_wp2_with fail
  rw [← HW.out]
  refine HA.out.mono ?_
  rintro e w1 ⟨g, rfl, hcl, hbel⟩
  have hsz := hbel.size
  rw [HS3.out] at hsz hbel hcl
  have e0 : w1.heap[w.heap.size]? = some (.cells #[.int .i64 most] 3 (0, 0)) := (hbel.block _ (by omega)).trans HC0.out
  have e1 : w1.heap[w.heap.size + 1]? = some (.cells #[.slice none 0 0] 64 (0, 0)) := (hbel.block _ (by omega)).trans HC1.out
  have e2 : w1.heap[w.heap.size + 1 + 1]? = some (.cells #[.slice none 0 0] 24 (0, 0)) := (hbel.block _ (by omega)).trans HC2.out
  have HACC : Hid (Acc w1 w1 (w.heap.size + 1) (w.heap.size + 1 + 1) (.slice none 0 0) (.slice none 0 0) [] []) :=
    { hl := e1, hn := e2, o1 := OwnI.nil _, o2 := OwnS.nil _, b1 := (fun k hk => by cases hk), b2 := (fun k hk => by cases hk), ne := (fun k hk => by cases hk), off := Off.refl _ _, ltl := by omega, ltn := by omega, gg := by omega }
  have m0 : w1.cell? ⟨w.heap.size, 0, none⟩ = some (.int .i64 most) := by rw [cell_of_row _ _ _ _ _ _ e0]; rfl
  obtain ⟨hge, hgl, A, c, hcell, hstr, hAb⟩ := hcl
  have HRUN := Lib.hid (all_run 34 #[.pointer (some ⟨w.heap.size + 1, 0, none⟩), .pointer (some ⟨w.heap.size, 0, none⟩), .pointer (some ⟨w.heap.size + 1 + 1, 0, none⟩)]
    (enters_of Try.func34 (by kernel_rfl) rfl) L g A c w1 hl hcell (fun k wr => ∃ v1 v2, Acc w1 wr (w.heap.size + 1) (w.heap.size + 1 + 1) v1 v2 (iota k) (L.take k))
    (fun wr => ∃ v1 v2, Acc w1 wr (w.heap.size + 1) (w.heap.size + 1 + 1) v1 v2 (iota L.length) L)
    (fun k wr ⟨v1, v2, h⟩ => hstr.keep h.off.size fun b off e hb => h.off.block b hb fun hk => by have := hAb b off e; omega)
    (fun k s wr hs ⟨v1, v2, h⟩ => by
      have hk := lt_get hs
      have hlen : (L.take k).length = k := by rw [List.length_take]; omega
      refine (all_yield (k : Int) most s h m0 (by omega) (by omega) (by rw [iota_len]; omega) (by omega) (by rw [iota_len]; omega)).mono ?_
      rintro e w' ⟨rfl, v1', v2', h'⟩
      refine ⟨true, rfl, fun _ => ⟨v1', v2', ?_⟩, fun hf => by cases hf⟩
      rw [iota_succ, take_snoc_of hs]; exact h')
    (fun wr ⟨v1, v2, h⟩ => ⟨v1, v2, by rw [List.take_length] at h; exact h⟩)
    ⟨_, _, HACC.out⟩)
  have HB := Lib.hid hbel
  have HSZ := Lib.hid hsz
  have hsn := seq_nil (.func 33) #[] #[.pointer (some ⟨g, 0, none⟩)] w1
  clear hbel e0 e1 e2 hsz hstr hAb hcell
  go_wp2_with fail
  refine HRUN.out.mono ?_
  rintro e w' ⟨rfl, v1, v2, hacc⟩
  obtain ⟨A1, c1, rfl, hi⟩ := hacc.o1.one
  obtain ⟨A2, c2, rfl, -, -, hs2, -, -⟩ := hacc.o2.one
  obtain ⟨k1, k2, f1, f2⟩ := hacc.reads
  have HI := Lib.hid hi
  have HS2 := Lib.hid hs2
  have HACC2 := Lib.hid hacc
  rw [iota_len] at k1
  clear hacc hi hs2
  go_wp2_with fail
  go_quiet (fail)
  go_wp2_with fail
  go_ret2
  refine ⟨A1, c1, A2, c2, rfl, HI.out.on (below_drewN (Below.refl _ _) _), HS2.out.on (below_drewN (Below.refl _ _) _), below_drewN ?_ _⟩
  refine HB3.out.trans ((HB.out.mono (by omega)).trans (HACC2.out.off.below (by have := HSZ.out; omega) fun x hx => by omega))
#print axioms is_all
end Go.Proofs.Ytbmedekfhifcpaa.Ident
