/- Contract of span.ends: the ends of two lists in ascending order. -/
import Derived.Test.YtccbnobpighckaaSpanE
import Derived.Laws.MakeOwn
namespace Go.Proofs.Ytccbnobpighckaa.Span
open Go.ChangeShapes Go.WideShapes Go.RowKit Go.Lib Go.Proofs
open Go.Sort (HoldsK SWO PermIn SortedIn grow putRowK grow_grow alloc_eq_grow)
set_option linter.unusedVariables false
set_option maxRecDepth 100000

def encE (e : En) : List Value := [.int .i64 e.1, .int .i64 e.2.1, .int .i64 e.2.2]
def cellsE (D : List En) : List Value := D.flatMap encE
theorem cellsE_append (D F : List En) : cellsE (D ++ F) = cellsE D ++ cellsE F := by simp [cellsE]
theorem cellsE_at {D : List En} {k : Nat} {e : En} (h : D[k]? = some e) : (cellsE D)[k * 3]? = some (.int .i64 e.1) ∧ (cellsE D)[k * 3 + 1]? = some (.int .i64 e.2.1) ∧ (cellsE D)[k * 3 + 2]? = some (.int .i64 e.2.2) := by
  induction D generalizing k with
  | nil => simp at h
  | cons t D ih =>
    have e : cellsE (t :: D) = .int .i64 t.1 :: .int .i64 t.2.1 :: .int .i64 t.2.2 :: cellsE D := rfl
    rw [e]
    cases k with
    | zero => simp at h; subst h; exact ⟨rfl, rfl, rfl⟩
    | succ k =>
      have := ih (k := k) (by simpa using h)
      rw [show (k + 1) * 3 = k * 3 + 1 + 1 + 1 by omega]
      simpa using this
theorem info_end : (Try.prog.info? 119).map (fun i => (i.zero, i.size, i.bytes)) = some (some (.agg #[.int .i64 0, .int .i64 0, .int .i64 0]), 3, 24) := by kernel_rfl
/-- A slice of the call's own that holds the ends D; it is not nil. -/
def OwnE (w : World) (base : Nat) (v : Value) (D : List En) : Prop := w.ownsRow base 119 3 v D.length (cellsE D) ∧ v ≠ .slice none 0 0
theorem OwnE.alloc {w : World} {base : Nat} {v : Value} {D : List En} (h : OwnE w base v D) (o : Obj) : OwnE (w.alloc o) base v D := ⟨World.ownsRow.alloc h.1 o, h.2⟩
theorem OwnE.ge {w : World} {base : Nat} {v : Value} {D : List En} (h : OwnE w base v D) : ∀ k, v.ownBlock = some k → base ≤ k := by
  obtain ⟨⟨h1, ⟨rfl, h2⟩ | ⟨g, cap, cur, rfl, h2, _⟩⟩, _⟩ := h
  · intro k hk; cases hk
  · intro k hk; obtain rfl : g = k := by simpa [Value.ownBlock] using hk
    exact h2

/-! ### The sort -/
theorem ltAt (x y : En) : ltOf (fun x y : En => Lib.compareInt x.1 y.1) x y = decide (x.1 < y.1) := by
  unfold ltOf Lib.compareInt
  by_cases h1 : x.1 < y.1
  · simp [h1]
  · by_cases h2 : y.1 < x.1 <;> simp [h1, h2]
theorem swoAt : SWO (ltOf fun x y : En => Lib.compareInt x.1 y.1) where
  irrefl x := by rw [ltAt]; simp
  trans x y z h1 h2 := by rw [ltAt] at *; simp at *; omega
  ntrans x y z h1 h2 := by rw [ltAt] at *; simp at *; omega
set_option maxHeartbeats 1000000 in
theorem ends_closure (x y : En) (W : World) : Calls Try.prog 110 #[.agg #[.int .i64 x.1, .int .i64 x.2.1, .int .i64 x.2.2], .agg #[.int .i64 y.1, .int .i64 y.2.1, .int .i64 y.2.2]] W fun e w' => e = .returned (.int .i64 (Lib.compareInt x.1 y.1)) ∧ ∃ q os', w' = grow (W.drewN q) os' := by
  have hcon := fun W' => Try.cmp_Compare_int x.1 y.1 W'
  generalize Lib.compareInt x.1 y.1 = r at hcon ⊢
  go_enter Try.func110, Try.ntmps110
  go_wp2_with (go_at_call 54; refine (hcon _).mono ?_; rintro e w' ⟨rfl, rfl⟩)
  go_ret
  exact ⟨rfl, 0, _, by rw [alloc_eq_grow, alloc_eq_grow, grow_grow]; rfl⟩
theorem ends_cmp (blk off size : Nat) (w : World) : CmpLays Try.prog 110 #[] encE 3 (fun x y => Lib.compareInt x.1 y.1) blk off size w :=
  fun _ _ _ _ x y => ends_closure x y _
theorem sort_block (w : World) (blk off n : Nat) (d : Array En) (os : Array Obj) (k : Nat) (hk : k < w.heap.size) (hne : k ≠ blk) : (sortWorldK encE 3 w blk off n d os).heap[k]? = w.heap[k]? := by
  unfold sortWorldK
  rw [Go.Sort.heap_grow_old _ _ (by unfold putRowK Go.Sort.putRow Go.Sort.mapBlock; simpa using hk)]
  unfold putRowK Go.Sort.putRow Go.Sort.mapBlock
  simp only [Array.getElem?_modify]
  rw [if_neg (fun e => hne e.symm)]; rfl
/-- The ends E lie in block g. -/
def Ens (w : World) (g : Nat) (E : List En) : Prop :=
  g < w.heap.size ∧ ∀ (k : Nat) (e : En), E[k]? = some e → w.cell? ⟨g, k * 3, none⟩ = some (.int .i64 e.1) ∧ w.cell? ⟨g, k * 3 + 1, none⟩ = some (.int .i64 e.2.1) ∧ w.cell? ⟨g, k * 3 + 2, none⟩ = some (.int .i64 e.2.2)
theorem Ens.keep {w w' : World} {g : Nat} {E : List En} (h : Ens w g E) (hs : w.heap.size ≤ w'.heap.size) (hk : w'.heap[g]? = w.heap[g]?) : Ens w' g E := by
  refine ⟨Nat.lt_of_lt_of_le h.1 hs, fun k e he => ?_⟩
  obtain ⟨h0, h1, h2⟩ := h.2 k e he
  exact ⟨(World.cell?_of_block (a := ⟨g, k * 3, none⟩) hk).trans h0, (World.cell?_of_block (a := ⟨g, k * 3 + 1, none⟩) hk).trans h1, (World.cell?_of_block (a := ⟨g, k * 3 + 2, none⟩) hk).trans h2⟩
theorem Ens.on {w w' : World} {g : Nat} {E : List En} (h : Ens w g E) (hb : Below w.heap.size w w') : Ens w' g E := h.keep hb.size (hb.block g h.1)
theorem ends_sort (D : List En) (v : Value) (base : Nat) (w : World) (ho : OwnE w base v D) (hl : D.length ≤ 1000000) :
    Calls Try.prog 109 #[v, .func (.func 110) #[] #[]] w fun e w' => e = .returned (.tuple #[]) ∧ ∃ E g cap, v = .slice (some ⟨g, 0, none⟩) E.length cap ∧ base ≤ g ∧ E.Perm D ∧ (∀ (i j : Nat) (e e' : En), i < j → E[i]? = some e → E[j]? = some e' → e.1 ≤ e'.1) ∧ Ens w' g E ∧ w.grownBy w' (some g) := by
  obtain ⟨⟨h1, ⟨rfl, _⟩ | ⟨g, cap, cur, rfl, h2, h3, h4, h5, h6, h7⟩⟩, hne⟩ := ho
  · exact absurd rfl hne
  have hg : g < w.heap.size := (Array.getElem?_eq_some_iff.mp h3).1
  have hH : HoldsK encE 3 w g 0 D.toArray := by
    intro j hj
    have hj' : j < D.length * 3 := by simpa using hj
    refine ⟨?_, by simp [World.frozen?, h3]⟩
    rw [Nat.zero_add, cell_of_row w g j cur _ (0, 0) h3, Go.Sort.get_flatK _ _ _ _ (by simpa using hj')]
    have hq : j / 3 < D.length := by omega
    have e1 : D.toArray[j / 3]! = D[j / 3] := by simp [hq]
    rw [e1]
    have e3 : ∀ i u, i < D.length * 3 → (cellsE D)[i]? = some u → cur[i]? = some u := fun i u hi hu => by
      rw [← h7, List.getElem?_take, if_pos hi] at hu
      simpa using hu
    have key : ∀ (q r : Nat) (x : En), D[q]? = some x → r < 3 → (cellsE D)[q * 3 + r]? = some (encE x)[r]! := by
      intro q r x hx hr
      obtain ⟨c0, c1, c2⟩ := cellsE_at hx
      have hm : r = 0 ∨ r = 1 ∨ r = 2 := by omega
      rcases hm with rfl | rfl | rfl
      · exact c0
      · exact c1
      · exact c2
    have kk := key (j / 3) (j % 3) D[j / 3] (List.getElem?_eq_getElem hq) (by omega)
    rw [show j / 3 * 3 + j % 3 = j by omega] at kk
    exact e3 _ _ hj' kk
  have eg : ∀ args w, (callFunc 110 args).run Try.prog w = .ok (.enter 110 args) w := enters_of Try.func110 (by kernel_rfl) rfl
  have hcon := AnyQ.slices_SortFunc Try.sortEnd 3 Try.isAgg119 Try.sizeOf119 encE (fun _ => rfl) (fun x v hv => by simp [encE] at hv; rcases hv with rfl | rfl | rfl <;> rfl) (fun x y => Lib.compareInt x.1 y.1) swoAt 110 #[] g 0 cap D.toArray w eg (ends_cmp g 0 D.toArray.size w) hH hg (by simp; omega)
  change Calls Try.prog 109 #[.slice (some ⟨g, 0, none⟩) D.length cap, _] _ _ at hcon
  refine hcon.mono ?_
  rintro e w' ⟨rfl, d', n, os, hp, hs, rfl⟩
  have hsz : d'.size = D.length := by rw [hp.1]; simp
  have hper : d'.toList.Perm D := by
    have h := hp.2.2
    have e1 : (d'.extract 0 D.toArray.size).toList = d'.toList := by
      rw [show D.toArray.size = d'.size by rw [hsz]; simp]; simp
    have e2 : (D.toArray.extract 0 D.toArray.size).toList = D := by simp
    rw [e1, e2] at h
    exact h
  refine ⟨rfl, d'.toList, g, cap, by simp [hsz], h2, hper, ?_, ?_, ?_⟩
  · intro i j e e' hij hi hj
    have li := lt_get hi
    have lj := lt_get hj
    rw [Array.length_toList] at li lj
    have hlt := hs i j (Nat.zero_le _) hij (by simp; omega)
    rw [getElem!_pos d' i li, getElem!_pos d' j lj, ltAt] at hlt
    have hi' : d'[i] = e := by simpa [li] using hi
    have hj' : d'[j] = e' := by simpa [lj] using hj
    rw [hi', hj'] at hlt
    have := of_decide_eq_false hlt; omega
  · have hh := holdsK_sortWorldK_c encE 3 w g 0 D.toArray d' n os hH hg (by simpa using hsz)
    refine ⟨Nat.lt_of_lt_of_le hg (size_sortWorldK_c encE 3 w g 0 n d' os), fun k e he => ?_⟩
    have lk := lt_get he
    rw [Array.length_toList] at lk
    have ek : d'[k]! = e := by rw [getElem!_pos d' k lk]; simpa [lk] using he
    have c0 := (hh.cell lk (c := 0) (by decide)).1
    have c1 := (hh.cell lk (c := 1) (by decide)).1
    have c2 := (hh.cell lk (c := 2) (by decide)).1
    rw [ek, Nat.zero_add] at c0 c1 c2
    exact ⟨c0, c1, c2⟩
  · exact ⟨rfl, rfl, rfl, size_sortWorldK_c encE 3 w g 0 n d' os, fun k hk hne => sort_block w g 0 n d' os k hk (fun e => hne (by rw [e]))⟩

theorem make_ends (n m : Nat) (hn : n ≤ 1000) (hm : m ≤ 1000) (W : World) :
    (Instr.makeSlice 116 (.int .i64 0) (.int .i64 (2 * ((n : Int) + (m : Int))))).run Try.prog W = .ok (.slice (some ⟨W.heap.size, 0, none⟩) 0 (2 * (n + m))) (W.alloc (.cells (madeCells #[.int .i64 0, .int .i64 0, .int .i64 0] (2 * (n + m) * 3)) 119)) := by
  obtain ⟨i, hi, hz, hs, hb⟩ := info_parts info_end
  have h := run_make (P := Try.prog) (w := W) 116 119 i _ Try.underlying116 hi hz .i64 .i64 0 (2 * ((n : Int) + (m : Int))) (by omega) (by omega) (by rw [hb]; omega) (by omega)
  rw [hs, show (2 * ((n : Int) + (m : Int))).toNat = 2 * (n + m) by omega] at h
  exact h
theorem made_own (W : World) (N : Nat) (hN : N ≤ 4000) : OwnE (W.alloc (.cells (madeCells #[.int .i64 0, .int .i64 0, .int .i64 0] (N * 3)) 119)) W.heap.size (.slice (some ⟨W.heap.size, 0, none⟩) 0 N) [] :=
  ⟨World.ownsRow_made W _ N (Nat.le_refl _) (by unfold maxLen; omega) (by simp [madeCells]), by simp⟩
theorem index_pair (x y : Value) (w : World) : (Instr.index 104 (.agg #[x, y]) (.int .i64 0)).run Try.prog w = .ok x w ∧ (Instr.index 104 (.agg #[x, y]) (.int .i64 1)).run Try.prog w = .ok y w := by
  constructor
  · kernel_rfl
  · kernel_rfl
/-- One of the two lists: where it lies, which list it is, what comes before it. -/
theorem pick_list {w : World} {a b : List Sp} {A B : Option Addr} {c d : Nat} (ha : Sps w A a) (hb : Sps w B b) (k : Nat) (hk : k < 2) :
    ∃ (L : List Sp) (X : Option Addr) (x : Nat) (D0 : List En), (k = 0 ∧ D0 = [] ∧ L = a ∨ k = 1 ∧ D0 = endsOf 0 a ∧ L = b) ∧ Sps w X L ∧
      (∀ W : World, (Instr.index 104 (.agg #[.slice A a.length c, .slice B b.length d]) (.int .i64 (k : Int))).run Try.prog W = .ok (.slice X L.length x) W) := by
  rcases Nat.lt_or_eq_of_le (Nat.le_of_lt_succ hk) with h | rfl
  · obtain rfl : k = 0 := by omega
    exact ⟨a, A, c, [], Or.inl ⟨rfl, rfl, rfl⟩, ha, fun W => (index_pair _ _ W).1⟩
  · exact ⟨b, B, d, endsOf 0 a, Or.inr ⟨rfl, rfl, rfl⟩, hb, fun W => (index_pair _ _ W).2⟩
theorem wrap_id {x : Int} (h1 : -9223372036854775808 ≤ x) (h2 : x ≤ 9223372036854775807) : IntKind.i64.wrap x = x := by
  rw [IntKind.wrap_i64]; omega
#print axioms ends_sort
#print axioms pick_list
#print axioms wrap_id
end Go.Proofs.Ytccbnobpighckaa.Span
