/- slices.Clone, slices.SortFunc at rectangles; Disjoint of the program. -/
import Derived.Test.YtccbnobpighckaaRectPF
import Derived.Shelf.SlSortCmp.NoneTotal
namespace Go.Proofs.Ytccbnobpighckaa.Rect
open Go.ChangeShapes Go.WideShapes Go.RowKit Go.Lib Go.Proofs Go.Proofs.Ytccbnobpighckaa.Rw
open Go.Sort (HoldsK SWO PermIn SortedIn grow putRowK grow_grow alloc_eq_grow)
set_option linter.unusedVariables false
set_option maxRecDepth 100000

/-! ### Pairs (pure) -/
theorem dis_pair : ∀ {L : List Rc}, dis L = true ↔ L.Pairwise fun r s => comB r s = false
  | [] => ⟨fun _ => List.Pairwise.nil, fun _ => rfl⟩
  | r :: L => by
    rw [dis, Bool.and_eq_true, dis_pair (L := L), List.pairwise_cons, List.all_eq_true]
    constructor
    · rintro ⟨h1, h2⟩
      exact ⟨fun s hs => by have := h1 s hs; simpa using this, h2⟩
    · rintro ⟨h1, h2⟩
      exact ⟨fun s hs => by rw [h1 s hs]; rfl, h2⟩
/-- Rectangles without points count for nothing, nor does the order. -/
theorem dis_perm {L E : List Rc} (hp : E.Perm (L.filter fun r => !(!ptB r))) : dis L = true ↔ E.Pairwise fun r s => comB r s = false := by
  rw [dis_pair, List.Perm.pairwise_iff (fun {x y} h => by rw [comB_sym]; exact h) hp, List.pairwise_filter]
  constructor
  · intro h
    exact h.imp fun h _ _ => h
  · intro h
    refine h.imp fun {a b} h => ?_
    cases hc : comB a b with
    | false => rfl
    | true =>
      obtain ⟨h1, h2⟩ := com_pts hc
      rw [h (by rw [h1]; rfl) (by rw [h2]; rfl)] at hc
      cases hc
theorem pair_yes {E : List Rc} (h : ∀ (i j : Nat) (a b : Rc), i < j → E[i]? = some a → E[j]? = some b → comB a b = false) : E.Pairwise fun r s => comB r s = false :=
  List.pairwise_iff_getElem.mpr fun i j hi hj hij => h i j _ _ hij (List.getElem?_eq_getElem hi) (List.getElem?_eq_getElem hj)
theorem pair_no {E : List Rc} {i j : Nat} {a b : Rc} (hij : i < j) (ha : E[i]? = some a) (hb : E[j]? = some b) (hc : comB a b = true) : ¬ E.Pairwise fun r s => comB r s = false := fun h => by
  obtain ⟨l1, e1⟩ := List.getElem?_eq_some_iff.mp ha
  obtain ⟨l2, e2⟩ := List.getElem?_eq_some_iff.mp hb
  have := List.pairwise_iff_getElem.mp h i j l1 l2 hij
  rw [e1, e2, hc] at this
  cases this
/-- What begins behind the end has no common points. -/
theorem com_far {a b : Rc} (h : a.2.2.2 ≤ b.2.2.1) : comB a b = false := by
  cases hc : comB a b with
  | false => rfl
  | true =>
    have := ptB_iff.mp hc
    unfold comR at this
    simp only at this
    omega

/-! ### Clone -/
theorem slice_nil (A : Option Addr) (n c : Nat) (W : World) : (binOp .eql 32 (.slice A n c) (.slice none 0 0)).run Try.prog W = .ok (.bool A.isNone) W :=
  Lib.run_eql_slice_nil W _ TQ A n c 0 0 Try.underlying32
set_option maxHeartbeats 800000 in
theorem clone_rect (L : List Rc) (A : Option Addr) (n c : Nat) (hn : n = L.length) (w : World) (ha : Rcs w A L) (hm : n ≤ 1000000) :
    Calls Try.prog 50 #[.slice A n c] w fun e w' => ∃ A' c', e = .returned (.slice A' n c') ∧ Row cQ 4 TQ w.heap.size w' (.slice A' n c') L ∧ Below w.heap.size w w' := by
  cases A with
  | none =>
    have hL := ha.none_
    subst hL
    subst hn
    have hq : ∀ W, (binOp .eql 32 (.slice none 0 c) (.slice none 0 0)).run Try.prog W = .ok (.bool true) W := fun W => slice_nil none 0 c W
    change Calls Try.prog _ #[.slice none 0 c] w _
    clear ha
    go_enter Try.func50, Try.ntmps50
    go_wp2_with fail
    go_ret
    exact ⟨none, 0, rfl, Row.nil _ _ _ _ _, Below.refl _ _⟩
  | some ad =>
    have hq : ∀ W, (binOp .eql 32 (.slice (some ad) n c) (.slice none 0 0)).run Try.prog W = .ok (.bool false) W := fun W => slice_nil (some ad) n c W
    have HA := Lib.hid (ha.on (below_alloc w (.cells #[] TQ)))
    have HN := Lib.hid hn
    have HE := Lib.hid (Row.empty cQ 4 TQ (B := w.heap.size) w (Nat.le_refl _))
    have HL : Hid (([] : List Rc).length + n ≤ 1000000) := Lib.hid (by simpa using hm)
    have HB0 : Hid (w.heap.size ≤ (w.alloc (.cells #[] TQ)).heap.size) := Lib.hid (by simp)
    clear ha hn
    go_enter Try.func50, Try.ntmps50
    go_wp2_with (at_builtin; refine append_rows kdQ rfl (.tmp 5) (.tmp 6) rfl (.slice (some ⟨w.heap.size, 0, none⟩) 0 0) [] rfl HE.out (some ad) n c L HN.out rfl HA.out HL.out HB0.out ?_; intro A5 n5 c5 w5 hn5 hr5 hg5 hat5; have HN5 := Lib.hid hn5; have HR5 := Lib.hid hr5; have HG5 := Lib.hid hg5; clear hn5 hr5 hg5 hat5; refine Hid.out ?_)
    have HB5 : Hid (Below w.heap.size w w5) := Lib.hid ((below_alloc w _).trans (HE.out.below HG5.out HB0.out))
    refine Lib.hid ?_
    go_wp2_with fail
    go_ret
    exact ⟨A5, c5, (by rw [HN5.out]; simp), by have := HR5.out; rw [HN5.out] at this; simpa using this, HB5.out⟩

/-! ### SortFunc -/
theorem ltAt (x y : Rc) : ltOf (fun x y : Rc => Lib.compareInt x.2.2.1 y.2.2.1) x y = decide (x.2.2.1 < y.2.2.1) := by
  unfold ltOf Lib.compareInt
  by_cases h1 : x.2.2.1 < y.2.2.1
  · simp [h1]
  · by_cases h2 : y.2.2.1 < x.2.2.1 <;> simp [h1, h2]
theorem swoAt : SWO (ltOf fun x y : Rc => Lib.compareInt x.2.2.1 y.2.2.1) where
  irrefl x := by rw [ltAt]; simp
  trans x y z h1 h2 := by rw [ltAt] at *; simp at *; omega
  ntrans x y z h1 h2 := by rw [ltAt] at *; simp at *; omega
set_option maxHeartbeats 1000000 in
theorem from_closure (x y : Rc) (W : World) : Calls Try.prog 53 #[agQ x, agQ y] W fun e w' => e = .returned (.int .i64 (Lib.compareInt x.2.2.1 y.2.2.1)) ∧ ∃ q os', w' = grow (W.drewN q) os' := by
  have hcon := fun W' => Try.cmp_Compare_int x.2.2.1 y.2.2.1 W'
  generalize Lib.compareInt x.2.2.1 y.2.2.1 = r at hcon ⊢
  go_enter Try.func53, Try.ntmps53
  go_wp2_with (go_at_call 54; refine (hcon _).mono ?_; rintro e w' ⟨rfl, rfl⟩)
  go_ret
  exact ⟨rfl, 0, _, by rw [alloc_eq_grow, alloc_eq_grow, grow_grow]; rfl⟩
theorem from_cmp (blk off size : Nat) (w : World) : CmpLays Try.prog 53 #[] cQ 4 (fun x y => Lib.compareInt x.2.2.1 y.2.2.1) blk off size w :=
  fun _ _ _ _ x y => from_closure x y _
theorem sortK_block (w : World) (blk off n : Nat) (d : Array Rc) (os : Array Obj) (k : Nat) (hk : k < w.heap.size) (hne : k ≠ blk) : (sortWorldK cQ 4 w blk off n d os).heap[k]? = w.heap[k]? := by
  unfold sortWorldK
  rw [Go.Sort.heap_grow_old _ _ (by unfold putRowK Go.Sort.putRow Go.Sort.mapBlock; simpa using hk)]
  unfold putRowK Go.Sort.putRow Go.Sort.mapBlock
  simp only [Array.getElem?_modify]
  rw [if_neg (fun e => hne e.symm)]; rfl
theorem get_of {d : Array Rc} {i : Nat} {a : Rc} (h : d.toList[i]? = some a) : d[i]! = a := by
  have hl := glt h
  rw [Array.length_toList] at hl
  rw [getElem!_pos d i hl]
  simpa [hl] using h
set_option maxHeartbeats 800000 in
theorem sort_rect (D : List Rc) (A : Option Addr) (n cap B : Nat) (w : World) (ho : Row cQ 4 TQ B w (.slice A n cap) D) (hB : B ≤ w.heap.size) (hl : n ≤ 1000000) :
    Calls Try.prog 52 #[.slice A n cap, .func (.func 53) #[] #[]] w fun e w' => e = .returned (.tuple #[]) ∧ ∃ E, E.length = n ∧ n ≤ cap ∧ E.Perm D ∧ (∀ (i j : Nat) (a b : Rc), i < j → E[i]? = some a → E[j]? = some b → a.2.2.1 ≤ b.2.2.1) ∧ Rcs w' A E ∧ Below B w w' := by
  obtain ⟨A0, c0, e0, hle, hmx, hrd, -, hA⟩ := ho.one cQ_len
  obtain ⟨rfl, hn, rfl⟩ := Value.slice.inj e0
  by_cases h0 : n = 0
  · subst h0
    obtain rfl : D = [] := List.eq_nil_of_length_eq_zero hn.symm
    have hcon := AnyF.slices_SortFunc_none Try.sortRect A cap (.func (.func 53) #[] #[]) w
    change Calls Try.prog 52 _ _ _ at hcon
    refine hcon.mono ?_
    rintro e w' ⟨rfl, rfl⟩
    exact ⟨rfl, [], rfl, Nat.zero_le _, List.Perm.refl _, fun i j a b _ h => by simp at h, Rd.nil _ _ _ _, Below.refl _ _⟩
  have hD0 : 0 < D.length := by omega
  obtain ⟨g, cap', e1, hgB, hg, -, -⟩ := ho.blk hD0
  obtain ⟨rfl, -, rfl⟩ := Value.slice.inj e1
  have hH : HoldsK cQ 4 w g 0 D.toArray := by
    intro j hj
    have hj' : j < D.length * 4 := by simpa using hj
    refine ⟨?_, ho.warm hn _⟩
    rw [Nat.zero_add, Go.Sort.get_flatK _ _ _ _ (by simpa using hj')]
    have hq : j / 4 < D.length := by omega
    have e1 : D.toArray[j / 4]! = D[j / 4] := by simp [hq]
    rw [e1]
    have hu : (cQ D[j / 4])[j % 4]? = some (cQ D[j / 4])[j % 4]! := by
      have : j % 4 = 0 ∨ j % 4 = 1 ∨ j % 4 = 2 ∨ j % 4 = 3 := by omega
      rcases this with h | h | h | h <;> rw [h] <;> rfl
    have := Row.cell cQ_len ho (List.getElem?_eq_getElem hq) hu
    rw [show j / 4 * 4 + j % 4 = j by omega] at this
    exact this
  have eg : ∀ args w, (callFunc 53 args).run Try.prog w = .ok (.enter 53 args) w := enters_of Try.func53 (by kernel_rfl) rfl
  have hcon := AnyQ.slices_SortFunc Try.sortRect 4 Try.isAgg23 Try.sizeOf23 cQ cQ_len (fun x v hv => by simp at hv; rcases hv with rfl | rfl | rfl | rfl <;> rfl) (fun x y => Lib.compareInt x.2.2.1 y.2.2.1) swoAt 53 #[] g 0 cap D.toArray w eg (from_cmp g 0 D.toArray.size w) hH hg (by simp; omega)
  change Calls Try.prog 52 #[.slice (some ⟨g, 0, none⟩) D.length cap, _] _ _ at hcon
  rw [← hn] at hcon
  refine hcon.mono ?_
  rintro e w' ⟨rfl, d', m, os, hp, hs, rfl⟩
  have hsz : d'.size = D.length := by rw [hp.1]; simp
  have hper : d'.toList.Perm D := by
    have h := hp.2.2
    have e1 : (d'.extract 0 D.toArray.size).toList = d'.toList := by
      rw [show D.toArray.size = d'.size by rw [hsz]; simp]; simp
    have e2 : (D.toArray.extract 0 D.toArray.size).toList = D := by simp
    rw [e1, e2] at h
    exact h
  refine ⟨rfl, d'.toList, by rw [Array.length_toList, hsz, hn], by omega, hper, ?_, ?_, ?_⟩
  · intro i j a b hij hi hj
    have li := glt hi
    have lj := glt hj
    rw [Array.length_toList] at li lj
    have hlt := hs i j (Nat.zero_le _) hij (by simp; omega)
    rw [get_of hi, get_of hj, ltAt] at hlt
    have := of_decide_eq_false hlt; omega
  · have hh := holdsK_sortWorldK_c cQ 4 w g 0 D.toArray d' m os hH hg (by simpa using hsz)
    intro k z hz
    refine ⟨g, 0, rfl, Nat.lt_of_lt_of_le hg (size_sortWorldK_c cQ 4 w g 0 m d' os), fun j u hu => ?_⟩
    have lk := glt hz
    rw [Array.length_toList] at lk
    have hj : j < 4 := by have := glt hu; rw [cQ_len] at this; exact this
    have c0 := (hh.cell lk (c := j) hj).1
    rw [get_of hz] at c0
    have e2 : (cQ z)[j]! = u := by
      have := glt hu
      rw [List.getElem?_eq_getElem this] at hu
      rw [getElem!_pos (cQ z) j this]
      exact Option.some.inj hu
    rw [e2, Nat.zero_add] at c0
    rw [Nat.zero_add]
    exact c0
  · exact ⟨rfl, rfl, rfl, size_sortWorldK_c cQ 4 w g 0 m d' os, fun k hk => sortK_block w g 0 m d' os k (by omega) (by omega)⟩
#print axioms clone_rect
#print axioms sort_rect
end Go.Proofs.Ytccbnobpighckaa.Rect
