/- Contracts of nat.copied, nat.times. -/
import Derived.Test.YtmbpcjnlniidkaaDoorNatD
import Derived.Laws.CopyOwn
namespace Go.Proofs.YtmbpcjnlniidkaaDoor
open Go.ChangeShapes Go.WideShapes Go.RowKit
set_option linter.unusedVariables false

/-- xs, filled with zeros up to n. -/
def padL (xs : List Int) (n : Nat) : List Int := xs ++ List.replicate (n - xs.length) 0
theorem padL_length {xs : List Int} {n : Nat} (h : xs.length ≤ n) : (padL xs n).length = n := by simp [padL]; omega
theorem padL_val (xs : List Int) (n : Nat) : nval (padL xs n) = nval xs := by rw [padL, nval_append, nval_zeros]; simp
theorem padL_lok {xs : List Int} (h : lok xs = true) (n : Nat) : lok (padL xs n) = true := by rw [padL, lok_append]; exact ⟨h, lok_zeros _⟩
theorem info_size : (Tryd.prog.info? 3).map (·.size) = some 1 := by kernel_rfl
theorem cells_ints {xs : List Int} : ∀ v ∈ xs.map (Value.int .i64), v.oneCell' = true := by
  intro v hv
  simp only [List.mem_map] at hv
  obtain ⟨x, _, rfl⟩ := hv
  rfl
theorem row_of_heap {w : World} {g : Nat} {t : TypeId} {zs : List Int} (h : w.heap[g]? = some (.cells (zs.map (Value.int .i64)).toArray t (0, 0))) : Row w g zs :=
  ⟨_, t, h, fun i z hz => by rw [List.getElem?_toArray, List.getElem?_map, hz]; rfl⟩
theorem splice_pad (xs : List Int) (n : Nat) (h : xs.length ≤ n) :
    splice ((List.replicate n (0 : Int)).map (Value.int .i64)) 0 (xs.map (Value.int .i64)) = (padL xs n).map (Value.int .i64) := by
  simp [splice, padL, List.drop_replicate]

theorem heap_of_made {w : World} {base e g n : Nat} (h : w.ownsRow base e 1 (.slice (some ⟨g, 0, none⟩) n n) n (madeCells (Value.int .i64 0).cells (n * 1)).toList) :
    w.heap[g]? = some (.cells ((List.replicate n (0 : Int)).map (Value.int .i64)).toArray e (0, 0)) := by
  obtain ⟨h1, ⟨h2, _⟩ | ⟨g', cap, cur, h2, h3, h4, h5, h6, h7, h8⟩⟩ := h
  · cases h2
  · cases h2
    rw [h4, ← made_zeros, ← h8, List.take_of_length_le (by rw [Array.length_toList]; omega), Array.toArray_toList]
theorem holds_cells {w : World} {lo hi : Nat} {A : Option Addr} {xs : List Int} (h : Holds w lo hi A xs) (hp : 0 < (xs.map (Value.int .i64)).length) :
    ∃ ad, A = some ad ∧ ∀ j v, (xs.map (Value.int .i64))[j]? = some v → w.cell? (ad.add j) = some v := by
  rw [List.length_map] at hp
  obtain ⟨b, off, rfl, _, _, _⟩ := h 0 xs[0] (List.getElem?_eq_getElem hp)
  refine ⟨_, rfl, fun j v hv => ?_⟩
  rw [List.getElem?_map] at hv
  cases hj : xs[j]? with
  | none => rw [hj] at hv; cases hv
  | some z =>
    rw [hj] at hv
    obtain rfl : Value.int .i64 z = v := by simpa using hv
    obtain ⟨b', off', e, _, _, hc⟩ := h j z hj
    cases e
    have ea : (⟨b, off, none⟩ : Addr).add j = ⟨b, off + j, none⟩ := by
      unfold Addr.add
      split
      · rename_i h; subst h; rfl
      · rfl
    rw [ea]; exact hc

theorem copied_prep {w w1 : World} {lo hi n : Nat} {A : Option Addr} {xs : List Int} {cs zs : List Value} (hS : Holds w lo hi A xs) (hh : hi ≤ w.heap.size) (hn : xs.length ≤ n)
    (hcs : cs = xs.map (Value.int .i64)) (hzs : zs = (List.replicate n (0 : Int)).map (Value.int .i64))
    (hown : w1.ownsRow w.heap.size 3 1 (.slice (some ⟨w.heap.size, 0, none⟩) n n) n (madeCells (Value.int .i64 0).cells (n * 1)).toList) (hgrow : w.grownBy w1 none) :
    Hid (w1.heap[w.heap.size]? = some (.cells zs.toArray 3 (0, 0))) ∧ Hid (Below w.heap.size w w1) ∧
    Hid (0 < cs.length → some (⟨w.heap.size, 0, none⟩ : Addr) = some ⟨w.heap.size, 0, none⟩ ∧ ∃ ad, A = some ad ∧ ∀ j v, cs[j]? = some v → w1.cell? (ad.add j) = some v) := by
  have hbel : Below w.heap.size w w1 := (Below.refl _ _).grown hgrow (Nat.le_refl _) (fun k hk => by cases hk)
  subst hcs hzs
  exact ⟨heap_of_made hown, hbel, fun hp => ⟨rfl, holds_cells (hS.below hbel hh) hp⟩⟩
theorem copied_end {w w2 : World} {n : Nat} {xs : List Int} {cs zs : List Value} (hn : xs.length ≤ n)
    (hcs : cs = xs.map (Value.int .i64)) (hzs : zs = (List.replicate n (0 : Int)).map (Value.int .i64))
    (h : w2.heap[w.heap.size]? = some (.cells (splice zs 0 cs).toArray 3 (0, 0))) : Row w2 w.heap.size (padL xs n) := by
  subst hcs hzs
  rw [splice_pad xs n hn] at h
  exact row_of_heap h

set_option maxHeartbeats 800000 in
theorem nat_copied (xs : List Int) (A : Option Addr) (c n : Nat) (lo hi : Nat) (w : World) (hS : Holds w lo hi A xs) (hh : hi ≤ w.heap.size) (hn : xs.length ≤ n) (hb : n ≤ 1000000) :
    Calls Tryd.prog 47 #[.slice A xs.length c, .int .i64 n] w
      fun e w' => e = .returned (.slice (some ⟨w.heap.size, 0, none⟩) n n) ∧ Row w' w.heap.size (padL xs n) ∧ Below w.heap.size w w' := by
  obtain ⟨i0, hi0, hz0, hz1, hz2⟩ := info_parts info_int
  have HS := Lib.hid hS
  obtain ⟨cs, hcs⟩ : ∃ cs, cs = xs.map (Value.int .i64) := ⟨_, rfl⟩
  obtain ⟨zs, hzs⟩ : ∃ zs, zs = (List.replicate n (0 : Int)).map (Value.int .i64) := ⟨_, rfl⟩
  have hl : cs.length = Nat.min xs.length n := by rw [hcs, List.length_map]; exact (Nat.min_eq_left hn).symm
  have hl2 : 0 + cs.length ≤ zs.length := by rw [hcs, hzs]; simp; exact hn
  have h1c : ∀ v ∈ cs, v.oneCell' = true := by rw [hcs]; exact cells_ints
  have HL := Lib.hid hl
  have HL2 := Lib.hid hl2
  have H1 := Lib.hid h1c
  have HC := Lib.hid hcs
  have HZ := Lib.hid hzs
  clear hS hcs hzs hl hl2 h1c
  go_enter Tryd.func47, Tryd.ntmps47
  go_wp2_with (first
    | (at_make; refine wpList_make_full _ rfl _ _ 23 rfl w.heap.size 3 i0 (.int .i64 0) 1 Tryd.underlying23 hi0 hz0 hz1 .i64 .i64 n n n rfl rfl rfl rfl (by rw [hz2]; omega) (by unfold maxLen; omega) (Nat.le_refl _) ?_; intro w1 hown hgrow; obtain ⟨HH, HB, HP⟩ := copied_prep HS.out hh hn HC.out HZ.out hown hgrow; clear hown hgrow)
    | (with_reducible refine wpList_copy_splice rfl (.tmp 8) (.tmp 9) 23 23 rfl 3 Tryd.underlying23 info_size _ _ _ _ _ _ rfl rfl w.heap.size 0 zs _ HH.out cs HL.out HP.out HL2.out H1.out w.heap.size w HB.out (Nat.le_refl _) ?_; intro w2 hg2 hb2; have HR := Lib.hid (copied_end hn HC.out HZ.out hg2.out); have HB2 := Lib.hid hb2; clear hg2 hb2)
    | fail)
  go_ret
  exact ⟨rfl, HR.out, HB2.out⟩

set_option maxHeartbeats 800000 in
theorem nat_times (xs : List Int) (A : Option Addr) (c : Nat) (n : Int) (lo hi : Nat) (w : World) (hS : Holds w lo hi A xs) (hh : hi ≤ w.heap.size) (hb : xs.length ≤ 100000)
    (hxk : lok xs = true) (n1 : -1000000000 < n) (n2 : n < 1000000000) :
    Calls Tryd.prog 60 #[.slice A xs.length c, .int .i64 n] w
      fun e w' => e = .returned (.slice (some ⟨w.heap.size, 0, none⟩) (xs.length + 1) (xs.length + 1)) ∧ Row w' w.heap.size (addT (List.replicate (xs.length + 1) 0) xs n 0) ∧ Below w.heap.size w w' := by
  obtain ⟨i0, hi0, hz0, hz1, hz2⟩ := info_parts info_int
  have HS := Lib.hid hS
  clear hS
  go_enter Tryd.func60, Tryd.ntmps60
  go_wp2_with (first
    | (at_make; refine wpList_make_full _ rfl _ _ 23 rfl w.heap.size 3 i0 (.int .i64 0) 1 Tryd.underlying23 hi0 hz0 hz1 .i64 .i64 _ _ (xs.length + 1) rfl rfl (by omega) (by omega) (by rw [hz2]; omega) (by unfold maxLen; omega) (Nat.le_refl _) ?_; intro w1 hown hgrow)
    | fail)
  have hrow : Row w1 w.heap.size (List.replicate (xs.length + 1) 0) := row_of_heap (heap_of_made hown)
  have hbel : Below w.heap.size w w1 := (Below.refl _ _).grown hgrow (Nat.le_refl _) (fun k hk => by cases hk)
  have HR := Lib.hid hrow
  have HB := Lib.hid hbel
  clear hrow hbel hown hgrow
  have hlen : (List.replicate (xs.length + 1) (0 : Int)).length = xs.length + 1 := by simp
  have hc := nat_addTimes (List.replicate (xs.length + 1) 0) (List.replicate (xs.length + 1) 0) xs n w.heap.size 0 (xs.length + 1) c lo hi A w1 HR.out (by simp) (fun j _ => by simp) (HS.out.below HB.out hh) (Or.inr hh) (by simp) (by simp; omega)
    (by rw [List.dropLast_replicate]; exact lok_zeros _) (fun z hz => by rw [List.getElem?_replicate] at hz; split at hz <;> simp at hz; subst hz; omega) hxk n1 n2
  rw [hlen] at hc
  have HCC := Lib.hid hc
  clear hc hlen
  go_wp2_with (go_at_call 48; refine HCC.out.mono ?_; rintro e w' ⟨rfl, hr2, ho2⟩)
  go_ret
  have e : laid (List.replicate (xs.length + 1) 0) 0 (addT (List.replicate (xs.length + 1) 0) xs n 0) = addT (List.replicate (xs.length + 1) 0) xs n 0 := by
    rw [laid, List.take_zero, List.nil_append, List.drop_eq_nil_of_le (by rw [addT_length]; simp), List.append_nil]
  rw [e] at hr2
  exact ⟨rfl, hr2, HB.out.trans (ho2.toBelow (Nat.le_refl _))⟩
#print axioms nat_copied
#print axioms nat_times
end Go.Proofs.YtmbpcjnlniidkaaDoor
