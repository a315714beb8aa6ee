/- The laws' orders. -/
import Derived.Test.YtkgmfdmgaloaoaaPqueueRI
import Derived.Test.YtkgmfdmgaloaoaaPqueueRS
namespace Go.Proofs.Ytkgmfdmgaloaoaa.PqueueI
open Go.ChangeShapes Go.WideShapes Go.RowKit Go.Lib Go.Proofs.Ytkgmfdmgaloaoaa.Pqueue
set_option linter.unusedVariables false
set_option maxRecDepth 100000

def keyT (x : It) : Int := wrap64 (x.1.tdiv 10)
def upB (a b : It) : Bool := decide (a.1 < b.1)
def downB (a b : It) : Bool := decide (b.1 < a.1)
def tensB (a b : It) : Bool := decide (keyT a < keyT b)
def alikeB (a b : It) : Bool := false
def oddB (a b : It) : Bool := (a.1.tmod 3 != b.1.tmod 3) && ((wrap64 (a.1 + 1)).tmod 3 == b.1.tmod 3)
def lessM (m : Int) : It → It → Bool := if m = 0 then upB else if m = 1 then downB else if m = 2 then tensB else alikeB
theorem sw_up : Sw upB := sw_key sw_int fun x : It => x.1
theorem sw_down : Sw downB := sw_flip sw_up
theorem sw_tens : Sw tensB := sw_key sw_int keyT
theorem sw_alike : Sw alikeB := sw_none
theorem sw_lessM (m : Int) : Sw (lessM m) := by
  unfold lessM
  split
  · exact sw_up
  · split
    · exact sw_down
    · split
      · exact sw_tens
      · exact sw_alike
theorem two_alloc (W : World) (o o' : Obj) : Below W.heap.size W ((W.alloc o).alloc o') := bstep (below_alloc _ _) (below_alloc _ _)
theorem ord_up : Ord 25 upB := by
  refine ⟨enters_of Try.func25 (by kernel_rfl) rfl, fun x y W => ?_⟩
  go_enter Try.func25, Try.ntmps25
  go_wp2_with fail
  go_ret
  exact ⟨ret_bool rfl, two_alloc _ _ _⟩
theorem ord_down : Ord 32 downB := by
  refine ⟨enters_of Try.func32 (by kernel_rfl) rfl, fun x y W => ?_⟩
  go_enter Try.func32, Try.ntmps32
  go_wp2_with fail
  go_ret
  exact ⟨ret_bool rfl, two_alloc _ _ _⟩
theorem ord_tens : Ord 31 tensB := by
  refine ⟨enters_of Try.func31 (by kernel_rfl) rfl, fun x y W => ?_⟩
  go_enter Try.func31, Try.ntmps31
  go_wp2_with fail
  go_ret
  exact ⟨ret_bool rfl, two_alloc _ _ _⟩
theorem ord_alike : Ord 33 alikeB := by
  refine ⟨enters_of Try.func33 (by kernel_rfl) rfl, fun x y W => ?_⟩
  go_enter Try.func33, Try.ntmps33
  go_wp2_with fail
  go_ret
  exact ⟨ret_bool rfl, two_alloc _ _ _⟩
theorem ord_odd : Ord 23 oddB := by
  refine ⟨enters_of Try.func23 (by kernel_rfl) rfl, fun x y W => ?_⟩
  go_enter Try.func23, Try.ntmps23
  by_cases h : x.1.tmod 3 = y.1.tmod 3
  · have HE := Lib.hid (show oddB x y = false by unfold oddB; rw [h]; simp)
    go_wp2_with fail
    go_ret
    exact ⟨ret_bool HE.out.symm, two_alloc _ _ _⟩
  · go_wp2_with fail
    go_ret
    exact ⟨ret_bool rfl, two_alloc _ _ _⟩
/-- What order returns. -/
def OrdP (m : Int) (w : World) (e : Ending) (w' : World) : Prop := ∃ n, e = .returned (.func (.func n) #[] #[]) ∧ Ord n (lessM m) ∧ w = w'
theorem order_at (m : Int) (w : World) : Calls Try.prog 12 #[.int .i64 m] w (OrdP m w) := by
  have H : Hid (∀ n b, Ord n b → lessM m = b → OrdP m w (.returned (.func (.func n) #[] #[])) w) := Lib.hid fun n b h e => ⟨n, rfl, by rw [e]; exact h, rfl⟩
  by_cases h0 : m = 0
  · have HE := Lib.hid (show lessM m = upB by unfold lessM; rw [if_pos h0])
    have hb : (m == 0) = true := by simp [h0]
    clear h0
    go_enter Try.func12, Try.ntmps12
    go_wp2_with fail
    go_ret
    exact H.out _ _ ord_up HE.out
  · by_cases h1 : m = 1
    · have HE := Lib.hid (show lessM m = downB by unfold lessM; rw [if_neg h0, if_pos h1])
      have hb : (m == 0) = false := by simp [h0]
      have hb1 : (m == 1) = true := by simp [h1]
      clear h0 h1
      go_enter Try.func12, Try.ntmps12
      go_wp2_with fail
      go_ret
      exact H.out _ _ ord_down HE.out
    · by_cases h2 : m = 2
      · have HE := Lib.hid (show lessM m = tensB by unfold lessM; rw [if_neg h0, if_neg h1, if_pos h2])
        have hb : (m == 0) = false := by simp [h0]
        have hb1 : (m == 1) = false := by simp [h1]
        have hb2 : (m == 2) = true := by simp [h2]
        clear h0 h1 h2
        go_enter Try.func12, Try.ntmps12
        go_wp2_with fail
        go_ret
        exact H.out _ _ ord_tens HE.out
      · have HE := Lib.hid (show lessM m = alikeB by unfold lessM; rw [if_neg h0, if_neg h1, if_neg h2])
        have hb : (m == 0) = false := by simp [h0]
        have hb1 : (m == 1) = false := by simp [h1]
        have hb2 : (m == 2) = false := by simp [h2]
        go_enter Try.func12, Try.ntmps12
        go_wp2_with fail
        go_ret
        exact H.out _ _ ord_alike HE.out
/-- The reference's order. -/
theorem ref_Less (m : Int) (x y : It) (w : World) : Calls Try.prog 46 #[.int .i64 m, eV x, eV y] w fun e w' => e = .returned (.bool (lessM m x y)) ∧ Below w.heap.size w w' := by
  by_cases h0 : m = 0
  · have HE := Lib.hid (show lessM m x y = decide (x.1 < y.1) by unfold lessM; rw [if_pos h0]; rfl)
    have hb : (m == 0) = true := by simp [h0]
    clear h0
    go_enter Try.func46, Try.ntmps46
    go_wp2_with fail
    go_ret
    exact ⟨ret_bool HE.out.symm, two_alloc _ _ _⟩
  · by_cases h1 : m = 1
    · have HE := Lib.hid (show lessM m x y = decide (y.1 < x.1) by unfold lessM; rw [if_neg h0, if_pos h1]; rfl)
      have hb : (m == 0) = false := by simp [h0]
      have hb1 : (m == 1) = true := by simp [h1]
      clear h0 h1
      go_enter Try.func46, Try.ntmps46
      go_wp2_with fail
      go_ret
      exact ⟨ret_bool HE.out.symm, two_alloc _ _ _⟩
    · by_cases h2 : m = 2
      · have HE := Lib.hid (show lessM m x y = decide (wrap64 (x.1.tdiv 10) < wrap64 (y.1.tdiv 10)) by unfold lessM; rw [if_neg h0, if_neg h1, if_pos h2]; rfl)
        have hb : (m == 0) = false := by simp [h0]
        have hb1 : (m == 1) = false := by simp [h1]
        have hb2 : (m == 2) = true := by simp [h2]
        clear h0 h1 h2
        go_enter Try.func46, Try.ntmps46
        go_wp2_with fail
        go_ret
        exact ⟨ret_bool HE.out.symm, two_alloc _ _ _⟩
      · have HE := Lib.hid (show lessM m x y = false by unfold lessM; rw [if_neg h0, if_neg h1, if_neg h2]; rfl)
        have hb : (m == 0) = false := by simp [h0]
        have hb1 : (m == 1) = false := by simp [h1]
        have hb2 : (m == 2) = false := by simp [h2]
        go_enter Try.func46, Try.ntmps46
        go_wp2_with fail
        go_ret
        exact ⟨ret_bool HE.out.symm, two_alloc _ _ _⟩
#print axioms order_at
#print axioms ref_Less
end Go.Proofs.Ytkgmfdmgaloaoaa.PqueueI
namespace Go.Proofs.Ytkgmfdmgaloaoaa.PqueueS
open Go.ChangeShapes Go.WideShapes Go.RowKit Go.Lib Go.Proofs.Ytkgmfdmgaloaoaa.Pqueue
set_option linter.unusedVariables false
set_option maxRecDepth 100000
def shortB (a b : ByteArray) : Bool := decide (a.size < b.size)
theorem sw_short : Sw shortB := by
  constructor
  · intro x; simp [shortB]
  · intro x y z h1 h2; simp [shortB] at h1 h2 ⊢; omega
  · intro x y z h1 h2 h3 h4; simp [shortB] at h1 h2 h3 h4 ⊢; omega
theorem ord_shorter : Ord 27 shortB := by
  refine ⟨enters_of Try.func27 (by kernel_rfl) rfl, fun x y W => ?_⟩
  go_enter Try.func27, Try.ntmps27
  go_wp2_with fail
  go_ret
  exact ⟨ret_bool rfl, Below.refl _ _⟩
end Go.Proofs.Ytkgmfdmgaloaoaa.PqueueS
