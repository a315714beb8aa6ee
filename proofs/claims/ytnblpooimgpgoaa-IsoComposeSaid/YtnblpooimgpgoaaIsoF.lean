/- Contracts of the functions of one run: image, images, isWithin, clamped, sources, cut of the program; image, cut of the reference. -/
import Derived.Test.YtnblpooimgpgoaaIsoE
import Derived.Test.YtnblpooimgpgoaaRowC
namespace Go.Proofs.Ytnblpooimgpgoaa.Iso
open Go.ChangeShapes Go.WideShapes Go.RowKit Go.Lib Go.Proofs.Ytnblpooimgpgoaa.Rw
set_option linter.unusedVariables false
set_option maxRecDepth 100000

abbrev big : Int := 1152921504606846976
def imI (a : Int) (b : Bool) (x : Int) : Int := if b then a - x else a + x
def imF (a n : Int) (b : Bool) : Int := if b then a - n + 1 else a
def imT (a n : Int) (b : Bool) : Int := if b then a + 1 else a + n
def clp (x n : Int) : Int := min (max x 0) n
def srF (a n : Int) (b : Bool) (f t : Int) : Int := if b then clp (a - t + 1) n else clp (f - a) n
def srT (a n : Int) (b : Bool) (f t : Int) : Int := if b then clp (a - f + 1) n else clp (t - a) n
def inW (f t n : Int) : Bool := decide (0 ≤ f) && (decide (f ≤ t) && decide (t ≤ n))
theorem imI_im (r : Rn) {x : Int} (h : 0 ≤ x) : imI r.1 r.2.2 x = im r x.toNat := by rw [im_is h]; rfl
theorem imI_las (r : Rn) (h : 1 ≤ r.2.1) : imI r.1 r.2.2 (r.2.1 - 1) = las r := by rw [las_is h]; rfl
/-- A result that lies in a cell. -/
theorem res_span {fn : Func} {p : Tmp} (h : fn.results = #[.cell p 28]) {tmps : Array Value} {w : World} {g : Nat} {x y : Int} (hp : tmps.getD p undef = .pointer (some ⟨g, 0, none⟩))
    (hc : Cel w g [.int .i64 x, .int .i64 y]) : (results fn tmps).run Try.prog w = .ok (.agg #[.int .i64 x, .int .i64 y]) w := by
  have hp' : tmps[p]?.getD undef = .pointer (some ⟨g, 0, none⟩) := by simpa using hp
  obtain ⟨h0, h1⟩ := hc.two
  simp [results, h, hp', go_sem, h0, h1]
theorem res_run {fn : Func} {p : Tmp} (h : fn.results = #[.cell p 48]) {tmps : Array Value} {w : World} {g : Nat} {x y : Int} {b : Bool} (hp : tmps.getD p undef = .pointer (some ⟨g, 0, none⟩))
    (hc : Cel w g [.int .i64 x, .int .i64 y, .bool b]) : (results fn tmps).run Try.prog w = .ok (.agg #[.int .i64 x, .int .i64 y, .bool b]) w := by
  have hp' : tmps[p]?.getD undef = .pointer (some ⟨g, 0, none⟩) := by simpa using hp
  obtain ⟨h0, h1, h2⟩ := hc.three
  simp [results, h, hp', go_sem, h0, h1, h2]
theorem res_run2 {fn : Func} {p u : Tmp} (h : fn.results = #[.cell p 48, .tmp u]) {tmps : Array Value} {w : World} {g : Nat} {x y : Int} {b : Bool} (hp : tmps.getD p undef = .pointer (some ⟨g, 0, none⟩))
    (hc : Cel w g [.int .i64 x, .int .i64 y, .bool b]) : (results fn tmps).run Try.prog w = .ok (.tuple #[.agg #[.int .i64 x, .int .i64 y, .bool b], tmps.getD u undef]) w := by
  have hp' : tmps[p]?.getD undef = .pointer (some ⟨g, 0, none⟩) := by simpa using hp
  obtain ⟨h0, h1, h2⟩ := hc.three
  simp [results, h, hp', go_sem, h0, h1, h2]

set_option maxHeartbeats 400000 in
theorem iso_image (a n : Int) (b : Bool) (x : Int) (w : World) (h1 : -big ≤ a ∧ a ≤ big) (h2 : -big ≤ x ∧ x ≤ big) :
    Calls Try.prog 72 #[.agg #[.int .i64 a, .int .i64 n, .bool b], .int .i64 x] w fun e w' => e = .returned (.int .i64 (imI a b x)) ∧ Below w.heap.size w w' := by
  have e1 : IntKind.i64.wrap (a - x) = a - x := wrap_id (by unfold big at *; omega)
  have e2 : IntKind.i64.wrap (a + x) = a + x := wrap_id (by unfold big at *; omega)
  clear h1 h2
  go_enter Try.func72, Try.ntmps72
  cases b with
  | true =>
    go_wp2_with fail
    go_ret
    exact ⟨rfl, below_alloc _ _⟩
  | false =>
    go_wp2_with fail
    go_ret
    exact ⟨rfl, below_alloc _ _⟩
set_option maxHeartbeats 400000 in
theorem ref_image (a n : Int) (b : Bool) (x : Int) (w : World) (h1 : -big ≤ a ∧ a ≤ big) (h2 : -big ≤ x ∧ x ≤ big) :
    Calls Try.prog 50 #[.agg #[.int .i64 a, .int .i64 n, .bool b], .int .i64 x] w fun e w' => e = .returned (.int .i64 (imI a b x)) ∧ Below w.heap.size w w' := by
  have e1 : IntKind.i64.wrap (a - x) = a - x := wrap_id (by unfold big at *; omega)
  have e2 : IntKind.i64.wrap (a + x) = a + x := wrap_id (by unfold big at *; omega)
  clear h1 h2
  go_enter Try.func50, Try.ntmps50
  cases b with
  | true =>
    go_wp2_with fail
    go_ret
    exact ⟨rfl, below_alloc _ _⟩
  | false =>
    go_wp2_with fail
    go_ret
    exact ⟨rfl, below_alloc _ _⟩
theorem two_new (w : World) (o1 : Obj) (us : List Value) (t : TypeId) : Cel ((w.alloc o1).alloc (.cells us.toArray t)) (w.heap.size + 1) us := Cel.new_at _ _ _ (by simp)
theorem below2 (w : World) (o1 o2 : Obj) : Below w.heap.size w ((w.alloc o1).alloc o2) := bstep (below_alloc _ _) (below_alloc _ _)
theorem below3 (w : World) (o1 o2 o3 : Obj) : Below w.heap.size w (((w.alloc o1).alloc o2).alloc o3) := bstep (below2 _ _ _) (below_alloc _ _)
set_option maxHeartbeats 400000 in
theorem iso_images (a n : Int) (b : Bool) (w : World) (h1 : -big ≤ a ∧ a ≤ big) (h2 : -big ≤ n ∧ n ≤ big) :
    Calls Try.prog 58 #[.agg #[.int .i64 a, .int .i64 n, .bool b]] w fun e w' => e = .returned (.agg #[.int .i64 (imF a n b), .int .i64 (imT a n b)]) ∧ Below w.heap.size w w' := by
  have e1 : IntKind.i64.wrap (a - n) = a - n := wrap_id (by unfold big at *; omega)
  have e2 : IntKind.i64.wrap (a - n + 1) = a - n + 1 := wrap_id (by unfold big at *; omega)
  have e3 : IntKind.i64.wrap (a + 1) = a + 1 := wrap_id (by unfold big at *; omega)
  have e4 : IntKind.i64.wrap (a + n) = a + n := wrap_id (by unfold big at *; omega)
  have HC := Lib.hid fun (o : Obj) (x y : Value) => two_new w o [x, y] 28
  have HB := Lib.hid fun (o o2 : Obj) => below2 w o o2
  clear h1 h2
  go_enter Try.func58, Try.ntmps58
  cases b with
  | true =>
    go_wp2_with fail
    exact bodyPost_ret (res_span Try.results58 rfl (HC.out _ _ _)) rfl ⟨rfl, HB.out _ _⟩
  | false =>
    go_wp2_with fail
    exact bodyPost_ret (res_span Try.results58 rfl (HC.out _ _ _)) rfl ⟨rfl, HB.out _ _⟩

set_option maxHeartbeats 400000 in
theorem iso_isWithin (f t n : Int) (w : World) :
    Calls Try.prog 55 #[.agg #[.int .i64 f, .int .i64 t], .int .i64 n] w fun e w' => e = .returned (.bool (inW f t n)) ∧ Below w.heap.size w w' := by
  obtain ⟨q, hq⟩ : ∃ q, inW f t n = q := ⟨_, rfl⟩
  rw [hq]
  unfold inW at hq
  cases c1 : decide (0 ≤ f) <;> cases c2 : decide (f ≤ t) <;> cases c3 : decide (t ≤ n) <;> simp only [c1, c2, c3, Bool.and_true, Bool.and_false] at hq <;> subst hq
  all_goals
    go_enter Try.func55, Try.ntmps55
    go_wp2_with fail
    go_ret
    exact ⟨rfl, below_alloc _ _⟩

set_option maxHeartbeats 400000 in
/-- The closure of clamped. -/
theorem iso_limit (x n : Int) (g : Nat) (w : World) (hg : w.cell? ⟨g, 0, none⟩ = some (.int .i64 n)) :
    Calls Try.prog 75 #[.int .i64 x, .pointer (some ⟨g, 0, none⟩)] w fun e w' => e = .returned (.int .i64 (clp x n)) ∧ w = w' := by
  unfold clp
  go_enter Try.func75, Try.ntmps75
  go_wp2_with fail
  all_goals
    go_ret
    exact ⟨ret_int (by split at * <;> omega), rfl⟩
set_option maxHeartbeats 400000 in
theorem iso_clamped (f t n : Int) (w : World) :
    Calls Try.prog 68 #[.int .i64 f, .int .i64 t, .int .i64 n] w fun e w' => e = .returned (.agg #[.int .i64 (clp f n), .int .i64 (clp t n)]) ∧ Below w.heap.size w w' := by
  have HC := Lib.hid fun (o : Obj) (x y : Value) => two_new w o [x, y] 28
  have HB := Lib.hid fun (o o2 : Obj) => below2 w o o2
  go_enter Try.func68, Try.ntmps68
  go_wp2_with fail
  refine (iso_limit _ n _ _ (by simp)).mono ?_
  rintro e w1 ⟨rfl, rfl⟩
  go_wp2_with fail
  refine (iso_limit _ n _ _ (by simp)).mono ?_
  rintro e w1 ⟨rfl, rfl⟩
  go_wp2_with fail
  exact bodyPost_ret (res_span Try.results68 rfl (HC.out _ _ _)) rfl ⟨rfl, HB.out _ _⟩
end Go.Proofs.Ytnblpooimgpgoaa.Iso
