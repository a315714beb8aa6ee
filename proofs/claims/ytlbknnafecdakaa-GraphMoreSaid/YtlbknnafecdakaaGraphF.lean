/- isNode; Check of both. -/
import Derived.Test.YtlbknnafecdakaaGraphE
import Derived.Lib.Hide
namespace Go.Proofs.Ytlbknnafecdakaa.Graph
open Go.ChangeShapes Go.WideShapes Go.RowKit Go.Lib
set_option linter.unusedVariables false
set_option maxRecDepth 100000

/-- A box with a graph in it. -/
def Bx (w : World) (g : Nat) (n : Int) (A : Option Addr) (m c : Nat) : Prop := g < w.heap.size ∧ w.cell? ⟨g, 0, none⟩ = some (.int .i64 n) ∧ w.cell? ⟨g, 1, none⟩ = some (.slice A m c)
theorem Bx.on {w w' : World} {g : Nat} {n : Int} {A : Option Addr} {m c : Nat} (h : Bx w g n A m c) (hb : Below w.heap.size w w') : Bx w' g n A m c :=
  ⟨Nat.lt_of_lt_of_le h.1 hb.size, (hb.cell (p := ⟨g, 0, none⟩) h.1).trans h.2.1, (hb.cell (p := ⟨g, 1, none⟩) h.1).trans h.2.2⟩
theorem Bx.new (w : World) (n : Int) (A : Option Addr) (m c : Nat) (T : TypeId) : Bx (w.alloc (.cells #[.int .i64 n, .slice A m c] T)) w.heap.size n A m c := ⟨by simp, by simp, by simp⟩
theorem Bx.a0 {w : World} {g : Nat} {n : Int} {A : Option Addr} {m c : Nat} (h : Bx w g n A m c) (o : Obj) : (w.alloc o).cell? ⟨g, 0, none⟩ = some (.int .i64 n) := (h.on (below_alloc w o)).2.1
theorem Bx.a1 {w : World} {g : Nat} {n : Int} {A : Option Addr} {m c : Nat} (h : Bx w g n A m c) (o : Obj) : (w.alloc o).cell? ⟨g, 1, none⟩ = some (.slice A m c) := (h.on (below_alloc w o)).2.2
def nodeB (n x : Int) : Bool := decide (0 ≤ x) && decide (x < n)
theorem nodeB_ok {n x : Int} (h1 : 0 ≤ x) (h2 : x < n) : nodeB n x = true := by unfold nodeB; rw [decide_eq_true h1, decide_eq_true h2]; rfl
theorem nodeB_lo {n x : Int} (h1 : x < 0) : nodeB n x = false := by unfold nodeB; rw [decide_eq_false (by omega : ¬ 0 ≤ x)]; rfl
theorem nodeB_hi {n x : Int} (h2 : n ≤ x) : nodeB n x = false := by unfold nodeB; rw [decide_eq_false (by omega : ¬ x < n), Bool.and_false]
theorem inA_node (n : Int) (e : Int × Int) : inA n e = (nodeB n e.1 && nodeB n e.2) := by unfold inA nodeB; simp only [Bool.and_assoc]
theorem graph_isNode (n x : Int) (A : Option Addr) (k c : Nat) (w : World) :
    Calls Try.prog 30 #[.agg #[.int .i64 n, .slice A k c], .int .i64 x] w fun e w' => e = .returned (.bool (nodeB n x)) ∧ Below w.heap.size w w' := by
  rcases Int.lt_or_le x 0 with h1 | h1
  · have H := Lib.hid (nodeB_lo (n := n) h1)
    have d1 : decide (0 ≤ x) = false := decide_eq_false (by omega)
    go_enter Try.func30, Try.ntmps30
    go_wp2_with fail
    go_ret
    exact ⟨ret_bool H.out.symm, below_alloc _ _⟩
  · rcases Int.lt_or_le x n with h2 | h2
    · have H := Lib.hid (nodeB_ok h1 h2)
      go_enter Try.func30, Try.ntmps30
      go_wp2_with fail
      go_ret
      exact ⟨ret_bool H.out.symm, below_alloc _ _⟩
    · have H := Lib.hid (nodeB_hi (n := n) h2)
      have d1 : decide (x < n) = false := decide_eq_false (by omega)
      go_enter Try.func30, Try.ntmps30
      go_wp2_with fail
      go_ret
      exact ⟨ret_bool H.out.symm, below_alloc _ _⟩
theorem chk_rng {n : Int} {L : List Pr} (h : n < 0 ∨ 64 < n) : chkE n L = 1 := by unfold chkE; rw [if_pos h]
theorem chk_full {n : Int} {L : List Pr} (h1 : 0 ≤ n) (h2 : n ≤ 64) (h : 512 < L.length) : chkE n L = 8 := by unfold chkE; rw [if_neg (by omega), if_pos h]
theorem chk_bad {n : Int} {L : List Pr} (h1 : 0 ≤ n) (h2 : n ≤ 64) (h : L.length ≤ 512) (h3 : L.all (inA n) = false) : chkE n L = 7 := by unfold chkE; rw [if_neg (by omega), if_neg (by omega), if_neg (by rw [h3]; simp)]
theorem chk_good {n : Int} {L : List Pr} (h1 : 0 ≤ n) (h2 : n ≤ 64) (h : L.length ≤ 512) (h3 : L.all (inA n) = true) : chkE n L = 0 := by unfold chkE; rw [if_neg (by omega), if_neg (by omega), if_pos h3]

set_option maxHeartbeats 800000 in
theorem graph_Check (n : Int) (L : List Pr) (A : Option Addr) (c : Nat) (w : World) (ha : Ars w A L) (hm : L.length ≤ 9223372036854775807) :
    Calls Try.prog 14 #[.agg #[.int .i64 n, .slice A L.length c]] w fun e w' => e = .returned (.int .i64 (chkE n L)) ∧ Below w.heap.size w w' := by
  have HA := Lib.hid ha
  clear ha
  rcases Int.lt_or_le n 0 with h1 | h1
  · have H := Lib.hid (chk_rng (L := L) (Or.inl h1))
    go_enter Try.func14, Try.ntmps14
    go_wp2_with fail
    go_ret
    exact ⟨ret_int H.out.symm, below_alloc _ _⟩
  have d1 : decide (n < 0) = false := decide_eq_false (by omega)
  rcases Int.lt_or_le 64 n with h2 | h2
  · have H := Lib.hid (chk_rng (L := L) (Or.inr h2))
    go_enter Try.func14, Try.ntmps14
    go_wp2_with fail
    go_ret
    exact ⟨ret_int H.out.symm, below_alloc _ _⟩
  have d2 : decide (64 < n) = false := decide_eq_false (by omega)
  rcases Nat.lt_or_ge 512 L.length with h3 | h3
  · have H := Lib.hid (chk_full h1 h2 h3)
    have h4 : (512 : Int) < (L.length : Int) := by omega
    go_enter Try.func14, Try.ntmps14
    go_wp2_with fail
    go_ret
    exact ⟨ret_int H.out.symm, below_alloc _ _⟩
  have d3 : decide ((512 : Int) < (L.length : Int)) = false := decide_eq_false (by omega)
  have H1 := Lib.hid h1
  have H2 := Lib.hid h2
  have H3 := Lib.hid h3
  clear h1 h2 h3
  go_enter Try.func14, Try.ntmps14
  go_wp2_with fail
  go_loopw [20] (fun i wr => ∃ k : Nat, k ≤ L.length ∧ i = .int .i64 k ∧ (∀ j s, j < k → L[j]? = some s → inA n s = true) ∧ Bx wr w.heap.size n A L.length c ∧ Below w.heap.size w wr) (fun i _ => L.length - (intOf i).toNat)
  case atStart => exact ⟨0, Nat.zero_le _, rfl, fun j t h => absurd h (by omega), Bx.new _ _ _ _ _ _, below_alloc _ _⟩
  case round =>
    obtain ⟨k, hk, rfl, hv, hbx, hbel⟩ := hrel
    have HV := Lib.hid hv
    have HB := Lib.hid hbel
    have HX := Lib.hid hbx
    have a0 := hbx.a0
    have a1 := hbx.a1
    clear hv hbel hbx
    rcases Nat.lt_or_ge k L.length with hlt | hge
    · obtain ⟨s, hs⟩ := get_lt hlt
      obtain ⟨b, off, rfl, hb, h0, h1⟩ := HA.out.on HB.out k s hs
      have HS := Lib.hid hs
      clear hs
      cases q1 : nodeB n s.1 with
      | false =>
        have HE := Lib.hid (chk_bad H1.out H2.out H3.out (all_not HS.out (by rw [inA_node, q1]; rfl)))
        go_wp2_with fail
        refine (graph_isNode _ _ _ _ _ _).mono ?_
        rintro e w' ⟨rfl, hb'⟩
        have HB' := Lib.hid (bstep (HB.out.alloc HB.out.size _) hb')
        clear hb'
        go_wp2_with fail
        go_ret
        exact ⟨ret_int HE.out.symm, HB'.out⟩
      | true =>
        go_wp2_with fail
        refine (graph_isNode _ _ _ _ _ _).mono ?_
        rintro e w' ⟨rfl, hb'⟩
        have HB' := Lib.hid (bstep (HB.out.alloc HB.out.size _) hb')
        have hx2 := (HX.out.on (below_alloc _ _)).on hb'
        have HX2 := Lib.hid hx2
        obtain ⟨_, b0, b1⟩ := hx2
        have b2 : w'.cell? ⟨wr.heap.size, 1, none⟩ = some (.int .i64 s.2) := (hb'.cell (p := ⟨wr.heap.size, 1, none⟩) (by simp)).trans (by simp)
        clear hb'
        cases q2 : nodeB n s.2 with
        | false =>
          have HE := Lib.hid (chk_bad H1.out H2.out H3.out (all_not HS.out (by rw [inA_node, q2, Bool.and_false])))
          go_wp2_with fail
          refine (graph_isNode _ _ _ _ _ _).mono ?_
          rintro e w2 ⟨rfl, hb2⟩
          have HB2 := Lib.hid (bstep HB'.out hb2)
          clear hb2
          go_wp2_with fail
          go_ret
          exact ⟨ret_int HE.out.symm, HB2.out⟩
        | true =>
          have HO : Hid (inA n s = true) := (by rw [inA_node, q1, q2]; rfl : inA n s = true)
          go_wp2_with fail
          refine (graph_isNode _ _ _ _ _ _).mono ?_
          rintro e w2 ⟨rfl, hb2⟩
          have HB2 := Lib.hid (bstep HB'.out hb2)
          have HX3 := Lib.hid (HX2.out.on hb2)
          clear hb2
          go_wp2_with fail
          go_roundw
          case rel =>
            refine ⟨k + 1, by omega, by go_num, ?_, HX3.out, HB2.out⟩
            intro j u hj hu
            rcases Nat.lt_or_eq_of_le (Nat.le_of_lt_succ hj) with h | h
            · exact HV.out j u h hu
            · subst h
              have e := HS.out
              rw [hu] at e; cases e; exact HO.out
          case measure => simp [intOf]; omega
    · obtain rfl : k = L.length := by omega
      have HE := Lib.hid (chk_good H1.out H2.out H3.out (all_of HV.out))
      go_wp2_with fail
      go_ret
      exact ⟨ret_int HE.out.symm, HB.out⟩

set_option maxHeartbeats 800000 in
theorem ref_Check (n : Int) (L : List Pr) (A : Option Addr) (c : Nat) (w : World) (ha : Ars w A L) (hm : L.length ≤ 9223372036854775807) :
    Calls Try.prog 15 #[.agg #[.int .i64 n, .slice A L.length c]] w fun e w' => e = .returned (.int .i64 (chkE n L)) ∧ Below w.heap.size w w' := by
  have HA := Lib.hid ha
  clear ha
  rcases Int.lt_or_le n 0 with h1 | h1
  · have H := Lib.hid (chk_rng (L := L) (Or.inl h1))
    go_enter Try.func15, Try.ntmps15
    go_wp2_with fail
    go_ret
    exact ⟨ret_int H.out.symm, below_alloc _ _⟩
  have d1 : decide (n < 0) = false := decide_eq_false (by omega)
  rcases Int.lt_or_le 64 n with h2 | h2
  · have H := Lib.hid (chk_rng (L := L) (Or.inr h2))
    go_enter Try.func15, Try.ntmps15
    go_wp2_with fail
    go_ret
    exact ⟨ret_int H.out.symm, below_alloc _ _⟩
  have d2 : decide (64 < n) = false := decide_eq_false (by omega)
  rcases Nat.lt_or_ge 512 L.length with h3 | h3
  · have H := Lib.hid (chk_full h1 h2 h3)
    have h4 : (512 : Int) < (L.length : Int) := by omega
    go_enter Try.func15, Try.ntmps15
    go_wp2_with fail
    go_ret
    exact ⟨ret_int H.out.symm, below_alloc _ _⟩
  have d3 : decide ((512 : Int) < (L.length : Int)) = false := decide_eq_false (by omega)
  have H1 := Lib.hid h1
  have H2 := Lib.hid h2
  have H3 := Lib.hid h3
  clear h1 h2 h3
  go_enter Try.func15, Try.ntmps15
  go_wp2_with fail
  go_loopw [3] (fun i wr => ∃ k : Nat, k ≤ L.length ∧ i = .int .i64 k ∧ (∀ j s, j < k → L[j]? = some s → inA n s = true) ∧ Bx wr w.heap.size n A L.length c ∧ Below w.heap.size w wr) (fun i _ => L.length - (intOf i).toNat)
  case atStart => exact ⟨0, Nat.zero_le _, rfl, fun j t h => absurd h (by omega), Bx.new _ _ _ _ _ _, below_alloc _ _⟩
  case round =>
    obtain ⟨k, hk, rfl, hv, hbx, hbel⟩ := hrel
    have HV := Lib.hid hv
    have HB := Lib.hid hbel
    have HX := Lib.hid hbx
    obtain ⟨_, a0, a1⟩ := hbx
    clear hv hbel
    rcases Nat.lt_or_ge k L.length with hlt | hge
    · obtain ⟨s, hs⟩ := get_lt hlt
      obtain ⟨b, off, rfl, hb, h0, h1⟩ := HA.out.on HB.out k s hs
      have HS := Lib.hid hs
      have i1 : (k : Int) < (L.length : Int) := by omega
      have i2 : (0 : Int) ≤ (k : Int) := by omega
      clear hs
      by_cases p1 : s.1 < 0
      · have HE := Lib.hid (chk_bad H1.out H2.out H3.out (all_not HS.out (by rw [inA_node, nodeB_lo p1]; rfl)))
        go_wp2_with fail
        go_quiet (fail)
        go_wp2_with fail
        go_ret
        exact ⟨ret_int HE.out.symm, below_drewN HB.out _⟩
      have e1 : decide (s.1 < 0) = false := decide_eq_false p1
      by_cases p2 : n ≤ s.1
      · have HE := Lib.hid (chk_bad H1.out H2.out H3.out (all_not HS.out (by rw [inA_node, nodeB_hi p2]; rfl)))
        go_wp2_with fail
        go_quiet (fail)
        go_wp2_with fail
        go_ret
        exact ⟨ret_int HE.out.symm, below_drewN HB.out _⟩
      have e2 : decide (n ≤ s.1) = false := decide_eq_false p2
      by_cases p3 : s.2 < 0
      · have HE := Lib.hid (chk_bad H1.out H2.out H3.out (all_not HS.out (by rw [inA_node, nodeB_lo p3, Bool.and_false])))
        go_wp2_with fail
        go_quiet (fail)
        go_wp2_with fail
        go_ret
        exact ⟨ret_int HE.out.symm, below_drewN HB.out _⟩
      have e3 : decide (s.2 < 0) = false := decide_eq_false p3
      by_cases p4 : n ≤ s.2
      · have HE := Lib.hid (chk_bad H1.out H2.out H3.out (all_not HS.out (by rw [inA_node, nodeB_hi p4, Bool.and_false])))
        go_wp2_with fail
        go_quiet (fail)
        go_wp2_with fail
        go_ret
        exact ⟨ret_int HE.out.symm, below_drewN HB.out _⟩
      have e4 : decide (n ≤ s.2) = false := decide_eq_false p4
      have HO : Hid (inA n s = true) := (by rw [inA_node, nodeB_ok (by omega) (by omega), nodeB_ok (by omega) (by omega)]; rfl : inA n s = true)
      clear p1 p2 p3 p4
      go_wp2_with fail
      go_quiet (fail)
      go_wp2_with fail
      go_roundw
      case rel =>
        refine ⟨k + 1, by omega, by go_num, ?_, HX.out.on (below_drewN (Below.refl _ _) _), below_drewN HB.out _⟩
        intro j u hj hu
        rcases Nat.lt_or_eq_of_le (Nat.le_of_lt_succ hj) with h | h
        · exact HV.out j u h hu
        · subst h
          have e := HS.out
          rw [hu] at e; cases e; exact HO.out
      case measure => simp [intOf]; omega
    · obtain rfl : k = L.length := by omega
      have HE := Lib.hid (chk_good H1.out H2.out H3.out (all_of HV.out))
      go_wp2_with fail
      go_ret
      exact ⟨ret_int HE.out.symm, HB.out⟩
#print axioms graph_Check
#print axioms ref_Check
end Go.Proofs.Ytlbknnafecdakaa.Graph
