/- Contracts of inRange and good; the sum of the lengths. -/
import Derived.Test.YtnblpooimgpgoaaIsoH
namespace Go.Proofs.Ytnblpooimgpgoaa.Iso
open Go.ChangeShapes Go.WideShapes Go.RowKit Go.Lib Go.Proofs.Ytnblpooimgpgoaa.Rw
set_option linter.unusedVariables false
set_option maxRecDepth 100000

/-- A run's cells. -/
abbrev cR (r : Rn) : List Value := [.int .i64 r.1, .int .i64 r.2.1, .bool r.2.2]
theorem cR_len (r : Rn) : (cR r).length = 3 := rfl
abbrev Rns (w : World) (A : Option Addr) (L : List Rn) : Prop := Rd cR 3 w A L
theorem rd_at {w : World} {A : Option Addr} {L : List Rn} (h : Rns w A L) {k : Nat} {r : Rn} (hr : L[k]? = some r) : ∃ b off, A = some ⟨b, off, none⟩ ∧ b < w.heap.size ∧
    w.cell? ⟨b, off + k * 3, none⟩ = some (.int .i64 r.1) ∧ w.cell? ⟨b, off + k * 3 + 1, none⟩ = some (.int .i64 r.2.1) ∧ w.cell? ⟨b, off + k * 3 + 2, none⟩ = some (.bool r.2.2) := by
  obtain ⟨b, off, e, hlt, hc⟩ := h k r hr
  exact ⟨b, off, e, hlt, hc 0 _ rfl, hc 1 _ rfl, hc 2 _ rfl⟩
theorem gd_a {a n : Int} {b : Bool} (h : ¬ 1 ≤ n) : gd (a, n, b) = false := by unfold gd; simp [h]
theorem gd_b {a n : Int} {b : Bool} (h : ¬ n ≤ 17179869184) : gd (a, n, b) = false := by unfold gd ml; simp [h]
theorem gd_c {a n : Int} {b : Bool} (h : ¬ 0 ≤ a) : gd (a, n, b) = false := by unfold gd; simp [h]
theorem gd_d {a n : Int} {b : Bool} (h : ¬ a < 17179869184) : gd (a, n, b) = false := by unfold gd ml; simp [h]
theorem gd_e {a n : Int} {b : Bool} (h1 : 1 ≤ n) (h2 : n ≤ 17179869184) (h3 : 0 ≤ a) (h4 : a < 17179869184) : gd (a, n, b) = if b then decide (0 ≤ a - n + 1) else decide (a + n ≤ 17179869184) := by
  unfold gd ml; simp [h1, h2, h3, h4]
theorem gd_in {a n : Int} {b : Bool} (h1 : 1 ≤ n) (h2 : n ≤ 17179869184) (h3 : 0 ≤ a) (h4 : a < 17179869184) : inW (imF a n b) (imT a n b) 17179869184 = gd (a, n, b) := by
  rw [gd_e h1 h2 h3 h4]
  unfold inW imF imT
  cases b with
  | true => rw [Bool.eq_iff_iff]; simp; omega
  | false => rw [Bool.eq_iff_iff]; simp; omega

set_option maxHeartbeats 800000 in
theorem iso_inRange (a n : Int) (b : Bool) (w : World) :
    Calls Try.prog 41 #[.agg #[.int .i64 a, .int .i64 n, .bool b]] w fun e w' => e = .returned (.bool (gd (a, n, b))) ∧ Below w.heap.size w w' := by
  rcases Int.lt_or_le n 1 with h1 | h1
  · have d1 : decide (1 ≤ n) = false := decide_eq_false (by omega)
    rw [gd_a (by omega)]
    clear h1
    go_enter Try.func41, Try.ntmps41
    go_wp2_with fail
    go_ret
    exact ⟨rfl, below_alloc _ _⟩
  rcases Int.lt_or_le 17179869184 n with h2 | h2
  · have d1 : decide (1 ≤ n) = true := decide_eq_true (by omega)
    have d2 : decide (n ≤ 17179869184) = false := decide_eq_false (by omega)
    rw [gd_b (by omega)]
    clear h1 h2
    go_enter Try.func41, Try.ntmps41
    go_wp2_with fail
    go_ret
    exact ⟨rfl, below_alloc _ _⟩
  rcases Int.lt_or_le a 0 with h3 | h3
  · have d1 : decide (1 ≤ n) = true := decide_eq_true (by omega)
    have d2 : decide (n ≤ 17179869184) = true := decide_eq_true (by omega)
    have d3 : decide (0 ≤ a) = false := decide_eq_false (by omega)
    rw [gd_c (by omega)]
    clear h1 h2 h3
    go_enter Try.func41, Try.ntmps41
    go_wp2_with fail
    go_ret
    exact ⟨rfl, below_alloc _ _⟩
  rcases Int.lt_or_le a 17179869184 with h4 | h4
  · have d1 : decide (1 ≤ n) = true := decide_eq_true (by omega)
    have d2 : decide (n ≤ 17179869184) = true := decide_eq_true (by omega)
    have d3 : decide (0 ≤ a) = true := decide_eq_true (by omega)
    have d4 : decide (a < 17179869184) = true := decide_eq_true (by omega)
    have HC := Lib.hid fun W => iso_images a n b W (by unfold big; omega) (by unfold big; omega)
    rw [← gd_in h1 h2 h3 h4]
    clear h1 h2 h3 h4
    go_enter Try.func41, Try.ntmps41
    go_wp2_with fail
    refine (HC.out _).mono ?_
    rintro e w1 ⟨rfl, hb1⟩
    go_wp2_with fail
    refine (iso_isWithin _ _ _ _).mono ?_
    rintro e w2 ⟨rfl, hb2⟩
    go_wp2_with fail
    go_ret
    exact ⟨rfl, bstep (bstep (below_alloc _ _) hb1) hb2⟩
  · have d1 : decide (1 ≤ n) = true := decide_eq_true (by omega)
    have d2 : decide (n ≤ 17179869184) = true := decide_eq_true (by omega)
    have d3 : decide (0 ≤ a) = true := decide_eq_true (by omega)
    have d4 : decide (a < 17179869184) = false := decide_eq_false (by omega)
    rw [gd_d (by omega)]
    clear h1 h2 h3 h4
    go_enter Try.func41, Try.ntmps41
    go_wp2_with fail
    go_ret
    exact ⟨rfl, below_alloc _ _⟩

set_option maxHeartbeats 800000 in
theorem ref_good (a n : Int) (b : Bool) (w : World) :
    Calls Try.prog 43 #[.agg #[.int .i64 a, .int .i64 n, .bool b]] w fun e w' => e = .returned (.bool (gd (a, n, b))) ∧ Below w.heap.size w w' := by
  rcases Int.lt_or_le n 1 with h1 | h1
  · have d1 : decide (n < 1) = true := decide_eq_true (by omega)
    rw [gd_a (by omega)]
    clear h1
    go_enter Try.func43, Try.ntmps43
    go_wp2_with fail
    go_ret
    exact ⟨rfl, below_alloc _ _⟩
  rcases Int.lt_or_le 17179869184 n with h2 | h2
  · have d1 : decide (n < 1) = false := decide_eq_false (by omega)
    have d2 : decide (17179869184 < n) = true := decide_eq_true (by omega)
    rw [gd_b (by omega)]
    clear h1 h2
    go_enter Try.func43, Try.ntmps43
    go_wp2_with fail
    go_ret
    exact ⟨rfl, below_alloc _ _⟩
  rcases Int.lt_or_le a 0 with h3 | h3
  · have d1 : decide (n < 1) = false := decide_eq_false (by omega)
    have d2 : decide (17179869184 < n) = false := decide_eq_false (by omega)
    have d3 : decide (a < 0) = true := decide_eq_true (by omega)
    rw [gd_c (by omega)]
    clear h1 h2 h3
    go_enter Try.func43, Try.ntmps43
    go_wp2_with fail
    go_ret
    exact ⟨rfl, below_alloc _ _⟩
  rcases Int.lt_or_le a 17179869184 with h4 | h4
  · have d1 : decide (n < 1) = false := decide_eq_false (by omega)
    have d2 : decide (17179869184 < n) = false := decide_eq_false (by omega)
    have d3 : decide (a < 0) = false := decide_eq_false (by omega)
    have d4 : decide (17179869184 ≤ a) = false := decide_eq_false (by omega)
    have e1 : IntKind.i64.wrap (a - n) = a - n := wrap_id (by omega)
    have e2 : IntKind.i64.wrap (a - n + 1) = a - n + 1 := wrap_id (by omega)
    have e3 : IntKind.i64.wrap (a + n) = a + n := wrap_id (by omega)
    rw [gd_e h1 h2 h3 h4]
    clear h1 h2 h3 h4
    go_enter Try.func43, Try.ntmps43
    cases b with
    | true =>
      go_wp2_with fail
      go_ret
      exact ⟨rfl, below_alloc _ _⟩
    | false =>
      go_wp2_with fail
      go_ret
      exact ⟨rfl, below_alloc _ _⟩
  · have d1 : decide (n < 1) = false := decide_eq_false (by omega)
    have d2 : decide (17179869184 < n) = false := decide_eq_false (by omega)
    have d3 : decide (a < 0) = false := decide_eq_false (by omega)
    have d4 : decide (17179869184 ≤ a) = true := decide_eq_true (by omega)
    rw [gd_d (by omega)]
    clear h1 h2 h3 h4
    go_enter Try.func43, Try.ntmps43
    go_wp2_with fail
    go_ret
    exact ⟨rfl, below_alloc _ _⟩

theorem lenM_mul {L : List Rn} (h : ∀ r ∈ L, 1 ≤ r.2.1 ∧ r.2.1 ≤ ml) : 0 ≤ lenM L ∧ lenM L ≤ ml * (L.length : Int) := by
  induction L with
  | nil => simp [lenM]
  | cons r L ih =>
    have h1 := h r (by simp)
    have h2 := ih fun s hs => h s (by simp [hs])
    simp only [lenM, List.length_cons]
    have h3 : ml * ((L.length + 1 : Nat) : Int) = ml * (L.length : Int) + ml := by rw [show ((L.length + 1 : Nat) : Int) = (L.length : Int) + 1 by omega, Int.mul_add, Int.mul_one]
    rw [h3]
    unfold ml at *
    omega
theorem lenM_lim {L : List Rn} (h : ∀ r ∈ L, 1 ≤ r.2.1 ∧ r.2.1 ≤ ml) (hm : L.length ≤ 600) (k : Nat) : 0 ≤ lenM (L.take k) ∧ lenM (L.take k) ≤ 17592186044416 := by
  have h1 := lenM_mul (L := L.take k) fun r hr => h r (List.mem_of_mem_take hr)
  have h2 : ((L.take k).length : Int) ≤ 600 := by rw [List.length_take]; omega
  refine ⟨h1.1, Int.le_trans h1.2 ?_⟩
  have h3 : ml * ((L.take k).length : Int) ≤ ml * 600 := Int.mul_le_mul_of_nonneg_left h2 (by decide)
  exact Int.le_trans h3 (by decide)

set_option maxHeartbeats 800000 in
theorem iso_total (L : List Rn) (A : Option Addr) (c : Nat) (w : World) (ha : Rns w A L) (hm : L.length ≤ 600) (hg : ∀ r ∈ L, 1 ≤ r.2.1 ∧ r.2.1 ≤ ml) :
    Calls Try.prog 42 #[.slice A L.length c] w fun e w' => e = .returned (.int .i64 (lenM L)) ∧ Below w.heap.size w w' := by
  have HA := Lib.hid ha
  have HL := Lib.hid (lenM_lim hg hm)
  clear ha hg
  go_enter Try.func42, Try.ntmps42
  go_wp2_with fail
  go_loopw [8, 3] (fun i s wr => ∃ k : Nat, k ≤ L.length ∧ i = .int .i64 k ∧ s = .int .i64 (lenM (L.take k)) ∧ Below w.heap.size w wr) (fun i s _ => L.length - (intOf i).toNat)
  case atStart => exact ⟨0, Nat.zero_le _, rfl, rfl, Below.refl _ _⟩
  case round =>
    obtain ⟨k, hk, rfl, rfl, hbel⟩ := hrel
    have HB := Lib.hid hbel
    clear hbel
    rcases Nat.lt_or_ge k L.length with hlt | hge
    · obtain ⟨r, hr⟩ := get_lt hlt
      obtain ⟨b, off, rfl, hb, h0, h1, h2⟩ := rd_at (HA.out.on HB.out) hr
      have HS := Lib.hid (lenM_take hr)
      have e1 : IntKind.i64.wrap (lenM (L.take k) + r.2.1) = lenM (L.take k) + r.2.1 := by
        have := HL.out (k + 1); rw [lenM_take hr] at this; exact wrap_id (by omega)
      clear hr
      go_wp2_with fail
      go_roundw
      case rel => exact ⟨k + 1, by omega, by go_num, by rw [HS.out], HB.out.alloc HB.out.size _⟩
      case measure => simp [intOf]; omega
    · obtain rfl : k = L.length := by omega
      have HE := Lib.hid (show lenM (L.take L.length) = lenM L by rw [List.take_length])
      go_wp2_with fail
      go_ret
      exact ⟨ret_int HE.out, HB.out⟩
set_option maxHeartbeats 800000 in
theorem ref_length (L : List Rn) (A : Option Addr) (c : Nat) (w : World) (ha : Rns w A L) (hm : L.length ≤ 600) (hg : ∀ r ∈ L, 1 ≤ r.2.1 ∧ r.2.1 ≤ ml) :
    Calls Try.prog 44 #[.slice A L.length c] w fun e w' => e = .returned (.int .i64 (lenM L)) ∧ Below w.heap.size w w' := by
  have HA := Lib.hid ha
  have HL := Lib.hid (lenM_lim hg hm)
  clear ha hg
  go_enter Try.func44, Try.ntmps44
  go_wp2_with fail
  go_loopw [4, 3] (fun i s wr => ∃ k : Nat, k ≤ L.length ∧ i = .int .i64 k ∧ s = .int .i64 (lenM (L.take k)) ∧ Below w.heap.size w wr) (fun i s _ => L.length - (intOf i).toNat)
  case atStart => exact ⟨0, Nat.zero_le _, rfl, rfl, Below.refl _ _⟩
  case round =>
    obtain ⟨k, hk, rfl, rfl, hbel⟩ := hrel
    have HB := Lib.hid hbel
    clear hbel
    rcases Nat.lt_or_ge k L.length with hlt | hge
    · obtain ⟨r, hr⟩ := get_lt hlt
      obtain ⟨b, off, rfl, hb, h0, h1, h2⟩ := rd_at (HA.out.on HB.out) hr
      have HS := Lib.hid (lenM_take hr)
      have i1 : (k : Int) < (L.length : Int) := by omega
      have i2 : (0 : Int) ≤ (k : Int) := by omega
      have e1 : IntKind.i64.wrap (lenM (L.take k) + r.2.1) = lenM (L.take k) + r.2.1 := by
        have := HL.out (k + 1); rw [lenM_take hr] at this; exact wrap_id (by omega)
      clear hr
      go_wp2_with fail
      go_roundw
      case rel => exact ⟨k + 1, by omega, by go_num, by rw [HS.out], HB.out⟩
      case measure => simp [intOf]; omega
    · obtain rfl : k = L.length := by omega
      have HE := Lib.hid (show lenM (L.take L.length) = lenM L by rw [List.take_length])
      go_wp2_with fail
      go_ret
      exact ⟨ret_int HE.out, HB.out⟩
#print axioms iso_total
#print axioms ref_length
end Go.Proofs.Ytnblpooimgpgoaa.Iso
