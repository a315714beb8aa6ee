/- Several texts in one: FibreF, FibreG, FibreH. -/
import Derived.Test.YtgomokdklajlcaaPk11
import Derived.Test.YtgomokdklajlcaaPk10
import Derived.Test.YtgomokdklajlcaaPk3
/- Masses, Add of the reference. -/
namespace Go.Proofs.Ytgomokdklajlcaa.Fibre
open Go.ChangeShapes Go.WideShapes Go.RowKit Go.Lib
open Go.Proofs.Ytgomokdklajlcaa.Mem (Cl eI Own)
open Go.Proofs.Ytgomokdklajlcaa.Rw (Rd Row Kd glt get_lt ret_bool ret_int wrap_id bstep below_drewN below_drew drew_below below_alloc cI cI_len kdI flat_cI rd_one step_rows take_snoc_of)
open Go.Proofs.Ytgomokdklajlcaa.Share (partsL)
set_option linter.unusedVariables false
set_option maxRecDepth 100000

/-- A list of the call's own, and an error. -/
def ResM (L : List Int) (E : Int) (w : World) : Ending → World → Prop := fun e w' => ∃ v, e = .returned (.tuple #[v, .int .i64 E]) ∧ Own eI 3 w.heap.size w' v L ∧ Below w.heap.size w w'
theorem ResM.none_ {E : Int} {w w' : World} (hb : Below w.heap.size w w') : ResM [] E w (.returned (.tuple #[.slice none 0 0, .int .i64 E])) w' := ⟨_, rfl, Mem.Own.nil _ _ _ _, hb⟩
theorem own_row {L : List Int} {B : Nat} {w : World} {v : Value} (h : Row cI 1 3 B w v L) : Own eI 3 B w v L := by
  unfold Row at h
  rw [flat_cI] at h
  exact h
theorem masE_rec {r : List Int} {mass : Int} (h : ¬ recE r (lenI r) = 0) : masE r mass = recE r (lenI r) ∧ masL r mass = [] := by
  have h1 : masE r mass = recE r (lenI r) := if_neg h
  exact ⟨h1, if_neg (by rw [h1]; exact h)⟩
theorem masE_mass {r : List Int} {mass : Int} (h : recE r (lenI r) = 0) (h2 : inM MM mass = false) : masE r mass = 1 ∧ masL r mass = [] := by
  have h1 : masE r mass = 1 := by unfold masE; rw [if_pos h, h2]; rfl
  exact ⟨h1, if_neg (by rw [h1]; decide)⟩
theorem masE_ok {r : List Int} {mass : Int} (h : recE r (lenI r) = 0) (h2 : inM MM mass = true) : masE r mass = 0 ∧ masL r mass = partsL mass r ∧ Rcp mass r := by
  have h1 : masE r mass = 0 := by unfold masE; rw [if_pos h, h2]; rfl
  have h3 := inM_iff.mp h2
  obtain ⟨h4, h5⟩ := recE_of h
  obtain ⟨h6, h7, -, h8⟩ := lisE_of h4
  exact ⟨h1, if_pos h1, h3.1, h3.2, h6, h7, h8, h5⟩
set_option maxHeartbeats 800000 in
theorem rr_Masses (r : List Int) (A : Option Addr) (n c : Nat) (hn : n = r.length) (mass : Int) (w : World) (ha : Cl eI w A r) (hm : n ≤ 9223372036854775807) :
    Calls Try.prog 21 #[.slice A n c, .int .i64 mass] w (ResM (masL r mass) (masE r mass) w) := by
  have HA := Lib.hid ha
  have hlen : lenI r = (n : Int) := by unfold lenI; rw [hn]
  have HR := Lib.hid (rr_Recipe r A n c hn n w ha hm)
  obtain ⟨F, hF⟩ : ∃ F, recE r (lenI r) = F := ⟨_, rfl⟩
  have hF2 : recE r (n : Int) = F := by rw [← hlen]; exact hF
  rw [hF2] at HR
  by_cases hz : F = 0
  rotate_left
  · obtain ⟨z1, z2⟩ := ne_zero hz
    obtain ⟨e1, e2⟩ := masE_rec (mass := mass) (by rw [hF]; exact hz)
    rw [e1, e2, hF]
    clear ha hn hF hF2 hz hlen e1 e2
    go_enter Try.func21, Try.ntmps21
    go_wp2_with fail
    refine HR.out.mono ?_
    rintro e w1 ⟨rfl, hb⟩
    have B1 := Lib.hid hb
    clear hb
    go_wp2_with fail
    go_ret2
    exact ResM.none_ B1.out
  subst hz
  rcases Int.lt_or_le mass 0 with h0 | h0
  · have t0 : decide (mass < 0) = true := decide_eq_true h0
    obtain ⟨e1, e2⟩ := masE_mass (mass := mass) hF (Bool.eq_false_iff.mpr fun h => by have := inM_iff.mp h; omega)
    rw [e1, e2]
    clear ha hn hF hF2 hlen e1 e2 h0
    go_enter Try.func21, Try.ntmps21
    go_wp2_with fail
    refine HR.out.mono ?_
    rintro e w1 ⟨rfl, hb⟩
    have B1 := Lib.hid hb
    clear hb
    go_wp2_with fail
    go_ret2
    exact ResM.none_ B1.out
  have t0 : decide (mass < 0) = false := decide_eq_false (by omega)
  rcases Int.lt_or_le 1099511627776 mass with h1 | h1
  · have t1 : decide (1099511627776 < mass) = true := decide_eq_true h1
    obtain ⟨e1, e2⟩ := masE_mass (mass := mass) hF (Bool.eq_false_iff.mpr fun h => by have := inM_iff.mp h; have hM : MM = 1099511627776 := rfl; omega)
    rw [e1, e2]
    clear ha hn hF hF2 hlen e1 e2 h0 h1
    go_enter Try.func21, Try.ntmps21
    go_wp2_with fail
    refine HR.out.mono ?_
    rintro e w1 ⟨rfl, hb⟩
    have B1 := Lib.hid hb
    clear hb
    go_wp2_with fail
    go_ret2
    exact ResM.none_ B1.out
  have t1 : decide (1099511627776 < mass) = false := decide_eq_false (by omega)
  obtain ⟨e1, e2, hp⟩ := masE_ok (mass := mass) hF (inM_iff.mpr ⟨h0, h1⟩)
  have HS := Lib.hid fun (W : World) (h : Cl eI W A r) => rr_Split mass r A n c hn.symm W h hp
  rw [e1, e2]
  clear ha hn hF hF2 hlen e1 e2 h0 h1 hp
  go_enter Try.func21, Try.ntmps21
  go_wp2_with fail
  refine HR.out.mono ?_
  rintro e w1 ⟨rfl, hb⟩
  have B1 := Lib.hid hb
  clear hb
  go_wp2_with fail
  refine (HS.out w1 (HA.out.on B1.out)).mono ?_
  rintro e w2 ⟨v, rfl, ho, hb⟩
  have HO := Lib.hid (ho.less B1.out.size)
  have B2 := Lib.hid (bstep B1.out hb)
  clear ho hb
  go_wp2_with fail
  go_ret2
  exact ⟨v, rfl, HO.out, B2.out⟩

/-! ### Add -/
theorem addE_len {a b : List Int} (h : ¬ a.length = b.length) : addE a b = 17 ∧ addL a b = [] := by
  have h1 : addE a b = 17 := if_neg h
  exact ⟨h1, if_neg (by rw [h1]; decide)⟩
theorem addE_a {a b : List Int} (h : a.length = b.length) (h2 : ¬ totE a = 0) : addE a b = totE a ∧ addL a b = [] := by
  have h1 : addE a b = totE a := by unfold addE; rw [if_pos h, if_neg h2]
  exact ⟨h1, if_neg (by rw [h1]; exact h2)⟩
theorem addE_b {a b : List Int} (h : a.length = b.length) (h2 : totE a = 0) (h3 : ¬ totE b = 0) : addE a b = totE b ∧ addL a b = [] := by
  have h1 : addE a b = totE b := by unfold addE; rw [if_pos h, if_pos h2, if_neg h3]
  exact ⟨h1, if_neg (by rw [h1]; exact h3)⟩
theorem addE_big {a b : List Int} (h : a.length = b.length) (h2 : totE a = 0) (h3 : totE b = 0) {k : Nat} {x y : Int} (hx : a[k]? = some x) (hy : b[k]? = some y) (hb : MM < x + y) : addE a b = 2 ∧ addL a b = [] := by
  have h1 : addE a b = 2 := by
    unfold addE
    rw [if_pos h, if_pos h2, if_pos h3, if_neg]
    intro ha
    have := of_decide_eq_true (List.all_eq_true.mp ha _ (List.mem_of_getElem? (addZ_at hx hy)))
    omega
  exact ⟨h1, if_neg (by rw [h1]; decide)⟩
theorem addZ_get : ∀ {a b : List Int} {k : Nat} {z : Int}, (addZ a b)[k]? = some z → ∃ x y, a[k]? = some x ∧ b[k]? = some y ∧ z = x + y
  | [], _, _, _, h => by simp [addZ] at h
  | _ :: _, [], _, _, h => by simp [addZ] at h
  | x :: a, y :: b, 0, z, h => by
    simp [addZ] at h
    exact ⟨x, y, rfl, rfl, h.symm⟩
  | x :: a, y :: b, k + 1, z, h => by
    rw [addZ, List.getElem?_cons_succ] at h
    obtain ⟨u, v, h1, h2, h3⟩ := addZ_get h
    exact ⟨u, v, by rw [List.getElem?_cons_succ]; exact h1, by rw [List.getElem?_cons_succ]; exact h2, h3⟩
theorem addE_ok {a b : List Int} (h : a.length = b.length) (h2 : totE a = 0) (h3 : totE b = 0) (hb : ∀ (k : Nat) (x y : Int), a[k]? = some x → b[k]? = some y → x + y ≤ MM) : addE a b = 0 ∧ addL a b = addZ a b := by
  have h1 : addE a b = 0 := by
    unfold addE
    rw [if_pos h, if_pos h2, if_pos h3, if_pos]
    refine List.all_eq_true.mpr fun z hz => decide_eq_true ?_
    obtain ⟨k, hk⟩ := List.mem_iff_getElem?.mp hz
    obtain ⟨x, y, hx, hy, rfl⟩ := addZ_get hk
    exact hb k x y hx hy
  exact ⟨h1, if_pos h1⟩
theorem addZ_take {a b : List Int} (h : a.length = b.length) {k : Nat} {x y : Int} (hx : a[k]? = some x) (hy : b[k]? = some y) : (addZ a b).take (k + 1) = (addZ a b).take k ++ [x + y] := take_snoc_of (addZ_at hx hy)
set_option maxHeartbeats 3200000 in
theorem rr_Add (a b : List Int) (A B : Option Addr) (n m c d : Nat) (hn : n = a.length) (hn' : m = b.length) (w : World) (ha : Cl eI w A a) (hb : Cl eI w B b) (hm : n ≤ 9223372036854775807) (hm2 : m ≤ 9223372036854775807) :
    Calls Try.prog 26 #[.slice A n c, .slice B m d] w (ResM (addL a b) (addE a b) w) := by
  have HA := Lib.hid ha
  have HB := Lib.hid hb
  by_cases hl : n = m
  rotate_left
  · have d1 : ((n : Int) != (m : Int)) = true := by simp; omega
    have d2 : ((n : Int) == (m : Int)) = false := beq_false_of_ne (by omega)
    obtain ⟨e1, e2⟩ := addE_len (a := a) (b := b) (by omega)
    rw [e1, e2]
    clear ha hb hn hn' hl e1 e2
    go_enter Try.func26, Try.ntmps26
    go_wp2_with fail
    go_ret2
    exact ResM.none_ (Below.refl _ _)
  subst hl
  have hab : a.length = b.length := by omega
  have d1 : ((n : Int) != (n : Int)) = false := by simp
  have d2 : ((n : Int) == (n : Int)) = true := by simp
  have la : lenI a = (n : Int) := by unfold lenI; rw [hn]
  have lb : lenI b = (n : Int) := by unfold lenI; rw [hn']
  have HPa := Lib.hid fun (W : World) (h : Cl eI W A a) => rr_Parts a A n c hn n W h hm
  have HPb := Lib.hid fun (W : World) (h : Cl eI W B b) => rr_Parts b B n d hn' n W h hm
  obtain ⟨F, hF⟩ : ∃ F, totE a = F := ⟨_, rfl⟩
  obtain ⟨G, hG⟩ : ∃ G, totE b = G := ⟨_, rfl⟩
  have hF2 : parE a (n : Int) = F := by rw [← hF]; unfold totE; rw [la]
  have hG2 : parE b (n : Int) = G := by rw [← hG]; unfold totE; rw [lb]
  rw [hF2] at HPa
  rw [hG2] at HPb
  by_cases hz : F = 0
  rotate_left
  · obtain ⟨z1, z2⟩ := ne_zero hz
    obtain ⟨e1, e2⟩ := addE_a hab (by rw [hF]; exact hz)
    rw [e1, e2, hF]
    clear ha hb hn hn' hab la lb hF hG hF2 hG2 hz e1 e2
    go_enter Try.func26, Try.ntmps26
    go_wp2_with fail
    refine (HPa.out w HA.out).mono ?_
    rintro e w1 ⟨rfl, hb⟩
    have B1 := Lib.hid hb
    clear hb
    go_wp2_with fail
    go_ret2
    exact ResM.none_ B1.out
  subst hz
  by_cases hz : G = 0
  rotate_left
  · obtain ⟨z1, z2⟩ := ne_zero hz
    obtain ⟨e1, e2⟩ := addE_b hab hF (by rw [hG]; exact hz)
    rw [e1, e2, hG]
    clear ha hb hn hn' hab la lb hF hG hF2 hG2 hz e1 e2
    go_enter Try.func26, Try.ntmps26
    go_wp2_with fail
    refine (HPa.out w HA.out).mono ?_
    rintro e w1 ⟨rfl, hb⟩
    have B1 := Lib.hid hb
    clear hb
    go_wp2_with fail
    refine (HPb.out w1 (HB.out.on B1.out)).mono ?_
    rintro e w2 ⟨rfl, hb⟩
    have B2 := Lib.hid (bstep B1.out hb)
    clear hb
    go_wp2_with fail
    go_ret2
    exact ResM.none_ B2.out
  subst hz
  obtain ⟨h1, h8, -, hal⟩ := lisE_of hF2
  obtain ⟨-, -, -, hbl⟩ := lisE_of hG2
  have HFG := Lib.hid (And.intro hab (And.intro hF hG))
  have HAl := Lib.hid hal
  have HBl := Lib.hid hbl
  have HN := Lib.hid (And.intro hn hn')
  have hn8 : n ≤ 8 := by omega
  obtain ⟨E, hE⟩ : ∃ E, addE a b = E := ⟨_, rfl⟩
  obtain ⟨L, hL⟩ : ∃ L, addL a b = L := ⟨_, rfl⟩
  have HE := Lib.hid hE
  have HL := Lib.hid hL
  rw [hE, hL]
  clear ha hb hn hn' hab la lb hF hG hF2 hG2 h1 h8 hal hbl hE hL
  go_enter Try.func26, Try.ntmps26
  go_wp2_with fail
  refine (HPa.out w HA.out).mono ?_
  rintro e w1 ⟨rfl, hb⟩
  have B1 := Lib.hid hb
  clear hb
  go_wp2_with fail
  refine (HPb.out w1 (HB.out.on B1.out)).mono ?_
  rintro e w2 ⟨rfl, hb⟩
  have B2 := Lib.hid (bstep B1.out hb)
  clear hb
  go_wp2_with fail
  go_loopw [8, 9] (fun v i wr => ∃ (k : Nat) (A' : Option Addr) (n' c' : Nat), k ≤ n ∧ i = .int .i64 k ∧ v = .slice A' n' c' ∧ Row cI 1 3 w.heap.size wr (.slice A' n' c') ((addZ a b).take k) ∧ (∀ (j : Nat) (x y : Int), j < k → a[j]? = some x → b[j]? = some y → x + y ≤ MM) ∧ Below w.heap.size w wr) (fun _ i _ => n - (RowKit.intOf i).toNat)
  case atStart => exact ⟨0, none, 0, 0, Nat.zero_le _, rfl, rfl, Row.nil _ _ _ _ _, fun j x y h => absurd h (by omega), B2.out⟩
  case round =>
    obtain ⟨k, A', n', c', hk, rfl, rfl, hrow, hv, hbel⟩ := hrel
    have HR := Lib.hid hrow
    have HW := Lib.hid hbel
    have HV := Lib.hid hv
    clear hrow hbel hv
    rcases Nat.lt_or_ge k n with hlt | hge
    · obtain ⟨x, hx⟩ := get_lt (L := a) (k := k) (by have := HN.out.1; omega)
      obtain ⟨y, hy⟩ := get_lt (L := b) (k := k) (by have := HN.out.2; omega)
      obtain ⟨b1, o1, hA0, hb1, h0⟩ := cl_at HA.out hx
      obtain ⟨b2, o2, hB0, hb2, h3⟩ := cl_at HB.out hy
      subst hA0
      subst hB0
      have x0 : wr.cell? ⟨b1, o1 + k, none⟩ = some (.int .i64 x) := (HW.out.cell (p := ⟨b1, o1 + k, none⟩) hb1).trans h0
      have y0 : wr.cell? ⟨b2, o2 + k, none⟩ = some (.int .i64 y) := (HW.out.cell (p := ⟨b2, o2 + k, none⟩) hb2).trans h3
      have HX := Lib.hid hx
      have HY := Lib.hid hy
      have hxl := HAl.out x (List.mem_of_getElem? hx)
      have hyl := HBl.out y (List.mem_of_getElem? hy)
      have hM : MM = 1099511627776 := rfl
      have i1 : (k : Int) < (n : Int) := by omega
      have i2 : (0 : Int) ≤ (k : Int) := by omega
      obtain ⟨s, hs⟩ : ∃ s, x + y = s := ⟨_, rfl⟩
      have ws : IntKind.i64.wrap s = s := wrap_id (by omega)
      have hwb1 : b1 < wr.heap.size := Nat.lt_of_lt_of_le hb1 HW.out.size
      have hwb2 : b2 < wr.heap.size := Nat.lt_of_lt_of_le hb2 HW.out.size
      have HBB := Lib.hid (And.intro hb1 hb2)
      have HS := Lib.hid hs
      clear hx hy h0 h3 hxl hyl hM hb1 hb2
      rcases Int.lt_or_le 1099511627776 s with hg | hg
      · have t0 : decide (1099511627776 < s) = true := decide_eq_true hg
        obtain ⟨e1, e2⟩ := addE_big HFG.out.1 HFG.out.2.1 HFG.out.2.2 HX.out HY.out (by rw [HS.out]; exact hg)
        obtain rfl : E = 2 := by rw [← HE.out]; exact e1
        obtain rfl : L = [] := by rw [← HL.out]; exact e2
        clear hg e1 e2
        go_wp2_with fail
        go_quiet (fail)
        go_wp2_with fail
        go_ret2
        exact ResM.none_ (below_drewN HW.out _)
      have t0 : decide (1099511627776 < s) = false := decide_eq_false (by omega)
      have HG := Lib.hid (show s ≤ MM from hg)
      have HTn : Hid ((addZ a b).take (k + 1) = (addZ a b).take k ++ [s]) := Lib.hid (by rw [addZ_take HFG.out.1 HX.out HY.out, HS.out])
      have HSl : Hid (((addZ a b).take k).length + 1 ≤ 1000000) := Lib.hid (by have := List.length_take_le k (addZ a b); omega)
      have HVn : Hid (∀ (j : Nat) (x y : Int), j < k + 1 → a[j]? = some x → b[j]? = some y → x + y ≤ MM) := Lib.hid (by
        intro j u v hj hu hv
        rcases Nat.lt_or_eq_of_le (Nat.le_of_lt_succ hj) with h | h
        · exact HV.out j u v h hu hv
        · subst h
          have e1 := HX.out
          have e2 := HY.out
          rw [hu] at e1; rw [hv] at e2; cases e1; cases e2
          rw [HS.out]; exact HG.out)
      clear hg
      go_wp2_with fail
      go_quiet (fail)
      go_wp2_with fail
      obtain ⟨wq, hwq⟩ : ∃ W, wr.drewN nq = W := ⟨_, rfl⟩
      have BQ : Hid (Below w.heap.size w wq) := hwq ▸ below_drewN HW.out _
      have bqq : Below wr.heap.size wr wq := hwq ▸ below_drewN (Below.refl _ _) _
      have RQ := Lib.hid (HR.out.on bqq)
      have u0 : wq.cell? ⟨b1, o1 + k, none⟩ = some (.int .i64 x) := (bqq.cell (p := ⟨b1, o1 + k, none⟩) hwb1).trans x0
      have v0 : wq.cell? ⟨b2, o2 + k, none⟩ = some (.int .i64 y) := (bqq.cell (p := ⟨b2, o2 + k, none⟩) hwb2).trans y0
      have q1 : b1 < wq.heap.size := Nat.lt_of_lt_of_le hwb1 bqq.size
      have q2 : b2 < wq.heap.size := Nat.lt_of_lt_of_le hwb2 bqq.size
      rw [hwq]
      clear hwq bqq x0 y0 hwb1 hwb2
      have HXl : Hid (∀ W : World, W.heap.size = wq.heap.size → ∀ ty, Rd cI 1 (W.alloc (.cells #[.int .i64 s] ty)) (some ⟨wq.heap.size, 0, none⟩) [s]) := fun W hW ty => rd_one cI_len (by rw [← hW]; exact heap_alloc_new _ _)
      have HCQ : Hid (∀ W, Below wq.heap.size wq W → W.cell? ⟨b1, o1 + k, none⟩ = some (.int .i64 x) ∧ W.cell? ⟨b2, o2 + k, none⟩ = some (.int .i64 y)) := fun W h =>
        ⟨(h.cell (p := ⟨b1, o1 + k, none⟩) q1).trans u0, (h.cell (p := ⟨b2, o2 + k, none⟩) q2).trans v0⟩
      have HGk : Hid (∀ W : World, wq.grownBy W (Value.slice A' n' c').ownBlock → W.cell? ⟨b1, o1 + k, none⟩ = some (.int .i64 x) ∧ W.cell? ⟨b2, o2 + k, none⟩ = some (.int .i64 y)) := fun W hg => by
        have hne1 : some b1 ≠ (Value.slice A' n' c').ownBlock := fun e => by have := (RQ.out.lt b1 e.symm).1; have := HBB.out.1; omega
        have hne2 : some b2 ≠ (Value.slice A' n' c').ownBlock := fun e => by have := (RQ.out.lt b2 e.symm).1; have := HBB.out.2; omega
        exact ⟨(hg.cell_far ⟨b1, o1 + k, none⟩ q1 hne1).trans u0, (hg.cell_far ⟨b2, o2 + k, none⟩ q2 hne2).trans v0⟩
      go_region_held3 (fun W => W.cell? ⟨b1, o1 + k, none⟩ = some (.int .i64 x) ∧ W.cell? ⟨b2, o2 + k, none⟩ = some (.int .i64 y))
        (first | exact HCQ.out _ (Below.refl _ _) | exact HCQ.out _ (drew_below _) | exact HCQ.out _ (below_drew (below_alloc _ _)) | exact HCQ.out _ (bstep (drew_below _) (below_alloc _ _)) | exact HGk.out _ HG5.out)
        ((refine step_rows kdI wq rfl (.tmp 45) (.tmp 55) rfl (.slice A' n' c') ((addZ a b).take k) (by simp [Act.eval]) RQ.out (by first | exact below_alloc _ _ | exact below_drew (below_alloc _ _) | exact bstep (drew_below _) (below_alloc _ _)) (some ⟨wq.heap.size, 0, none⟩) 1 1 [s] rfl (by simp [Act.eval]) (by first | exact HXl.out _ rfl _) HSl.out BQ.out.size ?_; intro A5 n5 c5 w5 hn5 hr5 hk5 hg5 hat5; have HN5 := Lib.hid hn5; have HR5 := Lib.hid hr5; have HG5 := Lib.hid hg5; clear hn5 hr5 hk5 hg5 hat5))
      all_goals
        have HB5 : Hid (Below w.heap.size w w5) := BQ.out.trans (RQ.out.below HG5.out BQ.out.size)
        have HR6 : Hid (Row cI 1 3 w.heap.size w5 (.slice A5 n5 c5) ((addZ a b).take (k + 1))) := Lib.hid (by rw [HTn.out]; exact HR5.out)
        go_wp2_with fail
        go_roundw
        case rel => exact ⟨k + 1, A5, n5, c5, by omega, by go_num, rfl, HR6.out, HVn.out, HB5.out⟩
        case measure => simp [RowKit.intOf]; omega
    · obtain rfl : k = n := by omega
      obtain ⟨e1, e2⟩ := addE_ok HFG.out.1 HFG.out.2.1 HFG.out.2.2 fun j x y hx hy => HV.out j x y (by have := glt hx; have := HN.out.1; omega) hx hy
      obtain rfl : E = 0 := by rw [← HE.out]; exact e1
      have HO : Hid (Own eI 3 w.heap.size wr (.slice A' n' c') L) := Lib.hid (by
        have h1 := own_row HR.out
        rw [List.take_of_length_le (by rw [addZ_len HFG.out.1, ← HN.out.1]; exact Nat.le_refl _), ← e2, HL.out] at h1
        exact h1)
      clear e1 e2
      go_wp2_with fail
      go_ret2
      exact ⟨_, rfl, HO.out, HW.out⟩
end Go.Proofs.Ytgomokdklajlcaa.Fibre
/- Cost, Near of the reference. -/
namespace Go.Proofs.Ytgomokdklajlcaa.Fibre
open Go.ChangeShapes Go.WideShapes Go.RowKit Go.Lib
open Go.Proofs.Ytgomokdklajlcaa.Mem (Cl eI Own)
open Go.Proofs.Ytgomokdklajlcaa.Rw (glt get_lt ret_bool ret_int wrap_id bstep below_drewN below_drew drew_below below_alloc)
open Go.Proofs.Ytgomokdklajlcaa.Share (sumK)
set_option linter.unusedVariables false
set_option maxRecDepth 100000

/-- The product of two numbers in millionths, rounded to the nearest integer, halves to the even one. -/
def mdC (x z : Int) : Int := Num.mdV x z 1000000 2
theorem mdC_lim (x z : Int) : -1125899906842624 ≤ mdC x z ∧ mdC x z ≤ 1125899906842624 := by
  unfold mdC Num.mdV
  split
  · omega
  · split
    · omega
    · split
      · omega
      · unfold Num.okV
        split
        · rename_i h; unfold Num.InR at h; exact h
        · omega
theorem cosK_lim (l : List Fb) (m : List Int) (hl : l.length = m.length) : ∀ k, k ≤ l.length → -(1125899906842624 * (k : Int)) ≤ cosK mdC l m k ∧ cosK mdC l m k ≤ 1125899906842624 * (k : Int)
  | 0, _ => by simp [cosK, cosS]
  | k + 1, hk => by
    have ih := cosK_lim l m hl k (by omega)
    obtain ⟨f, hf⟩ := get_lt (L := l) (k := k) (by omega)
    obtain ⟨z, hz⟩ := get_lt (L := m) (k := k) (by omega)
    have h1 := mdC_lim f.2 z
    rw [cosK_succ hl hf hz, show ((k + 1 : Nat) : Int) = (k : Int) + 1 by omega, Int.mul_add, Int.mul_one]
    omega
theorem cosE_chk {l : List Fb} {m : List Int} (h : ¬ chkE l = 0) : cosE mdC l m = chkE l ∧ cosV mdC l m = 0 := by
  have h1 : cosE mdC l m = chkE l := if_neg h
  exact ⟨h1, if_neg (by rw [h1]; exact h)⟩
theorem cosE_par {l : List Fb} {m : List Int} (h : chkE l = 0) (h2 : ¬ parE m (l.length : Int) = 0) : cosE mdC l m = parE m (l.length : Int) ∧ cosV mdC l m = 0 := by
  have h1 : cosE mdC l m = parE m (l.length : Int) := by unfold cosE; rw [if_pos h, if_neg h2]
  exact ⟨h1, if_neg (by rw [h1]; exact h2)⟩
theorem cosE_big {l : List Fb} {m : List Int} (h : chkE l = 0) (h2 : parE m (l.length : Int) = 0) (h3 : 1000000000000 < cosS mdC l m) : cosE mdC l m = 2 ∧ cosV mdC l m = 0 := by
  have h1 : cosE mdC l m = 2 := by unfold cosE; rw [if_pos h, if_pos h2, if_pos h3]
  exact ⟨h1, if_neg (by rw [h1]; decide)⟩
theorem cosE_ok {l : List Fb} {m : List Int} (h : chkE l = 0) (h2 : parE m (l.length : Int) = 0) (h3 : ¬ 1000000000000 < cosS mdC l m) : cosE mdC l m = 0 ∧ cosV mdC l m = cosS mdC l m := by
  have h1 : cosE mdC l m = 0 := by unfold cosE; rw [if_pos h, if_pos h2, if_neg h3]
  exact ⟨h1, if_pos h1⟩
set_option maxHeartbeats 3200000 in
theorem rr_Cost (l : List Fb) (m : List Int) (A B : Option Addr) (n n' c d : Nat) (hn : n = l.length) (hn' : n' = m.length) (w : World) (ha : Kds w A l) (hs : Sz l) (hb : Cl eI w B m) (hm : n ≤ 9223372036854775807) (hm2 : n' ≤ 9223372036854775807) :
    Calls Try.prog 28 #[.slice A n c, .slice B n' d] w fun e w' => e = .returned (.tuple #[.int .i64 (cosV mdC l m), .int .i64 (cosE mdC l m)]) ∧ Below w.heap.size w w' := by
  have HA := Lib.hid ha
  have HB := Lib.hid hb
  have HCk := Lib.hid (rr_Check l A n c hn w ha hs hm)
  obtain ⟨F, hF⟩ : ∃ F, chkE l = F := ⟨_, rfl⟩
  rw [hF] at HCk
  by_cases hz : F = 0
  rotate_left
  · obtain ⟨z1, z2⟩ := ne_zero hz
    obtain ⟨e1, e2⟩ := cosE_chk (l := l) (m := m) (by rw [hF]; exact hz)
    rw [e1, e2, hF]
    clear ha hb hs hn hn' hF hz e1 e2
    go_enter Try.func28, Try.ntmps28
    go_wp2_with fail
    refine HCk.out.mono ?_
    rintro e w1 ⟨rfl, hb⟩
    have B1 := Lib.hid hb
    clear hb
    go_wp2_with fail
    go_ret2
    exact ⟨rfl, B1.out⟩
  subst hz
  have HPa := Lib.hid fun (W : World) (h : Cl eI W B m) => rr_Parts m B n' d hn' n W h hm2
  obtain ⟨G, hG⟩ : ∃ G, parE m (l.length : Int) = G := ⟨_, rfl⟩
  have hG2 : parE m (n : Int) = G := by rw [hn]; exact hG
  rw [hG2] at HPa
  by_cases hz : G = 0
  rotate_left
  · obtain ⟨z1, z2⟩ := ne_zero hz
    obtain ⟨e1, e2⟩ := cosE_par (m := m) hF (by rw [hG]; exact hz)
    rw [e1, e2, hG]
    clear ha hb hs hn hn' hF hG hG2 hz e1 e2
    go_enter Try.func28, Try.ntmps28
    go_wp2_with fail
    refine HCk.out.mono ?_
    rintro e w1 ⟨rfl, hb⟩
    have B1 := Lib.hid hb
    clear hb
    go_wp2_with fail
    refine (HPa.out w1 (HB.out.on B1.out)).mono ?_
    rintro e w2 ⟨rfl, hb⟩
    have B2 := Lib.hid (bstep B1.out hb)
    clear hb
    go_wp2_with fail
    go_ret2
    exact ⟨rfl, B2.out⟩
  subst hz
  obtain ⟨h1, h8, hlm, hml⟩ := lisE_of hG
  have hnn : n' = n := by omega
  have hll : l.length = m.length := by omega
  have HLL := Lib.hid hll
  have HFG := Lib.hid (And.intro hF hG)
  have HN := Lib.hid (And.intro hn hn')
  have HLim := Lib.hid (cosK_lim l m hll)
  have hn8 : n ≤ 8 := by omega
  have HMd : Hid (∀ (x z : Int) (W : World), Calls Try.prog 45 #[.int .i64 x, .int .i64 z, .int .i64 1000000, .int .i64 2] W fun e w' => ∃ E, e = .returned (.tuple #[.int .i64 (mdC x z), .int .i64 E]) ∧ Below W.heap.size W w') := fun x z W =>
    (Num.ref_muldiv x z 1000000 2 W).mono fun e w' ⟨h3, h4⟩ => ⟨_, h3, h4⟩
  obtain ⟨E, hE⟩ : ∃ E, cosE mdC l m = E := ⟨_, rfl⟩
  obtain ⟨V, hV⟩ : ∃ V, cosV mdC l m = V := ⟨_, rfl⟩
  have HE := Lib.hid hE
  have HV := Lib.hid hV
  rw [hE, hV]
  subst hnn
  clear ha hb hs hn hn' hF hG hG2 h1 h8 hlm hml hll hE hV
  go_enter Try.func28, Try.ntmps28
  go_wp2_with fail
  refine HCk.out.mono ?_
  rintro e w1 ⟨rfl, hb⟩
  have B1 := Lib.hid hb
  clear hb
  go_wp2_with fail
  refine (HPa.out w1 (HB.out.on B1.out)).mono ?_
  rintro e w2 ⟨rfl, hb⟩
  have B2 := Lib.hid (bstep B1.out hb)
  clear hb
  go_wp2_with fail
  go_loopw [8, 9] (fun s i wr => ∃ (k : Nat) (S : Int), k ≤ n' ∧ i = .int .i64 k ∧ s = .int .i64 S ∧ S = cosK mdC l m k ∧ Below w.heap.size w wr) (fun _ i _ => n' - (RowKit.intOf i).toNat)
  case atStart => exact ⟨0, 0, Nat.zero_le _, rfl, rfl, rfl, B2.out⟩
  case round =>
    obtain ⟨k, S, hk, rfl, rfl, hS, hbel⟩ := hrel
    have HS := Lib.hid hS
    have HW := Lib.hid hbel
    clear hS hbel
    rcases Nat.lt_or_ge k n' with hlt | hge
    · obtain ⟨f, hf⟩ := get_lt (L := l) (k := k) (by have := HN.out.1; omega)
      obtain ⟨z, hz⟩ := get_lt (L := m) (k := k) (by have := HN.out.2; omega)
      obtain ⟨b1, o1, hA0, hb1, -, h0⟩ := kd_at (HA.out.on HW.out) hf
      obtain ⟨b2, o2, hB0, hb2, h3⟩ := cl_at (HB.out.on HW.out) hz
      subst hA0
      subst hB0
      have i1 : (k : Int) < (n' : Int) := by omega
      have i2 : (0 : Int) ≤ (k : Int) := by omega
      obtain ⟨S2, hS2⟩ : ∃ S2, cosK mdC l m (k + 1) = S2 := ⟨_, rfl⟩
      have hl1 := HLim.out (k + 1) (by have := HN.out.1; omega)
      have he := cosK_succ (md := mdC) HLL.out hf hz
      rw [hS2, ← HS.out] at he
      rw [hS2] at hl1
      have HM1 := Lib.hid fun W => HMd.out f.2 z W
      obtain ⟨P, hP⟩ : ∃ P, mdC f.2 z = P := ⟨_, rfl⟩
      rw [hP] at HM1 he
      have wS : IntKind.i64.wrap S2 = S2 := wrap_id (by omega)
      have hs : S + P = S2 := he.symm
      have HS2 := Lib.hid hS2
      have HCS : Hid (∀ W, Below wr.heap.size wr W → W.cell? ⟨b1, o1 + k * 2 + 1, none⟩ = some (.int .i64 f.2) ∧ W.cell? ⟨b2, o2 + k, none⟩ = some (.int .i64 z)) := fun W h =>
        ⟨(h.cell (p := ⟨b1, o1 + k * 2 + 1, none⟩) hb1).trans h0, (h.cell (p := ⟨b2, o2 + k, none⟩) hb2).trans h3⟩
      clear hf hz hS2 hl1 he hP
      obtain ⟨wq, rfl⟩ : ∃ W, W = wr := ⟨wr, rfl⟩
      go_wp2_with fail
      go_region_held3 (fun W => W.cell? ⟨b1, o1 + k * 2 + 1, none⟩ = some (.int .i64 f.2) ∧ W.cell? ⟨b2, o2 + k, none⟩ = some (.int .i64 z))
        (first | exact HCS.out _ (Below.refl _ _) | exact HCS.out _ (drew_below _) | exact HCS.out _ HBL.out)
        ((go_at_call 45; (refine (HM1.out _).mono ?_); rintro e w3 ⟨E1, rfl, hb3⟩; (have HBL : Hid (Below wq.heap.size wq w3) := Lib.hid (bstep (drew_below _) hb3)); clear hb3))
      all_goals
        have HB5 : Hid (Below w.heap.size w w3) := Lib.hid (HW.out.trans (HBL.out.mono HW.out.size))
        go_wp2_with fail
        go_roundw
        case rel => exact ⟨k + 1, S2, by omega, by go_num, rfl, HS2.out.symm, HB5.out⟩
        case measure => simp [RowKit.intOf]; omega
    · obtain rfl : k = n' := by omega
      have HT : Hid (S = cosS mdC l m) := Lib.hid (by rw [HS.out]; exact cosK_all _ _ _ (by rw [← HN.out.1]; exact Nat.le_refl _) (by rw [← HN.out.2]; exact Nat.le_refl _))
      rcases Int.lt_or_le 1000000000000 S with hg | hg
      · have t0 : decide (1000000000000 < S) = true := decide_eq_true hg
        obtain ⟨e1, e2⟩ := cosE_big HFG.out.1 HFG.out.2 (by rw [← HT.out]; exact hg)
        obtain rfl : E = 2 := by rw [← HE.out]; exact e1
        obtain rfl : V = 0 := by rw [← HV.out]; exact e2
        clear hg e1 e2
        go_wp2_with fail
        go_ret2
        exact ⟨rfl, HW.out⟩
      · have t0 : decide (1000000000000 < S) = false := decide_eq_false (by omega)
        obtain ⟨e1, e2⟩ := cosE_ok HFG.out.1 HFG.out.2 (by rw [← HT.out]; omega)
        obtain rfl : E = 0 := by rw [← HE.out]; exact e1
        obtain rfl : V = S := by rw [← HV.out, HT.out]; exact e2
        clear hg e1 e2
        go_wp2_with fail
        go_ret2
        exact ⟨rfl, HW.out⟩

/-! ### Near -/
theorem nea_rec {m r : List Int} {tol : Int} (h : ¬ recE r (lenI r) = 0) : neaE m r tol = recE r (lenI r) ∧ neaV m r tol = false := by
  have h1 : neaE m r tol = recE r (lenI r) := if_neg h
  exact ⟨h1, by unfold neaV; rw [h1, decide_eq_false h]; rfl⟩
theorem nea_par {m r : List Int} {tol : Int} (h : recE r (lenI r) = 0) (h2 : ¬ parE m (lenI r) = 0) : neaE m r tol = parE m (lenI r) ∧ neaV m r tol = false := by
  have h1 : neaE m r tol = parE m (lenI r) := by unfold neaE; rw [if_pos h, if_neg h2]
  exact ⟨h1, by unfold neaV; rw [h1, decide_eq_false h2]; rfl⟩
theorem nea_tol {m r : List Int} {tol : Int} (h : recE r (lenI r) = 0) (h2 : parE m (lenI r) = 0) (h3 : inM 1000 tol = false) : neaE m r tol = 1 ∧ neaV m r tol = false := by
  have h1 : neaE m r tol = 1 := by unfold neaE; rw [if_pos h, if_pos h2, h3]; rfl
  exact ⟨h1, by unfold neaV; rw [h1]; rfl⟩
theorem nea_nil {m r : List Int} {tol : Int} (h : recE r (lenI r) = 0) (h2 : parE m (lenI r) = 0) (h3 : inM 1000 tol = true) (h4 : sumZ m = 0) : neaE m r tol = 10 ∧ neaV m r tol = false := by
  have h1 : neaE m r tol = 10 := by unfold neaE; rw [if_pos h, if_pos h2, h3, if_pos rfl, if_pos h4]
  exact ⟨h1, by unfold neaV; rw [h1]; rfl⟩
theorem nea_ok {m r : List Int} {tol : Int} (h : recE r (lenI r) = 0) (h2 : parE m (lenI r) = 0) (h3 : inM 1000 tol = true) (h4 : ¬ sumZ m = 0) : neaE m r tol = 0 ∧ neaV m r tol = neaB (sumZ m) tol m r := by
  have h1 : neaE m r tol = 0 := by unfold neaE; rw [if_pos h, if_pos h2, h3, if_pos rfl, if_neg h4]
  exact ⟨h1, by unfold neaV; rw [h1]; rfl⟩
theorem nea1_no {t tol x r : Int} (h : tol * t < 1000 * x - r * t ∨ 1000 * x - r * t < -(tol * t)) : nea1 t tol x r = false := by
  unfold nea1
  rcases h with h | h
  · rw [decide_eq_false (show ¬ 1000 * x - r * t ≤ tol * t by omega), Bool.false_and]
  · rw [decide_eq_false (show ¬ -(tol * t) ≤ 1000 * x - r * t by omega), Bool.and_false]
theorem nea1_yes {t tol x r : Int} (h : 1000 * x - r * t ≤ tol * t) (h2 : -(tol * t) ≤ 1000 * x - r * t) : nea1 t tol x r = true := by
  unfold nea1
  rw [decide_eq_true h, decide_eq_true h2]; rfl
set_option maxHeartbeats 3200000 in
theorem rr_Near (m r : List Int) (A B : Option Addr) (n n' c d : Nat) (hn : n = m.length) (hn' : n' = r.length) (tol : Int) (w : World) (ha : Cl eI w A m) (hb : Cl eI w B r) (hm : n ≤ 9223372036854775807) (hm2 : n' ≤ 9223372036854775807) :
    Calls Try.prog 30 #[.slice A n c, .slice B n' d, .int .i64 tol] w fun e w' => e = .returned (.tuple #[.bool (neaV m r tol), .int .i64 (neaE m r tol)]) ∧ Below w.heap.size w w' := by
  have HA := Lib.hid ha
  have HB := Lib.hid hb
  have lr : lenI r = (n' : Int) := by unfold lenI; rw [hn']
  have HRe := Lib.hid (rr_Recipe r B n' d hn' n' w hb hm2)
  obtain ⟨F, hF⟩ : ∃ F, recE r (lenI r) = F := ⟨_, rfl⟩
  have hF2 : recE r (n' : Int) = F := by rw [← lr]; exact hF
  rw [hF2] at HRe
  by_cases hz : F = 0
  rotate_left
  · obtain ⟨z1, z2⟩ := ne_zero hz
    obtain ⟨e1, e2⟩ := nea_rec (m := m) (tol := tol) (by rw [hF]; exact hz)
    rw [e1, e2, hF]
    clear ha hb hn hn' lr hF hF2 hz e1 e2
    go_enter Try.func30, Try.ntmps30
    go_wp2_with fail
    refine HRe.out.mono ?_
    rintro e w1 ⟨rfl, hb⟩
    have B1 := Lib.hid hb
    clear hb
    go_wp2_with fail
    go_ret2
    exact ⟨rfl, B1.out⟩
  subst hz
  have HPa := Lib.hid fun (W : World) (h : Cl eI W A m) => rr_Parts m A n c hn n' W h hm
  obtain ⟨G, hG⟩ : ∃ G, parE m (lenI r) = G := ⟨_, rfl⟩
  have hG2 : parE m (n' : Int) = G := by rw [← lr]; exact hG
  rw [hG2] at HPa
  by_cases hz : G = 0
  rotate_left
  · obtain ⟨z1, z2⟩ := ne_zero hz
    obtain ⟨e1, e2⟩ := nea_par (tol := tol) hF (by rw [hG]; exact hz)
    rw [e1, e2, hG]
    clear ha hb hn hn' lr hF hF2 hG hG2 hz e1 e2
    go_enter Try.func30, Try.ntmps30
    go_wp2_with fail
    refine HRe.out.mono ?_
    rintro e w1 ⟨rfl, hb⟩
    have B1 := Lib.hid hb
    clear hb
    go_wp2_with fail
    refine (HPa.out w1 (HA.out.on B1.out)).mono ?_
    rintro e w2 ⟨rfl, hb⟩
    have B2 := Lib.hid (bstep B1.out hb)
    clear hb
    go_wp2_with fail
    go_ret2
    exact ⟨rfl, B2.out⟩
  subst hz
  by_cases ht : inM 1000 tol = true
  rotate_left
  · obtain ⟨e1, e2⟩ := nea_tol hF hG (Bool.eq_false_iff.mpr ht)
    rw [e1, e2]
    rcases Int.lt_or_le tol 0 with h0 | h0
    · have t0 : decide (tol < 0) = true := decide_eq_true h0
      clear ha hb hn hn' lr hF hF2 hG hG2 e1 e2 ht h0
      go_enter Try.func30, Try.ntmps30
      go_wp2_with fail
      refine HRe.out.mono ?_
      rintro e w1 ⟨rfl, hb⟩
      have B1 := Lib.hid hb
      clear hb
      go_wp2_with fail
      refine (HPa.out w1 (HA.out.on B1.out)).mono ?_
      rintro e w2 ⟨rfl, hb⟩
      have B2 := Lib.hid (bstep B1.out hb)
      clear hb
      go_wp2_with fail
      go_ret2
      exact ⟨rfl, B2.out⟩
    · have t0 : decide (tol < 0) = false := decide_eq_false (by omega)
      have t1 : decide (1000 < tol) = true := decide_eq_true (by
        rcases Int.lt_or_le 1000 tol with h | h
        · exact h
        · exact absurd (inM_iff.mpr ⟨h0, h⟩) ht)
      clear ha hb hn hn' lr hF hF2 hG hG2 e1 e2 ht h0
      go_enter Try.func30, Try.ntmps30
      go_wp2_with fail
      refine HRe.out.mono ?_
      rintro e w1 ⟨rfl, hb⟩
      have B1 := Lib.hid hb
      clear hb
      go_wp2_with fail
      refine (HPa.out w1 (HA.out.on B1.out)).mono ?_
      rintro e w2 ⟨rfl, hb⟩
      have B2 := Lib.hid (bstep B1.out hb)
      clear hb
      go_wp2_with fail
      go_ret2
      exact ⟨rfl, B2.out⟩
  have htl := inM_iff.mp ht
  have t0 : decide (tol < 0) = false := decide_eq_false (by omega)
  have t1 : decide (1000 < tol) = false := decide_eq_false (by omega)
  obtain ⟨hr1, -⟩ := recE_of hF
  obtain ⟨-, h8, -, hrl⟩ := lisE_of hr1
  obtain ⟨-, -, hml0, hml⟩ := lisE_of hG
  have hnn : n = n' := by rw [lr] at hml0; omega
  subst hnn
  have hn8 : n ≤ 8 := by omega
  have HSm := Lib.hid fun (W : World) (h : Cl eI W A m) => rr_Sum m A n c hn W h hn8 hml
  have hsl := sumZ_lim (by decide) hml (by omega)
  obtain ⟨T, hT⟩ : ∃ T, sumZ m = T := ⟨_, rfl⟩
  rw [hT] at HSm hsl
  have hM : MM = 1099511627776 := rfl
  rw [hM] at hsl
  by_cases hT0 : T = 0
  · subst hT0
    obtain ⟨e1, e2⟩ := nea_nil hF hG ht hT
    rw [e1, e2]
    clear ha hb hn hn' lr hF hF2 hG hG2 e1 e2 ht htl hr1 h8 hrl hml0 hml hsl hT hM
    go_enter Try.func30, Try.ntmps30
    go_wp2_with fail
    refine HRe.out.mono ?_
    rintro e w1 ⟨rfl, hb⟩
    have B1 := Lib.hid hb
    clear hb
    go_wp2_with fail
    refine (HPa.out w1 (HA.out.on B1.out)).mono ?_
    rintro e w2 ⟨rfl, hb⟩
    have B2 := Lib.hid (bstep B1.out hb)
    clear hb
    go_wp2_with fail
    refine (HSm.out w2 (HA.out.on B2.out)).mono ?_
    rintro e w3 ⟨rfl, hb⟩
    have B3 := Lib.hid (bstep B2.out hb)
    clear hb
    go_wp2_with fail
    go_ret2
    exact ⟨rfl, B3.out⟩
  have z1 : (T == 0) = false := beq_false_of_ne hT0
  obtain ⟨e1, e2⟩ := nea_ok hF hG ht (by rw [hT]; exact hT0)
  rw [hT] at e2
  rw [e1, e2]
  obtain ⟨V, hV⟩ : ∃ V, neaB T tol m r = V := ⟨_, rfl⟩
  rw [hV]
  have HV := Lib.hid hV
  have HML := Lib.hid hml
  have HRL := Lib.hid hrl
  have HN := Lib.hid (And.intro hn hn')
  have HTl := Lib.hid htl
  have HTs := Lib.hid hsl
  have HT0 := Lib.hid hT0
  have htt : tol * T ≤ 8796093022208000 := by
    have h1 : tol * T ≤ 1000 * T := Int.mul_le_mul_of_nonneg_right htl.2 hsl.1
    omega
  have htt0 : 0 ≤ tol * T := Int.mul_nonneg htl.1 hsl.1
  obtain ⟨U, hU⟩ : ∃ U, tol * T = U := ⟨_, rfl⟩
  obtain ⟨ν, hν⟩ : ∃ ν, -tol = ν := ⟨_, rfl⟩
  have hnu : ν * T = -U := by rw [← hν, ← hU, Int.neg_mul]
  obtain ⟨NU, hNU⟩ : ∃ NU, ν * T = NU := ⟨_, rfl⟩
  rw [hU] at htt htt0
  have wU : IntKind.i64.wrap U = U := wrap_id (by omega)
  have wN : IntKind.i64.wrap ν = ν := wrap_id (by omega)
  have wNU : IntKind.i64.wrap NU = NU := wrap_id (by omega)
  have HU := Lib.hid (And.intro hU (And.intro (show NU = -U by rw [← hNU]; exact hnu) (And.intro htt0 htt)))
  clear ha hb hn hn' lr hF hF2 hG hG2 e1 e2 ht hr1 h8 hrl hml0 hml hT hM hV htl hnu htt htt0 hsl hT0
  go_enter Try.func30, Try.ntmps30
  go_wp2_with fail
  refine HRe.out.mono ?_
  rintro e w1 ⟨rfl, hb⟩
  have B1 := Lib.hid hb
  clear hb
  go_wp2_with fail
  refine (HPa.out w1 (HA.out.on B1.out)).mono ?_
  rintro e w2 ⟨rfl, hb⟩
  have B2 := Lib.hid (bstep B1.out hb)
  clear hb
  go_wp2_with fail
  refine (HSm.out w2 (HA.out.on B2.out)).mono ?_
  rintro e w3 ⟨rfl, hb⟩
  have B3 := Lib.hid (bstep B2.out hb)
  clear hb
  go_wp2_with fail
  go_loopw [11] (fun i wr => ∃ k : Nat, k ≤ n ∧ i = .int .i64 k ∧ (∀ (j : Nat) (x y : Int), j < k → m[j]? = some x → r[j]? = some y → nea1 T tol x y = true) ∧ Below w.heap.size w wr) (fun i _ => n - (RowKit.intOf i).toNat)
  case atStart => exact ⟨0, Nat.zero_le _, rfl, fun j x y h => absurd h (by omega), B3.out⟩
  case round =>
    obtain ⟨k, hk, rfl, hv, hbel⟩ := hrel
    have HQ := Lib.hid hv
    have HW := Lib.hid hbel
    clear hv hbel
    rcases Nat.lt_or_ge k n with hlt | hge
    · obtain ⟨x, hx⟩ := get_lt (L := m) (k := k) (by have := HN.out.1; omega)
      obtain ⟨y, hy⟩ := get_lt (L := r) (k := k) (by have := HN.out.2; omega)
      obtain ⟨b1, o1, hA0, hb1, h0⟩ := cl_at (HA.out.on HW.out) hx
      obtain ⟨b2, o2, hB0, hb2, h3⟩ := cl_at (HB.out.on HW.out) hy
      subst hA0
      subst hB0
      have HX := Lib.hid hx
      have HY := Lib.hid hy
      have hxl := HML.out x (List.mem_of_getElem? hx)
      have hyl := HRL.out y (List.mem_of_getElem? hy)
      have hM : MM = 1099511627776 := rfl
      have hts := HTs.out
      have i1 : (k : Int) < (n : Int) := by omega
      have i2 : (0 : Int) ≤ (k : Int) := by omega
      have hyT : y * T ≤ 8796093022208000 := by
        have h1 : y * T ≤ 1000 * T := Int.mul_le_mul_of_nonneg_right hyl.2 hts.1
        omega
      have hyT0 : 0 ≤ y * T := Int.mul_nonneg hyl.1 hts.1
      obtain ⟨P1, hP1⟩ : ∃ P, 1000 * x = P := ⟨_, rfl⟩
      obtain ⟨P2, hP2⟩ : ∃ P, y * T = P := ⟨_, rfl⟩
      obtain ⟨D, hD⟩ : ∃ D, P1 - P2 = D := ⟨_, rfl⟩
      rw [hP2] at hyT hyT0
      have w1' : IntKind.i64.wrap P1 = P1 := wrap_id (by omega)
      have w2' : IntKind.i64.wrap P2 = P2 := wrap_id (by omega)
      have w3' : IntKind.i64.wrap D = D := wrap_id (by omega)
      have HD := Lib.hid (show 1000 * x - y * T = D by rw [hP1, hP2, hD])
      clear hx hy hxl hyl hM hts hyT hyT0
      rcases Int.lt_or_le U D with hg | hg
      · have t5 : decide (U < D) = true := decide_eq_true hg
        obtain rfl : V = false := by rw [← HV.out]; exact neaB_bad HX.out HY.out (nea1_no (Or.inl (by rw [HU.out.1, HD.out]; exact hg)))
        clear hg
        go_wp2_with fail
        go_quiet (fail)
        go_wp2_with fail
        go_ret2
        exact ⟨rfl, below_drewN HW.out _⟩
      have t5 : decide (U < D) = false := decide_eq_false (by omega)
      rcases Int.lt_or_le D NU with hg2 | hg2
      · have t6 : decide (D < NU) = true := decide_eq_true hg2
        obtain rfl : V = false := by rw [← HV.out]; exact neaB_bad HX.out HY.out (nea1_no (Or.inr (by rw [HU.out.1, HD.out, ← HU.out.2.1]; exact hg2)))
        clear hg hg2
        go_wp2_with fail
        go_quiet (fail)
        go_wp2_with fail
        go_ret2
        exact ⟨rfl, below_drewN HW.out _⟩
      have t6 : decide (D < NU) = false := decide_eq_false (by omega)
      have HY1 := Lib.hid (nea1_yes (t := T) (tol := tol) (x := x) (r := y) (by rw [HU.out.1, HD.out]; exact hg) (by rw [HU.out.1, HD.out, ← HU.out.2.1]; exact hg2))
      clear hg hg2
      go_wp2_with fail
      go_quiet (fail)
      go_wp2_with fail
      go_roundw
      case rel =>
        refine ⟨k + 1, by omega, by go_num, ?_, below_drewN HW.out _⟩
        intro j u v hj hu hv
        rcases Nat.lt_or_eq_of_le (Nat.le_of_lt_succ hj) with h | h
        · exact HQ.out j u v h hu hv
        · subst h
          have e1 := HX.out
          have e2 := HY.out
          rw [hu] at e1; rw [hv] at e2; cases e1; cases e2; exact HY1.out
      case measure => simp [RowKit.intOf]; omega
    · obtain rfl : k = n := by omega
      obtain rfl : V = true := by rw [← HV.out]; exact neaB_ok fun j x y hx hy => HQ.out j x y (by have := glt hx; have := HN.out.1; omega) hx hy
      go_wp2_with fail
      go_ret2
      exact ⟨rfl, HW.out⟩
end Go.Proofs.Ytgomokdklajlcaa.Fibre
/- The program: checkNumber, visit of integers, checkList, Recipe, Parts, Total. -/
namespace Go.Proofs.Ytgomokdklajlcaa.Fibre
open Go.ChangeShapes Go.WideShapes Go.RowKit Go.Lib
open Go.Proofs.Ytgomokdklajlcaa.Mem (Cl eI Own)
open Go.Proofs.Ytgomokdklajlcaa.Rw (Cel glt get_lt ret_bool ret_int wrap_id bstep below_drewN below_drew drew_below below_alloc)
open Go.Proofs.Ytgomokdklajlcaa.Share (sumK sumK_zero sumK_succ)
set_option linter.unusedVariables false
set_option maxRecDepth 100000

/-- The error of a number. -/
def nuE (most z : Int) : Int := if inM most z then 0 else 1
theorem nuE_ok {most z : Int} (h : inM most z = true) : nuE most z = 0 := by unfold nuE; rw [h]; rfl
theorem nuE_bad {most z : Int} (h : inM most z = false) : nuE most z = 1 := by unfold nuE; rw [h]; rfl
theorem nuE_zero {most z : Int} (h : nuE most z = 0) : inM most z = true := by
  cases hz : inM most z with
  | true => rfl
  | false => rw [nuE_bad hz] at h; cases h
theorem p_checkNumber (z most : Int) (w : World) :
    Calls Try.prog 41 #[.int .i64 z, .int .i64 most] w fun e w' => e = .returned (.int .i64 (nuE most z)) ∧ w = w' := by
  rcases Int.lt_or_le z 0 with h0 | h0
  · have t0 : decide (z < 0) = true := decide_eq_true h0
    rw [nuE_bad (Bool.eq_false_iff.mpr fun h => by have := inM_iff.mp h; omega)]
    clear h0
    go_enter Try.func41, Try.ntmps41
    go_wp2_with fail
    go_ret
    exact ⟨rfl, rfl⟩
  have t0 : decide (z < 0) = false := decide_eq_false (by omega)
  rcases Int.lt_or_le most z with h1 | h1
  · have t1 : decide (most < z) = true := decide_eq_true h1
    rw [nuE_bad (Bool.eq_false_iff.mpr fun h => by have := inM_iff.mp h; omega)]
    clear h0 h1
    go_enter Try.func41, Try.ntmps41
    go_wp2_with fail
    go_ret
    exact ⟨rfl, rfl⟩
  have t1 : decide (most < z) = false := decide_eq_false (by omega)
  rw [nuE_ok (inM_iff.mpr ⟨h0, h1⟩)]
  clear h0 h1
  go_enter Try.func41, Try.ntmps41
  go_wp2_with fail
  go_ret
  exact ⟨rfl, rfl⟩

theorem p_clo (b : Nat) (most z : Int) (w : World) (hc : w.cell? ⟨b, 0, none⟩ = some (.int .i64 most)) :
    Calls Try.prog 49 #[.int .i64 z, .pointer (some ⟨b, 0, none⟩)] w fun e w' => e = .returned (.int .i64 (nuE most z)) ∧ w = w' := by
  have HC := Lib.hid (p_checkNumber z most w)
  go_enter Try.func49, Try.ntmps49
  go_wp2_with fail
  refine HC.out.mono ?_
  rintro e w' ⟨rfl, rfl⟩
  go_wp2_with fail
  go_ret
  exact ⟨rfl, rfl⟩

/-- The first error of a list. -/
def firG (g : Int → Int) : List Int → Int
  | [] => 0
  | z :: l => if g z = 0 then firG g l else g z
theorem firG_bad {g : Int → Int} : ∀ {l : List Int} {k : Nat} {z : Int}, l[k]? = some z → ¬ g z = 0 → (∀ (j : Nat) (y : Int), j < k → l[j]? = some y → g y = 0) → firG g l = g z
  | [], _, _, h, _, _ => by simp at h
  | y :: l, 0, z, h, hb, _ => by simp at h; subst h; rw [firG, if_neg hb]
  | y :: l, k + 1, z, h, hb, ha => by
    rw [List.getElem?_cons_succ] at h
    rw [firG, if_pos (ha 0 y (by omega) rfl)]
    exact firG_bad h hb fun j x hj hx => ha (j + 1) x (by omega) (by rw [List.getElem?_cons_succ]; exact hx)
theorem firG_ok {g : Int → Int} : ∀ {l : List Int}, (∀ (j : Nat) (y : Int), l[j]? = some y → g y = 0) → firG g l = 0
  | [], _ => rfl
  | y :: l, h => by
    rw [firG, if_pos (h 0 y rfl)]
    exact firG_ok fun j x hx => h (j + 1) x (by rw [List.getElem?_cons_succ]; exact hx)
theorem firG_nu {most : Int} {l : List Int} : firG (nuE most) l = if l.all (inM most) then 0 else 1 := by
  induction l with
  | nil => rfl
  | cons z l ih =>
    rw [firG, List.all_cons, ih]
    cases hz : inM most z with
    | true => rw [nuE_ok hz, if_pos rfl, Bool.true_and]
    | false => rw [nuE_bad hz, Bool.false_and]; rfl

/-- A function that answers of an integer as long as I holds of the memory. -/
structure Ans (fn : Nat) (ba ca : Array Value) (g : Int → Int) (I : World → Prop) : Prop where
  eg : ∀ args w, (callFunc fn args).run Try.prog w = .ok (.enter fn args) w
  run : ∀ z W, I W → Calls Try.prog fn (ba ++ #[.int .i64 z] ++ ca) W fun e W' => e = .returned (.int .i64 (g z)) ∧ W = W'
set_option maxHeartbeats 800000 in
theorem visit_int {fn : Nat} {ba ca : Array Value} {g : Int → Int} {I : World → Prop} (hv : Ans fn ba ca g I) (l : List Int) (A : Option Addr) (n c : Nat) (hn : n = l.length) (w : World) (ha : Cl eI w A l) (hI : I w) (hm : n ≤ 9223372036854775807) :
    Calls Try.prog 48 #[.slice A n c, .func (.func fn) ba ca] w fun e w' => e = .returned (.int .i64 (firG g l)) ∧ w = w' := by
  have HA := Lib.hid ha
  have HN := Lib.hid hn
  have HV := Lib.hid fun z => hv.run z w hI
  have eg := hv.eg
  obtain ⟨E, hE⟩ : ∃ E, firG g l = E := ⟨_, rfl⟩
  rw [hE]
  have HE := Lib.hid hE
  clear ha hn hv hI hE
  go_enter Try.func48, Try.ntmps48
  go_wp2_with fail
  go_loopw [10, 6, 7] (fun i _ _ wr => ∃ k : Nat, k ≤ n ∧ i = .int .i64 k ∧ (∀ (j : Nat) (y : Int), j < k → l[j]? = some y → g y = 0) ∧ wr = w) (fun i _ _ _ => n - (RowKit.intOf i).toNat)
  case atStart => exact ⟨0, Nat.zero_le _, rfl, fun j z h => absurd h (by omega), rfl⟩
  case round =>
    obtain ⟨k, hk, rfl, hg, rfl⟩ := hrel
    have HG := Lib.hid hg
    clear hg
    rcases Nat.lt_or_ge k n with hlt | hge
    · obtain ⟨z, hz⟩ := get_lt (L := l) (k := k) (by have := HN.out; omega)
      obtain ⟨b, off, rfl, hb, e0⟩ := cl_at HA.out hz
      have HZ := Lib.hid hz
      have i1 : (k : Int) < (n : Int) := by omega
      have i2 : (0 : Int) ≤ (k : Int) := by omega
      have HR := Lib.hid (HV.out z)
      obtain ⟨F, hF⟩ : ∃ F, g z = F := ⟨_, rfl⟩
      rw [hF] at HR
      have HF := Lib.hid hF
      clear hz hF
      by_cases hz : F = 0
      · subst hz
        go_wp2_with (go_at_fn fn; refine HR.out.mono ?_; rintro e w5 ⟨rfl, rfl⟩)
        go_roundw
        case rel =>
          refine ⟨k + 1, by omega, by go_num, ?_, trivial⟩
          intro j y hj hy
          rcases Nat.lt_or_eq_of_le (Nat.le_of_lt_succ hj) with h | h
          · exact HG.out j y h hy
          · subst h
            have e := HZ.out
            rw [hy] at e; cases e; exact HF.out
        case measure => simp [RowKit.intOf]; omega
      · obtain ⟨z1, z2⟩ := ne_zero hz
        obtain rfl : E = F := by rw [← HE.out, ← HF.out]; exact firG_bad HZ.out (by rw [HF.out]; exact hz) HG.out
        clear hz
        go_wp2_with (go_at_fn fn; refine HR.out.mono ?_; rintro e w5 ⟨rfl, rfl⟩)
        go_ret
        exact ⟨rfl, rfl⟩
    · obtain rfl : k = n := by omega
      obtain rfl : E = 0 := by rw [← HE.out]; exact firG_ok fun j y hy => HG.out j y (by rw [HN.out]; exact glt hy) hy
      go_wp2_with fail
      go_ret
      exact ⟨rfl, rfl⟩

set_option maxHeartbeats 800000 in
theorem p_checkList (l : List Int) (A : Option Addr) (n c : Nat) (hn : n = l.length) (kinds most : Int) (w : World) (ha : Cl eI w A l) (hm : n ≤ 9223372036854775807) :
    Calls Try.prog 37 #[.slice A n c, .int .i64 kinds, .int .i64 most] w fun e w' => e = .returned (.int .i64 (lisE l kinds most)) ∧ Below w.heap.size w w' := by
  have HA := Lib.hid ha
  have HN := Lib.hid hn
  obtain ⟨E, hE⟩ : ∃ E, lisE l kinds most = E := ⟨_, rfl⟩
  rw [hE]
  have HE := Lib.hid hE
  clear ha
  rcases Int.lt_or_le kinds 1 with h0 | h0
  · have d0 : decide (kinds < 1) = true := decide_eq_true h0
    obtain rfl : E = 17 := by rw [← hE]; exact lisE_no (Bool.eq_false_iff.mpr fun h => by have := kiB_iff.mp h; omega)
    clear h0 hE hn
    go_enter Try.func37, Try.ntmps37
    go_wp2_with fail
    go_ret
    exact ⟨rfl, below_alloc _ _⟩
  have d0 : decide (kinds < 1) = false := decide_eq_false (by omega)
  rcases Int.lt_or_le 8 kinds with h1 | h1
  · have d1 : decide (8 < kinds) = true := decide_eq_true h1
    obtain rfl : E = 17 := by rw [← hE]; exact lisE_no (Bool.eq_false_iff.mpr fun h => by have := kiB_iff.mp h; omega)
    clear h0 h1 hE hn
    go_enter Try.func37, Try.ntmps37
    go_wp2_with fail
    go_ret
    exact ⟨rfl, below_alloc _ _⟩
  have d1 : decide (8 < kinds) = false := decide_eq_false (by omega)
  by_cases h2 : (n : Int) = kinds
  rotate_left
  · have d2 : ((n : Int) != kinds) = true := by simpa using h2
    have d3 : ((n : Int) == kinds) = false := by simpa using h2
    obtain rfl : E = 17 := by rw [← hE]; exact lisE_no (Bool.eq_false_iff.mpr fun h => by have := kiB_iff.mp h; omega)
    clear h0 h1 h2 hE hn
    go_enter Try.func37, Try.ntmps37
    go_wp2_with fail
    go_ret
    exact ⟨rfl, below_alloc _ _⟩
  have hK : kiB l kinds = true := kiB_iff.mpr ⟨h0, h1, by omega⟩
  have HF : Hid (E = firG (nuE most) l) := Lib.hid (by rw [← hE, firG_nu]; unfold lisE; rw [if_pos hK])
  have HV : Hid (Ans 49 #[] #[.pointer (some ⟨w.heap.size, 0, none⟩)] (nuE most) (fun W => W.cell? ⟨w.heap.size, 0, none⟩ = some (.int .i64 most))) := Lib.hid ⟨enters_of Try.func49 (by kernel_rfl) rfl, fun z W h => p_clo _ _ _ _ h⟩
  subst h2
  have d2 : ((n : Int) != (n : Int)) = false := by simp
  have d3 : ((n : Int) == (n : Int)) = true := by simp
  clear h0 h1 hE hn hK
  go_enter Try.func37, Try.ntmps37
  go_upto_region 1 with fail
  generalize hw1 : w.alloc (.cells #[.int .i64 most] 3) = w1
  have HB1 : Hid (Below w.heap.size w w1) := hw1 ▸ below_alloc _ _
  have HC1 : Hid (Cel w1 w.heap.size [.int .i64 most]) := hw1 ▸ Cel.new _ _ _
  have HVi := Lib.hid (visit_int HV.out l A n c HN.out w1 (HA.out.on HB1.out) (HC1.out.at_ 0 _ rfl) hm)
  clear hw1
  go_wp2_with fail
  refine HVi.out.mono ?_
  rintro e w2 ⟨rfl, rfl⟩
  go_wp2_with fail
  go_ret
  exact ⟨ret_int HF.out.symm, HB1.out⟩
end Go.Proofs.Ytgomokdklajlcaa.Fibre
