/- Several texts in one: FibreF, FibreG, FibreH, IdentC, IdentD, IdentE, FibreI, FibreJ, MemB, ShareG, ShareH, ShareI, ShareJ, ShareK. -/
import Derived.Test.YtgomokdklajlcaaPk4
import Derived.Test.YtgomokdklajlcaaPk1
import Derived.Test.YtgomokdklajlcaaPk3
import Derived.Maps.AppendAt
import Derived.Laws.CopyOwn
/- Masses, Add of the reference. -/
namespace Go.Proofs.Ytgomokdklajlcaa.Fibre
open Go.ChangeShapes Go.WideShapes Go.RowKit Go.Lib
open Go.Proofs.Ytgomokdklajlcaa.Mem (Cl eI Own)
open Go.Proofs.Ytgomokdklajlcaa.Rw (Rd Row Kd glt get_lt ret_bool ret_int wrap_id bstep below_drewN below_drew drew_below below_alloc cI cI_len kdI flat_cI rd_one step_rows take_snoc_of)
open Go.Proofs.Ytgomokdklajlcaa.Share (partsL)
set_option linter.unusedVariables false
set_option maxRecDepth 100000

/-- A list of the call's own, and an error. -/
def ResM (L : List Int) (E : Int) (w : World) : Ending → World → Prop := fun e w' => ∃ v, e = .returned (.tuple #[v, .int .i64 E]) ∧ Own eI 3 w.heap.size w' v L ∧ Below w.heap.size w w'
theorem ResM.none_ {E : Int} {w w' : World} (hb : Below w.heap.size w w') : ResM [] E w (.returned (.tuple #[.slice none 0 0, .int .i64 E])) w' := ⟨_, rfl, Mem.Own.nil _ _ _ _, hb⟩
theorem own_row {L : List Int} {B : Nat} {w : World} {v : Value} (h : Row cI 1 3 B w v L) : Own eI 3 B w v L := by
  unfold Row at h
  rw [flat_cI] at h
  exact h
theorem masE_rec {r : List Int} {mass : Int} (h : ¬ recE r (lenI r) = 0) : masE r mass = recE r (lenI r) ∧ masL r mass = [] := by
  have h1 : masE r mass = recE r (lenI r) := if_neg h
  exact ⟨h1, if_neg (by rw [h1]; exact h)⟩
theorem masE_mass {r : List Int} {mass : Int} (h : recE r (lenI r) = 0) (h2 : inM MM mass = false) : masE r mass = 1 ∧ masL r mass = [] := by
  have h1 : masE r mass = 1 := by unfold masE; rw [if_pos h, h2]; rfl
  exact ⟨h1, if_neg (by rw [h1]; decide)⟩
theorem masE_ok {r : List Int} {mass : Int} (h : recE r (lenI r) = 0) (h2 : inM MM mass = true) : masE r mass = 0 ∧ masL r mass = partsL mass r ∧ Rcp mass r := by
  have h1 : masE r mass = 0 := by unfold masE; rw [if_pos h, h2]; rfl
  have h3 := inM_iff.mp h2
  obtain ⟨h4, h5⟩ := recE_of h
  obtain ⟨h6, h7, -, h8⟩ := lisE_of h4
  exact ⟨h1, if_pos h1, h3.1, h3.2, h6, h7, h8, h5⟩
set_option maxHeartbeats 800000 in
theorem rr_Masses (r : List Int) (A : Option Addr) (n c : Nat) (hn : n = r.length) (mass : Int) (w : World) (ha : Cl eI w A r) (hm : n ≤ 9223372036854775807) :
    Calls Try.prog 21 #[.slice A n c, .int .i64 mass] w (ResM (masL r mass) (masE r mass) w) := by
  have HA := Lib.hid ha
  have hlen : lenI r = (n : Int) := by unfold lenI; rw [hn]
  have HR := Lib.hid (rr_Recipe r A n c hn n w ha hm)
  obtain ⟨F, hF⟩ : ∃ F, recE r (lenI r) = F := ⟨_, rfl⟩
  have hF2 : recE r (n : Int) = F := by rw [← hlen]; exact hF
  rw [hF2] at HR
  by_cases hz : F = 0
  rotate_left
  · obtain ⟨z1, z2⟩ := ne_zero hz
    obtain ⟨e1, e2⟩ := masE_rec (mass := mass) (by rw [hF]; exact hz)
    rw [e1, e2, hF]
    clear ha hn hF hF2 hz hlen e1 e2
    go_enter Try.func21, Try.ntmps21
    go_wp2_with fail
    refine HR.out.mono ?_
    rintro e w1 ⟨rfl, hb⟩
    have B1 := Lib.hid hb
    clear hb
    go_wp2_with fail
    go_ret2
    exact ResM.none_ B1.out
  subst hz
  rcases Int.lt_or_le mass 0 with h0 | h0
  · have t0 : decide (mass < 0) = true := decide_eq_true h0
    obtain ⟨e1, e2⟩ := masE_mass (mass := mass) hF (Bool.eq_false_iff.mpr fun h => by have := inM_iff.mp h; omega)
    rw [e1, e2]
    clear ha hn hF hF2 hlen e1 e2 h0
    go_enter Try.func21, Try.ntmps21
    go_wp2_with fail
    refine HR.out.mono ?_
    rintro e w1 ⟨rfl, hb⟩
    have B1 := Lib.hid hb
    clear hb
    go_wp2_with fail
    go_ret2
    exact ResM.none_ B1.out
  have t0 : decide (mass < 0) = false := decide_eq_false (by omega)
  rcases Int.lt_or_le 1099511627776 mass with h1 | h1
  · have t1 : decide (1099511627776 < mass) = true := decide_eq_true h1
    obtain ⟨e1, e2⟩ := masE_mass (mass := mass) hF (Bool.eq_false_iff.mpr fun h => by have := inM_iff.mp h; have hM : MM = 1099511627776 := rfl; omega)
    rw [e1, e2]
    clear ha hn hF hF2 hlen e1 e2 h0 h1
    go_enter Try.func21, Try.ntmps21
    go_wp2_with fail
    refine HR.out.mono ?_
    rintro e w1 ⟨rfl, hb⟩
    have B1 := Lib.hid hb
    clear hb
    go_wp2_with fail
    go_ret2
    exact ResM.none_ B1.out
  have t1 : decide (1099511627776 < mass) = false := decide_eq_false (by omega)
  obtain ⟨e1, e2, hp⟩ := masE_ok (mass := mass) hF (inM_iff.mpr ⟨h0, h1⟩)
  have HS := Lib.hid fun (W : World) (h : Cl eI W A r) => rr_Split mass r A n c hn.symm W h hp
  rw [e1, e2]
  clear ha hn hF hF2 hlen e1 e2 h0 h1 hp
  go_enter Try.func21, Try.ntmps21
  go_wp2_with fail
  refine HR.out.mono ?_
  rintro e w1 ⟨rfl, hb⟩
  have B1 := Lib.hid hb
  clear hb
  go_wp2_with fail
  refine (HS.out w1 (HA.out.on B1.out)).mono ?_
  rintro e w2 ⟨v, rfl, ho, hb⟩
  have HO := Lib.hid (ho.less B1.out.size)
  have B2 := Lib.hid (bstep B1.out hb)
  clear ho hb
  go_wp2_with fail
  go_ret2
  exact ⟨v, rfl, HO.out, B2.out⟩

/-! ### Add -/
theorem addE_len {a b : List Int} (h : ¬ a.length = b.length) : addE a b = 17 ∧ addL a b = [] := by
  have h1 : addE a b = 17 := if_neg h
  exact ⟨h1, if_neg (by rw [h1]; decide)⟩
theorem addE_a {a b : List Int} (h : a.length = b.length) (h2 : ¬ totE a = 0) : addE a b = totE a ∧ addL a b = [] := by
  have h1 : addE a b = totE a := by unfold addE; rw [if_pos h, if_neg h2]
  exact ⟨h1, if_neg (by rw [h1]; exact h2)⟩
theorem addE_b {a b : List Int} (h : a.length = b.length) (h2 : totE a = 0) (h3 : ¬ totE b = 0) : addE a b = totE b ∧ addL a b = [] := by
  have h1 : addE a b = totE b := by unfold addE; rw [if_pos h, if_pos h2, if_neg h3]
  exact ⟨h1, if_neg (by rw [h1]; exact h3)⟩
theorem addE_big {a b : List Int} (h : a.length = b.length) (h2 : totE a = 0) (h3 : totE b = 0) {k : Nat} {x y : Int} (hx : a[k]? = some x) (hy : b[k]? = some y) (hb : MM < x + y) : addE a b = 2 ∧ addL a b = [] := by
  have h1 : addE a b = 2 := by
    unfold addE
    rw [if_pos h, if_pos h2, if_pos h3, if_neg]
    intro ha
    have := of_decide_eq_true (List.all_eq_true.mp ha _ (List.mem_of_getElem? (addZ_at hx hy)))
    omega
  exact ⟨h1, if_neg (by rw [h1]; decide)⟩
theorem addZ_get : ∀ {a b : List Int} {k : Nat} {z : Int}, (addZ a b)[k]? = some z → ∃ x y, a[k]? = some x ∧ b[k]? = some y ∧ z = x + y
  | [], _, _, _, h => by simp [addZ] at h
  | _ :: _, [], _, _, h => by simp [addZ] at h
  | x :: a, y :: b, 0, z, h => by
    simp [addZ] at h
    exact ⟨x, y, rfl, rfl, h.symm⟩
  | x :: a, y :: b, k + 1, z, h => by
    rw [addZ, List.getElem?_cons_succ] at h
    obtain ⟨u, v, h1, h2, h3⟩ := addZ_get h
    exact ⟨u, v, by rw [List.getElem?_cons_succ]; exact h1, by rw [List.getElem?_cons_succ]; exact h2, h3⟩
theorem addE_ok {a b : List Int} (h : a.length = b.length) (h2 : totE a = 0) (h3 : totE b = 0) (hb : ∀ (k : Nat) (x y : Int), a[k]? = some x → b[k]? = some y → x + y ≤ MM) : addE a b = 0 ∧ addL a b = addZ a b := by
  have h1 : addE a b = 0 := by
    unfold addE
    rw [if_pos h, if_pos h2, if_pos h3, if_pos]
    refine List.all_eq_true.mpr fun z hz => decide_eq_true ?_
    obtain ⟨k, hk⟩ := List.mem_iff_getElem?.mp hz
    obtain ⟨x, y, hx, hy, rfl⟩ := addZ_get hk
    exact hb k x y hx hy
  exact ⟨h1, if_pos h1⟩
theorem addZ_take {a b : List Int} (h : a.length = b.length) {k : Nat} {x y : Int} (hx : a[k]? = some x) (hy : b[k]? = some y) : (addZ a b).take (k + 1) = (addZ a b).take k ++ [x + y] := take_snoc_of (addZ_at hx hy)
set_option maxHeartbeats 3200000 in
theorem rr_Add (a b : List Int) (A B : Option Addr) (n m c d : Nat) (hn : n = a.length) (hn' : m = b.length) (w : World) (ha : Cl eI w A a) (hb : Cl eI w B b) (hm : n ≤ 9223372036854775807) (hm2 : m ≤ 9223372036854775807) :
    Calls Try.prog 26 #[.slice A n c, .slice B m d] w (ResM (addL a b) (addE a b) w) := by
  have HA := Lib.hid ha
  have HB := Lib.hid hb
  by_cases hl : n = m
  rotate_left
  · have d1 : ((n : Int) != (m : Int)) = true := by simp; omega
    have d2 : ((n : Int) == (m : Int)) = false := beq_false_of_ne (by omega)
    obtain ⟨e1, e2⟩ := addE_len (a := a) (b := b) (by omega)
    rw [e1, e2]
    clear ha hb hn hn' hl e1 e2
    go_enter Try.func26, Try.ntmps26
    go_wp2_with fail
    go_ret2
    exact ResM.none_ (Below.refl _ _)
  subst hl
  have hab : a.length = b.length := by omega
  have d1 : ((n : Int) != (n : Int)) = false := by simp
  have d2 : ((n : Int) == (n : Int)) = true := by simp
  have la : lenI a = (n : Int) := by unfold lenI; rw [hn]
  have lb : lenI b = (n : Int) := by unfold lenI; rw [hn']
  have HPa := Lib.hid fun (W : World) (h : Cl eI W A a) => rr_Parts a A n c hn n W h hm
  have HPb := Lib.hid fun (W : World) (h : Cl eI W B b) => rr_Parts b B n d hn' n W h hm
  obtain ⟨F, hF⟩ : ∃ F, totE a = F := ⟨_, rfl⟩
  obtain ⟨G, hG⟩ : ∃ G, totE b = G := ⟨_, rfl⟩
  have hF2 : parE a (n : Int) = F := by rw [← hF]; unfold totE; rw [la]
  have hG2 : parE b (n : Int) = G := by rw [← hG]; unfold totE; rw [lb]
  rw [hF2] at HPa
  rw [hG2] at HPb
  by_cases hz : F = 0
  rotate_left
  · obtain ⟨z1, z2⟩ := ne_zero hz
    obtain ⟨e1, e2⟩ := addE_a hab (by rw [hF]; exact hz)
    rw [e1, e2, hF]
    clear ha hb hn hn' hab la lb hF hG hF2 hG2 hz e1 e2
    go_enter Try.func26, Try.ntmps26
    go_wp2_with fail
    refine (HPa.out w HA.out).mono ?_
    rintro e w1 ⟨rfl, hb⟩
    have B1 := Lib.hid hb
    clear hb
    go_wp2_with fail
    go_ret2
    exact ResM.none_ B1.out
  subst hz
  by_cases hz : G = 0
  rotate_left
  · obtain ⟨z1, z2⟩ := ne_zero hz
    obtain ⟨e1, e2⟩ := addE_b hab hF (by rw [hG]; exact hz)
    rw [e1, e2, hG]
    clear ha hb hn hn' hab la lb hF hG hF2 hG2 hz e1 e2
    go_enter Try.func26, Try.ntmps26
    go_wp2_with fail
    refine (HPa.out w HA.out).mono ?_
    rintro e w1 ⟨rfl, hb⟩
    have B1 := Lib.hid hb
    clear hb
    go_wp2_with fail
    refine (HPb.out w1 (HB.out.on B1.out)).mono ?_
    rintro e w2 ⟨rfl, hb⟩
    have B2 := Lib.hid (bstep B1.out hb)
    clear hb
    go_wp2_with fail
    go_ret2
    exact ResM.none_ B2.out
  subst hz
  obtain ⟨h1, h8, -, hal⟩ := lisE_of hF2
  obtain ⟨-, -, -, hbl⟩ := lisE_of hG2
  have HFG := Lib.hid (And.intro hab (And.intro hF hG))
  have HAl := Lib.hid hal
  have HBl := Lib.hid hbl
  have HN := Lib.hid (And.intro hn hn')
  have hn8 : n ≤ 8 := by omega
  obtain ⟨E, hE⟩ : ∃ E, addE a b = E := ⟨_, rfl⟩
  obtain ⟨L, hL⟩ : ∃ L, addL a b = L := ⟨_, rfl⟩
  have HE := Lib.hid hE
  have HL := Lib.hid hL
  rw [hE, hL]
  clear ha hb hn hn' hab la lb hF hG hF2 hG2 h1 h8 hal hbl hE hL
  go_enter Try.func26, Try.ntmps26
  go_wp2_with fail
  refine (HPa.out w HA.out).mono ?_
  rintro e w1 ⟨rfl, hb⟩
  have B1 := Lib.hid hb
  clear hb
  go_wp2_with fail
  refine (HPb.out w1 (HB.out.on B1.out)).mono ?_
  rintro e w2 ⟨rfl, hb⟩
  have B2 := Lib.hid (bstep B1.out hb)
  clear hb
  go_wp2_with fail
  go_loopw [8, 9] (fun v i wr => ∃ (k : Nat) (A' : Option Addr) (n' c' : Nat), k ≤ n ∧ i = .int .i64 k ∧ v = .slice A' n' c' ∧ Row cI 1 3 w.heap.size wr (.slice A' n' c') ((addZ a b).take k) ∧ (∀ (j : Nat) (x y : Int), j < k → a[j]? = some x → b[j]? = some y → x + y ≤ MM) ∧ Below w.heap.size w wr) (fun _ i _ => n - (RowKit.intOf i).toNat)
  case atStart => exact ⟨0, none, 0, 0, Nat.zero_le _, rfl, rfl, Row.nil _ _ _ _ _, fun j x y h => absurd h (by omega), B2.out⟩
  case round =>
    obtain ⟨k, A', n', c', hk, rfl, rfl, hrow, hv, hbel⟩ := hrel
    have HR := Lib.hid hrow
    have HW := Lib.hid hbel
    have HV := Lib.hid hv
    clear hrow hbel hv
    rcases Nat.lt_or_ge k n with hlt | hge
    · obtain ⟨x, hx⟩ := get_lt (L := a) (k := k) (by have := HN.out.1; omega)
      obtain ⟨y, hy⟩ := get_lt (L := b) (k := k) (by have := HN.out.2; omega)
      obtain ⟨b1, o1, hA0, hb1, h0⟩ := cl_at HA.out hx
      obtain ⟨b2, o2, hB0, hb2, h3⟩ := cl_at HB.out hy
      subst hA0
      subst hB0
      have x0 : wr.cell? ⟨b1, o1 + k, none⟩ = some (.int .i64 x) := (HW.out.cell (p := ⟨b1, o1 + k, none⟩) hb1).trans h0
      have y0 : wr.cell? ⟨b2, o2 + k, none⟩ = some (.int .i64 y) := (HW.out.cell (p := ⟨b2, o2 + k, none⟩) hb2).trans h3
      have HX := Lib.hid hx
      have HY := Lib.hid hy
      have hxl := HAl.out x (List.mem_of_getElem? hx)
      have hyl := HBl.out y (List.mem_of_getElem? hy)
      have hM : MM = 1099511627776 := rfl
      have i1 : (k : Int) < (n : Int) := by omega
      have i2 : (0 : Int) ≤ (k : Int) := by omega
      obtain ⟨s, hs⟩ : ∃ s, x + y = s := ⟨_, rfl⟩
      have ws : IntKind.i64.wrap s = s := wrap_id (by omega)
      have hwb1 : b1 < wr.heap.size := Nat.lt_of_lt_of_le hb1 HW.out.size
      have hwb2 : b2 < wr.heap.size := Nat.lt_of_lt_of_le hb2 HW.out.size
      have HBB := Lib.hid (And.intro hb1 hb2)
      have HS := Lib.hid hs
      clear hx hy h0 h3 hxl hyl hM hb1 hb2
      rcases Int.lt_or_le 1099511627776 s with hg | hg
      · have t0 : decide (1099511627776 < s) = true := decide_eq_true hg
        obtain ⟨e1, e2⟩ := addE_big HFG.out.1 HFG.out.2.1 HFG.out.2.2 HX.out HY.out (by rw [HS.out]; exact hg)
        obtain rfl : E = 2 := by rw [← HE.out]; exact e1
        obtain rfl : L = [] := by rw [← HL.out]; exact e2
        clear hg e1 e2
        go_wp2_with fail
        go_quiet (fail)
        go_wp2_with fail
        go_ret2
        exact ResM.none_ (below_drewN HW.out _)
      have t0 : decide (1099511627776 < s) = false := decide_eq_false (by omega)
      have HG := Lib.hid (show s ≤ MM from hg)
      have HTn : Hid ((addZ a b).take (k + 1) = (addZ a b).take k ++ [s]) := Lib.hid (by rw [addZ_take HFG.out.1 HX.out HY.out, HS.out])
      have HSl : Hid (((addZ a b).take k).length + 1 ≤ 1000000) := Lib.hid (by have := List.length_take_le k (addZ a b); omega)
      have HVn : Hid (∀ (j : Nat) (x y : Int), j < k + 1 → a[j]? = some x → b[j]? = some y → x + y ≤ MM) := Lib.hid (by
        intro j u v hj hu hv
        rcases Nat.lt_or_eq_of_le (Nat.le_of_lt_succ hj) with h | h
        · exact HV.out j u v h hu hv
        · subst h
          have e1 := HX.out
          have e2 := HY.out
          rw [hu] at e1; rw [hv] at e2; cases e1; cases e2
          rw [HS.out]; exact HG.out)
      clear hg
      go_wp2_with fail
      go_quiet (fail)
      go_wp2_with fail
      obtain ⟨wq, hwq⟩ : ∃ W, wr.drewN nq = W := ⟨_, rfl⟩
      have BQ : Hid (Below w.heap.size w wq) := hwq ▸ below_drewN HW.out _
      have bqq : Below wr.heap.size wr wq := hwq ▸ below_drewN (Below.refl _ _) _
      have RQ := Lib.hid (HR.out.on bqq)
      have u0 : wq.cell? ⟨b1, o1 + k, none⟩ = some (.int .i64 x) := (bqq.cell (p := ⟨b1, o1 + k, none⟩) hwb1).trans x0
      have v0 : wq.cell? ⟨b2, o2 + k, none⟩ = some (.int .i64 y) := (bqq.cell (p := ⟨b2, o2 + k, none⟩) hwb2).trans y0
      have q1 : b1 < wq.heap.size := Nat.lt_of_lt_of_le hwb1 bqq.size
      have q2 : b2 < wq.heap.size := Nat.lt_of_lt_of_le hwb2 bqq.size
      rw [hwq]
      clear hwq bqq x0 y0 hwb1 hwb2
      have HXl : Hid (∀ W : World, W.heap.size = wq.heap.size → ∀ ty, Rd cI 1 (W.alloc (.cells #[.int .i64 s] ty)) (some ⟨wq.heap.size, 0, none⟩) [s]) := fun W hW ty => rd_one cI_len (by rw [← hW]; exact heap_alloc_new _ _)
      have HCQ : Hid (∀ W, Below wq.heap.size wq W → W.cell? ⟨b1, o1 + k, none⟩ = some (.int .i64 x) ∧ W.cell? ⟨b2, o2 + k, none⟩ = some (.int .i64 y)) := fun W h =>
        ⟨(h.cell (p := ⟨b1, o1 + k, none⟩) q1).trans u0, (h.cell (p := ⟨b2, o2 + k, none⟩) q2).trans v0⟩
      have HGk : Hid (∀ W : World, wq.grownBy W (Value.slice A' n' c').ownBlock → W.cell? ⟨b1, o1 + k, none⟩ = some (.int .i64 x) ∧ W.cell? ⟨b2, o2 + k, none⟩ = some (.int .i64 y)) := fun W hg => by
        have hne1 : some b1 ≠ (Value.slice A' n' c').ownBlock := fun e => by have := (RQ.out.lt b1 e.symm).1; have := HBB.out.1; omega
        have hne2 : some b2 ≠ (Value.slice A' n' c').ownBlock := fun e => by have := (RQ.out.lt b2 e.symm).1; have := HBB.out.2; omega
        exact ⟨(hg.cell_far ⟨b1, o1 + k, none⟩ q1 hne1).trans u0, (hg.cell_far ⟨b2, o2 + k, none⟩ q2 hne2).trans v0⟩
      go_region_held3 (fun W => W.cell? ⟨b1, o1 + k, none⟩ = some (.int .i64 x) ∧ W.cell? ⟨b2, o2 + k, none⟩ = some (.int .i64 y))
        (first | exact HCQ.out _ (Below.refl _ _) | exact HCQ.out _ (drew_below _) | exact HCQ.out _ (below_drew (below_alloc _ _)) | exact HCQ.out _ (bstep (drew_below _) (below_alloc _ _)) | exact HGk.out _ HG5.out)
        ((refine step_rows kdI wq rfl (.tmp 45) (.tmp 55) rfl (.slice A' n' c') ((addZ a b).take k) (by simp [Act.eval]) RQ.out (by first | exact below_alloc _ _ | exact below_drew (below_alloc _ _) | exact bstep (drew_below _) (below_alloc _ _)) (some ⟨wq.heap.size, 0, none⟩) 1 1 [s] rfl (by simp [Act.eval]) (by first | exact HXl.out _ rfl _) HSl.out BQ.out.size ?_; intro A5 n5 c5 w5 hn5 hr5 hk5 hg5 hat5; have HN5 := Lib.hid hn5; have HR5 := Lib.hid hr5; have HG5 := Lib.hid hg5; clear hn5 hr5 hk5 hg5 hat5))
      all_goals
        have HB5 : Hid (Below w.heap.size w w5) := BQ.out.trans (RQ.out.below HG5.out BQ.out.size)
        have HR6 : Hid (Row cI 1 3 w.heap.size w5 (.slice A5 n5 c5) ((addZ a b).take (k + 1))) := Lib.hid (by rw [HTn.out]; exact HR5.out)
        go_wp2_with fail
        go_roundw
        case rel => exact ⟨k + 1, A5, n5, c5, by omega, by go_num, rfl, HR6.out, HVn.out, HB5.out⟩
        case measure => simp [RowKit.intOf]; omega
    · obtain rfl : k = n := by omega
      obtain ⟨e1, e2⟩ := addE_ok HFG.out.1 HFG.out.2.1 HFG.out.2.2 fun j x y hx hy => HV.out j x y (by have := glt hx; have := HN.out.1; omega) hx hy
      obtain rfl : E = 0 := by rw [← HE.out]; exact e1
      have HO : Hid (Own eI 3 w.heap.size wr (.slice A' n' c') L) := Lib.hid (by
        have h1 := own_row HR.out
        rw [List.take_of_length_le (by rw [addZ_len HFG.out.1, ← HN.out.1]; exact Nat.le_refl _), ← e2, HL.out] at h1
        exact h1)
      clear e1 e2
      go_wp2_with fail
      go_ret2
      exact ⟨_, rfl, HO.out, HW.out⟩
end Go.Proofs.Ytgomokdklajlcaa.Fibre
/- Cost, Near of the reference. -/
namespace Go.Proofs.Ytgomokdklajlcaa.Fibre
open Go.ChangeShapes Go.WideShapes Go.RowKit Go.Lib
open Go.Proofs.Ytgomokdklajlcaa.Mem (Cl eI Own)
open Go.Proofs.Ytgomokdklajlcaa.Rw (glt get_lt ret_bool ret_int wrap_id bstep below_drewN below_drew drew_below below_alloc)
open Go.Proofs.Ytgomokdklajlcaa.Share (sumK)
set_option linter.unusedVariables false
set_option maxRecDepth 100000

/-- The product of two numbers in millionths, rounded to the nearest integer, halves to the even one. -/
def mdC (x z : Int) : Int := Num.mdV x z 1000000 2
theorem mdC_lim (x z : Int) : -1125899906842624 ≤ mdC x z ∧ mdC x z ≤ 1125899906842624 := by
  unfold mdC Num.mdV
  split
  · omega
  · split
    · omega
    · split
      · omega
      · unfold Num.okV
        split
        · rename_i h; unfold Num.InR at h; exact h
        · omega
theorem cosK_lim (l : List Fb) (m : List Int) (hl : l.length = m.length) : ∀ k, k ≤ l.length → -(1125899906842624 * (k : Int)) ≤ cosK mdC l m k ∧ cosK mdC l m k ≤ 1125899906842624 * (k : Int)
  | 0, _ => by simp [cosK, cosS]
  | k + 1, hk => by
    have ih := cosK_lim l m hl k (by omega)
    obtain ⟨f, hf⟩ := get_lt (L := l) (k := k) (by omega)
    obtain ⟨z, hz⟩ := get_lt (L := m) (k := k) (by omega)
    have h1 := mdC_lim f.2 z
    rw [cosK_succ hl hf hz, show ((k + 1 : Nat) : Int) = (k : Int) + 1 by omega, Int.mul_add, Int.mul_one]
    omega
theorem cosE_chk {l : List Fb} {m : List Int} (h : ¬ chkE l = 0) : cosE mdC l m = chkE l ∧ cosV mdC l m = 0 := by
  have h1 : cosE mdC l m = chkE l := if_neg h
  exact ⟨h1, if_neg (by rw [h1]; exact h)⟩
theorem cosE_par {l : List Fb} {m : List Int} (h : chkE l = 0) (h2 : ¬ parE m (l.length : Int) = 0) : cosE mdC l m = parE m (l.length : Int) ∧ cosV mdC l m = 0 := by
  have h1 : cosE mdC l m = parE m (l.length : Int) := by unfold cosE; rw [if_pos h, if_neg h2]
  exact ⟨h1, if_neg (by rw [h1]; exact h2)⟩
theorem cosE_big {l : List Fb} {m : List Int} (h : chkE l = 0) (h2 : parE m (l.length : Int) = 0) (h3 : 1000000000000 < cosS mdC l m) : cosE mdC l m = 2 ∧ cosV mdC l m = 0 := by
  have h1 : cosE mdC l m = 2 := by unfold cosE; rw [if_pos h, if_pos h2, if_pos h3]
  exact ⟨h1, if_neg (by rw [h1]; decide)⟩
theorem cosE_ok {l : List Fb} {m : List Int} (h : chkE l = 0) (h2 : parE m (l.length : Int) = 0) (h3 : ¬ 1000000000000 < cosS mdC l m) : cosE mdC l m = 0 ∧ cosV mdC l m = cosS mdC l m := by
  have h1 : cosE mdC l m = 0 := by unfold cosE; rw [if_pos h, if_pos h2, if_neg h3]
  exact ⟨h1, if_pos h1⟩
set_option maxHeartbeats 3200000 in
theorem rr_Cost (l : List Fb) (m : List Int) (A B : Option Addr) (n n' c d : Nat) (hn : n = l.length) (hn' : n' = m.length) (w : World) (ha : Kds w A l) (hs : Sz l) (hb : Cl eI w B m) (hm : n ≤ 9223372036854775807) (hm2 : n' ≤ 9223372036854775807) :
    Calls Try.prog 28 #[.slice A n c, .slice B n' d] w fun e w' => e = .returned (.tuple #[.int .i64 (cosV mdC l m), .int .i64 (cosE mdC l m)]) ∧ Below w.heap.size w w' := by
  have HA := Lib.hid ha
  have HB := Lib.hid hb
  have HCk := Lib.hid (rr_Check l A n c hn w ha hs hm)
  obtain ⟨F, hF⟩ : ∃ F, chkE l = F := ⟨_, rfl⟩
  rw [hF] at HCk
  by_cases hz : F = 0
  rotate_left
  · obtain ⟨z1, z2⟩ := ne_zero hz
    obtain ⟨e1, e2⟩ := cosE_chk (l := l) (m := m) (by rw [hF]; exact hz)
    rw [e1, e2, hF]
    clear ha hb hs hn hn' hF hz e1 e2
    go_enter Try.func28, Try.ntmps28
    go_wp2_with fail
    refine HCk.out.mono ?_
    rintro e w1 ⟨rfl, hb⟩
    have B1 := Lib.hid hb
    clear hb
    go_wp2_with fail
    go_ret2
    exact ⟨rfl, B1.out⟩
  subst hz
  have HPa := Lib.hid fun (W : World) (h : Cl eI W B m) => rr_Parts m B n' d hn' n W h hm2
  obtain ⟨G, hG⟩ : ∃ G, parE m (l.length : Int) = G := ⟨_, rfl⟩
  have hG2 : parE m (n : Int) = G := by rw [hn]; exact hG
  rw [hG2] at HPa
  by_cases hz : G = 0
  rotate_left
  · obtain ⟨z1, z2⟩ := ne_zero hz
    obtain ⟨e1, e2⟩ := cosE_par (m := m) hF (by rw [hG]; exact hz)
    rw [e1, e2, hG]
    clear ha hb hs hn hn' hF hG hG2 hz e1 e2
    go_enter Try.func28, Try.ntmps28
    go_wp2_with fail
    refine HCk.out.mono ?_
    rintro e w1 ⟨rfl, hb⟩
    have B1 := Lib.hid hb
    clear hb
    go_wp2_with fail
    refine (HPa.out w1 (HB.out.on B1.out)).mono ?_
    rintro e w2 ⟨rfl, hb⟩
    have B2 := Lib.hid (bstep B1.out hb)
    clear hb
    go_wp2_with fail
    go_ret2
    exact ⟨rfl, B2.out⟩
  subst hz
  obtain ⟨h1, h8, hlm, hml⟩ := lisE_of hG
  have hnn : n' = n := by omega
  have hll : l.length = m.length := by omega
  have HLL := Lib.hid hll
  have HFG := Lib.hid (And.intro hF hG)
  have HN := Lib.hid (And.intro hn hn')
  have HLim := Lib.hid (cosK_lim l m hll)
  have hn8 : n ≤ 8 := by omega
  have HMd : Hid (∀ (x z : Int) (W : World), Calls Try.prog 45 #[.int .i64 x, .int .i64 z, .int .i64 1000000, .int .i64 2] W fun e w' => ∃ E, e = .returned (.tuple #[.int .i64 (mdC x z), .int .i64 E]) ∧ Below W.heap.size W w') := fun x z W =>
    (Num.ref_muldiv x z 1000000 2 W).mono fun e w' ⟨h3, h4⟩ => ⟨_, h3, h4⟩
  obtain ⟨E, hE⟩ : ∃ E, cosE mdC l m = E := ⟨_, rfl⟩
  obtain ⟨V, hV⟩ : ∃ V, cosV mdC l m = V := ⟨_, rfl⟩
  have HE := Lib.hid hE
  have HV := Lib.hid hV
  rw [hE, hV]
  subst hnn
  clear ha hb hs hn hn' hF hG hG2 h1 h8 hlm hml hll hE hV
  go_enter Try.func28, Try.ntmps28
  go_wp2_with fail
  refine HCk.out.mono ?_
  rintro e w1 ⟨rfl, hb⟩
  have B1 := Lib.hid hb
  clear hb
  go_wp2_with fail
  refine (HPa.out w1 (HB.out.on B1.out)).mono ?_
  rintro e w2 ⟨rfl, hb⟩
  have B2 := Lib.hid (bstep B1.out hb)
  clear hb
  go_wp2_with fail
  go_loopw [8, 9] (fun s i wr => ∃ (k : Nat) (S : Int), k ≤ n' ∧ i = .int .i64 k ∧ s = .int .i64 S ∧ S = cosK mdC l m k ∧ Below w.heap.size w wr) (fun _ i _ => n' - (RowKit.intOf i).toNat)
  case atStart => exact ⟨0, 0, Nat.zero_le _, rfl, rfl, rfl, B2.out⟩
  case round =>
    obtain ⟨k, S, hk, rfl, rfl, hS, hbel⟩ := hrel
    have HS := Lib.hid hS
    have HW := Lib.hid hbel
    clear hS hbel
    rcases Nat.lt_or_ge k n' with hlt | hge
    · obtain ⟨f, hf⟩ := get_lt (L := l) (k := k) (by have := HN.out.1; omega)
      obtain ⟨z, hz⟩ := get_lt (L := m) (k := k) (by have := HN.out.2; omega)
      obtain ⟨b1, o1, hA0, hb1, -, h0⟩ := kd_at (HA.out.on HW.out) hf
      obtain ⟨b2, o2, hB0, hb2, h3⟩ := cl_at (HB.out.on HW.out) hz
      subst hA0
      subst hB0
      have i1 : (k : Int) < (n' : Int) := by omega
      have i2 : (0 : Int) ≤ (k : Int) := by omega
      obtain ⟨S2, hS2⟩ : ∃ S2, cosK mdC l m (k + 1) = S2 := ⟨_, rfl⟩
      have hl1 := HLim.out (k + 1) (by have := HN.out.1; omega)
      have he := cosK_succ (md := mdC) HLL.out hf hz
      rw [hS2, ← HS.out] at he
      rw [hS2] at hl1
      have HM1 := Lib.hid fun W => HMd.out f.2 z W
      obtain ⟨P, hP⟩ : ∃ P, mdC f.2 z = P := ⟨_, rfl⟩
      rw [hP] at HM1 he
      have wS : IntKind.i64.wrap S2 = S2 := wrap_id (by omega)
      have hs : S + P = S2 := he.symm
      have HS2 := Lib.hid hS2
      have HCS : Hid (∀ W, Below wr.heap.size wr W → W.cell? ⟨b1, o1 + k * 2 + 1, none⟩ = some (.int .i64 f.2) ∧ W.cell? ⟨b2, o2 + k, none⟩ = some (.int .i64 z)) := fun W h =>
        ⟨(h.cell (p := ⟨b1, o1 + k * 2 + 1, none⟩) hb1).trans h0, (h.cell (p := ⟨b2, o2 + k, none⟩) hb2).trans h3⟩
      clear hf hz hS2 hl1 he hP
      obtain ⟨wq, rfl⟩ : ∃ W, W = wr := ⟨wr, rfl⟩
      go_wp2_with fail
      go_region_held3 (fun W => W.cell? ⟨b1, o1 + k * 2 + 1, none⟩ = some (.int .i64 f.2) ∧ W.cell? ⟨b2, o2 + k, none⟩ = some (.int .i64 z))
        (first | exact HCS.out _ (Below.refl _ _) | exact HCS.out _ (drew_below _) | exact HCS.out _ HBL.out)
        ((go_at_call 45; (refine (HM1.out _).mono ?_); rintro e w3 ⟨E1, rfl, hb3⟩; (have HBL : Hid (Below wq.heap.size wq w3) := Lib.hid (bstep (drew_below _) hb3)); clear hb3))
      all_goals
        have HB5 : Hid (Below w.heap.size w w3) := Lib.hid (HW.out.trans (HBL.out.mono HW.out.size))
        go_wp2_with fail
        go_roundw
        case rel => exact ⟨k + 1, S2, by omega, by go_num, rfl, HS2.out.symm, HB5.out⟩
        case measure => simp [RowKit.intOf]; omega
    · obtain rfl : k = n' := by omega
      have HT : Hid (S = cosS mdC l m) := Lib.hid (by rw [HS.out]; exact cosK_all _ _ _ (by rw [← HN.out.1]; exact Nat.le_refl _) (by rw [← HN.out.2]; exact Nat.le_refl _))
      rcases Int.lt_or_le 1000000000000 S with hg | hg
      · have t0 : decide (1000000000000 < S) = true := decide_eq_true hg
        obtain ⟨e1, e2⟩ := cosE_big HFG.out.1 HFG.out.2 (by rw [← HT.out]; exact hg)
        obtain rfl : E = 2 := by rw [← HE.out]; exact e1
        obtain rfl : V = 0 := by rw [← HV.out]; exact e2
        clear hg e1 e2
        go_wp2_with fail
        go_ret2
        exact ⟨rfl, HW.out⟩
      · have t0 : decide (1000000000000 < S) = false := decide_eq_false (by omega)
        obtain ⟨e1, e2⟩ := cosE_ok HFG.out.1 HFG.out.2 (by rw [← HT.out]; omega)
        obtain rfl : E = 0 := by rw [← HE.out]; exact e1
        obtain rfl : V = S := by rw [← HV.out, HT.out]; exact e2
        clear hg e1 e2
        go_wp2_with fail
        go_ret2
        exact ⟨rfl, HW.out⟩

/-! ### Near -/
theorem nea_rec {m r : List Int} {tol : Int} (h : ¬ recE r (lenI r) = 0) : neaE m r tol = recE r (lenI r) ∧ neaV m r tol = false := by
  have h1 : neaE m r tol = recE r (lenI r) := if_neg h
  exact ⟨h1, by unfold neaV; rw [h1, decide_eq_false h]; rfl⟩
theorem nea_par {m r : List Int} {tol : Int} (h : recE r (lenI r) = 0) (h2 : ¬ parE m (lenI r) = 0) : neaE m r tol = parE m (lenI r) ∧ neaV m r tol = false := by
  have h1 : neaE m r tol = parE m (lenI r) := by unfold neaE; rw [if_pos h, if_neg h2]
  exact ⟨h1, by unfold neaV; rw [h1, decide_eq_false h2]; rfl⟩
theorem nea_tol {m r : List Int} {tol : Int} (h : recE r (lenI r) = 0) (h2 : parE m (lenI r) = 0) (h3 : inM 1000 tol = false) : neaE m r tol = 1 ∧ neaV m r tol = false := by
  have h1 : neaE m r tol = 1 := by unfold neaE; rw [if_pos h, if_pos h2, h3]; rfl
  exact ⟨h1, by unfold neaV; rw [h1]; rfl⟩
theorem nea_nil {m r : List Int} {tol : Int} (h : recE r (lenI r) = 0) (h2 : parE m (lenI r) = 0) (h3 : inM 1000 tol = true) (h4 : sumZ m = 0) : neaE m r tol = 10 ∧ neaV m r tol = false := by
  have h1 : neaE m r tol = 10 := by unfold neaE; rw [if_pos h, if_pos h2, h3, if_pos rfl, if_pos h4]
  exact ⟨h1, by unfold neaV; rw [h1]; rfl⟩
theorem nea_ok {m r : List Int} {tol : Int} (h : recE r (lenI r) = 0) (h2 : parE m (lenI r) = 0) (h3 : inM 1000 tol = true) (h4 : ¬ sumZ m = 0) : neaE m r tol = 0 ∧ neaV m r tol = neaB (sumZ m) tol m r := by
  have h1 : neaE m r tol = 0 := by unfold neaE; rw [if_pos h, if_pos h2, h3, if_pos rfl, if_neg h4]
  exact ⟨h1, by unfold neaV; rw [h1]; rfl⟩
theorem nea1_no {t tol x r : Int} (h : tol * t < 1000 * x - r * t ∨ 1000 * x - r * t < -(tol * t)) : nea1 t tol x r = false := by
  unfold nea1
  rcases h with h | h
  · rw [decide_eq_false (show ¬ 1000 * x - r * t ≤ tol * t by omega), Bool.false_and]
  · rw [decide_eq_false (show ¬ -(tol * t) ≤ 1000 * x - r * t by omega), Bool.and_false]
theorem nea1_yes {t tol x r : Int} (h : 1000 * x - r * t ≤ tol * t) (h2 : -(tol * t) ≤ 1000 * x - r * t) : nea1 t tol x r = true := by
  unfold nea1
  rw [decide_eq_true h, decide_eq_true h2]; rfl
set_option maxHeartbeats 3200000 in
theorem rr_Near (m r : List Int) (A B : Option Addr) (n n' c d : Nat) (hn : n = m.length) (hn' : n' = r.length) (tol : Int) (w : World) (ha : Cl eI w A m) (hb : Cl eI w B r) (hm : n ≤ 9223372036854775807) (hm2 : n' ≤ 9223372036854775807) :
    Calls Try.prog 30 #[.slice A n c, .slice B n' d, .int .i64 tol] w fun e w' => e = .returned (.tuple #[.bool (neaV m r tol), .int .i64 (neaE m r tol)]) ∧ Below w.heap.size w w' := by
  have HA := Lib.hid ha
  have HB := Lib.hid hb
  have lr : lenI r = (n' : Int) := by unfold lenI; rw [hn']
  have HRe := Lib.hid (rr_Recipe r B n' d hn' n' w hb hm2)
  obtain ⟨F, hF⟩ : ∃ F, recE r (lenI r) = F := ⟨_, rfl⟩
  have hF2 : recE r (n' : Int) = F := by rw [← lr]; exact hF
  rw [hF2] at HRe
  by_cases hz : F = 0
  rotate_left
  · obtain ⟨z1, z2⟩ := ne_zero hz
    obtain ⟨e1, e2⟩ := nea_rec (m := m) (tol := tol) (by rw [hF]; exact hz)
    rw [e1, e2, hF]
    clear ha hb hn hn' lr hF hF2 hz e1 e2
    go_enter Try.func30, Try.ntmps30
    go_wp2_with fail
    refine HRe.out.mono ?_
    rintro e w1 ⟨rfl, hb⟩
    have B1 := Lib.hid hb
    clear hb
    go_wp2_with fail
    go_ret2
    exact ⟨rfl, B1.out⟩
  subst hz
  have HPa := Lib.hid fun (W : World) (h : Cl eI W A m) => rr_Parts m A n c hn n' W h hm
  obtain ⟨G, hG⟩ : ∃ G, parE m (lenI r) = G := ⟨_, rfl⟩
  have hG2 : parE m (n' : Int) = G := by rw [← lr]; exact hG
  rw [hG2] at HPa
  by_cases hz : G = 0
  rotate_left
  · obtain ⟨z1, z2⟩ := ne_zero hz
    obtain ⟨e1, e2⟩ := nea_par (tol := tol) hF (by rw [hG]; exact hz)
    rw [e1, e2, hG]
    clear ha hb hn hn' lr hF hF2 hG hG2 hz e1 e2
    go_enter Try.func30, Try.ntmps30
    go_wp2_with fail
    refine HRe.out.mono ?_
    rintro e w1 ⟨rfl, hb⟩
    have B1 := Lib.hid hb
    clear hb
    go_wp2_with fail
    refine (HPa.out w1 (HA.out.on B1.out)).mono ?_
    rintro e w2 ⟨rfl, hb⟩
    have B2 := Lib.hid (bstep B1.out hb)
    clear hb
    go_wp2_with fail
    go_ret2
    exact ⟨rfl, B2.out⟩
  subst hz
  by_cases ht : inM 1000 tol = true
  rotate_left
  · obtain ⟨e1, e2⟩ := nea_tol hF hG (Bool.eq_false_iff.mpr ht)
    rw [e1, e2]
    rcases Int.lt_or_le tol 0 with h0 | h0
    · have t0 : decide (tol < 0) = true := decide_eq_true h0
      clear ha hb hn hn' lr hF hF2 hG hG2 e1 e2 ht h0
      go_enter Try.func30, Try.ntmps30
      go_wp2_with fail
      refine HRe.out.mono ?_
      rintro e w1 ⟨rfl, hb⟩
      have B1 := Lib.hid hb
      clear hb
      go_wp2_with fail
      refine (HPa.out w1 (HA.out.on B1.out)).mono ?_
      rintro e w2 ⟨rfl, hb⟩
      have B2 := Lib.hid (bstep B1.out hb)
      clear hb
      go_wp2_with fail
      go_ret2
      exact ⟨rfl, B2.out⟩
    · have t0 : decide (tol < 0) = false := decide_eq_false (by omega)
      have t1 : decide (1000 < tol) = true := decide_eq_true (by
        rcases Int.lt_or_le 1000 tol with h | h
        · exact h
        · exact absurd (inM_iff.mpr ⟨h0, h⟩) ht)
      clear ha hb hn hn' lr hF hF2 hG hG2 e1 e2 ht h0
      go_enter Try.func30, Try.ntmps30
      go_wp2_with fail
      refine HRe.out.mono ?_
      rintro e w1 ⟨rfl, hb⟩
      have B1 := Lib.hid hb
      clear hb
      go_wp2_with fail
      refine (HPa.out w1 (HA.out.on B1.out)).mono ?_
      rintro e w2 ⟨rfl, hb⟩
      have B2 := Lib.hid (bstep B1.out hb)
      clear hb
      go_wp2_with fail
      go_ret2
      exact ⟨rfl, B2.out⟩
  have htl := inM_iff.mp ht
  have t0 : decide (tol < 0) = false := decide_eq_false (by omega)
  have t1 : decide (1000 < tol) = false := decide_eq_false (by omega)
  obtain ⟨hr1, -⟩ := recE_of hF
  obtain ⟨-, h8, -, hrl⟩ := lisE_of hr1
  obtain ⟨-, -, hml0, hml⟩ := lisE_of hG
  have hnn : n = n' := by rw [lr] at hml0; omega
  subst hnn
  have hn8 : n ≤ 8 := by omega
  have HSm := Lib.hid fun (W : World) (h : Cl eI W A m) => rr_Sum m A n c hn W h hn8 hml
  have hsl := sumZ_lim (by decide) hml (by omega)
  obtain ⟨T, hT⟩ : ∃ T, sumZ m = T := ⟨_, rfl⟩
  rw [hT] at HSm hsl
  have hM : MM = 1099511627776 := rfl
  rw [hM] at hsl
  by_cases hT0 : T = 0
  · subst hT0
    obtain ⟨e1, e2⟩ := nea_nil hF hG ht hT
    rw [e1, e2]
    clear ha hb hn hn' lr hF hF2 hG hG2 e1 e2 ht htl hr1 h8 hrl hml0 hml hsl hT hM
    go_enter Try.func30, Try.ntmps30
    go_wp2_with fail
    refine HRe.out.mono ?_
    rintro e w1 ⟨rfl, hb⟩
    have B1 := Lib.hid hb
    clear hb
    go_wp2_with fail
    refine (HPa.out w1 (HA.out.on B1.out)).mono ?_
    rintro e w2 ⟨rfl, hb⟩
    have B2 := Lib.hid (bstep B1.out hb)
    clear hb
    go_wp2_with fail
    refine (HSm.out w2 (HA.out.on B2.out)).mono ?_
    rintro e w3 ⟨rfl, hb⟩
    have B3 := Lib.hid (bstep B2.out hb)
    clear hb
    go_wp2_with fail
    go_ret2
    exact ⟨rfl, B3.out⟩
  have z1 : (T == 0) = false := beq_false_of_ne hT0
  obtain ⟨e1, e2⟩ := nea_ok hF hG ht (by rw [hT]; exact hT0)
  rw [hT] at e2
  rw [e1, e2]
  obtain ⟨V, hV⟩ : ∃ V, neaB T tol m r = V := ⟨_, rfl⟩
  rw [hV]
  have HV := Lib.hid hV
  have HML := Lib.hid hml
  have HRL := Lib.hid hrl
  have HN := Lib.hid (And.intro hn hn')
  have HTl := Lib.hid htl
  have HTs := Lib.hid hsl
  have HT0 := Lib.hid hT0
  have htt : tol * T ≤ 8796093022208000 := by
    have h1 : tol * T ≤ 1000 * T := Int.mul_le_mul_of_nonneg_right htl.2 hsl.1
    omega
  have htt0 : 0 ≤ tol * T := Int.mul_nonneg htl.1 hsl.1
  obtain ⟨U, hU⟩ : ∃ U, tol * T = U := ⟨_, rfl⟩
  obtain ⟨ν, hν⟩ : ∃ ν, -tol = ν := ⟨_, rfl⟩
  have hnu : ν * T = -U := by rw [← hν, ← hU, Int.neg_mul]
  obtain ⟨NU, hNU⟩ : ∃ NU, ν * T = NU := ⟨_, rfl⟩
  rw [hU] at htt htt0
  have wU : IntKind.i64.wrap U = U := wrap_id (by omega)
  have wN : IntKind.i64.wrap ν = ν := wrap_id (by omega)
  have wNU : IntKind.i64.wrap NU = NU := wrap_id (by omega)
  have HU := Lib.hid (And.intro hU (And.intro (show NU = -U by rw [← hNU]; exact hnu) (And.intro htt0 htt)))
  clear ha hb hn hn' lr hF hF2 hG hG2 e1 e2 ht hr1 h8 hrl hml0 hml hT hM hV htl hnu htt htt0 hsl hT0
  go_enter Try.func30, Try.ntmps30
  go_wp2_with fail
  refine HRe.out.mono ?_
  rintro e w1 ⟨rfl, hb⟩
  have B1 := Lib.hid hb
  clear hb
  go_wp2_with fail
  refine (HPa.out w1 (HA.out.on B1.out)).mono ?_
  rintro e w2 ⟨rfl, hb⟩
  have B2 := Lib.hid (bstep B1.out hb)
  clear hb
  go_wp2_with fail
  refine (HSm.out w2 (HA.out.on B2.out)).mono ?_
  rintro e w3 ⟨rfl, hb⟩
  have B3 := Lib.hid (bstep B2.out hb)
  clear hb
  go_wp2_with fail
  go_loopw [11] (fun i wr => ∃ k : Nat, k ≤ n ∧ i = .int .i64 k ∧ (∀ (j : Nat) (x y : Int), j < k → m[j]? = some x → r[j]? = some y → nea1 T tol x y = true) ∧ Below w.heap.size w wr) (fun i _ => n - (RowKit.intOf i).toNat)
  case atStart => exact ⟨0, Nat.zero_le _, rfl, fun j x y h => absurd h (by omega), B3.out⟩
  case round =>
    obtain ⟨k, hk, rfl, hv, hbel⟩ := hrel
    have HQ := Lib.hid hv
    have HW := Lib.hid hbel
    clear hv hbel
    rcases Nat.lt_or_ge k n with hlt | hge
    · obtain ⟨x, hx⟩ := get_lt (L := m) (k := k) (by have := HN.out.1; omega)
      obtain ⟨y, hy⟩ := get_lt (L := r) (k := k) (by have := HN.out.2; omega)
      obtain ⟨b1, o1, hA0, hb1, h0⟩ := cl_at (HA.out.on HW.out) hx
      obtain ⟨b2, o2, hB0, hb2, h3⟩ := cl_at (HB.out.on HW.out) hy
      subst hA0
      subst hB0
      have HX := Lib.hid hx
      have HY := Lib.hid hy
      have hxl := HML.out x (List.mem_of_getElem? hx)
      have hyl := HRL.out y (List.mem_of_getElem? hy)
      have hM : MM = 1099511627776 := rfl
      have hts := HTs.out
      have i1 : (k : Int) < (n : Int) := by omega
      have i2 : (0 : Int) ≤ (k : Int) := by omega
      have hyT : y * T ≤ 8796093022208000 := by
        have h1 : y * T ≤ 1000 * T := Int.mul_le_mul_of_nonneg_right hyl.2 hts.1
        omega
      have hyT0 : 0 ≤ y * T := Int.mul_nonneg hyl.1 hts.1
      obtain ⟨P1, hP1⟩ : ∃ P, 1000 * x = P := ⟨_, rfl⟩
      obtain ⟨P2, hP2⟩ : ∃ P, y * T = P := ⟨_, rfl⟩
      obtain ⟨D, hD⟩ : ∃ D, P1 - P2 = D := ⟨_, rfl⟩
      rw [hP2] at hyT hyT0
      have w1' : IntKind.i64.wrap P1 = P1 := wrap_id (by omega)
      have w2' : IntKind.i64.wrap P2 = P2 := wrap_id (by omega)
      have w3' : IntKind.i64.wrap D = D := wrap_id (by omega)
      have HD := Lib.hid (show 1000 * x - y * T = D by rw [hP1, hP2, hD])
      clear hx hy hxl hyl hM hts hyT hyT0
      rcases Int.lt_or_le U D with hg | hg
      · have t5 : decide (U < D) = true := decide_eq_true hg
        obtain rfl : V = false := by rw [← HV.out]; exact neaB_bad HX.out HY.out (nea1_no (Or.inl (by rw [HU.out.1, HD.out]; exact hg)))
        clear hg
        go_wp2_with fail
        go_quiet (fail)
        go_wp2_with fail
        go_ret2
        exact ⟨rfl, below_drewN HW.out _⟩
      have t5 : decide (U < D) = false := decide_eq_false (by omega)
      rcases Int.lt_or_le D NU with hg2 | hg2
      · have t6 : decide (D < NU) = true := decide_eq_true hg2
        obtain rfl : V = false := by rw [← HV.out]; exact neaB_bad HX.out HY.out (nea1_no (Or.inr (by rw [HU.out.1, HD.out, ← HU.out.2.1]; exact hg2)))
        clear hg hg2
        go_wp2_with fail
        go_quiet (fail)
        go_wp2_with fail
        go_ret2
        exact ⟨rfl, below_drewN HW.out _⟩
      have t6 : decide (D < NU) = false := decide_eq_false (by omega)
      have HY1 := Lib.hid (nea1_yes (t := T) (tol := tol) (x := x) (r := y) (by rw [HU.out.1, HD.out]; exact hg) (by rw [HU.out.1, HD.out, ← HU.out.2.1]; exact hg2))
      clear hg hg2
      go_wp2_with fail
      go_quiet (fail)
      go_wp2_with fail
      go_roundw
      case rel =>
        refine ⟨k + 1, by omega, by go_num, ?_, below_drewN HW.out _⟩
        intro j u v hj hu hv
        rcases Nat.lt_or_eq_of_le (Nat.le_of_lt_succ hj) with h | h
        · exact HQ.out j u v h hu hv
        · subst h
          have e1 := HX.out
          have e2 := HY.out
          rw [hu] at e1; rw [hv] at e2; cases e1; cases e2; exact HY1.out
      case measure => simp [RowKit.intOf]; omega
    · obtain rfl : k = n := by omega
      obtain rfl : V = true := by rw [← HV.out]; exact neaB_ok fun j x y hx hy => HQ.out j x y (by have := glt hx; have := HN.out.1; omega) hx hy
      go_wp2_with fail
      go_ret2
      exact ⟨rfl, HW.out⟩
end Go.Proofs.Ytgomokdklajlcaa.Fibre
/- The program: checkNumber, visit of integers, checkList, Recipe, Parts, Total. -/
namespace Go.Proofs.Ytgomokdklajlcaa.Fibre
open Go.ChangeShapes Go.WideShapes Go.RowKit Go.Lib
open Go.Proofs.Ytgomokdklajlcaa.Mem (Cl eI Own)
open Go.Proofs.Ytgomokdklajlcaa.Rw (Cel glt get_lt ret_bool ret_int wrap_id bstep below_drewN below_drew drew_below below_alloc)
open Go.Proofs.Ytgomokdklajlcaa.Share (sumK sumK_zero sumK_succ)
set_option linter.unusedVariables false
set_option maxRecDepth 100000

/-- The error of a number. -/
def nuE (most z : Int) : Int := if inM most z then 0 else 1
theorem nuE_ok {most z : Int} (h : inM most z = true) : nuE most z = 0 := by unfold nuE; rw [h]; rfl
theorem nuE_bad {most z : Int} (h : inM most z = false) : nuE most z = 1 := by unfold nuE; rw [h]; rfl
theorem nuE_zero {most z : Int} (h : nuE most z = 0) : inM most z = true := by
  cases hz : inM most z with
  | true => rfl
  | false => rw [nuE_bad hz] at h; cases h
theorem p_checkNumber (z most : Int) (w : World) :
    Calls Try.prog 41 #[.int .i64 z, .int .i64 most] w fun e w' => e = .returned (.int .i64 (nuE most z)) ∧ w = w' := by
  rcases Int.lt_or_le z 0 with h0 | h0
  · have t0 : decide (z < 0) = true := decide_eq_true h0
    rw [nuE_bad (Bool.eq_false_iff.mpr fun h => by have := inM_iff.mp h; omega)]
    clear h0
    go_enter Try.func41, Try.ntmps41
    go_wp2_with fail
    go_ret
    exact ⟨rfl, rfl⟩
  have t0 : decide (z < 0) = false := decide_eq_false (by omega)
  rcases Int.lt_or_le most z with h1 | h1
  · have t1 : decide (most < z) = true := decide_eq_true h1
    rw [nuE_bad (Bool.eq_false_iff.mpr fun h => by have := inM_iff.mp h; omega)]
    clear h0 h1
    go_enter Try.func41, Try.ntmps41
    go_wp2_with fail
    go_ret
    exact ⟨rfl, rfl⟩
  have t1 : decide (most < z) = false := decide_eq_false (by omega)
  rw [nuE_ok (inM_iff.mpr ⟨h0, h1⟩)]
  clear h0 h1
  go_enter Try.func41, Try.ntmps41
  go_wp2_with fail
  go_ret
  exact ⟨rfl, rfl⟩

theorem p_clo (b : Nat) (most z : Int) (w : World) (hc : w.cell? ⟨b, 0, none⟩ = some (.int .i64 most)) :
    Calls Try.prog 49 #[.int .i64 z, .pointer (some ⟨b, 0, none⟩)] w fun e w' => e = .returned (.int .i64 (nuE most z)) ∧ w = w' := by
  have HC := Lib.hid (p_checkNumber z most w)
  go_enter Try.func49, Try.ntmps49
  go_wp2_with fail
  refine HC.out.mono ?_
  rintro e w' ⟨rfl, rfl⟩
  go_wp2_with fail
  go_ret
  exact ⟨rfl, rfl⟩

/-- The first error of a list. -/
def firG (g : Int → Int) : List Int → Int
  | [] => 0
  | z :: l => if g z = 0 then firG g l else g z
theorem firG_bad {g : Int → Int} : ∀ {l : List Int} {k : Nat} {z : Int}, l[k]? = some z → ¬ g z = 0 → (∀ (j : Nat) (y : Int), j < k → l[j]? = some y → g y = 0) → firG g l = g z
  | [], _, _, h, _, _ => by simp at h
  | y :: l, 0, z, h, hb, _ => by simp at h; subst h; rw [firG, if_neg hb]
  | y :: l, k + 1, z, h, hb, ha => by
    rw [List.getElem?_cons_succ] at h
    rw [firG, if_pos (ha 0 y (by omega) rfl)]
    exact firG_bad h hb fun j x hj hx => ha (j + 1) x (by omega) (by rw [List.getElem?_cons_succ]; exact hx)
theorem firG_ok {g : Int → Int} : ∀ {l : List Int}, (∀ (j : Nat) (y : Int), l[j]? = some y → g y = 0) → firG g l = 0
  | [], _ => rfl
  | y :: l, h => by
    rw [firG, if_pos (h 0 y rfl)]
    exact firG_ok fun j x hx => h (j + 1) x (by rw [List.getElem?_cons_succ]; exact hx)
theorem firG_nu {most : Int} {l : List Int} : firG (nuE most) l = if l.all (inM most) then 0 else 1 := by
  induction l with
  | nil => rfl
  | cons z l ih =>
    rw [firG, List.all_cons, ih]
    cases hz : inM most z with
    | true => rw [nuE_ok hz, if_pos rfl, Bool.true_and]
    | false => rw [nuE_bad hz, Bool.false_and]; rfl

/-- A function that answers of an integer as long as I holds of the memory. -/
structure Ans (fn : Nat) (ba ca : Array Value) (g : Int → Int) (I : World → Prop) : Prop where
  eg : ∀ args w, (callFunc fn args).run Try.prog w = .ok (.enter fn args) w
  run : ∀ z W, I W → Calls Try.prog fn (ba ++ #[.int .i64 z] ++ ca) W fun e W' => e = .returned (.int .i64 (g z)) ∧ W = W'
set_option maxHeartbeats 800000 in
theorem visit_int {fn : Nat} {ba ca : Array Value} {g : Int → Int} {I : World → Prop} (hv : Ans fn ba ca g I) (l : List Int) (A : Option Addr) (n c : Nat) (hn : n = l.length) (w : World) (ha : Cl eI w A l) (hI : I w) (hm : n ≤ 9223372036854775807) :
    Calls Try.prog 48 #[.slice A n c, .func (.func fn) ba ca] w fun e w' => e = .returned (.int .i64 (firG g l)) ∧ w = w' := by
  have HA := Lib.hid ha
  have HN := Lib.hid hn
  have HV := Lib.hid fun z => hv.run z w hI
  have eg := hv.eg
  obtain ⟨E, hE⟩ : ∃ E, firG g l = E := ⟨_, rfl⟩
  rw [hE]
  have HE := Lib.hid hE
  clear ha hn hv hI hE
  go_enter Try.func48, Try.ntmps48
  go_wp2_with fail
  go_loopw [10, 6, 7] (fun i _ _ wr => ∃ k : Nat, k ≤ n ∧ i = .int .i64 k ∧ (∀ (j : Nat) (y : Int), j < k → l[j]? = some y → g y = 0) ∧ wr = w) (fun i _ _ _ => n - (RowKit.intOf i).toNat)
  case atStart => exact ⟨0, Nat.zero_le _, rfl, fun j z h => absurd h (by omega), rfl⟩
  case round =>
    obtain ⟨k, hk, rfl, hg, rfl⟩ := hrel
    have HG := Lib.hid hg
    clear hg
    rcases Nat.lt_or_ge k n with hlt | hge
    · obtain ⟨z, hz⟩ := get_lt (L := l) (k := k) (by have := HN.out; omega)
      obtain ⟨b, off, rfl, hb, e0⟩ := cl_at HA.out hz
      have HZ := Lib.hid hz
      have i1 : (k : Int) < (n : Int) := by omega
      have i2 : (0 : Int) ≤ (k : Int) := by omega
      have HR := Lib.hid (HV.out z)
      obtain ⟨F, hF⟩ : ∃ F, g z = F := ⟨_, rfl⟩
      rw [hF] at HR
      have HF := Lib.hid hF
      clear hz hF
      by_cases hz : F = 0
      · subst hz
        go_wp2_with (go_at_fn fn; refine HR.out.mono ?_; rintro e w5 ⟨rfl, rfl⟩)
        go_roundw
        case rel =>
          refine ⟨k + 1, by omega, by go_num, ?_, trivial⟩
          intro j y hj hy
          rcases Nat.lt_or_eq_of_le (Nat.le_of_lt_succ hj) with h | h
          · exact HG.out j y h hy
          · subst h
            have e := HZ.out
            rw [hy] at e; cases e; exact HF.out
        case measure => simp [RowKit.intOf]; omega
      · obtain ⟨z1, z2⟩ := ne_zero hz
        obtain rfl : E = F := by rw [← HE.out, ← HF.out]; exact firG_bad HZ.out (by rw [HF.out]; exact hz) HG.out
        clear hz
        go_wp2_with (go_at_fn fn; refine HR.out.mono ?_; rintro e w5 ⟨rfl, rfl⟩)
        go_ret
        exact ⟨rfl, rfl⟩
    · obtain rfl : k = n := by omega
      obtain rfl : E = 0 := by rw [← HE.out]; exact firG_ok fun j y hy => HG.out j y (by rw [HN.out]; exact glt hy) hy
      go_wp2_with fail
      go_ret
      exact ⟨rfl, rfl⟩

set_option maxHeartbeats 800000 in
theorem p_checkList (l : List Int) (A : Option Addr) (n c : Nat) (hn : n = l.length) (kinds most : Int) (w : World) (ha : Cl eI w A l) (hm : n ≤ 9223372036854775807) :
    Calls Try.prog 37 #[.slice A n c, .int .i64 kinds, .int .i64 most] w fun e w' => e = .returned (.int .i64 (lisE l kinds most)) ∧ Below w.heap.size w w' := by
  have HA := Lib.hid ha
  have HN := Lib.hid hn
  obtain ⟨E, hE⟩ : ∃ E, lisE l kinds most = E := ⟨_, rfl⟩
  rw [hE]
  have HE := Lib.hid hE
  clear ha
  rcases Int.lt_or_le kinds 1 with h0 | h0
  · have d0 : decide (kinds < 1) = true := decide_eq_true h0
    obtain rfl : E = 17 := by rw [← hE]; exact lisE_no (Bool.eq_false_iff.mpr fun h => by have := kiB_iff.mp h; omega)
    clear h0 hE hn
    go_enter Try.func37, Try.ntmps37
    go_wp2_with fail
    go_ret
    exact ⟨rfl, below_alloc _ _⟩
  have d0 : decide (kinds < 1) = false := decide_eq_false (by omega)
  rcases Int.lt_or_le 8 kinds with h1 | h1
  · have d1 : decide (8 < kinds) = true := decide_eq_true h1
    obtain rfl : E = 17 := by rw [← hE]; exact lisE_no (Bool.eq_false_iff.mpr fun h => by have := kiB_iff.mp h; omega)
    clear h0 h1 hE hn
    go_enter Try.func37, Try.ntmps37
    go_wp2_with fail
    go_ret
    exact ⟨rfl, below_alloc _ _⟩
  have d1 : decide (8 < kinds) = false := decide_eq_false (by omega)
  by_cases h2 : (n : Int) = kinds
  rotate_left
  · have d2 : ((n : Int) != kinds) = true := by simpa using h2
    have d3 : ((n : Int) == kinds) = false := by simpa using h2
    obtain rfl : E = 17 := by rw [← hE]; exact lisE_no (Bool.eq_false_iff.mpr fun h => by have := kiB_iff.mp h; omega)
    clear h0 h1 h2 hE hn
    go_enter Try.func37, Try.ntmps37
    go_wp2_with fail
    go_ret
    exact ⟨rfl, below_alloc _ _⟩
  have hK : kiB l kinds = true := kiB_iff.mpr ⟨h0, h1, by omega⟩
  have HF : Hid (E = firG (nuE most) l) := Lib.hid (by rw [← hE, firG_nu]; unfold lisE; rw [if_pos hK])
  have HV : Hid (Ans 49 #[] #[.pointer (some ⟨w.heap.size, 0, none⟩)] (nuE most) (fun W => W.cell? ⟨w.heap.size, 0, none⟩ = some (.int .i64 most))) := Lib.hid ⟨enters_of Try.func49 (by kernel_rfl) rfl, fun z W h => p_clo _ _ _ _ h⟩
  subst h2
  have d2 : ((n : Int) != (n : Int)) = false := by simp
  have d3 : ((n : Int) == (n : Int)) = true := by simp
  clear h0 h1 hE hn hK
  go_enter Try.func37, Try.ntmps37
  go_upto_region 1 with fail
  generalize hw1 : w.alloc (.cells #[.int .i64 most] 3) = w1
  have HB1 : Hid (Below w.heap.size w w1) := hw1 ▸ below_alloc _ _
  have HC1 : Hid (Cel w1 w.heap.size [.int .i64 most]) := hw1 ▸ Cel.new _ _ _
  have HVi := Lib.hid (visit_int HV.out l A n c HN.out w1 (HA.out.on HB1.out) (HC1.out.at_ 0 _ rfl) hm)
  clear hw1
  go_wp2_with fail
  refine HVi.out.mono ?_
  rintro e w2 ⟨rfl, rfl⟩
  go_wp2_with fail
  go_ret
  exact ⟨ret_int HF.out.symm, HB1.out⟩
end Go.Proofs.Ytgomokdklajlcaa.Fibre
/- Slices of strings and tables in memory; what a step leaves as it was. -/
namespace Go.Proofs.Ytgomokdklajlcaa.Ident
open Go.ChangeShapes Go.WideShapes Go.RowKit
set_option linter.unusedVariables false
set_option maxRecDepth 100000

/-- Of what was there all but the blocks in S is as it was. -/
structure Off (S : Nat → Prop) (w w' : World) : Prop where
  os : w'.os = w.os
  tape : w'.tape = w.tape
  output : w'.output = w.output
  size : w.heap.size ≤ w'.heap.size
  block : ∀ k, k < w.heap.size → ¬ S k → w'.heap[k]? = w.heap[k]?
theorem Off.refl (S : Nat → Prop) (w : World) : Off S w w := ⟨rfl, rfl, rfl, Nat.le_refl _, fun _ _ _ => rfl⟩
theorem Off.trans {S S' : Nat → Prop} {a b c : World} (h : Off S a b) (k : Off S' b c) (hs : ∀ x, S' x → S x ∨ a.heap.size ≤ x) : Off S a c :=
  ⟨k.os.trans h.os, k.tape.trans h.tape, k.output.trans h.output, Nat.le_trans h.size k.size, fun i hi hn =>
    (k.block i (Nat.lt_of_lt_of_le hi h.size) fun e => by rcases hs i e with h1 | h1; exact hn h1; omega).trans (h.block i hi hn)⟩
theorem Off.mono {S S' : Nat → Prop} {a b : World} (h : Off S a b) (hs : ∀ x, x < a.heap.size → S x → S' x) : Off S' a b :=
  ⟨h.os, h.tape, h.output, h.size, fun i hi hn => h.block i hi fun e => hn (hs i hi e)⟩
theorem Off.below {S : Nat → Prop} {a b : World} {B : Nat} (h : Off S a b) (hB : B ≤ a.heap.size) (hs : ∀ x, S x → B ≤ x) : Below B a b :=
  ⟨h.os, h.tape, h.output, h.size, fun i hi => h.block i (by omega) fun e => by have := hs i e; omega⟩
theorem Off.of_below {S : Nat → Prop} {a b : World} (h : Below a.heap.size a b) : Off S a b := ⟨h.os, h.tape, h.output, h.size, fun i hi _ => h.block i hi⟩
theorem Off.alloc {S : Nat → Prop} {a b : World} (h : Off S a b) (o : Obj) : Off S a (b.alloc o) :=
  h.trans (Off.of_below (S := fun _ => False) ((Below.refl _ _).alloc (Nat.le_refl _) _)) fun x e => e.elim
theorem Off.drew {S : Nat → Prop} {a b : World} (h : Off S a b) : Off S a b.drew := ⟨h.os, h.tape, h.output, h.size, h.block⟩
theorem Off.set {S : Nat → Prop} {a b : World} (h : Off S a b) {p : Addr} (hp : S p.block ∨ a.heap.size ≤ p.block) (u : Value) : Off S a (b.setCell p u) :=
  h.trans (S' := fun k => k = p.block) ⟨rfl, rfl, rfl, by simp [World.setCell], fun i hi hn => Below.heap_setCell _ _ _ _ hn⟩ fun x e => e ▸ hp
theorem Off.grown {S : Nat → Prop} {a b c : World} {row : Option Nat} (h : Off S a b) (hg : b.grownBy c row) (hr : ∀ k, row = some k → S k ∨ a.heap.size ≤ k) : Off S a c :=
  h.trans (S' := fun k => row = some k) ⟨hg.os, hg.tape, hg.output, hg.size, fun i hi hn => hg.block i hi fun e => hn e.symm⟩ fun x e => hr x e
theorem below_alloc (w : World) (o : Obj) : Below w.heap.size w (w.alloc o) := (Below.refl _ _).alloc (Nat.le_refl _) _
theorem bstep {a b c : World} (h : Below a.heap.size a b) (k : Below b.heap.size b c) : Below a.heap.size a c := h.trans (k.mono h.size)
theorem below_drewN {B : Nat} {a w : World} (h : Below B a w) (n : Nat) : Below B a (w.drewN n) := ⟨h.os, h.tape, h.output, h.size, h.block⟩
theorem get_lt {α : Type} {L : List α} {k : Nat} (h : k < L.length) : ∃ s, L[k]? = some s := ⟨_, List.getElem?_eq_getElem h⟩
theorem lt_get {α : Type} {L : List α} {k : Nat} {s : α} (h : L[k]? = some s) : k < L.length := by
  rcases Nat.lt_or_ge k L.length with h1 | h1
  · exact h1
  · rw [List.getElem?_eq_none h1] at h; cases h
theorem take_snoc_of {α : Type} {l : List α} {k : Nat} {z : α} (h : l[k]? = some z) : l.take (k + 1) = l.take k ++ [z] := by
  rw [List.take_add_one, h]; rfl

/-! ### Slices of strings -/
/-- At the address lie the strings L. -/
def Strs (w : World) (A : Option Addr) (L : List ByteArray) : Prop :=
  ∀ (k : Nat) (s : ByteArray), L[k]? = some s → ∃ b off, A = some ⟨b, off, none⟩ ∧ b < w.heap.size ∧ w.cell? ⟨b, off + k, none⟩ = some (.string s)
def Siz (L : List ByteArray) : Prop := ∀ s ∈ L, s.size ≤ maxLen
theorem Siz.at_ {L : List ByteArray} (h : Siz L) {k : Nat} {s : ByteArray} (hk : L[k]? = some s) : s.size ≤ 9223372036854775807 ∧ s.size ≤ maxLen := by
  have := h s (List.mem_of_getElem? hk)
  exact ⟨by unfold maxLen at this; omega, this⟩
theorem Strs.nil (w : World) (A : Option Addr) : Strs w A [] := fun k s h => by simp at h
theorem Strs.keep {w w' : World} {A : Option Addr} {L : List ByteArray} (h : Strs w A L) (hs : w.heap.size ≤ w'.heap.size) (hk : ∀ b off, A = some ⟨b, off, none⟩ → b < w.heap.size → w'.heap[b]? = w.heap[b]?) : Strs w' A L := by
  intro k s hl
  obtain ⟨b, off, e, hlt, hc⟩ := h k s hl
  exact ⟨b, off, e, by omega, (World.cell?_of_block (a := ⟨b, off + k, none⟩) (hk b off e hlt)).trans hc⟩
theorem Strs.on {w w' : World} {A : Option Addr} {L : List ByteArray} (h : Strs w A L) (hb : Below w.heap.size w w') : Strs w' A L := h.keep hb.size fun b _ _ hlt => hb.block b hlt
theorem Strs.take {w : World} {A : Option Addr} {L : List ByteArray} (h : Strs w A L) (n : Nat) : Strs w A (L.take n) := by
  intro k s hk
  rw [List.getElem?_take] at hk
  split at hk
  · exact h k s hk
  · cases hk
/-- A slice of the call's own that holds the strings L. -/
def OwnS (w : World) (v : Value) (L : List ByteArray) : Prop := w.ownsRow 0 9 1 v L.length (L.map Value.string)
theorem OwnS.nil (w : World) : OwnS w (.slice none 0 0) [] := World.ownsRow_nil _ _ _ _
theorem OwnS.open_ {w : World} {v : Value} {L : List ByteArray} (h : OwnS w v L) :
    (v = .slice none 0 0 ∧ L = []) ∨ (∃ g c, v = .slice (some ⟨g, 0, none⟩) L.length c ∧ L.length ≤ c ∧ c ≤ maxLen ∧ Strs w (some ⟨g, 0, none⟩) L ∧ g < w.heap.size) := by
  obtain ⟨h1, ⟨rfl, h2⟩ | ⟨g, cap, cur, rfl, h2, h3, h4, h5, h6, h7⟩⟩ := h
  · exact Or.inl ⟨rfl, List.eq_nil_of_length_eq_zero h2⟩
  · refine Or.inr ⟨g, cap, rfl, h4, h5, fun k z hz => ⟨g, 0, rfl, (Array.getElem?_eq_some_iff.mp h3).1, ?_⟩, (Array.getElem?_eq_some_iff.mp h3).1⟩
    rw [cell_of_row w g _ cur _ (0, 0) h3, Nat.zero_add]
    have hu : (cur.toList.take (L.length * 1))[k]? = some (.string z) := by rw [h7, List.getElem?_map, hz]; rfl
    rw [List.getElem?_take] at hu
    split at hu
    · simpa using hu
    · cases hu
/-- Its value, in one form. -/
theorem OwnS.one {w : World} {v : Value} {L : List ByteArray} (h : OwnS w v L) : ∃ A c, v = .slice A L.length c ∧ L.length ≤ c ∧ c ≤ maxLen ∧ Strs w A L ∧ (∀ a, A = some a → a.spot = none ∧ a.off = 0 ∧ a.block < w.heap.size) ∧ v.ownBlock = A.map (·.block) := by
  rcases h.open_ with ⟨rfl, rfl⟩ | ⟨g, c, rfl, h1, h2, h3, h4⟩
  · exact ⟨none, 0, rfl, Nat.le_refl _, by unfold maxLen; omega, Strs.nil _ _, by simp, rfl⟩
  · exact ⟨_, c, rfl, h1, h2, h3, fun a e => by cases e; exact ⟨rfl, rfl, h4⟩, rfl⟩
theorem OwnS.keep {w w' : World} {v : Value} {L : List ByteArray} (h : OwnS w v L) (hk : ∀ k, v.ownBlock = some k → w'.heap[k]? = w.heap[k]?) : OwnS w' v L := by
  obtain ⟨h1, h0 | ⟨g, cap, cur, rfl, h2, h3, h4⟩⟩ := h
  · exact ⟨h1, Or.inl h0⟩
  · exact ⟨h1, Or.inr ⟨g, cap, cur, rfl, h2, (hk g rfl).trans h3, h4⟩⟩
theorem OwnS.lt {w : World} {v : Value} {L : List ByteArray} (h : OwnS w v L) : ∀ k, v.ownBlock = some k → k < w.heap.size := fun k hk => (World.ownsRow.lt h k hk).2
theorem OwnS.alloc {w : World} {v : Value} {L : List ByteArray} (h : OwnS w v L) (o : Obj) : OwnS (w.alloc o) v L := World.ownsRow.alloc h o
theorem own_empty (w : World) : OwnS (w.alloc (.cells #[] 9)) (.slice (some ⟨w.heap.size, 0, none⟩) 0 0) [] :=
  World.ownsRow_lit (base := 0) (e := 9) (size := 1) w #[] 0 (Nat.zero_le _) (by unfold maxLen; omega) rfl
theorem info_string : (Try.prog.info? 9).map (fun i => (i.zero, i.size, i.bytes)) = some (some (.string ByteArray.empty), 1, 16) := by kernel_rfl
theorem run_append_empty {P : Program} {w : World} (base : Nat) (t ty e : TypeId) (i : TypeInfo) (size c : Nat) (ht : P.underlying t = some (.slice e)) (hi : P.info? e = some i)
    (v : Value) (n : Nat) (xs : List Value) (hown : w.ownsRow base e size v n xs) :
    (Builtin.append_ #[t, t] ty #[v, .slice none 0 c]).run P w = .ok v w := by
  rcases hown.2 with ⟨rfl, rfl⟩ | ⟨g, cap, cur, rfl, _, _, hnc, _⟩
  · simp [Builtin.append_, run_underlying ht, sizeOf, typeInfo, hi, Builtin.lenOf, Builtin.firstCells]
  · simp [Builtin.append_, run_underlying ht, sizeOf, typeInfo, hi, Builtin.lenOf, Builtin.firstCells, hnc, storeCells]
theorem wpList_append_empty {P : Program} {w : World} {ops : Array Oper} {rest : List Oper} {o : Oper} {a : Act} {Q : Exit → Act → World → Prop} (hgd : o.guard = none) (s x : Operand) (t : TypeId)
    (ho : o.op = .call { callee := .builtin .append, args := #[s, x], argTypes := #[t, t] })
    (base : Nat) (e : TypeId) (i : TypeInfo) (size c : Nat) (ht : P.underlying t = some (.slice e)) (hi : P.info? e = some i)
    (v : Value) (n : Nat) (xs : List Value) (hs : a.eval s = v) (hown : w.ownsRow base e size v n xs) (hx : a.eval x = .slice none 0 c)
    (h : wpList P ops Q rest (a.put o.dst v) w) : wpList P ops Q (o :: rest) a w := by
  refine wpList_plain hgd fun K hK => ?_
  have hrun := run_append_empty (P := P) (w := w) base t o.type e i size c ht hi v n xs hown
  unfold Oper.wp
  simp [execOp, ho, resolve, invoke, builtin, hs, hx, hrun, Result.andThen]
  exact hK _ _ h
theorem cells_strs {L : List ByteArray} : ∀ u ∈ L.map Value.string, u.oneCell' = true := by
  intro u hu
  obtain ⟨z, _, rfl⟩ := List.mem_map.mp hu
  rfl
/-- 'append(s, x...)', s the call's own, x a slice of strings that is there. -/
theorem append_strs {w : World} {ops : Array Oper} {rest : List Oper} {o : Oper} {a : Act} {Q : Exit → Act → World → Prop} (hgd : o.guard = none) (s x : Operand)
    (ho : o.op = .call { callee := .builtin .append, args := #[s, x], argTypes := #[57, 57] })
    (v : Value) (ds : List ByteArray) (hs : a.eval s = v) (hown : OwnS w v ds)
    (A : Option Addr) (c : Nat) (L : List ByteArray) (m : Nat) (hm : m = L.length) (hx : a.eval x = .slice A m c) (hz : Strs w A L)
    (hlen : ds.length + L.length ≤ 1000000)
    (h : ∀ v' w', OwnS w' v' (ds ++ L) → w.grownBy w' v.ownBlock → (v'.ownBlock = v.ownBlock ∨ v'.ownBlock = some w.heap.size) → wpList Try.prog ops Q rest (a.put o.dst v') w') : wpList Try.prog ops Q (o :: rest) a w := by
  subst hm
  obtain ⟨i0, hi0, hz0, hz1, hz2⟩ := info_parts info_string
  cases A with
  | none =>
    have hnil : L = [] := by
      cases L with
      | nil => rfl
      | cons z zs => obtain ⟨b, off, hA, _⟩ := hz 0 z rfl; cases hA
    subst hnil
    refine wpList_append_empty hgd s x _ ho 0 9 i0 1 c Try.underlying57 hi0 v ds.length _ hs hown hx (h v w (by rw [List.append_nil]; exact hown) ⟨rfl, rfl, rfl, Nat.le_refl _, fun _ _ _ => rfl⟩ (Or.inl rfl))
  | some ad =>
    refine wpList_append_own_at w hgd s x _ ho 0 9 i0 (.string ByteArray.empty) 1 16 Try.underlying57 hi0 hz0 hz1 hz2 rfl (by decide) v ds.length _ hs hown ad L.length c (L.map Value.string) hx (by simp) ?_ cells_strs (by unfold maxLen; omega) (by omega) (Nat.zero_le _) ?_
    · intro j u hj
      rw [List.getElem?_map] at hj
      cases hzj : L[j]? with
      | none => rw [hzj] at hj; cases hj
      | some z =>
        rw [hzj] at hj
        obtain ⟨b, off, e, _, hc⟩ := hz j z hzj
        cases e
        rw [Addr.add_lit, hc]; exact hj
    · intro v' w' hown' hg _ hat
      exact h v' w' (by unfold OwnS; rw [List.length_append, List.map_append]; exact hown') hg hat
/-- A block of one string, as the source of an append. -/
theorem strs_one (w : World) (s : ByteArray) (t : TypeId) : Strs (w.alloc (.cells #[.string s] t)) (some ⟨w.heap.size, 0, none⟩) [s] := by
  intro k z hz
  match k, hz with
  | 0, hz => simp at hz; subst hz; exact ⟨_, 0, rfl, by simp, by simp⟩

/-! ### Tables -/
theorem law_string : Maps.Keyed Try.prog 9 := Maps.string_keyed Try.underlying9
theorem zero_int (w : World) : (zeroValue 3).run Try.prog w = .ok (.int .i64 0) w := by kernel_rfl
theorem frozen_of {W : World} {g : Nat} {cs : Array Value} {t : TypeId} (h : W.heap[g]? = some (.cells cs t (0, 0))) (i : Nat) : W.frozen? ⟨g, i, none⟩ = false := by simp [World.frozen?, h]
/-- A map's block, kept. -/
theorem map_keep {w w' : World} {bm n : Nat} {D : DataW Unit} (h : w.ownsMap Try.prog 9 (plainElem Try.prog 3) bm n D) (hk : w'.heap[bm]? = w.heap[bm]?) : w'.ownsMap Try.prog 9 (plainElem Try.prog 3) bm n D := by
  obtain ⟨es, clock, hb, r⟩ := h
  exact ⟨es, clock, hk.trans hb, r⟩
/-- The table at block b has the names L; its blocks are in S. -/
structure Tb (w : World) (b : Nat) (S : Nat → Prop) (L : List ByteArray) : Prop where
  good : Good L
  sb : S b
  lt : ∀ k, S k → k < w.heap.size
  ex : ∃ bm v D, w.heap[b]? = some (.cells #[v, .map (some bm)] 60 (0, 0)) ∧ OwnS w v L ∧ w.ownsMap Try.prog 9 (plainElem Try.prog 3) bm L.length D ∧ Dct D L ∧
    S bm ∧ b ≠ bm ∧ (∀ g, v.ownBlock = some g → S g ∧ g ≠ b ∧ g ≠ bm)
theorem Tb.keep {w w' : World} {b : Nat} {S : Nat → Prop} {L : List ByteArray} (h : Tb w b S L) (hs : w.heap.size ≤ w'.heap.size) (hk : ∀ k, S k → w'.heap[k]? = w.heap[k]?) : Tb w' b S L := by
  obtain ⟨bm, v, D, h1, h2, h3, h4, h5, h6, h7⟩ := h.ex
  exact ⟨h.good, h.sb, fun k hk => Nat.lt_of_lt_of_le (h.lt k hk) hs, bm, v, D, (hk b h.sb).trans h1, h2.keep fun k e => hk k (h7 k e).1, map_keep h3 (hk bm h5), h4, h5, h6, h7⟩
theorem Tb.off {w w' : World} {b : Nat} {S S' : Nat → Prop} {L : List ByteArray} (h : Tb w b S L) (ho : Off S' w w') (hd : ∀ k, S k → ¬ S' k) : Tb w' b S L :=
  h.keep ho.size fun k hk => ho.block k (h.lt k hk) (hd k hk)
theorem Tb.on {w w' : World} {b : Nat} {S : Nat → Prop} {L : List ByteArray} (h : Tb w b S L) (hb : Below w.heap.size w w') : Tb w' b S L :=
  h.keep hb.size fun k hk => hb.block k (h.lt k hk)
/-- What the walks read of a table. -/
theorem Tb.reads {w : World} {b : Nat} {S : Nat → Prop} {L : List ByteArray} (h : Tb w b S L) :
    ∃ A c bm D, w.cell? ⟨b, 0, none⟩ = some (.slice A L.length c) ∧ w.cell? ⟨b, 1, none⟩ = some (.map (some bm)) ∧ w.frozen? ⟨b, 0, none⟩ = false ∧ OwnS w (.slice A L.length c) L ∧ Strs w A L ∧
      w.ownsMap Try.prog 9 (plainElem Try.prog 3) bm L.length D ∧ Dct D L ∧ w.heap[b]? = some (.cells #[.slice A L.length c, .map (some bm)] 60 (0, 0)) ∧
      S bm ∧ b ≠ bm ∧ (∀ g, (Value.slice A L.length c).ownBlock = some g → S g ∧ g ≠ b ∧ g ≠ bm) := by
  obtain ⟨bm, v, D, h1, h2, h3, h4, h5, h6, h7⟩ := h.ex
  obtain ⟨A, c, rfl, -, -, hs, -, -⟩ := h2.one
  exact ⟨A, c, bm, D, by rw [cell_of_row _ _ _ _ _ _ h1]; rfl, by rw [cell_of_row _ _ _ _ _ _ h1]; rfl, frozen_of h1 _, h2, hs, h3, h4, h1, h5, h6, h7⟩
/-- What Add leaves: the table of other names, its old blocks and new ones; all else as it was. -/
def Adds (w : World) (b : Nat) (S : Nat → Prop) (L : List ByteArray) (w' : World) : Prop := ∃ S', Tb w' b S' L ∧ (∀ k, S' k → S k ∨ w.heap.size ≤ k) ∧ Off S w w'
theorem Tb.stay {w : World} {b : Nat} {S : Nat → Prop} {L : List ByteArray} (h : Tb w b S L) : Adds w b S L w := ⟨S, h, fun _ hk => Or.inl hk, Off.refl _ _⟩
end Go.Proofs.Ytgomokdklajlcaa.Ident
/- Contracts of the methods Add, Find, Name, Len of ident. -/
namespace Go.Proofs.Ytgomokdklajlcaa.Ident
open Go.ChangeShapes Go.WideShapes Go.RowKit Go.Lib
set_option linter.unusedVariables false
set_option maxRecDepth 100000

theorem key_of {s : ByteArray} (hs : s.size ≤ maxLen) : keyOf Try.prog 9 (.string s) = some (key s) := WideMaps.keyOf_string_mk Try.underlying9 hs
theorem wf_nat {n : Nat} (h : n ≤ 512) : (Lit.int .i64 (n : Int)).wf = true := WalkArith.wf_i64 (by omega)
theorem max_small {n : Nat} (h : n ≤ maxLen) : n ≤ 9223372036854775807 := by unfold maxLen at h; omega
theorem ret_two {k : IntKind} {a b c d : Int} (h : a = c) (h' : b = d) : Ending.returned (.tuple #[.int .i64 a, .int k b]) = .returned (.tuple #[.int .i64 c, .int k d]) := by rw [h, h']
theorem ret_fnd {a c : Int} {b d : Bool} (h : a = c) (h' : b = d) : Ending.returned (.tuple #[.int .i64 a, .bool b]) = .returned (.tuple #[.int .i64 c, .bool d]) := by rw [h, h']

/-- The table of one name more. -/
theorem Tb.more {w w1 w2 : World} {b bm c : Nat} {S : Nat → Prop} {L : List ByteArray} {A : Option Addr} {D : DataW Unit} {v' : Value} {s : ByteArray}
    (h : Tb w b S L) (hb : w.heap[b]? = some (.cells #[.slice A L.length c, .map (some bm)] 60 (0, 0))) (hD : Dct D L) (hbm : S bm) (hne : b ≠ bm)
    (hrow : ∀ g, (Value.slice A L.length c).ownBlock = some g → S g ∧ g ≠ b ∧ g ≠ bm) (hz : addE L s = 0)
    (hown1 : w1.ownsMap Try.prog 9 (plainElem Try.prog 3) bm (L.length + 1) (D.put (key s) (.lit (.int .i64 (L.length : Int))))) (hg1 : w.grownBy w1 (some bm))
    (T : TypeId) (hown2 : OwnS w2 v' (L ++ [s])) (hg2 : (w1.alloc (.cells #[.string s] T)).grownBy w2 (Value.slice A L.length c).ownBlock)
    (hat : v'.ownBlock = (Value.slice A L.length c).ownBlock ∨ v'.ownBlock = some (w1.alloc (.cells #[.string s] T)).heap.size) :
    Adds w b S (L ++ [s]) (w2.setCell ⟨b, 0, none⟩ v') := by
  obtain ⟨e1, e2, e3⟩ := addE_zero hz
  have hlt : b < w.heap.size := h.lt b h.sb
  have hs1 := hg1.size
  have hs2 : w1.heap.size + 1 ≤ w2.heap.size := by have := hg2.size; simpa using this
  have hblt : ∀ g, (Value.slice A L.length c).ownBlock = some g → g < w.heap.size := fun g hg => h.lt g (hrow g hg).1
  have kb : w2.heap[b]? = w.heap[b]? := by
    rw [hg2.block b (by simp; omega) fun e => (hrow b e.symm).2.1 rfl, Below.heap_alloc _ _ _ (by omega), hg1.block b hlt fun e => hne (by cases e; rfl)]
  have kbm : w2.heap[bm]? = w1.heap[bm]? := by
    have := h.lt bm hbm
    rw [hg2.block bm (by simp; omega) fun e => (hrow bm e.symm).2.2 rfl, Below.heap_alloc _ _ _ (by omega)]
  have hv' : ∀ g, v'.ownBlock = some g → (S g ∧ g < w.heap.size ∨ w.heap.size ≤ g) ∧ g ≠ b ∧ g ≠ bm := fun g hg => by
    rcases hat with e | e
    · rw [e] at hg; exact ⟨Or.inl ⟨(hrow g hg).1, hblt g hg⟩, (hrow g hg).2⟩
    · rw [e] at hg; cases hg
      have := h.lt bm hbm
      simp
      omega
  refine ⟨fun k => S k ∨ v'.ownBlock = some k, ⟨?_, Or.inl h.sb, ?_, bm, v', _, ?_, ?_, by rw [List.length_append, List.length_singleton]; exact map_keep hown1 ((Below.heap_setCell _ _ _ _ hne.symm).trans kbm), ?_, Or.inl hbm, hne, ?_⟩, ?_, ?_⟩
  · exact h.good.snoc e1 (fndB_no e2) e3
  · intro k hk
    have hsz : (w2.setCell ⟨b, 0, none⟩ v').heap.size = w2.heap.size := by simp [World.setCell]
    rw [hsz]
    rcases hk with hk | hk
    · have := h.lt k hk; omega
    · exact hown2.lt k hk
  · rw [heap_setCell_same w2 b 0 _ _ _ (kb.trans hb)]; rfl
  · exact hown2.keep fun k hk => Below.heap_setCell _ _ _ _ (hv' k hk).2.1
  · exact hD.snoc (fndB_no e2)
  · intro g hg
    exact ⟨Or.inr hg, (hv' g hg).2⟩
  · intro k hk
    rcases hk with hk | hk
    · exact Or.inl hk
    · rcases (hv' k hk).1 with h1 | h1
      · exact Or.inl h1.1
      · exact Or.inr h1
  · refine ((((Off.refl S w).grown hg1 fun k e => ?_).alloc _).grown hg2 fun k e => ?_).set (Or.inl h.sb) _
    · cases e; exact Or.inl hbm
    · exact Or.inl (hrow k e).1

set_option maxHeartbeats 1600000 in
theorem ident_Add {b : Nat} {S : Nat → Prop} {L : List ByteArray} {s : ByteArray} {w : World} (ht : Tb w b S L) (hs : s.size ≤ maxLen) :
    Calls Try.prog 35 #[.pointer (some ⟨b, 0, none⟩), .string s] w fun e w' => e = .returned (.tuple #[.int .i64 (addI L s), .int .i64 (addE L s)]) ∧ Adds w b S (addL L s) w' := by
  obtain ⟨A, c, bm, D, c0, c1, f0, hown, hstr, hmap, hD, hb, hbm, hne, hrow⟩ := ht.reads
  have hm := max_small hs
  have hlen := ht.good.len
  have HT := Lib.hid ht
  have HO := Lib.hid hown
  have HM := Lib.hid hmap
  have HD := Lib.hid hD
  have HB := Lib.hid hb
  have HR := Lib.hid hrow
  have HBM := Lib.hid hbm
  have HNE := Lib.hid hne
  have HK := Lib.hid (key_of hs)
  clear ht hstr hown hmap hD hb hrow hs
  cases hv : validB s with
  | false =>
    have HC := valid_is hv hm w
    have HE := Lib.hid (addE_bad (L := L) hv)
    clear hv
    go_enter Try.func35, Try.ntmps35
    go_wp2_with fail
    refine HC.mono ?_
    rintro e w' ⟨rfl, rfl⟩
    go_wp2_with fail
    go_ret2
    obtain ⟨n1, n2⟩ := add_no (L := L) (s := s) (by rw [HE.out]; decide)
    exact ⟨ret_two n1.symm HE.out.symm, by rw [n2]; exact HT.out.stay⟩
  | true =>
    have HC := valid_is hv hm w
    cases hf : fndB s L with
    | true =>
      have HE := Lib.hid (addE_twice hv hf)
      have hh : Maps.has D (key s) = true := (HD.out.has s).trans hf
      clear hv hf
      go_enter Try.func35, Try.ntmps35
      go_wp2_with fail
      refine HC.mono ?_
      rintro e w' ⟨rfl, rfl⟩
      go_wp2_with (first
        | (at_lookup; refine wpList_lookup_own_ok_int _ rfl _ _ 58 rfl 9 3 .i64 law_string Try.underlying58 Try.underlying3 (zero_int _) bm L.length D rfl HM.out _ _ rfl HK.out ?_; intro cc hat hwc)
        | fail)
      go_ret2
      obtain ⟨n1, n2⟩ := add_no (L := L) (s := s) (by rw [HE.out]; decide)
      exact ⟨ret_two n1.symm HE.out.symm, by rw [n2]; exact HT.out.stay⟩
    | false =>
      have hh : Maps.has D (key s) = false := (HD.out.has s).trans hf
      by_cases h5 : L.length = 512
      · have HE := Lib.hid (addE_full hv hf h5)
        have h5' : ((L.length : Int) == 512) = true := by simp [h5]
        clear hv hf h5
        go_enter Try.func35, Try.ntmps35
        go_wp2_with fail
        refine HC.mono ?_
        rintro e w' ⟨rfl, rfl⟩
        go_wp2_with (first
          | (at_lookup; refine wpList_lookup_own_ok_int _ rfl _ _ 58 rfl 9 3 .i64 law_string Try.underlying58 Try.underlying3 (zero_int _) bm L.length D rfl HM.out _ _ rfl HK.out ?_; intro cc hat hwc)
          | fail)
        go_ret2
        obtain ⟨n1, n2⟩ := add_no (L := L) (s := s) (by rw [HE.out]; decide)
        exact ⟨ret_two n1.symm HE.out.symm, by rw [n2]; exact HT.out.stay⟩
      · have HE := Lib.hid (addE_ok hv hf h5)
        have h5' : ((L.length : Int) == 512) = false := by simp; omega
        clear hv hf h5
        go_enter Try.func35, Try.ntmps35
        go_wp2_with fail
        refine HC.mono ?_
        rintro e w' ⟨rfl, rfl⟩
        go_wp2_with (first
          | (at_lookup; refine wpList_lookup_own_ok_int _ rfl _ _ 58 rfl 9 3 .i64 law_string Try.underlying58 Try.underlying3 (zero_int _) bm L.length D rfl HM.out _ _ rfl HK.out ?_; intro cc hat hwc)
          | (at_mapUpdate; refine wpList_mapUpdate_own _ rfl _ _ _ 58 rfl 9 3 law_string Try.underlying58 _ bm L.length D rfl HM.out (by unfold maxLen; omega) _ _ _ rfl rfl HK.out _ [] (plainElem_int Try.underlying3 (wf_nat hlen)) ?_; intro w1 hown1 hgrow1; refine Hid.out ?_)
          | fail)
        have HW1 := Lib.hid hown1
        have HG1 := Lib.hid hgrow1
        have kb : w1.heap[b]? = w.heap[b]? := hgrow1.block b (HT.out.lt b HT.out.sb) fun e => HNE.out (by cases e; rfl)
        have d0 : w1.cell? ⟨b, 0, none⟩ = some (.slice A L.length c) := (World.cell?_of_block (a := ⟨b, 0, none⟩) kb).trans c0
        have HO1 := Lib.hid (HO.out.keep fun k hk => hgrow1.block k (HO.out.lt k hk) fun e => (HR.out k hk).2.2 (by cases e; rfl))
        have KB := Lib.hid kb
        clear hown1 hgrow1 kb hat hwc
        refine Lib.hid ?_
        go_wp2_with (at_builtin; refine append_strs rfl _ _ rfl (.slice A L.length c) L rfl (HO1.out.alloc _) (some ⟨w1.heap.size, 0, none⟩) 1 [s] 1 rfl rfl (strs_one _ _ _) (by simp; omega) ?_; intro v' w2 hown2 hgrow2 hat2; refine Hid.out ?_)
        obtain ⟨A2, cp2, rfl, -, -, -, -, -⟩ := hown2.one
        rw [show (L ++ [s]).length = L.length + 1 by simp] at hown2 hat2
        have HW2 := Lib.hid hown2
        have HG2 := Lib.hid hgrow2
        have HA2 := Lib.hid hat2
        have kb2 : w2.heap[b]? = some (.cells #[.slice A L.length c, .map (some bm)] 60 (0, 0)) := by
          have hlt := HT.out.lt b HT.out.sb
          have := HG1.out.size
          rw [hgrow2.block b (by simp; omega) fun e => (HR.out b e.symm).2.1 rfl, Below.heap_alloc _ _ _ (by omega), KB.out, HB.out]
        have d1 : w2.cell? ⟨b, 0, none⟩ = some (.slice A L.length c) := by rw [cell_of_row _ _ _ _ _ _ kb2]; rfl
        have f1 : w2.frozen? ⟨b, 0, none⟩ = false := frozen_of kb2 _
        clear hown2 hgrow2 hat2 kb2
        refine Lib.hid ?_
        go_wp2_with fail
        go_ret2
        obtain ⟨n1, n2⟩ := add_yes HE.out
        refine ⟨ret_two n1.symm HE.out.symm, ?_⟩
        rw [n2]
        exact HT.out.more HB.out HD.out HBM.out HNE.out HR.out HE.out HW1.out HG1.out _ HW2.out HG2.out HA2.out
theorem ident_Add_nil (s : ByteArray) (w : World) : Calls Try.prog 35 #[.pointer none, .string s] w fun e w' => e = .returned (.tuple #[.int .i64 0, .int .i64 14]) ∧ w = w' := by
  go_enter Try.func35, Try.ntmps35
  go_wp2_with fail
  go_ret2
  exact ⟨rfl, rfl⟩

/-- The name with an index. -/
def namS (i : Int) (L : List ByteArray) : ByteArray := if 0 ≤ i then (L[i.toNat]?).getD ByteArray.empty else ByteArray.empty
def namB (i : Int) (L : List ByteArray) : Bool := decide (0 ≤ i) && decide (i < (L.length : Int))
theorem nam_at {L : List ByteArray} {k : Nat} {s : ByteArray} (h : L[k]? = some s) : namS (k : Int) L = s ∧ namB (k : Int) L = true := by
  have := lt_get h
  refine ⟨?_, ?_⟩
  · unfold namS; rw [if_pos (by omega), Int.toNat_natCast, h]; rfl
  · unfold namB; rw [decide_eq_true (by omega), decide_eq_true (by omega)]; rfl
theorem nam_out {L : List ByteArray} {i : Int} (h : ¬ (0 ≤ i ∧ i < (L.length : Int))) : namS i L = ByteArray.empty ∧ namB i L = false := by
  refine ⟨?_, ?_⟩
  · unfold namS
    by_cases h0 : 0 ≤ i
    · rw [if_pos h0, List.getElem?_eq_none (by omega)]; rfl
    · rw [if_neg h0]
  · unfold namB
    by_cases h0 : 0 ≤ i
    · rw [decide_eq_false (p := i < (L.length : Int)) (by omega), Bool.and_false]
    · rw [decide_eq_false h0]; rfl
theorem ret_nam {a c : ByteArray} {b d : Bool} (h : a = c) (h' : b = d) : Ending.returned (.tuple #[.string a, .bool b]) = .returned (.tuple #[.string c, .bool d]) := by rw [h, h']
end Go.Proofs.Ytgomokdklajlcaa.Ident
/- Contract of ident.New. -/
namespace Go.Proofs.Ytgomokdklajlcaa.Ident
open Go.ChangeShapes Go.WideShapes Go.RowKit Go.Lib
set_option linter.unusedVariables false
set_option maxRecDepth 100000

/-- What New returns: a table of the names, in blocks of its own, or the error. -/
def NewRes (L : List ByteArray) (w : World) (e : Ending) (w' : World) : Prop :=
  Below w.heap.size w w' ∧
  ((newE L = 0 ∧ ∃ b S, e = .returned (.tuple #[.pointer (some ⟨b, 0, none⟩), .int .i64 0]) ∧ Tb w' b S L ∧ ∀ k, S k → w.heap.size ≤ k) ∨
   (newE L ≠ 0 ∧ e = .returned (.tuple #[.pointer none, .int .i64 (newE L)])))
theorem Tb.new (w : World) : Tb ((w.alloc (.map #[] 0)).alloc (.cells #[.slice none 0 0, .map (some w.heap.size)] 60)) (w.heap.size + 1) (fun k => k = w.heap.size ∨ k = w.heap.size + 1) [] := by
  have h1 : (w.alloc (.map #[] 0)).heap.size = w.heap.size + 1 := by simp
  refine ⟨Good.nil, Or.inr rfl, fun k hk => ?_, w.heap.size, .slice none 0 0, .map [], ?_, OwnS.nil _, ?_, Dct.nil, Or.inl rfl, by omega, fun g hg => by cases hg⟩
  · simp; omega
  · have := heap_alloc_new (w.alloc (.map #[] 0)) (.cells #[.slice none 0 0, .map (some w.heap.size)] 60)
    rwa [h1] at this
  · exact (World.ownsMap_made w _ _ _).alloc _
theorem ret_err {a b : Int} (h : a = b) : Ending.returned (.tuple #[.pointer none, .int .i64 b]) = .returned (.tuple #[.pointer none, .int .i64 a]) := by rw [h]
theorem dup_of {L : List ByteArray} {k : Nat} {s : ByteArray} (h : L[k]? = some s) (hf : fndB s (L.take k) = true) : ¬ L.Nodup := by
  intro hn
  have hm := fndB_iff.mp hf
  obtain ⟨j, hj⟩ := List.mem_iff_getElem?.mp hm
  have hlt := lt_get hj
  rw [List.length_take] at hlt
  rw [List.getElem?_take, if_pos (by omega)] at hj
  have h1 := pos_at hn hj
  rw [pos_at hn h] at h1
  simp at h1; omega

set_option maxHeartbeats 1600000 in
theorem ident_New (L : List ByteArray) (A : Option Addr) (c : Nat) (w : World) (ha : Strs w A L) (hz : Siz L) (hm : L.length ≤ 9223372036854775807) :
    Calls Try.prog 33 #[.slice A L.length c] w (NewRes L w) := by
  have HA := Lib.hid ha
  have HZ := Lib.hid hz
  clear ha hz
  have hmm := @run_makeMap Try.prog
  by_cases hf : 512 < L.length
  · have HE := Lib.hid (newE_full hf)
    have hf' : (512 : Int) < (L.length : Int) := by omega
    clear hf
    go_enter Try.func33, Try.ntmps33
    go_wp2_with fail
    go_ret2
    exact ⟨Below.refl _ _, Or.inr ⟨by rw [HE.out]; decide, ret_err HE.out⟩⟩
  · have hf' : decide ((512 : Int) < (L.length : Int)) = false := decide_eq_false (by omega)
    have HF := Lib.hid hf
    have hl512 : L.length ≤ 512 := by omega
    clear hf
    go_enter Try.func33, Try.ntmps33
    go_wp2_with fail
    go_loop [16] (fun i => ∃ k : Nat, k ≤ L.length ∧ i = .int .i64 k ∧ (∀ j s, j < k → L[j]? = some s → validB s = true)) (fun i => L.length - (intOf i).toNat)
    case atStart => exact ⟨0, Nat.zero_le _, rfl, fun j s h => absurd h (by omega)⟩
    case round =>
      obtain ⟨k, hk, rfl, hv⟩ := hrel
      have HV := Lib.hid hv
      clear hv
      rcases Nat.lt_or_ge k L.length with hlt | hge
      · obtain ⟨s, hs⟩ := get_lt hlt
        obtain ⟨b', off, rfl, hb', hc⟩ := HA.out k s hs
        have HS := Lib.hid hs
        have hsz := (HZ.out.at_ hs).1
        clear hs
        cases hv : validB s with
        | false =>
          have HC := valid_is hv hsz w
          have HE : Hid (newE L = 5) := newE_bad HF.out (by rw [List.all_eq_false]; exact ⟨s, List.mem_of_getElem? HS.out, by simp [hv]⟩)
          clear hv
          go_wp2_with fail
          refine HC.mono ?_
          rintro e w' ⟨rfl, rfl⟩
          go_wp2_with fail
          go_ret2
          exact ⟨Below.refl _ _, Or.inr ⟨by rw [HE.out]; decide, ret_err HE.out⟩⟩
        | true =>
          have HC := valid_is hv hsz w
          have HVV := Lib.hid hv
          clear hv
          go_wp2_with fail
          refine HC.mono ?_
          rintro e w' ⟨rfl, rfl⟩
          go_wp2_with fail
          go_round
          case rel =>
            refine ⟨k + 1, by omega, by go_num, fun j u hj hu => ?_⟩
            rcases Nat.lt_or_eq_of_le (Nat.le_of_lt_succ hj) with h | h
            · exact HV.out j u h hu
            · subst h
              have e := HS.out
              rw [hu] at e; cases e; exact HVV.out
          case measure => simp [intOf]; omega
      · obtain rfl : k = L.length := by omega
        have HALL : Hid (L.all validB = true) := List.all_eq_true.mpr fun s hs => by
          obtain ⟨j, hj⟩ := List.mem_iff_getElem?.mp hs
          exact HV.out j s (lt_get hj) hj
        clear hk
        go_wp2_with fail
        go_loopw [29] (fun i wr => ∃ k : Nat, k ≤ L.length ∧ i = .int .i64 k ∧ (∃ S, Tb wr (w.heap.size + 1) S (L.take k) ∧ ∀ x, S x → w.heap.size ≤ x) ∧ Below w.heap.size w wr) (fun i _ => L.length - (intOf i).toNat)
        case atStart =>
          exact ⟨0, Nat.zero_le _, rfl, ⟨_, Tb.new w, fun x hx => by omega⟩, ((Below.refl _ w).alloc (Nat.le_refl _) _).alloc (by simp) _⟩
        case round =>
          obtain ⟨k, hk, rfl, ⟨S, ht, hS⟩, hbel⟩ := hrel
          have HT := Lib.hid ht
          have HS0 := Lib.hid hS
          have HB := Lib.hid hbel
          clear ht hS hbel
          rcases Nat.lt_or_ge k L.length with hlt | hge
          · obtain ⟨s, hs⟩ := get_lt hlt
            obtain ⟨b', off, rfl, hb', hc⟩ := HA.out.keep HB.out.size (fun b off e hb => HB.out.block b hb) k s hs
            have HS := Lib.hid hs
            have HSZ := Lib.hid (HZ.out.at_ hs).2
            have HADD := Lib.hid (ident_Add HT.out (HZ.out.at_ hs).2)
            have hvs : validB s = true := List.all_eq_true.mp HALL.out s (List.mem_of_getElem? hs)
            have hlk : (L.take k).length = k := by rw [List.length_take]; omega
            cases hd : fndB s (L.take k) with
            | true =>
              have he : addE (L.take k) s = 6 := addE_twice hvs hd
              have HE : Hid (newE L = 6) := newE_twice HF.out HALL.out (dup_of hs hd)
              rw [he] at HADD
              clear hd he hvs hlk hs
              go_wp2_with fail
              refine HADD.out.mono ?_
              rintro e w' ⟨rfl, hadd⟩
              have HAD := Lib.hid hadd
              clear hadd
              go_wp2_with fail
              go_ret2
              obtain ⟨S', h1, h2, h3⟩ := HAD.out
              exact ⟨HB.out.trans (h3.below HB.out.size HS0.out), Or.inr ⟨by rw [HE.out]; decide, ret_err HE.out⟩⟩
            | false =>
              have he : addE (L.take k) s = 0 := addE_ok hvs hd (by omega)
              have hal := (add_yes he).2
              rw [he, hal, ← take_snoc_of hs] at HADD
              clear hd he hvs hlk hs hal
              go_wp2_with fail
              refine HADD.out.mono ?_
              rintro e w' ⟨rfl, hadd⟩
              have HAD := Lib.hid hadd
              clear hadd
              go_wp2_with fail
              go_roundw
              case rel =>
                obtain ⟨S', h1, h2, h3⟩ := HAD.out
                exact ⟨k + 1, by omega, by go_num, ⟨S', h1, fun x hx => by rcases h2 x hx with h | h; exact HS0.out x h; have := HB.out.size; omega⟩, HB.out.trans (h3.below HB.out.size HS0.out)⟩
              case measure => simp [intOf]; omega
          · obtain rfl : k = L.length := by omega
            have HTT := HT
            rw [List.take_length] at HTT
            go_wp2_with fail
            go_ret2
            exact ⟨HB.out, Or.inl ⟨newE_zero.mpr HTT.out.good, _, S, rfl, HTT.out, HS0.out⟩⟩
end Go.Proofs.Ytgomokdklajlcaa.Ident
/- The program: checkKind, visit of kinds, Check. -/
namespace Go.Proofs.Ytgomokdklajlcaa.Fibre
open Go.ChangeShapes Go.WideShapes Go.RowKit Go.Lib
open Go.Proofs.Ytgomokdklajlcaa.Rw (Rd Cel Off glt get_lt ret_bool ret_int wrap_id bstep below_drewN below_drew drew_below below_alloc take_snoc_of)
open Go.Proofs.Ytgomokdklajlcaa.Ident (validB valid_is Tb Adds addE fndB fndB_iff addE_bad addE_twice addE_ok addE_zero add_yes add_no addI ident_New ident_Add NewRes)
set_option linter.unusedVariables false
set_option maxRecDepth 100000

/-! ### checkKind -/
set_option maxHeartbeats 800000 in
theorem p_checkKind (f : Fb) (w : World) (hs : f.1.size ≤ 9223372036854775807) :
    Calls Try.prog 32 #[.agg #[.string f.1, .int .i64 f.2]] w fun e w' => e = .returned (.int .i64 (elE f)) ∧ Below w.heap.size w w' := by
  cases hv : validB f.1 with
  | false =>
    have HC := Lib.hid fun W => valid_is hv hs W
    rw [elE_name hv]
    clear hv hs
    go_enter Try.func32, Try.ntmps32
    go_wp2_with fail
    refine (HC.out _).mono ?_
    rintro e w' ⟨rfl, rfl⟩
    go_wp2_with fail
    go_ret
    exact ⟨rfl, below_alloc _ _⟩
  | true =>
    have HC := Lib.hid fun W => valid_is hv hs W
    have he : elE f = nuE 1000000000 f.2 := by unfold elE nuE; rw [hv]; rfl
    rw [he]
    clear hv hs he
    have HN := Lib.hid fun W => p_checkNumber f.2 1000000000 W
    go_enter Try.func32, Try.ntmps32
    go_wp2_with fail
    refine (HC.out _).mono ?_
    rintro e w' ⟨rfl, rfl⟩
    go_wp2_with fail
    refine (HN.out _).mono ?_
    rintro e w' ⟨rfl, rfl⟩
    go_wp2_with fail
    go_ret
    exact ⟨rfl, below_alloc _ _⟩

/-! ### visit -/
/-- The first error of kinds, each asked for after those before it. -/
def firD (g : List Fb → Fb → Int) : List Fb → List Fb → Int
  | _, [] => 0
  | D, f :: l => if g D f = 0 then firD g (D ++ [f]) l else g D f
theorem firD_bad {g : List Fb → Fb → Int} : ∀ {l D : List Fb} {k : Nat} {f : Fb}, l[k]? = some f → ¬ g (D ++ l.take k) f = 0 → (∀ (j : Nat) (y : Fb), j < k → l[j]? = some y → g (D ++ l.take j) y = 0) → firD g D l = g (D ++ l.take k) f
  | [], _, _, _, h, _, _ => by simp at h
  | y :: l, D, 0, f, h, hb, _ => by
    simp at h; subst h
    simp at hb
    rw [firD, if_neg hb]; simp
  | y :: l, D, k + 1, f, h, hb, ha => by
    rw [List.getElem?_cons_succ] at h
    have h0 := ha 0 y (by omega) rfl
    simp at h0
    rw [List.take_succ_cons, List.append_cons] at hb ⊢
    rw [firD, if_pos h0]
    exact firD_bad h hb fun j x hj hx => by
      have := ha (j + 1) x (by omega) (by rw [List.getElem?_cons_succ]; exact hx)
      rwa [List.take_succ_cons, List.append_cons] at this
theorem firD_ok {g : List Fb → Fb → Int} : ∀ {l D : List Fb}, (∀ (j : Nat) (y : Fb), l[j]? = some y → g (D ++ l.take j) y = 0) → firD g D l = 0
  | [], _, _ => rfl
  | y :: l, D, ha => by
    have h0 := ha 0 y rfl
    simp at h0
    rw [firD, if_pos h0]
    exact firD_ok fun j x hx => by
      have := ha (j + 1) x (by rw [List.getElem?_cons_succ]; exact hx)
      rwa [List.take_succ_cons, List.append_cons] at this

/-- A function that answers of a kind: what holds of the memory after the kinds D; its blocks. -/
structure VisK (fn : Nat) (ba ca : Array Value) (g : List Fb → Fb → Int) (P : Fb → Prop) (N : Nat) (J : List Fb → (Nat → Prop) → World → Prop) : Prop where
  eg : ∀ args w, (callFunc fn args).run Try.prog w = .ok (.enter fn args) w
  lt : ∀ D S W, J D S W → ∀ y, S y → y < W.heap.size
  keep : ∀ D S W W', J D S W → W.heap.size ≤ W'.heap.size → (∀ y, S y → W'.heap[y]? = W.heap[y]?) → J D S W'
  step : ∀ D S W f, J D S W → D.length < N → P f → Calls Try.prog fn (ba ++ #[.agg #[.string f.1, .int .i64 f.2]] ++ ca) W fun e W' =>
    e = .returned (.int .i64 (g D f)) ∧ Off S W W' ∧ (g D f = 0 → ∃ S', J (D ++ [f]) S' W' ∧ (∀ y, S' y → S y ∨ W.heap.size ≤ y))
set_option maxHeartbeats 1600000 in
theorem visit_kinds {fn : Nat} {ba ca : Array Value} {g : List Fb → Fb → Int} {P : Fb → Prop} {J : List Fb → (Nat → Prop) → World → Prop} {S : Nat → Prop} {w : World} (l : List Fb) (hv : VisK fn ba ca g P l.length J) (h0 : J [] S w) (A : Option Addr) (n c : Nat) (hn : n = l.length) (ha : Kds w A l)
    (hA : ∀ (k : Nat) (f : Fb), l[k]? = some f → ∀ (b off : Nat), A = some ⟨b, off, none⟩ → ¬ S b) (hz : ∀ f ∈ l, P f) (hm : n ≤ 9223372036854775807) :
    Calls Try.prog 31 #[.slice A n c, .func (.func fn) ba ca] w fun e w' => e = .returned (.int .i64 (firD g [] l)) ∧ Off S w w' := by
  have HA := Lib.hid ha
  have HNA := Lib.hid hA
  have HN := Lib.hid hn
  have HV := Lib.hid hv
  have HZ := Lib.hid hz
  have eg := hv.eg
  have HJ0 := Lib.hid h0
  have HLT : Hid (∀ y, S y → y < w.heap.size) := hv.lt _ _ _ h0
  obtain ⟨E, hE⟩ : ∃ E, firD g [] l = E := ⟨_, rfl⟩
  rw [hE]
  have HE := Lib.hid hE
  clear ha hA hn hv h0 hz hE
  go_enter Try.func31, Try.ntmps31
  go_wp2_with fail
  go_loopw [10, 6, 7] (fun i _ _ wr => ∃ (k : Nat) (S' : Nat → Prop), k ≤ n ∧ i = .int .i64 k ∧ J (l.take k) S' wr ∧ (∀ y, S' y → S y ∨ w.heap.size ≤ y) ∧ Off S w wr ∧ (∀ (j : Nat) (y : Fb), j < k → l[j]? = some y → g (l.take j) y = 0)) (fun i _ _ _ => n - (RowKit.intOf i).toNat)
  case atStart => exact ⟨0, S, Nat.zero_le _, rfl, HJ0.out, fun y hy => Or.inl hy, Off.refl S w, fun j y h => absurd h (by omega)⟩
  case round =>
    obtain ⟨k, S', hk, rfl, hj, hs, hoff, hg⟩ := hrel
    have HJ := Lib.hid hj
    have HS := Lib.hid hs
    have HO := Lib.hid hoff
    have HG := Lib.hid hg
    clear hj hs hoff hg
    rcases Nat.lt_or_ge k n with hlt | hge
    · obtain ⟨f, hf⟩ := get_lt (L := l) (k := k) (by have := HN.out; omega)
      obtain ⟨b, off, hA0, hb, d0, d1⟩ := kd_at (HA.out.off HO.out (HNA.out k f hf)) hf
      subst hA0
      have HF := Lib.hid hf
      have HLT2 : Hid (∀ y, S' y → y < wr.heap.size) := HV.out.lt _ _ _ HJ.out
      have i1 : (k : Int) < (n : Int) := by omega
      have i2 : (0 : Int) ≤ (k : Int) := by omega
      have HTk := Lib.hid (take_snoc_of hf)
      have HSZ := Lib.hid (HZ.out f (List.mem_of_getElem? hf))
      have HLk : Hid ((l.take k).length < l.length) := Lib.hid (by rw [List.length_take]; have := HN.out; omega)
      clear hf
      go_upto_region 4 with fail
      generalize hw1 : wr.alloc (.cells #[.string f.1, .int .i64 f.2] TF) = w1
      have HB1 : Hid (Below wr.heap.size wr w1) := hw1 ▸ below_alloc _ _
      have HC1 : Hid (Cel w1 wr.heap.size [.string f.1, .int .i64 f.2]) := hw1 ▸ Cel.new _ _ _
      have HJ1 : Hid (J (l.take k) S' w1) := HV.out.keep _ _ _ _ HJ.out HB1.out.size fun y hy => HB1.out.block y (HLT2.out y hy)
      have HO1 : Hid (Off S w w1) := HO.out.then_below HB1.out
      have HST := Lib.hid (HV.out.step _ S' w1 f HJ1.out HLk.out HSZ.out)
      clear hw1 d0 d1
      obtain ⟨c0, c1⟩ := HC1.out.two
      obtain ⟨F, hF⟩ : ∃ F, g (l.take k) f = F := ⟨_, rfl⟩
      rw [hF] at HST
      have HFe := Lib.hid hF
      clear hF
      have HOS : Hid (∀ W, Off S' w1 W → Off S w W) := fun W h => HO1.out.trans h fun z hz => (HS.out z hz)
      by_cases hz : F = 0
      · subst hz
        go_wp2_with (go_at_fn fn; refine HST.out.mono ?_; rintro e w5 ⟨rfl, ho5, hj5⟩; have HJ5 := Lib.hid (hj5 rfl); have HO5 := Lib.hid ho5; clear hj5 ho5)
        obtain ⟨S5, h1, h2⟩ := HJ5.out
        go_roundw
        case rel =>
          refine ⟨k + 1, S5, by omega, by go_num, by rw [HTk.out]; exact h1, fun z hz => ?_, HOS.out _ HO5.out, ?_⟩
          · rcases h2 z hz with h | h
            · exact HS.out z h
            · exact Or.inr (Nat.le_trans HO1.out.size h)
          · intro j y hj hy
            rcases Nat.lt_or_eq_of_le (Nat.le_of_lt_succ hj) with h | h
            · exact HG.out j y h hy
            · subst h
              have e := HF.out
              rw [hy] at e; cases e; exact HFe.out
        case measure => simp [RowKit.intOf]; omega
      · obtain ⟨z1, z2⟩ := ne_zero hz
        obtain rfl : E = F := by
          rw [← HE.out, ← HFe.out]
          have h1 := firD_bad (g := g) (D := []) HF.out (by rw [List.nil_append, HFe.out]; exact hz) (by simpa using HG.out)
          rw [List.nil_append] at h1
          exact h1
        clear hz
        go_wp2_with (go_at_fn fn; refine HST.out.mono ?_; rintro e w5 ⟨rfl, ho5, hj5⟩; have HO5 := Lib.hid ho5; clear hj5 ho5)
        go_ret
        exact ⟨rfl, HOS.out _ HO5.out⟩
    · obtain rfl : k = n := by omega
      obtain rfl : E = 0 := by rw [← HE.out]; exact firD_ok fun j y hy => by rw [List.nil_append]; exact HG.out j y (by rw [HN.out]; exact glt hy) hy
      go_wp2_with fail
      go_ret
      exact ⟨rfl, HO.out⟩
end Go.Proofs.Ytgomokdklajlcaa.Fibre
/- The program: Check. -/
namespace Go.Proofs.Ytgomokdklajlcaa.Fibre
open Go.ChangeShapes Go.WideShapes Go.RowKit Go.Lib
open Go.Proofs.Ytgomokdklajlcaa.Rw (Rd Cel Off glt get_lt ret_bool ret_int wrap_id bstep below_drewN below_drew drew_below below_alloc take_snoc_of)
open Go.Proofs.Ytgomokdklajlcaa.Ident (validB validB_size valid_is Tb Good Adds fndB fndB_iff add_yes add_no ident_New ident_Add NewRes newE newE_zero Strs)
set_option linter.unusedVariables false
set_option maxRecDepth 100000

theorem off_of {S : Nat → Prop} {w w' : World} (h : Ident.Off S w w') : Off S w w' := ⟨h.os, h.tape, h.output, h.size, h.block⟩
abbrev nms (D : List Fb) : List ByteArray := D.map Prod.fst
/-! ### The names, one after the other -/
abbrev twE (D : List Fb) (f : Fb) : Int := Ident.addE (nms D) f.1
theorem firD_el : ∀ (l D : List Fb), firD (fun _ f => elE f) D l = firE l
  | [], _ => rfl
  | f :: l, D => by rw [firD, firE, firD_el l]
theorem fnd_nms {D : List Fb} {f : Fb} : fndB f.1 (nms D) = D.any fun g => decide (g.1 = f.1) := by
  apply Bool.eq_iff_iff.mpr
  rw [fndB_iff, List.any_eq_true, List.mem_map]
  exact ⟨fun ⟨g, h1, h2⟩ => ⟨g, h1, decide_eq_true h2⟩, fun ⟨g, h1, h2⟩ => ⟨g, h1, of_decide_eq_true h2⟩⟩
theorem firD_tw : ∀ (l D : List Fb), (∀ f ∈ l, validB f.1 = true) → D.length + l.length ≤ 512 → firD twE D l = if (l.any fun f => D.any fun g => decide (g.1 = f.1)) || twB l then 6 else 0
  | [], _, _, _ => rfl
  | f :: l, D, hv, hl => by
    have hvf := hv f (List.mem_cons_self ..)
    rw [List.length_cons] at hl
    rw [firD]
    cases hf : D.any fun g => decide (g.1 = f.1) with
    | true =>
      have h1 : twE D f = 6 := Ident.addE_twice hvf (by rw [fnd_nms, hf])
      rw [h1, if_neg (by decide), List.any_cons, hf]; rfl
    | false =>
      have h1 : twE D f = 0 := Ident.addE_ok hvf (by rw [fnd_nms, hf]) (by rw [List.length_map]; omega)
      rw [if_pos h1, firD_tw l (D ++ [f]) (fun g hg => hv g (List.mem_cons_of_mem _ hg)) (by rw [List.length_append, List.length_singleton]; omega), List.any_cons, hf, Bool.false_or, twB]
      congr 1
      apply congrArg (· = true)
      rw [← Bool.or_assoc]
      congr 1
      apply Bool.eq_iff_iff.mpr
      rw [Bool.or_eq_true, List.any_eq_true, List.any_eq_true, List.any_eq_true]
      constructor
      · rintro ⟨x, hx, h⟩
        rw [List.any_append, Bool.or_eq_true] at h
        rcases h with h | h
        · exact Or.inl ⟨x, hx, h⟩
        · simp at h
          exact Or.inr ⟨x, hx, decide_eq_true h.symm⟩
      · rintro (⟨x, hx, h⟩ | ⟨x, hx, h⟩)
        · exact ⟨x, hx, by rw [List.any_append, h]; rfl⟩
        · exact ⟨x, hx, by rw [List.any_append, Bool.or_eq_true]; right; simp; exact (of_decide_eq_true h).symm⟩
theorem firE_valid {l : List Fb} (h : firE l = 0) : ∀ f ∈ l, validB f.1 = true := fun f hf => by
  have h1 := firE_of h f hf
  cases hv : validB f.1 with
  | true => rfl
  | false => rw [elE_name hv] at h1; cases h1
theorem chkE_fir {l : List Fb} (h0 : ¬ l.length = 0) (h8 : ¬ 8 < l.length) (h : ¬ firE l = 0) : chkE l = firE l := by
  unfold chkE; rw [if_neg h0, if_neg h8, if_neg h]
theorem chkE_two {l : List Fb} (h0 : ¬ l.length = 0) (h8 : ¬ 8 < l.length) (h : firE l = 0) : chkE l = firD twE [] l := by
  unfold chkE
  rw [if_neg h0, if_neg h8, if_pos h, firD_tw l [] (firE_valid h) (by simp; omega)]
  simp

/-! ### The two functions -/
/-- Nothing is known, and no block is its own. -/
def noJ (_ : List Fb) (S : Nat → Prop) (_ : World) : Prop := ∀ y, ¬ S y
theorem vis_kind (N : Nat) : VisK 32 #[] #[] (fun _ f => elE f) (fun f => f.1.size ≤ 9223372036854775807) N noJ where
  eg := enters_of Try.func32 (by kernel_rfl) rfl
  lt := fun D S W h y hy => absurd hy (h y)
  keep := fun D S W W' h _ _ => h
  step := fun D S W f hj _ hs => (p_checkKind f W hs).mono fun e W' ⟨h1, h2⟩ => ⟨h1, Off.of_below h2, fun _ => ⟨S, hj, fun y hy => Or.inl hy⟩⟩
set_option maxHeartbeats 800000 in
theorem p_twice (b bx : Nat) (S : Nat → Prop) (L : List ByteArray) (f : Fb) (w : World) (ht : Tb w b S L) (hc : w.cell? ⟨bx, 0, none⟩ = some (.pointer (some ⟨b, 0, none⟩))) (hx : bx < w.heap.size) (hs : f.1.size ≤ maxLen) :
    Calls Try.prog 34 #[.agg #[.string f.1, .int .i64 f.2], .pointer (some ⟨bx, 0, none⟩)] w fun e w' => e = .returned (.int .i64 (Ident.addE L f.1)) ∧ ∃ w1, Below w.heap.size w w1 ∧ Adds w1 b S (Ident.addL L f.1) w' := by
  have HT := Lib.hid ht
  have HAd := Lib.hid fun (W : World) (h : Tb W b S L) => ident_Add h hs
  obtain ⟨E, hE⟩ : ∃ E, Ident.addE L f.1 = E := ⟨_, rfl⟩
  rw [hE] at HAd
  rw [hE]
  clear ht
  go_enter Try.func34, Try.ntmps34
  go_upto_region 1 with fail
  generalize hw1 : w.alloc (.cells #[.string f.1, .int .i64 f.2] TF) = w1
  have HB1 : Hid (Below w.heap.size w w1) := hw1 ▸ below_alloc _ _
  have HC1 : Hid (Cel w1 w.heap.size [.string f.1, .int .i64 f.2]) := hw1 ▸ Cel.new _ _ _
  have x0 : w1.cell? ⟨bx, 0, none⟩ = some (.pointer (some ⟨b, 0, none⟩)) := (HB1.out.cell (p := ⟨bx, 0, none⟩) hx).trans hc
  clear hw1 hc
  obtain ⟨c0, c1⟩ := HC1.out.two
  go_wp2_with fail
  refine (HAd.out _ (HT.out.on HB1.out)).mono ?_
  rintro e w2 ⟨rfl, had⟩
  have HA := Lib.hid had
  clear had
  go_wp2_with fail
  go_ret
  exact ⟨rfl, w1, HB1.out, HA.out⟩
/-- The table of the names before, and the cell that points to it. -/
def twJ (b bx : Nat) (D : List Fb) (S : Nat → Prop) (W : World) : Prop := ∃ S0, Tb W b S0 (nms D) ∧ ¬ S0 bx ∧ Cel W bx [.pointer (some ⟨b, 0, none⟩)] ∧ ∀ y, S y ↔ S0 y ∨ y = bx
theorem vis_twice (b bx N : Nat) : VisK 34 #[] #[.pointer (some ⟨bx, 0, none⟩)] twE (fun f => f.1.size ≤ maxLen) N (twJ b bx) where
  eg := enters_of Try.func34 (by kernel_rfl) rfl
  lt := fun D S W ⟨S0, h1, h2, h3, h4⟩ y hy => by
    rcases (h4 y).mp hy with h | rfl
    · exact h1.lt y h
    · exact h3.lt
  keep := fun D S W W' ⟨S0, h1, h2, h3, h4⟩ hs hk => ⟨S0, h1.keep hs fun k hk' => hk k ((h4 k).mpr (Or.inl hk')), h2, h3.keep hs (hk bx ((h4 bx).mpr (Or.inr rfl))), h4⟩
  step := fun D S W f ⟨S0, h1, h2, h3, h4⟩ _ hs => (p_twice b bx S0 (nms D) f W h1 (h3.at_ 0 _ rfl) h3.lt hs).mono fun e W' ⟨he, w1, hb, S', k1, k2, k3⟩ => by
    refine ⟨he, ?_, fun hz => ⟨fun y => S' y ∨ y = bx, ⟨S', ?_, ?_, ?_, fun y => Iff.rfl⟩, ?_⟩⟩
    · have : Off S w1 W' := (off_of k3).mono fun x hx => Or.inl ((h4 x).mpr (Or.inl hx))
      exact ((Off.of_below (S := S) hb).trans this fun x hx => Or.inl hx)
    · have hz' : Ident.addE (nms D) f.1 = 0 := hz
      rw [(add_yes hz').2] at k1
      unfold nms at k1 ⊢
      rw [List.map_append]
      exact k1
    · intro hx
      rcases k2 bx hx with h | h
      · exact h2 h
      · have := hb.size; have := h3.lt; omega
    · exact (h3.on hb).off (off_of k3) h2
    · intro y hy
      rcases hy with hy | rfl
      · rcases k2 y hy with h | h
        · exact Or.inl ((h4 y).mpr (Or.inl h))
        · exact Or.inr (Nat.le_trans hb.size h)
      · exact Or.inl ((h4 y).mpr (Or.inr rfl))

/-! ### Check -/
theorem kds_old {w : World} {A : Option Addr} {l : List Fb} (h : Kds w A l) (k : Nat) (f : Fb) (hf : l[k]? = some f) (b off : Nat) (e : A = some ⟨b, off, none⟩) : b < w.heap.size := by
  obtain ⟨b', off', e', hlt, -⟩ := h k f hf
  rw [e] at e'; cases e'; exact hlt
set_option maxHeartbeats 1600000 in
theorem fibre_Check (l : List Fb) (A : Option Addr) (n c : Nat) (hn : n = l.length) (w : World) (ha : Kds w A l) (hz : Sz l) (hm : n ≤ 1000000) :
    Calls Try.prog 13 #[.slice A n c] w fun e w' => e = .returned (.int .i64 (chkE l)) ∧ Below w.heap.size w w' := by
  have HA := Lib.hid ha
  have HN := Lib.hid hn
  have HZ := Lib.hid hz
  clear ha hz
  by_cases h0 : n = 0
  · subst h0
    rw [show chkE l = 10 by unfold chkE; rw [if_pos hn.symm]]
    clear hn
    go_enter Try.func13, Try.ntmps13
    go_wp2_with fail
    go_ret
    exact ⟨rfl, Below.refl _ _⟩
  have e0 : ((n : Int) == 0) = false := beq_false_of_ne (by omega)
  have e0' : ¬ (n : Int) = 0 := by omega
  by_cases h8 : 8 < n
  · have e8 : decide ((8 : Int) < (n : Int)) = true := decide_eq_true (by omega)
    rw [show chkE l = 8 by unfold chkE; rw [if_neg (by omega), if_pos (by omega)]]
    clear hn h0
    go_enter Try.func13, Try.ntmps13
    go_wp2_with fail
    go_ret
    exact ⟨rfl, Below.refl _ _⟩
  have e8 : decide ((8 : Int) < (n : Int)) = false := decide_eq_false (by omega)
  have k0 : ¬ l.length = 0 := by omega
  have k8 : ¬ 8 < l.length := by omega
  have HV1 := Lib.hid (visit_kinds l (vis_kind l.length) (S := fun _ => False) (w := w) (fun y hy => hy) A n c hn HA.out (fun _ _ _ _ _ _ h => h) HZ.out (by omega))
  rw [firD_el] at HV1
  have HBl : Hid (∀ W W' : World, Off (fun _ => False) W W' → Below W.heap.size W W') := fun W W' h => h.below (Nat.le_refl _) fun x hx => hx.elim
  by_cases hf : firE l = 0
  rotate_left
  · rw [chkE_fir k0 k8 hf]
    obtain ⟨F, hF⟩ : ∃ F, firE l = F := ⟨_, rfl⟩
    rw [hF] at hf HV1 ⊢
    obtain ⟨z1, z2⟩ := ne_zero hf
    clear hn h0 h8 k0 k8 hf hF
    go_enter Try.func13, Try.ntmps13
    go_wp2_with fail
    refine HV1.out.mono ?_
    rintro e w1 ⟨rfl, ho⟩
    have HB1 := Lib.hid (HBl.out _ _ ho)
    clear ho
    go_wp2_with fail
    go_ret
    exact ⟨rfl, HB1.out⟩
  rw [chkE_two k0 k8 hf]
  rw [hf] at HV1
  have HVal : Hid (∀ f ∈ l, f.1.size ≤ maxLen) := Lib.hid fun f h => by
    have := (validB_size (firE_valid hf f h)).2
    unfold maxLen; omega
  have HNew : Hid (∀ W, Calls Try.prog 33 #[.slice none 0 0] W fun e W' => ∃ b S, e = .returned (.tuple #[.pointer (some ⟨b, 0, none⟩), .int .i64 0]) ∧ Tb W' b S [] ∧ (∀ k, S k → W.heap.size ≤ k) ∧ Below W.heap.size W W') := Lib.hid fun W =>
    (ident_New [] none 0 W (Strs.nil _ _) (fun s hs => by simp at hs) (by simp)).mono fun e W' ⟨h1, h2⟩ => by
      have hz : newE [] = 0 := newE_zero.mpr Good.nil
      rcases h2 with ⟨-, b, S, h3, h4, h5⟩ | ⟨h3, -⟩
      · exact ⟨b, S, h3, h4, h5, h1⟩
      · exact absurd hz h3
  obtain ⟨E, hE⟩ : ∃ E, firD twE [] l = E := ⟨_, rfl⟩
  rw [hE]
  have HE := Lib.hid hE
  clear hn h0 h8 k0 k8 hf hE
  go_enter Try.func13, Try.ntmps13
  go_wp2_with fail
  refine HV1.out.mono ?_
  rintro e w1 ⟨rfl, ho⟩
  have HB1 := Lib.hid (HBl.out _ _ ho)
  clear ho
  go_wp2_with fail
  refine (HNew.out _).mono ?_
  rintro e w2 ⟨b, S, rfl, ht, hS, hb2⟩
  have HT := Lib.hid ht
  have HS := Lib.hid hS
  have HB2 := Lib.hid (bstep HB1.out hb2)
  have HLe := Lib.hid hb2.size
  clear ht hS hb2
  go_upto_region 9 with fail
  generalize hw3 : w2.alloc (.cells #[.pointer (some ⟨b, 0, none⟩)] 46) = w3
  have HB3 : Hid (Below w2.heap.size w2 w3) := hw3 ▸ below_alloc _ _
  have HC3 : Hid (Cel w3 w2.heap.size [.pointer (some ⟨b, 0, none⟩)]) := hw3 ▸ Cel.new _ _ _
  clear hw3
  have HBw3 := Lib.hid (bstep HB2.out HB3.out)
  have HJ : Hid (twJ b w2.heap.size [] (fun y => S y ∨ y = w2.heap.size) w3) := Lib.hid ⟨S, HT.out.on HB3.out, fun h => Nat.lt_irrefl _ (HT.out.lt _ h), HC3.out, fun y => Iff.rfl⟩
  have HNo : Hid (∀ y, S y ∨ y = w2.heap.size → w.heap.size ≤ y) := Lib.hid fun y hy => by
    have h1 := HB1.out.size
    have h2 := HLe.out
    rcases hy with h | rfl
    · have := HS.out y h; omega
    · omega
  have HV2 := Lib.hid (visit_kinds l (vis_twice b w2.heap.size l.length) HJ.out A n c HN.out (HA.out.on HBw3.out) (fun k f hf b' off e hs => by have := kds_old HA.out k f hf b' off e; have := HNo.out _ hs; omega) HVal.out (by omega))
  rw [HE.out] at HV2
  go_wp2_with fail
  refine HV2.out.mono ?_
  rintro e w4 ⟨rfl, ho⟩
  have HB4 : Hid (Below w.heap.size w w4) := Lib.hid (HBw3.out.trans (ho.below HBw3.out.size HNo.out))
  clear ho
  go_wp2_with fail
  go_ret
  exact ⟨rfl, HB4.out⟩
end Go.Proofs.Ytgomokdklajlcaa.Fibre
/- slices.Repeat of a slice of one integer. -/
namespace Go.Proofs.Ytgomokdklajlcaa.Mem
open Go.ChangeShapes Go.WideShapes Go.RowKit Go.Lib
set_option linter.unusedVariables false
set_option maxRecDepth 100000

def rpt (N : Nat) (z : Int) (n : Nat) : List Value := List.replicate n (.int .i64 z) ++ List.replicate (N - n) (.int .i64 0)
theorem rpt_len {N : Nat} {z : Int} {n : Nat} (h : n ≤ N) : (rpt N z n).length = N := by unfold rpt; simp; omega
theorem rpt_splice {N : Nat} {z : Int} {n m : Nat} (h : n + m ≤ N) : splice (rpt N z n) n (List.replicate m (.int .i64 z)) = rpt N z (n + m) := by
  unfold splice rpt
  rw [List.take_left' (by simp), List.length_replicate, List.drop_append, List.drop_eq_nil_of_le (by simp), List.nil_append, List.drop_replicate, ← List.append_assoc, List.replicate_append_replicate, List.length_replicate]
  congr 2
  omega
theorem rpt_get {N : Nat} {z : Int} {n j : Nat} (h : j < n) : (rpt N z n)[j]? = some (.int .i64 z) := by
  unfold rpt
  rw [List.getElem?_append_left (by simpa using h), List.getElem?_replicate, if_pos h]
theorem own_rpt {w : World} {g N B : Nat} {z : Int} {t : TypeId} (hg : w.heap[g]? = some (.cells (rpt N z N).toArray t (0, 0))) (hB : B ≤ g) (hN : N ≤ 1000) : Own eI t B w (.slice (some ⟨g, 0, none⟩) N N) (List.replicate N z) := by
  have e : rpt N z N = (List.replicate N z).map eI := by unfold rpt; simp
  refine ⟨by simp, Or.inr ⟨g, N, (rpt N z N).toArray, by simp, hB, hg, by simp, by unfold maxLen; omega, by simp [rpt_len], ?_⟩⟩
  rw [← e]
  simp
  exact List.take_of_length_le (by rw [rpt_len (Nat.le_refl _)]; exact Nat.le_refl _)
theorem row_cell {w : World} {g : Nat} {l : List Value} {t : TypeId} (hg : w.heap[g]? = some (.cells l.toArray t (0, 0))) (j : Nat) : w.cell? ⟨g, j, none⟩ = l[j]? := by
  rw [cell_of_row w g j _ _ (0, 0) hg]; simp
theorem rep_src {w : World} {g N k m : Nat} {z : Int} {t : TypeId} (hg : w.heap[g]? = some (.cells (rpt N z k).toArray t (0, 0))) (hm : m ≤ k) : ∀ (j : Nat) (v : Value), (List.replicate m (Value.int .i64 z))[j]? = some v → w.cell? ((⟨g, 0, none⟩ : Addr).add j) = some v := by
  intro j v hj
  rw [List.getElem?_replicate] at hj
  split at hj
  · cases hj
    rw [Addr.add_lit, Nat.zero_add]
    exact (row_cell hg j).trans (rpt_get (by omega))
  · cases hj
theorem one_src {w : World} {g : Nat} {z : Int} (hc : w.cell? ⟨g, 0, none⟩ = some (.int .i64 z)) : ∀ (j : Nat) (v : Value), (List.replicate 1 (Value.int .i64 z))[j]? = some v → w.cell? ((⟨g, 0, none⟩ : Addr).add j) = some v := by
  intro j v hj
  rw [List.getElem?_replicate] at hj
  split at hj
  · rename_i h
    obtain rfl : j = 0 := by omega
    cases hj
    rw [Addr.add_lit]
    exact hc
  · cases hj
theorem size_int : (Try.prog.info? 3).map (·.size) = some 1 := by kernel_rfl

end Go.Proofs.Ytgomokdklajlcaa.Mem
/- share.Bounds, share.Even. -/
namespace Go.Proofs.Ytgomokdklajlcaa.Share
open Go.ChangeShapes Go.WideShapes Go.RowKit Go.Lib Go.Proofs.Ytgomokdklajlcaa.Mem
set_option linter.unusedVariables false
set_option maxRecDepth 100000

end Go.Proofs.Ytgomokdklajlcaa.Share
/- check and Divide of the reference. -/
namespace Go.Proofs.Ytgomokdklajlcaa.Share
open Go.ChangeShapes Go.WideShapes Go.RowKit Go.Lib Go.Proofs.Ytgomokdklajlcaa.Mem
set_option linter.unusedVariables false
set_option maxRecDepth 100000

def chV (t : Int) (ws : List Int) : Int := if errS t ws = 0 then sumK ws ws.length else 0

theorem i64_and1 (n : Int) : bits .and .i64 n 1 = n % 2 := by
  have h1 : (BitVec.ofInt 64 1).toNat = 2 ^ 1 - 1 := by decide
  have key : (BitVec.ofInt 64 n &&& BitVec.ofInt 64 1).toNat = (n % ((2 ^ 64 : Nat) : Int)).toNat % 2 ^ 1 := by
    rw [BitVec.toNat_and, BitVec.toNat_ofInt, h1, Nat.and_two_pow_sub_one_eq_mod]
  show IntKind.i64.wrap ((BitVec.ofInt 64 n &&& BitVec.ofInt 64 1).toNat : Nat) = n % 2
  rw [key, IntKind.wrap_i64]
  omega
end Go.Proofs.Ytgomokdklajlcaa.Share
/- Split of the reference. -/
namespace Go.Proofs.Ytgomokdklajlcaa.Share
open Go.ChangeShapes Go.WideShapes Go.RowKit Go.Lib Go.Proofs.Ytgomokdklajlcaa.Mem
set_option linter.unusedVariables false
set_option maxRecDepth 100000

theorem lefts_lo (r : Nat → Nat) (n k i : Nat) : -1 ≤ lefts r n k i := by
  unfold lefts; split <;> omega
theorem partsL_zero {t : Int} {ws : List Int} (h : Share.tw (wf ws) ws.length = 0) : partsL t ws = lst (fun _ => 0) ws.length := by
  unfold partsL lst
  exact List.map_congr_left fun i _ => by unfold part; rw [if_pos h]; rfl
theorem bndsL_zero {t : Int} {ws : List Int} (h : Share.tw (wf ws) ws.length = 0) : bndsL t ws = lst (fun _ => 0) ws.length := by
  unfold bndsL lst
  exact List.map_congr_left fun i _ => by unfold bnd; rw [if_pos h]; rfl

end Go.Proofs.Ytgomokdklajlcaa.Share
/- Same and Bounds of the reference. -/
namespace Go.Proofs.Ytgomokdklajlcaa.Share
open Go.ChangeShapes Go.WideShapes Go.RowKit Go.Lib Go.Proofs.Ytgomokdklajlcaa.Mem
set_option linter.unusedVariables false
set_option maxRecDepth 100000

end Go.Proofs.Ytgomokdklajlcaa.Share
/- Even of the program and of the reference. -/
namespace Go.Proofs.Ytgomokdklajlcaa.Share
open Go.ChangeShapes Go.WideShapes Go.RowKit Go.Lib Go.Proofs.Ytgomokdklajlcaa.Mem
set_option linter.unusedVariables false
set_option maxRecDepth 100000

theorem split_n (t : Int) (ws : List Int) (n : Nat) (hn : ws.length = n) (A : Option Addr) (c : Nat) (w : World) (hS : Cl eI w A ws) (hl : n ≤ 9223372036854775807) :
    Calls Try.prog 42 #[.int .i64 t, .slice A n c] w (ResL (splL t ws) (errS t ws) w) := by
  subst hn; exact share_split t ws A c w hS hl
theorem ResL.open_ {L : List Int} {E : Nat} {w : World} {e : Ending} {w' : World} (h : ResL L E w e w') : ∃ (A : Option Addr) (n c : Nat), e = .returned (.tuple #[.slice A n c, .int .i64 (E : Int)]) ∧ L.length = n ∧ n ≤ 9223372036854775807 ∧ Own eI 3 w.heap.size w' (.slice A n c) L ∧ Cl eI w' A L ∧ Below w.heap.size w w' := by
  obtain ⟨v, rfl, ho, hb⟩ := h
  obtain ⟨A, c, rfl, hl, hc⟩ := ho.inS.open_
  exact ⟨A, _, c, rfl, rfl, hl, ho, hc, hb⟩
theorem own_cl {α : Type} {enc : α → Value} {t : TypeId} {B n c : Nat} {w : World} {A : Option Addr} {L : List α} (h : Own enc t B w (.slice A n c) L) : Cl enc w A L := by
  obtain ⟨A2, c2, e, _, _, hc⟩ := h.inS
  exact (Value.slice.inj e).1 ▸ hc
/-- What Even returns. -/
def evE (t m : Int) : Nat := if m < 1 ∨ 512 < m then 1 else errS t (List.replicate m.toNat 1)
def evL (t m : Int) : List Int := if m < 1 ∨ 512 < m then [] else splL t (List.replicate m.toNat 1)
theorem ev_out {t m : Int} (h : m < 1 ∨ 512 < m) : evE t m = 1 ∧ evL t m = [] := ⟨if_pos h, if_pos h⟩
theorem ev_in {t : Int} {N : Nat} (h1 : 1 ≤ N) (h2 : N ≤ 512) : evE t (N : Int) = errS t (List.replicate N 1) ∧ evL t (N : Int) = splL t (List.replicate N 1) := by
  unfold evE evL
  rw [if_neg (by omega), if_neg (by omega), Int.toNat_natCast]
  exact ⟨rfl, rfl⟩
theorem ev_t {t : Int} {m : Int} (h : inW t = false) : evE t m = 1 ∧ evL t m = [] := by
  unfold evE evL
  by_cases hm : m < 1 ∨ 512 < m
  · rw [if_pos hm, if_pos hm]; exact ⟨rfl, rfl⟩
  · rw [if_neg hm, if_neg hm, errS_t h]
    refine ⟨rfl, ?_⟩
    unfold splL
    rw [errS_t h, if_neg (by omega)]

end Go.Proofs.Ytgomokdklajlcaa.Share
