/- Several texts in one: TankF, TankPA. -/
import Derived.Test.YtgmlccjjhmhgbaaGreatPk24
import Derived.Test.YtgmlccjjhmhgbaaGreatPk23
import Derived.Test.YtgmlccjjhmhgbaaGreatPk20
/- Fill of the reference. -/
namespace Go.Proofs.YtgmlccjjhmhgbaaGreat.Tank
open Go.ChangeShapes Go.WideShapes Go.RowKit Go.Lib
open Go.Proofs.YtgmlccjjhmhgbaaGreat.Mem (Cl eI Own)
open Go.Proofs.YtgmlccjjhmhgbaaGreat.Rw (Rd Kd glt get_lt rd_one flat_len below_alloc bstep wrap_id below_drewN below_drew drew_below step_rowsF append_rowsF take_snoc_of)
set_option linter.unusedVariables false
set_option maxRecDepth 100000

theorem qs_at' {L : List Trip} {k : Nat} {t : Trip} (h : L[k]? = some t) : (qs L)[k]? = some (rT t) := qs_at h
theorem qs_fit {L : List Trip} (h : ∀ t ∈ L, vT t = true) : ∀ q ∈ qs L, fitR q = true := fun q hq => by
  obtain ⟨t, ht, rfl⟩ := List.mem_map.mp hq
  exact (trip_form (h t ht)).1
theorem ts_valid {Q : List Rat} (h : ∀ q ∈ Q, fitR q = true) : ∀ t ∈ ts Q, vT t = true := fun t ht => by
  obtain ⟨q, hq, rfl⟩ := List.mem_map.mp ht
  exact vT_tri (h q hq)
theorem ts_take_succ {Q : List Rat} {k : Nat} {q : Rat} (h : Q[k]? = some q) : ts (Q.take (k + 1)) = ts (Q.take k) ++ [triR q] := by
  rw [take_snoc_of h]
  unfold ts
  rw [List.map_append]; rfl
theorem trip_isR {w : World} {v : Value} {t : Trip} (h : vT t = true) (hi : InR w v t.1 t.2.1 t.2.2) : IsR w v (rT t) := trip_is h hi
/-- The number that a call left in a new box. -/
def Boxed (w : World) (err : Int) (r : Rat) (x y : Value) (wz : World) : Prop :=
  ∃ g b A1 n1 c1 B1 m1 d1, x = .pointer (some ⟨g, 0, none⟩) ∧ y = .int .i64 err ∧ Rw.Cel wz g [.bool b, .slice A1 n1 c1, .slice B1 m1 d1] ∧ OutR wz (.agg #[.bool b, .slice A1 n1 c1, .slice B1 m1 d1]) err r ∧ Below w.heap.size w wz ∧ w.heap.size ≤ g
theorem after_zero {w w4 : World} (h : Below ((w.alloc (.cells #[.bool false, .slice none 0 0, .slice none 0 0] 33)).drew).heap.size ((w.alloc (.cells #[.bool false, .slice none 0 0, .slice none 0 0] 33)).drew) w4) : Rw.Cel w4 w.heap.size [.bool false, .slice none 0 0, .slice none 0 0] := ((Rw.Cel.new w [.bool false, .slice none 0 0, .slice none 0 0] 33).drew).on h
theorem cl_below {w w4 : World} (h : Below w.drew.heap.size w.drew w4 ∨ Below ((w.alloc (.cells #[.bool false, .slice none 0 0, .slice none 0 0] 33)).drew).heap.size ((w.alloc (.cells #[.bool false, .slice none 0 0, .slice none 0 0] 33)).drew) w4) : Below w.heap.size w w4 := by
  rcases h with h | h
  · exact bstep (drew_below _) h
  · exact bstep (below_drew (below_alloc _ _)) h
theorem Boxed.new {w w6 : World} {err : Int} {r : Rat} {b : Bool} {A1 B1 : Option Addr} {n1 c1 m1 d1 : Nat} (ho : OutR w6 (.agg #[.bool b, .slice A1 n1 c1, .slice B1 m1 d1]) err r) (hb : Below w.heap.size w w6) : Boxed w err r (.pointer (some ⟨w6.heap.size, 0, none⟩)) (.int .i64 err) (w6.alloc (.cells #[.bool b, .slice A1 n1 c1, .slice B1 m1 d1] 33)) :=
  ⟨_, _, _, _, _, _, _, _, rfl, rfl, Rw.Cel.new w6 [_, _, _] _, ho.on (below_alloc _ _), bstep hb (below_alloc _ _), hb.size⟩
theorem Boxed.put {w w6 : World} {err : Int} {r : Rat} {b : Bool} {A1 B1 : Option Addr} {n1 c1 m1 d1 : Nat} (ho : OutR w6 (.agg #[.bool b, .slice A1 n1 c1, .slice B1 m1 d1]) err r) (hb : Below w.heap.size w w6) {g : Nat} (hc : Rw.Cel w6 g [.bool false, .slice none 0 0, .slice none 0 0]) (hg : w.heap.size ≤ g) : Boxed w err r (.pointer (some ⟨g, 0, none⟩)) (.int .i64 err) (((w6.setCell ⟨g, 0, none⟩ (.bool b)).setCell ⟨g, 1, none⟩ (.slice A1 n1 c1)).setCell ⟨g, 2, none⟩ (.slice B1 m1 d1)) :=
  ⟨_, _, _, _, _, _, _, _, rfl, rfl, hc.put3 _ _ _, OutR.put3 ho (cel_root hc) _ _ _, Rw.below_put3 hb hg _ _ _, hg⟩
theorem filE_ck {cap : Int} {L : List Trip} {m : List Int} (h : ¬ ckT cap L = 0) : filE cap L m = ckT cap L ∧ filC cap L m = 0 ∧ filL cap L m = [] := by
  have h1 : filE cap L m = ckT cap L := if_neg h
  exact ⟨h1, if_neg (by rw [h1]; exact h), if_neg (by rw [h1]; exact h)⟩
theorem filE_par {cap : Int} {L : List Trip} {m : List Int} (h : ckT cap L = 0) (h2 : ¬ parE m (L.length : Int) = 0) : filE cap L m = parE m (L.length : Int) ∧ filC cap L m = 0 ∧ filL cap L m = [] := by
  have h1 : filE cap L m = parE m (L.length : Int) := by unfold filE; rw [if_pos h, if_neg h2]
  exact ⟨h1, if_neg (by rw [h1]; exact h2), if_neg (by rw [h1]; exact h2)⟩
theorem filE_over {cap : Int} {L : List Trip} {m : List Int} (h : ckT cap L = 0) (h2 : parE m (L.length : Int) = 0) (h3 : filB (qs L) m = false) : filE cap L m = 2 ∧ filC cap L m = 0 ∧ filL cap L m = [] := by
  have h1 : filE cap L m = 2 := by unfold filE; rw [if_pos h, if_pos h2, h3]; rfl
  exact ⟨h1, if_neg (by rw [h1]; decide), if_neg (by rw [h1]; decide)⟩
theorem filE_end {cap : Int} {L : List Trip} {m : List Int} (h : ckT cap L = 0) (h2 : parE m (L.length : Int) = 0) (h3 : filB (qs L) m = true) : filE cap L m = ckT cap (ts (filV (qs L) m)) := by
  unfold filE; rw [if_pos h, if_pos h2, if_pos h3]
set_option maxHeartbeats 3200000 in
theorem tk_Fill (cap : Int) (L : List Trip) (A : Option Addr) (n c : Nat) (hn : n = L.length) (m : List Int) (M : Option Addr) (n' c' : Nat) (hn' : n' = m.length) (w : World) (ha : Rats w A L) (hb : Cl eI w M m) (hm : n ≤ 9223372036854775807) (hm2 : n' ≤ 9223372036854775807) :
    Calls Tryz.prog 21 #[.agg #[.int .i64 cap, .slice A n c], .slice M n' c'] w (TRes w (filE cap L m) (filC cap L m) (filL cap L m)) := by
  have HA := Lib.hid ha
  have HM := Lib.hid hb
  have KC := Lib.hid fun (W : World) (h : Rats W A L) => tk_Check cap L A n c hn W h hm
  have KP := Lib.hid fun (W : World) (h : Cl eI W M m) => rr_Parts m M n' c' hn' n W h hm2
  obtain ⟨E, hE⟩ : ∃ E, ckT cap L = E := ⟨_, rfl⟩
  obtain ⟨F, hF⟩ : ∃ F, parE m (L.length : Int) = F := ⟨_, rfl⟩
  have hF2 : parE m (n : Int) = F := by rw [hn]; exact hF
  rw [hE] at KC
  rw [hF2] at KP
  by_cases hz : E = 0
  rotate_left
  · obtain ⟨z1, z2⟩ := ne_zero hz
    obtain ⟨e1, e2, e3⟩ := filE_ck (cap := cap) (L := L) (m := m) (by rw [hE]; exact hz)
    rw [e1, e2, e3, hE]
    clear ha hb hn hn' hm hm2 hE hF hF2 e1 e2 e3 hz
    go_enter Tryz.func21, Tryz.ntmps21
    go_upto_region 1 with fail
    obtain ⟨w0, hw0⟩ : ∃ W, (w.alloc (.cells #[.int .i64 cap, .slice A n c] 24)).alloc (.cells #[.int .i64 0, .slice none 0 0] 24) = W := ⟨_, rfl⟩
    have C0 : Hid (Rw.Cel w0 w.heap.size [.int .i64 cap, .slice A n c]) := hw0 ▸ (Rw.Cel.new w [_, _] _).alloc _
    have R0 : Hid (Rw.Cel w0 (w.heap.size + 1) [.int .i64 0, .slice none 0 0]) := hw0 ▸ Rw.Cel.new_at _ [_, _] _ (by simp)
    have B0 : Hid (Below w.heap.size w w0) := hw0 ▸ bstep (below_alloc _ _) (below_alloc _ _)
    first | rw [hw0] | skip
    clear hw0
    obtain ⟨x0, x1⟩ := C0.out.two
    go_wp2_with fail
    refine (KC.out w0 (HA.out.on B0.out)).mono ?_
    rintro e w1 ⟨rfl, hb⟩
    have B1 := Lib.hid (bstep B0.out hb)
    have R1 := Lib.hid (R0.out.on hb)
    clear hb x0 x1
    obtain ⟨u0, u1⟩ := R1.out.two
    obtain ⟨v0, v1⟩ := R1.out.warm2
    go_wp2_with fail
    exact bodyPost_ret (res_tank2 Tryz.results21 rfl (R1.out.put2 _ _)) rfl ⟨_, rfl, InT.zero _, Rw.below_put2 B1.out (Nat.le_succ _) _ _⟩
  subst hz
  have hok := ckT_of hE
  have hc0 : ckT cap L = 0 := hE
  by_cases hz : F = 0
  rotate_left
  · obtain ⟨z1, z2⟩ := ne_zero hz
    obtain ⟨e1, e2, e3⟩ := filE_par (m := m) hc0 (by rw [hF]; exact hz)
    rw [e1, e2, e3, hF]
    clear ha hb hn hn' hm hm2 hE hF hF2 e1 e2 e3 hz hok hc0
    go_enter Tryz.func21, Tryz.ntmps21
    go_upto_region 1 with fail
    obtain ⟨w0, hw0⟩ : ∃ W, (w.alloc (.cells #[.int .i64 cap, .slice A n c] 24)).alloc (.cells #[.int .i64 0, .slice none 0 0] 24) = W := ⟨_, rfl⟩
    have C0 : Hid (Rw.Cel w0 w.heap.size [.int .i64 cap, .slice A n c]) := hw0 ▸ (Rw.Cel.new w [_, _] _).alloc _
    have R0 : Hid (Rw.Cel w0 (w.heap.size + 1) [.int .i64 0, .slice none 0 0]) := hw0 ▸ Rw.Cel.new_at _ [_, _] _ (by simp)
    have B0 : Hid (Below w.heap.size w w0) := hw0 ▸ bstep (below_alloc _ _) (below_alloc _ _)
    first | rw [hw0] | skip
    clear hw0
    obtain ⟨x0, x1⟩ := C0.out.two
    go_wp2_with fail
    refine (KC.out w0 (HA.out.on B0.out)).mono ?_
    rintro e w1 ⟨rfl, hb⟩
    have B1 := Lib.hid (bstep B0.out hb)
    have C1 := Lib.hid (C0.out.on hb)
    have R1 := Lib.hid (R0.out.on hb)
    clear hb x0 x1
    obtain ⟨x0, x1⟩ := C1.out.two
    go_wp2_with fail
    refine (KP.out w1 (HM.out.on B1.out)).mono ?_
    rintro e w2 ⟨rfl, hb⟩
    have B2 := Lib.hid (bstep B1.out hb)
    have R2 := Lib.hid (R1.out.on hb)
    clear hb x0 x1
    obtain ⟨u0, u1⟩ := R2.out.two
    obtain ⟨v0, v1⟩ := R2.out.warm2
    go_wp2_with fail
    exact bodyPost_ret (res_tank2 Tryz.results21 rfl (R2.out.put2 _ _)) rfl ⟨_, rfl, InT.zero _, Rw.below_put2 B2.out (Nat.le_succ _) _ _⟩
  subst hz
  obtain ⟨-, hn8, hml, hmz⟩ := lisE_of hF
  have hnn : n' = n := by rw [hn', hn]; omega
  subst hnn
  have HN := Lib.hid (And.intro hn hn')
  have HOK := Lib.hid hok
  have HMZ := Lib.hid hmz
  have HC0 := Lib.hid hc0
  have HF := Lib.hid hF
  have hn8' : n' ≤ 8 := by omega
  obtain ⟨G, hG⟩ : ∃ G, filE cap L m = G := ⟨_, rfl⟩
  obtain ⟨GC, hGC⟩ : ∃ G, filC cap L m = G := ⟨_, rfl⟩
  obtain ⟨GL, hGL⟩ : ∃ G, filL cap L m = G := ⟨_, rfl⟩
  rw [hG, hGC, hGL]
  have HG := Lib.hid (And.intro hG (And.intro hGC hGL))
  have HVT : Hid (∀ t ∈ L, vT t = true) := fun t ht => (HOK.out.all t ht).1
  have HQF : Hid (∀ x ∈ qIs m, fitR x = true) := fun x hx => by
    obtain ⟨z, hz, rfl⟩ := List.mem_map.mp hx
    have := HMZ.out z hz
    exact qI_fit this.1 this.2
  clear ha hb hn hn' hm hm2 hE hF hF2 hok hc0 hml hmz hn8 hG hGC hGL
  go_enter Tryz.func21, Tryz.ntmps21
  go_upto_region 1 with fail
  obtain ⟨w0, hw0⟩ : ∃ W, (w.alloc (.cells #[.int .i64 cap, .slice A n' c] 24)).alloc (.cells #[.int .i64 0, .slice none 0 0] 24) = W := ⟨_, rfl⟩
  have C0 : Hid (Rw.Cel w0 w.heap.size [.int .i64 cap, .slice A n' c]) := hw0 ▸ (Rw.Cel.new w [_, _] _).alloc _
  have R0 : Hid (Rw.Cel w0 (w.heap.size + 1) [.int .i64 0, .slice none 0 0]) := hw0 ▸ Rw.Cel.new_at _ [_, _] _ (by simp)
  have B0 : Hid (Below w.heap.size w w0) := hw0 ▸ bstep (below_alloc _ _) (below_alloc _ _)
  first | rw [hw0] | skip
  clear hw0
  obtain ⟨x0, x1⟩ := C0.out.two
  go_wp2_with fail
  refine (KC.out w0 (HA.out.on B0.out)).mono ?_
  rintro e w1 ⟨rfl, hb⟩
  have B1 := Lib.hid (bstep B0.out hb)
  have C1 := Lib.hid (C0.out.on hb)
  have R1 := Lib.hid (R0.out.on hb)
  clear hb x0 x1
  obtain ⟨x0, x1⟩ := C1.out.two
  go_wp2_with fail
  refine (KP.out w1 (HM.out.on B1.out)).mono ?_
  rintro e w2 ⟨rfl, hb⟩
  have B2 := Lib.hid (bstep B1.out hb)
  have C2 := Lib.hid (C1.out.on hb)
  have R2 := Lib.hid (R1.out.on hb)
  clear hb x0 x1
  obtain ⟨x0, x1⟩ := C2.out.two
  go_wp2_with fail
  obtain ⟨w3, hw3⟩ : ∃ W, w2.alloc (.cells #[.int .i64 cap, .slice none 0 0] 24) = W := ⟨_, rfl⟩
  obtain ⟨g, hg⟩ : ∃ g, w2.heap.size = g := ⟨_, rfl⟩
  have b3 : Below w2.heap.size w2 w3 := hw3 ▸ below_alloc _ _
  have T3 : Hid (Rw.Cel w3 g [.int .i64 cap, .slice none 0 0]) := hw3 ▸ hg ▸ Rw.Cel.new w2 [_, _] _
  have B3 := Lib.hid (bstep B2.out b3)
  have C3 := Lib.hid (C2.out.on b3)
  have R3 := Lib.hid (R2.out.on b3)
  have G3 : Hid (w.heap.size + 2 ≤ g) := Lib.hid (by have := R2.out.lt; omega)
  rw [hw3, hg]
  have S3 : Hid (g + 1 ≤ w3.heap.size) := Lib.hid T3.out.lt
  clear hw3 b3 x0 x1 hg
  go_loopw [9] (fun i wr => ∃ (k : Nat) (A' : Option Addr) (p' c' : Nat) (R : List Raw), k ≤ n' ∧ i = .int .i64 k ∧ Bld wr (g + 1) g cap A' p' c' R (ts ((filV (qs L) m).take k)) ∧ (∀ (j : Nat) (q x : Rat), j < k → (qs L)[j]? = some q → (qIs m)[j]? = some x → sumOk q x = true) ∧ Rw.Cel wr w.heap.size [.int .i64 cap, .slice A n' c] ∧ Rw.Cel wr (w.heap.size + 1) [.int .i64 0, .slice none 0 0] ∧ Below w.heap.size w wr ∧ g + 1 ≤ wr.heap.size) (fun i _ => n' - (RowKit.intOf i).toNat)
  case atStart => exact ⟨0, none, 0, 0, [], Nat.zero_le _, rfl, Bld.nil T3.out (by omega), fun j q x h => absurd h (by omega), C3.out, R3.out, B3.out, S3.out⟩
  case round =>
    obtain ⟨k, A', p', c', R, hk, rfl, hbld, hv, hbox, hres, hbel, hsz⟩ := hrel
    have HQ := Lib.hid hbld
    have HV := Lib.hid hv
    have HC := Lib.hid hbox
    have HZ := Lib.hid hres
    have HB := Lib.hid hbel
    have HS := Lib.hid hsz
    clear hbld hv hbox hres hbel hsz
    rcases Nat.lt_or_ge k n' with hlt | hge
    · obtain ⟨t, ht⟩ := get_lt (L := L) (k := k) (by have := HN.out.1; omega)
      obtain ⟨z, hz⟩ := get_lt (L := m) (k := k) (by have := HN.out.2; omega)
      obtain ⟨b1, o1, hM0, hb1, y0⟩ := cl_at (HM.out.on HB.out) hz
      subst hM0
      have hzl := HMZ.out z (List.mem_of_getElem? hz)
      have hMM : MM = 1099511627776 := rfl
      have i1 : (k : Int) < (n' : Int) := by omega
      have i2 : (0 : Int) ≤ (k : Int) := by omega
      have KO := Lib.hid fun W => x_Of z (by omega) (by omega) W
      have HT := Lib.hid (And.intro ht hz)
      have FZ := Lib.hid (qI_fit hzl.1 hzl.2)
      have VT := Lib.hid (HVT.out t (List.mem_of_getElem? ht))
      have FQ := Lib.hid (trip_form VT.out).1
      have KA := Lib.hid fun v u W h k => x_Add (rT t) (qI z) FQ.out FZ.out v u W h k
      obtain ⟨p, hp⟩ : ∃ p, sumOk (rT t) (qI z) = p := ⟨_, rfl⟩
      rw [hp] at KA
      have HP := Lib.hid hp
      clear ht hz hzl hMM hp
      go_wp2_with fail
      refine (KO.out wr).mono ?_
      rintro e w4 h
      obtain ⟨b4, A4, n4, c4, B4, m4, d4, rfl, ho, hb4⟩ := h.open_
      have B4' := Lib.hid hb4
      have P4 := Lib.hid (ho.zero rfl)
      clear h ho hb4 y0
      go_upto_region 12 with fail
      obtain ⟨w5, hw5⟩ : ∃ W, w4.alloc (.cells #[.bool b4, .slice A4 n4 c4, .slice B4 m4 d4] 33) = W := ⟨_, rfl⟩
      have b5 : Below w4.heap.size w4 w5 := hw5 ▸ below_alloc _ _
      have E5 : Hid (Rw.Cel w5 w4.heap.size [.bool b4, .slice A4 n4 c4, .slice B4 m4 d4]) := hw5 ▸ Rw.Cel.new w4 [_, _, _] _
      have B5 := Lib.hid (bstep B4'.out b5)
      have P5 := Lib.hid (P4.out.on b5)
      rw [hw5]
      clear hw5 b5
      have A5 := Lib.hid (HA.out.on (bstep HB.out B5.out))
      obtain ⟨b2, o2, A6, c6, A7, c7, hA0, hb2, y0, y1, y2, hin⟩ := Rats.at_ A5.out HT.out.1
      subst hA0
      have HAR : Hid (∀ W, Below w5.heap.size w5 W → IsR W (.agg #[.bool t.1, .slice A6 t.2.1.length c6, .slice A7 t.2.2.length c7]) (rT t) ∧ IsR W (.agg #[.bool b4, .slice A4 n4 c4, .slice B4 m4 d4]) (qI z)) := fun W h => ⟨(trip_isR VT.out hin).on h, P5.out.on h⟩
      have HCE : Hid (∀ W, Below w5.heap.size w5 W → (W.cell? ⟨w.heap.size, 0, none⟩ = some (.int .i64 cap) ∧ W.cell? ⟨w.heap.size, 1, none⟩ = some (.slice (some ⟨b2, o2, none⟩) n' c)) ∧ (W.cell? ⟨w4.heap.size, 0, none⟩ = some (.bool b4) ∧ W.cell? ⟨w4.heap.size, 1, none⟩ = some (.slice A4 n4 c4) ∧ W.cell? ⟨w4.heap.size, 2, none⟩ = some (.slice B4 m4 d4)) ∧ (W.cell? ⟨b2, o2 + k * 3, none⟩ = some (.bool t.1) ∧ W.cell? ⟨b2, o2 + k * 3 + 1, none⟩ = some (.slice A6 t.2.1.length c6) ∧ W.cell? ⟨b2, o2 + k * 3 + 2, none⟩ = some (.slice A7 t.2.2.length c7))) := fun W h =>
        ⟨((HC.out.on B5.out).on h).two, (E5.out.on h).three, (h.cell (p := ⟨b2, o2 + k * 3, none⟩) hb2).trans y0, (h.cell (p := ⟨b2, o2 + k * 3 + 1, none⟩) hb2).trans y1, (h.cell (p := ⟨b2, o2 + k * 3 + 2, none⟩) hb2).trans y2⟩
      clear hin y0 y1 y2
      obtain ⟨⟨x0, x1⟩, ⟨y0, y1, y2⟩, z0, z1, z2⟩ := HCE.out _ (Below.refl _ _)
      have l5 := E5.out.lt
      have l6 := (HC.out.on B5.out).lt
      go_cut [12, 13] from 47 to 56 (fun x y wz => Boxed w5 (okE p) (rT t + qI z) x y wz)
      case first =>
        go_region_held3 (fun W => (W.cell? ⟨w.heap.size, 0, none⟩ = some (.int .i64 cap) ∧ W.cell? ⟨w.heap.size, 1, none⟩ = some (.slice (some ⟨b2, o2, none⟩) n' c)) ∧ (W.cell? ⟨w4.heap.size, 0, none⟩ = some (.bool b4) ∧ W.cell? ⟨w4.heap.size, 1, none⟩ = some (.slice A4 n4 c4) ∧ W.cell? ⟨w4.heap.size, 2, none⟩ = some (.slice B4 m4 d4)) ∧ (W.cell? ⟨b2, o2 + k * 3, none⟩ = some (.bool t.1) ∧ W.cell? ⟨b2, o2 + k * 3 + 1, none⟩ = some (.slice A6 t.2.1.length c6) ∧ W.cell? ⟨b2, o2 + k * 3 + 2, none⟩ = some (.slice A7 t.2.2.length c7)))
          (first | exact HCE.out _ (Below.refl _ _) | exact HCE.out _ (drew_below _) | exact HCE.out _ (below_drew (below_alloc _ _)) | exact HCE.out _ (bstep (drew_below _) hb6) | exact HCE.out _ (bstep (below_drew (below_alloc _ _)) hb6) | exact HCE.out _ (bstep (bstep (drew_below _) hb6) (below_alloc _ _)) | exact HCE.out _ (Rw.below_put3 (bstep (below_drew (below_alloc _ _)) hb6) (Nat.le_refl _) _ _ _))
          ((go_at_call 31; (refine (KA.out _ _ _ ?_ ?_).mono ?_); (first | exact (HAR.out _ (drew_below _)).1 | exact (HAR.out _ (below_drew (below_alloc _ _))).1); (first | exact (HAR.out _ (drew_below _)).2 | exact (HAR.out _ (below_drew (below_alloc _ _))).2); rintro e w6 h6; obtain ⟨b6, A8, n8, c8, B8, m8, d8, rfl, ho6, hb6⟩ := h6.open_; have HO6 := Lib.hid ho6; clear h6 ho6; (first | (have hz6 := Lib.hid (after_zero hb6); obtain ⟨s0, s1, s2⟩ := hz6.out.three; obtain ⟨v0, v1, v2⟩ := hz6.out.warm3) | skip)))
        all_goals
          have hbw := cl_below (w := w5) (by first | exact Or.inl hb6 | exact Or.inr hb6)
          go_wp2_with fail
          go_meet
          case rel => first
            | exact Boxed.new HO6.out hbw
            | exact Boxed.put HO6.out hbw hz6.out (Nat.le_refl _)
      case rest =>
        obtain ⟨gx, b7, A9, n9, c9, B9, m9, d9, rfl, rfl, hc7, ho7, hb7, -⟩ := hcut
        have BT := Lib.hid (bstep B5.out hb7)
        have B7 := Lib.hid (bstep HB.out BT.out)
        have Q7 := Lib.hid (HQ.out.on BT.out)
        have C7 := Lib.hid (HC.out.on BT.out)
        have Z7 := Lib.hid (HZ.out.on BT.out)
        have X7 := Lib.hid hc7
        have O7 := Lib.hid ho7
        have S7 := Lib.hid (Nat.le_trans HS.out BT.out.size)
        clear hc7 ho7 hb7 x0 x1 y0 y1 y2 z0 z1 z2 l5 l6
        obtain ⟨wy, rfl⟩ : ∃ W, W = wc := ⟨wc, rfl⟩
        cases p with
        | false =>
          obtain ⟨e1, e2, e3⟩ := filE_over HC0.out HF.out (poB_bad (qs_at HT.out.1) (qIs_at HT.out.2) HP.out)
          obtain rfl : G = 2 := by rw [← HG.out.1]; exact e1
          obtain rfl : GC = 0 := by rw [← HG.out.2.1]; exact e2
          obtain rfl : GL = [] := by rw [← HG.out.2.2]; exact e3
          clear e1 e2 e3
          have zz : okE false = 2 := rfl
          rw [zz]
          obtain ⟨u0, u1⟩ := Z7.out.two
          obtain ⟨v0, v1⟩ := Z7.out.warm2
          go_wp2_with fail
          exact bodyPost_ret (res_tank2 Tryz.results21 rfl (Z7.out.put2 _ _)) rfl ⟨_, rfl, InT.zero _, Rw.below_put2 B7.out (Nat.le_succ _) _ _⟩
        | true =>
          have zz : okE true = 0 := rfl
          rw [zz]
          obtain ⟨en, ip, iq⟩ := IsR.cells (O7.out.zero rfl)
          have I7 := Lib.hid (And.intro en (And.intro ip iq))
          clear en ip iq
          have HTn : Hid (ts ((filV (qs L) m).take (k + 1)) = ts ((filV (qs L) m).take k) ++ [triR (rT t + qI z)]) := Lib.hid (ts_take_succ (poV_at (qs_at HT.out.1) (qIs_at HT.out.2)))
          have HSl : Hid (R.length + 1 ≤ 1000000) := Lib.hid (by have h1 := Q7.out.ins.1; rw [ts_len] at h1; have := List.length_take_le k (filV (qs L) m); omega)
          have HGA : Hid (g + 1 ≤ (wy.alloc (.cells #[.bool b7, .slice A9 n9 c9, .slice B9 m9 d9] 33)).heap.size) := Nat.le_trans S7.out (below_alloc _ _).size
          have QA := Lib.hid (Q7.out.on (below_alloc wy (.cells #[.bool b7, .slice A9 n9 c9, .slice B9 m9 d9] 33)))
          have BA := Lib.hid (bstep B7.out (below_alloc wy (.cells #[.bool b7, .slice A9 n9 c9, .slice B9 m9 d9] 33)))
          obtain ⟨x0, x1⟩ := Q7.out.cel.two
          obtain ⟨y0, y1, y2⟩ := X7.out.three
          go_wp2_with (at_builtin; refine append_rowsF kdR cR_noI zR_noI rfl (.tmp 62) (.tmp 64) rfl (.slice A' p' c') R rfl QA.out.row QA.out.noi (some ⟨wy.heap.size, 0, none⟩) 1 1 [(b7, (A9, n9, c9), (B9, m9, d9))] rfl (by decide) rfl (rd_one cR_len (heap_alloc_new _ _)) HSl.out HGA.out ?_; intro A8 n8 c8 w8 hn8 hr8 ho8 hg8; have HN8 := Lib.hid hn8; have HR8 := Lib.hid hr8; have HO8 := Lib.hid ho8; have HG8 := Lib.hid hg8; clear hn8 hr8 ho8 hg8; refine Hid.out ?_)
          have C8 := Lib.hid (QA.out.cel.grown HG8.out fun e => by have := (QA.out.row.lt _ e).1; omega)
          have Q8 := Lib.hid (Bld.push (t := triR (rT t + qI z)) QA.out HN8.out HR8.out HO8.out HG8.out I7.out.1 (I7.out.2.1.on (below_alloc _ _)) (I7.out.2.2.on (below_alloc _ _)))
          have B8 := Lib.hid (Bld.below QA.out BA.out HG8.out HGA.out (Nat.le_trans (Nat.le_add_right _ 2) G3.out) (.slice A8 n8 c8))
          have CC8 := Lib.hid (Bld.far QA.out (C7.out.on (below_alloc _ _)) HG8.out (by have := G3.out; omega) (by have := G3.out; omega) (.slice A8 n8 c8))
          have Z8 := Lib.hid (Bld.far QA.out (Z7.out.on (below_alloc _ _)) HG8.out (by have := G3.out; omega) (by have := G3.out; omega) (.slice A8 n8 c8))
          have S8 : Hid (g + 1 ≤ (w8.setCell ⟨g, 1, none⟩ (.slice A8 n8 c8)).heap.size) := Lib.hid (by have := HGA.out; have := HG8.out.size; simp only [World.size_setCell]; omega)
          have V8 : Hid (∀ (j : Nat) (q x : Rat), j < k + 1 → (qs L)[j]? = some q → (qIs m)[j]? = some x → sumOk q x = true) := Lib.hid (by
            intro j q x hj hq hx
            rcases Nat.lt_or_eq_of_le (Nat.le_of_lt_succ hj) with h | h
            · exact HV.out j q x h hq hx
            · subst h
              rw [qs_at HT.out.1] at hq; rw [qIs_at HT.out.2] at hx; cases hq; cases hx; exact HP.out)
          rw [← HTn.out] at Q8
          clear x0 x1 y0 y1 y2
          obtain ⟨x0, x1⟩ := C8.out.two
          obtain ⟨f0, f1⟩ := C8.out.warm2
          refine Lib.hid ?_
          go_wp2_with fail
          go_roundw
          case rel => exact ⟨k + 1, A8, n8, c8, _, by omega, by go_num, Q8.out, V8.out, CC8.out, Z8.out, B8.out, S8.out⟩
          case measure => simp [RowKit.intOf]; omega
    · obtain rfl : k = n' := by omega
      have hB : filB (qs L) m = true := poB_ok fun j q x hq hx => HV.out j q x (by have := glt hq; rw [qs_len] at this; have := HN.out.1; omega) hq hx
      have hlen : (filV (qs L) m).length = k := by unfold filV; rw [poV_len (by rw [qs_len, qIs_len, ← HN.out.1, ← HN.out.2]), qs_len, ← HN.out.1]
      have Q9 : Hid (Bld wr (g + 1) g cap A' p' c' R (ts (filV (qs L) m))) := Lib.hid (by have := HQ.out; rw [List.take_of_length_le (by omega)] at this; exact this)
      have hT : (ts (filV (qs L) m)).length = k := by rw [ts_len]; exact hlen
      have VT9 : Hid (∀ t ∈ ts (filV (qs L) m), vT t = true) := ts_valid (poV_fit (qs_fit HVT.out) HQF.out hB)
      have he := filE_end (m := m) HC0.out HF.out hB
      have HE := Lib.hid he
      obtain ⟨T, hTT⟩ : ∃ T, ts (filV (qs L) m) = T := ⟨_, rfl⟩
      have HL2 : Hid (filL cap L m = if filE cap L m = 0 then T else []) := Lib.hid (by rw [← hTT]; rfl)
      rw [hTT] at Q9 hT VT9 HE
      have hlT : T.length ≤ 9223372036854775807 := by omega
      have HLT := Lib.hid hlT
      obtain ⟨-, hr9, hp9⟩ := Q9.out.tank hlT
      have R9 := Lib.hid hr9
      have K9 := Lib.hid fun (W : World) (h : Rats W A' T) => tk_Check cap T A' p' c' hp9 W h (by omega)
      obtain ⟨E2, hE2⟩ : ∃ E, ckT cap T = E := ⟨_, rfl⟩
      rw [hE2] at K9 HE
      have hGE : G = E2 := by rw [← HG.out.1]; exact HE.out
      subst hGE
      clear hB hlen hT he hTT hlT hr9 hp9 hE2 HV
      obtain ⟨x0, x1⟩ := Q9.out.cel.two
      by_cases hz : G = 0
      · subst hz
        obtain rfl : T = GL := by rw [← HG.out.2.2, HL2.out, HG.out.1]; rfl
        obtain rfl : cap = GC := by rw [← HG.out.2.1]; exact (if_pos HG.out.1).symm
        go_wp2_with fail
        refine (K9.out wr R9.out).mono ?_
        rintro e w9 ⟨rfl, hb⟩
        have BF := Lib.hid (bstep HB.out hb)
        have QF := Lib.hid (Q9.out.on hb)
        have ZF := Lib.hid (HZ.out.on hb)
        clear hb x0 x1
        obtain ⟨x0, x1⟩ := QF.out.cel.two
        obtain ⟨u0, u1⟩ := ZF.out.two
        obtain ⟨v0, v1⟩ := ZF.out.warm2
        go_wp2_with fail
        exact bodyPost_ret (res_tank2 Tryz.results21 rfl (ZF.out.put2 _ _)) rfl ⟨_, rfl, QF.out.done VT9.out ZF.out (by have := G3.out; omega) HLT.out, Rw.below_put2 BF.out (Nat.le_succ _) _ _⟩
      · obtain ⟨z1, z2⟩ := ne_zero hz
        obtain rfl : GL = [] := by rw [← HG.out.2.2, HL2.out, HG.out.1, if_neg hz]
        obtain rfl : GC = 0 := by rw [← HG.out.2.1]; unfold filC; rw [HG.out.1, if_neg hz]
        clear hz
        go_wp2_with fail
        refine (K9.out wr R9.out).mono ?_
        rintro e w9 ⟨rfl, hb⟩
        have BF := Lib.hid (bstep HB.out hb)
        have ZF := Lib.hid (HZ.out.on hb)
        clear hb x0 x1
        obtain ⟨u0, u1⟩ := ZF.out.two
        obtain ⟨v0, v1⟩ := ZF.out.warm2
        go_wp2_with fail
        exact bodyPost_ret (res_tank2 Tryz.results21 rfl (ZF.out.put2 _ _)) rfl ⟨_, rfl, InT.zero _, Rw.below_put2 BF.out (Nat.le_succ _) _ _⟩
end Go.Proofs.YtgmlccjjhmhgbaaGreat.Tank
/- The program of the stage: contracts of rat at valid numbers, the level against a mass, first errors; what a function that is handed on must keep. -/
namespace Go.Proofs.YtgmlccjjhmhgbaaGreat.Tank
open Go.ChangeShapes Go.WideShapes Go.RowKit Go.Lib
open Go.Proofs.YtgmlccjjhmhgbaaGreat.Rw (Rd Row Kd glt get_lt flat_len flat_at own_set below_alloc bstep wrap_id below_drewN below_drew drew_below take_snoc_of)
set_option linter.unusedVariables false
set_option maxRecDepth 100000

/-! ### rat at valid numbers -/
theorem yq_Add (r s : Rat) (hr : fitR r = true) (hs : fitR s = true) (v u : Value) (w : World) (hv : IsR w v r) (hu : IsR w u s) :
    Calls Tryz.prog 75 #[v, u] w (RRes w (okE (sumOk r s)) (r + s)) := by
  have h := rat_Add (negR r) (topL r) (botL r) (negR s) (topL s) (botL s) v u w hv hu
  rw [(op_form (ok := sumOk) (f := addOp) hr hs).1, (op_form (ok := sumOk) (f := addOp) hr hs).2] at h
  exact h
theorem yq_Sub (r s : Rat) (hr : fitR r = true) (hs : fitR s = true) (v u : Value) (w : World) (hv : IsR w v r) (hu : IsR w u s) :
    Calls Tryz.prog 55 #[v, u] w (RRes w (okE (subOk r s)) (subOp r s)) := by
  have h := rat_Sub (negR r) (topL r) (botL r) (negR s) (topL s) (botL s) v u w hv hu
  rw [(op_form (ok := subOk) (f := subOp) hr hs).1, (op_form (ok := subOk) (f := subOp) hr hs).2] at h
  exact h
theorem yq_Mul (r s : Rat) (hr : fitR r = true) (hs : fitR s = true) (v u : Value) (w : World) (hv : IsR w v r) (hu : IsR w u s) :
    Calls Tryz.prog 78 #[v, u] w (RRes w (okE (mulOk r s)) (r * s)) := by
  have h := rat_Mul (negR r) (topL r) (botL r) (negR s) (topL s) (botL s) v u w hv hu
  rw [(op_form (ok := mulOk) (f := mulOp) hr hs).1, (op_form (ok := mulOk) (f := mulOp) hr hs).2] at h
  exact h
theorem yq_Div (r s : Rat) (hr : fitR r = true) (hs : fitR s = true) (v u : Value) (w : World) (hv : IsR w v r) (hu : IsR w u s) :
    Calls Tryz.prog 58 #[v, u] w (RRes w (divEr r s) (divOp r s)) := by
  have h := rat_Div (negR r) (topL r) (botL r) (negR s) (topL s) (botL s) v u w hv hu
  rw [(opG_form (er := divEr) (f := divOp) hr hs).1, (opG_form (er := divEr) (f := divOp) hr hs).2] at h
  exact h
theorem yq_Cmp (r s : Rat) (hr : fitR r = true) (hs : fitR s = true) (v u : Value) (w : World) (hv : IsR w v r) (hu : IsR w u s) :
    Calls Tryz.prog 43 #[v, u] w fun e w' => e = .returned (.tuple #[.int .i64 (cmpG r s), .int .i64 (okE (crossOk r s))]) ∧ Below w.heap.size w w' := by
  have h := rat_Cmp (negR r) (topL r) (botL r) (negR s) (topL s) (botL s) v u w hv hu
  rw [cmpW_form hr hs, (op_form (ok := crossOk) (f := addOp) hr hs).1] at h
  exact h
theorem yq_Of (n : Int) (h : 0 ≤ n) (h2 : n ≤ 1099511627776) (w : World) : Calls Tryz.prog 39 #[.int .i64 n] w (RRes w 0 (qI n)) := by
  have := rat_Of n w (by omega) (by omega)
  rw [qI_ok h h2] at this
  exact this
theorem rQ_le {r : Rat} {m : Int} (h0 : 0 ≤ r) (m0 : 0 ≤ m) (h1 : r ≤ qI m) : (rQ r : Int) ≤ m := by
  rw [Rat.le_iff, (qI_num m).1, (qI_num m).2] at h1
  have hn : 0 ≤ r.num := Rat.num_nonneg.mpr h0
  obtain ⟨M, rfl⟩ : ∃ M : Nat, m = M := ⟨m.toNat, by omega⟩
  obtain ⟨K, hK⟩ : ∃ K : Nat, r.num = K := ⟨r.num.toNat, by omega⟩
  rw [hK] at h1
  unfold rQ
  rw [hK]
  have h2 : K ≤ r.den * M := by
    have h3 : ((K * 1 : Nat) : Int) ≤ ((M * r.den : Nat) : Int) := by rw [Int.natCast_mul, Int.natCast_mul]; exact h1
    have h4 := Int.ofNat_le.mp h3
    rw [Nat.mul_comm r.den M]; omega
  have h5 : K / r.den ≤ M := Nat.div_le_of_le_mul h2
  show ((K / r.den : Nat) : Int) ≤ (M : Int)
  omega
theorem rQ_lt_iff {r : Rat} {m : Int} (h0 : 0 ≤ r) (m0 : 0 ≤ m) : (rQ r : Int) < m ↔ r < qI m := by
  rw [Rat.lt_iff, (qI_num m).1, (qI_num m).2]
  have hn : 0 ≤ r.num := Rat.num_nonneg.mpr h0
  obtain ⟨M, rfl⟩ : ∃ M : Nat, m = M := ⟨m.toNat, by omega⟩
  obtain ⟨K, hK⟩ : ∃ K : Nat, r.num = K := ⟨r.num.toNat, by omega⟩
  unfold rQ
  rw [hK]
  have h1 := Nat.div_lt_iff_lt_mul (x := K) (y := M) (den_pos' r)
  have h2 : ((K : Int) * ((1 : Nat) : Int) < (M : Int) * (r.den : Int)) ↔ K < M * r.den := by
    rw [← Int.natCast_mul, ← Int.natCast_mul, Nat.mul_one]; exact Int.ofNat_lt
  rw [h2, ← h1]
  show ((K / r.den : Nat) : Int) < (M : Int) ↔ _
  omega
/-- The greatest integer that is not above. -/
theorem yq_Floor (r : Rat) (hr : fitR r = true) (h0 : 0 ≤ r) (h1 : r ≤ qI MM) (v : Value) (w : World) (hv : IsR w v r) :
    Calls Tryz.prog 52 #[v] w fun e w' => e = .returned (.tuple #[.int .i64 (rQ r : Int), .int .i64 0]) ∧ Below w.heap.size w w' := by
  have h := rat_Floor (negR r) (topL r) (botL r) v w hv
  have hn : negR r = false := neg_iff.mpr h0
  have hM : MM = 1099511627776 := rfl
  have hq := rQ_le h0 (by omega) h1
  have hq2 : rmag r false = rQ r := rmag_down r
  have hq3 : rQ r ≤ 1125899906842624 := by omega
  obtain ⟨e1, e2⟩ := rnd_ok hq2 hq3
  have f1 : floorV (negR r) (topL r) (botL r) = (rQ r : Int) := by
    unfold floorV
    rw [rW_form hr, hn, e1, hn]; rfl
  have f2 : floorE (negR r) (topL r) (botL r) = 0 := by
    unfold floorE
    rw [rE_form hr, hn, e2]
  rw [f1, f2] at h
  exact h
/-! ### The level against a mass -/
theorem cross_le {cap : Int} {L : List Trip} {mass : Int} (h : TOk cap L) (m0 : 0 ≤ mass) (mc : mass ≤ cap) : crossOk (qI mass) (sumV L) = true := by
  have h1 := h.cross
  unfold crossOk at h1 ⊢
  rw [Bool.and_eq_true, decide_eq_true_iff, decide_eq_true_iff, (qI_num _).1, (qI_num _).2] at h1
  rw [Bool.and_eq_true, decide_eq_true_iff, decide_eq_true_iff, (qI_num _).1, (qI_num _).2]
  exact ⟨Nat.lt_of_le_of_lt (Nat.mul_le_mul_right _ (by omega)) h1.2, h1.1⟩
theorem TOk.pos {cap : Int} {L : List Trip} (h : TOk cap L) : 0 ≤ sumV L ∧ sumV L ≤ qI MM ∧ fitR (sumV L) = true := by
  obtain ⟨h1, h2, h3⟩ := h.level
  refine ⟨by rw [h1]; exact sumR_nonneg fun q hq => (h3 q hq).2, Rat.le_trans h2 (qI_le h.c1), sumE_fit h.sum⟩
theorem stock_iff {cap : Int} {L : List Trip} {mass : Int} (h : TOk cap L) (m0 : 0 ≤ mass) : (rQ (sumV L) : Int) < mass ↔ (cap < mass ∨ 0 < cmpG (qI mass) (sumV L)) := by
  rw [rQ_lt_iff h.pos.1 m0]
  constructor
  · intro k
    rcases Int.lt_or_le cap mass with hc | hc
    · exact Or.inl hc
    · exact Or.inr ((cmpG_pos (cross_le h m0 hc)).mpr k)
  · intro k
    rcases Int.lt_or_le cap mass with hc | hc
    · refine Rat.not_le.mp fun k2 => ?_
      have k3 := Rat.le_trans k2 h.level.2.1
      rw [qI_val, qI_val] at k3
      have := Rat.intCast_le_intCast.mp k3
      omega
    · rcases k with k | k
      · omega
      · exact (cmpG_pos (cross_le h m0 hc)).mp k
/-! ### Nothing is taken -/
theorem sub_zero_ok {p : Rat} (h : fitR p = true) : subOk p 0 = true ∧ subOp p 0 = p := by
  have hn : -(0 : Rat) = 0 := by decide +kernel
  obtain ⟨h1, h2⟩ := fitR_iff.mp h
  unfold subOk subOp
  rw [hn, Rat.add_zero]
  refine ⟨?_, rfl⟩
  have e1 : (0 : Rat).num = 0 := rfl
  have e2 : (0 : Rat).den = 1 := rfl
  unfold sumOk
  rw [e1, e2, Nat.mul_one, Nat.mul_one, Int.natAbs_zero, Nat.zero_mul, Nat.add_zero, decide_eq_true h1, decide_eq_true h2, decide_eq_true big48_pos, Bool.or_true]; rfl
/-! ### First errors -/
def fE (er : Nat → Int) : Nat → Int
  | 0 => 0
  | n + 1 => if fE er n = 0 then er n else fE er n
theorem fE_ok {er : Nat → Int} : ∀ {n : Nat}, (∀ j, j < n → er j = 0) → fE er n = 0
  | 0, _ => rfl
  | n + 1, h => by rw [fE, if_pos (fE_ok fun j hj => h j (by omega))]; exact h n (by omega)
theorem fE_bad {er : Nat → Int} {k : Nat} (hb : ¬ er k = 0) (ha : ∀ j, j < k → er j = 0) : ∀ {n : Nat}, k < n → fE er n = er k
  | 0, h => by omega
  | n + 1, h => by
    rcases Nat.lt_or_eq_of_le (Nat.le_of_lt_succ h) with h1 | h1
    · rw [fE, fE_bad hb ha h1, if_neg hb]
    · subst h1
      rw [fE, if_pos (fE_ok ha)]
theorem fE_spec (er : Nat → Int) : ∀ n : Nat, (fE er n = 0 ∧ ∀ j, j < n → er j = 0) ∨ ∃ k, k < n ∧ ¬ er k = 0 ∧ fE er n = er k ∧ ∀ j, j < k → er j = 0
  | 0 => Or.inl ⟨rfl, fun j h => by omega⟩
  | n + 1 => by
    rcases fE_spec er n with ⟨h1, h2⟩ | ⟨k, h1, h2, h3, h4⟩
    · by_cases h : er n = 0
      · refine Or.inl ⟨by rw [fE, if_pos h1]; exact h, fun j hj => ?_⟩
        rcases Nat.lt_or_eq_of_le (Nat.le_of_lt_succ hj) with h5 | h5
        · exact h2 j h5
        · subst h5; exact h
      · exact Or.inr ⟨n, by omega, h, by rw [fE, if_pos h1], h2⟩
    · exact Or.inr ⟨k, by omega, h2, by rw [fE, h3, if_neg h2], h4⟩
/-! ### Numbers that stay what they are -/
def zT : Trip := (false, [], [])
/-- A number, or the zero value. -/
def vZ (t : Trip) : Prop := vT t = true ∨ t = zT
/-- Numbers that lie in the memory are as they were. -/
def Kep (w w' : World) : Prop := ∀ (t : Trip) (v : Value), vZ t → InR w v t.1 t.2.1 t.2.2 → InR w' v t.1 t.2.1 t.2.2
theorem Kep.refl (w : World) : Kep w w := fun _ _ _ h => h
theorem Kep.trans {a b c : World} (h : Kep a b) (k : Kep b c) : Kep a c := fun t v hz hi => k t v hz (h t v hz hi)
theorem Kep.of {w w' : World} (h : Below w.heap.size w w') : Kep w w' := fun t v _ hi => hi.on h
theorem Kep.isR {w w' : World} {v : Value} {r : Rat} (h : Kep w w') (hr : fitR r = true) (hi : IsR w v r) : IsR w' v r := h (triR r) v (Or.inl (vT_tri hr)) hi
theorem Kep.set {w : World} {p : Addr} {u : Value} (hx : w.cell? p = some u) (hu : ∀ z, u ≠ .int .i64 z) (x : Value) : Kep w (w.setCell p x) := fun t v _ hi => by
  obtain ⟨vp, vq, e, h1, h2⟩ := hi
  exact ⟨vp, vq, e, h1.set hx hu x, h2.set hx hu x⟩
theorem in_nil_any {w w' : World} {v : Value} (h : In w v []) : In w' v [] := by
  obtain ⟨A, c, e, h1, h2, h3⟩ := h
  exact ⟨A, c, e, h1, h2, fun k z hz => by simp at hz⟩
theorem Kep.tank {w : World} {g : Nat} {A : Option Addr} {n c : Nat} (hc : Rw.Cel w g [.int .i64 0, .slice A n c]) (x y : Value) : Kep w ((w.setCell ⟨g, 0, none⟩ x).setCell ⟨g, 1, none⟩ y) := fun t v hz hi => by
  obtain ⟨vp, vq, e, h1, h2⟩ := hi
  rcases hz with hz | rfl
  · obtain ⟨v1, v2⟩ := vT_valid hz
    exact ⟨vp, vq, e, In.tank h1 v1 hc x y, In.tank h2 v2 hc x y⟩
  · exact ⟨vp, vq, e, in_nil_any h1, in_nil_any h2⟩
theorem inR_cells {w : World} {b b' : Bool} {s1 s2 : Value} {xs ys : List Int} (h : InR w (.agg #[.bool b, s1, s2]) b' xs ys) : b = b' ∧ In w s1 xs ∧ In w s2 ys := by
  obtain ⟨vp, vq, e, h1, h2⟩ := h
  simp only [Value.agg.injEq, Array.mk.injEq, List.cons.injEq, Value.bool.injEq, and_true] at e
  obtain ⟨e1, e2, e3⟩ := e
  subst e1; subst e2; subst e3
  exact ⟨rfl, h1, h2⟩
theorem Kep.two {w w' : World} (h : Kep w w') {t : Trip} (hz : vZ t) {s1 s2 : Value} (h1 : In w s1 t.2.1) (h2 : In w s2 t.2.2) : In w' s1 t.2.1 ∧ In w' s2 t.2.2 :=
  (inR_cells (h t (.agg #[.bool t.1, s1, s2]) hz ⟨_, _, rfl, h1, h2⟩)).2
theorem Ins.kep {w w' : World} {R : List Raw} {L : List Trip} (h : Ins w R L) (hk : Kep w w') (hz : ∀ t ∈ L, vZ t) : Ins w' R L :=
  ⟨h.1, fun k r t hr ht => by
    obtain ⟨h1, h2, h3⟩ := h.2 k r t hr ht
    obtain ⟨h4, h5⟩ := hk.two (hz t (List.mem_of_getElem? ht)) h2 h3
    exact ⟨h1, h4, h5⟩⟩
/-- A slice of numbers, its cells below B. -/
theorem Rats.kep {w w' : World} {A : Option Addr} {L : List Trip} {B : Nat} (h : Rats w A L) (hA : ∀ b off, A = some ⟨b, off, none⟩ → b < B) (hz : ∀ t ∈ L, vZ t) (hb : Below B w w') (hk : Kep w w') : Rats w' A L := by
  intro k t ht
  obtain ⟨b, off, A1, c1, A2, c2, e, hlt, ⟨c0, c1', c2'⟩, i1, i2⟩ := h k t ht
  obtain ⟨j1, j2⟩ := hk.two (hz t (List.mem_of_getElem? ht)) i1 i2
  have hB := hb.block b (hA b off e)
  have hc : ∀ i, w'.cell? ⟨b, i, none⟩ = w.cell? ⟨b, i, none⟩ := fun i => World.cell?_of_block (a := ⟨b, i, none⟩) hB
  exact ⟨b, off, A1, c1, A2, c2, e, Nat.lt_of_lt_of_le hlt hb.size, ⟨(hc _).trans c0, (hc _).trans c1', (hc _).trans c2'⟩, j1, j2⟩
theorem Rats.lt {w : World} {A : Option Addr} {L : List Trip} (h : Rats w A L) (h0 : 0 < L.length) : ∀ b off, A = some ⟨b, off, none⟩ → b < w.heap.size := fun b off e => by
  obtain ⟨t, ht⟩ := get_lt h0
  obtain ⟨b', off', A1, c1, A2, c2, e', hlt, -⟩ := h 0 t ht
  rw [e] at e'; cases e'; exact hlt
/-- A row of numbers cannot lie in the box of an empty tank. -/
theorem Rats.tank {w : World} {A : Option Addr} {L : List Trip} (h : Rats w A L) (hz : ∀ t ∈ L, vZ t) {g : Nat} {A0 : Option Addr} {n c : Nat} (hc : Rw.Cel w g [.int .i64 0, .slice A0 n c]) (x y : Value) : Rats ((w.setCell ⟨g, 0, none⟩ x).setCell ⟨g, 1, none⟩ y) A L := by
  intro k t ht
  obtain ⟨b, off, A1, c1, A2, c2, e, hlt, ⟨c0, c1', c2'⟩, i1, i2⟩ := h k t ht
  obtain ⟨j1, j2⟩ := (Kep.tank hc x y).two (hz t (List.mem_of_getElem? ht)) i1 i2
  obtain ⟨d0, d1⟩ := hc.two
  have hne : b = g → 2 ≤ off + k * 3 := fun hb => by
    subst hb
    rcases Nat.lt_or_ge (off + k * 3) 2 with hl | hl
    · have : off + k * 3 = 0 ∨ off + k * 3 = 1 := by omega
      rcases this with h0 | h0
      · rw [h0, d0] at c0; cases c0
      · rw [h0, d1] at c0; cases c0
    · exact hl
  have hcl : ∀ i, off + k * 3 ≤ i → ((w.setCell ⟨g, 0, none⟩ x).setCell ⟨g, 1, none⟩ y).cell? ⟨b, i, none⟩ = w.cell? ⟨b, i, none⟩ := fun i hi => by
    rw [World.cell?_setCell_other _ ⟨g, 1, none⟩ ⟨b, i, none⟩ y (fun e => by cases e; have := hne rfl; omega), World.cell?_setCell_other _ ⟨g, 0, none⟩ ⟨b, i, none⟩ x (fun e => by cases e; have := hne rfl; omega)]
  exact ⟨b, off, A1, c1, A2, c2, e, by simpa using hlt, ⟨(hcl _ (Nat.le_refl _)).trans c0, (hcl _ (by omega)).trans c1', (hcl _ (by omega)).trans c2'⟩, j1, j2⟩
theorem InT.tank {w : World} {v : Value} {cap : Int} {L : List Trip} (h : InT w v cap L) (hz : ∀ t ∈ L, vZ t) {g : Nat} {A0 : Option Addr} {n c : Nat} (hc : Rw.Cel w g [.int .i64 0, .slice A0 n c]) (x y : Value) : InT ((w.setCell ⟨g, 0, none⟩ x).setCell ⟨g, 1, none⟩ y) v cap L := by
  obtain ⟨A, c', e, hl, hr⟩ := h
  exact ⟨A, c', e, hl, Rats.tank hr hz hc x y⟩
theorem ts_vZ {Q : List Rat} (h : ∀ q ∈ Q, fitR q = true) : ∀ t ∈ ts Q, vZ t := fun t ht => Or.inl (ts_valid h t ht)
/-! ### A number that is stored in a row -/
def zR : Raw := (false, (none, 0, 0), (none, 0, 0))
theorem flat_putT : ∀ (X : List Raw) (k : Nat) (r : Raw), k < X.length → (X.set k r).flatMap cR = (((X.flatMap cR).set (k * 3) (.bool r.1)).set (k * 3 + 1) (sl r.2.1)).set (k * 3 + 2) (sl r.2.2)
  | [], k, r, h => by simp at h
  | x :: X, 0, r, _ => by simp
  | x :: X, k + 1, r, h => by
    have ih := flat_putT X k r (by simpa using h)
    rw [List.set_cons_succ, List.flatMap_cons, ih, List.flatMap_cons]
    rw [show (k + 1) * 3 + 2 = (k * 3 + 2) + 1 + 1 + 1 by omega, show (k + 1) * 3 + 1 = (k * 3 + 1) + 1 + 1 + 1 by omega, show (k + 1) * 3 = (k * 3) + 1 + 1 + 1 by omega]
    rfl
/-- The memory behind the store. -/
abbrev putT (w : World) (g k : Nat) (r : Raw) : World := ((w.setCell ⟨g, k * 3, none⟩ (.bool r.1)).setCell ⟨g, k * 3 + 1, none⟩ (sl r.2.1)).setCell ⟨g, k * 3 + 2, none⟩ (sl r.2.2)
section
variable {w : World} {B g n c : Nat} {X : List Raw}
theorem rowT_put (hr : Rw.Row cR 3 TR B w (.slice (some ⟨g, 0, none⟩) n c) X) (hn : n = X.length) (k : Nat) (r : Raw) (hk : k < X.length) : Rw.Row cR 3 TR B (putT w g k r) (.slice (some ⟨g, 0, none⟩) n c) (X.set k r) := by
  subst hn
  have h1 := own_set (w := w) (t := TR) (B := B) (s := 3) (m := X.length) (xs := X.flatMap cR) hr (k * 3) (.bool r.1)
  have h2 := own_set h1 (k * 3 + 1) (sl r.2.1)
  have h3 := own_set h2 (k * 3 + 2) (sl r.2.2)
  unfold Rw.Row
  rw [List.length_set, flat_putT X k r hk]
  exact h3
theorem rowT_cells (hr : Rw.Row cR 3 TR B w (.slice (some ⟨g, 0, none⟩) n c) X) {k : Nat} {z : Raw} (hz : X[k]? = some z) : w.cell? ⟨g, k * 3, none⟩ = some (.bool z.1) ∧ w.cell? ⟨g, k * 3 + 1, none⟩ = some (sl z.2.1) ∧ w.cell? ⟨g, k * 3 + 2, none⟩ = some (sl z.2.2) :=
  ⟨hr.cell cR_len hz (j := 0) rfl, hr.cell cR_len hz (j := 1) rfl, hr.cell cR_len hz (j := 2) rfl⟩
theorem rowT_kep (hr : Rw.Row cR 3 TR B w (.slice (some ⟨g, 0, none⟩) n c) X) {k : Nat} (hk : k < X.length) (r : Raw) : Kep w (putT w g k r) := by
  obtain ⟨z, hz⟩ := get_lt hk
  obtain ⟨c0, c1, c2⟩ := rowT_cells hr hz
  have k0 := Kep.set c0 (fun z e => by cases e) (.bool r.1)
  have c1' : (w.setCell ⟨g, k * 3, none⟩ (.bool r.1)).cell? ⟨g, k * 3 + 1, none⟩ = some (sl z.2.1) := (World.cell?_setCell_other w _ _ _ (fun e => by have h := congrArg Addr.off e; dsimp only at h; omega)).trans c1
  have k1 := Kep.set c1' (fun z e => by cases e) (sl r.2.1)
  have c2' : ((w.setCell ⟨g, k * 3, none⟩ (.bool r.1)).setCell ⟨g, k * 3 + 1, none⟩ (sl r.2.1)).cell? ⟨g, k * 3 + 2, none⟩ = some (sl z.2.2) := (World.cell?_setCell_other _ _ _ _ (fun e => by have h := congrArg Addr.off e; dsimp only at h; omega)).trans ((World.cell?_setCell_other w _ _ _ (fun e => by have h := congrArg Addr.off e; dsimp only at h; omega)).trans c2)
  exact (k0.trans k1).trans (Kep.set c2' (fun z e => by cases e) (sl r.2.2))
theorem putT_off (w : World) (g k : Nat) (r : Raw) : Rw.Off (fun y => y = g) w (putT w g k r) :=
  (((Rw.Off.refl (fun y => y = g) w).set (p := ⟨g, k * 3, none⟩) (Or.inl rfl) _).set (p := ⟨g, k * 3 + 1, none⟩) (Or.inl rfl) _).set (p := ⟨g, k * 3 + 2, none⟩) (Or.inl rfl) _
theorem rowT_frozen (hr : Rw.Row cR 3 TR B w (.slice (some ⟨g, 0, none⟩) n c) X) (hn : n = X.length) (k : Nat) : w.frozen? ⟨g, k * 3, none⟩ = false ∧ w.frozen? ⟨g, k * 3 + 1, none⟩ = false ∧ w.frozen? ⟨g, k * 3 + 2, none⟩ = false := ⟨hr.warm hn _, hr.warm hn _, hr.warm hn _⟩
end
theorem made_raws (n : Nat) : (madeCells #[.bool false, .slice none 0 0, .slice none 0 0] (n * 3)).toList = (List.replicate n zR).flatMap cR := by
  apply List.ext_getElem?
  intro j
  by_cases hj : j < n * 3
  · have hk : (List.replicate n zR)[j / 3]? = some zR := by rw [List.getElem?_replicate, if_pos (by omega)]
    have hm : j % 3 = 0 ∨ j % 3 = 1 ∨ j % 3 = 2 := by omega
    have e : j = j / 3 * 3 + j % 3 := by omega
    have hr : (madeCells #[.bool false, .slice none 0 0, .slice none 0 0] (n * 3)).toList[j]? = (cR zR)[j % 3]? := by
      unfold madeCells
      rcases hm with hm | hm | hm <;> simp [hj, hm, zR]
    rw [hr]
    rcases hm with hm | hm | hm
    · rw [e, flat_at cR_len hk (j := j % 3) (u := .bool false) (by rw [hm]; rfl), ← e, hm]; rfl
    · rw [e, flat_at cR_len hk (j := j % 3) (u := .slice none 0 0) (by rw [hm]; rfl), ← e, hm]; rfl
    · rw [e, flat_at cR_len hk (j := j % 3) (u := .slice none 0 0) (by rw [hm]; rfl), ← e, hm]; rfl
  · rw [List.getElem?_eq_none (by simp [madeCells]; omega), List.getElem?_eq_none (by rw [flat_len cR_len, List.length_replicate]; omega)]
theorem tk_make (n : Nat) (hn : n ≤ 5000) (W : World) :
    (Instr.makeSlice 22 (.int .i64 (n : Int)) (.int .i64 (n : Int))).run Tryz.prog W = .ok (.slice (some ⟨W.heap.size, 0, none⟩) n n) (W.alloc (.cells (madeCells #[.bool false, .slice none 0 0, .slice none 0 0] (n * 3)) 33)) := by
  obtain ⟨i, hi, hz, hs, hb⟩ := info_parts info_r
  have h := run_make (P := Tryz.prog) (w := W) 22 33 i _ Tryz.underlying22 hi hz .i64 .i64 (n : Int) (n : Int) (by omega) (by omega) (by rw [hb]; omega) (by omega)
  rw [hs, Int.toNat_natCast] at h
  exact h
theorem rowT_made (W : World) (n : Nat) (hn : n ≤ 5000) : Rw.Row cR 3 TR W.heap.size (W.alloc (.cells (madeCells #[.bool false, .slice none 0 0, .slice none 0 0] (n * 3)) 33)) (.slice (some ⟨W.heap.size, 0, none⟩) n n) (List.replicate n zR) := by
  have h := World.ownsRow_lit (base := W.heap.size) (e := TR) (size := 3) W (madeCells #[.bool false, .slice none 0 0, .slice none 0 0] (n * 3)) n (Nat.le_refl _) (by unfold maxLen; omega) (by rw [size_madeCells])
  unfold Rw.Row
  rw [List.length_replicate, ← made_raws]
  exact h
/-- A row that is filled from its begin. -/
theorem fill_set {R : List Raw} {n k : Nat} (r : Raw) (h : R.length = k) (hk : k < n) : (R ++ List.replicate (n - k) zR).set k r = (R ++ [r]) ++ List.replicate (n - (k + 1)) zR := by
  obtain ⟨m, rfl⟩ : ∃ m, n = k + 1 + m := ⟨n - (k + 1), by omega⟩
  rw [show k + 1 + m - k = m + 1 by omega, show k + 1 + m - (k + 1) = m by omega, List.replicate_succ, List.set_append_right _ _ (by omega), show k - R.length = 0 by omega, List.set_cons_zero, List.append_assoc]; rfl
theorem fill_len {R : List Raw} {n k : Nat} (h : R.length = k) (hk : k ≤ n) : (R ++ List.replicate (n - k) zR).length = n := by
  rw [List.length_append, List.length_replicate, h]; omega
theorem fill_rats {w : World} {B g n k : Nat} {R : List Raw} {L : List Trip} (hr : Rw.Row cR 3 TR B w (.slice (some ⟨g, 0, none⟩) n n) (R ++ List.replicate (n - k) zR)) (hi : Ins w R L) (hk : R.length = k) (hn : k = n) : Rats w (some ⟨g, 0, none⟩) L ∧ n = L.length := by
  subst hn
  rw [Nat.sub_self, List.replicate_zero, List.append_nil] at hr
  exact row_rats hr hi hk.symm
end Go.Proofs.YtgmlccjjhmhgbaaGreat.Tank
